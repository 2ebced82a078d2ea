/- What reachOf and Far return. -/
import Derived.Test.YtkdammmikmljmaaPc
namespace Go.Proofs.Ytkdammmikmljmaa
open Go.RowKit
set_option linter.unusedVariables false

/-- Four stores into a box of four. -/
theorem set4 {W' : World} {R : Nat} {x y z u x' y' z' u' : Value} {t : TypeId} (hR : W'.heap[R]? = some (.cells #[x, y, z, u] t)) (V : World) (hV : V = (((W'.setCell ⟨R, 0, none⟩ x').setCell ⟨R, 1, none⟩ y').setCell ⟨R, 2, none⟩ z').setCell ⟨R, 3, none⟩ u') :
    V.cell? ⟨R, 0, none⟩ = some x' ∧ V.cell? ⟨R, 1, none⟩ = some y' ∧ V.cell? ⟨R, 2, none⟩ = some z' ∧ V.cell? ⟨R, 3, none⟩ = some u' ∧ V.heap[R]? = some (.cells #[x', y', z', u'] t) ∧ Ex (fun k => k = R) W' V := by
  have hRV : V.heap[R]? = some (.cells #[x', y', z', u'] t) := by
    have h1 := heap_setCell_same W' R 0 _ t x' hR
    have h2 := heap_setCell_same _ R 1 _ t y' h1
    have h3 := heap_setCell_same _ R 2 _ t z' h2
    have h4 := heap_setCell_same _ R 3 _ t u' h3
    rw [hV, h4]; rfl
  refine ⟨by simp [World.cell?, hRV], by simp [World.cell?, hRV], by simp [World.cell?, hRV], by simp [World.cell?, hRV], hRV, ?_⟩
  rw [hV]
  have E1 := fun (V : World) (p : Addr) (u : Value) (hp : p.block = R) => Ex.set (S := fun k => k = R) V p hp u
  exact (((E1 W' _ _ rfl).trans (E1 _ _ _ rfl) (fun _ _ e => e)).trans (E1 _ _ _ rfl) (fun _ _ e => e)).trans (E1 _ _ _ rfl) (fun _ _ e => e)
theorem free4 {W' : World} {R : Nat} {x y z u : Value} {t : TypeId} (hR : W'.heap[R]? = some (.cells #[x, y, z, u] t)) : W'.cell? ⟨R, 0, none⟩ = some x ∧ W'.cell? ⟨R, 1, none⟩ = some y ∧ W'.cell? ⟨R, 2, none⟩ = some z ∧ W'.cell? ⟨R, 3, none⟩ = some u ∧ W'.frozen? ⟨R, 0, none⟩ = false ∧ W'.frozen? ⟨R, 1, none⟩ = false ∧ W'.frozen? ⟨R, 2, none⟩ = false ∧ W'.frozen? ⟨R, 3, none⟩ = false := by simp [World.cell?, World.frozen?, hR]
theorem boxr {w w0 V : World} {a b c d e f g x y z u : Value} {t t2 t3 t4 : TypeId} {F : Nat} (hF : w.heap.size = F) (hw : (((w.alloc (.cells #[a, b, c] t)).alloc (.cells #[d, e] t2)).alloc (.cells #[f, g] t3)).alloc (.cells #[x, y, z, u] t4) = w0) (hb : Below w0.heap.size w0 V) :
    (V.cell? ⟨F, 0, none⟩ = some a ∧ V.cell? ⟨F, 1, none⟩ = some b ∧ V.cell? ⟨F, 2, none⟩ = some c ∧ V.cell? ⟨F + 1, 0, none⟩ = some d ∧ V.cell? ⟨F + 1, 1, none⟩ = some e ∧ V.cell? ⟨F + 1 + 1, 0, none⟩ = some f ∧ V.cell? ⟨F + 1 + 1, 1, none⟩ = some g) ∧ V.heap[F + 1 + 1 + 1]? = some (.cells #[x, y, z, u] t4) ∧ F + 4 ≤ V.heap.size := by
  have hs : w0.heap.size = F + 4 := by rw [← hw, ← hF]; simp
  refine ⟨?_, ?_, by have := hb.size; omega⟩
  · subst hw hF
    refine ⟨?_, ?_, ?_, ?_, ?_, ?_, ?_⟩
    all_goals
      rw [hb.cell (by simp <;> omega)]
      simp [go_sem]
  · rw [hb.block (F + 1 + 1 + 1) (by omega), ← hw]
    have := World.alloc_heap_new (((w.alloc (.cells #[a, b, c] t)).alloc (.cells #[d, e] t2)).alloc (.cells #[f, g] t3)) (.cells #[x, y, z, u] t4)
    rw [World.size_alloc, World.size_alloc, World.size_alloc, hF] at this
    exact this
/-- reachOf has found nothing but an error. -/
def rno (A B : Int) (l : List Int) (a b : Cel) (e : Ending) : Prop := ∃ E, E ≠ 0 ∧ rerr A B l a b E ∧ e = .returned (.tuple #[.agg #[.int .i64 0, .int .i64 0, .slice none 0 0, .slice none 0 0], .int .i64 E])
/-- reachOf has found how far it is. -/
def ryes (A B : Int) (p : Option Addr) (n c : Nat) (l : List Int) (a b : Cel) (w' : World) (e : Ending) : Prop :=
  ∃ (W H : Nat) (far : List Int) (g : Nat), good A B l a b W H far ∧ 0 ≤ pa far (ixc W b) ∧ n = W * H ∧ row vi w' (some ⟨g, 0, none⟩) far ∧ e = .returned (.tuple #[.agg #[.int .i64 (W : Int), .int .i64 (H : Int), .slice p (W * H) c, .slice (some ⟨g, 0, none⟩) (W * H) (W * H)], .int .i64 0])
set_option maxRecDepth 20000 in
set_option maxHeartbeats 2000000 in
theorem reachOf_any (A B : Int) (p : Option Addr) (n c : Nat) (l : List Int) (ax ay bx by_ : Int) (w : World) (hr : row vi w p l) (hn : l.length = n) (hm : n ≤ 9223372036854775807) :
    Calls Try.prog 16 #[.agg #[.int .i64 A, .int .i64 B, .slice p n c], .agg #[.int .i64 ax, .int .i64 ay], .agg #[.int .i64 bx, .int .i64 by_]] w fun e w' => (rno A B l ⟨ax, ay⟩ ⟨bx, by_⟩ e ∨ ryes A B p n c l ⟨ax, ay⟩ ⟨bx, by_⟩ w' e) ∧ Below w.heap.size w w' := by
  obtain ⟨F, hF⟩ : ∃ F, w.heap.size = F := ⟨_, rfl⟩
  obtain ⟨w0, hw0⟩ : ∃ w0, (((w.alloc (.cells #[.int .i64 A, .int .i64 B, .slice p n c] 24)).alloc (.cells #[.int .i64 ax, .int .i64 ay] 26)).alloc (.cells #[.int .i64 bx, .int .i64 by_] 26)).alloc (.cells #[.int .i64 0, .int .i64 0, .slice none 0 0, .slice none 0 0] 43) = w0 := ⟨_, rfl⟩
  have hB0 : Below w.heap.size w w0 := by rw [← hw0]; exact (((alloc_below w _).alloc (by simp) _).alloc (by simp; omega) _).alloc (by simp; omega) _
  have HB0 : Hid (Below w.heap.size w w0) := hB0
  have HBX : Hid (∀ V, Below w0.heap.size w0 V → (V.cell? ⟨F, 0, none⟩ = some (.int .i64 A) ∧ V.cell? ⟨F, 1, none⟩ = some (.int .i64 B) ∧ V.cell? ⟨F, 2, none⟩ = some (.slice p n c) ∧ V.cell? ⟨F + 1, 0, none⟩ = some (.int .i64 ax) ∧ V.cell? ⟨F + 1, 1, none⟩ = some (.int .i64 ay) ∧ V.cell? ⟨F + 1 + 1, 0, none⟩ = some (.int .i64 bx) ∧ V.cell? ⟨F + 1 + 1, 1, none⟩ = some (.int .i64 by_)) ∧ V.heap[F + 1 + 1 + 1]? = some (.cells #[.int .i64 0, .int .i64 0, .slice none 0 0, .slice none 0 0] 43) ∧ F + 4 ≤ V.heap.size) := fun V hV => boxr hF hw0 hV
  obtain ⟨⟨z0, z1, z2, z3, z4, z5, z6⟩, -, -⟩ := HBX.out w0 (Below.refl _ _)
  have HR : Hid (row vi w0 p l) := row_below hr hB0
  have HN : Hid (l.length = n) := hn
  have HF : Hid (w.heap.size = F) := hF
  obtain ⟨E, hE⟩ : ∃ x, per A B l ⟨ax, ay⟩ ⟨bx, by_⟩ = x := ⟨_, rfl⟩
  have HE : Hid (per A B l ⟨ax, ay⟩ ⟨bx, by_⟩ = E) := hE
  clear hr hn hB0 hE
  go_enter Try.func16, Try.ntmps16
  go_wp2_with fail
  refine (pcheck_any A B p n c l ax ay bx by_ E w0 HR.out HN.out hm HE).mono ?_
  rintro e w1 ⟨rfl, hb1⟩
  have HB1 : Hid (Below w0.heap.size w0 w1) := hb1
  obtain ⟨⟨y0, y1, y2, y3, y4, y5, y6⟩, hR1, hsz1⟩ := HBX.out w1 hb1
  have HR1 : Hid (w1.heap[F + 1 + 1 + 1]? = some (.cells #[.int .i64 0, .int .i64 0, .slice none 0 0, .slice none 0 0] 43)) := hR1
  clear hb1 z0 z1 z2 z3 z4 z5 z6 hw0
  by_cases h1 : E = 0
  · subst h1
    obtain ⟨W, H, hA, hB, hok, hia, hib, hra, hrb⟩ := per_zero HE.out
    subst hA hB
    have hnl : n = W * H := by rw [← HN.out]; exact hok.2.2.1
    subst hnl
    have hrl : row vi w1 p l := row_below HR.out HB1.out
    obtain ⟨a, rfl⟩ := row_some hrl (by rw [hok.2.2.1]; exact one_le hok.1 hok.2.1)
    have HRL : Hid (row vi w1 (some a) l) := hrl
    have HG : Hid (okf W H l ∧ inf W H ⟨ax, ay⟩ ∧ inf W H ⟨bx, by_⟩ ∧ pa l (ixc W ⟨ax, ay⟩) ≠ 1 ∧ pa l (ixc W ⟨bx, by_⟩) ≠ 1) := ⟨hok, hia, hib, hra, hrb⟩
    obtain ⟨X, Y, eb, hX, hY⟩ := hib
    simp only [Cel.mk.injEq] at eb
    obtain ⟨rfl, rfl⟩ := eb
    obtain ⟨I, hI⟩ : ∃ I, Y * W + X = I := ⟨_, rfl⟩
    have HI : Hid (Y * W + X = I) := hI
    have HIC : Hid (ixc W ⟨X, Y⟩ = I) := by unfold Hid; rw [ixc_nat]; exact hI
    have hIl : I < W * H := by rw [← hI]; exact pl_lt hX hY
    have hN : W * H ≤ 1600 := wh_le hok.1 hok.2.1
    clear hok hia hra hrb hrl hR1 hI hX hY
    go_wp2_with fail
    obtain ⟨w2, hw2⟩ : ∃ w2, w1.alloc (.cells #[.int .i64 ax, .int .i64 ay] 26) = w2 := ⟨_, rfl⟩
    have hb2 : Below w1.heap.size w1 w2 := by rw [← hw2]; exact alloc_below _ _
    have hc2 : crow w2 (some ⟨w1.heap.size, 0, none⟩) [⟨ax, ay⟩] := by rw [← hw2]; exact crow_one _ _ _
    rw [hw2]
    refine (From_ok W H a (some ⟨w1.heap.size, 0, none⟩) c 1 1 l [⟨ax, ay⟩] w2 (row_below HRL.out hb2) HG.out.1.1 HG.out.1.2.1 HG.out.1.2.2.1 HG.out.1.2.2.2 hc2 rfl (by decide) (cke_one HG.out.2.1 HG.out.2.2.2.1) (by
      obtain ⟨b', hb', hc'⟩ := row_at (row_below HRL.out hb2) (j := 0) (by rw [HG.out.1.2.2.1]; exact one_le HG.out.1.1 HG.out.1.2.1)
      cases hb'
      have := cell_lt hc'; rwa [add_block] at this)).mono ?_
    rintro e w3 ⟨g, far, rfl, hm3, hs3, hb3⟩
    have hB3 : Below w0.heap.size w0 w3 := (HB1.out.trans (hb2.mono HB1.out.size)).trans (hb3.mono (by have := HB1.out.size; have := hb2.size; omega))
    have HB3 : Hid (Below w0.heap.size w0 w3) := hB3
    have HFR : Hid (row vi w3 (some ⟨g, 0, none⟩) far) := mine_row hm3
    have HS : Hid (Sol W H l (fst_ W [⟨ax, ay⟩]) far) := hs3
    have HRG : Hid (F + 4 ≤ g) := by
      have h1 := (World.ownsRow.lt hm3 g rfl).1
      have h2 := (HBX.out w1 HB1.out).2.2
      have h3 := hb2.size
      unfold Hid; omega
    obtain ⟨⟨x0, x1, x2, x3, x4, x5, x6⟩, -, -⟩ := HBX.out w3 hB3
    clear hm3 hs3 hb3 hB3 hb2 hc2 hw2 y0 y1 y2 y3 y4 y5 y6
    obtain ⟨G, hG⟩ : ∃ G, w3.heap.size = G := ⟨_, rfl⟩
    obtain ⟨w4, hw4⟩ : ∃ w4, w3.alloc (.cells #[.int .i64 (W : Int), .int .i64 (H : Int), .slice (some a) (W * H) c, .slice (some ⟨g, 0, none⟩) (W * H) (W * H)] 43) = w4 := ⟨_, rfl⟩
    have hb4 : Below w3.heap.size w3 w4 := by rw [← hw4]; exact alloc_below _ _
    have hB4 : Below w0.heap.size w0 w4 := HB3.out.trans (hb4.mono HB3.out.size)
    obtain ⟨D, hD⟩ : ∃ D, pa far I = D := ⟨_, rfl⟩
    have HD : Hid (pa far I = D) := hD
    have hcell : w4.cell? ⟨g, I, none⟩ = some (.int .i64 D) := by
      obtain ⟨b', hb', hc'⟩ := row_at (row_below HFR.out hb4) (j := I) (by rw [HS.out.len]; exact hIl)
      cases hb'
      rw [← pa_get far, add_zero_at, hD] at hc'; exact hc'
    obtain ⟨⟨v0, v1, v2, v3, v4, v5, v6⟩, -, -⟩ := HBX.out w4 hB4
    have hG4 : w4.heap[G]? = some (.cells #[.int .i64 (W : Int), .int .i64 (H : Int), .slice (some a) (W * H) c, .slice (some ⟨g, 0, none⟩) (W * H) (W * H)] 43) := by rw [← hw4, ← hG]; exact World.alloc_heap_new w3 _
    have HG4 : Hid (w4.heap[G]? = some (.cells #[.int .i64 (W : Int), .int .i64 (H : Int), .slice (some a) (W * H) c, .slice (some ⟨g, 0, none⟩) (W * H) (W * H)] 43)) := hG4
    have HB4 : Hid (Below w0.heap.size w0 w4 ∧ Below w3.heap.size w3 w4 ∧ w4.cell? ⟨g, I, none⟩ = some (.int .i64 D) ∧ G < w4.heap.size) := ⟨hB4, hb4, hcell, by rw [← hw4, ← hG]; simp⟩
    obtain ⟨t0, t1, t2, t3, -, -, -, -⟩ := free4 hG4
    clear hb4 hB4 hcell hG4 hD
    go_wp2_with fail
    refine (cost_any W H X Y I _ g D w4 HI (by omega) hIl HB4.out.2.2.1).mono ?_
    rintro e w5 ⟨rfl, hb5⟩
    have hB5 : Below w0.heap.size w0 w5 := HB4.out.1.trans (hb5.mono HB4.out.1.size)
    have HB5 : Hid (Below w0.heap.size w0 w5) := hB5
    have HFR5 : Hid (row vi w5 (some ⟨g, 0, none⟩) far) := row_below (row_below HFR.out HB4.out.2.1) hb5
    have hG5 : w5.heap[G]? = some (.cells #[.int .i64 (W : Int), .int .i64 (H : Int), .slice (some a) (W * H) c, .slice (some ⟨g, 0, none⟩) (W * H) (W * H)] 43) := by
      rw [hb5.block G HB4.out.2.2.2]; exact HG4.out
    clear t0 t1 t2 t3
    obtain ⟨t0, t1, t2, t3, -, -, -, -⟩ := free4 hG5
    obtain ⟨-, hR5, hsz5⟩ := HBX.out w5 hB5
    have HR5 : Hid (w5.heap[F + 1 + 1 + 1]? = some (.cells #[.int .i64 0, .int .i64 0, .slice none 0 0, .slice none 0 0] 43)) := hR5
    obtain ⟨r0, r1, r2, r3, r4, r5, r6, r7⟩ := free4 hR5
    have HGD : Hid (good W H l ⟨ax, ay⟩ ⟨X, Y⟩ W H far) := ⟨rfl, rfl, HG.out.1, HG.out.2.1, HG.out.2.2.1, HG.out.2.2.2.1, HG.out.2.2.2.2, HS.out⟩
    have HFG : Hid (F + 4 ≤ G) := by unfold Hid; have := (HBX.out w3 HB3.out).2.2; omega
    clear hb5 hB5 hw4 hG5 hR5 x0 x1 x2 x3 x4 x5 x6 v0 v1 v2 v3 v4 v5 v6
    by_cases hneg : D < 0
    · go_wp2_with fail
      obtain ⟨V, hV⟩ : ∃ V, (((w5.setCell ⟨F + 1 + 1 + 1, 0, none⟩ (.int .i64 0)).setCell ⟨F + 1 + 1 + 1, 1, none⟩ (.int .i64 0)).setCell ⟨F + 1 + 1 + 1, 2, none⟩ (.slice none 0 0)).setCell ⟨F + 1 + 1 + 1, 3, none⟩ (.slice none 0 0) = V := ⟨_, rfl⟩
      rw [hV]
      have k2 := set4 HR5.out V hV.symm
      refine ⟨by simp, .tuple #[.agg #[.int .i64 0, .int .i64 0, .slice none 0 0, .slice none 0 0], .int .i64 6], ?_, .inl ⟨6, by decide, .inr ⟨rfl, W, H, far, HGD.out, by rw [HIC.out, HD.out]; exact hneg⟩, rfl⟩, ?_⟩
      · rw [results_cell_tmp rfl]
        simp [go_sem, k2.1, k2.2.1, k2.2.2.1, k2.2.2.2.1]
      · exact (HB0.out.trans (HB5.out.mono HB0.out.size)).trans (k2.2.2.2.2.2.below (by have := HF.out; omega) (fun k hk e => by have := HF.out; omega))
    · go_wp2_with fail
      obtain ⟨V, hV⟩ : ∃ V, (((w5.setCell ⟨F + 1 + 1 + 1, 0, none⟩ (.int .i64 (W : Int))).setCell ⟨F + 1 + 1 + 1, 1, none⟩ (.int .i64 (H : Int))).setCell ⟨F + 1 + 1 + 1, 2, none⟩ (.slice (some a) (W * H) c)).setCell ⟨F + 1 + 1 + 1, 3, none⟩ (.slice (some ⟨g, 0, none⟩) (W * H) (W * H)) = V := ⟨_, rfl⟩
      rw [hV]
      have k2 := set4 HR5.out V hV.symm
      refine ⟨by simp, .tuple #[.agg #[.int .i64 (W : Int), .int .i64 (H : Int), .slice (some a) (W * H) c, .slice (some ⟨g, 0, none⟩) (W * H) (W * H)], .int .i64 0], ?_, .inr ⟨W, H, far, g, HGD.out, by rw [HIC.out, HD.out]; omega, rfl, ?_, rfl⟩, ?_⟩
      · rw [results_cell_tmp rfl]
        simp [go_sem, k2.1, k2.2.1, k2.2.2.1, k2.2.2.2.1]
      · exact row_ex HFR5.out k2.2.2.2.2.2 (fun e => by have h1 := HRG.out; have h2 : g = F + 1 + 1 + 1 := e; omega)
      · exact (HB0.out.trans (HB5.out.mono HB0.out.size)).trans (k2.2.2.2.2.2.below (by have := HF.out; omega) (fun k hk e => by have := HF.out; omega))
  · have d1 : (E == 0) = false := by simp [h1]
    obtain ⟨r0, r1, r2, r3, r4, r5, r6, r7⟩ := free4 hR1
    clear hR1
    go_wp2_with fail
    obtain ⟨V, hV⟩ : ∃ V, (((w1.setCell ⟨F + 1 + 1 + 1, 0, none⟩ (.int .i64 0)).setCell ⟨F + 1 + 1 + 1, 1, none⟩ (.int .i64 0)).setCell ⟨F + 1 + 1 + 1, 2, none⟩ (.slice none 0 0)).setCell ⟨F + 1 + 1 + 1, 3, none⟩ (.slice none 0 0) = V := ⟨_, rfl⟩
    rw [hV]
    have k2 := set4 HR1.out V hV.symm
    refine ⟨by simp, .tuple #[.agg #[.int .i64 0, .int .i64 0, .slice none 0 0, .slice none 0 0], .int .i64 E], ?_, .inl ⟨E, h1, .inl ⟨by rw [HE.out]; exact h1, HE.out.symm⟩, rfl⟩, ?_⟩
    · rw [results_cell_tmp rfl]
      simp [go_sem, k2.1, k2.2.1, k2.2.2.1, k2.2.2.2.1]
    · exact (HB0.out.trans (HB1.out.mono HB0.out.size)).trans (k2.2.2.2.2.2.below (by have := HF.out; omega) (fun k hk e => by have := HF.out; omega))
end Go.Proofs.Ytkdammmikmljmaa
