/- What Far returns. -/
import Derived.Test.YtkdammmikmljmaaPr
namespace Go.Proofs.Ytkdammmikmljmaa
open Go.RowKit
set_option linter.unusedVariables false

/-- What Far answers. -/
def farr (A B : Int) (l : List Int) (a b : Cel) (D E : Int) : Prop := (E ≠ 0 ∧ rerr A B l a b E ∧ D = 0) ∨ (E = 0 ∧ ∃ (W H : Nat) (far : List Int), good A B l a b W H far ∧ 0 ≤ pa far (ixc W b) ∧ D = pa far (ixc W b))
/-- A box of four behind three others, later. -/
theorem cells4 {w V : World} {x y z u : Value} {t : TypeId} {G : Nat} (hG : w.heap.size = G) (hb : Below (w.alloc (.cells #[x, y, z, u] t)).heap.size (w.alloc (.cells #[x, y, z, u] t)) V) :
    V.cell? ⟨G, 0, none⟩ = some x ∧ V.cell? ⟨G, 1, none⟩ = some y ∧ V.cell? ⟨G, 2, none⟩ = some z ∧ V.cell? ⟨G, 3, none⟩ = some u := by
  subst hG
  refine ⟨?_, ?_, ?_, ?_⟩
  all_goals
    rw [hb.cell (by simp <;> omega)]
    simp [go_sem]
set_option maxRecDepth 20000 in
set_option maxHeartbeats 2000000 in
theorem Far_any (A B : Int) (p : Option Addr) (n c : Nat) (l : List Int) (ax ay bx by_ : Int) (w : World) (hr : row vi w p l) (hn : l.length = n) (hm : n ≤ 9223372036854775807) :
    Calls Try.prog 9 #[.agg #[.int .i64 A, .int .i64 B, .slice p n c], .agg #[.int .i64 ax, .int .i64 ay], .agg #[.int .i64 bx, .int .i64 by_]] w fun e w' => (∃ D E, e = .returned (.tuple #[.int .i64 D, .int .i64 E]) ∧ farr A B l ⟨ax, ay⟩ ⟨bx, by_⟩ D E) ∧ Below w.heap.size w w' := by
  obtain ⟨F, hF⟩ : ∃ F, w.heap.size = F := ⟨_, rfl⟩
  obtain ⟨w0, hw0⟩ : ∃ w0, ((w.alloc (.cells #[.int .i64 A, .int .i64 B, .slice p n c] 24)).alloc (.cells #[.int .i64 ax, .int .i64 ay] 26)).alloc (.cells #[.int .i64 bx, .int .i64 by_] 26) = w0 := ⟨_, rfl⟩
  have hB0 : Below w.heap.size w w0 := by rw [← hw0]; exact ((alloc_below w _).alloc (by simp) _).alloc (by simp; omega) _
  have HB0 : Hid (Below w.heap.size w w0) := hB0
  have HBX : Hid (∀ V, Below w0.heap.size w0 V → V.cell? ⟨F, 0, none⟩ = some (.int .i64 A) ∧ V.cell? ⟨F, 1, none⟩ = some (.int .i64 B) ∧ V.cell? ⟨F, 2, none⟩ = some (.slice p n c) ∧ V.cell? ⟨F + 1, 0, none⟩ = some (.int .i64 ax) ∧ V.cell? ⟨F + 1, 1, none⟩ = some (.int .i64 ay) ∧ V.cell? ⟨F + 2, 0, none⟩ = some (.int .i64 bx) ∧ V.cell? ⟨F + 2, 1, none⟩ = some (.int .i64 by_)) := fun V hV => boxf hF hw0 hV
  obtain ⟨z0, z1, z2, z3, z4, z5, z6⟩ := HBX.out w0 (Below.refl _ _)
  have HR : Hid (row vi w0 p l) := row_below hr hB0
  have HN : Hid (l.length = n) := hn
  have HF : Hid (w.heap.size = F) := hF
  clear hr hn hB0
  go_enter Try.func9, Try.ntmps9
  go_wp2_with fail
  refine (reachOf_any A B p n c l ax ay bx by_ w0 HR.out HN.out hm).mono ?_
  rintro e w1 ⟨hcase, hb1⟩
  clear z0 z1 z2 z3 z4 z5 z6 hw0
  rcases hcase with ⟨E, hE, hrr, rfl⟩ | ⟨W, H, far, g, hgd, hpos, rfl, hfr, rfl⟩
  · have d1 : (E == 0) = false := by simp [hE]
    have HRR : Hid (rerr A B l ⟨ax, ay⟩ ⟨bx, by_⟩ E) := hrr
    have HB2 : Hid (Below w.heap.size w (w1.alloc (.cells #[.int .i64 0, .int .i64 0, .slice none 0 0, .slice none 0 0] 43))) := (HB0.out.trans (hb1.mono HB0.out.size)).alloc (by have := hb1.size; have := HB0.out.size; omega) _
    clear hrr hb1
    go_wp2_with fail
    go_ret2
    exact ⟨⟨_, _, rfl, .inl ⟨hE, HRR.out, rfl⟩⟩, HB2.out⟩
  · obtain ⟨hA, hB, hok, hia, hib, hra, hrb, hsol⟩ := hgd
    subst hA hB
    obtain ⟨X, Y, eb, hX, hY⟩ := hib
    simp only [Cel.mk.injEq] at eb
    obtain ⟨rfl, rfl⟩ := eb
    obtain ⟨I, hI⟩ : ∃ I, Y * W + X = I := ⟨_, rfl⟩
    have HI : Hid (Y * W + X = I) := hI
    have HIC : Hid (ixc W ⟨X, Y⟩ = I) := by unfold Hid; rw [ixc_nat]; exact hI
    have hIl : I < W * H := by rw [← hI]; exact pl_lt hX hY
    have hN : W * H ≤ 1600 := wh_le hok.1 hok.2.1
    have HGD : Hid (good W H l ⟨ax, ay⟩ ⟨X, Y⟩ W H far ∧ 0 ≤ pa far (ixc W ⟨X, Y⟩)) := ⟨⟨rfl, rfl, hok, hia, ⟨X, Y, rfl, hX, hY⟩, hra, hrb, hsol⟩, hpos⟩
    obtain ⟨D, hD⟩ : ∃ D, pa far I = D := ⟨_, rfl⟩
    have HD : Hid (pa far I = D) := hD
    obtain ⟨G, hG⟩ : ∃ G, w1.heap.size = G := ⟨_, rfl⟩
    obtain ⟨w2, hw2⟩ : ∃ w2, w1.alloc (.cells #[.int .i64 (W : Int), .int .i64 (H : Int), .slice p (W * H) c, .slice (some ⟨g, 0, none⟩) (W * H) (W * H)] 43) = w2 := ⟨_, rfl⟩
    have hb2 : Below w1.heap.size w1 w2 := by rw [← hw2]; exact alloc_below _ _
    have hB2 : Below w0.heap.size w0 w2 := hb1.trans (hb2.mono hb1.size)
    have hcell : w2.cell? ⟨g, I, none⟩ = some (.int .i64 D) := by
      obtain ⟨b', hb', hc'⟩ := row_at (row_below hfr hb2) (j := I) (by rw [hsol.len]; exact hIl)
      cases hb'
      rw [← pa_get far, add_zero_at, hD] at hc'; exact hc'
    obtain ⟨v0, v1, v2, v3, v4, v5, v6⟩ := HBX.out w2 hB2
    obtain ⟨t0, t1, t2, t3⟩ := cells4 (V := w2) hG (by rw [hw2]; exact Below.refl _ _)
    have HB2 : Hid (Below w.heap.size w w2 ∧ w2.cell? ⟨g, I, none⟩ = some (.int .i64 D)) := ⟨HB0.out.trans (hB2.mono HB0.out.size), hcell⟩
    clear hok hia hra hrb hsol hpos hfr hb1 hb2 hB2 hcell hI hX hY hD
    go_wp2_with fail
    refine (cost_any W H X Y I _ g D w2 HI (by omega) hIl HB2.out.2).mono ?_
    rintro e w3 ⟨rfl, hb3⟩
    have HB3 : Hid (Below w.heap.size w w3) := HB2.out.1.trans (hb3.mono HB2.out.1.size)
    clear hb3 v0 v1 v2 v3 v4 v5 v6 t0 t1 t2 t3 hw2
    go_wp2_with fail
    go_ret2
    exact ⟨⟨_, _, rfl, .inr ⟨rfl, W, H, far, HGD.out.1, HGD.out.2, by rw [HIC.out, HD.out]⟩⟩, HB3.out⟩
end Go.Proofs.Ytkdammmikmljmaa
