/- What Find returns. -/
import Derived.Test.YtkdammmikmljmaaPf
import Derived.Test.YtkdammmikmljmaaRev
import Derived.OwnWalk
namespace Go.Proofs.Ytkdammmikmljmaa
open Go.RowKit
set_option linter.unusedVariables false

/-- What Find answers. -/
def finr (A B : Int) (l : List Int) (a b : Cel) (n0 : Nat) (w' : World) (v : Value) (D E : Int) : Prop :=
  (E ≠ 0 ∧ rerr A B l a b E ∧ D = 0 ∧ v = .slice none 0 0) ∨
  (E = 0 ∧ ∃ (W H : Nat) (far : List Int) (R : List Cel) (g cap : Nat), good A B l a b W H far ∧ 0 ≤ pa far (ixc W b) ∧ D = pa far (ixc W b) ∧ Trl W H l far b R ∧ R.length ≤ 2401 ∧ v = .slice (some ⟨g, 0, none⟩) R.length cap ∧ minec n0 w' v R.reverse)
theorem aho_step {W H : Nat} {l far : List Int} {S : Nat → Prop} {b c d : Cel} {R : List Cel} {k : Nat} {t : Bool} (hs : Sol W H l S far) (h : Trl W H l far b R) (hk : k < R.length) (hc : R[k] = c) (ha : aho W H l far c d t) : t = decide (k + 1 < R.length) ∧ (R[k + 1]? = none ∨ R[k + 1]? = some d) := by
  subst hc
  by_cases hk1 : k + 1 < R.length
  · have hn := (trl_next h hk1).2
    rcases ha with ⟨rfl, h1⟩ | ⟨rfl, h1⟩
    · exact ⟨by simp [hk1], .inr (by rw [List.getElem?_eq_getElem hk1, ahd_one hn h1])⟩
    · exact (ahd_nah hn h1).elim
  · have h0 := trl_last h (k := k) (by omega)
    have hn := sol_nah hs (trl_at h hk).1 h0
    rcases ha with ⟨rfl, h1⟩ | ⟨rfl, h1⟩
    · exact (ahd_nah h1 hn).elim
    · exact ⟨by simp [hk1], .inl (List.getElem?_eq_none (by omega))⟩
theorem minec_one (w : World) (x y : Int) : minec w.heap.size (w.alloc (.cells #[.int .i64 x, .int .i64 y] 26)) (.slice (some ⟨w.heap.size, 0, none⟩) 1 1) [⟨x, y⟩] :=
  ⟨by simp [flat2, cl2], .inr ⟨w.heap.size, 1, #[.int .i64 x, .int .i64 y], rfl, Nat.le_refl _, World.alloc_heap_new w _, Nat.le_refl _, by decide, by simp, by simp [flat2, cl2]⟩⟩
theorem minec_mono {B B' : Nat} {w : World} {v : Value} {L : List Cel} (h : minec B w v L) (hB : B' ≤ B) : minec B' w v L := ⟨h.1, by
  rcases h.2 with h0 | ⟨g', cap, cur, hv, hb, hr⟩
  · exact .inl h0
  · exact .inr ⟨g', cap, cur, hv, Nat.le_trans hB hb, hr⟩⟩
/-- How Find stands behind k cells: the way v, the next cell in box C. -/
def fst4 (w2 wr : World) (R : List Cel) (v : Value) (C k : Nat) : Prop :=
  Below w2.heap.size w2 wr ∧ minec w2.heap.size wr v (R.take k) ∧ (∃ x y, wr.heap[C]? = some (.cells #[.int .i64 x, .int .i64 y] 26) ∧ (R[k]? = none ∨ R[k]? = some ⟨x, y⟩)) ∧ w2.heap.size ≤ C ∧ v.ownBlock ≠ some C
/-- One cell more is laid behind the way, and copied into a box of its own. -/
theorem fst4_more {w2 wr : World} {R : List Cel} {v : Value} {C k : Nat} {x y : Int} (h : fst4 w2 wr R v C k) (hk : k < R.length) (hR : R.length ≤ 4000) (hx : R[k]? = some ⟨x, y⟩) :
    ∃ v' w7, (Builtin.append_ #[27, 27] 27 #[v, .slice (some ⟨wr.heap.size, 0, none⟩) 1 1]).run Try.prog (wr.alloc (.cells #[.int .i64 x, .int .i64 y] 26)) = .ok v' w7 ∧ Below w2.heap.size w2 w7 ∧ minec w2.heap.size w7 v' (R.take (k + 1)) ∧ w7.cell? ⟨C, 0, none⟩ = some (.int .i64 x) ∧ w7.cell? ⟨C, 1, none⟩ = some (.int .i64 y) ∧ (∀ q, v'.ownBlock = some q → w2.heap.size ≤ q ∧ q < w7.heap.size) ∧ w2.heap.size ≤ w7.heap.size := by
  obtain ⟨h1, h2, ⟨x', y', h3, h4⟩, h5, h6⟩ := h
  have hxy : R[k]? = some ⟨x', y'⟩ := by
    rcases h4 with h4 | h4
    · rw [h4] at hx; cases hx
    · exact h4
  rw [hx] at hxy
  obtain ⟨rfl, rfl⟩ := (Cel.mk.injEq _ _ _ _).mp (Option.some.inj hxy)
  have hC : C < wr.heap.size := by
    rcases Nat.lt_or_ge C wr.heap.size with hlt | hge
    · exact hlt
    · rw [Array.getElem?_eq_none hge] at h3; cases h3
  have hb := alloc_below wr (.cells #[.int .i64 x, .int .i64 y] 26)
  obtain ⟨v', w7, hrun, hm, hg⟩ := run_more (d := 1) (m := 1) 27 (minec_below h2 hb) (crow_one wr x y) rfl (fun h => by cases h) (by rw [List.length_take]; omega) (by have := h1.size; simp; omega)
  have hm' : minec w2.heap.size w7 v' (R.take (k + 1)) := by
    have e : R.take (k + 1) = R.take k ++ [⟨x, y⟩] := by rw [List.take_add_one, hx]; rfl
    rw [e]; exact hm
  have h7 : w7.heap[C]? = some (.cells #[.int .i64 x, .int .i64 y] 26) := by
    rw [hg.block C (by rw [World.size_alloc]; omega) (fun e => h6 e.symm), hb.block C hC]; exact h3
  refine ⟨v', w7, hrun, ?_, hm', by simp [World.cell?, h7], by simp [World.cell?, h7], World.ownsRow.lt hm', ?_⟩
  · exact (h1.alloc h1.size _).grown hg (by have := h1.size; simp; omega) (fun q hq => (World.ownsRow.lt h2 q hq).1)
  · have h8 := hg.size; have h9 := h1.size; rw [World.size_alloc] at h8; omega
theorem fst4_box {w2 w7 w9 w10 : World} {R : List Cel} {v' : Value} {C k : Nat} {x y : Int} (hb7 : Below w2.heap.size w2 w7) (hm : minec w2.heap.size w7 v' (R.take (k + 1))) (hC : w7.heap.size = C) (hb9 : Below w7.heap.size w7 w9) (h9 : w9.heap[C]? = some (.cells #[.int .i64 x, .int .i64 y] 26)) (d : Cel) (hd : R[k + 1]? = none ∨ R[k + 1]? = some d)
    (hw10 : w10 = (w9.setCell ⟨C, 0, none⟩ (.int .i64 d.x)).setCell ⟨C, 1, none⟩ (.int .i64 d.y)) : fst4 w2 w10 R v' C (k + 1) := by
  have hs7 := hb7.size
  have hv := World.ownsRow.lt hm
  have h10 : w10.heap[C]? = some (.cells #[.int .i64 d.x, .int .i64 d.y] 26) := by
    have h1 := heap_setCell_same w9 C 0 _ 26 (.int .i64 d.x) h9
    have h2 := heap_setCell_same _ C 1 _ 26 (.int .i64 d.y) h1
    rw [hw10, h2]; rfl
  have hb10 : Below w7.heap.size w9 w10 := by
    rw [hw10]
    exact ((Below.refl _ w9).setCell (p := ⟨C, 0, none⟩) (by show w7.heap.size ≤ C; omega) _).setCell (p := ⟨C, 1, none⟩) (by show w7.heap.size ≤ C; omega) _
  have hbb : Below w7.heap.size w7 w10 := hb9.trans hb10
  exact ⟨hb7.trans (hbb.mono hs7), minec_below hm hbb, ⟨d.x, d.y, h10, hd⟩, by omega, fun e => by have := (hv C e).2; omega⟩
theorem fst4_start {w2 w3 w4 : World} {R : List Cel} {v : Value} {C : Nat} (hb3 : Below w2.heap.size w2 w3) (hm : minec w2.heap.size w3 v (R.take 1)) (hb4 : Below w3.heap.size w3 w4) (hC : w4.heap.size = C) (d : Cel) (hd : R[0 + 1]? = none ∨ R[0 + 1]? = some d) : fst4 w2 (w4.alloc (.cells #[.int .i64 d.x, .int .i64 d.y] 26)) R v C 1 := by
  have hv := World.ownsRow.lt hm
  have h4 := hb4.size
  have h3 := hb3.size
  have hb := alloc_below w4 (.cells #[.int .i64 d.x, .int .i64 d.y] 26)
  refine ⟨(hb3.trans (hb4.mono h3)).trans (hb.mono (by omega)), minec_below (minec_below hm hb4) hb, ⟨d.x, d.y, by rw [← hC]; exact World.alloc_heap_new w4 _, hd⟩, by omega, fun e => by have := (hv C e).2; omega⟩
/-- How long a row is. -/
def lnv : Value → Nat
  | .slice _ n _ => n
  | _ => 0
set_option maxRecDepth 20000 in
set_option maxHeartbeats 4000000 in
theorem Find_any (A B : Int) (p : Option Addr) (n c : Nat) (l : List Int) (ax ay bx by_ : Int) (w : World) (hr : row vi w p l) (hn : l.length = n) (hm : n ≤ 9223372036854775807) :
    Calls Try.prog 7 #[.agg #[.int .i64 A, .int .i64 B, .slice p n c], .agg #[.int .i64 ax, .int .i64 ay], .agg #[.int .i64 bx, .int .i64 by_]] w fun e w' => (∃ v D E, e = .returned (.tuple #[v, .int .i64 D, .int .i64 E]) ∧ finr A B l ⟨ax, ay⟩ ⟨bx, by_⟩ w.heap.size w' v D E) ∧ Below w.heap.size w w' := by
  obtain ⟨F, hF⟩ : ∃ F, w.heap.size = F := ⟨_, rfl⟩
  obtain ⟨w0, hw0⟩ : ∃ w0, ((w.alloc (.cells #[.int .i64 A, .int .i64 B, .slice p n c] 24)).alloc (.cells #[.int .i64 ax, .int .i64 ay] 26)).alloc (.cells #[.int .i64 bx, .int .i64 by_] 26) = w0 := ⟨_, rfl⟩
  have hB0 : Below w.heap.size w w0 := by rw [← hw0]; exact ((alloc_below w _).alloc (by simp) _).alloc (by simp; omega) _
  have HB0 : Hid (Below w.heap.size w w0) := hB0
  have HBX : Hid (∀ V, Below w0.heap.size w0 V → V.cell? ⟨F, 0, none⟩ = some (.int .i64 A) ∧ V.cell? ⟨F, 1, none⟩ = some (.int .i64 B) ∧ V.cell? ⟨F, 2, none⟩ = some (.slice p n c) ∧ V.cell? ⟨F + 1, 0, none⟩ = some (.int .i64 ax) ∧ V.cell? ⟨F + 1, 1, none⟩ = some (.int .i64 ay) ∧ V.cell? ⟨F + 2, 0, none⟩ = some (.int .i64 bx) ∧ V.cell? ⟨F + 2, 1, none⟩ = some (.int .i64 by_)) := fun V hV => boxf hF hw0 hV
  obtain ⟨z0, z1, z2, z3, z4, z5, z6⟩ := HBX.out w0 (Below.refl _ _)
  have HR : Hid (row vi w0 p l) := row_below hr hB0
  have HN : Hid (l.length = n) := hn
  have HF : Hid (w.heap.size = F) := hF
  clear hr hn hB0
  go_enter Try.func7, Try.ntmps7
  go_wp2_with fail
  refine (reachOf_any A B p n c l ax ay bx by_ w0 HR.out HN.out hm).mono ?_
  rintro e w1 ⟨hcase, hb1⟩
  clear z0 z1 z2 z3 z4 z5 z6 hw0
  rcases hcase with ⟨E, hE, hrr, rfl⟩ | ⟨W, H, far, g, hgd, hpos, rfl, hfr, rfl⟩
  · have d1 : (E == 0) = false := by simp [hE]
    have HRR : Hid (rerr A B l ⟨ax, ay⟩ ⟨bx, by_⟩ E) := hrr
    have HB2 : Hid (Below w.heap.size w (w1.alloc (.cells #[.int .i64 0, .int .i64 0, .slice none 0 0, .slice none 0 0] 43))) := (HB0.out.trans (hb1.mono HB0.out.size)).alloc (by have := hb1.size; have := HB0.out.size; omega) _
    clear hrr hb1
    go_wp2_with fail
    go_ret3
    exact ⟨⟨_, _, _, rfl, .inl ⟨hE, HRR.out, rfl, rfl⟩⟩, HB2.out⟩
  · obtain ⟨hA, hB, hok, hia, hib, hra, hrb, hsol⟩ := hgd
    subst hA hB
    obtain ⟨X, Y, eb, hX, hY⟩ := hib
    simp only [Cel.mk.injEq] at eb
    obtain ⟨rfl, rfl⟩ := eb
    obtain ⟨I, hI⟩ : ∃ I, Y * W + X = I := ⟨_, rfl⟩
    have HI : Hid (Y * W + X = I) := hI
    have HIC : Hid (ixc W ⟨X, Y⟩ = I) := by unfold Hid; rw [ixc_nat]; exact hI
    have hIl : I < W * H := by rw [← hI]; exact pl_lt hX hY
    have hN : W * H ≤ 1600 := wh_le hok.1 hok.2.1
    obtain ⟨D, hD⟩ : ∃ D, pa far I = D := ⟨_, rfl⟩
    have HD : Hid (pa far I = D) := hD
    have hDb := sol_bd hsol hN I hIl
    have hinb : inf W H ⟨X, Y⟩ := ⟨X, Y, rfl, hX, hY⟩
    obtain ⟨R, hR, hRl⟩ := trl_ex hsol (pa far (ixc W ⟨X, Y⟩)).toNat ⟨X, Y⟩ hinb (by omega)
    have hRl2 : R.length ≤ 2401 := by rw [ixc_nat, hI] at hRl; omega
    have HGD : Hid (good W H l ⟨ax, ay⟩ ⟨X, Y⟩ W H far ∧ 0 ≤ pa far (ixc W ⟨X, Y⟩)) := ⟨⟨rfl, rfl, hok, hia, hinb, hra, hrb, hsol⟩, hpos⟩
    obtain ⟨m, hmR⟩ : ∃ m, R.length = m := ⟨_, rfl⟩
    have HRT : Hid (Trl W H l far ⟨X, Y⟩ R ∧ R.length = m ∧ m ≤ 2401 ∧ 0 < m) := ⟨hR, hmR, by omega, by have := trl_pos hR; omega⟩
    obtain ⟨G, hG⟩ : ∃ G, w1.heap.size = G := ⟨_, rfl⟩
    obtain ⟨w2, hw2⟩ : ∃ w2, w1.alloc (.cells #[.int .i64 (W : Int), .int .i64 (H : Int), .slice p (W * H) c, .slice (some ⟨g, 0, none⟩) (W * H) (W * H)] 43) = w2 := ⟨_, rfl⟩
    have hb2 : Below w1.heap.size w1 w2 := by rw [← hw2]; exact alloc_below _ _
    have hB2 : Below w0.heap.size w0 w2 := hb1.trans (hb2.mono hb1.size)
    have HRL : Hid (row vi w2 p l ∧ row vi w2 (some ⟨g, 0, none⟩) far) := ⟨row_below HR.out hB2, row_below hfr hb2⟩
    have HBG : Hid (∀ V, Below w2.heap.size w2 V → (V.cell? ⟨G, 0, none⟩ = some (.int .i64 (W : Int)) ∧ V.cell? ⟨G, 1, none⟩ = some (.int .i64 (H : Int)) ∧ V.cell? ⟨G, 2, none⟩ = some (.slice p (W * H) c) ∧ V.cell? ⟨G, 3, none⟩ = some (.slice (some ⟨g, 0, none⟩) (W * H) (W * H))) ∧ V.cell? ⟨F + 2, 0, none⟩ = some (.int .i64 (X : Int)) ∧ V.cell? ⟨F + 2, 1, none⟩ = some (.int .i64 (Y : Int))) := by
      intro V hV
      refine ⟨cells4 hG (by rw [hw2]; exact hV), ?_⟩
      obtain ⟨_, _, _, _, _, v5, v6⟩ := HBX.out V (hB2.trans (hV.mono hB2.size))
      exact ⟨v5, v6⟩
    obtain ⟨a, rfl⟩ := row_some HRL.out.1 (by rw [hok.2.2.1]; exact one_le hok.1 hok.2.1)
    -- the call of ahead at a cell of the way
    have HAH : Hid (∀ k (hk : k < R.length) (x y : Int), R[k]? = some ⟨x, y⟩ → ∀ V, Below w2.heap.size w2 V → Calls Try.prog 17 #[.agg #[.int .i64 (W : Int), .int .i64 (H : Int), .slice (some a) (W * H) c, .slice (some ⟨g, 0, none⟩) (W * H) (W * H)], .agg #[.int .i64 x, .int .i64 y]] V fun e w' => (∃ (d : Cel), e = .returned (.tuple #[.agg #[.int .i64 d.x, .int .i64 d.y], .bool (decide (k + 1 < m))]) ∧ (R[k + 1]? = none ∨ R[k + 1]? = some d)) ∧ Below V.heap.size V w') := by
      intro k hk x y hxy V hV
      rw [List.getElem?_eq_getElem hk] at hxy
      have hxy := Option.some.inj hxy
      obtain ⟨h1, h2⟩ := trl_at hR hk
      obtain ⟨x', y', e, hx', hy'⟩ := h1
      rw [e] at hxy
      simp only [Cel.mk.injEq] at hxy
      obtain ⟨rfl, rfl⟩ := hxy
      have hnr : pa l (y' * W + x') ≠ 1 := fun er => by
        rw [e, ixc_nat, hsol.rock _ (pl_lt hx' hy') er] at h2; omega
      refine (ahead_any W H x' y' a c g l far V (row_below HRL.out.1 hV) (row_below HRL.out.2 hV) hok.1 hok.2.1 hok.2.2.1 hok.2.2.2 hsol.len (fun i hi => sol_bd hsol hN i hi) hx' hy' hnr).mono ?_
      rintro e1 w' ⟨⟨d, t, rfl, hd⟩, hb'⟩
      obtain ⟨rfl, h3⟩ := aho_step hsol hR hk e hd
      rw [hmR]
      exact ⟨⟨d, rfl, h3⟩, hb'⟩
    have HSZ : Hid (F + 3 ≤ w2.heap.size ∧ G < w2.heap.size ∧ g < w2.heap.size) := by
      have h1 := cell_lt (HBG.out w2 (Below.refl _ _)).1.1
      have h2 : w0.heap.size ≤ w2.heap.size := hB2.size
      have h3 := cell_lt (HBX.out w0 (Below.refl _ _)).2.2.2.2.2.1
      obtain ⟨b', hb', hc'⟩ := row_at HRL.out.2 (j := I) (by rw [hsol.len]; exact hIl)
      cases hb'
      have h4 := cell_lt hc'
      rw [add_block] at h4
      refine ⟨?_, h1, h4⟩
      have h5 : F + 2 < w0.heap.size := h3
      omega
    have HB2 : Hid (Below w.heap.size w w2) := HB0.out.trans (hB2.mono HB0.out.size)
    have HCS : Hid (∀ V, Below w2.heap.size w2 V → V.cell? ⟨g, I, none⟩ = some (.int .i64 D)) := by
      intro V hV
      obtain ⟨b', hb', hc'⟩ := row_at (row_below HRL.out.2 hV) (j := I) (by rw [hsol.len]; exact hIl)
      cases hb'
      rw [← pa_get far, add_zero_at, hD] at hc'; exact hc'
    clear hok hia hra hrb hsol hpos hfr hb1 hb2 hB2 hI hX hY hD hDb hinb hR hRl hRl2 hmR
    obtain ⟨S, hS⟩ : ∃ S, w2.heap.size = S := ⟨_, rfl⟩
    obtain ⟨w3, hw3⟩ : ∃ w3, w2.alloc (.cells #[.int .i64 (X : Int), .int .i64 (Y : Int)] 26) = w3 := ⟨_, rfl⟩
    have hb3 : Below w2.heap.size w2 w3 := by rw [← hw3]; exact alloc_below _ _
    have hm3 : minec w2.heap.size w3 (.slice (some ⟨S, 0, none⟩) 1 1) [⟨X, Y⟩] := by rw [← hw3, ← hS]; exact minec_one _ _ _
    have HS3 : Hid (Below w2.heap.size w2 w3 ∧ minec w2.heap.size w3 (.slice (some ⟨S, 0, none⟩) 1 1) [⟨X, Y⟩] ∧ S < w3.heap.size) := ⟨hb3, hm3, by rw [← hw3, ← hS]; simp⟩
    obtain ⟨⟨t0, t1, t2, t3⟩, b0, b1⟩ := HBG.out w3 hb3
    obtain ⟨-, c0, c1⟩ := HBG.out w2 (Below.refl _ _)
    clear hb3 hm3
    go_wp2_with fail
    have h0 : R[0]? = some ⟨X, Y⟩ := trl_head HRT.out.1
    refine (HAH.out 0 (trl_pos HRT.out.1) X Y h0 w3 HS3.out.1).mono ?_
    rintro e w4 ⟨⟨d, rfl, hd⟩, hb4⟩
    obtain ⟨C0, hC0⟩ : ∃ C0, w4.heap.size = C0 := ⟨_, rfl⟩
    have H5 : Hid (fst4 w2 (w4.alloc (.cells #[.int .i64 d.x, .int .i64 d.y] 26)) R (.slice (some ⟨S, 0, none⟩) 1 1) C0 1) := by
      refine fst4_start HS3.out.1 ?_ hb4 hC0 d hd
      have e : R.take 1 = [⟨X, Y⟩] := by
        have := h0
        cases R with
        | nil => simp at this
        | cons r R => simp at this; simp [this]
      rw [e]; exact HS3.out.2.1
    obtain ⟨w5, hw5⟩ : ∃ w5, w4.alloc (.cells #[.int .i64 d.x, .int .i64 d.y] 26) = w5 := ⟨_, rfl⟩
    rw [hw5] at H5
    clear hb4 hd h0 t0 t1 t2 t3 b0 b1 c0 c1 hw3 hw2
    go_wp2_with fail
    go_loopw [11, 12, 13] (fun v pc ok wr => ∃ (k g' cap C : Nat), v = .slice (some ⟨g', 0, none⟩) k cap ∧ pc = .pointer (some ⟨C, 0, none⟩) ∧ ok = .bool (decide (k < m)) ∧ 1 ≤ k ∧ k ≤ m ∧ Hid (fst4 w2 wr R (.slice (some ⟨g', 0, none⟩) k cap) C k)) (fun v _ _ _ => m - lnv v)
    case atStart => exact ⟨1, S, 1, C0, rfl, rfl, rfl, by omega, HRT.out.2.2.2, H5⟩
    case round =>
      obtain ⟨k, g', cap, C, rfl, rfl, rfl, hk1, hkm, HS⟩ := hrel
      by_cases hlt : k < m
      · have dk : decide (k < m) = true := by simp [hlt]
        have hkl : k < R.length := by rw [HRT.out.2.1]; exact hlt
        obtain ⟨⟨x, y⟩, hxy⟩ : ∃ q, R[k]? = some q := ⟨_, List.getElem?_eq_getElem hkl⟩
        obtain ⟨v7, w7, hrun, hb7, hm7, q0, q1, hv7, hs7⟩ := fst4_more HS.out hkl (by have := HRT.out; omega) hxy
        have HXY : Hid (R[k]? = some ⟨x, y⟩) := hxy
        obtain ⟨g7, cap7, ev7, hg7, hg7s, hc7⟩ := minec_some hm7 (by rw [List.length_take]; omega)
        have el : (R.take (k + 1)).length = k + 1 := by rw [List.length_take]; omega
        rw [el] at ev7
        subst ev7
        have HM7 : Hid (Below w2.heap.size w2 w7 ∧ minec w2.heap.size w7 (.slice (some ⟨g7, 0, none⟩) (k + 1) cap7) (R.take (k + 1))) := ⟨hb7, hm7⟩
        have HRun : Hid ((Builtin.append_ #[27, 27] 27 #[.slice (some ⟨g', 0, none⟩) k cap, .slice (some ⟨wr.heap.size, 0, none⟩) 1 1]).run Try.prog (wr.alloc (.cells #[.int .i64 x, .int .i64 y] 26)) = .ok (.slice (some ⟨g7, 0, none⟩) (k + 1) cap7) w7) := hrun
        obtain ⟨p0, p1⟩ : wr.cell? ⟨C, 0, none⟩ = some (.int .i64 x) ∧ wr.cell? ⟨C, 1, none⟩ = some (.int .i64 y) := by
          obtain ⟨_, _, ⟨x', y', h3, h4⟩, _, _⟩ := HS.out
          rcases h4 with h4 | h4
          · rw [h4] at hxy; cases hxy
          · rw [hxy] at h4
            simp only [Option.some.injEq, Cel.mk.injEq] at h4
            obtain ⟨rfl, rfl⟩ := h4
            exact ⟨by simp [World.cell?, h3], by simp [World.cell?, h3]⟩
        obtain ⟨C7, hC7⟩ : ∃ C7, w7.heap.size = C7 := ⟨_, rfl⟩
        obtain ⟨w8, hw8⟩ : ∃ w8, w7.alloc (.cells #[.int .i64 x, .int .i64 y] 26) = w8 := ⟨_, rfl⟩
        have hb8 : Below w7.heap.size w7 w8 := by rw [← hw8]; exact alloc_below _ _
        have hB8 : Below w2.heap.size w2 w8 := hb7.trans (hb8.mono hs7)
        have h8 : w8.heap[C7]? = some (.cells #[.int .i64 x, .int .i64 y] 26) := by rw [← hw8, ← hC7]; exact World.alloc_heap_new w7 _
        obtain ⟨r0, r1, -, -⟩ := free2 h8
        obtain ⟨⟨t0, t1, t2, t3⟩, -, -⟩ := HBG.out w8 hB8
        have H8 : Hid (w8.heap[C7]? = some (.cells #[.int .i64 x, .int .i64 y] 26) ∧ Below w7.heap.size w7 w8 ∧ Below w2.heap.size w2 w8 ∧ C7 < w8.heap.size) := ⟨h8, hb8, hB8, by rw [← hw8, ← hC7]; simp⟩
        clear hxy hrun hb7 hm7 hv7 hs7 hb8 hB8 h8 hg7 hg7s hc7 el
        go_wp2_with (at_builtin; refine wpList_append_run rfl _ _ 27 rfl (.slice (some ⟨g', 0, none⟩) k cap) (.slice (some ⟨wr.heap.size, 0, none⟩) 1 1) rfl rfl HRun.out ?_)
        go_wp2_with fail
        refine (HAH.out k hkl x y HXY.out w8 H8.out.2.2.1).mono ?_
        rintro e w9 ⟨⟨d', rfl, hd'⟩, hb9⟩
        have h9 : w9.heap[C7]? = some (.cells #[.int .i64 x, .int .i64 y] 26) := by rw [hb9.block C7 H8.out.2.2.2]; exact H8.out.1
        obtain ⟨s0, s1, s2, s3⟩ := free2 h9
        have HN9 : Hid (fst4 w2 ((w9.setCell ⟨C7, 0, none⟩ (.int .i64 d'.x)).setCell ⟨C7, 1, none⟩ (.int .i64 d'.y)) R (.slice (some ⟨g7, 0, none⟩) (k + 1) cap7) C7 (k + 1)) :=
          fst4_box HM7.out.1 HM7.out.2 hC7 (H8.out.2.1.trans (hb9.mono H8.out.2.1.size)) h9 d' hd' rfl
        clear hd' hb9 h9 hw8 p0 p1 q0 q1 r0 r1 t0 t1 t2 t3
        go_wp2_with fail
        go_roundw
        case rel => exact ⟨k + 1, g7, cap7, C7, rfl, rfl, rfl, by omega, by omega, HN9⟩
        case measure => simp [lnv]; omega
      · obtain rfl : k = m := by omega
        have dk : decide (k < k) = false := by simp
        have hmk : minec w2.heap.size wr (.slice (some ⟨g', 0, none⟩) k cap) R := by
          have := HS.out.2.1
          rwa [List.take_of_length_le (by rw [HRT.out.2.1]; exact Nat.le_refl _)] at this
        have hgg := (World.ownsRow.lt hmk g' rfl).1
        have HMK : Hid (minec w2.heap.size wr (.slice (some ⟨g', 0, none⟩) k cap) R) := hmk
        clear hmk
        go_wp2_with fail
        refine (Reverse_any w2.heap.size g' k cap R wr HMK.out HRT.out.2.1 hk1 (by have := HRT.out; omega)).mono ?_
        rintro e w11 ⟨rfl, hm11, he11⟩
        have hB11 : Below w2.heap.size w2 w11 := HS.out.1.trans (he11.below HS.out.1.size (fun q hq e => by omega))
        have H11 : Hid (Below w2.heap.size w2 w11 ∧ minec w2.heap.size w11 (.slice (some ⟨g', 0, none⟩) k cap) R.reverse) := ⟨hB11, hm11⟩
        obtain ⟨⟨t0, t1, t2, t3⟩, b0, b1⟩ := HBG.out w11 hB11
        clear hm11 he11 hB11 hgg
        go_wp2_with fail
        refine (cost_any W H X Y I _ g D w11 HI (by omega) hIl (HCS.out w11 H11.out.1)).mono ?_
        rintro e w12 ⟨rfl, hb12⟩
        have H12 : Hid (Below w.heap.size w w12 ∧ minec w.heap.size w12 (.slice (some ⟨g', 0, none⟩) k cap) R.reverse) :=
          ⟨HB2.out.trans ((H11.out.1.trans (hb12.mono H11.out.1.size)).mono HB2.out.size), minec_mono (minec_below H11.out.2 hb12) HB2.out.size⟩
        clear hb12 t0 t1 t2 t3 b0 b1
        go_wp2_with fail
        go_ret3
        refine ⟨⟨_, _, _, rfl, .inr ⟨rfl, W, H, far, R, g', cap, HGD.out.1, HGD.out.2, by rw [HIC.out, HD.out], HRT.out.1, by have := HRT.out; omega, by rw [HRT.out.2.1]; rfl, H12.out.2⟩⟩, H12.out.1⟩
end Go.Proofs.Ytkdammmikmljmaa
