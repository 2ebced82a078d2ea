/- What isTroop returns. -/
import Derived.Test.YtgebfpncapfaoaaWq
import Derived.Test.YtgebfpncapfaoaaWst
namespace Go.Proofs.Ytgebfpncapfaoaa
open Go.RowKit
set_option linter.unusedVariables false

theorem mostLoad_at (k M : Int) (w : World) (h : Hid (loadOf k = M)) : Calls Try.prog 89 #[.int .i64 k] w fun e w' => e = .returned (.int .i64 M) ∧ w' = w := by
  have := mostLoad_any k w
  rw [← h.out]; exact this
theorem Kind_no (k : Int) (w : World) (h1 : k ≠ 1) (h2 : k ≠ 2) : Calls Try.prog 88 #[.int .i64 k] w fun e w' => e = .returned (.tuple #[.agg #[.int .i64 0, .int .i64 0, .int .i64 0, .int .i64 0], .int .i64 1]) ∧ Below w.heap.size w w' := by
  have := Kind_any k w
  have e1 : kdv k = .agg #[.int .i64 0, .int .i64 0, .int .i64 0, .int .i64 0] := by unfold kdv; simp [h1, h2]
  have e2 : kde k = 1 := by unfold kde; simp [h1, h2]
  rw [e1, e2] at this; exact this
theorem Kind_yes (k : Int) (h : k = 1 ∨ k = 2) : ∃ r g q : Int, ∀ (w : World), Calls Try.prog 88 #[.int .i64 k] w fun e w' => e = .returned (.tuple #[.agg #[.int .i64 (lifeOf k), .int .i64 r, .int .i64 g, .int .i64 q], .int .i64 0]) ∧ Below w.heap.size w w' := by
  rcases h with rfl | rfl
  · exact ⟨1, 1, 5, fun w => Kind_any 1 w⟩
  · exact ⟨2, 4, 12, fun w => Kind_any 2 w⟩
/-- The cells of a world's box and of a troop's at a call's head. -/
theorem box97 {w w0 V : World} {a b c d e f g h i : Value} {a' b' c' d' e' f' g' : Value} {t t' : TypeId} {F : Nat} (hF : w.heap.size = F) (hw : (w.alloc (.cells #[a, b, c, d, e, f, g, h, i] t)).alloc (.cells #[a', b', c', d', e', f', g'] t') = w0) (hb : Below w0.heap.size w0 V) :
    c9 V F a b c d e f g h i ∧ (V.cell? ⟨F + 1, 0, none⟩ = some a' ∧ V.cell? ⟨F + 1, 1, none⟩ = some b' ∧ V.cell? ⟨F + 1, 2, none⟩ = some c' ∧ V.cell? ⟨F + 1, 3, none⟩ = some d' ∧ V.cell? ⟨F + 1, 4, none⟩ = some e' ∧ V.cell? ⟨F + 1, 5, none⟩ = some f' ∧ V.cell? ⟨F + 1, 6, none⟩ = some g') := by
  have hb1 : Below (w.alloc (.cells #[a, b, c, d, e, f, g, h, i] t)).heap.size (w.alloc (.cells #[a, b, c, d, e, f, g, h, i] t)) V := by
    have : Below (w.alloc (.cells #[a, b, c, d, e, f, g, h, i] t)).heap.size (w.alloc (.cells #[a, b, c, d, e, f, g, h, i] t)) w0 := by rw [← hw]; exact alloc_below _ _
    exact this.trans (hb.mono this.size)
  exact ⟨boxw hF rfl hb1, boxt (by rw [World.size_alloc, hF]) hw hb⟩
/-- A box of four. -/
theorem box4_ {w w0 V : World} {a b c d : Value} {t : TypeId} {F : Nat} (hF : w.heap.size = F) (hw : w.alloc (.cells #[a, b, c, d] t) = w0) (hb : Below w0.heap.size w0 V) :
    V.cell? ⟨F, 0, none⟩ = some a ∧ V.cell? ⟨F, 1, none⟩ = some b ∧ V.cell? ⟨F, 2, none⟩ = some c ∧ V.cell? ⟨F, 3, none⟩ = some d := by
  subst hw hF
  refine ⟨?_, ?_, ?_, ?_⟩
  all_goals
    rw [hb.cell (by simp)]
    simp [go_sem]
set_option maxRecDepth 20000 in
set_option maxHeartbeats 4000000 in
theorem isTroop_at (s : Wld) (t : Trp) (W H : Nat) (b : Bool) (w : World) (h : s.fit w) (hA : s.A = W) (hB : s.B = H) (hf : okf W H s.l) (hnb : s.nb ≤ 8) (hb : Hid (b = true ↔ T1r W H s.l s.nb t)) :
    Calls Try.prog 83 #[s.val, tv t] w fun e w' => e = .returned (.bool b) ∧ Below w.heap.size w w' := by
  obtain ⟨A, B, p, n, c, l, pb, nb, cb, lb, ps, ns, cs, ls, pm, nm, cm, lm, pt, nt, ct, lt, N, T⟩ := s
  obtain ⟨ti, to_, tk, tx, ty, tf, td⟩ := t
  have hr := h.r
  have hn := h.h
  clear h
  unfold Wld.val tv
  dsimp only at *
  subst hA hB
  have HF : Hid (okf W H l) := hf
  have HN : Hid (l.length = n) := hn
  obtain ⟨F, hF⟩ : ∃ F, w.heap.size = F := ⟨_, rfl⟩
  obtain ⟨w0, hw0⟩ : ∃ w0, (w.alloc (.cells #[.int .i64 (W : Int), .int .i64 (H : Int), .slice p n c, .slice pb nb cb, .slice ps ns cs, .slice pm nm cm, .slice pt nt ct, .int .i64 N, .int .i64 T] 41)).alloc (.cells #[.int .i64 ti, .int .i64 to_, .int .i64 tk, .int .i64 tx, .int .i64 ty, .int .i64 tf, .int .i64 td] 71) = w0 := ⟨_, rfl⟩
  have HBX : Hid (∀ V, Below w0.heap.size w0 V → c9 V F (.int .i64 (W : Int)) (.int .i64 (H : Int)) (.slice p n c) (.slice pb nb cb) (.slice ps ns cs) (.slice pm nm cm) (.slice pt nt ct) (.int .i64 N) (.int .i64 T) ∧ (V.cell? ⟨F + 1, 0, none⟩ = some (.int .i64 ti) ∧ V.cell? ⟨F + 1, 1, none⟩ = some (.int .i64 to_) ∧ V.cell? ⟨F + 1, 2, none⟩ = some (.int .i64 tk) ∧ V.cell? ⟨F + 1, 3, none⟩ = some (.int .i64 tx) ∧ V.cell? ⟨F + 1, 4, none⟩ = some (.int .i64 ty) ∧ V.cell? ⟨F + 1, 5, none⟩ = some (.int .i64 tf) ∧ V.cell? ⟨F + 1, 6, none⟩ = some (.int .i64 td))) := fun V hV => box97 hF hw0 hV
  have hB0 : Below w.heap.size w w0 := by rw [← hw0]; exact (alloc_below w _).alloc (by simp) _
  have HB0 : Hid (Below w.heap.size w w0) := hB0
  have HR : Hid (row vi w0 p l) := row_below hr hB0
  obtain ⟨⟨z0, z1, z2, z3, z4, z5, z6, z7, z8⟩, y0, y1, y2, y3, y4, y5, y6⟩ := HBX.out w0 (Below.refl _ _)
  clear hr hB0 hn hf
  by_cases hk : tk = 1 ∨ tk = 2
  rotate_left
  · have eb : b = false := bool_no hb.out (fun h => hk h.1)
    subst eb
    have k1 : tk ≠ 1 := fun e => hk (.inl e)
    have k2 : tk ≠ 2 := fun e => hk (.inr e)
    clear hk
    go_enter Try.func83, Try.ntmps83
    go_wp2_with fail
    refine (Kind_no tk w0 k1 k2).mono ?_
    rintro e w1 ⟨rfl, hb1⟩
    have HB1 : Hid (Below w0.heap.size w0 w1) := hb1
    clear hb1
    go_wp2_with fail
    go_ret
    exact ⟨rfl, HB0.out.trans (((HB1.out.alloc HB1.out.size _)).mono HB0.out.size)⟩
  obtain ⟨r, g, q, hK⟩ := Kind_yes tk hk
  obtain ⟨L, hL⟩ : ∃ L, lifeOf tk = L := ⟨_, rfl⟩
  obtain ⟨M, hM⟩ : ∃ M, loadOf tk = M := ⟨_, rfl⟩
  rw [hL] at hK
  have HL : Hid (lifeOf tk = L) := hL
  have HM : Hid (loadOf tk = M) := hM
  have HK : Hid (∀ (w : World), Calls Try.prog 88 #[.int .i64 tk] w fun e w' => e = .returned (.tuple #[.agg #[.int .i64 L, .int .i64 r, .int .i64 g, .int .i64 q], .int .i64 0]) ∧ Below w.heap.size w w') := hK
  have HKK : Hid (tk = 1 ∨ tk = 2) := hk
  obtain ⟨o, ho⟩ : ∃ o, opn W H l tx ty = o := ⟨_, rfl⟩
  have HO : Hid (opn W H l tx ty = o) := ho
  have HBT : Hid (0 ≤ to_ → to_ < nb → o = true → 1 ≤ tf → tf ≤ L → 0 ≤ td → td ≤ M → b = true) := fun h1 h2 h3 h4 h5 h6 h7 => hb.out.2 ⟨HKK.out, h1, h2, by dsimp only; rw [HO.out]; exact h3, h4, by dsimp only; rw [HL.out]; exact h5, h6, by dsimp only; rw [HM.out]; exact h7⟩
  have HBN : Hid (¬ (0 ≤ to_ ∧ to_ < nb ∧ o = true ∧ 1 ≤ tf ∧ tf ≤ L ∧ 0 ≤ td ∧ td ≤ M) → b = false) := fun h => bool_no hb.out (fun hp => h ⟨hp.2.1, hp.2.2.1, by rw [← HO.out]; exact hp.2.2.2.1, hp.2.2.2.2.1, by rw [← HL.out]; exact hp.2.2.2.2.2.1, hp.2.2.2.2.2.2.1, by rw [← HM.out]; exact hp.2.2.2.2.2.2.2⟩)
  clear hk hK hL hM ho hb
  go_enter Try.func83, Try.ntmps83
  go_wp2_with fail
  refine (HK.out w0).mono ?_
  rintro e w1 ⟨rfl, hb1⟩
  obtain ⟨G, hG⟩ : ∃ G, w1.heap.size = G := ⟨_, rfl⟩
  obtain ⟨w2, hw2⟩ : ∃ w2, w1.alloc (.cells #[.int .i64 L, .int .i64 r, .int .i64 g, .int .i64 q] 95) = w2 := ⟨_, rfl⟩
  have hb2 : Below w0.heap.size w0 w2 := by rw [← hw2]; exact hb1.alloc hb1.size _
  have HB2 : Hid (Below w0.heap.size w0 w2) := hb2
  have HBG : Hid (∀ V, Below w2.heap.size w2 V → V.cell? ⟨G, 0, none⟩ = some (.int .i64 L)) := fun V hV => (box4_ hG hw2 hV).1
  clear z0 z1 z2 z3 z4 z5 z6 z7 z8 y0 y1 y2 y3 y4 y5 y6 hw0 hb1
  obtain ⟨⟨z0, z1, z2, z3, -, -, -, -, -⟩, y0, y1, y2, y3, y4, y5, y6⟩ := HBX.out w2 hb2
  have g0 := HBG.out w2 (Below.refl _ _)
  have HOP := isOpen_at W H p n c l tx ty o w2 (row_below HR.out hb2) HF.out.1 HF.out.2.1 HN.out (by rw [← HN.out]; exact HF.out.2.2.1) HO
  have HOP2 : Hid (Calls Try.prog 81 #[.agg #[.int .i64 (W : Int), .int .i64 (H : Int), .slice p n c], .agg #[.int .i64 tx, .int .i64 ty]] w2 fun e w' => e = .returned (.bool o) ∧ Below w2.heap.size w2 w') := HOP
  clear hb2 HOP
  by_cases o1 : to_ < 0
  · have HB3 : Hid (Below w0.heap.size w0 w2) := HB2.out
    have HBF : Hid (b = false) := HBN.out (fun h => by omega)
    go_wp2_with fail
    go_ret
    exact ⟨by rw [HBF.out]; rfl, HB0.out.trans (HB3.out.mono HB0.out.size)⟩
  by_cases o2 : (nb : Int) ≤ to_
  · have HB3 : Hid (Below w0.heap.size w0 w2) := HB2.out
    have HBF : Hid (b = false) := HBN.out (fun h => by omega)
    go_wp2_with fail
    go_ret
    exact ⟨by rw [HBF.out]; rfl, HB0.out.trans (HB3.out.mono HB0.out.size)⟩
  have o3 : to_ < nb := by omega
  have o4 : 0 ≤ to_ := by omega
  go_wp2_with fail
  refine HOP2.out.mono ?_
  rintro e w3 ⟨rfl, hb3⟩
  have HB3 : Hid (Below w0.heap.size w0 w3) := HB2.out.trans (hb3.mono HB2.out.size)
  clear z0 z1 z2 z3 y0 y1 y2 y3 y4 y5 y6 g0 hw2
  cases o with
  | false =>
    have HBF : Hid (b = false) := HBN.out (fun h => by simp at h)
    go_wp2_with fail
    go_ret
    exact ⟨by rw [HBF.out]; rfl, HB0.out.trans (HB3.out.mono HB0.out.size)⟩
  | true =>
    obtain ⟨-, y0, y1, y2, y3, y4, y5, y6⟩ := HBX.out w3 HB3.out
    have g0 := HBG.out w3 hb3
    clear hb3 HOP2
    by_cases f1 : 1 ≤ tf
    rotate_left
    · have d1 : decide (1 ≤ tf) = false := by simp; omega
      have HBF : Hid (b = false) := HBN.out (fun h => by omega)
      go_wp2_with fail
      go_quiet ((go_at_call 89; exact Calls.quiet_of_same (mostLoad_at tk M _ HM)))
      go_wp2_with fail
      go_ret
      exact ⟨by rw [HBF.out]; rfl, below_drewN (HB0.out.trans (HB3.out.mono HB0.out.size)) _⟩
    have d1 : decide (1 ≤ tf) = true := by simp; omega
    by_cases f2 : tf ≤ L
    rotate_left
    · have d2 : decide (tf ≤ L) = false := by simp; omega
      have HBF : Hid (b = false) := HBN.out (fun h => by omega)
      go_wp2_with fail
      go_quiet ((go_at_call 89; exact Calls.quiet_of_same (mostLoad_at tk M _ HM)))
      go_wp2_with fail
      go_ret
      exact ⟨by rw [HBF.out]; rfl, below_drewN (HB0.out.trans (HB3.out.mono HB0.out.size)) _⟩
    have d2 : decide (tf ≤ L) = true := by simp; omega
    by_cases f3 : 0 ≤ td
    rotate_left
    · have d3 : decide (0 ≤ td) = false := by simp; omega
      have HBF : Hid (b = false) := HBN.out (fun h => by omega)
      go_wp2_with fail
      go_quiet ((go_at_call 89; exact Calls.quiet_of_same (mostLoad_at tk M _ HM)))
      go_wp2_with fail
      go_ret
      exact ⟨by rw [HBF.out]; rfl, below_drewN (HB0.out.trans (HB3.out.mono HB0.out.size)) _⟩
    have d3 : decide (0 ≤ td) = true := by simp; omega
    by_cases f4 : td ≤ M
    rotate_left
    · have d4 : decide (td ≤ M) = false := by simp; omega
      have HBF : Hid (b = false) := HBN.out (fun h => by omega)
      go_wp2_with fail
      go_quiet ((go_at_call 89; exact Calls.quiet_of_same (mostLoad_at tk M _ HM)))
      go_wp2_with fail
      go_ret
      exact ⟨by rw [HBF.out]; first | rfl | (simp; done) | (simp; omega), below_drewN (HB0.out.trans (HB3.out.mono HB0.out.size)) _⟩
    have d4 : decide (td ≤ M) = true := by simp; omega
    have HBF : Hid (b = true) := HBT.out o4 o3 rfl f1 f2 f3 f4
    go_wp2_with fail
    go_quiet ((go_at_call 89; exact Calls.quiet_of_same (mostLoad_at tk M _ HM)))
    go_wp2_with fail
    go_ret
    exact ⟨by rw [HBF.out]; first | rfl | (simp; done) | (simp; omega), below_drewN (HB0.out.trans (HB3.out.mono HB0.out.size)) _⟩
end Go.Proofs.Ytgebfpncapfaoaa
