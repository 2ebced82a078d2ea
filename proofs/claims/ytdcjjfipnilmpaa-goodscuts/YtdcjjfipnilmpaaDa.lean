/- goods.Do: what is told with an error. -/
import Derived.Test.YtdcjjfipnilmpaaGo
import Derived.Test.YtdcjjfipnilmpaaWc
namespace Go.Proofs.Ytdcjjfipnilmpaa
open Go.RowKit
set_option linter.unusedVariables false

set_option maxRecDepth 20000 in
set_option maxHeartbeats 2000000 in
theorem Do_no (s : Wld) (E : Int) (pl : Option Addr) (nl cl : Nat) (w : World) (h : s.fit w) (hm : nl ≤ 9223372036854775807) (hE : Hid (ber s nl E)) (hE0 : E ≠ 0) :
    Calls Try.prog 9 #[s.val, .slice pl nl cl] w fun e w' => e = .returned (.tuple #[wz.val, .slice none 0 0, .int .i64 E]) ∧ Below w.heap.size w w' := by
  obtain ⟨E0, hE1, hE2⟩ := hE.out
  have HC : Hid (∀ V, Below w.heap.size w V → Calls Try.prog 17 #[s.val] V fun e w' => e = .returned (.int .i64 E0) ∧ Below V.heap.size V w') := fun V hV => Check_world s E0 V (Wld.fit_below h hV) hE1
  clear h hE hE1
  obtain ⟨A, B, p, n, c, l, pb, nb, cb, lb, ps, ns, cs, ls, pm, nm, cm, lm, pt, nt, ct, lt, N, T⟩ := s
  unfold Wld.val at *
  dsimp only [wz] at *
  obtain ⟨F, hF⟩ : ∃ F, w.heap.size = F := ⟨_, rfl⟩
  obtain ⟨wa, hwa⟩ : ∃ wa, w.alloc (.cells #[.int .i64 A, .int .i64 B, .slice p n c, .slice pb nb cb, .slice ps ns cs, .slice pm nm cm, .slice pt nt ct, .int .i64 N, .int .i64 T] 28) = wa := ⟨_, rfl⟩
  have xa : bx9 wa F (.int .i64 A) (.int .i64 B) (.slice p n c) (.slice pb nb cb) (.slice ps ns cs) (.slice pm nm cm) (.slice pt nt ct) (.int .i64 N) (.int .i64 T) := by rw [← hwa, ← hF]; exact box9_new _ _ _ _ _ _ _ _ _ _
  have sa : wa.heap.size = F + 1 := by rw [← hwa, World.size_alloc, hF]
  obtain ⟨w0, hw0⟩ : ∃ w0, wa.alloc (.cells #[.int .i64 0, .int .i64 0, .slice none 0 0, .slice none 0 0, .slice none 0 0, .slice none 0 0, .slice none 0 0, .int .i64 0, .int .i64 0] 28) = w0 := ⟨_, rfl⟩
  have ba : Below wa.heap.size wa w0 := by rw [← hw0]; exact alloc_below _ _
  have R0 : bx9 w0 (F + 1) (.int .i64 0) (.int .i64 0) (.slice none 0 0) (.slice none 0 0) (.slice none 0 0) (.slice none 0 0) (.slice none 0 0) (.int .i64 0) (.int .i64 0) := by rw [← hw0, ← sa]; exact box9_new _ _ _ _ _ _ _ _ _ _
  have hB0 : Below w.heap.size w w0 := by
    have h1 : Below w.heap.size w wa := by rw [← hwa]; exact alloc_below _ _
    exact below_call h1 h1.size ba
  have HB0 : Hid (Below w.heap.size w w0) := hB0
  have HF : Hid (w.heap.size = F) := hF
  obtain ⟨z0, z1, z2, z3, z4, z5, z6, z7, z8⟩ := bx9_c9 (bx9_below xa ba)
  have HR0 : Hid (bx9 w0 (F + 1) (.int .i64 0) (.int .i64 0) (.slice none 0 0) (.slice none 0 0) (.slice none 0 0) (.slice none 0 0) (.slice none 0 0) (.int .i64 0) (.int .i64 0)) := R0
  clear xa ba hB0 R0
  go_enter Try.func9, Try.ntmps9
  go_wp2_with fail
  refine (HC.out w0 HB0.out).mono ?_
  rintro e w1 ⟨rfl, hb1⟩
  have HB1 : Hid (Below w.heap.size w w1) := below_call HB0.out HB0.out.size hb1
  have HR1 : Hid (bx9 w1 (F + 1) (.int .i64 0) (.int .i64 0) (.slice none 0 0) (.slice none 0 0) (.slice none 0 0) (.slice none 0 0) (.slice none 0 0) (.int .i64 0) (.int .i64 0)) := bx9_below HR0.out hb1
  clear z0 z1 z2 z3 z4 z5 z6 z7 z8 hb1 hw0 hwa sa hF
  obtain ⟨y0, y1, y2, y3, y4, y5, y6, y7, y8⟩ := bx9_c9 HR1.out
  have fr0 := bx9_free HR1.out 0
  have fr1 := bx9_free HR1.out 1
  have fr2 := bx9_free HR1.out 2
  have fr3 := bx9_free HR1.out 3
  have fr4 := bx9_free HR1.out 4
  have fr5 := bx9_free HR1.out 5
  have fr6 := bx9_free HR1.out 6
  have fr7 := bx9_free HR1.out 7
  have fr8 := bx9_free HR1.out 8
  have hEE : E0 = E ∨ (E0 = 0 ∧ E = 2 ∧ 200 < nl) := by
    rcases hE2 with ⟨_, h2⟩ | ⟨h1, h2, h3⟩ | ⟨_, _, h2⟩
    · exact .inl h2.symm
    · exact .inr ⟨h1, h3, h2⟩
    · exact absurd h2 hE0
  clear hE2
  rcases hEE with rfl | ⟨rfl, rfl, hgt⟩
  · have d1 : (E0 != 0) = true := by simp [hE0]
    go_wp2_with fail
    obtain ⟨V, hV⟩ : ∃ V, ((((((((w1.setCell ⟨F + 1, 0, none⟩ (.int .i64 0)).setCell ⟨F + 1, 1, none⟩ (.int .i64 0)).setCell ⟨F + 1, 2, none⟩ (.slice none 0 0)).setCell ⟨F + 1, 3, none⟩ (.slice none 0 0)).setCell ⟨F + 1, 4, none⟩ (.slice none 0 0)).setCell ⟨F + 1, 5, none⟩ (.slice none 0 0)).setCell ⟨F + 1, 6, none⟩ (.slice none 0 0)).setCell ⟨F + 1, 7, none⟩ (.int .i64 0)).setCell ⟨F + 1, 8, none⟩ (.int .i64 0) = V := ⟨_, rfl⟩
    rw [hV]
    obtain ⟨k2, kx⟩ := set9 HR1.out hV.symm
    obtain ⟨t0, t1, t2, t3, t4, t5, t6, t7, t8⟩ := bx9_c9 k2
    refine ⟨by simp, .tuple #[.agg #[.int .i64 0, .int .i64 0, .slice none 0 0, .slice none 0 0, .slice none 0 0, .slice none 0 0, .slice none 0 0, .int .i64 0, .int .i64 0], .slice none 0 0, .int .i64 E0], ?_, rfl, ?_⟩
    · simp [results, Try.results9, go_sem, t0, t1, t2, t3, t4, t5, t6, t7, t8]
    · have h9 : Below w.heap.size w V := HB1.out.trans (kx.below (B := w.heap.size) HB1.out.size (fun k hk e => by have := HF.out; omega))
      first | exact h9 | (rw [← HF.out]; exact h9)
  · have l1 : (200 : Int) < nl := by omega
    go_wp2_with fail
    obtain ⟨V, hV⟩ : ∃ V, ((((((((w1.setCell ⟨F + 1, 0, none⟩ (.int .i64 0)).setCell ⟨F + 1, 1, none⟩ (.int .i64 0)).setCell ⟨F + 1, 2, none⟩ (.slice none 0 0)).setCell ⟨F + 1, 3, none⟩ (.slice none 0 0)).setCell ⟨F + 1, 4, none⟩ (.slice none 0 0)).setCell ⟨F + 1, 5, none⟩ (.slice none 0 0)).setCell ⟨F + 1, 6, none⟩ (.slice none 0 0)).setCell ⟨F + 1, 7, none⟩ (.int .i64 0)).setCell ⟨F + 1, 8, none⟩ (.int .i64 0) = V := ⟨_, rfl⟩
    rw [hV]
    obtain ⟨k2, kx⟩ := set9 HR1.out hV.symm
    obtain ⟨t0, t1, t2, t3, t4, t5, t6, t7, t8⟩ := bx9_c9 k2
    refine ⟨by simp, .tuple #[.agg #[.int .i64 0, .int .i64 0, .slice none 0 0, .slice none 0 0, .slice none 0 0, .slice none 0 0, .slice none 0 0, .int .i64 0, .int .i64 0], .slice none 0 0, .int .i64 2], ?_, rfl, ?_⟩
    · simp [results, Try.results9, go_sem, t0, t1, t2, t3, t4, t5, t6, t7, t8]
    · have h9 : Below w.heap.size w V := HB1.out.trans (kx.below (B := w.heap.size) HB1.out.size (fun k hk e => by have := HF.out; omega))
      first | exact h9 | (rw [← HF.out]; exact h9)
end Go.Proofs.Ytdcjjfipnilmpaa
