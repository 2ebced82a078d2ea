/- What marchLives returns: a worker goes one step. -/
import Derived.Test.YtnbbfnlfcncgnaaSn
import Derived.Test.YtnbbfnlfcncgnaaSw
import Derived.Test.YtnbbfnlfcncgnaaSl
namespace Go.Proofs.Ytnbbfnlfcncgnaa
open Go.RowKit
set_option linter.unusedVariables false

theorem sol_lives : Sol 3 1 [0, 0, 3] (fst_ 3 [⟨1, 0⟩]) [2, 0, 2] where
  len := rfl
  zero := by
    intro i hi
    have hf : fst_ 3 [⟨1, 0⟩] i ↔ i = 1 := by
      unfold fst_
      constructor
      · rintro ⟨x, y, h, e⟩
        simp at h
        omega
      · intro e
        exact ⟨1, 0, by simp, by omega⟩
    rw [hf]
    have : i = 0 ∨ i = 1 ∨ i = 2 := by omega
    rcases this with rfl | rfl | rfl <;> simp [pa]
  low := by
    intro i hi
    have : i = 0 ∨ i = 1 ∨ i = 2 := by omega
    rcases this with rfl | rfl | rfl <;> simp [pa]
  rock := by
    intro i hi
    have : i = 0 ∨ i = 1 ∨ i = 2 := by omega
    rcases this with rfl | rfl | rfl <;> simp [pa]
  best := by
    rintro i j ⟨x, y, x', y', rfl, rfl, hx, hx', hy, hy', h⟩
    have h1 : x = 0 ∨ x = 1 ∨ x = 2 := by omega
    have h2 : x' = 0 ∨ x' = 1 ∨ x' = 2 := by omega
    obtain rfl : y = 0 := by omega
    obtain rfl : y' = 0 := by omega
    rcases h1 with rfl | rfl | rfl <;> rcases h2 with rfl | rfl | rfl <;> simp [pa, kc] at h ⊢
  just := by
    intro i hi h0
    have : i = 0 ∨ i = 1 ∨ i = 2 := by omega
    rcases this with rfl | rfl | rfl
    · exact ⟨1, ⟨1, 0, 0, 0, rfl, rfl, by omega, by omega, by omega, by omega, by omega⟩, by simp [pa], by simp [pa, kc]⟩
    · simp [pa] at h0
    · exact ⟨1, ⟨1, 0, 2, 0, rfl, rfl, by omega, by omega, by omega, by omega, by omega⟩, by simp [pa], by simp [pa, kc]⟩
  top := by
    intro i hi
    have : i = 0 ∨ i = 1 ∨ i = 2 := by omega
    rcases this with rfl | rfl | rfl <;> simp [pa]
theorem trl_lives : Trl 3 1 [0, 0, 3] [2, 0, 2] ⟨2, 0⟩ [⟨2, 0⟩, ⟨1, 0⟩] := by
  refine .more ⟨2, 0, rfl, by omega, by omega⟩ (by decide) (d := ⟨1, 0⟩) ⟨1, by omega, ?_, by decide, rfl⟩ (.one ⟨1, 0, rfl, by omega, by omega⟩ (by decide))
  intro j hj
  obtain rfl : j = 0 := by omega
  decide
theorem nxs_lives : nxs 3 1 [0, 0, 3] ⟨1, 0⟩ ⟨2, 0⟩ (some ⟨2, 0⟩) := by
  refine .inr ⟨3, 1, _, _, ⟨rfl, rfl, ⟨by omega, by omega, rfl, by decide⟩, ⟨1, 0, rfl, by omega, by omega⟩, ⟨2, 0, rfl, by omega, by omega⟩, by decide, by decide, sol_lives⟩, by decide, trl_lives, rfl⟩
theorem mst_lives : Mst 3 1 [0, 0, 3] (gol [⟨1, 2, 0⟩]) [⟨1, 0, 1, 1, 0, 10, 0⟩] 1 [⟨1, 0, 1, 2, 0, 10, 0⟩] [1] := by
  have h : Mst 3 1 [0, 0, 3] (gol [⟨1, 2, 0⟩]) [⟨1, 0, 1, 1, 0, 10, 0⟩] (0 + 1) ([⟨1, 0, 1, 1, 0, 10, 0⟩].set 0 (Trp.go ⟨1, 0, 1, 1, 0, 10, 0⟩ ⟨2, 0⟩)) ([] ++ [1]) :=
    .go (t := ⟨1, 0, 1, 1, 0, 10, 0⟩) .zero rfl ⟨⟨2, 0⟩, rfl, nxs_lives, by decide⟩
  exact h
set_option maxRecDepth 20000 in
set_option maxHeartbeats 2000000 in
theorem mlives_any (w : World) : Calls Try.prog 18 #[] w fun e w' => e = .returned (.bool true) ∧ Below w.heap.size w w' := by
  go_enter Try.func18, Try.ntmps18
  go_wp2_with fail
  refine (small_any w).mono ?_
  rintro e w1 ⟨⟨F, rfl, hf, hF, -, -⟩, hb1⟩
  obtain ⟨w2, hw2⟩ : ∃ w2, w1.alloc (.cells #[.int .i64 1, .int .i64 2, .int .i64 0] 55) = w2 := ⟨_, rfl⟩
  have b12 : Below w1.heap.size w1 w2 := by rw [← hw2]; exact alloc_below _ _
  have hg2 : gor w2 (some ⟨w1.heap.size, 0, none⟩) [⟨1, 2, 0⟩] := by rw [← hw2]; exact gor_one w1 1 2 0
  have hf2 := Wld.fit_below hf b12
  have HST : Hid (Calls Try.prog 9 #[(smw F).val, .slice (some ⟨w1.heap.size, 0, none⟩) 1 1] w2 fun e w' => (∃ (s' : Wld) (gp : Option Addr) (gc : Nat), e = .returned (.tuple #[s'.val, .slice gp 1 gc, .int .i64 0]) ∧ row vi w' gp [1] ∧ wown w2.heap.size w' s' ∧ s'.nt = 1 ∧ s'.lt = [⟨1, 0, 1, 2, 0, 10, 0⟩]) ∧ Below w2.heap.size w2 w') := by
    refine (Step_ok (smw F) 3 1 (some ⟨w1.heap.size, 0, none⟩) 1 1 [⟨1, 2, 0⟩] w2 hf2 (smw_ok F) hg2 (fun t ht => by simp at ht; subst ht; unfold fitg fits; simp) rfl (by decide)).mono ?_
    rintro e w' ⟨⟨s', gp, gc, I, rfl, h1, h2, h3, h4, h5⟩, hb⟩
    obtain ⟨e1, e2⟩ := mst_one h5 mst_lives
    subst e2
    exact ⟨⟨s', gp, gc, rfl, h1, h2, h4, e1⟩, hb⟩
  have HB2 : Hid (Below w.heap.size w w2) := below_call hb1 hb1.size b12
  clear hf hF hb1 b12 hg2 hf2
  unfold smw Wld.val at *
  dsimp only at *
  go_wp2_with fail
  refine Calls.mono HST.out ?_
  rintro e w3 ⟨⟨s', gp, gc, rfl, hr, how, hnt, hlt⟩, hb3⟩
  obtain ⟨A', B', p', n', c', l', pb', nb', cb', lb', ps', ns', cs', ls', pm', nm', cm', lm', pt', nt', ct', lt', N', T'⟩ := s'
  dsimp only at hnt hlt
  subst hnt hlt
  obtain ⟨J, hJ⟩ : ∃ J, w3.heap.size = J := ⟨_, rfl⟩
  obtain ⟨w4, hw4⟩ : ∃ w4, w3.alloc (.cells #[.int .i64 A', .int .i64 B', .slice p' n' c', .slice pb' nb' cb', .slice ps' ns' cs', .slice pm' nm' cm', .slice pt' 1 ct', .int .i64 N', .int .i64 T'] 28) = w4 := ⟨_, rfl⟩
  have b34 : Below w3.heap.size w3 w4 := by rw [← hw4]; exact alloc_below _ _
  have x4 : bx9 w4 J (.int .i64 A') (.int .i64 B') (.slice p' n' c') (.slice pb' nb' cb') (.slice ps' ns' cs') (.slice pm' nm' cm') (.slice pt' 1 ct') (.int .i64 N') (.int .i64 T') := by rw [← hw4, ← hJ]; exact box9_new _ _ _ _ _ _ _ _ _ _
  have HX4 : Hid (bx9 w4 J (.int .i64 A') (.int .i64 B') (.slice p' n' c') (.slice pb' nb' cb') (.slice ps' ns' cs') (.slice pm' nm' cm') (.slice pt' 1 ct') (.int .i64 N') (.int .i64 T')) := x4
  have HM4 : Hid (minet w2.heap.size w4 (.slice pt' 1 ct') [⟨1, 0, 1, 2, 0, 10, 0⟩]) := minet_kept how.kt b34
  have HR4 : Hid (row vi w4 gp [1]) := row_below hr b34
  have HB4 : Hid (Below w.heap.size w w4) := below_call (below_call HB2.out HB2.out.size hb3) (Nat.le_trans HB2.out.size hb3.size) b34
  obtain ⟨g, rfl⟩ := minet_ptr HM4.out rfl (by decide)
  clear hr how hb3 b34 x4
  go_wp2_with fail
  refine (Equal_b _ _ 1 _ _ [1] _ rfl (by decide) (row_below HR4.out (alloc_below _ _)) (row_heap (L := [1]) (World.alloc_heap_new w4 _))).mono ?_
  rintro e w5 ⟨rfl, hb5⟩
  have hB45 : Below w4.heap.size w4 w5 := (alloc_below w4 _).trans (hb5.mono (by simp))
  have HB5 : Hid (Below w.heap.size w w5) := below_call HB4.out HB4.out.size hB45
  obtain ⟨-, -, -, -, -, -, z6, -, -⟩ := bx9_c9 (bx9_below HX4.out hB45)
  obtain ⟨c0, c1, c2, c3, c4, c5, c6⟩ := minet_at (minet_kept HM4.out hB45) rfl (k := 0) (t := ⟨1, 0, 1, 2, 0, 10, 0⟩) rfl
  simp only [Nat.zero_mul, Nat.zero_add] at c3 c4
  clear hb5 hB45 hw4 hw2
  go_wp2_with fail
  go_ret
  exact ⟨rfl, HB5.out⟩
end Go.Proofs.Ytnbbfnlfcncgnaa
