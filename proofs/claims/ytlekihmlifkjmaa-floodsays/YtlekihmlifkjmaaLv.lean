/- The package lives: around a rock. -/
import Derived.Test.YtlekihmlifkjmaaFm
namespace Go.Proofs.Ytlekihmlifkjmaa
open Go.RowKit
set_option linter.unusedVariables false

theorem two_cases {x : Nat} (h : x < 2) : x = 0 ∨ x = 1 := by omega
theorem sol_lives : Sol 2 2 [0, 0, 1, 2] (fst_ 2 [⟨0, 0⟩]) [0, 2, -1, 5] where
  len := rfl
  zero := by
    intro i hi
    have hf : fst_ 2 [⟨0, 0⟩] i ↔ i = 0 := by
      unfold fst_
      constructor
      · rintro ⟨x, y, h, e⟩
        simp at h
        omega
      · intro e
        exact ⟨0, 0, by simp, by omega⟩
    rw [hf]
    have : i = 0 ∨ i = 1 ∨ i = 2 ∨ i = 3 := by omega
    rcases this with rfl | rfl | rfl | rfl <;> simp [pa]
  low := by
    intro i hi
    have : i = 0 ∨ i = 1 ∨ i = 2 ∨ i = 3 := by omega
    rcases this with rfl | rfl | rfl | rfl <;> simp [pa]
  rock := by
    intro i hi
    have : i = 0 ∨ i = 1 ∨ i = 2 ∨ i = 3 := by omega
    rcases this with rfl | rfl | rfl | rfl <;> simp [pa]
  best := by
    rintro i j ⟨x, y, x', y', rfl, rfl, hx, hx', hy, hy', h⟩
    rcases two_cases hx with rfl | rfl <;> rcases two_cases hx' with rfl | rfl <;> rcases two_cases hy with rfl | rfl <;> rcases two_cases hy' with rfl | rfl <;> simp [pa, kc] at h ⊢
  just := by
    intro i hi h0
    have : i = 0 ∨ i = 1 ∨ i = 2 ∨ i = 3 := by omega
    rcases this with rfl | rfl | rfl | rfl
    · simp [pa] at h0
    · exact ⟨0, ⟨0, 0, 1, 0, rfl, rfl, by omega, by omega, by omega, by omega, by omega⟩, by simp [pa], by simp [pa, kc]⟩
    · simp [pa] at h0
    · exact ⟨1, ⟨1, 0, 1, 1, rfl, rfl, by omega, by omega, by omega, by omega, by omega⟩, by simp [pa], by simp [pa, kc]⟩
  top := by
    intro i hi
    have : i = 0 ∨ i = 1 ∨ i = 2 ∨ i = 3 := by omega
    rcases this with rfl | rfl | rfl | rfl <;> simp [pa]
set_option maxRecDepth 20000 in
set_option maxHeartbeats 1000000 in
theorem lives_any (w : World) : Calls Try.prog 13 #[] w fun e w' => e = .returned (.bool true) ∧ Below w.heap.size w w' := by
  go_enter Try.func13, Try.ntmps13
  go_wp2_with fail
  refine (Read_ts 2 2 [0, 0, 1, 2] _ w (by decide) (by decide) rfl (by decide) (by decide)).mono ?_
  rintro e w1 ⟨v, rfl, hm, hb1⟩
  obtain ⟨a, c, rfl, hr, hc⟩ := mine_some (n := 4) hm rfl (by decide)
  have HR : Hid (row vi w1 (some a) [0, 0, 1, 2]) := hr
  have HB1 : Hid (Below w.heap.size w w1) := hb1
  clear hm hb1 hr
  go_wp2_with fail
  have HA := fun w' h hc h2 => From_ok 2 2 a (some ⟨w1.heap.size + 1, 0, none⟩) c 1 1 [0, 0, 1, 2] [⟨0, 0⟩] w' h (by decide) (by decide) rfl (by decide) hc rfl (by decide) (by unfold Hid; decide) h2
  obtain ⟨w2, hw2⟩ : ∃ w2, (w1.alloc (.cells #[.int .i64 2, .int .i64 2, .slice (some a) 4 c] 24)).alloc (.cells #[.int .i64 0, .int .i64 0] 38) = w2 := ⟨_, rfl⟩
  have hb2 : Below w1.heap.size w1 w2 := by rw [← hw2]; exact (alloc_below w1 _).alloc (by simp) _
  have hc2 : crow w2 (some ⟨w1.heap.size + 1, 0, none⟩) [⟨0, 0⟩] := by
    intro j x hj
    match j, hj with
    | 0, hj =>
      simp at hj
      refine ⟨_, rfl, ?_, ?_⟩
      · rw [← hj, add_zero_at, ← hw2]; simp [go_sem]
      · rw [← hj, add_zero_at, ← hw2]; simp [go_sem]
    | (k + 1), hj => simp at hj
  have ha : a.block < w2.heap.size := by
    obtain ⟨b, hb, hcl⟩ := row_at HR.out (j := 0) (by decide)
    cases hb
    have h1 := cell_lt hcl
    rw [add_block] at h1
    have := hb2.size; omega
  rw [hw2]
  refine (HA w2 (row_below HR.out hb2) hc2 ha).mono ?_
  rintro e w3 ⟨g, far, rfl, hm3, hs3, hb3⟩
  obtain rfl := sol_one hs3 sol_lives
  have hr3 : row vi w3 (some ⟨g, 0, none⟩) [0, 2, -1, 5] := by
    obtain ⟨p, c', e, h, _⟩ := mine_full hm3
    cases e; exact h
  have HR3 : Hid (row vi w3 (some ⟨g, 0, none⟩) [0, 2, -1, 5]) := hr3
  have HB3 : Hid (Below w.heap.size w w3) := (HB1.out.trans (hb2.mono HB1.out.size)).trans (hb3.mono (by have := hb2.size; have := HB1.out.size; omega))
  clear hm3 hs3 hb3 hr3 HA hb2 hc2 ha hw2
  go_wp2_with fail
  obtain ⟨w4, hw4⟩ : ∃ w4, w3.alloc (.cells #[.int .i64 0, .int .i64 2, .int .i64 (-1), .int .i64 5] 3) = w4 := ⟨_, rfl⟩
  have hb4 : Below w3.heap.size w3 w4 := by rw [← hw4]; exact alloc_below _ _
  have hr4 : row vi w4 (some ⟨w3.heap.size, 0, none⟩) [0, 2, -1, 5] := by
    intro j x hj
    refine ⟨_, rfl, ?_⟩
    rw [add_zero_at, ← hw4]
    match j, hj with
    | 0, hj => simp at hj; rw [← hj]; simp [go_sem, vi]
    | 1, hj => simp at hj; rw [← hj]; simp [go_sem, vi]
    | 2, hj => simp at hj; rw [← hj]; simp [go_sem, vi]
    | 3, hj => simp at hj; rw [← hj]; simp [go_sem, vi]
    | (k + 4), hj => simp at hj
  rw [hw4]
  refine (Equal_b (some ⟨g, 0, none⟩) (some ⟨w3.heap.size, 0, none⟩) 4 _ _ [0, 2, -1, 5] w4 rfl (by decide) (row_below HR3.out hb4) hr4).mono ?_
  rintro e w5 ⟨rfl, hb5⟩
  have HB5 : Hid (Below w.heap.size w w5) := HB3.out.trans (below_step (hb4.mono HB3.out.size) (by have := hb4.size; have := HB3.out.size; omega) (hb5))
  clear hb5 hb4 hr4 hw4
  go_wp2_with fail
  go_ret
  exact ⟨rfl, HB5.out⟩
end Go.Proofs.Ytlekihmlifkjmaa
