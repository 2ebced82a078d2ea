/- What stepsOf returns: the places beside one. -/
import Derived.Test.YtlekihmlifkjmaaFw
namespace Go.Proofs.Ytlekihmlifkjmaa
open Go.RowKit
set_option linter.unusedVariables false

/-- The places beside place i, in the order in which they are told. -/
def sts (W H i : Nat) : List Int := (if 0 < i % W then [(i : Int) - 1] else []) ++ (if i % W < W - 1 then [(i : Int) + 1] else []) ++ (if W ≤ i then [(i : Int) - W] else []) ++ (if i + W < W * H then [(i : Int) + W] else [])
theorem sts_adj {W H i : Nat} (hW : 1 ≤ W) (hi : i < W * H) {n : Int} (h : n ∈ sts W H i) : ∃ J : Nat, n = J ∧ adj W H i J := by
  have hx : i % W < W := Nat.mod_lt _ hW
  have hy : i / W < H := Nat.div_lt_of_lt_mul hi
  have he : i = i / W * W + i % W := by have := Nat.div_add_mod i W; rw [Nat.mul_comm] at this; omega
  obtain ⟨x, ex⟩ : ∃ x, i % W = x := ⟨_, rfl⟩
  obtain ⟨y, ey⟩ : ∃ y, i / W = y := ⟨_, rfl⟩
  rw [ex] at hx he
  rw [ey] at hy he
  unfold sts at h
  rw [ex] at h
  simp only [List.mem_append] at h
  rcases h with ((h | h) | h) | h
  · split at h
    · simp at h
      exact ⟨i - 1, by omega, x, y, x - 1, y, he, by omega, hx, by omega, hy, hy, by omega⟩
    · cases h
  · split at h
    · simp at h
      exact ⟨i + 1, by omega, x, y, x + 1, y, he, by omega, hx, by omega, hy, hy, by omega⟩
    · cases h
  · split at h
    · rename_i hWi
      simp at h
      have hy0 : 0 < y := by
        rcases Nat.eq_zero_or_pos y with h0 | h0
        · subst h0; simp at he; omega
        · exact h0
      obtain ⟨z, rfl⟩ : ∃ z, y = z + 1 := ⟨y - 1, by omega⟩
      rw [Nat.add_mul] at he
      exact ⟨i - W, by omega, x, z + 1, x, z, by rw [Nat.add_mul]; omega, by omega, hx, hx, hy, by omega, by omega⟩
    · cases h
  · split at h
    · rename_i hWi
      simp at h
      refine ⟨i + W, by omega, x, y, x, y + 1, he, by rw [Nat.add_mul]; omega, hx, hx, hy, ?_, by omega⟩
      rcases Nat.lt_or_ge (y + 1) H with h0 | h0
      · exact h0
      · have : y + 1 = H := by omega
        subst this
        have e2 : W * (y + 1) = y * W + W := by rw [Nat.mul_comm, Nat.add_mul]; omega
        omega
    · cases h
theorem adj_sts {W H i J : Nat} (h : adj W H i J) : (J : Int) ∈ sts W H i := by
  obtain ⟨x, y, x', y', h1, h2, h3, h4, h5, h6, h7⟩ := h
  have h0 : 0 < W := by omega
  have ex : i % W = x := by rw [h1, Nat.add_comm, Nat.add_mul_mod_self_right]; exact Nat.mod_eq_of_lt h3
  unfold sts
  rw [ex]
  simp only [List.mem_append]
  rcases h7 with ⟨e, h | h⟩ | ⟨e, h | h⟩
  · right
    subst e h
    rw [Nat.add_mul] at h2
    have := pl_lt (H := H) h4 h6
    rw [Nat.add_mul] at this
    rw [if_pos (by omega)]; simp; omega
  · left; right
    subst e h
    rw [Nat.add_mul] at h1
    rw [if_pos (by omega)]; simp; omega
  · left; left; right
    subst e h
    rw [if_pos (by omega)]; simp; omega
  · left; left; left
    subst e h
    rw [if_pos (by omega)]; simp; omega
set_option maxRecDepth 20000 in
set_option maxHeartbeats 8000000 in
theorem stepsOf_any (W H : Nat) (a : Addr) (c i : Nat) (w : World) (hW : 1 ≤ W ∧ W ≤ 40) (hN : W * H ≤ 1600) (hi : i < W * H) :
    Calls Try.prog 14 #[.agg #[.int .i64 (W : Int), .int .i64 (H : Int), .slice (some a) (W * H) c], .int .i64 (i : Int)] w fun e w' => ∃ v, e = .returned v ∧ mine 3 vi w.heap.size w' v (sts W H i) ∧ Below w.heap.size w w' := by
  obtain ⟨F, hF⟩ : ∃ F, w.heap.size = F := ⟨_, rfl⟩
  obtain ⟨w0, hw0⟩ : ∃ w0, w.alloc (.cells #[.int .i64 (W : Int), .int .i64 (H : Int), .slice (some a) (W * H) c] 24) = w0 := ⟨_, rfl⟩
  have HF : Hid (∀ V, Below w0.heap.size w0 V → V.cell? ⟨F, 0, none⟩ = some (.int .i64 (W : Int)) ∧ V.cell? ⟨F, 2, none⟩ = some (.slice (some a) (W * H) c)) := by
    intro V hV; subst hw0; rw [← hF]; obtain ⟨h1, _, h3⟩ := box3 hV; exact ⟨h1, h3⟩
  have HB0 : Hid (Below w.heap.size w w0) := by rw [← hw0]; exact alloc_below _ _
  have HD0 : Hid (Below w0.heap.size w0 w0) := Below.refl _ _
  have HM0 : Hid (mine 3 vi w0.heap.size w0 (.slice none 0 0) ([] : List Int)) := mine_nil _ _ _ _
  obtain ⟨p0, q0⟩ := HF.out w0 (Below.refl _ _)
  obtain ⟨R, hR⟩ : ∃ R, i % W = R := ⟨_, rfl⟩
  have eR : (i : Int) % (W : Int) = (R : Int) := by rw [← Int.natCast_emod, hR]
  have hRW : R < W := by rw [← hR]; exact Nat.mod_lt _ hW.1
  have hw1 : IntKind.i64.wrap ((W : Int) - 1) = (W : Int) - 1 := wrp (by omega) (by omega)
  have hWi : (1 : Int) ≤ W := by omega
  have hWi2 : (W : Int) ≤ 40 := by omega
  have hii : (i : Int) ≤ 1600 := by omega
  go_enter Try.func14, Try.ntmps14
  by_cases c1 : 0 < i % W
  · have h1 : Hid ((0 < i % W) = True) := by simpa [Hid] using c1
    have d1 : decide ((0 : Int) < (R : Int)) = true := by simp; omega
    by_cases c2 : i % W < W - 1
    · have h2 : Hid ((i % W < W - 1) = True) := by simpa [Hid] using c2
      have d2 : decide ((R : Int) < (W : Int) - 1) = true := by simp; omega
      by_cases c3 : W ≤ i
      · have h3 : Hid ((W ≤ i) = True) := by simpa [Hid] using c3
        have d3 : decide ((W : Int) ≤ (i : Int)) = true := by simp; omega
        by_cases c4 : i + W < W * H
        · have h4 : Hid ((i + W < W * H) = True) := by simpa [Hid] using c4
          have d4 : decide ((i : Int) + (W : Int) < (W : Int) * (H : Int)) = true := by simp; omega
          go_wp2_with (at_builtin; refine list_one ki _ rfl _ _ rfl w0.heap.size (.slice none 0 0) ([] : List Int) rfl (mine_below HM0.out (alloc_below _ _)) ⟨w0.heap.size, 0, none⟩ 1 ((i : Int) - 1) rfl (new_one _ _ _) (by simp) (by rw [World.size_alloc]; exact Nat.le_succ_of_le HD0.out.size) ?_)
          intro g0 cap0 v1 hown0 hgr0
          have HM1 : Hid (mine 3 vi w0.heap.size v1 (.slice (some ⟨g0, 0, none⟩) 1 cap0) ([(i : Int) - 1] : List Int)) := hown0
          have HD1 : Hid (Below w0.heap.size w0 v1) := mine_grown (mine_below HM0.out (alloc_below _ _)) (HD0.out.alloc HD0.out.size _) (by rw [World.size_alloc]; exact Nat.le_succ_of_le HD0.out.size) hgr0
          obtain ⟨p1, q1⟩ := HF.out v1 HD1.out
          clear hown0 hgr0
          go_wp2_with fail
          go_quiet (fail)
          have HMq : Hid (mine 3 vi w0.heap.size (v1.drewN nq) (.slice (some ⟨g0, 0, none⟩) 1 cap0) ([(i : Int) - 1] : List Int)) := HM1.out
          have HDq : Hid (Below w0.heap.size w0 (v1.drewN nq)) := below_drewN HD1.out nq
          obtain ⟨pq, qq⟩ := HF.out _ HDq.out
          generalize v1.drewN nq = wq at HMq HDq pq qq ⊢
          go_wp2_with (at_builtin; refine list_one ki _ rfl _ _ rfl w0.heap.size (.slice (some ⟨g0, 0, none⟩) 1 cap0) ([(i : Int) - 1] : List Int) rfl (mine_below HMq.out (alloc_below _ _)) ⟨wq.heap.size, 0, none⟩ 1 ((i : Int) + 1) rfl (new_one _ _ _) (by simp) (by rw [World.size_alloc]; exact Nat.le_succ_of_le HDq.out.size) ?_)
          intro g1 cap1 v2 hown1 hgr1
          have HM2 : Hid (mine 3 vi w0.heap.size v2 (.slice (some ⟨g1, 0, none⟩) 2 cap1) ([(i : Int) - 1, (i : Int) + 1] : List Int)) := hown1
          have HD2 : Hid (Below w0.heap.size w0 v2) := mine_grown (mine_below HMq.out (alloc_below _ _)) (HDq.out.alloc HDq.out.size _) (by rw [World.size_alloc]; exact Nat.le_succ_of_le HDq.out.size) hgr1
          obtain ⟨p2, q2⟩ := HF.out v2 HD2.out
          clear hown1 hgr1
          go_wp2_with (at_builtin; refine list_one ki _ rfl _ _ rfl w0.heap.size (.slice (some ⟨g1, 0, none⟩) 2 cap1) ([(i : Int) - 1, (i : Int) + 1] : List Int) rfl (mine_below HM2.out (alloc_below _ _)) ⟨v2.heap.size, 0, none⟩ 1 ((i : Int) - W) rfl (new_one _ _ _) (by simp) (by rw [World.size_alloc]; exact Nat.le_succ_of_le HD2.out.size) ?_)
          intro g2 cap2 v3 hown2 hgr2
          have HM3 : Hid (mine 3 vi w0.heap.size v3 (.slice (some ⟨g2, 0, none⟩) 3 cap2) ([(i : Int) - 1, (i : Int) + 1, (i : Int) - W] : List Int)) := hown2
          have HD3 : Hid (Below w0.heap.size w0 v3) := mine_grown (mine_below HM2.out (alloc_below _ _)) (HD2.out.alloc HD2.out.size _) (by rw [World.size_alloc]; exact Nat.le_succ_of_le HD2.out.size) hgr2
          obtain ⟨p3, q3⟩ := HF.out v3 HD3.out
          clear hown2 hgr2
          go_wp2_with (at_builtin; refine list_one ki _ rfl _ _ rfl w0.heap.size (.slice (some ⟨g2, 0, none⟩) 3 cap2) ([(i : Int) - 1, (i : Int) + 1, (i : Int) - W] : List Int) rfl (mine_below HM3.out (alloc_below _ _)) ⟨v3.heap.size, 0, none⟩ 1 ((i : Int) + W) rfl (new_one _ _ _) (by simp) (by rw [World.size_alloc]; exact Nat.le_succ_of_le HD3.out.size) ?_)
          intro g3 cap3 v4 hown3 hgr3
          have HM4 : Hid (mine 3 vi w0.heap.size v4 (.slice (some ⟨g3, 0, none⟩) 4 cap3) ([(i : Int) - 1, (i : Int) + 1, (i : Int) - W, (i : Int) + W] : List Int)) := hown3
          have HD4 : Hid (Below w0.heap.size w0 v4) := mine_grown (mine_below HM3.out (alloc_below _ _)) (HD3.out.alloc HD3.out.size _) (by rw [World.size_alloc]; exact Nat.le_succ_of_le HD3.out.size) hgr3
          obtain ⟨p4, q4⟩ := HF.out v4 HD4.out
          clear hown3 hgr3
          go_wp2_with fail
          go_ret
          refine ⟨_, rfl, ?_, HB0.out.trans (HD4.out.mono HB0.out.size)⟩
          have e : sts W H i = ([(i : Int) - 1, (i : Int) + 1, (i : Int) - W, (i : Int) + W] : List Int) := by unfold sts; simp [h1.out, h2.out, h3.out, h4.out]
          rw [e]; exact mine_mono HM4.out HB0.out.size
        · have h4 : Hid ((i + W < W * H) = False) := by simpa [Hid] using c4
          have d4 : decide ((i : Int) + (W : Int) < (W : Int) * (H : Int)) = false := by simp; omega
          go_wp2_with (at_builtin; refine list_one ki _ rfl _ _ rfl w0.heap.size (.slice none 0 0) ([] : List Int) rfl (mine_below HM0.out (alloc_below _ _)) ⟨w0.heap.size, 0, none⟩ 1 ((i : Int) - 1) rfl (new_one _ _ _) (by simp) (by rw [World.size_alloc]; exact Nat.le_succ_of_le HD0.out.size) ?_)
          intro g0 cap0 v1 hown0 hgr0
          have HM1 : Hid (mine 3 vi w0.heap.size v1 (.slice (some ⟨g0, 0, none⟩) 1 cap0) ([(i : Int) - 1] : List Int)) := hown0
          have HD1 : Hid (Below w0.heap.size w0 v1) := mine_grown (mine_below HM0.out (alloc_below _ _)) (HD0.out.alloc HD0.out.size _) (by rw [World.size_alloc]; exact Nat.le_succ_of_le HD0.out.size) hgr0
          obtain ⟨p1, q1⟩ := HF.out v1 HD1.out
          clear hown0 hgr0
          go_wp2_with fail
          go_quiet (fail)
          have HMq : Hid (mine 3 vi w0.heap.size (v1.drewN nq) (.slice (some ⟨g0, 0, none⟩) 1 cap0) ([(i : Int) - 1] : List Int)) := HM1.out
          have HDq : Hid (Below w0.heap.size w0 (v1.drewN nq)) := below_drewN HD1.out nq
          obtain ⟨pq, qq⟩ := HF.out _ HDq.out
          generalize v1.drewN nq = wq at HMq HDq pq qq ⊢
          go_wp2_with (at_builtin; refine list_one ki _ rfl _ _ rfl w0.heap.size (.slice (some ⟨g0, 0, none⟩) 1 cap0) ([(i : Int) - 1] : List Int) rfl (mine_below HMq.out (alloc_below _ _)) ⟨wq.heap.size, 0, none⟩ 1 ((i : Int) + 1) rfl (new_one _ _ _) (by simp) (by rw [World.size_alloc]; exact Nat.le_succ_of_le HDq.out.size) ?_)
          intro g1 cap1 v2 hown1 hgr1
          have HM2 : Hid (mine 3 vi w0.heap.size v2 (.slice (some ⟨g1, 0, none⟩) 2 cap1) ([(i : Int) - 1, (i : Int) + 1] : List Int)) := hown1
          have HD2 : Hid (Below w0.heap.size w0 v2) := mine_grown (mine_below HMq.out (alloc_below _ _)) (HDq.out.alloc HDq.out.size _) (by rw [World.size_alloc]; exact Nat.le_succ_of_le HDq.out.size) hgr1
          obtain ⟨p2, q2⟩ := HF.out v2 HD2.out
          clear hown1 hgr1
          go_wp2_with (at_builtin; refine list_one ki _ rfl _ _ rfl w0.heap.size (.slice (some ⟨g1, 0, none⟩) 2 cap1) ([(i : Int) - 1, (i : Int) + 1] : List Int) rfl (mine_below HM2.out (alloc_below _ _)) ⟨v2.heap.size, 0, none⟩ 1 ((i : Int) - W) rfl (new_one _ _ _) (by simp) (by rw [World.size_alloc]; exact Nat.le_succ_of_le HD2.out.size) ?_)
          intro g2 cap2 v3 hown2 hgr2
          have HM3 : Hid (mine 3 vi w0.heap.size v3 (.slice (some ⟨g2, 0, none⟩) 3 cap2) ([(i : Int) - 1, (i : Int) + 1, (i : Int) - W] : List Int)) := hown2
          have HD3 : Hid (Below w0.heap.size w0 v3) := mine_grown (mine_below HM2.out (alloc_below _ _)) (HD2.out.alloc HD2.out.size _) (by rw [World.size_alloc]; exact Nat.le_succ_of_le HD2.out.size) hgr2
          obtain ⟨p3, q3⟩ := HF.out v3 HD3.out
          clear hown2 hgr2
          go_wp2_with fail
          go_ret
          refine ⟨_, rfl, ?_, HB0.out.trans (HD3.out.mono HB0.out.size)⟩
          have e : sts W H i = ([(i : Int) - 1, (i : Int) + 1, (i : Int) - W] : List Int) := by unfold sts; simp [h1.out, h2.out, h3.out, h4.out]
          rw [e]; exact mine_mono HM3.out HB0.out.size
      · have h3 : Hid ((W ≤ i) = False) := by simpa [Hid] using c3
        have d3 : decide ((W : Int) ≤ (i : Int)) = false := by simp; omega
        by_cases c4 : i + W < W * H
        · have h4 : Hid ((i + W < W * H) = True) := by simpa [Hid] using c4
          have d4 : decide ((i : Int) + (W : Int) < (W : Int) * (H : Int)) = true := by simp; omega
          go_wp2_with (at_builtin; refine list_one ki _ rfl _ _ rfl w0.heap.size (.slice none 0 0) ([] : List Int) rfl (mine_below HM0.out (alloc_below _ _)) ⟨w0.heap.size, 0, none⟩ 1 ((i : Int) - 1) rfl (new_one _ _ _) (by simp) (by rw [World.size_alloc]; exact Nat.le_succ_of_le HD0.out.size) ?_)
          intro g0 cap0 v1 hown0 hgr0
          have HM1 : Hid (mine 3 vi w0.heap.size v1 (.slice (some ⟨g0, 0, none⟩) 1 cap0) ([(i : Int) - 1] : List Int)) := hown0
          have HD1 : Hid (Below w0.heap.size w0 v1) := mine_grown (mine_below HM0.out (alloc_below _ _)) (HD0.out.alloc HD0.out.size _) (by rw [World.size_alloc]; exact Nat.le_succ_of_le HD0.out.size) hgr0
          obtain ⟨p1, q1⟩ := HF.out v1 HD1.out
          clear hown0 hgr0
          go_wp2_with fail
          go_quiet (fail)
          have HMq : Hid (mine 3 vi w0.heap.size (v1.drewN nq) (.slice (some ⟨g0, 0, none⟩) 1 cap0) ([(i : Int) - 1] : List Int)) := HM1.out
          have HDq : Hid (Below w0.heap.size w0 (v1.drewN nq)) := below_drewN HD1.out nq
          obtain ⟨pq, qq⟩ := HF.out _ HDq.out
          generalize v1.drewN nq = wq at HMq HDq pq qq ⊢
          go_wp2_with (at_builtin; refine list_one ki _ rfl _ _ rfl w0.heap.size (.slice (some ⟨g0, 0, none⟩) 1 cap0) ([(i : Int) - 1] : List Int) rfl (mine_below HMq.out (alloc_below _ _)) ⟨wq.heap.size, 0, none⟩ 1 ((i : Int) + 1) rfl (new_one _ _ _) (by simp) (by rw [World.size_alloc]; exact Nat.le_succ_of_le HDq.out.size) ?_)
          intro g1 cap1 v2 hown1 hgr1
          have HM2 : Hid (mine 3 vi w0.heap.size v2 (.slice (some ⟨g1, 0, none⟩) 2 cap1) ([(i : Int) - 1, (i : Int) + 1] : List Int)) := hown1
          have HD2 : Hid (Below w0.heap.size w0 v2) := mine_grown (mine_below HMq.out (alloc_below _ _)) (HDq.out.alloc HDq.out.size _) (by rw [World.size_alloc]; exact Nat.le_succ_of_le HDq.out.size) hgr1
          obtain ⟨p2, q2⟩ := HF.out v2 HD2.out
          clear hown1 hgr1
          go_wp2_with (at_builtin; refine list_one ki _ rfl _ _ rfl w0.heap.size (.slice (some ⟨g1, 0, none⟩) 2 cap1) ([(i : Int) - 1, (i : Int) + 1] : List Int) rfl (mine_below HM2.out (alloc_below _ _)) ⟨v2.heap.size, 0, none⟩ 1 ((i : Int) + W) rfl (new_one _ _ _) (by simp) (by rw [World.size_alloc]; exact Nat.le_succ_of_le HD2.out.size) ?_)
          intro g2 cap2 v3 hown2 hgr2
          have HM3 : Hid (mine 3 vi w0.heap.size v3 (.slice (some ⟨g2, 0, none⟩) 3 cap2) ([(i : Int) - 1, (i : Int) + 1, (i : Int) + W] : List Int)) := hown2
          have HD3 : Hid (Below w0.heap.size w0 v3) := mine_grown (mine_below HM2.out (alloc_below _ _)) (HD2.out.alloc HD2.out.size _) (by rw [World.size_alloc]; exact Nat.le_succ_of_le HD2.out.size) hgr2
          obtain ⟨p3, q3⟩ := HF.out v3 HD3.out
          clear hown2 hgr2
          go_wp2_with fail
          go_ret
          refine ⟨_, rfl, ?_, HB0.out.trans (HD3.out.mono HB0.out.size)⟩
          have e : sts W H i = ([(i : Int) - 1, (i : Int) + 1, (i : Int) + W] : List Int) := by unfold sts; simp [h1.out, h2.out, h3.out, h4.out]
          rw [e]; exact mine_mono HM3.out HB0.out.size
        · have h4 : Hid ((i + W < W * H) = False) := by simpa [Hid] using c4
          have d4 : decide ((i : Int) + (W : Int) < (W : Int) * (H : Int)) = false := by simp; omega
          go_wp2_with (at_builtin; refine list_one ki _ rfl _ _ rfl w0.heap.size (.slice none 0 0) ([] : List Int) rfl (mine_below HM0.out (alloc_below _ _)) ⟨w0.heap.size, 0, none⟩ 1 ((i : Int) - 1) rfl (new_one _ _ _) (by simp) (by rw [World.size_alloc]; exact Nat.le_succ_of_le HD0.out.size) ?_)
          intro g0 cap0 v1 hown0 hgr0
          have HM1 : Hid (mine 3 vi w0.heap.size v1 (.slice (some ⟨g0, 0, none⟩) 1 cap0) ([(i : Int) - 1] : List Int)) := hown0
          have HD1 : Hid (Below w0.heap.size w0 v1) := mine_grown (mine_below HM0.out (alloc_below _ _)) (HD0.out.alloc HD0.out.size _) (by rw [World.size_alloc]; exact Nat.le_succ_of_le HD0.out.size) hgr0
          obtain ⟨p1, q1⟩ := HF.out v1 HD1.out
          clear hown0 hgr0
          go_wp2_with fail
          go_quiet (fail)
          have HMq : Hid (mine 3 vi w0.heap.size (v1.drewN nq) (.slice (some ⟨g0, 0, none⟩) 1 cap0) ([(i : Int) - 1] : List Int)) := HM1.out
          have HDq : Hid (Below w0.heap.size w0 (v1.drewN nq)) := below_drewN HD1.out nq
          obtain ⟨pq, qq⟩ := HF.out _ HDq.out
          generalize v1.drewN nq = wq at HMq HDq pq qq ⊢
          go_wp2_with (at_builtin; refine list_one ki _ rfl _ _ rfl w0.heap.size (.slice (some ⟨g0, 0, none⟩) 1 cap0) ([(i : Int) - 1] : List Int) rfl (mine_below HMq.out (alloc_below _ _)) ⟨wq.heap.size, 0, none⟩ 1 ((i : Int) + 1) rfl (new_one _ _ _) (by simp) (by rw [World.size_alloc]; exact Nat.le_succ_of_le HDq.out.size) ?_)
          intro g1 cap1 v2 hown1 hgr1
          have HM2 : Hid (mine 3 vi w0.heap.size v2 (.slice (some ⟨g1, 0, none⟩) 2 cap1) ([(i : Int) - 1, (i : Int) + 1] : List Int)) := hown1
          have HD2 : Hid (Below w0.heap.size w0 v2) := mine_grown (mine_below HMq.out (alloc_below _ _)) (HDq.out.alloc HDq.out.size _) (by rw [World.size_alloc]; exact Nat.le_succ_of_le HDq.out.size) hgr1
          obtain ⟨p2, q2⟩ := HF.out v2 HD2.out
          clear hown1 hgr1
          go_wp2_with fail
          go_ret
          refine ⟨_, rfl, ?_, HB0.out.trans (HD2.out.mono HB0.out.size)⟩
          have e : sts W H i = ([(i : Int) - 1, (i : Int) + 1] : List Int) := by unfold sts; simp [h1.out, h2.out, h3.out, h4.out]
          rw [e]; exact mine_mono HM2.out HB0.out.size
    · have h2 : Hid ((i % W < W - 1) = False) := by simpa [Hid] using c2
      have d2 : decide ((R : Int) < (W : Int) - 1) = false := by simp; omega
      by_cases c3 : W ≤ i
      · have h3 : Hid ((W ≤ i) = True) := by simpa [Hid] using c3
        have d3 : decide ((W : Int) ≤ (i : Int)) = true := by simp; omega
        by_cases c4 : i + W < W * H
        · have h4 : Hid ((i + W < W * H) = True) := by simpa [Hid] using c4
          have d4 : decide ((i : Int) + (W : Int) < (W : Int) * (H : Int)) = true := by simp; omega
          go_wp2_with (at_builtin; refine list_one ki _ rfl _ _ rfl w0.heap.size (.slice none 0 0) ([] : List Int) rfl (mine_below HM0.out (alloc_below _ _)) ⟨w0.heap.size, 0, none⟩ 1 ((i : Int) - 1) rfl (new_one _ _ _) (by simp) (by rw [World.size_alloc]; exact Nat.le_succ_of_le HD0.out.size) ?_)
          intro g0 cap0 v1 hown0 hgr0
          have HM1 : Hid (mine 3 vi w0.heap.size v1 (.slice (some ⟨g0, 0, none⟩) 1 cap0) ([(i : Int) - 1] : List Int)) := hown0
          have HD1 : Hid (Below w0.heap.size w0 v1) := mine_grown (mine_below HM0.out (alloc_below _ _)) (HD0.out.alloc HD0.out.size _) (by rw [World.size_alloc]; exact Nat.le_succ_of_le HD0.out.size) hgr0
          obtain ⟨p1, q1⟩ := HF.out v1 HD1.out
          clear hown0 hgr0
          go_wp2_with fail
          go_quiet (fail)
          have HMq : Hid (mine 3 vi w0.heap.size (v1.drewN nq) (.slice (some ⟨g0, 0, none⟩) 1 cap0) ([(i : Int) - 1] : List Int)) := HM1.out
          have HDq : Hid (Below w0.heap.size w0 (v1.drewN nq)) := below_drewN HD1.out nq
          obtain ⟨pq, qq⟩ := HF.out _ HDq.out
          generalize v1.drewN nq = wq at HMq HDq pq qq ⊢
          go_wp2_with (at_builtin; refine list_one ki _ rfl _ _ rfl w0.heap.size (.slice (some ⟨g0, 0, none⟩) 1 cap0) ([(i : Int) - 1] : List Int) rfl (mine_below HMq.out (alloc_below _ _)) ⟨wq.heap.size, 0, none⟩ 1 ((i : Int) - W) rfl (new_one _ _ _) (by simp) (by rw [World.size_alloc]; exact Nat.le_succ_of_le HDq.out.size) ?_)
          intro g1 cap1 v2 hown1 hgr1
          have HM2 : Hid (mine 3 vi w0.heap.size v2 (.slice (some ⟨g1, 0, none⟩) 2 cap1) ([(i : Int) - 1, (i : Int) - W] : List Int)) := hown1
          have HD2 : Hid (Below w0.heap.size w0 v2) := mine_grown (mine_below HMq.out (alloc_below _ _)) (HDq.out.alloc HDq.out.size _) (by rw [World.size_alloc]; exact Nat.le_succ_of_le HDq.out.size) hgr1
          obtain ⟨p2, q2⟩ := HF.out v2 HD2.out
          clear hown1 hgr1
          go_wp2_with (at_builtin; refine list_one ki _ rfl _ _ rfl w0.heap.size (.slice (some ⟨g1, 0, none⟩) 2 cap1) ([(i : Int) - 1, (i : Int) - W] : List Int) rfl (mine_below HM2.out (alloc_below _ _)) ⟨v2.heap.size, 0, none⟩ 1 ((i : Int) + W) rfl (new_one _ _ _) (by simp) (by rw [World.size_alloc]; exact Nat.le_succ_of_le HD2.out.size) ?_)
          intro g2 cap2 v3 hown2 hgr2
          have HM3 : Hid (mine 3 vi w0.heap.size v3 (.slice (some ⟨g2, 0, none⟩) 3 cap2) ([(i : Int) - 1, (i : Int) - W, (i : Int) + W] : List Int)) := hown2
          have HD3 : Hid (Below w0.heap.size w0 v3) := mine_grown (mine_below HM2.out (alloc_below _ _)) (HD2.out.alloc HD2.out.size _) (by rw [World.size_alloc]; exact Nat.le_succ_of_le HD2.out.size) hgr2
          obtain ⟨p3, q3⟩ := HF.out v3 HD3.out
          clear hown2 hgr2
          go_wp2_with fail
          go_ret
          refine ⟨_, rfl, ?_, HB0.out.trans (HD3.out.mono HB0.out.size)⟩
          have e : sts W H i = ([(i : Int) - 1, (i : Int) - W, (i : Int) + W] : List Int) := by unfold sts; simp [h1.out, h2.out, h3.out, h4.out]
          rw [e]; exact mine_mono HM3.out HB0.out.size
        · have h4 : Hid ((i + W < W * H) = False) := by simpa [Hid] using c4
          have d4 : decide ((i : Int) + (W : Int) < (W : Int) * (H : Int)) = false := by simp; omega
          go_wp2_with (at_builtin; refine list_one ki _ rfl _ _ rfl w0.heap.size (.slice none 0 0) ([] : List Int) rfl (mine_below HM0.out (alloc_below _ _)) ⟨w0.heap.size, 0, none⟩ 1 ((i : Int) - 1) rfl (new_one _ _ _) (by simp) (by rw [World.size_alloc]; exact Nat.le_succ_of_le HD0.out.size) ?_)
          intro g0 cap0 v1 hown0 hgr0
          have HM1 : Hid (mine 3 vi w0.heap.size v1 (.slice (some ⟨g0, 0, none⟩) 1 cap0) ([(i : Int) - 1] : List Int)) := hown0
          have HD1 : Hid (Below w0.heap.size w0 v1) := mine_grown (mine_below HM0.out (alloc_below _ _)) (HD0.out.alloc HD0.out.size _) (by rw [World.size_alloc]; exact Nat.le_succ_of_le HD0.out.size) hgr0
          obtain ⟨p1, q1⟩ := HF.out v1 HD1.out
          clear hown0 hgr0
          go_wp2_with fail
          go_quiet (fail)
          have HMq : Hid (mine 3 vi w0.heap.size (v1.drewN nq) (.slice (some ⟨g0, 0, none⟩) 1 cap0) ([(i : Int) - 1] : List Int)) := HM1.out
          have HDq : Hid (Below w0.heap.size w0 (v1.drewN nq)) := below_drewN HD1.out nq
          obtain ⟨pq, qq⟩ := HF.out _ HDq.out
          generalize v1.drewN nq = wq at HMq HDq pq qq ⊢
          go_wp2_with (at_builtin; refine list_one ki _ rfl _ _ rfl w0.heap.size (.slice (some ⟨g0, 0, none⟩) 1 cap0) ([(i : Int) - 1] : List Int) rfl (mine_below HMq.out (alloc_below _ _)) ⟨wq.heap.size, 0, none⟩ 1 ((i : Int) - W) rfl (new_one _ _ _) (by simp) (by rw [World.size_alloc]; exact Nat.le_succ_of_le HDq.out.size) ?_)
          intro g1 cap1 v2 hown1 hgr1
          have HM2 : Hid (mine 3 vi w0.heap.size v2 (.slice (some ⟨g1, 0, none⟩) 2 cap1) ([(i : Int) - 1, (i : Int) - W] : List Int)) := hown1
          have HD2 : Hid (Below w0.heap.size w0 v2) := mine_grown (mine_below HMq.out (alloc_below _ _)) (HDq.out.alloc HDq.out.size _) (by rw [World.size_alloc]; exact Nat.le_succ_of_le HDq.out.size) hgr1
          obtain ⟨p2, q2⟩ := HF.out v2 HD2.out
          clear hown1 hgr1
          go_wp2_with fail
          go_ret
          refine ⟨_, rfl, ?_, HB0.out.trans (HD2.out.mono HB0.out.size)⟩
          have e : sts W H i = ([(i : Int) - 1, (i : Int) - W] : List Int) := by unfold sts; simp [h1.out, h2.out, h3.out, h4.out]
          rw [e]; exact mine_mono HM2.out HB0.out.size
      · have h3 : Hid ((W ≤ i) = False) := by simpa [Hid] using c3
        have d3 : decide ((W : Int) ≤ (i : Int)) = false := by simp; omega
        by_cases c4 : i + W < W * H
        · have h4 : Hid ((i + W < W * H) = True) := by simpa [Hid] using c4
          have d4 : decide ((i : Int) + (W : Int) < (W : Int) * (H : Int)) = true := by simp; omega
          go_wp2_with (at_builtin; refine list_one ki _ rfl _ _ rfl w0.heap.size (.slice none 0 0) ([] : List Int) rfl (mine_below HM0.out (alloc_below _ _)) ⟨w0.heap.size, 0, none⟩ 1 ((i : Int) - 1) rfl (new_one _ _ _) (by simp) (by rw [World.size_alloc]; exact Nat.le_succ_of_le HD0.out.size) ?_)
          intro g0 cap0 v1 hown0 hgr0
          have HM1 : Hid (mine 3 vi w0.heap.size v1 (.slice (some ⟨g0, 0, none⟩) 1 cap0) ([(i : Int) - 1] : List Int)) := hown0
          have HD1 : Hid (Below w0.heap.size w0 v1) := mine_grown (mine_below HM0.out (alloc_below _ _)) (HD0.out.alloc HD0.out.size _) (by rw [World.size_alloc]; exact Nat.le_succ_of_le HD0.out.size) hgr0
          obtain ⟨p1, q1⟩ := HF.out v1 HD1.out
          clear hown0 hgr0
          go_wp2_with fail
          go_quiet (fail)
          have HMq : Hid (mine 3 vi w0.heap.size (v1.drewN nq) (.slice (some ⟨g0, 0, none⟩) 1 cap0) ([(i : Int) - 1] : List Int)) := HM1.out
          have HDq : Hid (Below w0.heap.size w0 (v1.drewN nq)) := below_drewN HD1.out nq
          obtain ⟨pq, qq⟩ := HF.out _ HDq.out
          generalize v1.drewN nq = wq at HMq HDq pq qq ⊢
          go_wp2_with (at_builtin; refine list_one ki _ rfl _ _ rfl w0.heap.size (.slice (some ⟨g0, 0, none⟩) 1 cap0) ([(i : Int) - 1] : List Int) rfl (mine_below HMq.out (alloc_below _ _)) ⟨wq.heap.size, 0, none⟩ 1 ((i : Int) + W) rfl (new_one _ _ _) (by simp) (by rw [World.size_alloc]; exact Nat.le_succ_of_le HDq.out.size) ?_)
          intro g1 cap1 v2 hown1 hgr1
          have HM2 : Hid (mine 3 vi w0.heap.size v2 (.slice (some ⟨g1, 0, none⟩) 2 cap1) ([(i : Int) - 1, (i : Int) + W] : List Int)) := hown1
          have HD2 : Hid (Below w0.heap.size w0 v2) := mine_grown (mine_below HMq.out (alloc_below _ _)) (HDq.out.alloc HDq.out.size _) (by rw [World.size_alloc]; exact Nat.le_succ_of_le HDq.out.size) hgr1
          obtain ⟨p2, q2⟩ := HF.out v2 HD2.out
          clear hown1 hgr1
          go_wp2_with fail
          go_ret
          refine ⟨_, rfl, ?_, HB0.out.trans (HD2.out.mono HB0.out.size)⟩
          have e : sts W H i = ([(i : Int) - 1, (i : Int) + W] : List Int) := by unfold sts; simp [h1.out, h2.out, h3.out, h4.out]
          rw [e]; exact mine_mono HM2.out HB0.out.size
        · have h4 : Hid ((i + W < W * H) = False) := by simpa [Hid] using c4
          have d4 : decide ((i : Int) + (W : Int) < (W : Int) * (H : Int)) = false := by simp; omega
          go_wp2_with (at_builtin; refine list_one ki _ rfl _ _ rfl w0.heap.size (.slice none 0 0) ([] : List Int) rfl (mine_below HM0.out (alloc_below _ _)) ⟨w0.heap.size, 0, none⟩ 1 ((i : Int) - 1) rfl (new_one _ _ _) (by simp) (by rw [World.size_alloc]; exact Nat.le_succ_of_le HD0.out.size) ?_)
          intro g0 cap0 v1 hown0 hgr0
          have HM1 : Hid (mine 3 vi w0.heap.size v1 (.slice (some ⟨g0, 0, none⟩) 1 cap0) ([(i : Int) - 1] : List Int)) := hown0
          have HD1 : Hid (Below w0.heap.size w0 v1) := mine_grown (mine_below HM0.out (alloc_below _ _)) (HD0.out.alloc HD0.out.size _) (by rw [World.size_alloc]; exact Nat.le_succ_of_le HD0.out.size) hgr0
          obtain ⟨p1, q1⟩ := HF.out v1 HD1.out
          clear hown0 hgr0
          go_wp2_with fail
          go_quiet (fail)
          have HMq : Hid (mine 3 vi w0.heap.size (v1.drewN nq) (.slice (some ⟨g0, 0, none⟩) 1 cap0) ([(i : Int) - 1] : List Int)) := HM1.out
          have HDq : Hid (Below w0.heap.size w0 (v1.drewN nq)) := below_drewN HD1.out nq
          obtain ⟨pq, qq⟩ := HF.out _ HDq.out
          generalize v1.drewN nq = wq at HMq HDq pq qq ⊢
          go_wp2_with fail
          go_ret
          refine ⟨_, rfl, ?_, HB0.out.trans (HDq.out.mono HB0.out.size)⟩
          have e : sts W H i = ([(i : Int) - 1] : List Int) := by unfold sts; simp [h1.out, h2.out, h3.out, h4.out]
          rw [e]; exact mine_mono HMq.out HB0.out.size
  · have h1 : Hid ((0 < i % W) = False) := by simpa [Hid] using c1
    have d1 : decide ((0 : Int) < (R : Int)) = false := by simp; omega
    by_cases c2 : i % W < W - 1
    · have h2 : Hid ((i % W < W - 1) = True) := by simpa [Hid] using c2
      have d2 : decide ((R : Int) < (W : Int) - 1) = true := by simp; omega
      by_cases c3 : W ≤ i
      · have h3 : Hid ((W ≤ i) = True) := by simpa [Hid] using c3
        have d3 : decide ((W : Int) ≤ (i : Int)) = true := by simp; omega
        by_cases c4 : i + W < W * H
        · have h4 : Hid ((i + W < W * H) = True) := by simpa [Hid] using c4
          have d4 : decide ((i : Int) + (W : Int) < (W : Int) * (H : Int)) = true := by simp; omega
          go_wp2_with fail
          go_quiet (fail)
          have HMq : Hid (mine 3 vi w0.heap.size (w0.drewN nq) (.slice none 0 0) ([] : List Int)) := HM0.out
          have HDq : Hid (Below w0.heap.size w0 (w0.drewN nq)) := below_drewN HD0.out nq
          obtain ⟨pq, qq⟩ := HF.out _ HDq.out
          generalize w0.drewN nq = wq at HMq HDq pq qq ⊢
          go_wp2_with (at_builtin; refine list_one ki _ rfl _ _ rfl w0.heap.size (.slice none 0 0) ([] : List Int) rfl (mine_below HMq.out (alloc_below _ _)) ⟨wq.heap.size, 0, none⟩ 1 ((i : Int) + 1) rfl (new_one _ _ _) (by simp) (by rw [World.size_alloc]; exact Nat.le_succ_of_le HDq.out.size) ?_)
          intro g0 cap0 v1 hown0 hgr0
          have HM1 : Hid (mine 3 vi w0.heap.size v1 (.slice (some ⟨g0, 0, none⟩) 1 cap0) ([(i : Int) + 1] : List Int)) := hown0
          have HD1 : Hid (Below w0.heap.size w0 v1) := mine_grown (mine_below HMq.out (alloc_below _ _)) (HDq.out.alloc HDq.out.size _) (by rw [World.size_alloc]; exact Nat.le_succ_of_le HDq.out.size) hgr0
          obtain ⟨p1, q1⟩ := HF.out v1 HD1.out
          clear hown0 hgr0
          go_wp2_with (at_builtin; refine list_one ki _ rfl _ _ rfl w0.heap.size (.slice (some ⟨g0, 0, none⟩) 1 cap0) ([(i : Int) + 1] : List Int) rfl (mine_below HM1.out (alloc_below _ _)) ⟨v1.heap.size, 0, none⟩ 1 ((i : Int) - W) rfl (new_one _ _ _) (by simp) (by rw [World.size_alloc]; exact Nat.le_succ_of_le HD1.out.size) ?_)
          intro g1 cap1 v2 hown1 hgr1
          have HM2 : Hid (mine 3 vi w0.heap.size v2 (.slice (some ⟨g1, 0, none⟩) 2 cap1) ([(i : Int) + 1, (i : Int) - W] : List Int)) := hown1
          have HD2 : Hid (Below w0.heap.size w0 v2) := mine_grown (mine_below HM1.out (alloc_below _ _)) (HD1.out.alloc HD1.out.size _) (by rw [World.size_alloc]; exact Nat.le_succ_of_le HD1.out.size) hgr1
          obtain ⟨p2, q2⟩ := HF.out v2 HD2.out
          clear hown1 hgr1
          go_wp2_with (at_builtin; refine list_one ki _ rfl _ _ rfl w0.heap.size (.slice (some ⟨g1, 0, none⟩) 2 cap1) ([(i : Int) + 1, (i : Int) - W] : List Int) rfl (mine_below HM2.out (alloc_below _ _)) ⟨v2.heap.size, 0, none⟩ 1 ((i : Int) + W) rfl (new_one _ _ _) (by simp) (by rw [World.size_alloc]; exact Nat.le_succ_of_le HD2.out.size) ?_)
          intro g2 cap2 v3 hown2 hgr2
          have HM3 : Hid (mine 3 vi w0.heap.size v3 (.slice (some ⟨g2, 0, none⟩) 3 cap2) ([(i : Int) + 1, (i : Int) - W, (i : Int) + W] : List Int)) := hown2
          have HD3 : Hid (Below w0.heap.size w0 v3) := mine_grown (mine_below HM2.out (alloc_below _ _)) (HD2.out.alloc HD2.out.size _) (by rw [World.size_alloc]; exact Nat.le_succ_of_le HD2.out.size) hgr2
          obtain ⟨p3, q3⟩ := HF.out v3 HD3.out
          clear hown2 hgr2
          go_wp2_with fail
          go_ret
          refine ⟨_, rfl, ?_, HB0.out.trans (HD3.out.mono HB0.out.size)⟩
          have e : sts W H i = ([(i : Int) + 1, (i : Int) - W, (i : Int) + W] : List Int) := by unfold sts; simp [h1.out, h2.out, h3.out, h4.out]
          rw [e]; exact mine_mono HM3.out HB0.out.size
        · have h4 : Hid ((i + W < W * H) = False) := by simpa [Hid] using c4
          have d4 : decide ((i : Int) + (W : Int) < (W : Int) * (H : Int)) = false := by simp; omega
          go_wp2_with fail
          go_quiet (fail)
          have HMq : Hid (mine 3 vi w0.heap.size (w0.drewN nq) (.slice none 0 0) ([] : List Int)) := HM0.out
          have HDq : Hid (Below w0.heap.size w0 (w0.drewN nq)) := below_drewN HD0.out nq
          obtain ⟨pq, qq⟩ := HF.out _ HDq.out
          generalize w0.drewN nq = wq at HMq HDq pq qq ⊢
          go_wp2_with (at_builtin; refine list_one ki _ rfl _ _ rfl w0.heap.size (.slice none 0 0) ([] : List Int) rfl (mine_below HMq.out (alloc_below _ _)) ⟨wq.heap.size, 0, none⟩ 1 ((i : Int) + 1) rfl (new_one _ _ _) (by simp) (by rw [World.size_alloc]; exact Nat.le_succ_of_le HDq.out.size) ?_)
          intro g0 cap0 v1 hown0 hgr0
          have HM1 : Hid (mine 3 vi w0.heap.size v1 (.slice (some ⟨g0, 0, none⟩) 1 cap0) ([(i : Int) + 1] : List Int)) := hown0
          have HD1 : Hid (Below w0.heap.size w0 v1) := mine_grown (mine_below HMq.out (alloc_below _ _)) (HDq.out.alloc HDq.out.size _) (by rw [World.size_alloc]; exact Nat.le_succ_of_le HDq.out.size) hgr0
          obtain ⟨p1, q1⟩ := HF.out v1 HD1.out
          clear hown0 hgr0
          go_wp2_with (at_builtin; refine list_one ki _ rfl _ _ rfl w0.heap.size (.slice (some ⟨g0, 0, none⟩) 1 cap0) ([(i : Int) + 1] : List Int) rfl (mine_below HM1.out (alloc_below _ _)) ⟨v1.heap.size, 0, none⟩ 1 ((i : Int) - W) rfl (new_one _ _ _) (by simp) (by rw [World.size_alloc]; exact Nat.le_succ_of_le HD1.out.size) ?_)
          intro g1 cap1 v2 hown1 hgr1
          have HM2 : Hid (mine 3 vi w0.heap.size v2 (.slice (some ⟨g1, 0, none⟩) 2 cap1) ([(i : Int) + 1, (i : Int) - W] : List Int)) := hown1
          have HD2 : Hid (Below w0.heap.size w0 v2) := mine_grown (mine_below HM1.out (alloc_below _ _)) (HD1.out.alloc HD1.out.size _) (by rw [World.size_alloc]; exact Nat.le_succ_of_le HD1.out.size) hgr1
          obtain ⟨p2, q2⟩ := HF.out v2 HD2.out
          clear hown1 hgr1
          go_wp2_with fail
          go_ret
          refine ⟨_, rfl, ?_, HB0.out.trans (HD2.out.mono HB0.out.size)⟩
          have e : sts W H i = ([(i : Int) + 1, (i : Int) - W] : List Int) := by unfold sts; simp [h1.out, h2.out, h3.out, h4.out]
          rw [e]; exact mine_mono HM2.out HB0.out.size
      · have h3 : Hid ((W ≤ i) = False) := by simpa [Hid] using c3
        have d3 : decide ((W : Int) ≤ (i : Int)) = false := by simp; omega
        by_cases c4 : i + W < W * H
        · have h4 : Hid ((i + W < W * H) = True) := by simpa [Hid] using c4
          have d4 : decide ((i : Int) + (W : Int) < (W : Int) * (H : Int)) = true := by simp; omega
          go_wp2_with fail
          go_quiet (fail)
          have HMq : Hid (mine 3 vi w0.heap.size (w0.drewN nq) (.slice none 0 0) ([] : List Int)) := HM0.out
          have HDq : Hid (Below w0.heap.size w0 (w0.drewN nq)) := below_drewN HD0.out nq
          obtain ⟨pq, qq⟩ := HF.out _ HDq.out
          generalize w0.drewN nq = wq at HMq HDq pq qq ⊢
          go_wp2_with (at_builtin; refine list_one ki _ rfl _ _ rfl w0.heap.size (.slice none 0 0) ([] : List Int) rfl (mine_below HMq.out (alloc_below _ _)) ⟨wq.heap.size, 0, none⟩ 1 ((i : Int) + 1) rfl (new_one _ _ _) (by simp) (by rw [World.size_alloc]; exact Nat.le_succ_of_le HDq.out.size) ?_)
          intro g0 cap0 v1 hown0 hgr0
          have HM1 : Hid (mine 3 vi w0.heap.size v1 (.slice (some ⟨g0, 0, none⟩) 1 cap0) ([(i : Int) + 1] : List Int)) := hown0
          have HD1 : Hid (Below w0.heap.size w0 v1) := mine_grown (mine_below HMq.out (alloc_below _ _)) (HDq.out.alloc HDq.out.size _) (by rw [World.size_alloc]; exact Nat.le_succ_of_le HDq.out.size) hgr0
          obtain ⟨p1, q1⟩ := HF.out v1 HD1.out
          clear hown0 hgr0
          go_wp2_with (at_builtin; refine list_one ki _ rfl _ _ rfl w0.heap.size (.slice (some ⟨g0, 0, none⟩) 1 cap0) ([(i : Int) + 1] : List Int) rfl (mine_below HM1.out (alloc_below _ _)) ⟨v1.heap.size, 0, none⟩ 1 ((i : Int) + W) rfl (new_one _ _ _) (by simp) (by rw [World.size_alloc]; exact Nat.le_succ_of_le HD1.out.size) ?_)
          intro g1 cap1 v2 hown1 hgr1
          have HM2 : Hid (mine 3 vi w0.heap.size v2 (.slice (some ⟨g1, 0, none⟩) 2 cap1) ([(i : Int) + 1, (i : Int) + W] : List Int)) := hown1
          have HD2 : Hid (Below w0.heap.size w0 v2) := mine_grown (mine_below HM1.out (alloc_below _ _)) (HD1.out.alloc HD1.out.size _) (by rw [World.size_alloc]; exact Nat.le_succ_of_le HD1.out.size) hgr1
          obtain ⟨p2, q2⟩ := HF.out v2 HD2.out
          clear hown1 hgr1
          go_wp2_with fail
          go_ret
          refine ⟨_, rfl, ?_, HB0.out.trans (HD2.out.mono HB0.out.size)⟩
          have e : sts W H i = ([(i : Int) + 1, (i : Int) + W] : List Int) := by unfold sts; simp [h1.out, h2.out, h3.out, h4.out]
          rw [e]; exact mine_mono HM2.out HB0.out.size
        · have h4 : Hid ((i + W < W * H) = False) := by simpa [Hid] using c4
          have d4 : decide ((i : Int) + (W : Int) < (W : Int) * (H : Int)) = false := by simp; omega
          go_wp2_with fail
          go_quiet (fail)
          have HMq : Hid (mine 3 vi w0.heap.size (w0.drewN nq) (.slice none 0 0) ([] : List Int)) := HM0.out
          have HDq : Hid (Below w0.heap.size w0 (w0.drewN nq)) := below_drewN HD0.out nq
          obtain ⟨pq, qq⟩ := HF.out _ HDq.out
          generalize w0.drewN nq = wq at HMq HDq pq qq ⊢
          go_wp2_with (at_builtin; refine list_one ki _ rfl _ _ rfl w0.heap.size (.slice none 0 0) ([] : List Int) rfl (mine_below HMq.out (alloc_below _ _)) ⟨wq.heap.size, 0, none⟩ 1 ((i : Int) + 1) rfl (new_one _ _ _) (by simp) (by rw [World.size_alloc]; exact Nat.le_succ_of_le HDq.out.size) ?_)
          intro g0 cap0 v1 hown0 hgr0
          have HM1 : Hid (mine 3 vi w0.heap.size v1 (.slice (some ⟨g0, 0, none⟩) 1 cap0) ([(i : Int) + 1] : List Int)) := hown0
          have HD1 : Hid (Below w0.heap.size w0 v1) := mine_grown (mine_below HMq.out (alloc_below _ _)) (HDq.out.alloc HDq.out.size _) (by rw [World.size_alloc]; exact Nat.le_succ_of_le HDq.out.size) hgr0
          obtain ⟨p1, q1⟩ := HF.out v1 HD1.out
          clear hown0 hgr0
          go_wp2_with fail
          go_ret
          refine ⟨_, rfl, ?_, HB0.out.trans (HD1.out.mono HB0.out.size)⟩
          have e : sts W H i = ([(i : Int) + 1] : List Int) := by unfold sts; simp [h1.out, h2.out, h3.out, h4.out]
          rw [e]; exact mine_mono HM1.out HB0.out.size
    · have h2 : Hid ((i % W < W - 1) = False) := by simpa [Hid] using c2
      have d2 : decide ((R : Int) < (W : Int) - 1) = false := by simp; omega
      by_cases c3 : W ≤ i
      · have h3 : Hid ((W ≤ i) = True) := by simpa [Hid] using c3
        have d3 : decide ((W : Int) ≤ (i : Int)) = true := by simp; omega
        by_cases c4 : i + W < W * H
        · have h4 : Hid ((i + W < W * H) = True) := by simpa [Hid] using c4
          have d4 : decide ((i : Int) + (W : Int) < (W : Int) * (H : Int)) = true := by simp; omega
          go_wp2_with fail
          go_quiet (fail)
          have HMq : Hid (mine 3 vi w0.heap.size (w0.drewN nq) (.slice none 0 0) ([] : List Int)) := HM0.out
          have HDq : Hid (Below w0.heap.size w0 (w0.drewN nq)) := below_drewN HD0.out nq
          obtain ⟨pq, qq⟩ := HF.out _ HDq.out
          generalize w0.drewN nq = wq at HMq HDq pq qq ⊢
          go_wp2_with (at_builtin; refine list_one ki _ rfl _ _ rfl w0.heap.size (.slice none 0 0) ([] : List Int) rfl (mine_below HMq.out (alloc_below _ _)) ⟨wq.heap.size, 0, none⟩ 1 ((i : Int) - W) rfl (new_one _ _ _) (by simp) (by rw [World.size_alloc]; exact Nat.le_succ_of_le HDq.out.size) ?_)
          intro g0 cap0 v1 hown0 hgr0
          have HM1 : Hid (mine 3 vi w0.heap.size v1 (.slice (some ⟨g0, 0, none⟩) 1 cap0) ([(i : Int) - W] : List Int)) := hown0
          have HD1 : Hid (Below w0.heap.size w0 v1) := mine_grown (mine_below HMq.out (alloc_below _ _)) (HDq.out.alloc HDq.out.size _) (by rw [World.size_alloc]; exact Nat.le_succ_of_le HDq.out.size) hgr0
          obtain ⟨p1, q1⟩ := HF.out v1 HD1.out
          clear hown0 hgr0
          go_wp2_with (at_builtin; refine list_one ki _ rfl _ _ rfl w0.heap.size (.slice (some ⟨g0, 0, none⟩) 1 cap0) ([(i : Int) - W] : List Int) rfl (mine_below HM1.out (alloc_below _ _)) ⟨v1.heap.size, 0, none⟩ 1 ((i : Int) + W) rfl (new_one _ _ _) (by simp) (by rw [World.size_alloc]; exact Nat.le_succ_of_le HD1.out.size) ?_)
          intro g1 cap1 v2 hown1 hgr1
          have HM2 : Hid (mine 3 vi w0.heap.size v2 (.slice (some ⟨g1, 0, none⟩) 2 cap1) ([(i : Int) - W, (i : Int) + W] : List Int)) := hown1
          have HD2 : Hid (Below w0.heap.size w0 v2) := mine_grown (mine_below HM1.out (alloc_below _ _)) (HD1.out.alloc HD1.out.size _) (by rw [World.size_alloc]; exact Nat.le_succ_of_le HD1.out.size) hgr1
          obtain ⟨p2, q2⟩ := HF.out v2 HD2.out
          clear hown1 hgr1
          go_wp2_with fail
          go_ret
          refine ⟨_, rfl, ?_, HB0.out.trans (HD2.out.mono HB0.out.size)⟩
          have e : sts W H i = ([(i : Int) - W, (i : Int) + W] : List Int) := by unfold sts; simp [h1.out, h2.out, h3.out, h4.out]
          rw [e]; exact mine_mono HM2.out HB0.out.size
        · have h4 : Hid ((i + W < W * H) = False) := by simpa [Hid] using c4
          have d4 : decide ((i : Int) + (W : Int) < (W : Int) * (H : Int)) = false := by simp; omega
          go_wp2_with fail
          go_quiet (fail)
          have HMq : Hid (mine 3 vi w0.heap.size (w0.drewN nq) (.slice none 0 0) ([] : List Int)) := HM0.out
          have HDq : Hid (Below w0.heap.size w0 (w0.drewN nq)) := below_drewN HD0.out nq
          obtain ⟨pq, qq⟩ := HF.out _ HDq.out
          generalize w0.drewN nq = wq at HMq HDq pq qq ⊢
          go_wp2_with (at_builtin; refine list_one ki _ rfl _ _ rfl w0.heap.size (.slice none 0 0) ([] : List Int) rfl (mine_below HMq.out (alloc_below _ _)) ⟨wq.heap.size, 0, none⟩ 1 ((i : Int) - W) rfl (new_one _ _ _) (by simp) (by rw [World.size_alloc]; exact Nat.le_succ_of_le HDq.out.size) ?_)
          intro g0 cap0 v1 hown0 hgr0
          have HM1 : Hid (mine 3 vi w0.heap.size v1 (.slice (some ⟨g0, 0, none⟩) 1 cap0) ([(i : Int) - W] : List Int)) := hown0
          have HD1 : Hid (Below w0.heap.size w0 v1) := mine_grown (mine_below HMq.out (alloc_below _ _)) (HDq.out.alloc HDq.out.size _) (by rw [World.size_alloc]; exact Nat.le_succ_of_le HDq.out.size) hgr0
          obtain ⟨p1, q1⟩ := HF.out v1 HD1.out
          clear hown0 hgr0
          go_wp2_with fail
          go_ret
          refine ⟨_, rfl, ?_, HB0.out.trans (HD1.out.mono HB0.out.size)⟩
          have e : sts W H i = ([(i : Int) - W] : List Int) := by unfold sts; simp [h1.out, h2.out, h3.out, h4.out]
          rw [e]; exact mine_mono HM1.out HB0.out.size
      · have h3 : Hid ((W ≤ i) = False) := by simpa [Hid] using c3
        have d3 : decide ((W : Int) ≤ (i : Int)) = false := by simp; omega
        by_cases c4 : i + W < W * H
        · have h4 : Hid ((i + W < W * H) = True) := by simpa [Hid] using c4
          have d4 : decide ((i : Int) + (W : Int) < (W : Int) * (H : Int)) = true := by simp; omega
          go_wp2_with fail
          go_quiet (fail)
          have HMq : Hid (mine 3 vi w0.heap.size (w0.drewN nq) (.slice none 0 0) ([] : List Int)) := HM0.out
          have HDq : Hid (Below w0.heap.size w0 (w0.drewN nq)) := below_drewN HD0.out nq
          obtain ⟨pq, qq⟩ := HF.out _ HDq.out
          generalize w0.drewN nq = wq at HMq HDq pq qq ⊢
          go_wp2_with (at_builtin; refine list_one ki _ rfl _ _ rfl w0.heap.size (.slice none 0 0) ([] : List Int) rfl (mine_below HMq.out (alloc_below _ _)) ⟨wq.heap.size, 0, none⟩ 1 ((i : Int) + W) rfl (new_one _ _ _) (by simp) (by rw [World.size_alloc]; exact Nat.le_succ_of_le HDq.out.size) ?_)
          intro g0 cap0 v1 hown0 hgr0
          have HM1 : Hid (mine 3 vi w0.heap.size v1 (.slice (some ⟨g0, 0, none⟩) 1 cap0) ([(i : Int) + W] : List Int)) := hown0
          have HD1 : Hid (Below w0.heap.size w0 v1) := mine_grown (mine_below HMq.out (alloc_below _ _)) (HDq.out.alloc HDq.out.size _) (by rw [World.size_alloc]; exact Nat.le_succ_of_le HDq.out.size) hgr0
          obtain ⟨p1, q1⟩ := HF.out v1 HD1.out
          clear hown0 hgr0
          go_wp2_with fail
          go_ret
          refine ⟨_, rfl, ?_, HB0.out.trans (HD1.out.mono HB0.out.size)⟩
          have e : sts W H i = ([(i : Int) + W] : List Int) := by unfold sts; simp [h1.out, h2.out, h3.out, h4.out]
          rw [e]; exact mine_mono HM1.out HB0.out.size
        · have h4 : Hid ((i + W < W * H) = False) := by simpa [Hid] using c4
          have d4 : decide ((i : Int) + (W : Int) < (W : Int) * (H : Int)) = false := by simp; omega
          go_wp2_with fail
          go_quiet (fail)
          have HMq : Hid (mine 3 vi w0.heap.size (w0.drewN nq) (.slice none 0 0) ([] : List Int)) := HM0.out
          have HDq : Hid (Below w0.heap.size w0 (w0.drewN nq)) := below_drewN HD0.out nq
          obtain ⟨pq, qq⟩ := HF.out _ HDq.out
          generalize w0.drewN nq = wq at HMq HDq pq qq ⊢
          go_wp2_with fail
          go_ret
          refine ⟨_, rfl, ?_, HB0.out.trans (HDq.out.mono HB0.out.size)⟩
          have e : sts W H i = ([] : List Int) := by unfold sts; simp [h1.out, h2.out, h3.out, h4.out]
          rw [e]; exact mine_mono HMq.out HB0.out.size
end Go.Proofs.Ytlekihmlifkjmaa
