/- The document's line, cell by cell: 'LineOf' returns the row of its cells. -/
import Derived.Test.YtjbfnibhmojlfaaLr
namespace Go.Proofs.Ytjbfnibhmojlfaa
open Go.RowKit
set_option linter.unusedVariables false
attribute [local go_sem ↓] Go.wp_at_zero Go.wp_at_succ

theorem apd_start (w : World) (X Y : Nat → Int) (x y : Value) (h0 : .int .i64 (X 0) = x) (h1 : .int .i64 (Y 0) = y) (o o' : Obj) (n : Nat) :
    apd (w.heap.size + 2) ((w.alloc o).alloc o') X Y 1 (.slice (some ⟨w.heap.size + 1 + 1, 0, none⟩) 1 1) ((((w.alloc o).alloc o').drewN n).alloc (.cells #[x, y] 40)) := by
  refine ⟨(below_drewN (Below.refl _ _) n).alloc (by simp) _, by simp, ?_, .inr ⟨w.heap.size + 2, 1, #[x, y], rfl, Nat.le_refl _, ?_, by omega, by unfold maxLen; omega, rfl, ?_⟩⟩
  · simp [cl]
  · have := heap_alloc_new (((w.alloc o).alloc o').drewN n) (.cells #[x, y] 40)
    simpa using this
  · simp [cl, h0, h1]

set_option maxRecDepth 100000 in
set_option maxHeartbeats 2000000 in
theorem LineOf_x (x y u v : Int) (K : Nat) (D E : Int) (X Y : Nat → Int) (w : World) (hk : K ≤ 120)
    (h0 : -1000 ≤ x) (h1 : x ≤ 1000) (h2 : -1000 ≤ y) (h3 : y ≤ 1000) (g0 : -1000 ≤ u) (g1 : u ≤ 1000) (g2 : -1000 ≤ v) (g3 : v ≤ 1000)
    (hD : ds x u = (K : Int)) (hE : ds y v = E) (e0 : 0 ≤ E) (e1 : E ≤ (K : Int))
    (HX : Hid (∀ k : Nat, bt x u k K = X k)) (HY : Hid (∀ k : Nat, bt y v k K = Y k)) :
    Calls Try.prog 81 #[.agg #[.int .i64 x, .int .i64 y], .agg #[.int .i64 u, .int .i64 v]] w fun e w' => ∃ g c, e = .returned (.slice (some ⟨g, 0, none⟩) (K + 1) c) ∧ Below w.heap.size w w' ∧ w.heap.size ≤ g ∧ lies w' g (K + 1) X Y := by
  obtain ⟨i0, hi, hz0, hz1, hz2⟩ := info_parts infoc
  have X0 : X 0 = x := by rw [← HX.out]; exact bt_zero _ _ _ (by omega)
  have Y0 : Y 0 = y := by rw [← HY.out]; exact bt_zero _ _ _ (by omega)
  have HXX : Hid (X 0 = x) := X0
  have HYY : Hid (Y 0 = y) := Y0
  clear X0 Y0
  go_enter Try.func81, Try.ntmps81
  go_wp2_with fail
  go_quiet ((go_at_call 60; exact Calls.quiet_of_same (Far_any _ _ _ (by omega) (by omega) (by omega) (by omega))))
  go_wp2_with fail
  rw [hD, hE]
  have HDD : Hid (ds x u = (K : Int)) := hD
  clear hD hE
  go_loopw [7, 8] (fun o i wr => ∃ j : Nat, j ≤ K ∧ i = .int .i64 ((j : Int) + 1) ∧ apd (w.heap.size + 2) ((w.alloc (.cells #[.int .i64 x, .int .i64 y] 40)).alloc (.cells #[.int .i64 u, .int .i64 v] 40)) X Y (j + 1) o wr) (fun _ i _ => K + 1 - (intOf i).toNat)
  case atStart => exact ⟨0, by omega, rfl, apd_start w X Y _ _ (by rw [HXX.out]) (by rw [HYY.out]) _ _ nq⟩
  case round =>
    obtain ⟨j, hj, rfl, R⟩ := hrel
    have HR : Hid (apd _ _ X Y (j + 1) _ wr) := R
    by_cases hlt : j < K
    · obtain ⟨c0, c1, c2, c3⟩ := box2 (R.1.mono (by simp))
      have hown := R.2.2
      have l1 : w.heap.size + 1 < wr.heap.size := by have := R.2.1; omega
      have l0 : w.heap.size < wr.heap.size := by omega
      clear R
      have pk := mul_bd (a := (j : Int) + 1) (b := u - x) (M := 120) (N := 2000) (by omega) (by omega) (by omega) (by omega)
      obtain ⟨pk0, pk1⟩ := pk
      obtain ⟨Q, hQ⟩ : ∃ Q, (((j : Int) + 1) * (u - x)).tdiv K = Q := ⟨_, rfl⟩
      have XQ : x + Q = X (j + 1) := by
        rw [← HX.out, ← hQ, bt_long x u _ _ (by omega) HDD.out]
        have := HDD.out
        unfold ds at this
        by_cases c : u < x
        · rw [if_pos c, show u - x = -(K : Int) by omega, Int.mul_neg, Int.neg_tdiv, Int.mul_tdiv_cancel _ (by omega)]; omega
        · rw [if_neg c, show u - x = (K : Int) by omega, Int.mul_tdiv_cancel _ (by omega)]; omega
      have q0 : -1000 ≤ Q := by
        have := HDD.out
        unfold ds at this
        by_cases c : u < x
        · rw [← hQ, show u - x = -(K : Int) by omega, Int.mul_neg, Int.neg_tdiv, Int.mul_tdiv_cancel _ (by omega)]; omega
        · rw [← hQ, show u - x = (K : Int) by omega, Int.mul_tdiv_cancel _ (by omega)]; omega
      have q1 : Q ≤ 1000 := by
        have := HDD.out
        unfold ds at this
        by_cases c : u < x
        · rw [← hQ, show u - x = -(K : Int) by omega, Int.mul_neg, Int.neg_tdiv, Int.mul_tdiv_cancel _ (by omega)]; omega
        · rw [← hQ, show u - x = (K : Int) by omega, Int.mul_tdiv_cancel _ (by omega)]; omega
      have HYJ : bt y v ((j : Int) + 1) K = Y (j + 1) := by rw [← HY.out]; rfl
      go_wp2_with fail
      go_region
      go_wp2_with fail
      refine (aside_any _ _ _ _ _ (by omega) (by omega) (by omega) (by omega) (by omega) (by omega) (by omega) (by omega)).mono ?_
      rintro e w1 ⟨rfl, hw1⟩
      subst w1
      go_wp2_with (at_builtin; refine wpList_append_own _ rfl _ _ 25 rfl (w.heap.size + 2) 40 i0 (.agg #[.int .i64 0, .int .i64 0]) 2 16 Try.underlying25 hi hz0 hz1 hz2 rfl (by decide) _ _ _ rfl ((hown.alloc _).alloc _).drew ⟨wr.heap.size + 1, 0, none⟩ 1 1 [.int .i64 (X (j + 1)), .int .i64 (Y (j + 1))] rfl rfl ?c1 ?c2 ?c3 ?c4 ?c5 ?_)
      case c1 =>
        intro i t ht
        match i, ht with
        | 0, ht => simp at ht; subst ht; simp [Addr.add, go_sem]
        | 1, ht => simp at ht; subst ht; simp [Addr.add, go_sem]
      case c2 => intro t ht; simp at ht; rcases ht with rfl | rfl <;> rfl
      case c3 => unfold maxLen; omega
      case c4 => omega
      case c5 => simp; omega
      · intro v' w1 hown' hgrow _
        have AN := apd_next HR.out (((Below.refl _ _).alloc (Nat.le_refl _) _).alloc (by simp) _).drew hown' hgrow
        have HN : Hid (apd _ _ X Y (j + 1 + 1) v' w1) := AN
        clear hown' hgrow hown AN
        go_wp2_with fail
        go_roundw
        case rel => exact ⟨j + 1, by omega, by go_num, HN.out⟩
        case measure => simp [intOf]; omega
    · obtain rfl : j = K := by omega
      obtain ⟨g, c, rfl, hg, hl⟩ := apd_end (by omega) R
      have HB : Hid (Below _ _ wr) := R.1
      have HL : Hid (lies wr g _ X Y) := hl
      clear R HR hl
      go_wp2_with fail
      go_ret
      exact ⟨g, c, rfl, (((Below.refl _ _).alloc (Nat.le_refl _) _).alloc (by simp) _).trans (HB.out.mono (by omega)), by omega, HL.out⟩
set_option maxRecDepth 100000 in
set_option maxHeartbeats 2000000 in
theorem LineOf_y (x y u v : Int) (K : Nat) (D E : Int) (X Y : Nat → Int) (w : World) (hk : K ≤ 120)
    (h0 : -1000 ≤ x) (h1 : x ≤ 1000) (h2 : -1000 ≤ y) (h3 : y ≤ 1000) (g0 : -1000 ≤ u) (g1 : u ≤ 1000) (g2 : -1000 ≤ v) (g3 : v ≤ 1000)
    (hD : ds x u = D) (hE : ds y v = (K : Int)) (e0 : 0 ≤ D) (e1 : D < (K : Int))
    (HX : Hid (∀ k : Nat, bt x u k K = X k)) (HY : Hid (∀ k : Nat, bt y v k K = Y k)) :
    Calls Try.prog 81 #[.agg #[.int .i64 x, .int .i64 y], .agg #[.int .i64 u, .int .i64 v]] w fun e w' => ∃ g c, e = .returned (.slice (some ⟨g, 0, none⟩) (K + 1) c) ∧ Below w.heap.size w w' ∧ w.heap.size ≤ g ∧ lies w' g (K + 1) X Y := by
  obtain ⟨i0, hi, hz0, hz1, hz2⟩ := info_parts infoc
  have X0 : X 0 = x := by rw [← HX.out]; exact bt_zero _ _ _ (by omega)
  have Y0 : Y 0 = y := by rw [← HY.out]; exact bt_zero _ _ _ (by omega)
  have HXX : Hid (X 0 = x) := X0
  have HYY : Hid (Y 0 = y) := Y0
  clear X0 Y0
  go_enter Try.func81, Try.ntmps81
  go_wp2_with fail
  go_quiet ((go_at_call 60; exact Calls.quiet_of_same (Far_any _ _ _ (by omega) (by omega) (by omega) (by omega))))
  go_wp2_with fail
  rw [hD, hE]
  have HDD : Hid (ds y v = (K : Int)) := hE
  clear hD hE
  go_loopw [7, 8] (fun o i wr => ∃ j : Nat, j ≤ K ∧ i = .int .i64 ((j : Int) + 1) ∧ apd (w.heap.size + 2) ((w.alloc (.cells #[.int .i64 x, .int .i64 y] 40)).alloc (.cells #[.int .i64 u, .int .i64 v] 40)) X Y (j + 1) o wr) (fun _ i _ => K + 1 - (intOf i).toNat)
  case atStart => exact ⟨0, by omega, rfl, apd_start w X Y _ _ (by rw [HXX.out]) (by rw [HYY.out]) _ _ nq⟩
  case round =>
    obtain ⟨j, hj, rfl, R⟩ := hrel
    have HR : Hid (apd _ _ X Y (j + 1) _ wr) := R
    by_cases hlt : j < K
    · obtain ⟨c0, c1, c2, c3⟩ := box2 (R.1.mono (by simp))
      have hown := R.2.2
      have l1 : w.heap.size + 1 < wr.heap.size := by have := R.2.1; omega
      have l0 : w.heap.size < wr.heap.size := by omega
      clear R
      have pk := mul_bd (a := (j : Int) + 1) (b := v - y) (M := 120) (N := 2000) (by omega) (by omega) (by omega) (by omega)
      obtain ⟨pk0, pk1⟩ := pk
      obtain ⟨Q, hQ⟩ : ∃ Q, (((j : Int) + 1) * (v - y)).tdiv K = Q := ⟨_, rfl⟩
      have XQ : y + Q = Y (j + 1) := by
        rw [← HY.out, ← hQ, bt_long y v _ _ (by omega) HDD.out]
        have := HDD.out
        unfold ds at this
        by_cases c : v < y
        · rw [if_pos c, show v - y = -(K : Int) by omega, Int.mul_neg, Int.neg_tdiv, Int.mul_tdiv_cancel _ (by omega)]; omega
        · rw [if_neg c, show v - y = (K : Int) by omega, Int.mul_tdiv_cancel _ (by omega)]; omega
      have q0 : -1000 ≤ Q := by
        have := HDD.out
        unfold ds at this
        by_cases c : v < y
        · rw [← hQ, show v - y = -(K : Int) by omega, Int.mul_neg, Int.neg_tdiv, Int.mul_tdiv_cancel _ (by omega)]; omega
        · rw [← hQ, show v - y = (K : Int) by omega, Int.mul_tdiv_cancel _ (by omega)]; omega
      have q1 : Q ≤ 1000 := by
        have := HDD.out
        unfold ds at this
        by_cases c : v < y
        · rw [← hQ, show v - y = -(K : Int) by omega, Int.mul_neg, Int.neg_tdiv, Int.mul_tdiv_cancel _ (by omega)]; omega
        · rw [← hQ, show v - y = (K : Int) by omega, Int.mul_tdiv_cancel _ (by omega)]; omega
      have HYJ : bt x u ((j : Int) + 1) K = X (j + 1) := by rw [← HX.out]; rfl
      go_wp2_with fail
      go_region
      go_wp2_with fail
      refine (aside_any _ _ _ _ _ (by omega) (by omega) (by omega) (by omega) (by omega) (by omega) (by omega) (by omega)).mono ?_
      rintro e w1 ⟨rfl, hw1⟩
      subst w1
      go_wp2_with (at_builtin; refine wpList_append_own _ rfl _ _ 25 rfl (w.heap.size + 2) 40 i0 (.agg #[.int .i64 0, .int .i64 0]) 2 16 Try.underlying25 hi hz0 hz1 hz2 rfl (by decide) _ _ _ rfl ((hown.alloc _).alloc _).drew ⟨wr.heap.size + 1, 0, none⟩ 1 1 [.int .i64 (X (j + 1)), .int .i64 (Y (j + 1))] rfl rfl ?c1 ?c2 ?c3 ?c4 ?c5 ?_)
      case c1 =>
        intro i t ht
        match i, ht with
        | 0, ht => simp at ht; subst ht; simp [Addr.add, go_sem]
        | 1, ht => simp at ht; subst ht; simp [Addr.add, go_sem]
      case c2 => intro t ht; simp at ht; rcases ht with rfl | rfl <;> rfl
      case c3 => unfold maxLen; omega
      case c4 => omega
      case c5 => simp; omega
      · intro v' w1 hown' hgrow _
        have AN := apd_next HR.out (((Below.refl _ _).alloc (Nat.le_refl _) _).alloc (by simp) _).drew hown' hgrow
        have HN : Hid (apd _ _ X Y (j + 1 + 1) v' w1) := AN
        clear hown' hgrow hown AN
        go_wp2_with fail
        go_roundw
        case rel => exact ⟨j + 1, by omega, by go_num, HN.out⟩
        case measure => simp [intOf]; omega
    · obtain rfl : j = K := by omega
      obtain ⟨g, c, rfl, hg, hl⟩ := apd_end (by omega) R
      have HB : Hid (Below _ _ wr) := R.1
      have HL : Hid (lies wr g _ X Y) := hl
      clear R HR hl
      go_wp2_with fail
      go_ret
      exact ⟨g, c, rfl, (((Below.refl _ _).alloc (Nat.le_refl _) _).alloc (by simp) _).trans (HB.out.mono (by omega)), by omega, HL.out⟩

theorem LineOf_any (x y u v : Int) (K : Nat) (w : World) (h : Hid (near x y = true)) (g : Hid (near u v = true)) (hK : Hid (kg x y u v = K)) (hk : K ≤ 120) :
    Calls Try.prog 81 #[.agg #[.int .i64 x, .int .i64 y], .agg #[.int .i64 u, .int .i64 v]] w fun e w' => ∃ g c, e = .returned (.slice (some ⟨g, 0, none⟩) (K + 1) c) ∧ Below w.heap.size w w' ∧ w.heap.size ≤ g ∧ lies w' g (K + 1) (fun k => bt x u k K) (fun k => bt y v k K) := by
  have h' := near_yes h.out
  have g' := near_yes g.out
  have hc := kg_cases x y u v
  have hK' := hK.out
  have n1 := ds_nonneg x u
  have n2 := ds_nonneg y v
  by_cases c : ds x u = K
  · exact LineOf_x x y u v K 0 (ds y v) _ _ w hk (by omega) (by omega) (by omega) (by omega) (by omega) (by omega) (by omega) (by omega) c rfl (by omega) (by omega) (fun k => rfl) (fun k => rfl)
  · exact LineOf_y x y u v K (ds x u) 0 _ _ w hk (by omega) (by omega) (by omega) (by omega) (by omega) (by omega) (by omega) (by omega) rfl (by omega) (by omega) (by omega) (fun k => rfl) (fun k => rfl)

end Go.Proofs.Ytjbfnibhmojlfaa
