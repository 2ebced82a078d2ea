/- What slices.Equal, slices.Contains and slices.IsSorted return of numbers. -/
import Derived.Test.YtnbbfnlfcncgnaaWd
namespace Go.Proofs.Ytnbbfnlfcncgnaa
open Go.RowKit
set_option linter.unusedVariables false

set_option maxRecDepth 20000 in
set_option maxHeartbeats 1000000 in
theorem Equal_yes (p q : Option Addr) (n c d : Nat) (l : List Int) (w : World) (hn : l.length = n) (hm : n ≤ 9223372036854775807) (h1 : row vi w p l) (h2 : row vi w q l) :
    Calls Try.prog 17 #[.slice p n c, .slice q n d] w fun e w' => e = .returned (.bool true) ∧ ∃ m, w' = w.drewN m := by
  have H1 : Hid (row vi w p l) := h1
  have H2 : Hid (row vi w q l) := h2
  have HN : Hid (l.length = n) := hn
  clear h1 h2 hn
  go_enter Try.func17, Try.ntmps17
  go_wp2_with fail
  go_loopw [13] (fun i wr => ∃ k : Nat, i = .int .i64 k ∧ k ≤ n ∧ ∃ m, wr = w.drewN m) (fun i _ => n - (intOf i).toNat)
  case atStart => exact ⟨0, rfl, by omega, 0, rfl⟩
  case round =>
    obtain ⟨k, rfl, hk, m, rfl⟩ := hrel
    by_cases hlt : k < n
    · obtain ⟨a, rfl, ha⟩ := row_at H1.out (j := k) (by rw [HN.out]; exact hlt)
      obtain ⟨b, rfl, hb⟩ := row_at H2.out (j := k) (by rw [HN.out]; exact hlt)
      obtain ⟨X, hX⟩ : ∃ X, l[k]'(by rw [HN.out]; exact hlt) = X := ⟨_, rfl⟩
      rw [hX] at ha hb
      clear hX
      have ha' : (w.drewN m).cell? (a.add k) = some (.int .i64 X) := ha
      have hb' : (w.drewN m).cell? (b.add k) = some (.int .i64 X) := hb
      have HQ : Hid (∀ n, ∃ q, (w.drewN m).drewN n = w.drewN q) := fun n => ⟨_, World.drewN_drewN _ _ _⟩
      clear ha hb
      generalize w.drewN m = w5 at ha' hb' HQ ⊢
      have l1 : (k : Int) < n := by omega
      have l2 : (0 : Int) ≤ k := by omega
      go_wp2_with fail
      go_quiet (fail)
      go_wp2_with fail
      go_roundw
      case rel => exact ⟨k + 1, by go_num, by omega, HQ.out _⟩
      case measure => simp [intOf]; omega
    · go_wp2_with fail
      go_ret
      exact ⟨rfl, m, rfl⟩
theorem Equal_b (p q : Option Addr) (n c d : Nat) (l : List Int) (w : World) (hn : l.length = n) (hm : n ≤ 9223372036854775807) (h1 : row vi w p l) (h2 : row vi w q l) :
    Calls Try.prog 17 #[.slice p n c, .slice q n d] w fun e w' => e = .returned (.bool true) ∧ Below w.heap.size w w' := by
  refine (Equal_yes p q n c d l w hn hm h1 h2).mono ?_
  rintro e w' ⟨rfl, m, rfl⟩
  exact ⟨rfl, below_drewN (Below.refl _ _) m⟩
/-- Does a number stand in a list? -/
def has (v : Int) (l : List Int) : Bool := l.any fun x => x == v
theorem has_take {v : Int} {l : List Int} {k : Nat} (hk : k < l.length) (h : has v (l.take k) = false) : has v (l.take (k + 1)) = (l[k] == v) := by
  unfold has at h ⊢
  rw [List.take_succ_eq_append_getElem hk, List.any_append, h]; simp
set_option maxRecDepth 20000 in
set_option maxHeartbeats 1000000 in
theorem Indexi_any (p : Option Addr) (c : Nat) (l : List Int) (v : Int) (w : World) (hr : row vi w p l) (hm : l.length ≤ 9223372036854775807) :
    Calls Try.prog 56 #[.slice p l.length c, .int .i64 v] w fun e w' => (∃ r : Int, e = .returned (.int .i64 r) ∧ decide (0 ≤ r) = has v l) ∧ w' = w := by
  have H1 : Hid (row vi w p l) := hr
  obtain ⟨n, hn⟩ : ∃ n, l.length = n := ⟨_, rfl⟩
  rw [hn] at hm ⊢
  have HN : Hid (l.length = n) := hn
  clear hr hn
  go_enter Try.func56, Try.ntmps56
  go_wp2_with fail
  go_loop [8] (fun i => ∃ k : Nat, i = .int .i64 k ∧ k ≤ n ∧ Hid (has v (l.take k) = false)) (fun i => n - (intOf i).toNat)
  case atStart => exact ⟨0, rfl, by omega, by unfold Hid; simp [has]⟩
  case round =>
    obtain ⟨k, rfl, hk, HK⟩ := hrel
    by_cases hlt : k < n
    · have hkl : k < l.length := by rw [HN.out]; exact hlt
      obtain ⟨a, rfl, ha⟩ := row_at H1.out hkl
      have hat := has_take hkl HK.out
      have HT : Hid (has v (l.take (k + 1)) = true → has v l = true) := fun h => by
        unfold has at h ⊢
        rw [← List.take_append_drop (k + 1) l, List.any_append, h]; rfl
      obtain ⟨X, hX⟩ : ∃ X, l[k] = X := ⟨_, rfl⟩
      rw [hX] at ha hat
      have ha' : w.cell? (a.add k) = some (.int .i64 X) := ha
      clear ha hX
      have HA : Hid (has v (l.take (k + 1)) = (X == v)) := hat
      clear hat
      have l1 : (k : Int) < n := by omega
      have l2 : (0 : Int) ≤ k := by omega
      by_cases he : X = v
      · subst he
        go_wp2_with fail
        go_ret
        refine ⟨⟨_, rfl, ?_⟩, rfl⟩
        rw [HT.out (by rw [HA.out]; simp)]; simp
      · have d1 : (X == v) = false := by simp [he]
        have d2 : (v == X) = false := by simp; exact fun h => he h.symm
        have HA2 : Hid (has v (l.take (k + 1)) = false) := by unfold Hid; rw [HA.out]; exact d1
        go_wp2_with fail
        go_round
        case rel => exact ⟨k + 1, by go_num, by omega, HA2⟩
        case measure => simp [intOf]; omega
    · have HE : Hid (has v l = false) := by
        have e : l.take k = l := List.take_of_length_le (by rw [HN.out]; omega)
        have := HK.out; rw [e] at this; exact this
      go_wp2_with fail
      go_ret
      exact ⟨⟨_, rfl, by rw [HE.out]; decide⟩, rfl⟩
set_option maxRecDepth 20000 in
theorem Containsi_any (p : Option Addr) (n c : Nat) (l : List Int) (v : Int) (b : Bool) (w : World) (hr : row vi w p l) (hn : l.length = n) (hm : n ≤ 9223372036854775807) (hb : Hid (has v l = b)) :
    Calls Try.prog 21 #[.slice p n c, .int .i64 v] w fun e w' => e = .returned (.bool b) ∧ w' = w := by
  subst hn
  have H1 : Hid (row vi w p l) := hr
  clear hr
  go_enter Try.func21, Try.ntmps21
  go_wp2_with fail
  refine (Indexi_any p c l v w H1.out hm).mono ?_
  rintro e w' ⟨⟨r, rfl, hd⟩, hw⟩; subst w'
  rw [hb.out] at hd
  subst hd
  go_wp2_with fail
  go_ret
  exact ⟨rfl, rfl⟩

set_option maxRecDepth 20000 in
theorem isNaN_any (x : Int) (w : World) : Calls Try.prog 81 #[.int .i64 x] w fun e w' => e = .returned (.bool false) ∧ w' = w := by
  have h : (x != x) = false := by simp
  go_enter Try.func81, Try.ntmps81
  go_wp2
  go_ret
  exact ⟨by simp, rfl⟩
set_option maxRecDepth 20000 in
theorem Less_ge (x y : Int) (w : World) (h : y ≤ x) : Calls Try.prog 55 #[.int .i64 x, .int .i64 y] w fun e w' => e = .returned (.bool false) ∧ w' = w := by
  go_enter Try.func55, Try.ntmps55
  go_wp2_with (go_at_call 81; refine (isNaN_any _ _).mono ?_; rintro e w' ⟨rfl, rfl⟩)
  go_ret
  exact ⟨by first | rfl | (simp; omega), rfl⟩
set_option maxRecDepth 20000 in
set_option maxHeartbeats 1000000 in
theorem IsSorted_yes (p : Option Addr) (n c : Nat) (l : List Int) (w : World) (hn : l.length = n) (hm : n ≤ 1000000) (h1 : row vi w p l) (h2 : ∀ k, k + 1 < l.length → l.getD k 0 ≤ l.getD (k + 1) 0) :
    Calls Try.prog 20 #[.slice p n c] w fun e w' => e = .returned (.bool true) ∧ Below w.heap.size w w' := by
  have H1 : Hid (row vi w p l) := h1
  have HN : Hid (l.length = n) := hn
  have H2 : Hid (∀ k, k + 1 < l.length → l.getD k 0 ≤ l.getD (k + 1) 0) := h2
  clear h1 hn h2
  go_enter Try.func20, Try.ntmps20
  go_wp2_with fail
  go_loopw [3] (fun i wr => ∃ k : Int, i = .int .i64 k ∧ -1 ≤ k ∧ k < n ∧ ∃ m, wr = w.drewN m) (fun i _ => ((intOf i) + 1).toNat)
  case atStart => exact ⟨(n : Int) - 1, rfl, by omega, by omega, 0, rfl⟩
  case round =>
    obtain ⟨k, rfl, hk, hk2, m, rfl⟩ := hrel
    by_cases hlt : 0 < k
    · obtain ⟨j, hj⟩ : ∃ j : Nat, k = (j : Int) + 1 := ⟨(k - 1).toNat, by omega⟩
      subst hj
      obtain ⟨a, rfl, ha⟩ := row_at H1.out (j := j) (by rw [HN.out]; omega)
      obtain ⟨b, e, hb⟩ := row_at H1.out (j := j + 1) (by rw [HN.out]; omega)
      cases e
      have hle := H2.out j (by rw [HN.out]; omega)
      rw [List.getD_eq_getElem?_getD, List.getD_eq_getElem?_getD, List.getElem?_eq_getElem (by rw [HN.out]; omega), List.getElem?_eq_getElem (by rw [HN.out]; omega)] at hle
      simp only [Option.getD_some] at hle
      obtain ⟨X, hX⟩ : ∃ X, l[j]'(by rw [HN.out]; omega) = X := ⟨_, rfl⟩
      obtain ⟨Y, hY⟩ : ∃ Y, l[j + 1]'(by rw [HN.out]; omega) = Y := ⟨_, rfl⟩
      rw [hX] at ha hle
      rw [hY] at hb hle
      clear hX hY
      have ha' : (w.drewN m).cell? (a.add j) = some (.int .i64 X) := ha
      have hb' : (w.drewN m).cell? (a.add (j + 1)) = some (.int .i64 Y) := hb
      have HQ : Hid (∀ n, ∃ q, (w.drewN m).drewN n = w.drewN q) := fun n => ⟨_, World.drewN_drewN _ _ _⟩
      have HLE : Hid (X ≤ Y) := hle
      obtain ⟨K, hK⟩ : ∃ K : Nat, j + 1 = K := ⟨_, rfl⟩
      have hKi : (j : Int) + 1 = K := by omega
      rw [hKi]
      rw [hK] at hb'
      clear ha hb hle
      generalize w.drewN m = w5 at ha' hb' HQ ⊢
      have l1 : (K : Int) < n := by omega
      have l2 : (0 : Int) < K := by omega
      have l3 : (j : Int) < n := by omega
      have l4 : (0 : Int) ≤ j := by omega
      have l5 : (K : Int) - 1 = j := by omega
      have l6 : IntKind.i64.wrap ((K : Int) - 1) = j := by rw [l5]; exact wrp (by omega) (by omega)
      have HJ : Hid (j + 1 = K) := hK
      clear hKi hK hlt hk hk2
      go_wp2_with fail
      go_quiet ((go_at_call 55; exact Calls.quiet_of_same (Less_ge Y X _ HLE.out)))
      go_wp2_with fail
      go_roundw
      case rel => exact ⟨(j : Int), by first | rfl | go_num, by omega, by omega, HQ.out _⟩
      case measure => simp [intOf]; have := HJ.out; omega
    · go_wp2_with fail
      go_ret
      exact ⟨rfl, below_drewN (Below.refl _ _) m⟩
end Go.Proofs.Ytnbbfnlfcncgnaa
