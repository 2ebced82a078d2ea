/- What the small functions return: power, split, RotateLeft64, Pair, PairOf, Between. -/
import Derived.Test.YteedlbdjbffheaaCon
import Derived.Test.YteedlbdjbffheaaShelf
import Derived.Test.YteedlbdjbffheaaCl
namespace Go.Proofs.Yteedlbdjbffheaa
open Go.RowKit
set_option linter.unusedVariables false

theorem bitLen_log {n : Nat} (h0 : 0 < n) (h : n < 18446744073709551616) : Lib.bitLen n = Nat.log2 n + 1 := by
  have a : 2 ^ Nat.log2 n ≤ n := Nat.log2_self_le (by omega)
  have b := @Nat.lt_log2_self n
  have c := Lib.bitLen_shift (Nat.log2 n) n a (by omega)
  have d : n / 2 ^ Nat.log2 n = 1 := by
    have := Nat.two_pow_pos (Nat.log2 n)
    rw [Nat.pow_succ] at b
    rw [Nat.div_eq_iff (by omega)]; omega
  rw [d] at c
  rw [c]; rfl

set_option maxRecDepth 20000 in
set_option maxHeartbeats 400000 in
theorem power_any (n : Nat) (w : World) (h0 : 1 ≤ n) (hn : n ≤ 256) :
    Calls Try.prog 27 #[.int .i64 n] w fun e w' => e = .returned (.int .i64 (pw n)) ∧ w' = w := by
  have hb := bitLen_log (n := n) (by omega) (by omega)
  have hk : Nat.log2 n ≤ 8 := by
    have := pw_le (n := n) h0
    have e : 2 ^ Nat.log2 n < 2 ^ 9 := by unfold pw at this; omega
    have := pow_two_lt e
    omega
  have HP : Hid (pw n = 2 ^ Nat.log2 n) := rfl
  obtain ⟨K, hK⟩ : ∃ K, Nat.log2 n = K := ⟨_, rfl⟩
  rw [hK] at hb hk HP
  have HB : Hid (Lib.bitLen n = K + 1) := hb
  clear hK hb
  go_enter Try.func27, Try.ntmps27
  go_wp2_with fail
  refine (Try.bits_Len (n : Int) _ (by omega) (by omega)).mono ?_
  rintro e w' ⟨rfl, hw⟩; subst w'
  rw [show Lib.bitLen ((n : Int)).toNat = K + 1 by rw [← HB.out]; simp]
  have : K = 0 ∨ K = 1 ∨ K = 2 ∨ K = 3 ∨ K = 4 ∨ K = 5 ∨ K = 6 ∨ K = 7 ∨ K = 8 := by omega
  rcases this with rfl | rfl | rfl | rfl | rfl | rfl | rfl | rfl | rfl
  all_goals
    go_wp2_with fail
    go_ret
    exact ⟨ret_int (by rw [HP.out]; rfl), rfl⟩

set_option maxRecDepth 20000 in
set_option maxHeartbeats 400000 in
theorem split_any (n : Nat) (w : World) (h0 : 2 ≤ n) (hn : n ≤ 256) :
    Calls Try.prog 33 #[.int .i64 n] w fun e w' => e = .returned (.int .i64 (sp n)) ∧ w' = w := by
  obtain ⟨K, hK⟩ : ∃ K, n = K + 1 := ⟨n - 1, by omega⟩
  have HS : Hid (sp n = pw K) := by unfold Hid sp; rw [hK]; rfl
  rw [HS.out]
  subst hK
  have hc : ((K + 1 : Nat) : Int) - 1 = K := by omega
  go_enter Try.func33, Try.ntmps33
  go_wp2_with fail
  refine (power_any K _ (by omega) (by omega)).mono ?_
  rintro e w' ⟨rfl, hw⟩; subst w'
  go_wp2_with fail
  go_ret
  exact ⟨rfl, rfl⟩

/-- b, its halves changed. -/
def rot (b : Nat) : Nat := b / 4294967296 + b % 4294967296 * 4294967296
/-- The mark of two. -/
def pr (a b : Nat) : Nat := mx (mx (a ^^^ rot b ^^^ 1) ^^^ b)
theorem rot_lt {b : Nat} (h : b < 18446744073709551616) : rot b < 18446744073709551616 := by unfold rot; omega
theorem pr_lt (a b : Nat) : pr a b < 18446744073709551616 := mx_lt _
theorem rot_or (b : Nat) (h : b < 18446744073709551616) : bits .or .u64 (IntKind.u64.wrap ((b : Int) * 4294967296)) ((b : Int) / 4294967296) = (rot b : Int) := by
  have e1 : IntKind.u64.wrap ((b : Int) * 4294967296) = ((b % 4294967296 * 4294967296 : Nat) : Int) := by rw [IntKind.wrap_u64]; omega
  have e2 : (b : Int) / 4294967296 = ((b / 4294967296 : Nat) : Int) := by omega
  rw [e1, e2, u64_or_nat _ _ (by omega) (by omega)]
  have := Nat.two_pow_add_eq_or_of_lt (i := 32) (b := b / 4294967296) (by omega) (b % 4294967296)
  rw [show (2 : Nat) ^ 32 = 4294967296 from rfl, Nat.mul_comm] at this
  unfold rot
  rw [← this, Nat.add_comm]

set_option maxRecDepth 20000 in
set_option maxHeartbeats 400000 in
theorem Rot_any (b : Nat) (w : World) (hb : b < 18446744073709551616) :
    Calls Try.prog 29 #[.int .u64 b, .int .i64 32] w fun e w' => e = .returned (.int .u64 (rot b)) ∧ w' = w := by
  have HR : Hid (bits .or .u64 (IntKind.u64.wrap ((b : Int) * 4294967296)) ((b : Int) / 4294967296) = (rot b : Int)) := rot_or b hb
  obtain ⟨R, hR⟩ : ∃ R, rot b = R := ⟨_, rfl⟩
  rw [hR] at HR ⊢
  clear hR hb
  have h63 : bits .and .u64 32 63 = 32 := by decide +kernel
  go_enter Try.func29, Try.ntmps29
  go_wp2_with fail
  go_ret
  exact ⟨ret_int (by exact HR.out), rfl⟩

set_option maxRecDepth 20000 in
set_option maxHeartbeats 400000 in
theorem Pair_any (a b : Nat) (w : World) (ha : a < 18446744073709551616) (hb : b < 18446744073709551616) :
    Calls Try.prog 11 #[.int .u64 a, .int .u64 b] w fun e w' => e = .returned (.int .u64 (pr a b)) ∧ w' = w := by
  have HP : Hid (pr a b = mx (mx (a ^^^ rot b ^^^ 1) ^^^ b)) := rfl
  obtain ⟨P, hP⟩ : ∃ P, pr a b = P := ⟨_, rfl⟩
  rw [hP] at HP ⊢
  clear hP
  have HB : Hid (b < 18446744073709551616) := hb
  have hx := u64_xor_nat a (rot b) ha (rot_lt hb)
  have HX : Hid (a ^^^ rot b < 18446744073709551616) := xor_lt ha (rot_lt hb)
  clear ha hb
  go_enter Try.func11, Try.ntmps11
  go_wp2_with fail
  refine (Rot_any b _ HB.out).mono ?_
  rintro e w' ⟨rfl, hw⟩; subst w'
  obtain ⟨R, hR⟩ : ∃ R, rot b = R := ⟨_, rfl⟩
  rw [hR] at hx HX HP ⊢
  clear hR
  obtain ⟨X, hX⟩ : ∃ X, a ^^^ R = X := ⟨_, rfl⟩
  rw [hX] at hx HX HP
  clear hX
  have hx2 := u64_xor_nat X 1 HX.out (by decide)
  have HY : Hid (X ^^^ 1 < 18446744073709551616) := xor_lt HX.out (by decide)
  obtain ⟨Y, hY⟩ : ∃ Y, X ^^^ 1 = Y := ⟨_, rfl⟩
  rw [hY] at hx2 HY HP
  clear hY
  have hx2' : bits .xor .u64 (X : Int) 1 = (Y : Int) := hx2
  clear hx2
  go_wp2_with fail
  refine (Mix_any Y _ HY.out).mono ?_
  rintro e w' ⟨rfl, hw⟩; subst w'
  have hx3 := u64_xor_nat (mx Y) b (mx_lt Y) HB.out
  have HZ : Hid (mx Y ^^^ b < 18446744073709551616) := xor_lt (mx_lt Y) HB.out
  obtain ⟨M, hM⟩ : ∃ M, mx Y = M := ⟨_, rfl⟩
  rw [hM] at hx3 HZ HP ⊢
  clear hM
  obtain ⟨Z, hZ⟩ : ∃ Z, M ^^^ b = Z := ⟨_, rfl⟩
  rw [hZ] at hx3 HZ HP
  clear hZ
  go_wp2_with fail
  refine (Mix_any Z _ HZ.out).mono ?_
  rintro e w' ⟨rfl, hw⟩; subst w'
  rw [← HP.out]
  go_wp2_with fail
  go_ret
  exact ⟨rfl, rfl⟩

theorem rot_int (b : Nat) (h : b < 18446744073709551616) : IntKind.u64.wrap (IntKind.u64.wrap ((b : Int) / 4294967296) + (b : Int) % 4294967296 * 4294967296) = (rot b : Int) := by
  rw [IntKind.wrap_u64, IntKind.wrap_u64]; unfold rot; omega

set_option maxRecDepth 20000 in
set_option maxHeartbeats 400000 in
theorem PairOf_any (a b : Nat) (w : World) (ha : a < 18446744073709551616) (hb : b < 18446744073709551616) :
    Calls Try.prog 12 #[.int .u64 a, .int .u64 b] w fun e w' => e = .returned (.int .u64 (pr a b)) ∧ w' = w := by
  have HP : Hid (pr a b = mx (mx (a ^^^ rot b ^^^ 1) ^^^ b)) := rfl
  obtain ⟨P, hP⟩ : ∃ P, pr a b = P := ⟨_, rfl⟩
  rw [hP] at HP ⊢
  clear hP
  have HB : Hid (b < 18446744073709551616) := hb
  have hx := u64_xor_nat a (rot b) ha (rot_lt hb)
  have HX : Hid (a ^^^ rot b < 18446744073709551616) := xor_lt ha (rot_lt hb)
  have hq := rot_int b hb
  obtain ⟨R, hR⟩ : ∃ R, rot b = R := ⟨_, rfl⟩
  rw [hR] at hx HX HP hq
  clear hR
  obtain ⟨X, hX⟩ : ∃ X, a ^^^ R = X := ⟨_, rfl⟩
  rw [hX] at hx HX HP
  clear hX
  have hx2 := u64_xor_nat X 1 HX.out (by decide)
  have HY : Hid (X ^^^ 1 < 18446744073709551616) := xor_lt HX.out (by decide)
  obtain ⟨Y, hY⟩ : ∃ Y, X ^^^ 1 = Y := ⟨_, rfl⟩
  rw [hY] at hx2 HY HP
  clear hY
  have hx2' : bits .xor .u64 (X : Int) 1 = (Y : Int) := hx2
  have HQ : Hid (IntKind.u64.wrap (IntKind.u64.wrap ((b : Int) / 4294967296) + (b : Int) % 4294967296 * 4294967296) = (R : Int)) := hq
  have HX1 : Hid (bits .xor .u64 (a : Int) (R : Int) = (X : Int)) := hx
  have HX2 : Hid (bits .xor .u64 (X : Int) 1 = (Y : Int)) := hx2'
  clear hx2 ha hb hq hx hx2'
  go_enter Try.func12, Try.ntmps12
  go_wp2_with fail
  rw [HQ.out, HX1.out, HX2.out]
  refine (Mixed_any Y _ HY.out).mono ?_
  rintro e w' ⟨rfl, hw⟩; subst w'
  have hx3 := u64_xor_nat (mx Y) b (mx_lt Y) HB.out
  have HZ : Hid (mx Y ^^^ b < 18446744073709551616) := xor_lt (mx_lt Y) HB.out
  obtain ⟨M, hM⟩ : ∃ M, mx Y = M := ⟨_, rfl⟩
  rw [hM] at hx3 HZ HP ⊢
  clear hM
  obtain ⟨Z, hZ⟩ : ∃ Z, M ^^^ b = Z := ⟨_, rfl⟩
  rw [hZ] at hx3 HZ HP
  clear hZ
  go_wp2_with fail
  refine (Mixed_any Z _ HZ.out).mono ?_
  rintro e w' ⟨rfl, hw⟩; subst w'
  rw [← HP.out]
  go_wp2_with fail
  go_ret
  exact ⟨rfl, rfl⟩

set_option maxRecDepth 20000 in
set_option maxHeartbeats 400000 in
theorem Between_any (n a b : Int) (w : World) : Calls Try.prog 19 #[.int .i64 n, .int .i64 a, .int .i64 b] w fun e w' => e = .returned (.bool (decide (a ≤ n) && decide (n ≤ b))) ∧ w' = w := by
  by_cases h : a ≤ n
  · go_enter Try.func19, Try.ntmps19
    go_wp2_with fail
    go_ret
    exact ⟨by simp [h], rfl⟩
  · go_enter Try.func19, Try.ntmps19
    go_wp2_with fail
    go_ret
    exact ⟨by rw [show decide (a ≤ n) = false from by simpa using h]; rfl, rfl⟩
end Go.Proofs.Yteedlbdjbffheaa
