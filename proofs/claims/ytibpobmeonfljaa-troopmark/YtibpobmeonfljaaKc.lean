/- What Mix, Mixed and Turn return. -/
import Derived.Test.YtibpobmeonfljaaOwn
import Derived.Test.YtibpobmeonfljaaKa
import Derived.Laws.BitsAllLaws
namespace Go.Proofs.Ytibpobmeonfljaa
open Go.RowKit
set_option linter.unusedVariables false
theorem xdn (x k : Nat) (h : x < 18446744073709551616) : bits .xor .u64 (x : Int) ((x : Int) / ((2 ^ k : Nat) : Int)) = (dn k x : Int) := by
  have h2 : x / 2 ^ k < 18446744073709551616 := Nat.lt_of_le_of_lt (Nat.div_le_self _ _) h
  have := u64_xor_nat x (x / 2 ^ k) h h2
  unfold dn; simpa using this
theorem xdn30 (x : Nat) (h : x < 18446744073709551616) : bits .xor .u64 (x : Int) ((x : Int) / 1073741824) = (dn 30 x : Int) := xdn x 30 h
theorem xdn27 (x : Nat) (h : x < 18446744073709551616) : bits .xor .u64 (x : Int) ((x : Int) / 134217728) = (dn 27 x : Int) := xdn x 27 h
theorem xdn31 (x : Nat) (h : x < 18446744073709551616) : bits .xor .u64 (x : Int) ((x : Int) / 2147483648) = (dn 31 x : Int) := xdn x 31 h
theorem wad (n : Nat) : IntKind.u64.wrap ((n : Int) + 11400714819323198485) = (ad n : Int) := by rw [IntKind.wrap_u64]; unfold ad; omega
theorem wml (k c x : Nat) : IntKind.u64.wrap ((dn k x : Int) * (c : Int)) = (st k c x : Int) := by rw [IntKind.wrap_u64, st_dn]; simp
theorem wml1 (k x : Nat) : IntKind.u64.wrap ((dn k x : Int) * 13787848793156543929) = (st k 13787848793156543929 x : Int) := wml k 13787848793156543929 x
theorem wml2 (k x : Nat) : IntKind.u64.wrap ((dn k x : Int) * 10723151780598845931) = (st k 10723151780598845931 x : Int) := wml k 10723151780598845931 x

set_option maxRecDepth 20000 in
set_option maxHeartbeats 400000 in
theorem Mix_any (n : Nat) (w : World) (hn : n < 18446744073709551616) :
    Calls Try.prog 70 #[.int .u64 n] w fun e w' => e = .returned (.int .u64 (mx n)) ∧ w' = w := by
  go_enter Try.func70, Try.ntmps70
  go_wp2
  go_ret
  refine ⟨ret_int ?_, rfl⟩
  rw [wad, xdn30 _ (ad_lt n), wml1, xdn27 _ (st_lt _ _ _), wml2, xdn31 _ (st_lt _ _ _)]
  rfl

theorem tms_step (a b k : Nat) : (b * (a % 2 ^ (16 * k)) + b * (a / 2 ^ (16 * k) % 65536) * 2 ^ (16 * k)) = b * (a % 2 ^ (16 * (k + 1))) := by
  rw [show 16 * (k + 1) = 16 * k + 16 by omega, Nat.pow_add, Nat.mod_mul, Nat.mul_add, Nat.mul_assoc, Nat.mul_comm (a / 2 ^ (16 * k) % _)]
/-- What a round of the digits keeps. -/
def dig (a b k o : Nat) : Prop := k ≤ 4 ∧ o = b * (a % 2 ^ (16 * k)) % 18446744073709551616
theorem dig_end {a b o : Nat} (ha : a < 18446744073709551616) (h : dig a b 4 o) : o = a * b % 18446744073709551616 := by
  rw [h.2, Nat.mod_eq_of_lt (a := a) (by simpa using ha), Nat.mul_comm]
theorem dig_step {a b k o : Nat} (h : dig a b k o) (hk : k < 4) : dig a b (k + 1) ((o + (b * (a / 2 ^ (16 * k) % 65536) % 18446744073709551616) * 2 ^ (16 * k) % 18446744073709551616) % 18446744073709551616) := by
  refine ⟨by omega, ?_⟩
  rw [h.2, ← tms_step, Nat.mod_mul_mod, ← Nat.add_mod]
theorem dig_cast (M E D a b o : Nat) : ((o : Int) + ((b : Int) * ((a : Int) / D % E) % M) * D % M) % M = (((o + (b * (a / D % E) % M) * D % M) % M : Nat) : Int) := by push_cast; rfl
theorem ro_cast (M y q : Nat) : ((y : Int) * (q : Int)) % M = ((y * q % M : Nat) : Int) := by push_cast; rfl
theorem dig_int {a b k o : Nat} (h : dig a b k o) (hk : k < 4) (D : Int) (hD : D = ((2 ^ (16 * k) : Nat) : Int)) :
    IntKind.u64.wrap ((o : Int) + IntKind.u64.wrap (IntKind.u64.wrap ((b : Int) * ((a : Int) / D % 65536)) * D)) = (((o + (b * (a / 2 ^ (16 * k) % 65536) % 18446744073709551616) * 2 ^ (16 * k) % 18446744073709551616) % 18446744073709551616 : Nat) : Int) := by
  rw [IntKind.wrap_u64, IntKind.wrap_u64, IntKind.wrap_u64, hD]; exact dig_cast 18446744073709551616 65536 (2 ^ (16 * k)) a b o

set_option maxRecDepth 20000 in
set_option maxHeartbeats 400000 in
theorem times_any (a b : Nat) (w : World) (ha : a < 18446744073709551616) (hb : b < 18446744073709551616) :
    Calls Try.prog 49 #[.int .u64 a, .int .u64 b] w fun e w' => e = .returned (.int .u64 (a * b % 18446744073709551616 : Nat)) ∧ w' = w := by
  have HE : Hid (∀ o, dig a b 4 o → o = a * b % 18446744073709551616) := fun o h => dig_end ha h
  obtain ⟨R, hR⟩ : ∃ R, a * b % 18446744073709551616 = R := ⟨_, rfl⟩
  rw [hR] at HE ⊢
  have ha' : (a : Int) < 18446744073709551616 := by omega
  have hb' : (b : Int) < 18446744073709551616 := by omega
  clear ha hb hR
  go_enter Try.func49, Try.ntmps49
  go_wp2
  go_loop [5, 8] (fun o i => ∃ O k : Nat, o = .int .u64 O ∧ i = .int .i64 k ∧ dig a b k O) (fun _ i => 4 - (intOf i).toNat)
  case atStart => exact ⟨0, 0, rfl, rfl, by omega, by simp [Nat.mod_one]⟩
  case round =>
    obtain ⟨O, k, rfl, rfl, hi⟩ := hrel
    have h8 := hi.1
    have : k = 0 ∨ k = 1 ∨ k = 2 ∨ k = 3 ∨ k = 4 := by omega
    rcases this with rfl | rfl | rfl | rfl | rfl
    · go_wp2
      go_round
      case rel => exact ⟨_, 1, val_int (by have e := dig_int hi (by omega) 1 rfl; rw [Int.ediv_one, Int.mul_one] at e; exact e), rfl, dig_step hi (by omega)⟩
      case measure => simp [intOf]
    · go_wp2
      go_round
      case rel => exact ⟨_, 2, val_int (dig_int hi (by omega) 65536 rfl), rfl, dig_step hi (by omega)⟩
      case measure => simp [intOf]
    · go_wp2
      go_round
      case rel => exact ⟨_, 3, val_int (dig_int hi (by omega) 4294967296 rfl), rfl, dig_step hi (by omega)⟩
      case measure => simp [intOf]
    · go_wp2
      go_round
      case rel => exact ⟨_, 4, val_int (dig_int hi (by omega) 281474976710656 rfl), rfl, dig_step hi (by omega)⟩
      case measure => simp [intOf]
    · go_wp2
      go_ret
      exact ⟨ret_int (by rw [HE.out O hi]), rfl⟩

set_option maxRecDepth 20000 in
set_option maxHeartbeats 400000 in
theorem Mixed_any (n : Nat) (w : World) (hn : n < 18446744073709551616) :
    Calls Try.prog 28 #[.int .u64 n] w fun e w' => e = .returned (.int .u64 (mx n)) ∧ w' = w := by
  have HR : Hid (mx n = dn 31 (st 27 10723151780598845931 (st 30 13787848793156543929 (ad n)))) := rfl
  obtain ⟨R, hR⟩ : ∃ R, mx n = R := ⟨_, rfl⟩
  rw [hR] at HR ⊢
  clear hR
  have h1 := wad n
  have h1' := ad_lt n
  obtain ⟨A, hA⟩ : ∃ A, ad n = A := ⟨_, rfl⟩
  rw [hA] at h1 h1' HR
  clear hA
  have h2 := xdn30 A h1'
  have HD : Hid (dn 30 A < 18446744073709551616) := dn_lt h1'
  have h1i : (A : Int) < 18446744073709551616 := by omega
  have hni : (n : Int) < 18446744073709551616 := by omega
  clear h1' hn
  go_enter Try.func28, Try.ntmps28
  go_wp2_with fail
  refine (times_any _ _ _ HD.out (by decide)).mono ?_
  rintro e w' ⟨rfl, hw⟩; subst w'
  clear HD h1 h2 h1i
  rw [← st_dn]
  have h3 := st_lt 30 13787848793156543929 A
  obtain ⟨B, hB⟩ : ∃ B, st 30 13787848793156543929 A = B := ⟨_, rfl⟩
  rw [hB] at h3 HR ⊢
  clear hB
  have h4 := xdn27 B h3
  have HD : Hid (dn 27 B < 18446744073709551616) := dn_lt h3
  have h1i : (B : Int) < 18446744073709551616 := by omega
  clear h3
  go_wp2_with fail
  refine (times_any _ _ _ HD.out (by decide)).mono ?_
  rintro e w' ⟨rfl, hw⟩; subst w'
  clear HD h4 h1i
  rw [← st_dn]
  have h3 := st_lt 27 10723151780598845931 B
  obtain ⟨C, hC⟩ : ∃ C, st 27 10723151780598845931 B = C := ⟨_, rfl⟩
  rw [hC] at h3 HR ⊢
  clear hC
  have h4 := xdn31 C h3
  have h1i : (C : Int) < 18446744073709551616 := by omega
  clear h3
  go_wp2_with fail
  go_ret
  exact ⟨ret_int (by rw [HR.out]), rfl⟩

set_option maxRecDepth 20000 in
set_option maxHeartbeats 400000 in
theorem Turn_any (m n : Nat) (w : World) (hm : m < 18446744073709551616) (hn : n < 18446744073709551616) :
    Calls Try.prog 71 #[.int .u64 m, .int .u64 n] w fun e w' => e = .returned (.int .u64 (m ^^^ mx n : Nat)) ∧ w' = w := by
  have hx := u64_xor_nat m (mx n) hm (mx_lt n)
  have HN : Hid (n < 18446744073709551616) := hn
  clear hm hn
  go_enter Try.func71, Try.ntmps71
  go_wp2_with fail
  refine (Mix_any _ _ HN.out).mono ?_
  rintro e w' ⟨rfl, hw⟩; subst w'
  obtain ⟨X, hX⟩ : ∃ X, mx n = X := ⟨_, rfl⟩
  rw [hX] at hx ⊢
  obtain ⟨Y, hY⟩ : ∃ Y, m ^^^ X = Y := ⟨_, rfl⟩
  rw [hY] at hx
  have HY : Hid (m ^^^ X = Y) := hY
  have HX : Hid (mx n = X) := hX
  clear hX hY
  go_wp2_with fail
  go_ret
  exact ⟨ret_int (by rw [HX.out, HY.out]), rfl⟩

end Go.Proofs.Ytibpobmeonfljaa
