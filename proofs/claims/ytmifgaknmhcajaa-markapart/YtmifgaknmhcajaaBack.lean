/- Going back from a mix to its number. -/
import Derived.Test.YtmifgaknmhcajaaCon
namespace Go.Proofs.Ytmifgaknmhcajaa
open Go.RowKit
set_option linter.unusedVariables false
theorem wback (a b : Nat) (M : Nat) : ((a : Int) * (b : Int)) % M = ((a * b % M : Nat) : Int) := by push_cast; rfl
theorem wst2 (x : Nat) (h : x < 18446744073709551616) : IntKind.u64.wrap ((st 27 10723151780598845931 x : Int) * 3573116690164977347) = (dn 27 x : Int) := by
  rw [IntKind.wrap_u64, ← st_back (k := 27) (c := 10723151780598845931) (d := 3573116690164977347) h (by decide)]
  exact wback _ 3573116690164977347 18446744073709551616
theorem wst1 (x : Nat) (h : x < 18446744073709551616) : IntKind.u64.wrap ((st 30 13787848793156543929 x : Int) * 10871156337175269513) = (dn 30 x : Int) := by
  rw [IntKind.wrap_u64, ← st_back (k := 30) (c := 13787848793156543929) (d := 10871156337175269513) h (by decide)]
  exact wback _ 10871156337175269513 18446744073709551616
theorem wsub (a : Nat) (h : a < 18446744073709551616) : IntKind.u64.wrap ((ad a : Int) - 11400714819323198485) = (a : Int) := by
  rw [IntKind.wrap_u64]; unfold ad; omega

set_option maxRecDepth 20000 in
set_option maxHeartbeats 400000 in
theorem back_any (a : Nat) (w : World) (ha : a < 18446744073709551616) :
    Calls Try.prog 17 #[.int .u64 (mx a)] w fun e w' => e = .returned (.int .u64 a) ∧ w' = w := by
  have HA : Hid (a < 18446744073709551616) := ha
  unfold mx
  have w3 := wsub a ha
  have l1 := ad_lt a
  obtain ⟨A, hA⟩ : ∃ A, ad a = A := ⟨_, rfl⟩
  rw [hA] at w3 l1 ⊢
  have w2 := wst1 A l1
  have l2 := st_lt 30 13787848793156543929 A
  obtain ⟨B, hB⟩ : ∃ B, st 30 13787848793156543929 A = B := ⟨_, rfl⟩
  rw [hB] at w2 l2 ⊢
  have w1 := wst2 B l2
  have l3 := st_lt 27 10723151780598845931 B
  obtain ⟨C, hC⟩ : ∃ C, st 27 10723151780598845931 B = C := ⟨_, rfl⟩
  rw [hC] at w1 l3 ⊢
  have L1 : Hid (A < 18446744073709551616) := l1
  have L2 : Hid (B < 18446744073709551616) := l2
  have L3 : Hid (C < 18446744073709551616) := l3
  clear hA hB hC l1 l2 l3 ha
  go_enter Try.func17, Try.ntmps17
  go_wp2_with fail
  refine (down_any C 31 _ L3.out (by decide) (by decide)).mono ?_
  rintro e w' ⟨rfl, hw⟩; subst w'
  go_wp2_with fail
  refine (other_any 10723151780598845931 _ (by decide)).mono ?_
  rintro e w' ⟨rfl, hw⟩; subst w'
  rw [oth_two]
  go_wp2_with fail
  refine (down_any B 27 _ L2.out (by decide) (by decide)).mono ?_
  rintro e w' ⟨rfl, hw⟩; subst w'
  go_wp2_with fail
  refine (other_any 13787848793156543929 _ (by decide)).mono ?_
  rintro e w' ⟨rfl, hw⟩; subst w'
  rw [oth_one]
  go_wp2_with fail
  refine (down_any A 30 _ L1.out (by decide) (by decide)).mono ?_
  rintro e w' ⟨rfl, hw⟩; subst w'
  go_wp2_with fail
  go_ret
  exact ⟨rfl, rfl⟩
end Go.Proofs.Ytmifgaknmhcajaa
