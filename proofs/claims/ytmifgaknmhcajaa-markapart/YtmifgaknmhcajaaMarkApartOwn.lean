/- For all numbers a and b of 64 bits the law MarkApart of package mark returns true, and its arguments read as before; no condition. -/
import Derived.Test.YtmifgaknmhcajaaRows
import Derived.Test.YtmifgaknmhcajaaPost
import Derived.Test.YtmifgaknmhcajaaOf
import Derived.Test.YtmifgaknmhcajaaBack
import Derived.WalkKit
import Derived.ProofKit
import Derived.OpenShut

namespace Go.Proofs.Ytmifgaknmhcajaa.markApart
open Go.ChangeShapes Go.WideShapes Go.ChangeAt Go.RowKit
set_option linter.unusedVariables false

theorem own : ownKnob Try.prog.godebug = none := by kernel_rfl

theorem nat_of {a : Int} (h : (Lit.int .u64 a).wf = true) : ∃ n : Nat, a = n ∧ n < 18446744073709551616 := by
  have h2 : 0 ≤ a ∧ a ≤ 18446744073709551615 := by simpa [Lit.wf, IntKind.min, IntKind.max, IntKind.bits, IntKind.signed] using h
  exact ⟨a.toNat, by omega, by omega⟩

set_option maxRecDepth 20000 in
set_option maxHeartbeats 4000000 in
theorem walk (a0 : Int) (a1 : Int) (w0 : (Lit.int .u64 a0).wf = true) (w1 : (Lit.int .u64 a1).wf = true) (w : World) :
    Calls Try.prog 6 #[.int .u64 a0, .int .u64 a1] w fun e w' => e = .returned (.bool true) ∧ Below w.heap.size w w' := by
  obtain ⟨a, rfl, ha⟩ := nat_of w0
  obtain ⟨b, rfl, hb⟩ := nat_of w1
  clear w0 w1
  have HA : Hid (a < 18446744073709551616) := ha
  have HB : Hid (b < 18446744073709551616) := hb
  have hc : (a = b ∧ mx a = mx b) ∨ (¬ a = b ∧ ¬ mx a = mx b) := by
    by_cases h : a = b
    · exact .inl ⟨h, by rw [h]⟩
    · exact .inr ⟨h, fun e => h (mx_inj ha hb e)⟩
  clear ha hb
  go_enter Try.func6, Try.ntmps6
  go_wp2_with fail
  refine (lives_any _).mono ?_
  rintro e w1 ⟨rfl, hw1⟩
  go_wp2_with fail
  refine (Mix_any a _ HA.out).mono ?_
  rintro e w' ⟨rfl, hw⟩; subst w'
  go_wp2_with fail
  refine (Mix_any b _ HB.out).mono ?_
  rintro e w' ⟨rfl, hw⟩; subst w'
  have HK := back_any a w1 HA.out
  rcases hc with ⟨h1, h2⟩ | ⟨h1, h2⟩
  · subst h1
    obtain ⟨X, hX⟩ : ∃ X, mx a = X := ⟨_, rfl⟩
    rw [hX] at HK ⊢
    clear hX h2
    go_wp2_with fail
    refine (Mix_any a _ HA.out).mono ?_
    rintro e w' ⟨rfl, hw⟩; subst w'
    go_wp2_with fail
    refine (back_any a _ HA.out).mono ?_
    rintro e w' ⟨rfl, hw⟩; subst w'
    go_wp2_with fail
    go_ret
    exact ⟨rfl, hw1⟩
  · obtain ⟨X, hX⟩ : ∃ X, mx a = X := ⟨_, rfl⟩
    obtain ⟨Y, hY⟩ : ∃ Y, mx b = Y := ⟨_, rfl⟩
    rw [hX, hY] at h2
    rw [hX, hY]
    clear hX hY
    have h1' : ((a : Int) == b) = false := by simp; omega
    have h2' : ((X : Int) == Y) = false := by simp; omega
    clear h1 h2
    go_wp2_with fail
    refine (Mix_any a _ HA.out).mono ?_
    rintro e w' ⟨rfl, hw⟩; subst w'
    go_wp2_with fail
    refine (back_any a _ HA.out).mono ?_
    rintro e w' ⟨rfl, hw⟩; subst w'
    go_wp2_with fail
    go_ret
    exact ⟨rfl, hw1⟩

set_option maxRecDepth 100000 in
theorem lifted (os : Os) (started : os.Started) (H : Type) (enc : TypeId × Value → H) :
    ReturnsInHanded {} Try.checked os 6 .any (Rows.markApartSpec.pre6 enc Try.prog Try.f6 Rows.markApartRow.domain false) (Rows.markApartSpec.post enc Try.prog Try.f6 false true false false) := by
  refine returnsInHanded_of_change (C := Try.checked) own started (by kernel_rfl) Try.func6
    (ChangeSpec.witness6 (enc := enc) (C := Try.checked) false ⟨#[], #[.int .u64 0, .int .u64 0], []⟩ 8 (by kernel_rfl) (by kernel_rfl) (by kernel_rfl) (by kernel_rfl)) ?_
  intro W base args ds gs before hval0 hW hcnd _
  have hval : ∀ (j : Nat) t v, Try.f6.params[j]? = some t → args[j]? = some v → Value.okWide Try.prog W .any base t v := hval0
  have hW' := hW
  obtain ⟨p, q, hA0, hV, rfl, hfz, hnd⟩ := hW
  have hA : DataW.TrodAll enc Try.prog W 0 (fun _ => true) true Try.f6.params.toList args.toList ds p := hA0
  rw [Try.params6] at hA hval
  obtain ⟨v0, vs0, d0, ds0, p0, q0, hargs, rfl, rfl, h0, r0⟩ := trodAll_cons hA
  obtain ⟨v1, vs1, d1, ds1, p1, q1, rfl, rfl, rfl, h1, r1⟩ := trodAll_cons r0
  obtain ⟨rfl, rfl, rfl⟩ := trodAll_nil r1
  obtain rfl : args = #[v0, v1] := by cases args; simp_all
  obtain ⟨rfl, rfl⟩ := trodVars_none hV
  obtain ⟨a0, rfl, rfl, rfl, w0⟩ := open_int Try.underlying22 (hval 0 22 v0 rfl rfl) h0
  obtain ⟨a1, rfl, rfl, rfl, w1⟩ := open_int Try.underlying22 (hval 1 22 v1 rfl rfl) h1

  clear hA0 hval0
  refine (walk a0 a1 w0 w1 W).mono fun e W' ⟨he, hg⟩ => ?_
  subst he
  exact ⟨_, rfl, law_post (by kernel_rfl) (by kernel_rfl) rfl (by kernel_rfl) Try.underlying4 hW' rfl hg⟩

theorem over : Rows.markApartRow.holds Try.pinned (OpenSpec.ofChange Rows.markApartSpec) :=
  OpenClaim.holds_of_wide 6 Try.f6 rfl rfl rfl rfl rfl rfl rfl ⟨rfl, rfl, rfl, rfl, rfl⟩ rfl rfl rfl rfl rfl (by kernel_rfl) Try.func6 (by kernel_rfl)
    (of_decide_eq_true (by kernel_rfl)) (by unfold Func.isWrapper; first | (rw [if_pos (by decide +kernel)]; kernel_rfl) | (rw [if_neg (by decide +kernel)]; exact ⟨rfl, rfl⟩))
    (fun os started H enc _ => lifted os started H enc)

theorem proved : Rows.MarkApartSaid :=
  over
end Go.Proofs.Ytmifgaknmhcajaa.markApart

namespace Go.Proofs.Ytmifgaknmhcajaa
/-- For all numbers a and b of 64 bits the law MarkApart of package mark returns true, and its arguments read as before; no condition. -/
theorem markApart_holds : Rows.MarkApartSaid := markApart.proved
#print axioms markApart_holds
end Go.Proofs.Ytmifgaknmhcajaa
