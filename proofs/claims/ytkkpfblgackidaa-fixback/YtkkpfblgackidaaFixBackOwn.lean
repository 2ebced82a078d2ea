/- For every two numbers, the law FixBack returns true: what is parted and made whole again is what it was, but for less than the divisor. -/
import Derived.Test.YtkkpfblgackidaaRows
import Derived.Test.YtkkpfblgackidaaMath
import Derived.Test.YtkkpfblgackidaaCon
import Derived.WalkKit
import Derived.ProofKit
import Derived.OpenShut
namespace Go.Proofs.Ytkkpfblgackidaa.fixBack
open Go.ChangeShapes Go.WideShapes Go.ChangeAt Go.RowKit
set_option linter.unusedVariables false      -- a walk need not use every 'w<i>' (that an integer argument fits its kind)

theorem own : ownKnob Try.prog.godebug = none := by kernel_rfl

theorem off_in {X Y Q : Int} (hY : ¬ Y = 0) (hQ : kp (flo X Y) = Q) (n1 : ¬ Q = 2147483647) (n2 : ¬ Q = -2147483647) :
    (0 < Y → 0 ≤ X - Q * Y ∧ X - Q * Y < Y) ∧ (Y < 0 → X - Q * Y ≤ 0 ∧ Y < X - Q * Y) := by
  have e : flo X Y = Q := by unfold kp at hQ; omega
  constructor
  · intro h
    obtain ⟨a, b⟩ := flo_pos X h
    rw [e] at a b
    omega
  · intro h
    obtain ⟨a, b⟩ := flo_neg X h
    rw [e] at a b
    omega

/-! ### STEP 1: THE WALK: the Go text returns true. 'Grown w w'': the world has at most new blocks (Derived/RowKit3.lean). Part the cases AHEAD of 'go_enter' where a test parts the walk; take each callee by a contract of your own. -/
theorem walk (a0 : Int) (a1 : Int) (w0 : (Lit.int .i64 a0).wf = true) (w1 : (Lit.int .i64 a1).wf = true) (w : World) :
    Calls Try.prog 7 #[.int .i64 a0, .int .i64 a1] w fun e w' => e = .returned (.bool true) ∧ Grown w w' := by
  by_cases h : a1 = 0
  · subst h
    go_enter Try.func7, Try.ntmps7
    go_wp2_with (first | (go_at_call 10; refine (Div_zero _ _).mono ?_; rintro e w' ⟨rfl, rfl⟩) | (go_at_call 17; refine (fixLives_any _).mono ?_; rintro e w' ⟨rfl, rfl⟩))
    go_ret
    exact ⟨rfl, Grown.refl _⟩
  · have hY : ¬ kp a1 = 0 := fun e => h ((kp_zero a1).1 e)
    have y1 := kp_lo a1
    have y2 := kp_hi a1
    have x1 := kp_lo a0
    have x2 := kp_hi a0
    obtain ⟨Q, hQ⟩ : ∃ Q, kp (flo (kp a0 * 65536) (kp a1)) = Q := ⟨_, rfl⟩
    have q1 : -2147483647 ≤ Q := by rw [← hQ]; exact kp_lo _
    have q2 : Q ≤ 2147483647 := by rw [← hQ]; exact kp_hi _
    by_cases n1 : Q = 2147483647
    · go_enter Try.func7, Try.ntmps7
      go_wp2_with (first | (go_at_call 10; refine (Div_any _ _ _ h).mono ?_; rintro e w' ⟨rfl, rfl⟩) | (go_at_call 17; refine (fixLives_any _).mono ?_; rintro e w' ⟨rfl, rfl⟩))
      go_ret
      exact ⟨rfl, Grown.refl _⟩
    · by_cases n2 : Q = -2147483647
      · go_enter Try.func7, Try.ntmps7
        go_wp2_with (first | (go_at_call 10; refine (Div_any _ _ _ h).mono ?_; rintro e w' ⟨rfl, rfl⟩) | (go_at_call 17; refine (fixLives_any _).mono ?_; rintro e w' ⟨rfl, rfl⟩))
        go_ret
        exact ⟨rfl, Grown.refl _⟩
      · obtain ⟨o1, o2⟩ := off_in hY hQ n1 n2
        obtain ⟨m1, m2⟩ := mul_bd q1 q2 y1 y2
        by_cases c : 0 < kp a1
        · obtain ⟨p1, p2⟩ := o1 c
          clear o1 o2
          go_enter Try.func7, Try.ntmps7
          go_wp2_with (first | (go_at_call 10; refine (Div_any _ _ _ h).mono ?_; rintro e w' ⟨rfl, rfl⟩) | (go_at_call 17; refine (fixLives_any _).mono ?_; rintro e w' ⟨rfl, rfl⟩) | (go_at_call 12; refine (Keep_any _ _).mono ?_; rintro e w' ⟨rfl, rfl⟩))
          all_goals (go_ret; exact ⟨rfl, Grown.refl _⟩)
        · obtain ⟨p1, p2⟩ := o2 (by omega)
          clear o1 o2
          go_enter Try.func7, Try.ntmps7
          go_wp2_with (first | (go_at_call 10; refine (Div_any _ _ _ h).mono ?_; rintro e w' ⟨rfl, rfl⟩) | (go_at_call 17; refine (fixLives_any _).mono ?_; rintro e w' ⟨rfl, rfl⟩) | (go_at_call 12; refine (Keep_any _ _).mono ?_; rintro e w' ⟨rfl, rfl⟩))
          all_goals (go_ret; exact ⟨rfl, Grown.refl _⟩)

/-! ### THE ROW's STEP: WRITTEN OUT: LEAVE IT -/
set_option maxRecDepth 100000 in
theorem lifted (os : Os) (started : os.Started) (H : Type) (enc : TypeId × Value → H) :
    ReturnsInHanded {} Try.checked os 7 .any (Rows.fixBackSpec.pre6 enc Try.prog Try.f7 Rows.fixBackRow.domain false) (Rows.fixBackSpec.post enc Try.prog Try.f7 false true false false) := by
  refine returnsInHanded_of_change (C := Try.checked) own started (by kernel_rfl) Try.func7
    (ChangeSpec.witness6 (enc := enc) (C := Try.checked) false ⟨#[], #[.int .i64 0, .int .i64 0], []⟩ 8 (by kernel_rfl) (by kernel_rfl) (by kernel_rfl) (by kernel_rfl)) ?_
  intro W base args ds gs before hval0 hW hcnd _
  have hval : ∀ (j : Nat) t v, Try.f7.params[j]? = some t → args[j]? = some v → Value.okWide Try.prog W .any base t v := hval0
  have hW' := hW
  obtain ⟨p, q, hA0, hV, rfl, hfz, hnd⟩ := hW
  have hA : DataW.TrodAll enc Try.prog W 0 (fun _ => true) true Try.f7.params.toList args.toList ds p := hA0
  rw [Try.params7] at hA hval
  obtain ⟨v0, vs0, d0, ds0, p0, q0, hargs, rfl, rfl, h0, r0⟩ := trodAll_cons hA
  obtain ⟨v1, vs1, d1, ds1, p1, q1, rfl, rfl, rfl, h1, r1⟩ := trodAll_cons r0
  obtain ⟨rfl, rfl, rfl⟩ := trodAll_nil r1
  obtain rfl : args = #[v0, v1] := by cases args; simp_all
  obtain ⟨rfl, rfl⟩ := trodVars_none hV
  obtain ⟨a0, rfl, rfl, rfl, w0⟩ := open_int Try.underlying3 (hval 0 3 v0 rfl rfl) h0
  obtain ⟨a1, rfl, rfl, rfl, w1⟩ := open_int Try.underlying3 (hval 1 3 v1 rfl rfl) h1
  clear hA0 hval0
  simp only [List.append_nil] at hW'
  refine (walk a0 a1 w0 w1 W).mono fun e W' ⟨he, hg⟩ => ?_
  subst he
  exact ⟨_, rfl, post_of_same (pa := []) (pv := []) hW' (fun _ _ _ => (trodAll_cons_mk (shut_bool Try.underlying4 _) trodAll_mk0)) (fun sp _ => (trodAll_cons_mk (shut_int Try.underlying3 w0) (trodAll_cons_mk (shut_int Try.underlying3 w1) trodAll_mk0))) (fun _ _ => rfl) rfl
    (hg.frame _) hg.2.1 (ok_one (by kernel_rfl) rfl (okWide_bool_mk Try.underlying4 _))⟩

theorem over : Rows.fixBackRow.holds Try.pinned (OpenSpec.ofChange Rows.fixBackSpec) :=
  OpenClaim.holds_of_wide 7 Try.f7 rfl rfl rfl rfl rfl rfl rfl ⟨rfl, rfl, rfl, rfl, rfl⟩ rfl rfl rfl rfl rfl (by kernel_rfl) Try.func7 (by kernel_rfl)
    (of_decide_eq_true (by kernel_rfl)) (by unfold Func.isWrapper; first | (rw [if_pos (by decide +kernel)]; kernel_rfl) | (rw [if_neg (by decide +kernel)]; exact ⟨rfl, rfl⟩))
    (fun os started H enc _ => lifted os started H enc)

/-- ████ THE STATEMENT ████ -/
theorem proved : Rows.FixBackSaid :=
  over
end Go.Proofs.Ytkkpfblgackidaa.fixBack

namespace Go.Proofs.Ytkkpfblgackidaa
/-- For every two numbers, the law FixBack returns true: what is parted and made whole again is what it was, but for less than the divisor. -/
theorem fixBack_holds : Rows.FixBackSaid := fixBack.proved
#print axioms fixBack_holds
end Go.Proofs.Ytkkpfblgackidaa
