/- For every three numbers, the law FixOrder returns true: who is greater stays so or comes to be as great, one and nothing change nothing, and it is no matter which of two is first. -/
import Derived.Test.YtkkpfblgackidaaRows
import Derived.Test.YtkkpfblgackidaaMath
import Derived.Test.YtkkpfblgackidaaCon
import Derived.WalkKit
import Derived.ProofKit
import Derived.OpenShut
namespace Go.Proofs.Ytkkpfblgackidaa.fixOrder
open Go.ChangeShapes Go.WideShapes Go.ChangeAt Go.RowKit
set_option linter.unusedVariables false      -- a walk need not use every 'w<i>' (that an integer argument fits its kind)

theorem own : ownKnob Try.prog.godebug = none := by kernel_rfl

theorem mul_comm' (a b : Int) : kp (flo (kp a * kp b) 65536) = kp (flo (kp b * kp a) 65536) := by rw [Int.mul_comm]
theorem add_comm' (a b : Int) : kp (kp a + kp b) = kp (kp b + kp a) := by rw [Int.add_comm]
theorem mul_one' (a : Int) : kp (flo (kp a * kp 65536) 65536) = kp a := by
  have e : kp 65536 = 65536 := by decide
  have g : flo (kp a * 65536) 65536 = kp a := by unfold flo; rw [if_neg (by omega)]; omega
  rw [e, g, kp_kp]
theorem add_none (a : Int) : kp (kp a + kp 0) = kp a := by
  have e : kp 0 = 0 := by decide
  rw [e, Int.add_zero, kp_kp]
theorem add_mono {a b : Int} (c : Int) (h : kp a ≤ kp b) : kp (kp a + kp c) ≤ kp (kp b + kp c) := kp_mono (by omega)
theorem mul_mono {a b c : Int} (h : kp a ≤ kp b) (hc : 0 ≤ c) : kp (flo (kp a * kp c) 65536) ≤ kp (flo (kp b * kp c) 65536) := by
  have k : 0 ≤ kp c := by unfold kp; omega
  exact kp_mono (flo_mono (by omega) (Int.mul_le_mul_of_nonneg_right h k))
theorem rt_mono {a b : Int} (h : kp a ≤ kp b) (ha : 0 ≤ a) : rt (kp a * 65536) ≤ rt (kp b * 65536) := by
  have k : 0 ≤ kp a := by unfold kp; omega
  have := kp_hi a
  have := kp_hi b
  exact root_le (rt_is (by omega) (by omega)) (rt_is (by omega) (by omega)) (by omega)

/-- what Root answers, whatever it is handed -/
def rv (a : Int) : Int := if a < 0 then 0 else rt (kp a * 65536)
def re (a : Int) : Int := if a < 0 then 1 else 0
theorem Root_all (a : Int) (w : World) :
    Calls Try.prog 11 #[.int .i64 a] w fun e w' => e = .returned (.tuple #[.int .i64 (rv a), .int .i64 (re a)]) ∧ w' = w := by
  unfold rv re
  by_cases h : a < 0
  · rw [if_pos h, if_pos h]; exact Root_neg a w h
  · rw [if_neg h, if_neg h]; exact Root_any a w (by omega)
theorem roots {a b : Int} (h : kp a ≤ kp b) : (re a = 1) ∨ (re a = 0 ∧ re b = 0 ∧ rv a ≤ rv b) := by
  by_cases c : a < 0
  · left; unfold re; rw [if_pos c]
  · have d : ¬ b < 0 := fun e => by have := (kp_neg b).2 e; have := (kp_neg a).1 (by omega); omega
    right
    refine ⟨by unfold re; rw [if_neg c], by unfold re; rw [if_neg d], ?_⟩
    unfold rv; rw [if_neg c, if_neg d]; exact rt_mono h (by omega)

/-! ### STEP 1: THE WALK: the Go text returns true. 'Grown w w'': the world has at most new blocks (Derived/RowKit3.lean). Part the cases AHEAD of 'go_enter' where a test parts the walk; take each callee by a contract of your own. -/
set_option maxHeartbeats 2000000 in
theorem walk (a0 : Int) (a1 : Int) (a2 : Int) (w0 : (Lit.int .i64 a0).wf = true) (w1 : (Lit.int .i64 a1).wf = true) (w2 : (Lit.int .i64 a2).wf = true) (w : World) :
    Calls Try.prog 5 #[.int .i64 a0, .int .i64 a1, .int .i64 a2] w fun e w' => e = .returned (.bool true) ∧ Grown w w' := by
  have e1 := add_comm' a0 a1
  have e2 := mul_comm' a0 a1
  have e3 := mul_one' a0
  have e4 := add_none a0
  by_cases s : kp a1 < kp a0
  · have le : kp a1 ≤ kp a0 := by omega
    have p1 := add_mono a2 le
    rcases roots le with r | ⟨r, r2, r3⟩
    all_goals
      by_cases c : a2 < 0
      · go_enter Try.func5, Try.ntmps5
        go_wp2_with (first | (go_at_call 17; refine (fixLives_any _).mono ?_; rintro e w' ⟨rfl, rfl⟩) | (go_at_call 13; refine (Add_any _ _ _).mono ?_; rintro e w' ⟨rfl, rfl⟩) | (go_at_call 14; refine (Mul_any _ _ _).mono ?_; rintro e w' ⟨rfl, rfl⟩) | (go_at_call 12; refine (Keep_any _ _).mono ?_; rintro e w' ⟨rfl, rfl⟩) | (go_at_call 11; refine (Root_all _ _).mono ?_; rintro e w' ⟨rfl, rfl⟩))
        all_goals (go_ret; exact ⟨rfl, Grown.refl _⟩)
      · have p2 := mul_mono le (by omega : 0 ≤ a2)
        go_enter Try.func5, Try.ntmps5
        go_wp2_with (first | (go_at_call 17; refine (fixLives_any _).mono ?_; rintro e w' ⟨rfl, rfl⟩) | (go_at_call 13; refine (Add_any _ _ _).mono ?_; rintro e w' ⟨rfl, rfl⟩) | (go_at_call 14; refine (Mul_any _ _ _).mono ?_; rintro e w' ⟨rfl, rfl⟩) | (go_at_call 12; refine (Keep_any _ _).mono ?_; rintro e w' ⟨rfl, rfl⟩) | (go_at_call 11; refine (Root_all _ _).mono ?_; rintro e w' ⟨rfl, rfl⟩))
        all_goals (go_ret; exact ⟨rfl, Grown.refl _⟩)
  · have le : kp a0 ≤ kp a1 := by omega
    have p1 := add_mono a2 le
    rcases roots le with r | ⟨r, r2, r3⟩
    all_goals
      by_cases c : a2 < 0
      · go_enter Try.func5, Try.ntmps5
        go_wp2_with (first | (go_at_call 17; refine (fixLives_any _).mono ?_; rintro e w' ⟨rfl, rfl⟩) | (go_at_call 13; refine (Add_any _ _ _).mono ?_; rintro e w' ⟨rfl, rfl⟩) | (go_at_call 14; refine (Mul_any _ _ _).mono ?_; rintro e w' ⟨rfl, rfl⟩) | (go_at_call 12; refine (Keep_any _ _).mono ?_; rintro e w' ⟨rfl, rfl⟩) | (go_at_call 11; refine (Root_all _ _).mono ?_; rintro e w' ⟨rfl, rfl⟩))
        all_goals (go_ret; exact ⟨rfl, Grown.refl _⟩)
      · have p2 := mul_mono le (by omega : 0 ≤ a2)
        go_enter Try.func5, Try.ntmps5
        go_wp2_with (first | (go_at_call 17; refine (fixLives_any _).mono ?_; rintro e w' ⟨rfl, rfl⟩) | (go_at_call 13; refine (Add_any _ _ _).mono ?_; rintro e w' ⟨rfl, rfl⟩) | (go_at_call 14; refine (Mul_any _ _ _).mono ?_; rintro e w' ⟨rfl, rfl⟩) | (go_at_call 12; refine (Keep_any _ _).mono ?_; rintro e w' ⟨rfl, rfl⟩) | (go_at_call 11; refine (Root_all _ _).mono ?_; rintro e w' ⟨rfl, rfl⟩))
        all_goals (go_ret; exact ⟨rfl, Grown.refl _⟩)

/-! ### THE ROW's STEP: WRITTEN OUT: LEAVE IT -/
set_option maxRecDepth 100000 in
theorem lifted (os : Os) (started : os.Started) (H : Type) (enc : TypeId × Value → H) :
    ReturnsInHanded {} Try.checked os 5 .any (Rows.fixOrderSpec.pre6 enc Try.prog Try.f5 Rows.fixOrderRow.domain false) (Rows.fixOrderSpec.post enc Try.prog Try.f5 false true false false) := by
  refine returnsInHanded_of_change (C := Try.checked) own started (by kernel_rfl) Try.func5
    (ChangeSpec.witness6 (enc := enc) (C := Try.checked) false ⟨#[], #[.int .i64 0, .int .i64 0, .int .i64 0], []⟩ 8 (by kernel_rfl) (by kernel_rfl) (by kernel_rfl) (by kernel_rfl)) ?_
  intro W base args ds gs before hval0 hW hcnd _
  have hval : ∀ (j : Nat) t v, Try.f5.params[j]? = some t → args[j]? = some v → Value.okWide Try.prog W .any base t v := hval0
  have hW' := hW
  obtain ⟨p, q, hA0, hV, rfl, hfz, hnd⟩ := hW
  have hA : DataW.TrodAll enc Try.prog W 0 (fun _ => true) true Try.f5.params.toList args.toList ds p := hA0
  rw [Try.params5] at hA hval
  obtain ⟨v0, vs0, d0, ds0, p0, q0, hargs, rfl, rfl, h0, r0⟩ := trodAll_cons hA
  obtain ⟨v1, vs1, d1, ds1, p1, q1, rfl, rfl, rfl, h1, r1⟩ := trodAll_cons r0
  obtain ⟨v2, vs2, d2, ds2, p2, q2, rfl, rfl, rfl, h2, r2⟩ := trodAll_cons r1
  obtain ⟨rfl, rfl, rfl⟩ := trodAll_nil r2
  obtain rfl : args = #[v0, v1, v2] := by cases args; simp_all
  obtain ⟨rfl, rfl⟩ := trodVars_none hV
  obtain ⟨a0, rfl, rfl, rfl, w0⟩ := open_int Try.underlying3 (hval 0 3 v0 rfl rfl) h0
  obtain ⟨a1, rfl, rfl, rfl, w1⟩ := open_int Try.underlying3 (hval 1 3 v1 rfl rfl) h1
  obtain ⟨a2, rfl, rfl, rfl, w2⟩ := open_int Try.underlying3 (hval 2 3 v2 rfl rfl) h2
  clear hA0 hval0
  simp only [List.append_nil] at hW'
  refine (walk a0 a1 a2 w0 w1 w2 W).mono fun e W' ⟨he, hg⟩ => ?_
  subst he
  exact ⟨_, rfl, post_of_same (pa := []) (pv := []) hW' (fun _ _ _ => (trodAll_cons_mk (shut_bool Try.underlying4 _) trodAll_mk0)) (fun sp _ => (trodAll_cons_mk (shut_int Try.underlying3 w0) (trodAll_cons_mk (shut_int Try.underlying3 w1) (trodAll_cons_mk (shut_int Try.underlying3 w2) trodAll_mk0)))) (fun _ _ => rfl) rfl
    (hg.frame _) hg.2.1 (ok_one (by kernel_rfl) rfl (okWide_bool_mk Try.underlying4 _))⟩

theorem over : Rows.fixOrderRow.holds Try.pinned (OpenSpec.ofChange Rows.fixOrderSpec) :=
  OpenClaim.holds_of_wide 5 Try.f5 rfl rfl rfl rfl rfl rfl rfl ⟨rfl, rfl, rfl, rfl, rfl⟩ rfl rfl rfl rfl rfl (by kernel_rfl) Try.func5 (by kernel_rfl)
    (of_decide_eq_true (by kernel_rfl)) (by unfold Func.isWrapper; first | (rw [if_pos (by decide +kernel)]; kernel_rfl) | (rw [if_neg (by decide +kernel)]; exact ⟨rfl, rfl⟩))
    (fun os started H enc _ => lifted os started H enc)

/-- ████ THE STATEMENT ████ -/
theorem proved : Rows.FixOrderSaid :=
  over
end Go.Proofs.Ytkkpfblgackidaa.fixOrder

namespace Go.Proofs.Ytkkpfblgackidaa
/-- For every three numbers, the law FixOrder returns true: who is greater stays so or comes to be as great, one and nothing change nothing, and it is no matter which of two is first. -/
theorem fixOrder_holds : Rows.FixOrderSaid := fixOrder.proved
#print axioms fixOrder_holds
end Go.Proofs.Ytkkpfblgackidaa
