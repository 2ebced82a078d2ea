/- For every number, the law FixRoot returns true: a root's square is at most what it was of, and the next number's is more. -/
import Derived.Test.YtkkpfblgackidaaRows
import Derived.Test.YtkkpfblgackidaaMath
import Derived.Test.YtkkpfblgackidaaCon
import Derived.WalkKit
import Derived.ProofKit
import Derived.OpenShut
namespace Go.Proofs.Ytkkpfblgackidaa.fixRoot
open Go.ChangeShapes Go.WideShapes Go.ChangeAt Go.RowKit
set_option linter.unusedVariables false      -- a walk need not use every 'w<i>' (that an integer argument fits its kind)

theorem own : ownKnob Try.prog.godebug = none := by kernel_rfl

theorem square_in {K R : Int} (h0 : 0 ≤ K) (h : isRoot (K * 65536) R) (h1 : K ≤ 2147483647) :
    0 ≤ R ∧ R ≤ 11863283 ∧ R * R ≤ K * 65536 ∧ K * 65536 < (R + 1) * (R + 1) ∧ (R + 1) * (R + 1) ≤ 140737532654656 ∧ kp (flo (kp R * kp R) 65536) ≤ K := by
  obtain ⟨a, b, c⟩ := h
  have d : R ≤ 11863283 := by
    have := rt_bd (n := K * 65536) (by omega) (by omega)
    rw [rt_of (by omega) ⟨a, b, c⟩] at this; omega
  have e := sq_mono (a := R + 1) (b := 11863284) (by omega) (by omega)
  refine ⟨a, d, b, c, by omega, ?_⟩
  rw [kp_id (n := R) (by omega) (by omega)]
  have f := flo_mono (a := R * R) (c := K * 65536) (b := 65536) (by omega) b
  have g : flo (K * 65536) 65536 = K := by unfold flo; rw [if_neg (by omega)]; omega
  rw [g] at f
  have := kp_mono f
  rw [kp_id (n := K) (by omega) (by omega)] at this
  exact this

/-! ### STEP 1: THE WALK: the Go text returns true. 'Grown w w'': the world has at most new blocks (Derived/RowKit3.lean). Part the cases AHEAD of 'go_enter' where a test parts the walk; take each callee by a contract of your own. -/
theorem walk (a0 : Int) (w0 : (Lit.int .i64 a0).wf = true) (w : World) :
    Calls Try.prog 6 #[.int .i64 a0] w fun e w' => e = .returned (.bool true) ∧ Grown w w' := by
  by_cases h : a0 < 0
  · go_enter Try.func6, Try.ntmps6
    go_wp2_with (first | (go_at_call 11; refine (Root_neg _ _ h).mono ?_; rintro e w' ⟨rfl, rfl⟩) | (go_at_call 17; refine (fixLives_any _).mono ?_; rintro e w' ⟨rfl, rfl⟩))
    go_ret
    exact ⟨rfl, Grown.refl _⟩
  · have k0 : 0 ≤ kp a0 := by unfold kp; omega
    have k1 := kp_hi a0
    obtain ⟨R, hR⟩ : ∃ R, rt (kp a0 * 65536) = R := ⟨_, rfl⟩
    have hi : isRoot (kp a0 * 65536) R := by rw [← hR]; exact rt_is (by omega) (by omega)
    obtain ⟨r0, r1, q1, q2, q3, m⟩ := square_in k0 hi k1
    have q0 : 0 ≤ R * R := Int.mul_nonneg r0 r0
    clear hi
    go_enter Try.func6, Try.ntmps6
    go_wp2_with (first | (go_at_call 11; refine (Root_any _ _ (by omega)).mono ?_; rintro e w' ⟨rfl, rfl⟩) | (go_at_call 17; refine (fixLives_any _).mono ?_; rintro e w' ⟨rfl, rfl⟩) | (go_at_call 12; refine (Keep_any _ _).mono ?_; rintro e w' ⟨rfl, rfl⟩) | (go_at_call 14; refine (Mul_any _ _ _).mono ?_; rintro e w' ⟨rfl, rfl⟩))
    go_ret
    exact ⟨rfl, Grown.refl _⟩

/-! ### THE ROW's STEP: WRITTEN OUT: LEAVE IT -/
set_option maxRecDepth 100000 in
theorem lifted (os : Os) (started : os.Started) (H : Type) (enc : TypeId × Value → H) :
    ReturnsInHanded {} Try.checked os 6 .any (Rows.fixRootSpec.pre6 enc Try.prog Try.f6 Rows.fixRootRow.domain false) (Rows.fixRootSpec.post enc Try.prog Try.f6 false true false false) := by
  refine returnsInHanded_of_change (C := Try.checked) own started (by kernel_rfl) Try.func6
    (ChangeSpec.witness6 (enc := enc) (C := Try.checked) false ⟨#[], #[.int .i64 0], []⟩ 8 (by kernel_rfl) (by kernel_rfl) (by kernel_rfl) (by kernel_rfl)) ?_
  intro W base args ds gs before hval0 hW hcnd _
  have hval : ∀ (j : Nat) t v, Try.f6.params[j]? = some t → args[j]? = some v → Value.okWide Try.prog W .any base t v := hval0
  have hW' := hW
  obtain ⟨p, q, hA0, hV, rfl, hfz, hnd⟩ := hW
  have hA : DataW.TrodAll enc Try.prog W 0 (fun _ => true) true Try.f6.params.toList args.toList ds p := hA0
  rw [Try.params6] at hA hval
  obtain ⟨v0, vs0, d0, ds0, p0, q0, hargs, rfl, rfl, h0, r0⟩ := trodAll_cons hA
  obtain ⟨rfl, rfl, rfl⟩ := trodAll_nil r0
  obtain rfl : args = #[v0] := by cases args; simp_all
  obtain ⟨rfl, rfl⟩ := trodVars_none hV
  obtain ⟨a0, rfl, rfl, rfl, w0⟩ := open_int Try.underlying3 (hval 0 3 v0 rfl rfl) h0
  clear hA0 hval0
  simp only [List.append_nil] at hW'
  refine (walk a0 w0 W).mono fun e W' ⟨he, hg⟩ => ?_
  subst he
  exact ⟨_, rfl, post_of_same (pa := []) (pv := []) hW' (fun _ _ _ => (trodAll_cons_mk (shut_bool Try.underlying4 _) trodAll_mk0)) (fun sp _ => (trodAll_cons_mk (shut_int Try.underlying3 w0) trodAll_mk0)) (fun _ _ => rfl) rfl
    (hg.frame _) hg.2.1 (ok_one (by kernel_rfl) rfl (okWide_bool_mk Try.underlying4 _))⟩

theorem over : Rows.fixRootRow.holds Try.pinned (OpenSpec.ofChange Rows.fixRootSpec) :=
  OpenClaim.holds_of_wide 6 Try.f6 rfl rfl rfl rfl rfl rfl rfl ⟨rfl, rfl, rfl, rfl, rfl⟩ rfl rfl rfl rfl rfl (by kernel_rfl) Try.func6 (by kernel_rfl)
    (of_decide_eq_true (by kernel_rfl)) (by unfold Func.isWrapper; first | (rw [if_pos (by decide +kernel)]; kernel_rfl) | (rw [if_neg (by decide +kernel)]; exact ⟨rfl, rfl⟩))
    (fun os started H enc _ => lifted os started H enc)

/-- ████ THE STATEMENT ████ -/
theorem proved : Rows.FixRootSaid :=
  over
end Go.Proofs.Ytkkpfblgackidaa.fixRoot

namespace Go.Proofs.Ytkkpfblgackidaa
/-- For every number, the law FixRoot returns true: a root's square is at most what it was of, and the next number's is more. -/
theorem fixRoot_holds : Rows.FixRootSaid := fixRoot.proved
#print axioms fixRoot_holds
end Go.Proofs.Ytkkpfblgackidaa
