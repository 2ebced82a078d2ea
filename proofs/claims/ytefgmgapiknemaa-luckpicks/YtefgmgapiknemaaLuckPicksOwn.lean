/- For every number and every two bounds the law LuckPicks returns true. -/
import Derived.Test.YtefgmgapiknemaaRows
import Derived.Test.YtefgmgapiknemaaMath
import Derived.Test.YtefgmgapiknemaaCon
import Derived.WalkKit
import Derived.ProofKit
import Derived.OpenShut
namespace Go.Proofs.Ytefgmgapiknemaa.luckPicks
open Go.ChangeShapes Go.WideShapes Go.ChangeAt Go.RowKit
set_option linter.unusedVariables false      -- a walk need not use every 'w<i>' (that an integer argument fits its kind)

theorem own : ownKnob Try.prog.godebug = none := by kernel_rfl

theorem u32_nat {a : Int} (h : (Lit.int .u32 a).wf = true) : ∃ s : Nat, a = s ∧ s < 4294967296 := by
  have := bounds_u32 h
  exact ⟨a.toNat, by omega, by omega⟩
/-! ### STEP 1: THE WALK: the Go text returns true. 'Grown w w'': the world has at most new blocks (Derived/RowKit3.lean). Part the cases AHEAD of 'go_enter' where a test parts the walk; take each callee by a contract of your own. -/
set_option maxHeartbeats 2000000 in
theorem walk (a0 : Int) (a1 : Int) (a2 : Int) (w0 : (Lit.int .u32 a0).wf = true) (w1 : (Lit.int .i64 a1).wf = true) (w2 : (Lit.int .i64 a2).wf = true) (w : World) :
    Calls Try.prog 7 #[.int .u32 a0, .int .i64 a1, .int .i64 a2] w fun e w' => e = .returned (.bool true) ∧ Grown w w' := by
  obtain ⟨s, rfl, hs⟩ := u32_nat w0
  clear w0 w1 w2
  by_cases hn : 1 ≤ a1 ∧ a1 ≤ 65536
  · obtain ⟨n0, n1⟩ := hn
    obtain ⟨A, hA⟩ : ∃ A, pk s a1.toNat = A := ⟨_, rfl⟩
    obtain ⟨T, hT⟩ : ∃ T, nx s = T := ⟨_, rfl⟩
    have HA : Hid (pk s a1.toNat = A) := hA
    have HT : Hid (nx s = T) := hT
    have HT2 : Hid ((nx s : Int) = (T : Int)) := by show (nx s : Int) = (T : Int); rw [hT]
    have hlt : (A : Int) < a1 := by
      have := pk_lt (s := s) (n := a1.toNat) (by omega)
      rw [hA] at this; omega
    by_cases hm : 1 ≤ a2 ∧ a2 ≤ 65536
    · obtain ⟨m0, m1⟩ := hm
      obtain ⟨B, hB⟩ : ∃ B, pk s a2.toNat = B := ⟨_, rfl⟩
      have HB : Hid (pk s a2.toNat = B) := hB
      by_cases hx : a2 < a1
      · clear hs hA hT hB
        go_enter Try.func7, Try.ntmps7
        go_wp2_with fail
        refine (Pick_is s A T a1 _ n0 n1 HA HT).mono ?_
        rintro e w' ⟨rfl, rfl⟩
        go_wp2_with fail
        refine (Pick_is s B T a2 _ m0 m1 HB HT).mono ?_
        rintro e w' ⟨rfl, rfl⟩
        go_wp2_with fail
        refine (luckLives_any _).mono ?_
        rintro e w' ⟨rfl, rfl⟩
        go_wp2_with fail
        refine (Next_at s T _ HT2).mono ?_
        rintro e w' ⟨rfl, rfl⟩
        go_wp2_with fail
        go_ret
        exact ⟨rfl, Grown.refl _⟩
      · have hle : (A : Int) ≤ B := by
          have := pk_mono (s := s) (n := a1.toNat) (m := a2.toNat) (by omega)
          rw [hA, hB] at this; omega
        clear hs hA hT hB
        go_enter Try.func7, Try.ntmps7
        go_wp2_with fail
        refine (Pick_is s A T a1 _ n0 n1 HA HT).mono ?_
        rintro e w' ⟨rfl, rfl⟩
        go_wp2_with fail
        refine (Pick_is s B T a2 _ m0 m1 HB HT).mono ?_
        rintro e w' ⟨rfl, rfl⟩
        go_wp2_with fail
        refine (luckLives_any _).mono ?_
        rintro e w' ⟨rfl, rfl⟩
        go_wp2_with fail
        refine (Next_at s T _ HT2).mono ?_
        rintro e w' ⟨rfl, rfl⟩
        go_wp2_with fail
        go_ret
        exact ⟨rfl, Grown.refl _⟩
    · have hm' : a2 < 1 ∨ 65536 < a2 := by omega
      clear hs hA hT hm
      go_enter Try.func7, Try.ntmps7
      go_wp2_with fail
      refine (Pick_is s A T a1 _ n0 n1 HA HT).mono ?_
      rintro e w' ⟨rfl, rfl⟩
      go_wp2_with fail
      refine (Pick_no s a2 _ hm').mono ?_
      rintro e w' ⟨rfl, rfl⟩
      go_wp2_with fail
      refine (luckLives_any _).mono ?_
      rintro e w' ⟨rfl, rfl⟩
      go_wp2_with fail
      refine (luckLives_any _).mono ?_
      rintro e w' ⟨rfl, rfl⟩
      go_wp2_with fail
      go_ret
      exact ⟨rfl, Grown.refl _⟩
  · have hn' : a1 < 1 ∨ 65536 < a1 := by omega
    clear hn
    by_cases hm : 1 ≤ a2 ∧ a2 ≤ 65536
    · obtain ⟨m0, m1⟩ := hm
      obtain ⟨B, hB⟩ : ∃ B, pk s a2.toNat = B := ⟨_, rfl⟩
      obtain ⟨T, hT⟩ : ∃ T, nx s = T := ⟨_, rfl⟩
      have HB : Hid (pk s a2.toNat = B) := hB
      have HT : Hid (nx s = T) := hT
      clear hs hB hT
      go_enter Try.func7, Try.ntmps7
      go_wp2_with fail
      refine (Pick_no s a1 _ hn').mono ?_
      rintro e w' ⟨rfl, rfl⟩
      go_wp2_with fail
      refine (Pick_is s B T a2 _ m0 m1 HB HT).mono ?_
      rintro e w' ⟨rfl, rfl⟩
      go_wp2_with fail
      refine (luckLives_any _).mono ?_
      rintro e w' ⟨rfl, rfl⟩
      go_wp2_with fail
      refine (luckLives_any _).mono ?_
      rintro e w' ⟨rfl, rfl⟩
      go_wp2_with fail
      go_ret
      exact ⟨rfl, Grown.refl _⟩
    · have hm' : a2 < 1 ∨ 65536 < a2 := by omega
      clear hs hm
      go_enter Try.func7, Try.ntmps7
      go_wp2_with fail
      refine (Pick_no s a1 _ hn').mono ?_
      rintro e w' ⟨rfl, rfl⟩
      go_wp2_with fail
      refine (Pick_no s a2 _ hm').mono ?_
      rintro e w' ⟨rfl, rfl⟩
      go_wp2_with fail
      refine (luckLives_any _).mono ?_
      rintro e w' ⟨rfl, rfl⟩
      go_wp2_with fail
      refine (luckLives_any _).mono ?_
      rintro e w' ⟨rfl, rfl⟩
      go_wp2_with fail
      go_ret
      exact ⟨rfl, Grown.refl _⟩

/-! ### THE ROW's STEP: WRITTEN OUT: LEAVE IT -/
set_option maxRecDepth 100000 in
theorem lifted (os : Os) (started : os.Started) (H : Type) (enc : TypeId × Value → H) :
    ReturnsInHanded {} Try.checked os 7 .any (Rows.luckPicksSpec.pre6 enc Try.prog Try.f7 Rows.luckPicksRow.domain false) (Rows.luckPicksSpec.post enc Try.prog Try.f7 false true false false) := by
  refine returnsInHanded_of_change (C := Try.checked) own started (by kernel_rfl) Try.func7
    (ChangeSpec.witness6 (enc := enc) (C := Try.checked) false ⟨#[], #[.int .u32 0, .int .i64 0, .int .i64 0], []⟩ 8 (by kernel_rfl) (by kernel_rfl) (by kernel_rfl) (by kernel_rfl)) ?_
  intro W base args ds gs before hval0 hW hcnd _
  have hval : ∀ (j : Nat) t v, Try.f7.params[j]? = some t → args[j]? = some v → Value.okWide Try.prog W .any base t v := hval0
  have hW' := hW
  obtain ⟨p, q, hA0, hV, rfl, hfz, hnd⟩ := hW
  have hA : DataW.TrodAll enc Try.prog W 0 (fun _ => true) true Try.f7.params.toList args.toList ds p := hA0
  rw [Try.params7] at hA hval
  obtain ⟨v0, vs0, d0, ds0, p0, q0, hargs, rfl, rfl, h0, r0⟩ := trodAll_cons hA
  obtain ⟨v1, vs1, d1, ds1, p1, q1, rfl, rfl, rfl, h1, r1⟩ := trodAll_cons r0
  obtain ⟨v2, vs2, d2, ds2, p2, q2, rfl, rfl, rfl, h2, r2⟩ := trodAll_cons r1
  obtain ⟨rfl, rfl, rfl⟩ := trodAll_nil r2
  obtain rfl : args = #[v0, v1, v2] := by cases args; simp_all
  obtain ⟨rfl, rfl⟩ := trodVars_none hV
  obtain ⟨a0, rfl, rfl, rfl, w0⟩ := open_int Try.underlying22 (hval 0 22 v0 rfl rfl) h0
  obtain ⟨a1, rfl, rfl, rfl, w1⟩ := open_int Try.underlying3 (hval 1 3 v1 rfl rfl) h1
  obtain ⟨a2, rfl, rfl, rfl, w2⟩ := open_int Try.underlying3 (hval 2 3 v2 rfl rfl) h2
  clear hA0 hval0
  simp only [List.append_nil] at hW'
  refine (walk a0 a1 a2 w0 w1 w2 W).mono fun e W' ⟨he, hg⟩ => ?_
  subst he
  exact ⟨_, rfl, post_of_same (pa := []) (pv := []) hW' (fun _ _ _ => (trodAll_cons_mk (shut_bool Try.underlying4 _) trodAll_mk0)) (fun sp _ => (trodAll_cons_mk (shut_int Try.underlying22 w0) (trodAll_cons_mk (shut_int Try.underlying3 w1) (trodAll_cons_mk (shut_int Try.underlying3 w2) trodAll_mk0)))) (fun _ _ => rfl) rfl
    (hg.frame _) hg.2.1 (ok_one (by kernel_rfl) rfl (okWide_bool_mk Try.underlying4 _))⟩

theorem over : Rows.luckPicksRow.holds Try.pinned (OpenSpec.ofChange Rows.luckPicksSpec) :=
  OpenClaim.holds_of_wide 7 Try.f7 rfl rfl rfl rfl rfl rfl rfl ⟨rfl, rfl, rfl, rfl, rfl⟩ rfl rfl rfl rfl rfl (by kernel_rfl) Try.func7 (by kernel_rfl)
    (of_decide_eq_true (by kernel_rfl)) (by unfold Func.isWrapper; first | (rw [if_pos (by decide +kernel)]; kernel_rfl) | (rw [if_neg (by decide +kernel)]; exact ⟨rfl, rfl⟩))
    (fun os started H enc _ => lifted os started H enc)

/-- ████ THE STATEMENT ████ -/
theorem proved : Rows.LuckPicksSaid :=
  over
end Go.Proofs.Ytefgmgapiknemaa.luckPicks

namespace Go.Proofs.Ytefgmgapiknemaa
/-- For every number and every two bounds the law LuckPicks returns true. -/
theorem luckPicks_holds : Rows.LuckPicksSaid := luckPicks.proved
#print axioms luckPicks_holds
end Go.Proofs.Ytefgmgapiknemaa
