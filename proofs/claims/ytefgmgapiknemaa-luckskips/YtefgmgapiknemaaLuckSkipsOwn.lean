/- For every number and every two counts the law LuckSkips returns true. -/
import Derived.Test.YtefgmgapiknemaaRows
import Derived.Test.YtefgmgapiknemaaMath
import Derived.Test.YtefgmgapiknemaaCon
import Derived.WalkKit
import Derived.ProofKit
import Derived.OpenShut
namespace Go.Proofs.Ytefgmgapiknemaa.luckSkips
open Go.ChangeShapes Go.WideShapes Go.ChangeAt Go.RowKit
set_option linter.unusedVariables false      -- a walk need not use every 'w<i>' (that an integer argument fits its kind)

theorem own : ownKnob Try.prog.godebug = none := by kernel_rfl

theorem u32_nat {a : Int} (h : (Lit.int .u32 a).wf = true) : ∃ s : Nat, a = s ∧ s < 4294967296 := by
  have := bounds_u32 h
  exact ⟨a.toNat, by omega, by omega⟩
/-! ### STEP 1: THE WALK: the Go text returns true. 'Grown w w'': the world has at most new blocks (Derived/RowKit3.lean). Part the cases AHEAD of 'go_enter' where a test parts the walk; take each callee by a contract of your own. -/
set_option maxHeartbeats 2000000 in
theorem walk (a0 : Int) (a1 : Int) (a2 : Int) (w0 : (Lit.int .u32 a0).wf = true) (w1 : (Lit.int .i64 a1).wf = true) (w2 : (Lit.int .i64 a2).wf = true) (w : World) :
    Calls Try.prog 4 #[.int .u32 a0, .int .i64 a1, .int .i64 a2] w fun e w' => e = .returned (.bool true) ∧ Grown w w' := by
  obtain ⟨s, rfl, hs⟩ := u32_nat w0
  have HS : Hid (s < 4294967296) := hs
  have HZ : Hid ((0 : Nat) < 4294967296) := (by decide : (0 : Nat) < 4294967296)
  have hbn := bk_nx hs
  have hnb := nx_bk hs
  obtain ⟨X, hX⟩ : ∃ X, nx s = X := ⟨_, rfl⟩
  obtain ⟨Y, hY⟩ : ∃ Y, bk s = Y := ⟨_, rfl⟩
  have c1 := fun w => Next_any s w
  have c2 := fun w => Back_any s w
  rw [hX] at hbn c1
  rw [hY] at hnb c2
  have c3 := fun w => Back_any X w
  have c4 := fun w => Next_any Y w
  rw [hbn] at c3
  rw [hnb] at c4
  have C1 : Hid (∀ w : World, _) := c1
  have C2 : Hid (∀ w : World, _) := c2
  have C3 : Hid (∀ w : World, _) := c3
  have C4 : Hid (∀ w : World, _) := c4
  clear c1 c2 c3 c4 hbn hnb hX hY w0 w1 w2
  by_cases hn : 0 ≤ a1 ∧ a1 ≤ 4294967296
  · obtain ⟨n0, n1⟩ := hn
    obtain ⟨A, hA⟩ : ∃ A, sk s a1.toNat = A := ⟨_, rfl⟩
    have hA' : A < 4294967296 := hA ▸ sk_lt hs _
    have HA : Hid (sk s a1.toNat = A) := hA
    have HL : Hid (A < 4294967296) := hA'
    by_cases hm : 0 ≤ a2 ∧ a2 ≤ 4294967296
    · obtain ⟨m0, m1⟩ := hm
      obtain ⟨B, hB⟩ : ∃ B, sk A a2.toNat = B := ⟨_, rfl⟩
      have HB : Hid (sk A a2.toNat = B) := hB
      by_cases ht : a1 + a2 < 4294967296
      · have HC : Hid (sk s (a1 + a2).toNat = B) := by
          show sk s (a1 + a2).toNat = B
          rw [show (a1 + a2).toNat = a1.toNat + a2.toNat by omega, sk_add, hA, hB]
        obtain ⟨D, hD⟩ : ∃ D, nx A = D := ⟨_, rfl⟩
        have HD : Hid (sk s (a1 + 1).toNat = D) := by
          show sk s (a1 + 1).toNat = D
          rw [show (a1 + 1).toNat = a1.toNat + 1 by omega, sk_add, hA]; exact hD
        have HD2 : Hid ((nx A : Int) = (D : Int)) := by show (nx A : Int) = (D : Int); rw [hD]
        clear hs hA hA' hB hD
        by_cases hx : a1 + 1 ≤ 4294967296
        · have x0 : 0 ≤ a1 + 1 := by omega
          go_enter Try.func4, Try.ntmps4
          go_wp2_with fail
          refine (Skip_at s A a1 _ HS n0 n1 HA).mono ?_
          rintro e w' ⟨rfl, rfl⟩
          go_wp2_with fail
          refine (Skip_at A B a2 _ HL m0 m1 HB).mono ?_
          rintro e w' ⟨rfl, rfl⟩
          go_wp2_with fail
          refine (luckLives_any _).mono ?_
          rintro e w' ⟨rfl, rfl⟩
          go_wp2_with fail
          refine (C1.out _).mono ?_
          rintro e w' ⟨rfl, rfl⟩
          go_wp2_with fail
          refine (C3.out _).mono ?_
          rintro e w' ⟨rfl, rfl⟩
          go_wp2_with fail
          refine (C2.out _).mono ?_
          rintro e w' ⟨rfl, rfl⟩
          go_wp2_with fail
          refine (C4.out _).mono ?_
          rintro e w' ⟨rfl, rfl⟩
          go_wp2_with fail
          refine (Skip_at s B (a1 + a2) _ HS (by omega) (by omega) HC).mono ?_
          rintro e w' ⟨rfl, rfl⟩
          go_wp2_with fail
          refine (Skip_at s D (a1 + 1) _ HS x0 hx HD).mono ?_
          rintro e w' ⟨rfl, rfl⟩
          go_wp2_with fail
          refine (Next_at A D _ HD2).mono ?_
          rintro e w' ⟨rfl, rfl⟩
          go_wp2_with fail
          go_ret
          exact ⟨rfl, Grown.refl _⟩
        · exact absurd hx (by omega)
      · clear hs hA hA' hB
        go_enter Try.func4, Try.ntmps4
        go_wp2_with fail
        refine (Skip_at s A a1 _ HS n0 n1 HA).mono ?_
        rintro e w' ⟨rfl, rfl⟩
        go_wp2_with fail
        refine (Skip_at A B a2 _ HL m0 m1 HB).mono ?_
        rintro e w' ⟨rfl, rfl⟩
        go_wp2_with fail
        refine (luckLives_any _).mono ?_
        rintro e w' ⟨rfl, rfl⟩
        go_wp2_with fail
        refine (C1.out _).mono ?_
        rintro e w' ⟨rfl, rfl⟩
        go_wp2_with fail
        refine (C3.out _).mono ?_
        rintro e w' ⟨rfl, rfl⟩
        go_wp2_with fail
        refine (C2.out _).mono ?_
        rintro e w' ⟨rfl, rfl⟩
        go_wp2_with fail
        refine (C4.out _).mono ?_
        rintro e w' ⟨rfl, rfl⟩
        go_wp2_with fail
        go_ret
        exact ⟨rfl, Grown.refl _⟩
    · have hm' : a2 < 0 ∨ 4294967296 < a2 := by omega
      clear hs hA hA' hm
      go_enter Try.func4, Try.ntmps4
      go_wp2_with fail
      refine (Skip_at s A a1 _ HS n0 n1 HA).mono ?_
      rintro e w' ⟨rfl, rfl⟩
      go_wp2_with fail
      refine (Skip_no A a2 _ hm').mono ?_
      rintro e w' ⟨rfl, rfl⟩
      go_wp2_with fail
      refine (luckLives_any _).mono ?_
      rintro e w' ⟨rfl, rfl⟩
      go_wp2_with fail
      refine (C1.out _).mono ?_
      rintro e w' ⟨rfl, rfl⟩
      go_wp2_with fail
      refine (C3.out _).mono ?_
      rintro e w' ⟨rfl, rfl⟩
      go_wp2_with fail
      refine (C2.out _).mono ?_
      rintro e w' ⟨rfl, rfl⟩
      go_wp2_with fail
      refine (C4.out _).mono ?_
      rintro e w' ⟨rfl, rfl⟩
      go_wp2_with fail
      go_ret
      exact ⟨rfl, Grown.refl _⟩
  · have hn' : a1 < 0 ∨ 4294967296 < a1 := by omega
    clear hn
    by_cases hm : 0 ≤ a2 ∧ a2 ≤ 4294967296
    · obtain ⟨m0, m1⟩ := hm
      obtain ⟨B, hB⟩ : ∃ B, sk 0 a2.toNat = B := ⟨_, rfl⟩
      have HB : Hid (sk 0 a2.toNat = B) := hB
      clear hs hB
      go_enter Try.func4, Try.ntmps4
      go_wp2_with fail
      refine (Skip_no s a1 _ hn').mono ?_
      rintro e w' ⟨rfl, rfl⟩
      go_wp2_with fail
      refine (Skip_at 0 B a2 _ HZ m0 m1 HB).mono ?_
      rintro e w' ⟨rfl, rfl⟩
      go_wp2_with fail
      refine (luckLives_any _).mono ?_
      rintro e w' ⟨rfl, rfl⟩
      go_wp2_with fail
      refine (C1.out _).mono ?_
      rintro e w' ⟨rfl, rfl⟩
      go_wp2_with fail
      refine (C3.out _).mono ?_
      rintro e w' ⟨rfl, rfl⟩
      go_wp2_with fail
      refine (C2.out _).mono ?_
      rintro e w' ⟨rfl, rfl⟩
      go_wp2_with fail
      refine (C4.out _).mono ?_
      rintro e w' ⟨rfl, rfl⟩
      go_wp2_with fail
      go_ret
      exact ⟨rfl, Grown.refl _⟩
    · have hm' : a2 < 0 ∨ 4294967296 < a2 := by omega
      clear hs hm
      go_enter Try.func4, Try.ntmps4
      go_wp2_with fail
      refine (Skip_no s a1 _ hn').mono ?_
      rintro e w' ⟨rfl, rfl⟩
      go_wp2_with fail
      refine (Skip_no 0 a2 _ hm').mono ?_
      rintro e w' ⟨rfl, rfl⟩
      go_wp2_with fail
      refine (luckLives_any _).mono ?_
      rintro e w' ⟨rfl, rfl⟩
      go_wp2_with fail
      refine (C1.out _).mono ?_
      rintro e w' ⟨rfl, rfl⟩
      go_wp2_with fail
      refine (C3.out _).mono ?_
      rintro e w' ⟨rfl, rfl⟩
      go_wp2_with fail
      refine (C2.out _).mono ?_
      rintro e w' ⟨rfl, rfl⟩
      go_wp2_with fail
      refine (C4.out _).mono ?_
      rintro e w' ⟨rfl, rfl⟩
      go_wp2_with fail
      go_ret
      exact ⟨rfl, Grown.refl _⟩

/-! ### THE ROW's STEP: WRITTEN OUT: LEAVE IT -/
set_option maxRecDepth 100000 in
theorem lifted (os : Os) (started : os.Started) (H : Type) (enc : TypeId × Value → H) :
    ReturnsInHanded {} Try.checked os 4 .any (Rows.luckSkipsSpec.pre6 enc Try.prog Try.f4 Rows.luckSkipsRow.domain false) (Rows.luckSkipsSpec.post enc Try.prog Try.f4 false true false false) := by
  refine returnsInHanded_of_change (C := Try.checked) own started (by kernel_rfl) Try.func4
    (ChangeSpec.witness6 (enc := enc) (C := Try.checked) false ⟨#[], #[.int .u32 0, .int .i64 0, .int .i64 0], []⟩ 8 (by kernel_rfl) (by kernel_rfl) (by kernel_rfl) (by kernel_rfl)) ?_
  intro W base args ds gs before hval0 hW hcnd _
  have hval : ∀ (j : Nat) t v, Try.f4.params[j]? = some t → args[j]? = some v → Value.okWide Try.prog W .any base t v := hval0
  have hW' := hW
  obtain ⟨p, q, hA0, hV, rfl, hfz, hnd⟩ := hW
  have hA : DataW.TrodAll enc Try.prog W 0 (fun _ => true) true Try.f4.params.toList args.toList ds p := hA0
  rw [Try.params4] at hA hval
  obtain ⟨v0, vs0, d0, ds0, p0, q0, hargs, rfl, rfl, h0, r0⟩ := trodAll_cons hA
  obtain ⟨v1, vs1, d1, ds1, p1, q1, rfl, rfl, rfl, h1, r1⟩ := trodAll_cons r0
  obtain ⟨v2, vs2, d2, ds2, p2, q2, rfl, rfl, rfl, h2, r2⟩ := trodAll_cons r1
  obtain ⟨rfl, rfl, rfl⟩ := trodAll_nil r2
  obtain rfl : args = #[v0, v1, v2] := by cases args; simp_all
  obtain ⟨rfl, rfl⟩ := trodVars_none hV
  obtain ⟨a0, rfl, rfl, rfl, w0⟩ := open_int Try.underlying22 (hval 0 22 v0 rfl rfl) h0
  obtain ⟨a1, rfl, rfl, rfl, w1⟩ := open_int Try.underlying3 (hval 1 3 v1 rfl rfl) h1
  obtain ⟨a2, rfl, rfl, rfl, w2⟩ := open_int Try.underlying3 (hval 2 3 v2 rfl rfl) h2
  clear hA0 hval0
  simp only [List.append_nil] at hW'
  refine (walk a0 a1 a2 w0 w1 w2 W).mono fun e W' ⟨he, hg⟩ => ?_
  subst he
  exact ⟨_, rfl, post_of_same (pa := []) (pv := []) hW' (fun _ _ _ => (trodAll_cons_mk (shut_bool Try.underlying4 _) trodAll_mk0)) (fun sp _ => (trodAll_cons_mk (shut_int Try.underlying22 w0) (trodAll_cons_mk (shut_int Try.underlying3 w1) (trodAll_cons_mk (shut_int Try.underlying3 w2) trodAll_mk0)))) (fun _ _ => rfl) rfl
    (hg.frame _) hg.2.1 (ok_one (by kernel_rfl) rfl (okWide_bool_mk Try.underlying4 _))⟩

theorem over : Rows.luckSkipsRow.holds Try.pinned (OpenSpec.ofChange Rows.luckSkipsSpec) :=
  OpenClaim.holds_of_wide 4 Try.f4 rfl rfl rfl rfl rfl rfl rfl ⟨rfl, rfl, rfl, rfl, rfl⟩ rfl rfl rfl rfl rfl (by kernel_rfl) Try.func4 (by kernel_rfl)
    (of_decide_eq_true (by kernel_rfl)) (by unfold Func.isWrapper; first | (rw [if_pos (by decide +kernel)]; kernel_rfl) | (rw [if_neg (by decide +kernel)]; exact ⟨rfl, rfl⟩))
    (fun os started H enc _ => lifted os started H enc)

/-- ████ THE STATEMENT ████ -/
theorem proved : Rows.LuckSkipsSaid :=
  over
end Go.Proofs.Ytefgmgapiknemaa.luckSkips

namespace Go.Proofs.Ytefgmgapiknemaa
/-- For every number and every two counts the law LuckSkips returns true. -/
theorem luckSkips_holds : Rows.LuckSkipsSaid := luckSkips.proved
#print axioms luckSkips_holds
end Go.Proofs.Ytefgmgapiknemaa
