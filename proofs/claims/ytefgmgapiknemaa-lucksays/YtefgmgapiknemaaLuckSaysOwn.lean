/- For every number and every count the law LuckSays returns true: all calls of package luck answer what the document says. -/
import Derived.Test.YtefgmgapiknemaaRows
import Derived.Test.YtefgmgapiknemaaPost
import Derived.Test.YtefgmgapiknemaaMath
import Derived.Test.YtefgmgapiknemaaCon
import Derived.Test.YtefgmgapiknemaaDeal
import Derived.Test.YtefgmgapiknemaaDealt
import Derived.WalkKit
import Derived.ProofKit
import Derived.OpenShut
namespace Go.Proofs.Ytefgmgapiknemaa.luckSays
open Go.ChangeShapes Go.WideShapes Go.ChangeAt Go.RowKit
set_option linter.unusedVariables false      -- a walk need not use every 'w<i>' (that an integer argument fits its kind)

theorem own : ownKnob Try.prog.godebug = none := by kernel_rfl

theorem u32_nat {a : Int} (h : (Lit.int .u32 a).wf = true) : ∃ s : Nat, a = s ∧ s < 4294967296 := by
  have := bounds_u32 h
  exact ⟨a.toNat, by omega, by omega⟩
theorem between_yes (n lo hi : Int) (w : World) (h1 : lo ≤ n) (h2 : n ≤ hi) : Calls Try.prog 15 #[.int .i64 n, .int .i64 lo, .int .i64 hi] w fun e w' => e = .returned (.bool true) ∧ w' = w := by
  have := Between_any n lo hi w
  rw [show (decide (lo ≤ n) && decide (n ≤ hi)) = true by simp [h1, h2]] at this; exact this
theorem between_no (n lo hi : Int) (w : World) (h : n < lo ∨ hi < n) : Calls Try.prog 15 #[.int .i64 n, .int .i64 lo, .int .i64 hi] w fun e w' => e = .returned (.bool false) ∧ w' = w := by
  have := Between_any n lo hi w
  rw [show (decide (lo ≤ n) && decide (n ≤ hi)) = false by simp; omega] at this; exact this
theorem cards_stay {w w1 w2 : World} {n : Nat} {C : List Nat} (ho : owns w.heap.size w1 w.heap.size n n C) (hb : Below w1.heap.size w1 w2) (k : Nat) (hk : k < n) :
    w2.cell? ⟨w.heap.size, k, none⟩ = some (.int .i64 ((C.getD k 0 : Nat) : Int)) := by
  have hlt : w.heap.size < w1.heap.size := (World.ownsRow.lt ho w.heap.size rfl).2
  rw [hb.cell (p := ⟨w.heap.size, k, none⟩) hlt]; exact owns_cell ho hk
theorem both_below {w w1 w2 : World} (h1 : Below w.heap.size w w1) (h2 : Below w1.heap.size w1 w2) : Below w.heap.size w w2 := h1.trans (h2.mono h1.size)
/-! ### STEP 1: THE WALK: the Go text returns true. 'Grown w w'': the world has at most new blocks (Derived/RowKit3.lean). Part the cases AHEAD of 'go_enter' where a test parts the walk; take each callee by a contract of your own. -/
set_option maxHeartbeats 2000000 in
theorem walk (a0 : Int) (a1 : Int) (w0 : (Lit.int .u32 a0).wf = true) (w1 : (Lit.int .i64 a1).wf = true) (w : World) :
    Calls Try.prog 3 #[.int .u32 a0, .int .i64 a1] w fun e w' => e = .returned (.bool true) ∧ Below w.heap.size w w' := by
  obtain ⟨s, rfl, hs⟩ := u32_nat w0
  have HS : Hid (s < 4294967296) := hs
  have hnb := nx_bk hs
  obtain ⟨X, hX⟩ : ∃ X, nx s = X := ⟨_, rfl⟩
  obtain ⟨Y, hY⟩ : ∃ Y, bk s = Y := ⟨_, rfl⟩
  have hYl : Y < 4294967296 := by rw [← hY]; exact bk_lt s
  have c1 := fun w => Next_any s w
  have c2 := fun w => LuckNext_any s w (by omega)
  have c3 := fun w => Back_any s w
  have c4 := fun w => LuckNext_any Y w (by omega)
  rw [hY] at hnb c3
  rw [hX] at c1 c2
  rw [hnb] at c4
  have C1 : Hid (∀ w : World, _) := c1
  have C2 : Hid (∀ w : World, _) := c2
  have C3 : Hid (∀ w : World, _) := c3
  have C4 : Hid (∀ w : World, _) := c4
  have HX : Hid (nx s = X) := hX
  obtain ⟨A, hA⟩ : ∃ A, sk s a1.toNat = A := ⟨_, rfl⟩
  have HA : Hid (sk s a1.toNat = A) := hA
  obtain ⟨P, hP⟩ : ∃ P, pk s a1.toNat = P := ⟨_, rfl⟩
  have HP : Hid (pk s a1.toNat = P) := hP
  clear c1 c2 c3 c4 hnb hX hY w0 w1 hs hYl hA hP
  by_cases q1 : a1 < 0
  · skip
    go_enter Try.func3, Try.ntmps3
    go_wp2_with fail
    refine (Skip_no s a1 _ (by omega)).mono ?_
    rintro e w' ⟨rfl, hw⟩
    subst w'
    go_wp2_with fail
    refine (Pick_no s a1 _ (by omega)).mono ?_
    rintro e w' ⟨rfl, hw⟩
    subst w'
    go_wp2_with fail
    refine (Deal_no s a1 _ (by omega)).mono ?_
    rintro e w' ⟨rfl, hw⟩
    subst w'
    go_wp2_with fail
    refine (C1.out _).mono ?_
    rintro e w' ⟨rfl, hw⟩
    subst w'
    go_wp2_with fail
    refine (C2.out _).mono ?_
    rintro e w' ⟨rfl, hw⟩
    subst w'
    go_wp2_with fail
    refine (C3.out _).mono ?_
    rintro e w' ⟨rfl, hw⟩
    subst w'
    go_wp2_with fail
    refine (C4.out _).mono ?_
    rintro e w' ⟨rfl, hw⟩
    subst w'
    go_wp2_with fail
    refine (between_no a1 0 4294967296 _ (by omega)).mono ?_
    rintro e w' ⟨rfl, hw⟩
    subst w'
    go_wp2_with fail
    refine (between_no a1 1 65536 _ (by omega)).mono ?_
    rintro e w' ⟨rfl, hw⟩
    subst w'
    go_wp2_with fail
    refine (between_no a1 0 52 _ (by omega)).mono ?_
    rintro e w' ⟨rfl, hw⟩
    subst w'
    go_wp2_with fail
    go_ret
    exact ⟨rfl, Below.refl _ _⟩
  by_cases q2 : 4294967296 < a1
  · skip
    go_enter Try.func3, Try.ntmps3
    go_wp2_with fail
    refine (Skip_no s a1 _ (by omega)).mono ?_
    rintro e w' ⟨rfl, hw⟩
    subst w'
    go_wp2_with fail
    refine (Pick_no s a1 _ (by omega)).mono ?_
    rintro e w' ⟨rfl, hw⟩
    subst w'
    go_wp2_with fail
    refine (Deal_no s a1 _ (by omega)).mono ?_
    rintro e w' ⟨rfl, hw⟩
    subst w'
    go_wp2_with fail
    refine (C1.out _).mono ?_
    rintro e w' ⟨rfl, hw⟩
    subst w'
    go_wp2_with fail
    refine (C2.out _).mono ?_
    rintro e w' ⟨rfl, hw⟩
    subst w'
    go_wp2_with fail
    refine (C3.out _).mono ?_
    rintro e w' ⟨rfl, hw⟩
    subst w'
    go_wp2_with fail
    refine (C4.out _).mono ?_
    rintro e w' ⟨rfl, hw⟩
    subst w'
    go_wp2_with fail
    refine (between_no a1 0 4294967296 _ (by omega)).mono ?_
    rintro e w' ⟨rfl, hw⟩
    subst w'
    go_wp2_with fail
    refine (between_no a1 1 65536 _ (by omega)).mono ?_
    rintro e w' ⟨rfl, hw⟩
    subst w'
    go_wp2_with fail
    refine (between_no a1 0 52 _ (by omega)).mono ?_
    rintro e w' ⟨rfl, hw⟩
    subst w'
    go_wp2_with fail
    go_ret
    exact ⟨rfl, Below.refl _ _⟩
  by_cases q3 : 65536 < a1
  · skip
    go_enter Try.func3, Try.ntmps3
    go_wp2_with fail
    refine (Skip_at s A a1 _ HS (by omega) (by omega) HA).mono ?_
    rintro e w' ⟨rfl, hw⟩
    subst w'
    go_wp2_with fail
    refine (Pick_no s a1 _ (by omega)).mono ?_
    rintro e w' ⟨rfl, hw⟩
    subst w'
    go_wp2_with fail
    refine (Deal_no s a1 _ (by omega)).mono ?_
    rintro e w' ⟨rfl, hw⟩
    subst w'
    go_wp2_with fail
    refine (C1.out _).mono ?_
    rintro e w' ⟨rfl, hw⟩
    subst w'
    go_wp2_with fail
    refine (C2.out _).mono ?_
    rintro e w' ⟨rfl, hw⟩
    subst w'
    go_wp2_with fail
    refine (C3.out _).mono ?_
    rintro e w' ⟨rfl, hw⟩
    subst w'
    go_wp2_with fail
    refine (C4.out _).mono ?_
    rintro e w' ⟨rfl, hw⟩
    subst w'
    go_wp2_with fail
    refine (between_yes a1 0 4294967296 _ (by omega) (by omega)).mono ?_
    rintro e w' ⟨rfl, hw⟩
    subst w'
    go_wp2_with fail
    refine (Lucks_at s A a1 _ HS (by omega) (by omega) HA).mono ?_
    rintro e w' ⟨rfl, hw⟩
    subst w'
    go_wp2_with fail
    refine (between_no a1 1 65536 _ (by omega)).mono ?_
    rintro e w' ⟨rfl, hw⟩
    subst w'
    go_wp2_with fail
    refine (between_no a1 0 52 _ (by omega)).mono ?_
    rintro e w' ⟨rfl, hw⟩
    subst w'
    go_wp2_with fail
    go_ret
    exact ⟨rfl, Below.refl _ _⟩
  by_cases q4 : 52 < a1
  · skip
    go_enter Try.func3, Try.ntmps3
    go_wp2_with fail
    refine (Skip_at s A a1 _ HS (by omega) (by omega) HA).mono ?_
    rintro e w' ⟨rfl, hw⟩
    subst w'
    go_wp2_with fail
    refine (Pick_is s P X a1 _ (by omega) (by omega) HP HX).mono ?_
    rintro e w' ⟨rfl, hw⟩
    subst w'
    go_wp2_with fail
    refine (Deal_no s a1 _ (by omega)).mono ?_
    rintro e w' ⟨rfl, hw⟩
    subst w'
    go_wp2_with fail
    refine (C1.out _).mono ?_
    rintro e w' ⟨rfl, hw⟩
    subst w'
    go_wp2_with fail
    refine (C2.out _).mono ?_
    rintro e w' ⟨rfl, hw⟩
    subst w'
    go_wp2_with fail
    refine (C3.out _).mono ?_
    rintro e w' ⟨rfl, hw⟩
    subst w'
    go_wp2_with fail
    refine (C4.out _).mono ?_
    rintro e w' ⟨rfl, hw⟩
    subst w'
    go_wp2_with fail
    refine (between_yes a1 0 4294967296 _ (by omega) (by omega)).mono ?_
    rintro e w' ⟨rfl, hw⟩
    subst w'
    go_wp2_with fail
    refine (Lucks_at s A a1 _ HS (by omega) (by omega) HA).mono ?_
    rintro e w' ⟨rfl, hw⟩
    subst w'
    go_wp2_with fail
    refine (between_yes a1 1 65536 _ (by omega) (by omega)).mono ?_
    rintro e w' ⟨rfl, hw⟩
    subst w'
    go_wp2_with fail
    refine (Luck_at s P X a1 _ HS (by omega) (by omega) HP HX).mono ?_
    rintro e w' ⟨rfl, hw⟩
    subst w'
    go_wp2_with fail
    refine (between_no a1 0 52 _ (by omega)).mono ?_
    rintro e w' ⟨rfl, hw⟩
    subst w'
    go_wp2_with fail
    go_ret
    exact ⟨rfl, Below.refl _ _⟩
  obtain ⟨n, rfl⟩ : ∃ n : Nat, a1 = n := ⟨a1.toNat, by omega⟩
  obtain ⟨T, C, hT⟩ : ∃ T C, dl s (n - 1) (List.range n) = (T, C) := ⟨_, _, rfl⟩
  have HT : Hid (dl s (n - 1) (List.range n) = (T, C)) := hT
  have hn52 : n ≤ 52 := by omega
  by_cases q5 : n = 0
  · subst q5
    rw [show 0 - 1 = 0 from rfl, dl_zero] at hT
    injection hT with e1 e2
    subst e1
    clear e2
    go_enter Try.func3, Try.ntmps3
    go_wp2_with fail
    refine (Skip_at s A (0 : Int) _ HS (by omega) (by omega) HA).mono ?_
    rintro e w' ⟨rfl, hw⟩
    subst w'
    go_wp2_with fail
    refine (Pick_no s (0 : Int) _ (by omega)).mono ?_
    rintro e w' ⟨rfl, hw⟩
    subst w'
    go_wp2_with fail
    refine (Deal_any s 0 s C _ HS (by omega) HT).mono ?_
    rintro e wd ⟨rfl, hb, ho⟩
    have HB : Hid (Below w.heap.size w wd) := hb
    have HO : Hid (owns w.heap.size wd w.heap.size 0 0 C) := ho
    clear hb ho
    go_wp2_with fail
    refine (C1.out _).mono ?_
    rintro e w' ⟨rfl, hw⟩
    subst w'
    go_wp2_with fail
    refine (C2.out _).mono ?_
    rintro e w' ⟨rfl, hw⟩
    subst w'
    go_wp2_with fail
    refine (C3.out _).mono ?_
    rintro e w' ⟨rfl, hw⟩
    subst w'
    go_wp2_with fail
    refine (C4.out _).mono ?_
    rintro e w' ⟨rfl, hw⟩
    subst w'
    go_wp2_with fail
    refine (between_yes (0 : Int) 0 4294967296 _ (by omega) (by omega)).mono ?_
    rintro e w' ⟨rfl, hw⟩
    subst w'
    go_wp2_with fail
    refine (Lucks_at s A (0 : Int) _ HS (by omega) (by omega) HA).mono ?_
    rintro e w' ⟨rfl, hw⟩
    subst w'
    go_wp2_with fail
    refine (between_no (0 : Int) 1 65536 _ (by omega)).mono ?_
    rintro e w' ⟨rfl, hw⟩
    subst w'
    go_wp2_with fail
    refine (between_yes (0 : Int) 0 52 _ (by omega) (by omega)).mono ?_
    rintro e w' ⟨rfl, hw⟩
    subst w'
    go_wp2_with fail
    refine (Dealt_zero s _).mono ?_
    rintro e w' ⟨rfl, hw⟩
    subst w'
    go_wp2_with fail
    refine (equal_zero _ _ _ _ _).mono ?_
    rintro e w' ⟨rfl, hw⟩
    subst w'
    go_wp2_with fail
    go_ret
    exact ⟨rfl, HB.out⟩
  · clear hT
    go_enter Try.func3, Try.ntmps3
    go_wp2_with fail
    refine (Skip_at s A (n : Int) _ HS (by omega) (by omega) HA).mono ?_
    rintro e w' ⟨rfl, hw⟩
    subst w'
    go_wp2_with fail
    refine (Pick_is s P X (n : Int) _ (by omega) (by omega) HP HX).mono ?_
    rintro e w' ⟨rfl, hw⟩
    subst w'
    go_wp2_with fail
    refine (Deal_any s n T C _ HS (by omega) HT).mono ?_
    rintro e wd ⟨rfl, hb, ho⟩
    have HB : Hid (Below w.heap.size w wd) := hb
    have HO : Hid (owns w.heap.size wd w.heap.size n n C) := ho
    clear hb ho
    go_wp2_with fail
    refine (C1.out _).mono ?_
    rintro e w' ⟨rfl, hw⟩
    subst w'
    go_wp2_with fail
    refine (C2.out _).mono ?_
    rintro e w' ⟨rfl, hw⟩
    subst w'
    go_wp2_with fail
    refine (C3.out _).mono ?_
    rintro e w' ⟨rfl, hw⟩
    subst w'
    go_wp2_with fail
    refine (C4.out _).mono ?_
    rintro e w' ⟨rfl, hw⟩
    subst w'
    go_wp2_with fail
    refine (between_yes (n : Int) 0 4294967296 _ (by omega) (by omega)).mono ?_
    rintro e w' ⟨rfl, hw⟩
    subst w'
    go_wp2_with fail
    refine (Lucks_at s A (n : Int) _ HS (by omega) (by omega) HA).mono ?_
    rintro e w' ⟨rfl, hw⟩
    subst w'
    go_wp2_with fail
    refine (between_yes (n : Int) 1 65536 _ (by omega) (by omega)).mono ?_
    rintro e w' ⟨rfl, hw⟩
    subst w'
    go_wp2_with fail
    refine (Luck_at s P X (n : Int) _ HS (by omega) (by omega) HP HX).mono ?_
    rintro e w' ⟨rfl, hw⟩
    subst w'
    go_wp2_with fail
    refine (between_yes (n : Int) 0 52 _ (by omega) (by omega)).mono ?_
    rintro e w' ⟨rfl, hw⟩
    subst w'
    go_wp2_with fail
    refine (Dealt_any s n T C _ HS (by omega) (by omega) HT).mono ?_
    rintro e w2 ⟨g, c, rfl, hb2, ho2⟩
    have HB2 : Hid (Below wd.heap.size wd w2) := hb2
    have E := equal_any w.heap.size g n n c C w2 (by omega) (fun k hk => cards_stay HO.out hb2 k hk) (fun k hk => owns_cell ho2 hk)
    have HE : Hid (Calls Try.prog 19 _ _ _) := E
    clear hb2 ho2 E
    go_wp2_with fail
    refine (HE.out).mono ?_
    rintro e w3 ⟨rfl, m, rfl⟩
    go_wp2_with fail
    go_ret
    exact ⟨rfl, below_drewN (both_below HB.out HB2.out) m⟩

/-! ### THE ROW's STEP: WRITTEN OUT: LEAVE IT -/
set_option maxRecDepth 100000 in
theorem lifted (os : Os) (started : os.Started) (H : Type) (enc : TypeId × Value → H) :
    ReturnsInHanded {} Try.checked os 3 .any (Rows.luckSaysSpec.pre6 enc Try.prog Try.f3 Rows.luckSaysRow.domain false) (Rows.luckSaysSpec.post enc Try.prog Try.f3 false true false false) := by
  refine returnsInHanded_of_change (C := Try.checked) own started (by kernel_rfl) Try.func3
    (ChangeSpec.witness6 (enc := enc) (C := Try.checked) false ⟨#[], #[.int .u32 0, .int .i64 0], []⟩ 8 (by kernel_rfl) (by kernel_rfl) (by kernel_rfl) (by kernel_rfl)) ?_
  intro W base args ds gs before hval0 hW hcnd _
  have hval : ∀ (j : Nat) t v, Try.f3.params[j]? = some t → args[j]? = some v → Value.okWide Try.prog W .any base t v := hval0
  have hW' := hW
  obtain ⟨p, q, hA0, hV, rfl, hfz, hnd⟩ := hW
  have hA : DataW.TrodAll enc Try.prog W 0 (fun _ => true) true Try.f3.params.toList args.toList ds p := hA0
  rw [Try.params3] at hA hval
  obtain ⟨v0, vs0, d0, ds0, p0, q0, hargs, rfl, rfl, h0, r0⟩ := trodAll_cons hA
  obtain ⟨v1, vs1, d1, ds1, p1, q1, rfl, rfl, rfl, h1, r1⟩ := trodAll_cons r0
  obtain ⟨rfl, rfl, rfl⟩ := trodAll_nil r1
  obtain rfl : args = #[v0, v1] := by cases args; simp_all
  obtain ⟨rfl, rfl⟩ := trodVars_none hV
  obtain ⟨a0, rfl, rfl, rfl, w0⟩ := open_int Try.underlying22 (hval 0 22 v0 rfl rfl) h0
  obtain ⟨a1, rfl, rfl, rfl, w1⟩ := open_int Try.underlying3 (hval 1 3 v1 rfl rfl) h1
  clear hA0 hval0
  simp only [List.append_nil] at hW'
  refine (walk a0 a1 w0 w1 W).mono fun e W' ⟨he, hg⟩ => ?_
  subst he
  exact ⟨_, rfl, post_of_kept (pa := []) (pv := []) hW' (fun _ _ _ => (trodAll_cons_mk (shut_bool Try.underlying4 _) trodAll_mk0)) (fun sp _ => (trodAll_cons_mk (shut_int Try.underlying22 w0) (trodAll_cons_mk (shut_int Try.underlying3 w1) trodAll_mk0))) (fun _ _ => rfl) rfl (hg.frame _)⟩

theorem over : Rows.luckSaysRow.holds Try.pinned (OpenSpec.ofChange Rows.luckSaysSpec) :=
  OpenClaim.holds_of_wide 3 Try.f3 rfl rfl rfl rfl rfl rfl rfl ⟨rfl, rfl, rfl, rfl, rfl⟩ rfl rfl rfl rfl rfl (by kernel_rfl) Try.func3 (by kernel_rfl)
    (of_decide_eq_true (by kernel_rfl)) (by unfold Func.isWrapper; first | (rw [if_pos (by decide +kernel)]; kernel_rfl) | (rw [if_neg (by decide +kernel)]; exact ⟨rfl, rfl⟩))
    (fun os started H enc _ => lifted os started H enc)

/-- ████ THE STATEMENT ████ -/
theorem proved : Rows.LuckSaysSaid :=
  over
end Go.Proofs.Ytefgmgapiknemaa.luckSays

namespace Go.Proofs.Ytefgmgapiknemaa
/-- For every number and every count the law LuckSays returns true: all calls of package luck answer what the document says. -/
theorem luckSays_holds : Rows.LuckSaysSaid := luckSays.proved
#print axioms luckSays_holds
end Go.Proofs.Ytefgmgapiknemaa
