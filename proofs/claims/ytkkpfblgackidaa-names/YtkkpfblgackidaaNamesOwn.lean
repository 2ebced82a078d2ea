/- The law Names returns true: the numbers of errors, kinds and limits are those that the document names. -/
import Derived.Test.YtkkpfblgackidaaRows
import Derived.Test.YtkkpfblgackidaaEqual
import Derived.WalkKit
import Derived.ProofKit
import Derived.OpenShut
namespace Go.Proofs.Ytkkpfblgackidaa.names
open Go.ChangeShapes Go.WideShapes Go.ChangeAt Go.RowKit
set_option linter.unusedVariables false      -- a walk need not use every 'w<i>' (that an integer argument fits its kind)

theorem own : ownKnob Try.prog.godebug = none := by kernel_rfl

theorem grown_drewN {W w' : World} (m : Nat) (h : Grown W w') : Grown W (w'.drewN m) := h

theorem rows_at (w : World) (j : Nat) (hj : j < 6) : ∃ b n : Nat, n ≤ 5 ∧ (((((((((w.alloc (.cells #[.int .i64 0, .int .i64 1, .int .i64 2, .int .i64 3, .int .i64 4, .int .i64 5, .int .i64 6, .int .i64 7, .int .i64 8, .int .i64 9, .int .i64 10] 22)).alloc (.cells #[.int .i64 0, .int .i64 1, .int .i64 2, .int .i64 3] 3)).alloc (.cells #[.int .i64 1, .int .i64 2] 3)).alloc (.cells #[.int .i64 1, .int .i64 2, .int .i64 3] 3)).alloc (.cells #[.int .i64 1, .int .i64 2, .int .i64 3, .int .i64 4, .int .i64 5] 3)).alloc (.cells #[.int .i64 1, .int .i64 2, .int .i64 3] 3)).alloc (.cells #[.int .i64 1, .int .i64 2, .int .i64 3, .int .i64 4, .int .i64 5] 3)).alloc (.cells #[.int .i64 1, .int .i64 2, .int .i64 3] 3)).alloc (.cells #[.slice (some ⟨w.heap.size + 1 + 1, 0, none⟩) 2 2, .slice (some ⟨w.heap.size + 1 + 1 + 1, 0, none⟩) 3 3, .slice (some ⟨w.heap.size + 1 + 1 + 1 + 1, 0, none⟩) 5 5, .slice (some ⟨w.heap.size + 1 + 1 + 1 + 1 + 1, 0, none⟩) 3 3, .slice (some ⟨w.heap.size + 1 + 1 + 1 + 1 + 1 + 1, 0, none⟩) 5 5, .slice (some ⟨w.heap.size + 1 + 1 + 1 + 1 + 1 + 1 + 1, 0, none⟩) 3 3] 24)).cell? ⟨w.heap.size + 1 + 1 + 1 + 1 + 1 + 1 + 1 + 1, j, none⟩ = some (.slice (some ⟨b, 0, none⟩) n n)
    ∧ ∀ k : Nat, k < n → (((((((((w.alloc (.cells #[.int .i64 0, .int .i64 1, .int .i64 2, .int .i64 3, .int .i64 4, .int .i64 5, .int .i64 6, .int .i64 7, .int .i64 8, .int .i64 9, .int .i64 10] 22)).alloc (.cells #[.int .i64 0, .int .i64 1, .int .i64 2, .int .i64 3] 3)).alloc (.cells #[.int .i64 1, .int .i64 2] 3)).alloc (.cells #[.int .i64 1, .int .i64 2, .int .i64 3] 3)).alloc (.cells #[.int .i64 1, .int .i64 2, .int .i64 3, .int .i64 4, .int .i64 5] 3)).alloc (.cells #[.int .i64 1, .int .i64 2, .int .i64 3] 3)).alloc (.cells #[.int .i64 1, .int .i64 2, .int .i64 3, .int .i64 4, .int .i64 5] 3)).alloc (.cells #[.int .i64 1, .int .i64 2, .int .i64 3] 3)).alloc (.cells #[.slice (some ⟨w.heap.size + 1 + 1, 0, none⟩) 2 2, .slice (some ⟨w.heap.size + 1 + 1 + 1, 0, none⟩) 3 3, .slice (some ⟨w.heap.size + 1 + 1 + 1 + 1, 0, none⟩) 5 5, .slice (some ⟨w.heap.size + 1 + 1 + 1 + 1 + 1, 0, none⟩) 3 3, .slice (some ⟨w.heap.size + 1 + 1 + 1 + 1 + 1 + 1, 0, none⟩) 5 5, .slice (some ⟨w.heap.size + 1 + 1 + 1 + 1 + 1 + 1 + 1, 0, none⟩) 3 3] 24)).cell? ⟨b, k, none⟩ = some (.int .i64 (k + 1)) := by
  match j, hj with
  | 0, _ =>
    refine ⟨w.heap.size + 1 + 1, 2, by omega, by simp [go_sem], fun k hk => ?_⟩
    match k, hk with
    | 0, _ | 1, _ => simp [go_sem]
  | 1, _ =>
    refine ⟨w.heap.size + 1 + 1 + 1, 3, by omega, by simp [go_sem], fun k hk => ?_⟩
    match k, hk with
    | 0, _ | 1, _ | 2, _ => simp [go_sem]
  | 2, _ =>
    refine ⟨w.heap.size + 1 + 1 + 1 + 1, 5, by omega, by simp [go_sem], fun k hk => ?_⟩
    match k, hk with
    | 0, _ | 1, _ | 2, _ | 3, _ | 4, _ => simp [go_sem]
  | 3, _ =>
    refine ⟨w.heap.size + 1 + 1 + 1 + 1 + 1, 3, by omega, by simp [go_sem], fun k hk => ?_⟩
    match k, hk with
    | 0, _ | 1, _ | 2, _ => simp [go_sem]
  | 4, _ =>
    refine ⟨w.heap.size + 1 + 1 + 1 + 1 + 1 + 1, 5, by omega, by simp [go_sem], fun k hk => ?_⟩
    match k, hk with
    | 0, _ | 1, _ | 2, _ | 3, _ | 4, _ => simp [go_sem]
  | 5, _ =>
    refine ⟨w.heap.size + 1 + 1 + 1 + 1 + 1 + 1 + 1, 3, by omega, by simp [go_sem], fun k hk => ?_⟩
    match k, hk with
    | 0, _ | 1, _ | 2, _ => simp [go_sem]

def lims : List Int := [65536, 2147483647, 256, 1000, 40, 100, 12, 8, 100, 1000000, 5, 200, 200, 200, 200, 100, 200, 50, 500, 200, 1000, 3000, 300]

theorem lims_at (w : World) (k : Nat) (hk : k < 23) : (((((((((((w.alloc (.cells #[.int .i64 0, .int .i64 1, .int .i64 2, .int .i64 3, .int .i64 4, .int .i64 5, .int .i64 6, .int .i64 7, .int .i64 8, .int .i64 9, .int .i64 10] 22)).alloc (.cells #[.int .i64 0, .int .i64 1, .int .i64 2, .int .i64 3] 3)).alloc (.cells #[.int .i64 1, .int .i64 2] 3)).alloc (.cells #[.int .i64 1, .int .i64 2, .int .i64 3] 3)).alloc (.cells #[.int .i64 1, .int .i64 2, .int .i64 3, .int .i64 4, .int .i64 5] 3)).alloc (.cells #[.int .i64 1, .int .i64 2, .int .i64 3] 3)).alloc (.cells #[.int .i64 1, .int .i64 2, .int .i64 3, .int .i64 4, .int .i64 5] 3)).alloc (.cells #[.int .i64 1, .int .i64 2, .int .i64 3] 3)).alloc (.cells #[.slice (some ⟨w.heap.size + 1 + 1, 0, none⟩) 2 2, .slice (some ⟨w.heap.size + 1 + 1 + 1, 0, none⟩) 3 3, .slice (some ⟨w.heap.size + 1 + 1 + 1 + 1, 0, none⟩) 5 5, .slice (some ⟨w.heap.size + 1 + 1 + 1 + 1 + 1, 0, none⟩) 3 3, .slice (some ⟨w.heap.size + 1 + 1 + 1 + 1 + 1 + 1, 0, none⟩) 5 5, .slice (some ⟨w.heap.size + 1 + 1 + 1 + 1 + 1 + 1 + 1, 0, none⟩) 3 3] 24)).alloc (.cells #[.int .i64 65536, .int .i64 2147483647, .int .i64 256, .int .i64 1000, .int .i64 40, .int .i64 100, .int .i64 12, .int .i64 8, .int .i64 100, .int .i64 1000000, .int .i64 5, .int .i64 200, .int .i64 200, .int .i64 200, .int .i64 200, .int .i64 100, .int .i64 200, .int .i64 50, .int .i64 500, .int .i64 200, .int .i64 1000, .int .i64 3000, .int .i64 300] 3)).alloc (.cells #[.int .i64 65536, .int .i64 2147483647, .int .i64 256, .int .i64 1000, .int .i64 40, .int .i64 100, .int .i64 12, .int .i64 8, .int .i64 100, .int .i64 1000000, .int .i64 5, .int .i64 200, .int .i64 200, .int .i64 200, .int .i64 200, .int .i64 100, .int .i64 200, .int .i64 50, .int .i64 500, .int .i64 200, .int .i64 1000, .int .i64 3000, .int .i64 300] 3)).cell? ⟨w.heap.size + 1 + 1 + 1 + 1 + 1 + 1 + 1 + 1 + 1, k, none⟩ = some (.int .i64 (lims.getD k 0)) ∧ (((((((((((w.alloc (.cells #[.int .i64 0, .int .i64 1, .int .i64 2, .int .i64 3, .int .i64 4, .int .i64 5, .int .i64 6, .int .i64 7, .int .i64 8, .int .i64 9, .int .i64 10] 22)).alloc (.cells #[.int .i64 0, .int .i64 1, .int .i64 2, .int .i64 3] 3)).alloc (.cells #[.int .i64 1, .int .i64 2] 3)).alloc (.cells #[.int .i64 1, .int .i64 2, .int .i64 3] 3)).alloc (.cells #[.int .i64 1, .int .i64 2, .int .i64 3, .int .i64 4, .int .i64 5] 3)).alloc (.cells #[.int .i64 1, .int .i64 2, .int .i64 3] 3)).alloc (.cells #[.int .i64 1, .int .i64 2, .int .i64 3, .int .i64 4, .int .i64 5] 3)).alloc (.cells #[.int .i64 1, .int .i64 2, .int .i64 3] 3)).alloc (.cells #[.slice (some ⟨w.heap.size + 1 + 1, 0, none⟩) 2 2, .slice (some ⟨w.heap.size + 1 + 1 + 1, 0, none⟩) 3 3, .slice (some ⟨w.heap.size + 1 + 1 + 1 + 1, 0, none⟩) 5 5, .slice (some ⟨w.heap.size + 1 + 1 + 1 + 1 + 1, 0, none⟩) 3 3, .slice (some ⟨w.heap.size + 1 + 1 + 1 + 1 + 1 + 1, 0, none⟩) 5 5, .slice (some ⟨w.heap.size + 1 + 1 + 1 + 1 + 1 + 1 + 1, 0, none⟩) 3 3] 24)).alloc (.cells #[.int .i64 65536, .int .i64 2147483647, .int .i64 256, .int .i64 1000, .int .i64 40, .int .i64 100, .int .i64 12, .int .i64 8, .int .i64 100, .int .i64 1000000, .int .i64 5, .int .i64 200, .int .i64 200, .int .i64 200, .int .i64 200, .int .i64 100, .int .i64 200, .int .i64 50, .int .i64 500, .int .i64 200, .int .i64 1000, .int .i64 3000, .int .i64 300] 3)).alloc (.cells #[.int .i64 65536, .int .i64 2147483647, .int .i64 256, .int .i64 1000, .int .i64 40, .int .i64 100, .int .i64 12, .int .i64 8, .int .i64 100, .int .i64 1000000, .int .i64 5, .int .i64 200, .int .i64 200, .int .i64 200, .int .i64 200, .int .i64 100, .int .i64 200, .int .i64 50, .int .i64 500, .int .i64 200, .int .i64 1000, .int .i64 3000, .int .i64 300] 3)).cell? ⟨w.heap.size + 1 + 1 + 1 + 1 + 1 + 1 + 1 + 1 + 1 + 1, k, none⟩ = some (.int .i64 (lims.getD k 0)) := by
  have e : (#[.int .i64 65536, .int .i64 2147483647, .int .i64 256, .int .i64 1000, .int .i64 40, .int .i64 100, .int .i64 12, .int .i64 8, .int .i64 100, .int .i64 1000000, .int .i64 5, .int .i64 200, .int .i64 200, .int .i64 200, .int .i64 200, .int .i64 100, .int .i64 200, .int .i64 50, .int .i64 500, .int .i64 200, .int .i64 1000, .int .i64 3000, .int .i64 300] : Array Value)[k]? = some (.int .i64 (lims.getD k 0)) := by
    match k, hk with
    | 0, _ | 1, _ | 2, _ | 3, _ | 4, _ | 5, _ | 6, _ | 7, _ | 8, _ | 9, _ | 10, _ | 11, _ | 12, _ | 13, _ | 14, _ | 15, _ | 16, _ | 17, _ | 18, _ | 19, _ | 20, _ | 21, _ | 22, _ => rfl
    | n + 23, h => omega
  constructor
  · rw [World.cell?_alloc_past _ _ _ (by simp), World.cell?_alloc_at _ _ _ _ (by simp)]; exact e
  · rw [World.cell?_alloc_at _ _ _ _ (by simp)]; exact e

/-! ### STEP 1: THE WALK: the Go text returns true. 'Grown w w'': the world has at most new blocks (Derived/RowKit3.lean). Part the cases AHEAD of 'go_enter' where a test parts the walk; take each callee by a contract of your own. -/
set_option maxHeartbeats 2000000 in
theorem walk (w : World) :
    Calls Try.prog 3 #[] w fun e w' => e = .returned (.bool true) ∧ Grown w w' := by
  have hc1 : ∀ k : Nat, k < 11 → (w.alloc (.cells #[.int .i64 0, .int .i64 1, .int .i64 2, .int .i64 3, .int .i64 4, .int .i64 5, .int .i64 6, .int .i64 7, .int .i64 8, .int .i64 9, .int .i64 10] 22)).cell? ⟨w.heap.size, k, none⟩ = some (.int .i64 k) := by
    intro k hk
    rw [World.cell?_alloc_at _ _ _ _ rfl]
    match k, hk with
    | 0, _ | 1, _ | 2, _ | 3, _ | 4, _ | 5, _ | 6, _ | 7, _ | 8, _ | 9, _ | 10, _ => rfl
  have hc2 : ∀ k : Nat, k < 4 → ((w.alloc (.cells #[.int .i64 0, .int .i64 1, .int .i64 2, .int .i64 3, .int .i64 4, .int .i64 5, .int .i64 6, .int .i64 7, .int .i64 8, .int .i64 9, .int .i64 10] 22)).alloc (.cells #[.int .i64 0, .int .i64 1, .int .i64 2, .int .i64 3] 3)).cell? ⟨w.heap.size + 1, k, none⟩ = some (.int .i64 k) := by
    intro k hk
    rw [World.cell?_alloc_at _ _ _ _ (by simp)]
    match k, hk with
    | 0, _ | 1, _ | 2, _ | 3, _ => rfl
  go_enter Try.func3, Try.ntmps3
  go_wp2
  go_loop [12] (fun x => ∃ k : Nat, k ≤ 11 ∧ x = .int .i64 k) (fun x => 11 - (intOf x).toNat)
  case atStart => exact ⟨0, by omega, rfl⟩
  case round =>
    obtain ⟨k, hk, rfl⟩ := hrel
    by_cases hlt : k < 11
    · have c1 := hc1 k hlt
      clear hc1 hc2
      go_wp2
      go_round
      case rel => exact ⟨k + 1, by omega, by go_num⟩
      case measure => simp [intOf]; omega
    · clear hc1
      have HC2 : Hid _ := hc2
      clear hc2
      go_wp2
      go_loop [23] (fun x => ∃ k : Nat, k ≤ 4 ∧ x = .int .i64 k) (fun x => 4 - (intOf x).toNat)
      case atStart => exact ⟨0, by omega, rfl⟩
      case round =>
        obtain ⟨k2, hk2, rfl⟩ := hrel
        by_cases hlt2 : k2 < 4
        · have c2 := HC2.out k2 hlt2
          clear HC2
          go_wp2
          go_round
          case rel => exact ⟨k2 + 1, by omega, by go_num⟩
          case measure => simp [intOf]; omega
        · clear HC2
          go_wp2
          have HR : Hid (∀ j : Nat, j < 6 → _) := rows_at w
          have HL : Hid (∀ k : Nat, k < 23 → _) := lims_at w
          go_loop [40] (fun x => ∃ k : Nat, k ≤ 6 ∧ x = .int .i64 k) (fun x => 6 - (intOf x).toNat)
          case atStart => exact ⟨0, by omega, rfl⟩
          case round =>
            obtain ⟨j, hj, rfl⟩ := hrel
            by_cases hlt3 : j < 6
            · obtain ⟨b, n, hn, cj, cells⟩ := HR.out j hlt3
              have CS : Hid (∀ k : Nat, k < n → _) := cells
              clear HR HL cells
              go_wp2
              go_loop [46] (fun x => ∃ k : Nat, k ≤ n ∧ x = .int .i64 k) (fun x => n - (intOf x).toNat)
              case atStart => exact ⟨0, by omega, rfl⟩
              case round =>
                obtain ⟨k4, hk4, rfl⟩ := hrel
                by_cases hlt4 : k4 < n
                · have c4 := CS.out k4 hlt4
                  clear CS
                  go_wp2
                  go_round
                  case rel => exact ⟨k4 + 1, by omega, by go_num⟩
                  case measure => simp [intOf]; omega
                · clear CS
                  go_wp2
                  go_round
                  case rel => exact ⟨j + 1, by omega, by go_num⟩
                  case measure => simp [intOf]; omega
            · clear HR
              go_wp2_with (go_at_call 8; refine (equal_any _ _ 23 (fun k => lims.getD k 0) _ (by omega) (fun k hk => (HL.out k hk).1) (fun k hk => (HL.out k hk).2)).mono ?_; rintro e w' ⟨rfl, m, rfl⟩)
              go_ret
              exact ⟨rfl, grown_drewN m (by repeat (first | exact Grown.refl _ | apply Grown.drew | apply Grown.alloc))⟩

/-! ### THE ROW's STEP: WRITTEN OUT: LEAVE IT -/
set_option maxRecDepth 100000 in
theorem lifted (os : Os) (started : os.Started) (H : Type) (enc : TypeId × Value → H) :
    ReturnsInHanded {} Try.checked os 3 .any (Rows.namesSpec.pre6 enc Try.prog Try.f3 Rows.namesRow.domain false) (Rows.namesSpec.post enc Try.prog Try.f3 false true false false) := by
  refine returnsInHanded_of_change (C := Try.checked) own started (by kernel_rfl) Try.func3
    (ChangeSpec.witness6 (enc := enc) (C := Try.checked) false ⟨#[], #[], []⟩ 8 (by kernel_rfl) (by kernel_rfl) (by kernel_rfl) (by kernel_rfl)) ?_
  intro W base args ds gs before hval0 hW hcnd _
  have hval : ∀ (j : Nat) t v, Try.f3.params[j]? = some t → args[j]? = some v → Value.okWide Try.prog W .any base t v := hval0
  have hW' := hW
  obtain ⟨p, q, hA0, hV, rfl, hfz, hnd⟩ := hW
  have hA : DataW.TrodAll enc Try.prog W 0 (fun _ => true) true Try.f3.params.toList args.toList ds p := hA0
  rw [Try.params3] at hA hval
  obtain ⟨rfl, rfl, rfl⟩ := trodAll_none hA
  obtain ⟨rfl, rfl⟩ := trodVars_none hV
  clear hA0 hval0
  simp only [List.append_nil] at hW'
  refine (walk  W).mono fun e W' ⟨he, hg⟩ => ?_
  subst he
  exact ⟨_, rfl, post_of_same (pa := []) (pv := []) hW' (fun _ _ _ => (trodAll_cons_mk (shut_bool Try.underlying4 _) trodAll_mk0)) (fun sp _ => rfl) (fun _ _ => rfl) rfl
    (hg.frame _) hg.2.1 (ok_one (by kernel_rfl) rfl (okWide_bool_mk Try.underlying4 _))⟩

theorem over : Rows.namesRow.holds Try.pinned (OpenSpec.ofChange Rows.namesSpec) :=
  OpenClaim.holds_of_wide 3 Try.f3 rfl rfl rfl rfl rfl rfl rfl ⟨rfl, rfl, rfl, rfl, rfl⟩ rfl rfl rfl rfl rfl (by kernel_rfl) Try.func3 (by kernel_rfl)
    (of_decide_eq_true (by kernel_rfl)) (by unfold Func.isWrapper; first | (rw [if_pos (by decide +kernel)]; kernel_rfl) | (rw [if_neg (by decide +kernel)]; exact ⟨rfl, rfl⟩))
    (fun os started H enc _ => lifted os started H enc)

/-- ████ THE STATEMENT ████ -/
theorem proved : Rows.NamesSaid :=
  over
end Go.Proofs.Ytkkpfblgackidaa.names

namespace Go.Proofs.Ytkkpfblgackidaa
/-- The law Names returns true: the numbers of errors, kinds and limits are those that the document names. -/
theorem names_holds : Rows.NamesSaid := names.proved
#print axioms names_holds
end Go.Proofs.Ytkkpfblgackidaa
