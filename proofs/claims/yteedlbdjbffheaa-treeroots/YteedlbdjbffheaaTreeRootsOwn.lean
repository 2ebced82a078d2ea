/- For every list l of texts, all numbers a and b of 64 bits and every whole number n the law TreeRoots of package tree returns true, and its arguments read as before; no condition. -/
import Derived.Test.YteedlbdjbffheaaRows
import Derived.Test.YteedlbdjbffheaaPost
import Derived.Test.YteedlbdjbffheaaEqual
import Derived.Test.YteedlbdjbffheaaGrown
import Derived.WalkKit
import Derived.ProofKit
import Derived.OpenShut
import Derived.SizedLaws
import Derived.ChangeMaps5
import Derived.JoinedCond
namespace Go.Proofs.Yteedlbdjbffheaa.treeRoots
open Go.ChangeShapes Go.WideShapes Go.ChangeAt Go.RowKit
set_option linter.unusedVariables false

theorem own : ownKnob Try.prog.godebug = none := by kernel_rfl

attribute [local go_sem ↓] Go.wp_at_zero Go.wp_at_succ
theorem both_any (l : List ByteArray) (p : Option Addr) (n : Int) (k c : Nat) (w : World) (hl : l.length = k) (hc : k ≤ c) (ht : txt w p l) (hs : tsm l) : ∃ (F : Int) (G : List Nat), G.length ≤ 256 ∧
    (∀ W : World, Below w.heap.size w W → Calls Try.prog 9 #[.slice p k c, .int .i64 n] W fun e w' => ∃ pg cg, e = .returned (.tuple #[.slice pg G.length cg, .int .i64 F]) ∧ row w' pg G ∧ Below W.heap.size W w') ∧
    (∀ W : World, Below w.heap.size w W → Calls Try.prog 10 #[.slice p k c, .int .i64 n] W fun e w' => ∃ pg cg, e = .returned (.tuple #[.slice pg G.length cg, .int .i64 F]) ∧ row w' pg G ∧ Below W.heap.size W w') := by
  by_cases h1 : 256 < k
  · refine ⟨2, [], by simp, fun W _ => (Grows_large p n k c W h1).mono ?_, fun W _ => (Grown_large p n k c W h1).mono ?_⟩
    · rintro e w' ⟨rfl, hw⟩; subst w'
      exact ⟨none, 0, rfl, row_nil _ _, Below.refl _ _⟩
    · rintro e w' ⟨rfl, hw⟩; subst w'
      exact ⟨none, 0, rfl, row_nil _ _, Below.refl _ _⟩
  · by_cases h2 : 0 ≤ n ∧ n ≤ k
    · obtain ⟨i, rfl⟩ : ∃ i : Nat, n = i := ⟨n.toNat, by omega⟩
      refine ⟨0, gr pr (lvs (l.take i)), ?_, fun W hb => (Grows_in l p i k c W hl (by omega) hc (by omega) (txt_below ht hb) hs).mono ?_, fun W hb => (Grown_in l p i k c W hl (by omega) hc (by omega) (txt_below ht hb) hs).mono ?_⟩
      · have := gr_le pr _ (lvs (l.take i)) rfl
        rw [lvs_length, List.length_take] at this
        omega
      · rintro e w' ⟨v, rfl, hv, hb⟩
        obtain ⟨pg, cg, rfl, hr, _⟩ := mine_full hv
        exact ⟨pg, cg, rfl, hr, hb⟩
      · rintro e w' ⟨v, rfl, hv, hb⟩
        obtain ⟨pg, cg, rfl, hr, _⟩ := mine_full hv
        exact ⟨pg, cg, rfl, hr, hb⟩
    · refine ⟨1, [], by simp, fun W _ => (Grows_bad p n k c W (by omega) h2).mono ?_, fun W _ => (Grown_bad p n k c W (by omega) h2).mono ?_⟩
      · rintro e w' ⟨rfl, hw⟩; subst w'
        exact ⟨none, 0, rfl, row_nil _ _, Below.refl _ _⟩
      · rintro e w' ⟨rfl, hw⟩; subst w'
        exact ⟨none, 0, rfl, row_nil _ _, Below.refl _ _⟩

set_option maxRecDepth 20000 in
set_option maxHeartbeats 4000000 in
theorem walk (s0 : Sst) (a1 : Int) (a2 : Int) (a3 : Int) (w1 : (Lit.int .u64 a1).wf = true) (w2 : (Lit.int .u64 a2).wf = true) (w3 : (Lit.int .i64 a3).wf = true) (w : World) (h0 : s0.fit w) (hs0 : s0.l.length * 16 ≤ 140737488351232) :
    Calls Try.prog 3 #[s0.val, .int .u64 a1, .int .u64 a2, .int .i64 a3] w fun e w' => e = .returned (.bool true) ∧ Below w.heap.size w w' := by
  obtain ⟨p, c, l⟩ := s0
  obtain ⟨ht, hsm, hl63, hp, hc⟩ := h0
  change txt w p l at ht
  change tsm l at hsm
  change l.length ≤ 9223372036854775807 at hl63
  change l.length ≤ c at hc
  obtain ⟨A, rfl, hA⟩ := nat_of w1
  obtain ⟨B, rfl, hB⟩ := nat_of w2
  clear hs0 w3 w1 w2 hp
  show Calls Try.prog 3 #[.slice p l.length c, .int .u64 A, .int .u64 B, .int .i64 a3] w fun e w' => e = .returned (.bool true) ∧ Below w.heap.size w w'
  obtain ⟨k, hk⟩ : ∃ k, l.length = k := ⟨_, rfl⟩
  rw [hk] at hl63 hc ⊢
  obtain ⟨F, G, hG256, hC1, hC2⟩ := both_any l p a3 k c w hk hc ht hsm
  have HC1 : Hid (∀ W : World, Below w.heap.size w W → Calls Try.prog 9 #[.slice p k c, .int .i64 a3] W fun e w' => ∃ pg cg, e = .returned (.tuple #[.slice pg G.length cg, .int .i64 F]) ∧ row w' pg G ∧ Below W.heap.size W w') := hC1
  have HC2 : Hid (∀ W : World, Below w.heap.size w W → Calls Try.prog 10 #[.slice p k c, .int .i64 a3] W fun e w' => ∃ pg cg, e = .returned (.tuple #[.slice pg G.length cg, .int .i64 F]) ∧ row w' pg G ∧ Below W.heap.size W w') := hC2
  have HRt : Hid (∃ (X : Nat) (E : Int), (Calls Try.prog 8 #[.slice p k c] w fun e w' => e = .returned (.tuple #[.int .u64 X, .int .i64 E]) ∧ ∃ q, w' = w.drewN q) ∧ (256 < k → X = 0 ∧ E = 2) ∧ (¬ 256 < k → X = rts l ∧ E = 0)) := by
    by_cases h1 : 256 < k
    · refine ⟨0, 2, (Root_large p k c w h1).mono ?_, fun _ => ⟨rfl, rfl⟩, fun h => absurd h1 h⟩
      rintro e w' ⟨rfl, hw⟩; subst w'
      exact ⟨rfl, 0, rfl⟩
    · exact ⟨rts l, 0, Root_ok l p k c w hk (by omega) hc ht hsm, fun h => absurd h h1, fun _ => ⟨rfl, rfl⟩⟩
  obtain ⟨X, E, hRt, hX1, hX2⟩ := HRt.out
  have HX1 : Hid (256 < k → X = 0 ∧ E = 2) := hX1
  have HX2 : Hid (¬ 256 < k → X = rts l ∧ E = 0) := hX2
  have HRo : Hid (Calls Try.prog 8 #[.slice p k c] w fun e w' => e = .returned (.tuple #[.int .u64 X, .int .i64 E]) ∧ ∃ q, w' = w.drewN q) := hRt
  have HR2 : Hid (¬ 256 < k → ∀ W : World, Below w.heap.size w W → Calls Try.prog 16 #[.slice p k c] W fun e w' => e = .returned (.int .u64 (rts l)) ∧ Below W.heap.size W w') := fun h W hb => RootOf_any l p k c W hk (by omega) (txt_below ht hb) hsm
  have HCe : Hid (0 < k → ∀ W : World, Below w.heap.size w W → ∃ a, p = some a ∧ W.cell? a = some (.string (l.getD 0 ⟨#[]⟩))) := by
    intro h W hb
    obtain ⟨a, rfl⟩ := txt_some ht (by omega)
    exact ⟨a, rfl, txt_cell (txt_below ht hb) 0 (by omega)⟩
  have HZ : Hid ((l.getD 0 ⟨#[]⟩).size ≤ 9223372036854775807) := tsm_at hsm 0
  obtain ⟨s, hs⟩ : ∃ s, l.getD 0 ⟨#[]⟩ = s := ⟨_, rfl⟩
  rw [hs] at HCe HZ
  obtain ⟨R, hR⟩ : ∃ R, rts l = R := ⟨_, rfl⟩
  rw [hR] at HX2 HR2
  have HA : Hid (A < 18446744073709551616) := hA
  have HB : Hid (B < 18446744073709551616) := hB
  have HG : Hid (G.length ≤ 256) := hG256
  obtain ⟨g, hg⟩ : ∃ g, G.length = g := ⟨_, rfl⟩
  have HGg : Hid (G.length = g) := hg
  rw [hg] at HC1 HC2 HG
  clear hA hB hG256 hC1 hC2 hRt hX1 hX2 HRt ht hsm hk hs hR hg
  go_enter Try.func3, Try.ntmps3
  go_wp2_with fail
  refine HRo.out.mono ?_
  rintro e w' ⟨rfl, q, hw⟩; subst w'
  clear HRo
  have HB0 : Hid (Below w.heap.size w (w.drewN q)) := below_drewN (Below.refl _ _) q
  generalize w.drewN q = w0 at HB0 ⊢
  go_wp2_with fail
  refine (HC1.out _ HB0.out).mono ?_
  rintro e w1 ⟨pg, cg, rfl, hr, hb⟩
  have HB1 : Hid (Below w.heap.size w w1) := HB0.out.trans (hb.mono HB0.out.size)
  have HR1 : Hid (row w1 pg G) := hr
  clear hr hb HB0 HC1
  go_wp2_with fail
  refine (HC2.out _ HB1.out).mono ?_
  rintro e w2 ⟨ph, ch, rfl, hr, hb⟩
  have HB2 : Hid (Below w.heap.size w w2) := HB1.out.trans (hb.mono HB1.out.size)
  have HRg : Hid (row w2 pg G) := row_below HR1.out hb
  have HRh : Hid (row w2 ph G) := hr
  clear hr hb HB1 HR1 HC2
  have HEq : Hid (∀ W : World, Below w2.heap.size w2 W → Calls Try.prog 13 #[.slice pg g cg, .slice ph g ch] W fun e w' => e = .returned (.bool true) ∧ ∃ m, w' = W.drewN m) := fun W hb => Equal_yes pg ph g cg ch G W HGg.out (by have := HG.out; omega) (row_below HRg.out hb) (row_below HRh.out hb)
  clear HRg HRh HGg HG
  by_cases hk0 : 0 < k
  · obtain ⟨a, rfl, hcell⟩ := HCe.out hk0 w2 HB2.out
    have k1 : (0 : Int) < k := by omega
    have k2 : decide ((0 : Int) < k) = true := by simp; omega
    have h00 : Below w2.heap.size w2 w2 ∧ w2.cell? a = some (.string s) := ⟨Below.refl _ _, hcell⟩
    go_wp2_with fail
    go_region_held3 (fun w' => Below w2.heap.size w2 w' ∧ w'.cell? a = some (.string s)) (first | exact kp_drew (by assumption) | exact kp_drewN (by assumption) _ | exact kp_call (by assumption) (by assumption) | exact kp_alloc (by assumption) _) (first | (go_at_call 11; refine (Pair_any A B _ HA.out HB.out).mono ?_; rintro e w' ⟨rfl, hw⟩; subst w') | (go_at_call 12; refine (PairOf_any A B _ HA.out HB.out).mono ?_; rintro e w' ⟨rfl, hw⟩; subst w') | (go_at_call 13; refine (HEq.out _ (by assumption : Below w2.heap.size w2 _ ∧ _).1).mono ?_; rintro e w' ⟨rfl, q3, hw⟩; subst w') | (go_at_call 14; refine (Leaf_any s _ HZ.out).mono ?_; rintro e w' ⟨rfl, hw⟩; subst w') | (go_at_call 15; refine (LeafOf_any s _ HZ.out).mono ?_; rintro e w5 ⟨rfl, hb5⟩; have hb6 : Below w2.heap.size w2 w5 := (kp_call (by assumption) hb5 : Below w2.heap.size w2 w5 ∧ w5.cell? a = some (.string s)).1))
    have HB5 : Hid (Below w.heap.size w w5) := HB2.out.trans (hb6.mono HB2.out.size)
    clear hb5 hb6 hcell h00
    by_cases hlg : 256 < k
    · obtain ⟨rfl, rfl⟩ := HX1.out hlg
      have k3 : (256 : Int) < k := by omega
      go_wp2_with fail
      go_ret
      exact ⟨rfl, HB5.out⟩
    · obtain ⟨hXR, hE⟩ := HX2.out hlg
      subst hXR hE
      have k3 : ¬ (256 : Int) < k := by omega
      go_wp2_with fail
      refine (HR2.out hlg _ HB5.out).mono ?_
      rintro e w6 ⟨rfl, hb⟩
      have HB6 : Hid (Below w.heap.size w w6) := HB5.out.trans (hb.mono HB5.out.size)
      clear hb
      go_wp2_with fail
      go_ret
      exact ⟨rfl, HB6.out⟩
  · obtain rfl : k = 0 := by omega
    have k2 : decide ((0 : Int) < 0) = false := by decide
    have hEq : ∀ n : Nat, Below w2.heap.size w2 (w2.drewN n) := fun n => below_drewN (Below.refl _ _) n
    have HEd : Hid (∀ n : Nat, Below w2.heap.size w2 (w2.drewN n)) := hEq
    clear hEq HCe
    go_wp2_with fail
    go_quiet ((first | (go_at_call 11; exact Calls.quiet_of_same (Pair_any A B _ HA.out HB.out)) | (go_at_call 12; exact Calls.quiet_of_same (PairOf_any A B _ HA.out HB.out)) | (go_at_call 13; exact Calls.quiet_of (HEq.out _ (HEd.out _)))))
    have HB5 : Hid (Below w.heap.size w (w2.drewN nq)) := below_drewN HB2.out nq
    obtain ⟨hXR, hE⟩ := HX2.out (by omega)
    subst hXR hE
    go_wp2_with fail
    refine (HR2.out (by omega) _ HB5.out).mono ?_
    rintro e w6 ⟨rfl, hb⟩
    have HB6 : Hid (Below w.heap.size w w6) := HB5.out.trans (hb.mono HB5.out.size)
    clear hb
    go_wp2_with fail
    go_ret
    exact ⟨rfl, HB6.out⟩

set_option maxRecDepth 100000 in
theorem lifted (os : Os) (started : os.Started) (H : Type) (enc : TypeId × Value → H) :
    ReturnsInHanded {} Try.checked os 3 .any (Rows.treeRootsSpec.pre6 enc Try.prog Try.f3 Rows.treeRootsRow.domain false) (Rows.treeRootsSpec.post enc Try.prog Try.f3 false true false false) := by
  refine returnsInHanded_of_change_sized (C := Try.checked) own started (by kernel_rfl) Try.func3
    (ChangeSpec.witness6 (enc := enc) (C := Try.checked) false ⟨#[], #[.slice none 0 0, .int .u64 0, .int .u64 0, .int .i64 0], []⟩ 8 (by kernel_rfl) (by kernel_rfl) (by kernel_rfl) (by kernel_rfl)) ?_
  intro W base args ds gs before hval0 hW hcnd hsz _
  have hval : ∀ (j : Nat) t v, Try.f3.params[j]? = some t → args[j]? = some v → Value.okWide Try.prog W .any base t v := hval0
  have hW' := hW
  obtain ⟨p, q, hA0, hV, rfl, hfz, hnd⟩ := hW
  have hA : DataW.TrodAll enc Try.prog W 0 (fun _ => true) true Try.f3.params.toList args.toList ds p := hA0
  rw [Try.params3] at hA hval
  obtain ⟨v0, vs0, d0, ds0, p0, q0, hargs, rfl, rfl, h0, r0⟩ := trodAll_cons hA
  obtain ⟨v1, vs1, d1, ds1, p1, q1, rfl, rfl, rfl, h1, r1⟩ := trodAll_cons r0
  obtain ⟨v2, vs2, d2, ds2, p2, q2, rfl, rfl, rfl, h2, r2⟩ := trodAll_cons r1
  obtain ⟨v3, vs3, d3, ds3, p3, q3, rfl, rfl, rfl, h3, r3⟩ := trodAll_cons r2
  obtain ⟨rfl, rfl, rfl⟩ := trodAll_nil r3
  obtain rfl : args = #[v0, v1, v2, v3] := by cases args; simp_all
  obtain ⟨rfl, rfl⟩ := trodVars_none hV
  obtain ⟨s0, rfl, k0, t0⟩ := open_sst Try.underlying22 Try.underlying9 (by kernel_rfl) (hval 0 22 v0 rfl rfl) h0
  obtain ⟨a1, rfl, rfl, rfl, w1⟩ := open_int Try.underlying23 (hval 1 23 v1 rfl rfl) h1
  obtain ⟨a2, rfl, rfl, rfl, w2⟩ := open_int Try.underlying23 (hval 2 23 v2 rfl rfl) h2
  obtain ⟨a3, rfl, rfl, rfl, w3⟩ := open_int Try.underlying3 (hval 3 3 v3 rfl rfl) h3
  have hs0 : s0.l.length * 16 ≤ 140737488351232 := told_sized hsz (j := 0) rfl rfl Try.underlying22 (by kernel_rfl) t0
  clear hA0 hval0
  refine (walk s0 a1 a2 a3 w1 w2 w3 W k0 hs0).mono fun e W' ⟨he, hg⟩ => ?_
  subst he
  exact ⟨_, rfl, law_post (by kernel_rfl) (by kernel_rfl) rfl (by kernel_rfl) Try.underlying4 hW' rfl hg⟩

theorem over : Rows.treeRootsRow.holds Try.pinned (OpenSpec.ofChange Rows.treeRootsSpec) :=
  OpenClaim.holds_of_wide 3 Try.f3 rfl rfl rfl rfl rfl rfl rfl ⟨rfl, rfl, rfl, rfl, rfl⟩ rfl rfl rfl rfl rfl (by kernel_rfl) Try.func3 (by kernel_rfl)
    (of_decide_eq_true (by kernel_rfl)) (by unfold Func.isWrapper; first | (rw [if_pos (by decide +kernel)]; kernel_rfl) | (rw [if_neg (by decide +kernel)]; exact ⟨rfl, rfl⟩))
    (fun os started H enc _ => lifted os started H enc)

theorem proved : Rows.TreeRootsSaid :=
  over
end Go.Proofs.Yteedlbdjbffheaa.treeRoots

namespace Go.Proofs.Yteedlbdjbffheaa
/-- For every list l of texts, all numbers a and b of 64 bits and every whole number n the law TreeRoots of package tree returns true, and its arguments read as before; no condition. -/
theorem treeRoots_holds : Rows.TreeRootsSaid := treeRoots.proved
#print axioms treeRoots_holds
end Go.Proofs.Yteedlbdjbffheaa
