/- For every list l of texts and every whole number at the law TreeHolds of package tree returns true, and its arguments read as before; no condition. -/
import Derived.Test.YteedlbdjbffheaaRows
import Derived.Test.YteedlbdjbffheaaPost
import Derived.Test.YteedlbdjbffheaaUse
import Derived.WalkKit
import Derived.ProofKit
import Derived.OpenShut
import Derived.SizedLaws
import Derived.ChangeMaps5
import Derived.JoinedCond
namespace Go.Proofs.Yteedlbdjbffheaa.treeHolds
open Go.ChangeShapes Go.WideShapes Go.ChangeAt Go.RowKit
set_option linter.unusedVariables false

theorem own : ownKnob Try.prog.godebug = none := by kernel_rfl

theorem tail_any (l : List ByteArray) (i j k : Nat) (hl : l.length = k) (hi : i < k) (h : ¬ 2 ^ j < k) : (tr pr (lvs l) i).length ≤ j := trs_pow l i j (by omega) (by omega)
theorem pow_small (j k : Nat) (hk : k ≤ 256) (h : 2 ^ j < k) : j < 8 := by
  have e : 2 ^ j < 2 ^ 8 := by omega
  exact pow_two_lt e

set_option maxRecDepth 20000 in
set_option maxHeartbeats 4000000 in
theorem walk (s0 : Sst) (a1 : Int) (w1 : (Lit.int .i64 a1).wf = true) (w : World) (h0 : s0.fit w) (hs0 : s0.l.length * 16 ≤ 140737488351232) :
    Calls Try.prog 5 #[s0.val, .int .i64 a1] w fun e w' => e = .returned (.bool true) ∧ Below w.heap.size w w' := by
  obtain ⟨p, c, l⟩ := s0
  obtain ⟨ht, hsm, hl63, hp, hc⟩ := h0
  change txt w p l at ht
  change tsm l at hsm
  change l.length ≤ 9223372036854775807 at hl63
  change l.length ≤ c at hc
  clear hs0 w1 hp
  show Calls Try.prog 5 #[.slice p l.length c, .int .i64 a1] w fun e w' => e = .returned (.bool true) ∧ Below w.heap.size w w'
  obtain ⟨k, hk⟩ : ∃ k, l.length = k := ⟨_, rfl⟩
  rw [hk] at hl63 hc ⊢
  by_cases hlg : 256 < k
  · clear ht hsm hk
    go_enter Try.func5, Try.ntmps5
    go_wp2_with fail
    refine (Root_large p k c _ hlg).mono ?_
    rintro e w' ⟨rfl, hw⟩; subst w'
    go_wp2_with fail
    refine (Trail_large p a1 k c _ hlg).mono ?_
    rintro e w' ⟨rfl, hw⟩; subst w'
    go_wp2_with fail
    refine (lives_any _).mono ?_
    rintro e w2 ⟨rfl, hb⟩
    have HB : Hid (Below w.heap.size w w2) := hb
    clear hb
    go_wp2_with fail
    refine (lives_any _).mono ?_
    rintro e w3 ⟨rfl, hb⟩
    have HB3 : Hid (Below w2.heap.size w2 w3) := hb
    clear hb
    go_wp2_with fail
    go_ret
    exact ⟨rfl, HB.out.trans (HB3.out.mono HB.out.size)⟩
  · have hle : k ≤ 256 := by omega
    have HR : Hid (Calls Try.prog 8 #[.slice p k c] w fun e w' => e = .returned (.tuple #[.int .u64 (rts l), .int .i64 0]) ∧ ∃ q, w' = w.drewN q) := Root_ok l p k c w hk hle hc ht hsm
    by_cases hat : 0 ≤ a1 ∧ a1 < k
    · obtain ⟨i, rfl⟩ : ∃ i : Nat, a1 = i := ⟨a1.toNat, by omega⟩
      have hi : i < k := by omega
      obtain ⟨a, rfl⟩ := txt_some ht (by omega)
      have HT : Hid (∀ W : World, Below w.heap.size w W → Calls Try.prog 17 #[.slice (some a) k c, .int .i64 i] W fun e w' => ∃ v, e = .returned (.tuple #[v, .int .i64 0]) ∧ mine W.heap.size w' v (tr pr (lvs l) i) ∧ Below W.heap.size W w') :=
        fun W hb => Trail_ok l (some a) i k c W hk hle hc hi (txt_below ht hb) hsm
      have HC : Hid (∀ W : World, Below w.heap.size w W → W.cell? (a.add i) = some (.string (l.getD i ⟨#[]⟩))) := fun W hb => txt_cell (txt_below ht hb) i (by omega)
      have HZ : Hid ((l.getD i ⟨#[]⟩).size ≤ 9223372036854775807) := tsm_at hsm i
      have HS : Hid (small (tr pr (lvs l) i)) := small_tr l i (by omega) (by omega)
      have HL8 : Hid ((tr pr (lvs l) i).length ≤ 8) := trs_le l i (by omega) (by omega)
      have HH : Hid (hld (rts l) (lf (l.getD i ⟨#[]⟩)) i k (tr pr (lvs l) i) = true) := by unfold Hid; rw [← hk]; exact hld_tr l i (by omega)
      have HN : Hid (hld (rts l) (lf (l.getD i ⟨#[]⟩)) i k (tr pr (lvs l) i ++ [0]) = false) := by unfold Hid; rw [← hk]; exact hld_more l i _ _ 0 (by omega)
      have HE : Hid (∀ j, ¬ 2 ^ j < k → (tr pr (lvs l) i).length ≤ j) := fun j h => tail_any l i j k hk hi h
      obtain ⟨T, hT⟩ : ∃ T, tr pr (lvs l) i = T := ⟨_, rfl⟩
      rw [hT] at HT HS HL8 HH HN HE
      obtain ⟨t, ht'⟩ : ∃ t, l.getD i ⟨#[]⟩ = t := ⟨_, rfl⟩
      rw [ht'] at HC HZ HH HN
      obtain ⟨R, hR⟩ : ∃ R, rts l = R := ⟨_, rfl⟩
      rw [hR] at HR HH HN
      clear hT ht' hR ht hsm hk hat hlg
      have e1 : ¬ (256 : Int) < k := by omega
      have e2 : ¬ (i : Int) < 0 := by omega
      have e3 : (i : Int) < k := by omega
      have e4 : (0 : Int) ≤ i := by omega
      go_enter Try.func5, Try.ntmps5
      go_wp2_with fail
      refine HR.out.mono ?_
      rintro e w' ⟨rfl, q, hw⟩; subst w'
      clear HR
      go_wp2_with fail
      refine (HT.out _ (below_drewN (Below.refl _ _) q)).mono ?_
      rintro e w1 ⟨v, rfl, hv, hb⟩
      obtain ⟨pt, ct, rfl, hrow, hct, hzt⟩ := mine_full hv
      have HB1 : Hid (Below w.heap.size w w1) := (below_drewN (Below.refl _ w) q).trans hb
      have HR1 : Hid (row w1 pt T) := hrow
      have HCT : Hid (T.length ≤ ct ∧ (pt = none → ct = 0)) := ⟨hct, hzt⟩
      clear hv hb hrow hct hzt HT
      obtain ⟨M, hM⟩ : ∃ M, T.length = M := ⟨_, rfl⟩
      have HM : Hid (T.length = M) := hM
      rw [hM] at HCT HE HL8 ⊢
      clear hM
      go_wp2_with fail
      refine (lives_any _).mono ?_
      rintro e w2 ⟨rfl, hb⟩
      have HB2 : Hid (Below w.heap.size w w2) := HB1.out.trans (hb.mono HB1.out.size)
      have HR2 : Hid (row w2 pt T) := row_below HR1.out hb
      clear hb HB1 HR1
      have hcell := HC.out w2 HB2.out
      go_wp2_with fail
      refine (Holds_ok R t i k M ct T pt _ (by omega) hle hi HZ.out HM.out HCT.out.1 (by have := HL8.out; omega) HR2.out HS.out).mono ?_
      rintro e w' ⟨rfl, q2, hw⟩; subst w'
      rw [HH.out]
      go_wp2_with fail
      clear hcell
      have HB3 : Hid (Below w.heap.size w (w2.drewN q2)) := below_drewN HB2.out q2
      have HR3 : Hid (row (w2.drewN q2) pt T) := row_drewN HR2.out q2
      have hcell := HC.out _ HB3.out
      clear HB2 HR2
      generalize w2.drewN q2 = w3 at HB3 HR3 hcell ⊢
      have hbr : Below w3.heap.size w3 w3 := Below.refl _ _
      have h00 : Below w3.heap.size w3 w3 ∧ w3.cell? (a.add i) = some (.string t) := ⟨hbr, hcell⟩
      clear hbr
      have HF : Hid (∀ (W : World) (p : Option Addr) (n c : Nat), n = M + 1 → n ≤ c → row W p (T ++ [0]) → Calls Try.prog 18 #[.int .u64 R, .string t, .int .i64 i, .int .i64 k, .slice p n c] W fun e w' => e = .returned (.tuple #[.bool false, .int .i64 0]) ∧ ∃ q, w' = W.drewN q) := by
        intro W p n c hn hc hr
        have := Holds_ok R t i k n c (T ++ [0]) p W (by omega) hle hi HZ.out (by simp [HM.out, hn]) hc (by have := HL8.out; omega) hr (small_append HS.out (small_one (by decide)))
        rwa [HN.out] at this
      go_region_held3 (fun w' => Below w3.heap.size w3 w' ∧ w'.cell? (a.add i) = some (.string t)) (first | exact kp_drew (by assumption) | exact kp_drewN (by assumption) _ | exact kp_alloc (by assumption) _ | exact kp_call (by assumption) (by assumption) | exact kp_of hcell (by assumption)) (first | (go_at_call 23; refine (HM.out ▸ Clone_row pt ct T _ (row_below HR3.out (by assumption : Below w3.heap.size w3 _ ∧ _).1) HS.out HCT.out.2 (by have := HL8.out; have := HM.out; omega)).mono ?_; rintro e w4 ⟨v, rfl, hv, hb⟩) | (go_at_call 18; refine (HF.out _ _ _ _ (by rw [← HM.out]) (mine_slice hm5).2.1 (mine_slice hm5).2.2).mono ?_; rintro e w' ⟨rfl, q6, hw⟩; subst w') | (have hcur : Below w3.heap.size w3 (w4.alloc (.cells #[.int .u64 0] 23)) := (by assumption : Below w3.heap.size w3 (w4.alloc (.cells #[.int .u64 0] 23)) ∧ _).1; have hmi := mine_mono (B' := w3.heap.size) (step_two hv (.cells #[.int .u64 0] 23)) (Nat.le_refl _); refine step_one _ (by rfl) _ _ (by rfl) w3.heap.size v T (by rfl) hmi ⟨_, 0, none⟩ 1 0 (by rfl) (new_zero _ _ _) (by have := HL8.out; have := HM.out; omega) hcur.size ?_; intro g cap w5 hm5 hgrow; have hb5 : Below w3.heap.size w3 w5 := mine_grown hmi hcur hgrow) | (have hcur : Below w3.heap.size w3 w4 := (by assumption : Below w3.heap.size w3 w4 ∧ _).1; have hmi := mine_mono (B' := w3.heap.size) hv (alloc_below w3 _).size; refine step_one _ (by rfl) _ _ (by rfl) w3.heap.size v T (by rfl) hmi ⟨_, 0, none⟩ 1 0 (by rfl) (cell_far hb (new_zero w3 _ _)) (by have := HL8.out; have := HM.out; omega) hcur.size ?_; intro g cap w5 hm5 hgrow; have hb5 : Below w3.heap.size w3 w5 := mine_grown hmi hcur hgrow))
      all_goals
        have HEnd : Hid (Below w.heap.size w (w5.drewN q6)) := below_drewN (HB3.out.trans (hb5.mono HB3.out.size)) q6
        clear hm5 hgrow hb5 hb hv hcell h00 HR3 HB3 HF HC HH HN
        generalize w5.drewN q6 = w6 at HEnd ⊢
        go_wp2_with fail
        go_loop [13, 14] (fun lg n => ∃ j N : Nat, lg = .int .i64 j ∧ n = .int .i64 N ∧ N = 2 ^ j ∧ j ≤ 8) (fun lg _ => 8 - (intOf lg).toNat)
        case atStart => exact ⟨0, 1, rfl, rfl, rfl, by omega⟩
        case round =>
          obtain ⟨j, N, rfl, rfl, hN, hj⟩ := hrel
          by_cases hlt : N < k
          · have hj8 := pow_small j k hle (by omega)
            have HN : Hid (N = 2 ^ j) := hN
            clear hN
            go_wp2_with fail
            go_round
            case rel => exact ⟨j + 1, N * 2, by go_num, by go_num, by rw [HN.out, Nat.pow_succ], by omega⟩
            case measure => simp [intOf]; omega
          · have hMj : M ≤ j := HE.out j (by omega)
            clear hN
            go_wp2_with fail
            go_ret
            exact ⟨by first | rfl | (simp; done) | (simp; omega), HEnd.out⟩
    · clear ht hsm hk
      have e1 : ¬ (256 : Int) < k := by omega
      go_enter Try.func5, Try.ntmps5
      go_wp2_with fail
      refine HR.out.mono ?_
      rintro e w' ⟨rfl, q, hw⟩; subst w'
      clear HR
      go_wp2_with fail
      refine (Trail_none p a1 k c _ hle hat).mono ?_
      rintro e w' ⟨rfl, hw⟩; subst w'
      go_wp2_with fail
      refine (lives_any _).mono ?_
      rintro e w2 ⟨rfl, hb⟩
      have HB : Hid (Below w.heap.size w w2) := (below_drewN (Below.refl _ w) q).trans hb
      clear hb
      go_wp2_with fail
      refine (lives_any _).mono ?_
      rintro e w3 ⟨rfl, hb⟩
      have HB3 : Hid (Below w2.heap.size w2 w3) := hb
      clear hb
      go_wp2_with fail
      go_ret
      exact ⟨rfl, HB.out.trans (HB3.out.mono HB.out.size)⟩

set_option maxRecDepth 100000 in
theorem lifted (os : Os) (started : os.Started) (H : Type) (enc : TypeId × Value → H) :
    ReturnsInHanded {} Try.checked os 5 .any (Rows.treeHoldsSpec.pre6 enc Try.prog Try.f5 Rows.treeHoldsRow.domain false) (Rows.treeHoldsSpec.post enc Try.prog Try.f5 false true false false) := by
  refine returnsInHanded_of_change_sized (C := Try.checked) own started (by kernel_rfl) Try.func5
    (ChangeSpec.witness6 (enc := enc) (C := Try.checked) false ⟨#[], #[.slice none 0 0, .int .i64 0], []⟩ 8 (by kernel_rfl) (by kernel_rfl) (by kernel_rfl) (by kernel_rfl)) ?_
  intro W base args ds gs before hval0 hW hcnd hsz _
  have hval : ∀ (j : Nat) t v, Try.f5.params[j]? = some t → args[j]? = some v → Value.okWide Try.prog W .any base t v := hval0
  have hW' := hW
  obtain ⟨p, q, hA0, hV, rfl, hfz, hnd⟩ := hW
  have hA : DataW.TrodAll enc Try.prog W 0 (fun _ => true) true Try.f5.params.toList args.toList ds p := hA0
  rw [Try.params5] at hA hval
  obtain ⟨v0, vs0, d0, ds0, p0, q0, hargs, rfl, rfl, h0, r0⟩ := trodAll_cons hA
  obtain ⟨v1, vs1, d1, ds1, p1, q1, rfl, rfl, rfl, h1, r1⟩ := trodAll_cons r0
  obtain ⟨rfl, rfl, rfl⟩ := trodAll_nil r1
  obtain rfl : args = #[v0, v1] := by cases args; simp_all
  obtain ⟨rfl, rfl⟩ := trodVars_none hV
  obtain ⟨s0, rfl, k0, t0⟩ := open_sst Try.underlying22 Try.underlying9 (by kernel_rfl) (hval 0 22 v0 rfl rfl) h0
  obtain ⟨a1, rfl, rfl, rfl, w1⟩ := open_int Try.underlying3 (hval 1 3 v1 rfl rfl) h1
  have hs0 : s0.l.length * 16 ≤ 140737488351232 := told_sized hsz (j := 0) rfl rfl Try.underlying22 (by kernel_rfl) t0
  clear hA0 hval0
  refine (walk s0 a1 w1 W k0 hs0).mono fun e W' ⟨he, hg⟩ => ?_
  subst he
  exact ⟨_, rfl, law_post (by kernel_rfl) (by kernel_rfl) rfl (by kernel_rfl) Try.underlying4 hW' rfl hg⟩

theorem over : Rows.treeHoldsRow.holds Try.pinned (OpenSpec.ofChange Rows.treeHoldsSpec) :=
  OpenClaim.holds_of_wide 5 Try.f5 rfl rfl rfl rfl rfl rfl rfl ⟨rfl, rfl, rfl, rfl, rfl⟩ rfl rfl rfl rfl rfl (by kernel_rfl) Try.func5 (by kernel_rfl)
    (of_decide_eq_true (by kernel_rfl)) (by unfold Func.isWrapper; first | (rw [if_pos (by decide +kernel)]; kernel_rfl) | (rw [if_neg (by decide +kernel)]; exact ⟨rfl, rfl⟩))
    (fun os started H enc _ => lifted os started H enc)

theorem proved : Rows.TreeHoldsSaid :=
  over
end Go.Proofs.Yteedlbdjbffheaa.treeHolds

namespace Go.Proofs.Yteedlbdjbffheaa
/-- For every list l of texts and every whole number at the law TreeHolds of package tree returns true, and its arguments read as before; no condition. -/
theorem treeHolds_holds : Rows.TreeHoldsSaid := treeHolds.proved
#print axioms treeHolds_holds
end Go.Proofs.Yteedlbdjbffheaa
