/- For every list l of texts, every whole number at, every text s and every list trail of numbers of 64 bits the law TreeSame of package tree returns true, and its arguments read as before; no condition. -/
import Derived.Test.YteedlbdjbffheaaRows
import Derived.Test.YteedlbdjbffheaaPost
import Derived.Test.YteedlbdjbffheaaSides
import Derived.WalkKit
import Derived.ProofKit
import Derived.OpenShut
import Derived.SizedLaws
import Derived.ChangeMaps5
import Derived.JoinedCond
namespace Go.Proofs.Yteedlbdjbffheaa.treeSame
open Go.ChangeShapes Go.WideShapes Go.ChangeAt Go.RowKit
set_option linter.unusedVariables false

theorem own : ownKnob Try.prog.godebug = none := by kernel_rfl

theorem str_eq {t f : ByteArray} (h : t.data.toList = f.data.toList) : t = f := by
  cases t; cases f; simp at h; rw [h]
theorem str_ne {t f : ByteArray} (h : ¬ t = f) : (t.toList == f.toList) = false := by
  rw [ByteArray.toList_eq, ByteArray.toList_eq]
  exact beq_eq_false_iff_ne.2 fun e => h (str_eq e)
theorem gup_step (x : Nat) (s : List Bool) (T : List Nat) (hl : s.length = T.length) (j : Nat) (hj : j < s.length) :
    gu pr x (s.take (j + 1)) (T.take (j + 1)) = if s.getD j false = true then pr (T.getD j 0) (gu pr x (s.take j) (T.take j)) else pr (gu pr x (s.take j) (T.take j)) (T.getD j 0) := by
  rw [List.take_succ_eq_append_getElem hj, List.take_succ_eq_append_getElem (by omega), gu_snoc pr x _ _ (by rw [List.length_take, List.length_take]; omega)]
  simp [List.getD_eq_getElem?_getD, List.getElem?_eq_getElem hj, List.getElem?_eq_getElem (show j < T.length by omega)]
theorem gup_lt {x : Nat} (hx : x < 18446744073709551616) (s : List Bool) (T : List Nat) (hl : s.length = T.length) (j : Nat) (hj : j ≤ s.length) : gu pr x (s.take j) (T.take j) < 18446744073709551616 := by
  cases j with
  | zero => simpa [gu] using hx
  | succ j => rw [gup_step x s T hl j (by omega)]; split <;> exact pr_lt _ _
theorem hld_end {R x i k : Nat} {t : List Nat} (h1 : 1 ≤ k) (hi : i < k) (h : hld R x i k t = true) : t.length = (sd i k).length ∧ gu pr x (sd i k) t = R := by
  unfold hld at h
  have h := of_decide_eq_true h
  rw [cl_fold pr _ _ _ _ h1 hi] at h
  split at h
  · exact ⟨by assumption, by simpa using h⟩
  · cases h

set_option maxRecDepth 20000 in
set_option maxHeartbeats 4000000 in
theorem walk (s0 : Sst) (a1 : Int) (s2 : ByteArray) (s3 : Lst) (w1 : (Lit.int .i64 a1).wf = true) (hs2 : s2.size ≤ 140737488351232) (w : World) (h0 : s0.fit w) (hs0 : s0.l.length * 16 ≤ 140737488351232) (h3 : s3.fit w) (hs3 : s3.l.length * 8 ≤ 140737488351232) :
    Calls Try.prog 6 #[s0.val, .int .i64 a1, .string s2, s3.val] w fun e w' => e = .returned (.bool true) ∧ Below w.heap.size w w' := by
  obtain ⟨p, c, l⟩ := s0
  obtain ⟨ht, hsm, hl63, hp, hc⟩ := h0
  change txt w p l at ht
  change tsm l at hsm
  change l.length ≤ 9223372036854775807 at hl63
  change l.length ≤ c at hc
  obtain ⟨p3, c3, t3⟩ := s3
  obtain ⟨⟨hr3, hs3', hm3⟩, _, hc3⟩ := h3
  change row w p3 t3 at hr3
  change small t3 at hs3'
  change t3.length ≤ 9223372036854775807 at hm3
  change t3.length ≤ c3 at hc3
  clear hs0 hs3 w1 hp
  show Calls Try.prog 6 #[.slice p l.length c, .int .i64 a1, .string s2, .slice p3 t3.length c3] w fun e w' => e = .returned (.bool true) ∧ Below w.heap.size w w'
  obtain ⟨k, hk⟩ : ∃ k, l.length = k := ⟨_, rfl⟩
  rw [hk] at hl63 hc ⊢
  obtain ⟨m3, hm⟩ : ∃ m3, t3.length = m3 := ⟨_, rfl⟩
  rw [hm] at hm3 hc3 ⊢
  have HM3 : Hid (t3.length = m3) := hm
  have HR3 : Hid (row w p3 t3) := hr3
  have HS3 : Hid (small t3) := hs3'
  have HZ2 : Hid (s2.size ≤ 9223372036854775807) := by unfold Hid; omega
  clear hm hr3 hs3' hs2
  by_cases hlg : 256 < k
  · clear ht hsm hk
    go_enter Try.func6, Try.ntmps6
    go_wp2_with fail
    refine (Root_large p k c _ hlg).mono ?_
    rintro e w' ⟨rfl, hw⟩; subst w'
    go_wp2_with fail
    refine (Trail_large p a1 k c _ hlg).mono ?_
    rintro e w' ⟨rfl, hw⟩; subst w'
    go_wp2_with fail
    refine (lives_any _).mono ?_
    rintro e w2 ⟨rfl, hb⟩
    have HB : Hid (Below w.heap.size w w2) := hb
    clear hb
    go_wp2_with fail
    refine (lives_any _).mono ?_
    rintro e w3 ⟨rfl, hb⟩
    have HB3 : Hid (Below w2.heap.size w2 w3) := hb
    clear hb
    go_wp2_with fail
    go_ret
    exact ⟨rfl, HB.out.trans (HB3.out.mono HB.out.size)⟩
  · have hle : k ≤ 256 := by omega
    have HR : Hid (Calls Try.prog 8 #[.slice p k c] w fun e w' => e = .returned (.tuple #[.int .u64 (rts l), .int .i64 0]) ∧ ∃ q, w' = w.drewN q) := Root_ok l p k c w hk hle hc ht hsm
    by_cases hat : 0 ≤ a1 ∧ a1 < k
    · obtain ⟨i, rfl⟩ : ∃ i : Nat, a1 = i := ⟨a1.toNat, by omega⟩
      have hi : i < k := by omega
      obtain ⟨a, rfl⟩ := txt_some ht (by omega)
      have HT : Hid (∀ W : World, Below w.heap.size w W → Calls Try.prog 17 #[.slice (some a) k c, .int .i64 i] W fun e w' => ∃ v, e = .returned (.tuple #[v, .int .i64 0]) ∧ mine W.heap.size w' v (tr pr (lvs l) i) ∧ Below W.heap.size W w') :=
        fun W hb => Trail_ok l (some a) i k c W hk hle hc hi (txt_below ht hb) hsm
      have HC : Hid (∀ W : World, Below w.heap.size w W → W.cell? (a.add i) = some (.string (l.getD i ⟨#[]⟩))) := fun W hb => txt_cell (txt_below ht hb) i (by omega)
      have HZ : Hid ((l.getD i ⟨#[]⟩).size ≤ 9223372036854775807) := tsm_at hsm i
      have HS : Hid (small (tr pr (lvs l) i)) := small_tr l i (by omega) (by omega)
      have HL8 : Hid ((tr pr (lvs l) i).length ≤ 8) := trs_le l i (by omega) (by omega)
      have HH : Hid ((tr pr (lvs l) i).length = (sd i k).length ∧ gu pr (lf (l.getD i ⟨#[]⟩)) (sd i k) (tr pr (lvs l) i) = rts l) := by
        have := hld_tr l i (by omega)
        rw [hk] at this
        exact hld_end (by omega) hi this
      obtain ⟨T, hT⟩ : ∃ T, tr pr (lvs l) i = T := ⟨_, rfl⟩
      rw [hT] at HT HS HL8 HH
      obtain ⟨t, ht'⟩ : ∃ t, l.getD i ⟨#[]⟩ = t := ⟨_, rfl⟩
      rw [ht'] at HC HZ HH
      obtain ⟨R, hR⟩ : ∃ R, rts l = R := ⟨_, rfl⟩
      rw [hR] at HR HH
      clear hT ht' hR ht hsm hk hat hlg
      have e1 : ¬ (256 : Int) < k := by omega
      have e2 : ¬ (i : Int) < 0 := by omega
      have e3 : (i : Int) < k := by omega
      have e4 : (0 : Int) ≤ i := by omega
      go_enter Try.func6, Try.ntmps6
      go_wp2_with fail
      refine HR.out.mono ?_
      rintro e w' ⟨rfl, q, hw⟩; subst w'
      clear HR
      go_wp2_with fail
      refine (HT.out _ (below_drewN (Below.refl _ _) q)).mono ?_
      rintro e w1 ⟨v, rfl, hv, hb⟩
      obtain ⟨pt, ct, rfl, hrow, hct, hzt⟩ := mine_full hv
      have HB1 : Hid (Below w.heap.size w w1) := (below_drewN (Below.refl _ w) q).trans hb
      have HR1 : Hid (row w1 pt T) := hrow
      clear hv hb hrow hct hzt HT
      obtain ⟨M, hM⟩ : ∃ M, T.length = M := ⟨_, rfl⟩
      have HM : Hid (T.length = M) := hM
      rw [hM] at HL8 HH ⊢
      clear hM
      go_wp2_with fail
      refine (lives_any _).mono ?_
      rintro e w2 ⟨rfl, hb⟩
      have HB2 : Hid (Below w.heap.size w w2) := HB1.out.trans (hb.mono HB1.out.size)
      have HR2 : Hid (row w2 pt T) := row_below HR1.out hb
      clear hb HB1 HR1
      have HHO : Hid (Calls Try.prog 18 #[.int .u64 R, .string s2, .int .i64 i, .int .i64 k, .slice p3 m3 c3] w2 fun e w' => e = .returned (.tuple #[.bool (hld R (lf s2) i k t3), .int .i64 0]) ∧ ∃ q, w' = w2.drewN q) :=
        Holds_ok R s2 i k m3 c3 t3 p3 w2 (by omega) hle hi HZ2.out HM3.out hc3 hm3 (row_below HR3.out HB2.out) HS3.out
      have HHE : Hid (hld R (lf s2) i k t3 = true → t3.length = (sd i k).length ∧ gu pr (lf s2) (sd i k) t3 = R) := fun h => hld_end (by omega) hi h
      obtain ⟨X, hX⟩ : ∃ X, hld R (lf s2) i k t3 = X := ⟨_, rfl⟩
      rw [hX] at HHO HHE
      clear hX
      go_wp2_with fail
      refine HHO.out.mono ?_
      rintro e w' ⟨rfl, q2, hw⟩; subst w'
      clear HHO
      have HB3 : Hid (Below w.heap.size w (w2.drewN q2)) := below_drewN HB2.out q2
      have HRT : Hid (row (w2.drewN q2) pt T) := row_drewN HR2.out q2
      have hcell := HC.out _ HB3.out
      clear HB2 HR2
      generalize w2.drewN q2 = w3 at HB3 HRT hcell ⊢
      cases X with
      | false =>
        clear HHE
        go_wp2_with fail
        go_ret
        exact ⟨rfl, HB3.out⟩
      | true =>
        obtain ⟨hlen3, hgu3⟩ := HHE.out rfl
        have hmm : m3 = M := by rw [← HM3.out, hlen3, HH.out.1]
        have HG3 : Hid (gu pr (lf s2) (sd i k) t3 = R) := hgu3
        clear HHE hgu3 hlen3
        by_cases hst : s2 = t
        · subst hst
          go_wp2_with fail
          go_ret
          exact ⟨rfl, HB3.out⟩
        · have hne := str_ne hst
          clear hst
          subst hmm
          go_wp2_with fail
          refine (Leaf_any t _ HZ.out).mono ?_
          rintro e w' ⟨rfl, hw⟩; subst w'
          go_wp2_with fail
          refine (Leaf_any s2 _ HZ2.out).mono ?_
          rintro e w' ⟨rfl, hw⟩; subst w'
          have HA0 : Hid (lf t < 18446744073709551616) := lf_lt _
          have HB0 : Hid (lf s2 < 18446744073709551616) := lf_lt _
          obtain ⟨A0, hA0⟩ : ∃ A, lf t = A := ⟨_, rfl⟩
          obtain ⟨B0, hB0⟩ : ∃ B, lf s2 = B := ⟨_, rfl⟩
          rw [hA0] at HH HA0 ⊢
          rw [hB0] at HG3 HB0 ⊢
          clear hA0 hB0 hne hcell HC
          by_cases hab : A0 = B0
          · subst hab
            go_wp2_with fail
            go_ret
            exact ⟨rfl, HB3.out⟩
          · have hab' : ¬ (A0 : Int) = B0 := by omega
            go_wp2_with fail
            refine (sides_any i k _ (by omega) hle hi).mono ?_
            rintro e w4 ⟨v, rfl, hv, hb⟩
            obtain ⟨ps, cs, rfl, hbr⟩ := bmine_slice hv
            have HB4 : Hid (Below w.heap.size w w4) := HB3.out.trans (hb.mono HB3.out.size)
            have HRT4 : Hid (row w4 pt T) := row_below HRT.out hb
            have HR34 : Hid (row w4 p3 t3) := row_below HR3.out HB4.out
            have HD : Hid (∀ j, j < (sd i k).length → ∃ a, ps = some a ∧ w4.cell? (a.add j) = some (.bool ((sd i k).getD j false))) := hbr
            clear hv hb hbr HRT HB3 HR3
            obtain ⟨D, hD⟩ : ∃ D, sd i k = D := ⟨_, rfl⟩
            rw [hD] at HH HG3 HD ⊢
            clear hD
            have HLD : Hid (D.length = m3) := HH.out.1.symm
            have hLD : D.length = m3 := HH.out.1.symm
            rw [hLD] at HD ⊢
            clear hLD
            go_wp2_with fail
            go_loopw [15, 16, 89] (fun av bv iv wr => ∃ j A B : Nat, av = .int .u64 A ∧ bv = .int .u64 B ∧ iv = .int .i64 j ∧ j ≤ m3 ∧ A ≠ B ∧ A = gu pr A0 (D.take j) (T.take j) ∧ B = gu pr B0 (D.take j) (t3.take j) ∧ ∃ q, wr = w4.drewN q) (fun _ _ iv _ => m3 - (intOf iv).toNat)
            case atStart => exact ⟨0, A0, B0, rfl, rfl, rfl, by omega, hab, by simp [gu], by simp [gu], 0, rfl⟩
            case round =>
              obtain ⟨j, A, B, rfl, rfl, rfl, hj, hAB, hA, hB, q5, rfl⟩ := hrel
              by_cases hlt : j < m3
              · obtain ⟨ga, rfl, hcs⟩ := HD.out j hlt
                obtain ⟨gb, rfl, hct⟩ := HRT4.out j (by rw [HM.out]; exact hlt)
                obtain ⟨gc, rfl, hcr⟩ := HR34.out j (by rw [HM3.out]; exact hlt)
                have SA : Hid (gu pr A0 (D.take (j + 1)) (T.take (j + 1)) = if D.getD j false = true then pr (T.getD j 0) A else pr A (T.getD j 0)) := by
                  rw [hA]; exact gup_step A0 D T (by rw [HLD.out, HM.out]) j (by rw [HLD.out]; exact hlt)
                have SB : Hid (gu pr B0 (D.take (j + 1)) (t3.take (j + 1)) = if D.getD j false = true then pr (t3.getD j 0) B else pr B (t3.getD j 0)) := by
                  rw [hB]; exact gup_step B0 D t3 (by rw [HLD.out, HM3.out]) j (by rw [HLD.out]; exact hlt)
                have HA : Hid (A < 18446744073709551616) := by rw [hA]; exact gup_lt HA0.out D T (by rw [HLD.out, HM.out]) j (by rw [HLD.out]; exact hj)
                have HBb : Hid (B < 18446744073709551616) := by rw [hB]; exact gup_lt HB0.out D t3 (by rw [HLD.out, HM3.out]) j (by rw [HLD.out]; exact hj)
                have HX : Hid (T.getD j 0 < 18446744073709551616) := small_at HS.out j
                have HY : Hid (t3.getD j 0 < 18446744073709551616) := small_at HS3.out j
                clear hA hB hAB
                obtain ⟨X, hX⟩ : ∃ X, T.getD j 0 = X := ⟨_, rfl⟩
                rw [hX] at hct SA HX
                obtain ⟨Y, hY⟩ : ∃ Y, t3.getD j 0 = Y := ⟨_, rfl⟩
                rw [hY] at hcr SB HY
                obtain ⟨S, hS⟩ : ∃ S, D.getD j false = S := ⟨_, rfl⟩
                rw [hS] at hcs SA SB
                clear hX hY hS
                have hcs' : (w4.drewN q5).cell? (ga.add j) = some (.bool S) := hcs
                have hct' : (w4.drewN q5).cell? (gb.add j) = some (.int .u64 X) := hct
                have hcr' : (w4.drewN q5).cell? (gc.add j) = some (.int .u64 Y) := hcr
                have HB5 : Hid (Below w.heap.size w (w4.drewN q5)) := below_drewN HB4.out _
                obtain ⟨w5, hw5⟩ : ∃ w5, w4.drewN q5 = w5 := ⟨_, rfl⟩
                have HQ : Hid (∀ n, ∃ q, w5.drewN n = w4.drewN q) := fun n => by rw [← hw5]; exact ⟨_, World.drewN_drewN _ _ _⟩
                rw [hw5] at hcs' hct' hcr' HB5 ⊢
                clear hw5 hcs hct hcr
                have l1 : (j : Int) < m3 := by omega
                have l2 : (0 : Int) ≤ j := by omega
                cases S with
                | false =>
                  go_wp2_with fail
                  go_quiet ((go_at_call 11; exact Calls.quiet_of_same (Pair_any _ _ _ (by first | exact HA.out | exact HBb.out) (by first | exact HX.out | exact HY.out))))
                  obtain ⟨Z1, hZ1⟩ : ∃ Z, pr A X = Z := ⟨_, rfl⟩
                  obtain ⟨Z2, hZ2⟩ : ∃ Z, pr B Y = Z := ⟨_, rfl⟩
                  rw [hZ1, hZ2]
                  have SA' : Hid (gu pr A0 (D.take (j + 1)) (T.take (j + 1)) = Z1) := SA.out.trans ((if_neg (by decide)).trans hZ1)
                  have SB' : Hid (gu pr B0 (D.take (j + 1)) (t3.take (j + 1)) = Z2) := SB.out.trans ((if_neg (by decide)).trans hZ2)
                  clear hZ1 hZ2 SA SB
                  by_cases hz : Z1 = Z2
                  · subst hz
                    go_wp2_with fail
                    go_ret
                    exact ⟨rfl, below_drewN HB5.out _⟩
                  · have hz' : ¬ (Z1 : Int) = Z2 := by omega
                    go_wp2_with fail
                    go_roundw
                    case rel => exact ⟨j + 1, Z1, Z2, rfl, rfl, by go_num, by omega, hz, SA'.out.symm, SB'.out.symm, HQ.out _⟩
                    case measure => simp [intOf]; omega
                | true =>
                  go_wp2_with fail
                  go_quiet ((go_at_call 11; exact Calls.quiet_of_same (Pair_any _ _ _ (by first | exact HA.out | exact HBb.out) (by first | exact HX.out | exact HY.out))))
                  go_wp2_with fail
                  have hct2 : (w5.drewN nq).cell? (gb.add j) = some (.int .u64 X) := hct'
                  have hcr2 : (w5.drewN nq).cell? (gc.add j) = some (.int .u64 Y) := hcr'
                  have HB6 : Hid (Below w.heap.size w (w5.drewN nq)) := below_drewN HB5.out _
                  have HQ6 : Hid (∀ n, ∃ q, (w5.drewN nq).drewN n = w4.drewN q) := fun n => by rw [World.drewN_drewN]; exact HQ.out _
                  clear HB5 HQ hct' hcr' hcs'
                  generalize w5.drewN nq = w6 at hct2 hcr2 HB6 HQ6 ⊢
                  go_quiet ((go_at_call 11; exact Calls.quiet_of_same (Pair_any _ _ _ (by first | exact HX.out | exact HY.out) (by first | exact HA.out | exact HBb.out))))
                  obtain ⟨Z1, hZ1⟩ : ∃ Z, pr X A = Z := ⟨_, rfl⟩
                  obtain ⟨Z2, hZ2⟩ : ∃ Z, pr Y B = Z := ⟨_, rfl⟩
                  rw [hZ1, hZ2]
                  have SA' : Hid (gu pr A0 (D.take (j + 1)) (T.take (j + 1)) = Z1) := SA.out.trans ((if_pos (by simp)).trans hZ1)
                  have SB' : Hid (gu pr B0 (D.take (j + 1)) (t3.take (j + 1)) = Z2) := SB.out.trans ((if_pos (by simp)).trans hZ2)
                  clear hZ1 hZ2 SA SB
                  by_cases hz : Z1 = Z2
                  · subst hz
                    go_wp2_with fail
                    go_ret
                    exact ⟨rfl, below_drewN HB6.out _⟩
                  · have hz' : ¬ (Z1 : Int) = Z2 := by omega
                    go_wp2_with fail
                    go_roundw
                    case rel => exact ⟨j + 1, Z1, Z2, rfl, rfl, by go_num, by omega, hz, SA'.out.symm, SB'.out.symm, HQ6.out _⟩
                    case measure => simp [intOf]; omega
              · obtain rfl : j = m3 := by omega
                exfalso
                apply hAB
                rw [hA, hB, List.take_of_length_le (Nat.le_of_eq HLD.out), List.take_of_length_le (Nat.le_of_eq HM.out), List.take_of_length_le (Nat.le_of_eq HM3.out), HH.out.2, HG3.out]
    · clear ht hsm hk
      have e1 : ¬ (256 : Int) < k := by omega
      go_enter Try.func6, Try.ntmps6
      go_wp2_with fail
      refine HR.out.mono ?_
      rintro e w' ⟨rfl, q, hw⟩; subst w'
      clear HR
      go_wp2_with fail
      refine (Trail_none p a1 k c _ hle hat).mono ?_
      rintro e w' ⟨rfl, hw⟩; subst w'
      go_wp2_with fail
      refine (lives_any _).mono ?_
      rintro e w2 ⟨rfl, hb⟩
      have HB : Hid (Below w.heap.size w w2) := (below_drewN (Below.refl _ w) q).trans hb
      clear hb
      go_wp2_with fail
      refine (lives_any _).mono ?_
      rintro e w3 ⟨rfl, hb⟩
      have HB3 : Hid (Below w2.heap.size w2 w3) := hb
      clear hb
      go_wp2_with fail
      go_ret
      exact ⟨rfl, HB.out.trans (HB3.out.mono HB.out.size)⟩

set_option maxRecDepth 100000 in
theorem lifted (os : Os) (started : os.Started) (H : Type) (enc : TypeId × Value → H) :
    ReturnsInHanded {} Try.checked os 6 .any (Rows.treeSameSpec.pre6 enc Try.prog Try.f6 Rows.treeSameRow.domain false) (Rows.treeSameSpec.post enc Try.prog Try.f6 false true false false) := by
  refine returnsInHanded_of_change_sized (C := Try.checked) own started (by kernel_rfl) Try.func6
    (ChangeSpec.witness6 (enc := enc) (C := Try.checked) false ⟨#[], #[.slice none 0 0, .int .i64 0, .string ⟨#[]⟩, .slice none 0 0], []⟩ 8 (by kernel_rfl) (by kernel_rfl) (by kernel_rfl) (by kernel_rfl)) ?_
  intro W base args ds gs before hval0 hW hcnd hsz _
  have hval : ∀ (j : Nat) t v, Try.f6.params[j]? = some t → args[j]? = some v → Value.okWide Try.prog W .any base t v := hval0
  have hW' := hW
  obtain ⟨p, q, hA0, hV, rfl, hfz, hnd⟩ := hW
  have hA : DataW.TrodAll enc Try.prog W 0 (fun _ => true) true Try.f6.params.toList args.toList ds p := hA0
  rw [Try.params6] at hA hval
  obtain ⟨v0, vs0, d0, ds0, p0, q0, hargs, rfl, rfl, h0, r0⟩ := trodAll_cons hA
  obtain ⟨v1, vs1, d1, ds1, p1, q1, rfl, rfl, rfl, h1, r1⟩ := trodAll_cons r0
  obtain ⟨v2, vs2, d2, ds2, p2, q2, rfl, rfl, rfl, h2, r2⟩ := trodAll_cons r1
  obtain ⟨v3, vs3, d3, ds3, p3, q3, rfl, rfl, rfl, h3, r3⟩ := trodAll_cons r2
  obtain ⟨rfl, rfl, rfl⟩ := trodAll_nil r3
  obtain rfl : args = #[v0, v1, v2, v3] := by cases args; simp_all
  obtain ⟨rfl, rfl⟩ := trodVars_none hV
  obtain ⟨s0, rfl, k0, t0⟩ := open_sst Try.underlying22 Try.underlying9 (by kernel_rfl) (hval 0 22 v0 rfl rfl) h0
  obtain ⟨a1, rfl, rfl, rfl, w1⟩ := open_int Try.underlying3 (hval 1 3 v1 rfl rfl) h1
  obtain ⟨s2, rfl, rfl, rfl, hm2⟩ := Go.ChangeMaps.open_string Try.underlying9 (hval 2 9 v2 rfl rfl) h2
  obtain ⟨s3, rfl, k3, t3⟩ := open_lst Try.underlying27 Try.underlying23 (by kernel_rfl) (hval 3 27 v3 rfl rfl) h3
  have hs0 : s0.l.length * 16 ≤ 140737488351232 := told_sized hsz (j := 0) rfl rfl Try.underlying22 (by kernel_rfl) t0
  have hs3 : s3.l.length * 8 ≤ 140737488351232 := told_sized hsz (j := 3) rfl rfl Try.underlying27 (by kernel_rfl) t3
  have hs2 : s2.size ≤ 140737488351232 := by have := sized_string hsz (j := 2) rfl rfl; unfold reachBytes at this; simpa using this
  clear hA0 hval0
  refine (walk s0 a1 s2 s3 w1 hs2 W k0 hs0 k3 hs3).mono fun e W' ⟨he, hg⟩ => ?_
  subst he
  exact ⟨_, rfl, law_post (by kernel_rfl) (by kernel_rfl) rfl (by kernel_rfl) Try.underlying4 hW' rfl hg⟩

theorem over : Rows.treeSameRow.holds Try.pinned (OpenSpec.ofChange Rows.treeSameSpec) :=
  OpenClaim.holds_of_wide 6 Try.f6 rfl rfl rfl rfl rfl rfl rfl ⟨rfl, rfl, rfl, rfl, rfl⟩ rfl rfl rfl rfl rfl (by kernel_rfl) Try.func6 (by kernel_rfl)
    (of_decide_eq_true (by kernel_rfl)) (by unfold Func.isWrapper; first | (rw [if_pos (by decide +kernel)]; kernel_rfl) | (rw [if_neg (by decide +kernel)]; exact ⟨rfl, rfl⟩))
    (fun os started H enc _ => lifted os started H enc)

theorem proved : Rows.TreeSameSaid :=
  over
end Go.Proofs.Yteedlbdjbffheaa.treeSame

namespace Go.Proofs.Yteedlbdjbffheaa
/-- For every list l of texts, every whole number at, every text s and every list trail of numbers of 64 bits the law TreeSame of package tree returns true, and its arguments read as before; no condition. -/
theorem treeSame_holds : Rows.TreeSameSaid := treeSame.proved
#print axioms treeSame_holds
end Go.Proofs.Yteedlbdjbffheaa
