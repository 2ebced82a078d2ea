/- For every list l of texts, all whole numbers at and n, every number root of 64 bits, every text s and every list trail of numbers of 64 bits the law TreeTrails of package tree returns true, and its arguments read as before; no condition. -/
import Derived.Test.YteedlbdjbffheaaRows
import Derived.Test.YteedlbdjbffheaaPost
import Derived.Test.YteedlbdjbffheaaEqual
import Derived.Test.YteedlbdjbffheaaTrailOf
import Derived.WalkKit
import Derived.ProofKit
import Derived.OpenShut
import Derived.SizedLaws
import Derived.ChangeMaps5
import Derived.JoinedCond
namespace Go.Proofs.Yteedlbdjbffheaa.treeTrails
open Go.ChangeShapes Go.WideShapes Go.ChangeAt Go.RowKit
set_option linter.unusedVariables false

theorem own : ownKnob Try.prog.godebug = none := by kernel_rfl

theorem and_false {a b : Prop} [Decidable a] [Decidable b] (h : ¬ (a ∧ b)) : (decide a && decide b) = false := by
  by_cases ha : a
  · by_cases hb : b
    · exact absurd ⟨ha, hb⟩ h
    · simp [hb]
  · simp [ha]
theorem and_true' {a b : Prop} [Decidable a] [Decidable b] (h : a ∧ b) : (decide a && decide b) = true := by simp [h.1, h.2]

set_option maxRecDepth 20000 in
set_option maxHeartbeats 4000000 in
theorem walk (s0 : Sst) (a1 : Int) (a2 : Int) (s3 : ByteArray) (a4 : Int) (s5 : Lst) (w1 : (Lit.int .i64 a1).wf = true) (w2 : (Lit.int .u64 a2).wf = true) (hs3 : s3.size ≤ 140737488351232) (w4 : (Lit.int .i64 a4).wf = true) (w : World) (h0 : s0.fit w) (hs0 : s0.l.length * 16 ≤ 140737488351232) (h5 : s5.fit w) (hs5 : s5.l.length * 8 ≤ 140737488351232) :
    Calls Try.prog 4 #[s0.val, .int .i64 a1, .int .u64 a2, .string s3, .int .i64 a4, s5.val] w fun e w' => e = .returned (.bool true) ∧ Below w.heap.size w w' := by
  obtain ⟨p, c, l⟩ := s0
  obtain ⟨ht, hsm, hl63, hp, hc⟩ := h0
  change txt w p l at ht
  change tsm l at hsm
  change l.length ≤ 9223372036854775807 at hl63
  change l.length ≤ c at hc
  obtain ⟨p5, c5, t5⟩ := s5
  obtain ⟨⟨hr5, hs5', hm5⟩, hp5, hc5⟩ := h5
  change row w p5 t5 at hr5
  change small t5 at hs5'
  change t5.length ≤ 9223372036854775807 at hm5
  change t5.length ≤ c5 at hc5
  change p5 = none → c5 = 0 at hp5
  change t5.length * 8 ≤ 140737488351232 at hs5
  obtain ⟨R, rfl, hR⟩ := nat_of w2
  obtain ⟨n1, n2⟩ := int_of w4
  obtain ⟨at1, at2⟩ := int_of w1
  clear hs0 w1 w2 w4 hp
  show Calls Try.prog 4 #[.slice p l.length c, .int .i64 a1, .int .u64 R, .string s3, .int .i64 a4, .slice p5 t5.length c5] w fun e w' => e = .returned (.bool true) ∧ Below w.heap.size w w'
  obtain ⟨k, hk⟩ : ∃ k, l.length = k := ⟨_, rfl⟩
  rw [hk] at hl63 hc ⊢
  obtain ⟨m, hm⟩ : ∃ m, t5.length = m := ⟨_, rfl⟩
  rw [hm] at hm5 hc5 hs5 ⊢
  have HZ3 : Hid (s3.size ≤ 9223372036854775807) := by unfold Hid; omega
  have HR5 : Hid (row w p5 t5) := hr5
  have HG : Hid ((1 ≤ a4 ∧ a4 ≤ 256 ∧ 0 ≤ a1 ∧ a1 < a4) → ∃ X : Bool, (∀ W : World, Below w.heap.size w W → Calls Try.prog 18 #[.int .u64 R, .string s3, .int .i64 a1, .int .i64 a4, .slice p5 m c5] W fun e w' => e = .returned (.tuple #[.bool X, .int .i64 0]) ∧ ∃ q, w' = W.drewN q) ∧
      (∀ W : World, Below w.heap.size w W → Calls Try.prog 20 #[.int .u64 R, .string s3, .int .i64 a1, .int .i64 a4, .slice p5 m c5] W fun e w' => e = .returned (.bool X) ∧ Below W.heap.size W w')) := by
    intro h
    obtain ⟨i, rfl⟩ : ∃ i : Nat, a1 = i := ⟨a1.toNat, by omega⟩
    obtain ⟨n, rfl⟩ : ∃ n : Nat, a4 = n := ⟨a4.toNat, by omega⟩
    exact ⟨hld R (lf s3) i n t5, fun W hb => Holds_ok R s3 i n m c5 t5 p5 W (by omega) (by omega) (by omega) HZ3.out hm hc5 hm5 (row_below hr5 hb) hs5',
      fun W hb => HoldsOf_any R s3 i n m c5 t5 p5 W (by omega) (by omega) (by omega) HZ3.out hm hp5 (by omega) (row_below hr5 hb) hs5'⟩
  have HBd : Hid (¬ (1 ≤ a4 ∧ a4 ≤ 256 ∧ 0 ≤ a1 ∧ a1 < a4) → ∀ W : World, Calls Try.prog 18 #[.int .u64 R, .string s3, .int .i64 a1, .int .i64 a4, .slice p5 m c5] W fun e w' => e = .returned (.tuple #[.bool false, .int .i64 1]) ∧ w' = W) := fun h W => Holds_bad R s3 a1 a4 m c5 p5 W h
  clear hr5 hs5' hp5 hm hR
  by_cases hlg : 256 < k
  · clear ht hsm hk
    have e1 : (256 : Int) < k := by omega
    go_enter Try.func4, Try.ntmps4
    go_wp2_with fail
    refine (Trail_large p a1 k c _ hlg).mono ?_
    rintro e w' ⟨rfl, hw⟩; subst w'
    obtain ⟨pt, hpt⟩ : ∃ pt : Option Addr, pt = none := ⟨_, rfl⟩
    obtain ⟨T, hTT⟩ : ∃ T : List Nat, T = [] := ⟨_, rfl⟩
    have HB1 : Hid (Below w.heap.size w w) := Below.refl _ _
    have HR1 : Hid (row w pt T) := by unfold Hid; rw [hTT]; exact row_nil _ _
    clear hpt hTT
    obtain ⟨w1, hw1⟩ : ∃ w1 : World, w1 = w := ⟨_, rfl⟩
    rw [← hw1]
    rw [← hw1] at HR1
    have HB1 : Hid (Below w.heap.size w w1) := by unfold Hid; rw [hw1]; exact Below.refl _ _
    clear hw1
    by_cases hg : 1 ≤ a4 ∧ a4 ≤ 256 ∧ 0 ≤ a1 ∧ a1 < a4
    · obtain ⟨X, hC1, hC2⟩ := HG.out hg
      have HC1 : Hid (Calls Try.prog 18 #[.int .u64 R, .string s3, .int .i64 a1, .int .i64 a4, .slice p5 m c5] w1 fun e w' => e = .returned (.tuple #[.bool X, .int .i64 0]) ∧ ∃ q, w' = w1.drewN q) := hC1 _ HB1.out
      have HC2 : Hid (∀ W : World, Below w.heap.size w W → Calls Try.prog 20 #[.int .u64 R, .string s3, .int .i64 a1, .int .i64 a4, .slice p5 m c5] W fun e w' => e = .returned (.bool X) ∧ Below W.heap.size W w') := hC2
      have HT1 : Hid ((decide ((1 : Int) ≤ a4) && decide (a4 ≤ (256 : Int))) = true) := and_true' ⟨hg.1, hg.2.1⟩
      have HT2 : Hid ((decide ((0 : Int) ≤ a1) && decide (a1 ≤ a4 - 1)) = true) := and_true' ⟨hg.2.2.1, by omega⟩
      obtain ⟨g1, g2, g3, g4⟩ := hg
      clear hC1 hC2 HG HBd
      go_wp2_with fail
      refine HC1.out.mono ?_
      rintro e w' ⟨rfl, q, hw⟩; subst w'
      have HB2 : Hid (Below w.heap.size w (w1.drewN q)) := below_drewN HB1.out q
      have HR2 : Hid (row (w1.drewN q) pt T) := row_drewN HR1.out q
      clear HB1 HR1 HC1
      generalize w1.drewN q = w2 at HB2 HR2 ⊢
      go_wp2_with fail
      refine (Between_any a4 1 256 _).mono ?_
      rintro e w' ⟨rfl, hw⟩; subst w'
      rw [HT1.out]
      go_wp2_with fail
      refine (Between_any a1 0 (a4 - 1) _).mono ?_
      rintro e w' ⟨rfl, hw⟩; subst w'
      rw [HT2.out]
      go_wp2_with fail
      refine (HC2.out _ HB2.out).mono ?_
      rintro e wt ⟨rfl, hb⟩
      have HBt : Hid (Below w.heap.size w wt) := HB2.out.trans (hb.mono HB2.out.size)
      have HRt : Hid (row wt pt T) := row_below HR2.out hb
      clear hb HB2 HR2 HC2 HT1 HT2
      cases X
      all_goals
        go_wp2_with fail
        go_ret
        exact ⟨rfl, HBt.out⟩
    · have HC1 : Hid (Calls Try.prog 18 #[.int .u64 R, .string s3, .int .i64 a1, .int .i64 a4, .slice p5 m c5] w1 fun e w' => e = .returned (.tuple #[.bool false, .int .i64 1]) ∧ w' = w1) := HBd.out hg w1
      have HBt : Hid (Below w.heap.size w w1) := HB1.out
      have HRt : Hid (row w1 pt T) := HR1.out
      clear HG HBd HB1 HR1
      obtain ⟨wt, hwt⟩ : ∃ wt : World, wt = w1 := ⟨_, rfl⟩
      subst hwt
      by_cases hb1 : 1 ≤ a4 ∧ a4 ≤ 256
      · have HT1 : Hid ((decide ((1 : Int) ≤ a4) && decide (a4 ≤ (256 : Int))) = true) := and_true' hb1
        have HT2 : Hid ((decide ((0 : Int) ≤ a1) && decide (a1 ≤ a4 - 1)) = false) := and_false (by omega)
        obtain ⟨g1, g2⟩ := hb1
        clear hg
        go_wp2_with fail
        refine HC1.out.mono ?_
        rintro e w' ⟨rfl, hw⟩; subst w'
        go_wp2_with fail
        refine (Between_any a4 1 256 _).mono ?_
        rintro e w' ⟨rfl, hw⟩; subst w'
        rw [HT1.out]
        go_wp2_with fail
        refine (Between_any a1 0 (a4 - 1) _).mono ?_
        rintro e w' ⟨rfl, hw⟩; subst w'
        rw [HT2.out]
        go_wp2_with fail
        go_ret
        exact ⟨rfl, HBt.out⟩
      · have HT1 : Hid ((decide ((1 : Int) ≤ a4) && decide (a4 ≤ (256 : Int))) = false) := and_false hb1
        clear hg hb1
        go_wp2_with fail
        refine HC1.out.mono ?_
        rintro e w' ⟨rfl, hw⟩; subst w'
        go_wp2_with fail
        refine (Between_any a4 1 256 _).mono ?_
        rintro e w' ⟨rfl, hw⟩; subst w'
        rw [HT1.out]
        go_wp2_with fail
        go_ret
        exact ⟨rfl, HBt.out⟩
  · have hle : k ≤ 256 := by omega
    have e1 : ¬ (256 : Int) < k := by omega
    by_cases hat : 0 ≤ a1 ∧ a1 < k
    · have HBt2 : Hid ((decide ((0 : Int) ≤ a1) && decide (a1 ≤ (k : Int) - 1)) = true) := and_true' ⟨hat.1, by omega⟩
      obtain ⟨i, rfl⟩ : ∃ i : Nat, a1 = i := ⟨a1.toNat, by omega⟩
      have HTr : Hid (Calls Try.prog 17 #[.slice p k c, .int .i64 i] w fun e w' => ∃ v, e = .returned (.tuple #[v, .int .i64 0]) ∧ mine w.heap.size w' v (tr pr (lvs l) i) ∧ Below w.heap.size w w') := Trail_ok l p i k c w hk hle hc (by omega) ht hsm
      have HTo : Hid (∀ W : World, Below w.heap.size w W → Calls Try.prog 21 #[.slice p k c, .int .i64 i] W fun e w' => ∃ v, e = .returned v ∧ mine W.heap.size w' v (tr pr (lvs l) i) ∧ Below W.heap.size W w') := fun W hb => TrailOf_any l p i k c W hk hle (by omega) (txt_below ht hb) hsm
      have HT8 : Hid ((tr pr (lvs l) i).length ≤ 8) := trs_le l i (by omega) (by omega)
      obtain ⟨T, hTT⟩ : ∃ T, tr pr (lvs l) i = T := ⟨_, rfl⟩
      rw [hTT] at HTr HTo HT8
      clear ht hsm hk hTT hat
      go_enter Try.func4, Try.ntmps4
      go_wp2_with fail
      refine HTr.out.mono ?_
      rintro e w1 ⟨v, rfl, hv, hb⟩
      obtain ⟨pt, ct, rfl, hrow, hct, hzt⟩ := mine_full hv
      have HB1 : Hid (Below w.heap.size w w1) := hb
      have HR1 : Hid (row w1 pt T) := hrow
      obtain ⟨M, hM⟩ : ∃ M, T.length = M := ⟨_, rfl⟩
      have HM : Hid (T.length = M) := hM
      rw [hM] at HT8 ⊢
      clear hv hb hrow hct hzt HTr hM
      by_cases hg : 1 ≤ a4 ∧ a4 ≤ 256 ∧ 0 ≤ (i : Int) ∧ (i : Int) < a4
      · obtain ⟨X, hC1, hC2⟩ := HG.out hg
        have HC1 : Hid (Calls Try.prog 18 #[.int .u64 R, .string s3, .int .i64 i, .int .i64 a4, .slice p5 m c5] w1 fun e w' => e = .returned (.tuple #[.bool X, .int .i64 0]) ∧ ∃ q, w' = w1.drewN q) := hC1 _ HB1.out
        have HC2 : Hid (∀ W : World, Below w.heap.size w W → Calls Try.prog 20 #[.int .u64 R, .string s3, .int .i64 i, .int .i64 a4, .slice p5 m c5] W fun e w' => e = .returned (.bool X) ∧ Below W.heap.size W w') := hC2
        have HT1 : Hid ((decide ((1 : Int) ≤ a4) && decide (a4 ≤ (256 : Int))) = true) := and_true' ⟨hg.1, hg.2.1⟩
        have HT2 : Hid ((decide ((0 : Int) ≤ (i : Int)) && decide ((i : Int) ≤ a4 - 1)) = true) := and_true' ⟨hg.2.2.1, by omega⟩
        obtain ⟨g1, g2, g3, g4⟩ := hg
        clear hC1 hC2 HG HBd
        go_wp2_with fail
        refine HC1.out.mono ?_
        rintro e w' ⟨rfl, q, hw⟩; subst w'
        have HB2 : Hid (Below w.heap.size w (w1.drewN q)) := below_drewN HB1.out q
        have HR2 : Hid (row (w1.drewN q) pt T) := row_drewN HR1.out q
        clear HB1 HR1 HC1
        generalize w1.drewN q = w2 at HB2 HR2 ⊢
        go_wp2_with fail
        refine (Between_any a4 1 256 _).mono ?_
        rintro e w' ⟨rfl, hw⟩; subst w'
        rw [HT1.out]
        go_wp2_with fail
        refine (Between_any i 0 (a4 - 1) _).mono ?_
        rintro e w' ⟨rfl, hw⟩; subst w'
        rw [HT2.out]
        go_wp2_with fail
        refine (HC2.out _ HB2.out).mono ?_
        rintro e wt ⟨rfl, hb⟩
        have HBt : Hid (Below w.heap.size w wt) := HB2.out.trans (hb.mono HB2.out.size)
        have HRt : Hid (row wt pt T) := row_below HR2.out hb
        clear hb HB2 HR2 HC2 HT1 HT2
        cases X
        all_goals
          go_wp2_with fail
          refine (Between_any i 0 ((k : Int) - 1) _).mono ?_
          rintro e w' ⟨rfl, hw⟩; subst w'
          rw [HBt2.out]
          go_wp2_with fail
          refine (HTo.out _ HBt.out).mono ?_
          rintro e wu ⟨v, rfl, hv, hb⟩
          obtain ⟨pv, cv, rfl, hrv, _, _⟩ := mine_full hv
          have HBu : Hid (Below w.heap.size w wu) := HBt.out.trans (hb.mono HBt.out.size)
          have HEq : Hid (Calls Try.prog 13 #[.slice pt M ct, .slice pv M cv] wu fun e w' => e = .returned (.bool true) ∧ ∃ m, w' = wu.drewN m) := Equal_yes pt pv M ct cv T wu HM.out (by have := HT8.out; omega) (row_below HRt.out hb) hrv
          rw [HM.out]
          clear hv hb hrv HBt HRt
          go_wp2_with fail
          refine HEq.out.mono ?_
          rintro e w' ⟨rfl, q9, hw⟩; subst w'
          go_wp2_with fail
          go_ret
          exact ⟨rfl, below_drewN HBu.out q9⟩
      · have HC1 : Hid (Calls Try.prog 18 #[.int .u64 R, .string s3, .int .i64 i, .int .i64 a4, .slice p5 m c5] w1 fun e w' => e = .returned (.tuple #[.bool false, .int .i64 1]) ∧ w' = w1) := HBd.out hg w1
        have HBt : Hid (Below w.heap.size w w1) := HB1.out
        have HRt : Hid (row w1 pt T) := HR1.out
        clear HG HBd HB1 HR1
        obtain ⟨wt, hwt⟩ : ∃ wt : World, wt = w1 := ⟨_, rfl⟩
        subst hwt
        by_cases hb1 : 1 ≤ a4 ∧ a4 ≤ 256
        · have HT1 : Hid ((decide ((1 : Int) ≤ a4) && decide (a4 ≤ (256 : Int))) = true) := and_true' hb1
          have HT2 : Hid ((decide ((0 : Int) ≤ (i : Int)) && decide ((i : Int) ≤ a4 - 1)) = false) := and_false (by omega)
          obtain ⟨g1, g2⟩ := hb1
          clear hg
          go_wp2_with fail
          refine HC1.out.mono ?_
          rintro e w' ⟨rfl, hw⟩; subst w'
          go_wp2_with fail
          refine (Between_any a4 1 256 _).mono ?_
          rintro e w' ⟨rfl, hw⟩; subst w'
          rw [HT1.out]
          go_wp2_with fail
          refine (Between_any i 0 (a4 - 1) _).mono ?_
          rintro e w' ⟨rfl, hw⟩; subst w'
          rw [HT2.out]
          go_wp2_with fail
          refine (Between_any i 0 ((k : Int) - 1) _).mono ?_
          rintro e w' ⟨rfl, hw⟩; subst w'
          rw [HBt2.out]
          go_wp2_with fail
          refine (HTo.out _ HBt.out).mono ?_
          rintro e wu ⟨v, rfl, hv, hb⟩
          obtain ⟨pv, cv, rfl, hrv, _, _⟩ := mine_full hv
          have HBu : Hid (Below w.heap.size w wu) := HBt.out.trans (hb.mono HBt.out.size)
          have HEq : Hid (Calls Try.prog 13 #[.slice pt M ct, .slice pv M cv] wu fun e w' => e = .returned (.bool true) ∧ ∃ m, w' = wu.drewN m) := Equal_yes pt pv M ct cv T wu HM.out (by have := HT8.out; omega) (row_below HRt.out hb) hrv
          rw [HM.out]
          clear hv hb hrv HBt HRt
          go_wp2_with fail
          refine HEq.out.mono ?_
          rintro e w' ⟨rfl, q9, hw⟩; subst w'
          go_wp2_with fail
          go_ret
          exact ⟨rfl, below_drewN HBu.out q9⟩
        · have HT1 : Hid ((decide ((1 : Int) ≤ a4) && decide (a4 ≤ (256 : Int))) = false) := and_false hb1
          clear hg hb1
          go_wp2_with fail
          refine HC1.out.mono ?_
          rintro e w' ⟨rfl, hw⟩; subst w'
          go_wp2_with fail
          refine (Between_any a4 1 256 _).mono ?_
          rintro e w' ⟨rfl, hw⟩; subst w'
          rw [HT1.out]
          go_wp2_with fail
          refine (Between_any i 0 ((k : Int) - 1) _).mono ?_
          rintro e w' ⟨rfl, hw⟩; subst w'
          rw [HBt2.out]
          go_wp2_with fail
          refine (HTo.out _ HBt.out).mono ?_
          rintro e wu ⟨v, rfl, hv, hb⟩
          obtain ⟨pv, cv, rfl, hrv, _, _⟩ := mine_full hv
          have HBu : Hid (Below w.heap.size w wu) := HBt.out.trans (hb.mono HBt.out.size)
          have HEq : Hid (Calls Try.prog 13 #[.slice pt M ct, .slice pv M cv] wu fun e w' => e = .returned (.bool true) ∧ ∃ m, w' = wu.drewN m) := Equal_yes pt pv M ct cv T wu HM.out (by have := HT8.out; omega) (row_below HRt.out hb) hrv
          rw [HM.out]
          clear hv hb hrv HBt HRt
          go_wp2_with fail
          refine HEq.out.mono ?_
          rintro e w' ⟨rfl, q9, hw⟩; subst w'
          go_wp2_with fail
          go_ret
          exact ⟨rfl, below_drewN HBu.out q9⟩
    · have HBt2 : Hid ((decide ((0 : Int) ≤ a1) && decide (a1 ≤ (k : Int) - 1)) = false) := and_false (by omega)
      clear ht hsm hk
      go_enter Try.func4, Try.ntmps4
      go_wp2_with fail
      refine (Trail_none p a1 k c _ hle hat).mono ?_
      rintro e w' ⟨rfl, hw⟩; subst w'
      obtain ⟨pt, hpt⟩ : ∃ pt : Option Addr, pt = none := ⟨_, rfl⟩
      obtain ⟨T, hTT⟩ : ∃ T : List Nat, T = [] := ⟨_, rfl⟩
      have HB1 : Hid (Below w.heap.size w w) := Below.refl _ _
      have HR1 : Hid (row w pt T) := by unfold Hid; rw [hTT]; exact row_nil _ _
      clear hpt hTT
      obtain ⟨w1, hw1⟩ : ∃ w1 : World, w1 = w := ⟨_, rfl⟩
      rw [← hw1]
      rw [← hw1] at HR1
      have HB1 : Hid (Below w.heap.size w w1) := by unfold Hid; rw [hw1]; exact Below.refl _ _
      clear hw1
      by_cases hg : 1 ≤ a4 ∧ a4 ≤ 256 ∧ 0 ≤ a1 ∧ a1 < a4
      · obtain ⟨X, hC1, hC2⟩ := HG.out hg
        have HC1 : Hid (Calls Try.prog 18 #[.int .u64 R, .string s3, .int .i64 a1, .int .i64 a4, .slice p5 m c5] w1 fun e w' => e = .returned (.tuple #[.bool X, .int .i64 0]) ∧ ∃ q, w' = w1.drewN q) := hC1 _ HB1.out
        have HC2 : Hid (∀ W : World, Below w.heap.size w W → Calls Try.prog 20 #[.int .u64 R, .string s3, .int .i64 a1, .int .i64 a4, .slice p5 m c5] W fun e w' => e = .returned (.bool X) ∧ Below W.heap.size W w') := hC2
        have HT1 : Hid ((decide ((1 : Int) ≤ a4) && decide (a4 ≤ (256 : Int))) = true) := and_true' ⟨hg.1, hg.2.1⟩
        have HT2 : Hid ((decide ((0 : Int) ≤ a1) && decide (a1 ≤ a4 - 1)) = true) := and_true' ⟨hg.2.2.1, by omega⟩
        obtain ⟨g1, g2, g3, g4⟩ := hg
        clear hC1 hC2 HG HBd
        go_wp2_with fail
        refine HC1.out.mono ?_
        rintro e w' ⟨rfl, q, hw⟩; subst w'
        have HB2 : Hid (Below w.heap.size w (w1.drewN q)) := below_drewN HB1.out q
        have HR2 : Hid (row (w1.drewN q) pt T) := row_drewN HR1.out q
        clear HB1 HR1 HC1
        generalize w1.drewN q = w2 at HB2 HR2 ⊢
        go_wp2_with fail
        refine (Between_any a4 1 256 _).mono ?_
        rintro e w' ⟨rfl, hw⟩; subst w'
        rw [HT1.out]
        go_wp2_with fail
        refine (Between_any a1 0 (a4 - 1) _).mono ?_
        rintro e w' ⟨rfl, hw⟩; subst w'
        rw [HT2.out]
        go_wp2_with fail
        refine (HC2.out _ HB2.out).mono ?_
        rintro e wt ⟨rfl, hb⟩
        have HBt : Hid (Below w.heap.size w wt) := HB2.out.trans (hb.mono HB2.out.size)
        have HRt : Hid (row wt pt T) := row_below HR2.out hb
        clear hb HB2 HR2 HC2 HT1 HT2
        cases X
        all_goals
          go_wp2_with fail
          refine (Between_any a1 0 ((k : Int) - 1) _).mono ?_
          rintro e w' ⟨rfl, hw⟩; subst w'
          rw [HBt2.out]
          go_wp2_with fail
          go_ret
          exact ⟨rfl, HBt.out⟩
      · have HC1 : Hid (Calls Try.prog 18 #[.int .u64 R, .string s3, .int .i64 a1, .int .i64 a4, .slice p5 m c5] w1 fun e w' => e = .returned (.tuple #[.bool false, .int .i64 1]) ∧ w' = w1) := HBd.out hg w1
        have HBt : Hid (Below w.heap.size w w1) := HB1.out
        have HRt : Hid (row w1 pt T) := HR1.out
        clear HG HBd HB1 HR1
        obtain ⟨wt, hwt⟩ : ∃ wt : World, wt = w1 := ⟨_, rfl⟩
        subst hwt
        by_cases hb1 : 1 ≤ a4 ∧ a4 ≤ 256
        · have HT1 : Hid ((decide ((1 : Int) ≤ a4) && decide (a4 ≤ (256 : Int))) = true) := and_true' hb1
          have HT2 : Hid ((decide ((0 : Int) ≤ a1) && decide (a1 ≤ a4 - 1)) = false) := and_false (by omega)
          obtain ⟨g1, g2⟩ := hb1
          clear hg
          go_wp2_with fail
          refine HC1.out.mono ?_
          rintro e w' ⟨rfl, hw⟩; subst w'
          go_wp2_with fail
          refine (Between_any a4 1 256 _).mono ?_
          rintro e w' ⟨rfl, hw⟩; subst w'
          rw [HT1.out]
          go_wp2_with fail
          refine (Between_any a1 0 (a4 - 1) _).mono ?_
          rintro e w' ⟨rfl, hw⟩; subst w'
          rw [HT2.out]
          go_wp2_with fail
          refine (Between_any a1 0 ((k : Int) - 1) _).mono ?_
          rintro e w' ⟨rfl, hw⟩; subst w'
          rw [HBt2.out]
          go_wp2_with fail
          go_ret
          exact ⟨rfl, HBt.out⟩
        · have HT1 : Hid ((decide ((1 : Int) ≤ a4) && decide (a4 ≤ (256 : Int))) = false) := and_false hb1
          clear hg hb1
          go_wp2_with fail
          refine HC1.out.mono ?_
          rintro e w' ⟨rfl, hw⟩; subst w'
          go_wp2_with fail
          refine (Between_any a4 1 256 _).mono ?_
          rintro e w' ⟨rfl, hw⟩; subst w'
          rw [HT1.out]
          go_wp2_with fail
          refine (Between_any a1 0 ((k : Int) - 1) _).mono ?_
          rintro e w' ⟨rfl, hw⟩; subst w'
          rw [HBt2.out]
          go_wp2_with fail
          go_ret
          exact ⟨rfl, HBt.out⟩

set_option maxRecDepth 100000 in
theorem lifted (os : Os) (started : os.Started) (H : Type) (enc : TypeId × Value → H) :
    ReturnsInHanded {} Try.checked os 4 .any (Rows.treeTrailsSpec.pre6 enc Try.prog Try.f4 Rows.treeTrailsRow.domain false) (Rows.treeTrailsSpec.post enc Try.prog Try.f4 false true false false) := by
  refine returnsInHanded_of_change_sized (C := Try.checked) own started (by kernel_rfl) Try.func4
    (ChangeSpec.witness6 (enc := enc) (C := Try.checked) false ⟨#[], #[.slice none 0 0, .int .i64 0, .int .u64 0, .string ⟨#[]⟩, .int .i64 0, .slice none 0 0], []⟩ 8 (by kernel_rfl) (by kernel_rfl) (by kernel_rfl) (by kernel_rfl)) ?_
  intro W base args ds gs before hval0 hW hcnd hsz _
  have hval : ∀ (j : Nat) t v, Try.f4.params[j]? = some t → args[j]? = some v → Value.okWide Try.prog W .any base t v := hval0
  have hW' := hW
  obtain ⟨p, q, hA0, hV, rfl, hfz, hnd⟩ := hW
  have hA : DataW.TrodAll enc Try.prog W 0 (fun _ => true) true Try.f4.params.toList args.toList ds p := hA0
  rw [Try.params4] at hA hval
  obtain ⟨v0, vs0, d0, ds0, p0, q0, hargs, rfl, rfl, h0, r0⟩ := trodAll_cons hA
  obtain ⟨v1, vs1, d1, ds1, p1, q1, rfl, rfl, rfl, h1, r1⟩ := trodAll_cons r0
  obtain ⟨v2, vs2, d2, ds2, p2, q2, rfl, rfl, rfl, h2, r2⟩ := trodAll_cons r1
  obtain ⟨v3, vs3, d3, ds3, p3, q3, rfl, rfl, rfl, h3, r3⟩ := trodAll_cons r2
  obtain ⟨v4, vs4, d4, ds4, p4, q4, rfl, rfl, rfl, h4, r4⟩ := trodAll_cons r3
  obtain ⟨v5, vs5, d5, ds5, p5, q5, rfl, rfl, rfl, h5, r5⟩ := trodAll_cons r4
  obtain ⟨rfl, rfl, rfl⟩ := trodAll_nil r5
  obtain rfl : args = #[v0, v1, v2, v3, v4, v5] := by cases args; simp_all
  obtain ⟨rfl, rfl⟩ := trodVars_none hV
  obtain ⟨s0, rfl, k0, t0⟩ := open_sst Try.underlying22 Try.underlying9 (by kernel_rfl) (hval 0 22 v0 rfl rfl) h0
  obtain ⟨a1, rfl, rfl, rfl, w1⟩ := open_int Try.underlying3 (hval 1 3 v1 rfl rfl) h1
  obtain ⟨a2, rfl, rfl, rfl, w2⟩ := open_int Try.underlying23 (hval 2 23 v2 rfl rfl) h2
  obtain ⟨s3, rfl, rfl, rfl, hm3⟩ := Go.ChangeMaps.open_string Try.underlying9 (hval 3 9 v3 rfl rfl) h3
  obtain ⟨a4, rfl, rfl, rfl, w4⟩ := open_int Try.underlying3 (hval 4 3 v4 rfl rfl) h4
  obtain ⟨s5, rfl, k5, t5⟩ := open_lst Try.underlying27 Try.underlying23 (by kernel_rfl) (hval 5 27 v5 rfl rfl) h5
  have hs0 : s0.l.length * 16 ≤ 140737488351232 := told_sized hsz (j := 0) rfl rfl Try.underlying22 (by kernel_rfl) t0
  have hs5 : s5.l.length * 8 ≤ 140737488351232 := told_sized hsz (j := 5) rfl rfl Try.underlying27 (by kernel_rfl) t5
  have hs3 : s3.size ≤ 140737488351232 := by have := sized_string hsz (j := 3) rfl rfl; unfold reachBytes at this; simpa using this
  clear hA0 hval0
  refine (walk s0 a1 a2 s3 a4 s5 w1 w2 hs3 w4 W k0 hs0 k5 hs5).mono fun e W' ⟨he, hg⟩ => ?_
  subst he
  exact ⟨_, rfl, law_post (by kernel_rfl) (by kernel_rfl) rfl (by kernel_rfl) Try.underlying4 hW' rfl hg⟩

theorem over : Rows.treeTrailsRow.holds Try.pinned (OpenSpec.ofChange Rows.treeTrailsSpec) :=
  OpenClaim.holds_of_wide 4 Try.f4 rfl rfl rfl rfl rfl rfl rfl ⟨rfl, rfl, rfl, rfl, rfl⟩ rfl rfl rfl rfl rfl (by kernel_rfl) Try.func4 (by kernel_rfl)
    (of_decide_eq_true (by kernel_rfl)) (by unfold Func.isWrapper; first | (rw [if_pos (by decide +kernel)]; kernel_rfl) | (rw [if_neg (by decide +kernel)]; exact ⟨rfl, rfl⟩))
    (fun os started H enc _ => lifted os started H enc)

theorem proved : Rows.TreeTrailsSaid :=
  over
end Go.Proofs.Yteedlbdjbffheaa.treeTrails

namespace Go.Proofs.Yteedlbdjbffheaa
/-- For every list l of texts, all whole numbers at and n, every number root of 64 bits, every text s and every list trail of numbers of 64 bits the law TreeTrails of package tree returns true, and its arguments read as before; no condition. -/
theorem treeTrails_holds : Rows.TreeTrailsSaid := treeTrails.proved
#print axioms treeTrails_holds
end Go.Proofs.Yteedlbdjbffheaa
