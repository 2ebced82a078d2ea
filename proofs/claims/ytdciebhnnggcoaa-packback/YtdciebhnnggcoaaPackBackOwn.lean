/- Whatever numbers, text and list: numbers are got as they were put, whatever stands behind; what is got was put so; no number's bytes begin another one's; lists of at most a thousand numbers likewise; no condition but that a text and a list take at most 2^47 - 4096 bytes, as the first form has it. -/
import Derived.Test.YtdciebhnnggcoaaRows
import Derived.Test.YtdciebhnnggcoaaPost
import Derived.Test.YtdciebhnnggcoaaUse
import Derived.WalkKit
import Derived.ProofKit
import Derived.OpenShut
import Derived.SizedLaws
import Derived.ChangeMaps5
import Derived.JoinedCond
namespace Go.Proofs.Ytdciebhnnggcoaa.packBack
open Go.ChangeShapes Go.WideShapes Go.ChangeAt Go.RowKit
set_option linter.unusedVariables false

theorem own : ownKnob Try.prog.godebug = none := by kernel_rfl


set_option maxRecDepth 20000 in
set_option maxHeartbeats 4000000 in
theorem walk (a0 : Int) (a1 : Int) (a2 : Int) (s3 : ByteArray) (s4 : Ist) (w0 : (Lit.int .u64 a0).wf = true) (w1 : (Lit.int .u64 a1).wf = true) (w2 : (Lit.int .i64 a2).wf = true) (hs3 : s3.size ≤ 140737488351232) (w : World) (h4 : s4.fit w) (hs4 : s4.l.length * 8 ≤ 140737488351232) :
    Calls Try.prog 4 #[.int .u64 a0, .int .u64 a1, .int .i64 a2, .string s3, s4.val] w fun e w' => e = .returned (.bool true) ∧ Below w.heap.size w w' := by
  obtain ⟨n, rfl, hn⟩ := nat_of w0
  obtain ⟨m, rfl, hm⟩ := nat_of w1
  have hk := int_of w2
  obtain ⟨p, c, l⟩ := s4
  obtain ⟨r1, r2, r3, r4, r5⟩ := h4
  change row vi w p l at r1
  change ∀ x ∈ l, fits x at r2
  change l.length ≤ 9223372036854775807 at r3
  unfold Ist.val
  simp only []
  clear w0 w1 w2 hs4 r4 r5
  have HL : Hid (∀ w : World, Calls Try.prog 20 #[] w fun e w' => e = .returned (.bool true) ∧ Below w.heap.size w w') := lives_any
  have HPn : Hid (∀ w : World, Calls Try.prog 13 #[.int .u64 n] w fun e w' => e = .returned (.string (ps n)) ∧ Below w.heap.size w w') := fun w => Put_any n w hn
  have HPm : Hid (∀ w : World, Calls Try.prog 13 #[.int .u64 m] w fun e w' => e = .returned (.string (ps m)) ∧ Below w.heap.size w w') := fun w => Put_any m w hm
  have hz : (ps n).size ≤ 10 := by rw [ps_size]; exact pk_ten hn
  have HG1 : Hid (∀ w : World, Calls Try.prog 7 #[.string (ps n ++ s3)] w fun e w' => e = .returned (.tuple #[.int .u64 n, .string s3, .int .i64 0]) ∧ Below w.heap.size w w') := by
    intro w
    have h1 := Get_any (ps n ++ s3) w (by simp; omega)
    obtain ⟨e1, e2, e3⟩ := get_put hn s3
    rw [e1, e2, e3] at h1; exact h1
  have HF1 : Hid (∀ w : World, Calls Try.prog 15 #[.int .i64 a2] w fun e w' => e = .returned (.int .u64 (fd a2)) ∧ w' = w) := fun w => Fold_any a2 w hk
  have HU1 : Hid (∀ w : World, Calls Try.prog 17 #[.int .u64 (fd a2)] w fun e w' => e = .returned (.int .i64 a2) ∧ w' = w) := fun w => by
    have := Unfold_any (fd a2) w (fd_lt hk)
    rw [uf_fd] at this; exact this
  have HU2 : Hid (∀ w : World, Calls Try.prog 17 #[.int .u64 n] w fun e w' => e = .returned (.int .i64 (uf n)) ∧ w' = w) := fun w => Unfold_any n w hn
  have HF2 : Hid (∀ w : World, Calls Try.prog 15 #[.int .i64 (uf n)] w fun e w' => e = .returned (.int .u64 n) ∧ w' = w) := fun w => by
    have := Fold_any (uf n) w (uf_fits hn)
    rw [fd_uf] at this; exact this
  have HG2 : Hid (∀ w : World, Calls Try.prog 7 #[.string s3] w fun e w' => e = .returned (.tuple #[.int .u64 (gn s3), .string (gr s3), .int .i64 (ge s3)]) ∧ Below w.heap.size w w') := fun w => Get_any s3 w (by omega)
  have HPg : Hid (∀ w : World, Calls Try.prog 13 #[.int .u64 (gn s3)] w fun e w' => e = .returned (.string (ps (gn s3))) ∧ Below w.heap.size w w') := fun w => Put_any _ w (gn_lt _)
  have HPG : Hid (ge s3 = 0 → ps (gn s3) ++ gr s3 = s3) := put_get
  have hzg : (ps (gn s3)).size ≤ 10 := by rw [ps_size]; exact pk_ten (gn_lt _)
  have hzr : (gr s3).size ≤ s3.size := gr_size s3
  have HH : Hid (n ≠ m → ∀ w : World, Calls Try.prog 21 #[.string (ps n), .string (ps m)] w fun e w' => e = .returned (.bool false) ∧ w' = w) := fun h w => HasPrefix_no _ _ w (no_front hn hm h)
  have HA : Hid (∀ w' : World, Below w.heap.size w w' → Calls Try.prog 9 #[.slice p l.length c] w' fun e w'' => e = .returned (.tuple #[.string (qa l), .int .i64 (qe l)]) ∧ Below w'.heap.size w' w'') := fun w' h => PutAll_any p l c w' (row_below r1 h) r2
  have HQ1 : Hid (∀ w : World, Calls Try.prog 11 #[.string (qa l)] w fun e w' => ∃ v, e = .returned (.tuple #[v, .int .i64 (ga (bs (qa l))).2]) ∧ mine 3 vi w.heap.size w' v (ga (bs (qa l))).1 ∧ Below w.heap.size w w') := fun w => GetAll_any _ w (qa_size r2)
  have HQ2 : Hid (∀ w : World, Calls Try.prog 11 #[.string s3] w fun e w' => ∃ v, e = .returned (.tuple #[v, .int .i64 (ga (bs s3)).2]) ∧ mine 3 vi w.heap.size w' v (ga (bs s3)).1 ∧ Below w.heap.size w w') := fun w => GetAll_any _ w (by omega)
  have HB : Hid (l.length ≤ 1000 → qe l = 0 ∧ ga (bs (qa l)) = (l, 0)) := fun h => ⟨by unfold qe; rw [if_pos h], got_put r2 h⟩
  have HC : Hid (¬ l.length ≤ 1000 → qe l = 2) := fun h => by unfold qe; rw [if_neg h]
  have HD : Hid ((ga (bs s3)).2 = 0 → ∀ (B : Nat) (w : World) (v : Value), mine 3 vi B w v (ga (bs s3)).1 → Calls Try.prog 9 #[v] w fun e w' => e = .returned (.tuple #[.string s3, .int .i64 0]) ∧ Below w.heap.size w w') := by
    intro h B w v hv
    obtain ⟨e1, e2, e3⟩ := put_got h
    have := PutAll_mine hv e3
    rw [e1, e2] at this; exact this
  have HE : Hid (l.length ≤ 1000 → ∀ (B : Nat) (w' : World) (v : Value), Below w.heap.size w w' → mine 3 vi B w' v l → Calls Try.prog 19 #[v, .slice p l.length c] w' fun e w'' => e = .returned (.bool true) ∧ ∃ m, w'' = w'.drewN m) :=
    fun h B w' v hb hv => Equal_mine hv p _ c rfl (by omega) (row_below r1 hb)
  obtain ⟨N, hN⟩ : ∃ N, l.length = N := ⟨_, rfl⟩
  rw [hN] at HA HB HC HE r3 ⊢
  obtain ⟨tn, htn⟩ : ∃ tn, ps n = tn := ⟨_, rfl⟩
  rw [htn] at HPn HG1 HH hz
  obtain ⟨tm, htm⟩ : ∃ tm, ps m = tm := ⟨_, rfl⟩
  rw [htm] at HPm HH
  obtain ⟨F, hF⟩ : ∃ F, fd a2 = F := ⟨_, rfl⟩
  rw [hF] at HF1 HU1
  obtain ⟨U, hU⟩ : ∃ U, uf n = U := ⟨_, rfl⟩
  rw [hU] at HU2 HF2
  obtain ⟨tg, htg⟩ : ∃ tg, ps (gn s3) = tg := ⟨_, rfl⟩
  rw [htg] at HPg HPG hzg
  obtain ⟨X, hX⟩ : ∃ X, gn s3 = X := ⟨_, rfl⟩
  rw [hX] at HPg HG2
  obtain ⟨Y, hY⟩ : ∃ Y, gr s3 = Y := ⟨_, rfl⟩
  rw [hY] at HPG hzr HG2
  obtain ⟨E, hE⟩ : ∃ E, ge s3 = E := ⟨_, rfl⟩
  rw [hE] at HPG HG2
  obtain ⟨Q, hQ⟩ : ∃ Q, qa l = Q := ⟨_, rfl⟩
  rw [hQ] at HA HQ1 HB
  obtain ⟨O, hO⟩ : ∃ O, qe l = O := ⟨_, rfl⟩
  rw [hO] at HA HB HC
  obtain ⟨R1, hR1⟩ : ∃ R1, ga (bs Q) = R1 := ⟨_, rfl⟩
  rw [hR1] at HQ1 HB
  obtain ⟨R2, hR2⟩ : ∃ R2, ga (bs s3) = R2 := ⟨_, rfl⟩
  rw [hR2] at HQ2 HD
  clear htn htm hF hU htg hX hY hE hQ hO hR1 hR2 hN r1 r2 hn hm hk
  go_enter Try.func4, Try.ntmps4
  go_wp2_with fail
  refine (HPn.out _).mono ?_
  rintro e w1 ⟨rfl, b1⟩
  go_wp2_with fail
  refine (HG1.out _).mono ?_
  rintro e w2 ⟨rfl, b2⟩
  go_wp2_with fail
  refine (HL.out _).mono ?_
  rintro e w3 ⟨rfl, b3⟩
  have B3 : Hid (Below w.heap.size w w3) := below_step (below_step b1 b1.size b2) (Nat.le_trans b1.size b2.size) b3
  clear b1 b2 b3
  go_wp2_with fail
  refine (HF1.out _).mono ?_
  rintro e w' ⟨rfl, hw⟩; subst w'
  go_wp2_with fail
  refine (HU1.out _).mono ?_
  rintro e w' ⟨rfl, hw⟩; subst w'
  go_wp2_with fail
  refine (HU2.out _).mono ?_
  rintro e w' ⟨rfl, hw⟩; subst w'
  go_wp2_with fail
  refine (HF2.out _).mono ?_
  rintro e w' ⟨rfl, hw⟩; subst w'
  go_wp2_with fail
  refine (HG2.out _).mono ?_
  rintro e w4 ⟨rfl, b4⟩
  have B4 : Hid (Below w.heap.size w w4) := below_step B3.out B3.out.size b4
  clear b4 B3 HF1 HU1 HU2 HF2 HG1 HL
  by_cases hE0 : E = 0
  · subst hE0
    have HEQ : Hid (tg ++ Y = s3) := HPG.out rfl
    clear HPG
    go_wp2_with fail
    refine (HPg.out _).mono ?_
    rintro e w5 ⟨rfl, b5⟩
    have B5 : Hid (Below w.heap.size w w5) := below_step B4.out B4.out.size b5
    clear b5 B4
    have heq : ((tg ++ Y).toList == s3.toList) = true := by rw [HEQ.out]; simp
    by_cases hnm : n = m
    · subst hnm
      obtain ⟨w7, hw7⟩ : ∃ w7 : World, w7 = w5 := ⟨_, rfl⟩
      subst hw7
      have B7 := B5
      go_wp2_with fail
      refine (HA.out _ B7.out).mono ?_
      rintro e w8 ⟨rfl, b8⟩
      have B8 : Hid (Below w.heap.size w w8) := below_step B7.out B7.out.size b8
      clear b8
      go_wp2_with fail
      refine (HQ1.out _).mono ?_
      rintro e w9 ⟨v1, rfl, hv1, b9⟩
      have B9 : Hid (Below w.heap.size w w9) := below_step B8.out B8.out.size b9
      have V1 : Hid (mine 3 vi w8.heap.size w9 v1 R1.1) := hv1
      clear b9 hv1
      go_wp2_with fail
      refine (HQ2.out _).mono ?_
      rintro e w10 ⟨v2, rfl, hv2, b10⟩
      have BA : Hid (Below w.heap.size w w10) := below_step B9.out B9.out.size b10
      have VA : Hid (mine 3 vi w8.heap.size w10 v1 R1.1) := mine_below V1.out b10
      have V2 : Hid (mine 3 vi w9.heap.size w10 v2 R2.1) := hv2
      clear b10 hv2 V1
      by_cases hl : N ≤ 1000
      · obtain ⟨rfl, hr1⟩ := HB.out hl
        subst hr1
        have HE' := HE.out hl
        by_cases hi : R2.2 = 0
        · have HD' := HD.out hi
          obtain ⟨q, i⟩ := R2
          change i = 0 at hi
          subst hi
          have HD' : Hid (∀ (B : Nat) (w : World) (v : Value), mine 3 vi B w v q → Calls Try.prog 9 #[v] w fun e w' => e = .returned (.tuple #[.string s3, .int .i64 0]) ∧ Below w.heap.size w w') := HD'
          have HE' : Hid (∀ (B : Nat) (w' : World) (v : Value), Below w.heap.size w w' → mine 3 vi B w' v l → Calls Try.prog 19 #[v, .slice p N c] w' fun e w'' => e = .returned (.bool true) ∧ ∃ m, w'' = w'.drewN m) := HE'
          go_wp2_with fail
          refine (HD'.out _ _ _ V2.out).mono ?_
          rintro e w11 ⟨rfl, b11⟩
          have BB : Hid (Below w.heap.size w w11) := below_step BA.out BA.out.size b11
          have VB : Hid (mine 3 vi w8.heap.size w11 v1 l) := mine_below VA.out b11
          clear b11
          go_wp2_with fail
          refine (HE'.out _ _ _ BB.out VB.out).mono ?_
          rintro e w' ⟨rfl, q2, hw⟩; subst w'
          go_wp2_with fail
          go_ret
          exact ⟨rfl, below_drewN BB.out _⟩
        · have HE' : Hid (∀ (B : Nat) (w' : World) (v : Value), Below w.heap.size w w' → mine 3 vi B w' v l → Calls Try.prog 19 #[v, .slice p N c] w' fun e w'' => e = .returned (.bool true) ∧ ∃ m, w'' = w'.drewN m) := HE'
          obtain ⟨I, hI⟩ : ∃ I, R2.2 = I := ⟨_, rfl⟩
          rw [hI] at hi ⊢
          have hi1 : ¬ (I : Int) = 0 := by omega
          clear hI
          go_wp2_with fail
          refine (HE'.out _ _ _ BA.out VA.out).mono ?_
          rintro e w' ⟨rfl, q2, hw⟩; subst w'
          go_wp2_with fail
          go_ret
          exact ⟨rfl, below_drewN BA.out _⟩
      · obtain rfl := HC.out hl
        have hl1 : (1000 : Int) < N := by omega
        go_wp2_with fail
        go_ret
        exact ⟨rfl, BA.out⟩
    · have hnm' : ¬ (n : Int) = m := by omega
      have HH' : Hid (∀ w : World, Calls Try.prog 21 #[.string tn, .string tm] w fun e w' => e = .returned (.bool false) ∧ w' = w) := HH.out hnm
      go_wp2_with fail
      refine (HPn.out _).mono ?_
      rintro e w6 ⟨rfl, b6⟩
      go_wp2_with fail
      refine (HPm.out _).mono ?_
      rintro e w7 ⟨rfl, b7⟩
      have B7 : Hid (Below w.heap.size w w7) := below_step (below_step B5.out B5.out.size b6) (Nat.le_trans B5.out.size b6.size) b7
      clear b6 b7 B5
      go_wp2_with fail
      refine (HH'.out _).mono ?_
      rintro e w' ⟨rfl, hw⟩; subst w'
      go_wp2_with fail
      refine (HA.out _ B7.out).mono ?_
      rintro e w8 ⟨rfl, b8⟩
      have B8 : Hid (Below w.heap.size w w8) := below_step B7.out B7.out.size b8
      clear b8
      go_wp2_with fail
      refine (HQ1.out _).mono ?_
      rintro e w9 ⟨v1, rfl, hv1, b9⟩
      have B9 : Hid (Below w.heap.size w w9) := below_step B8.out B8.out.size b9
      have V1 : Hid (mine 3 vi w8.heap.size w9 v1 R1.1) := hv1
      clear b9 hv1
      go_wp2_with fail
      refine (HQ2.out _).mono ?_
      rintro e w10 ⟨v2, rfl, hv2, b10⟩
      have BA : Hid (Below w.heap.size w w10) := below_step B9.out B9.out.size b10
      have VA : Hid (mine 3 vi w8.heap.size w10 v1 R1.1) := mine_below V1.out b10
      have V2 : Hid (mine 3 vi w9.heap.size w10 v2 R2.1) := hv2
      clear b10 hv2 V1
      by_cases hl : N ≤ 1000
      · obtain ⟨rfl, hr1⟩ := HB.out hl
        subst hr1
        have HE' := HE.out hl
        by_cases hi : R2.2 = 0
        · have HD' := HD.out hi
          obtain ⟨q, i⟩ := R2
          change i = 0 at hi
          subst hi
          have HD' : Hid (∀ (B : Nat) (w : World) (v : Value), mine 3 vi B w v q → Calls Try.prog 9 #[v] w fun e w' => e = .returned (.tuple #[.string s3, .int .i64 0]) ∧ Below w.heap.size w w') := HD'
          have HE' : Hid (∀ (B : Nat) (w' : World) (v : Value), Below w.heap.size w w' → mine 3 vi B w' v l → Calls Try.prog 19 #[v, .slice p N c] w' fun e w'' => e = .returned (.bool true) ∧ ∃ m, w'' = w'.drewN m) := HE'
          go_wp2_with fail
          refine (HD'.out _ _ _ V2.out).mono ?_
          rintro e w11 ⟨rfl, b11⟩
          have BB : Hid (Below w.heap.size w w11) := below_step BA.out BA.out.size b11
          have VB : Hid (mine 3 vi w8.heap.size w11 v1 l) := mine_below VA.out b11
          clear b11
          go_wp2_with fail
          refine (HE'.out _ _ _ BB.out VB.out).mono ?_
          rintro e w' ⟨rfl, q2, hw⟩; subst w'
          go_wp2_with fail
          go_ret
          exact ⟨rfl, below_drewN BB.out _⟩
        · have HE' : Hid (∀ (B : Nat) (w' : World) (v : Value), Below w.heap.size w w' → mine 3 vi B w' v l → Calls Try.prog 19 #[v, .slice p N c] w' fun e w'' => e = .returned (.bool true) ∧ ∃ m, w'' = w'.drewN m) := HE'
          obtain ⟨I, hI⟩ : ∃ I, R2.2 = I := ⟨_, rfl⟩
          rw [hI] at hi ⊢
          have hi1 : ¬ (I : Int) = 0 := by omega
          clear hI
          go_wp2_with fail
          refine (HE'.out _ _ _ BA.out VA.out).mono ?_
          rintro e w' ⟨rfl, q2, hw⟩; subst w'
          go_wp2_with fail
          go_ret
          exact ⟨rfl, below_drewN BA.out _⟩
      · obtain rfl := HC.out hl
        have hl1 : (1000 : Int) < N := by omega
        go_wp2_with fail
        go_ret
        exact ⟨rfl, BA.out⟩
  · have hE1 : ¬ (E : Int) = 0 := by omega
    obtain ⟨w5, hw5⟩ : ∃ w5 : World, w5 = w4 := ⟨_, rfl⟩
    subst hw5
    have B5 := B4
    by_cases hnm : n = m
    · subst hnm
      obtain ⟨w7, hw7⟩ : ∃ w7 : World, w7 = w5 := ⟨_, rfl⟩
      subst hw7
      have B7 := B5
      go_wp2_with fail
      refine (HA.out _ B7.out).mono ?_
      rintro e w8 ⟨rfl, b8⟩
      have B8 : Hid (Below w.heap.size w w8) := below_step B7.out B7.out.size b8
      clear b8
      go_wp2_with fail
      refine (HQ1.out _).mono ?_
      rintro e w9 ⟨v1, rfl, hv1, b9⟩
      have B9 : Hid (Below w.heap.size w w9) := below_step B8.out B8.out.size b9
      have V1 : Hid (mine 3 vi w8.heap.size w9 v1 R1.1) := hv1
      clear b9 hv1
      go_wp2_with fail
      refine (HQ2.out _).mono ?_
      rintro e w10 ⟨v2, rfl, hv2, b10⟩
      have BA : Hid (Below w.heap.size w w10) := below_step B9.out B9.out.size b10
      have VA : Hid (mine 3 vi w8.heap.size w10 v1 R1.1) := mine_below V1.out b10
      have V2 : Hid (mine 3 vi w9.heap.size w10 v2 R2.1) := hv2
      clear b10 hv2 V1
      by_cases hl : N ≤ 1000
      · obtain ⟨rfl, hr1⟩ := HB.out hl
        subst hr1
        have HE' := HE.out hl
        by_cases hi : R2.2 = 0
        · have HD' := HD.out hi
          obtain ⟨q, i⟩ := R2
          change i = 0 at hi
          subst hi
          have HD' : Hid (∀ (B : Nat) (w : World) (v : Value), mine 3 vi B w v q → Calls Try.prog 9 #[v] w fun e w' => e = .returned (.tuple #[.string s3, .int .i64 0]) ∧ Below w.heap.size w w') := HD'
          have HE' : Hid (∀ (B : Nat) (w' : World) (v : Value), Below w.heap.size w w' → mine 3 vi B w' v l → Calls Try.prog 19 #[v, .slice p N c] w' fun e w'' => e = .returned (.bool true) ∧ ∃ m, w'' = w'.drewN m) := HE'
          go_wp2_with fail
          refine (HD'.out _ _ _ V2.out).mono ?_
          rintro e w11 ⟨rfl, b11⟩
          have BB : Hid (Below w.heap.size w w11) := below_step BA.out BA.out.size b11
          have VB : Hid (mine 3 vi w8.heap.size w11 v1 l) := mine_below VA.out b11
          clear b11
          go_wp2_with fail
          refine (HE'.out _ _ _ BB.out VB.out).mono ?_
          rintro e w' ⟨rfl, q2, hw⟩; subst w'
          go_wp2_with fail
          go_ret
          exact ⟨rfl, below_drewN BB.out _⟩
        · have HE' : Hid (∀ (B : Nat) (w' : World) (v : Value), Below w.heap.size w w' → mine 3 vi B w' v l → Calls Try.prog 19 #[v, .slice p N c] w' fun e w'' => e = .returned (.bool true) ∧ ∃ m, w'' = w'.drewN m) := HE'
          obtain ⟨I, hI⟩ : ∃ I, R2.2 = I := ⟨_, rfl⟩
          rw [hI] at hi ⊢
          have hi1 : ¬ (I : Int) = 0 := by omega
          clear hI
          go_wp2_with fail
          refine (HE'.out _ _ _ BA.out VA.out).mono ?_
          rintro e w' ⟨rfl, q2, hw⟩; subst w'
          go_wp2_with fail
          go_ret
          exact ⟨rfl, below_drewN BA.out _⟩
      · obtain rfl := HC.out hl
        have hl1 : (1000 : Int) < N := by omega
        go_wp2_with fail
        go_ret
        exact ⟨rfl, BA.out⟩
    · have hnm' : ¬ (n : Int) = m := by omega
      have HH' : Hid (∀ w : World, Calls Try.prog 21 #[.string tn, .string tm] w fun e w' => e = .returned (.bool false) ∧ w' = w) := HH.out hnm
      go_wp2_with fail
      refine (HPn.out _).mono ?_
      rintro e w6 ⟨rfl, b6⟩
      go_wp2_with fail
      refine (HPm.out _).mono ?_
      rintro e w7 ⟨rfl, b7⟩
      have B7 : Hid (Below w.heap.size w w7) := below_step (below_step B5.out B5.out.size b6) (Nat.le_trans B5.out.size b6.size) b7
      clear b6 b7 B5
      go_wp2_with fail
      refine (HH'.out _).mono ?_
      rintro e w' ⟨rfl, hw⟩; subst w'
      go_wp2_with fail
      refine (HA.out _ B7.out).mono ?_
      rintro e w8 ⟨rfl, b8⟩
      have B8 : Hid (Below w.heap.size w w8) := below_step B7.out B7.out.size b8
      clear b8
      go_wp2_with fail
      refine (HQ1.out _).mono ?_
      rintro e w9 ⟨v1, rfl, hv1, b9⟩
      have B9 : Hid (Below w.heap.size w w9) := below_step B8.out B8.out.size b9
      have V1 : Hid (mine 3 vi w8.heap.size w9 v1 R1.1) := hv1
      clear b9 hv1
      go_wp2_with fail
      refine (HQ2.out _).mono ?_
      rintro e w10 ⟨v2, rfl, hv2, b10⟩
      have BA : Hid (Below w.heap.size w w10) := below_step B9.out B9.out.size b10
      have VA : Hid (mine 3 vi w8.heap.size w10 v1 R1.1) := mine_below V1.out b10
      have V2 : Hid (mine 3 vi w9.heap.size w10 v2 R2.1) := hv2
      clear b10 hv2 V1
      by_cases hl : N ≤ 1000
      · obtain ⟨rfl, hr1⟩ := HB.out hl
        subst hr1
        have HE' := HE.out hl
        by_cases hi : R2.2 = 0
        · have HD' := HD.out hi
          obtain ⟨q, i⟩ := R2
          change i = 0 at hi
          subst hi
          have HD' : Hid (∀ (B : Nat) (w : World) (v : Value), mine 3 vi B w v q → Calls Try.prog 9 #[v] w fun e w' => e = .returned (.tuple #[.string s3, .int .i64 0]) ∧ Below w.heap.size w w') := HD'
          have HE' : Hid (∀ (B : Nat) (w' : World) (v : Value), Below w.heap.size w w' → mine 3 vi B w' v l → Calls Try.prog 19 #[v, .slice p N c] w' fun e w'' => e = .returned (.bool true) ∧ ∃ m, w'' = w'.drewN m) := HE'
          go_wp2_with fail
          refine (HD'.out _ _ _ V2.out).mono ?_
          rintro e w11 ⟨rfl, b11⟩
          have BB : Hid (Below w.heap.size w w11) := below_step BA.out BA.out.size b11
          have VB : Hid (mine 3 vi w8.heap.size w11 v1 l) := mine_below VA.out b11
          clear b11
          go_wp2_with fail
          refine (HE'.out _ _ _ BB.out VB.out).mono ?_
          rintro e w' ⟨rfl, q2, hw⟩; subst w'
          go_wp2_with fail
          go_ret
          exact ⟨rfl, below_drewN BB.out _⟩
        · have HE' : Hid (∀ (B : Nat) (w' : World) (v : Value), Below w.heap.size w w' → mine 3 vi B w' v l → Calls Try.prog 19 #[v, .slice p N c] w' fun e w'' => e = .returned (.bool true) ∧ ∃ m, w'' = w'.drewN m) := HE'
          obtain ⟨I, hI⟩ : ∃ I, R2.2 = I := ⟨_, rfl⟩
          rw [hI] at hi ⊢
          have hi1 : ¬ (I : Int) = 0 := by omega
          clear hI
          go_wp2_with fail
          refine (HE'.out _ _ _ BA.out VA.out).mono ?_
          rintro e w' ⟨rfl, q2, hw⟩; subst w'
          go_wp2_with fail
          go_ret
          exact ⟨rfl, below_drewN BA.out _⟩
      · obtain rfl := HC.out hl
        have hl1 : (1000 : Int) < N := by omega
        go_wp2_with fail
        go_ret
        exact ⟨rfl, BA.out⟩

set_option maxRecDepth 100000 in
theorem lifted (os : Os) (started : os.Started) (H : Type) (enc : TypeId × Value → H) :
    ReturnsInHanded {} Try.checked os 4 .any (Rows.packBackSpec.pre6 enc Try.prog Try.f4 Rows.packBackRow.domain false) (Rows.packBackSpec.post enc Try.prog Try.f4 false true false false) := by
  refine returnsInHanded_of_change_sized (C := Try.checked) own started (by kernel_rfl) Try.func4
    (ChangeSpec.witness6 (enc := enc) (C := Try.checked) false ⟨#[], #[.int .u64 0, .int .u64 0, .int .i64 0, .string ⟨#[]⟩, .slice none 0 0], []⟩ 8 (by kernel_rfl) (by kernel_rfl) (by kernel_rfl) (by kernel_rfl)) ?_
  intro W base args ds gs before hval0 hW hcnd hsz _
  have hval : ∀ (j : Nat) t v, Try.f4.params[j]? = some t → args[j]? = some v → Value.okWide Try.prog W .any base t v := hval0
  have hW' := hW
  obtain ⟨p, q, hA0, hV, rfl, hfz, hnd⟩ := hW
  have hA : DataW.TrodAll enc Try.prog W 0 (fun _ => true) true Try.f4.params.toList args.toList ds p := hA0
  rw [Try.params4] at hA hval
  obtain ⟨v0, vs0, d0, ds0, p0, q0, hargs, rfl, rfl, h0, r0⟩ := trodAll_cons hA
  obtain ⟨v1, vs1, d1, ds1, p1, q1, rfl, rfl, rfl, h1, r1⟩ := trodAll_cons r0
  obtain ⟨v2, vs2, d2, ds2, p2, q2, rfl, rfl, rfl, h2, r2⟩ := trodAll_cons r1
  obtain ⟨v3, vs3, d3, ds3, p3, q3, rfl, rfl, rfl, h3, r3⟩ := trodAll_cons r2
  obtain ⟨v4, vs4, d4, ds4, p4, q4, rfl, rfl, rfl, h4, r4⟩ := trodAll_cons r3
  obtain ⟨rfl, rfl, rfl⟩ := trodAll_nil r4
  obtain rfl : args = #[v0, v1, v2, v3, v4] := by cases args; simp_all
  obtain ⟨rfl, rfl⟩ := trodVars_none hV
  obtain ⟨a0, rfl, rfl, rfl, w0⟩ := open_int Try.underlying22 (hval 0 22 v0 rfl rfl) h0
  obtain ⟨a1, rfl, rfl, rfl, w1⟩ := open_int Try.underlying22 (hval 1 22 v1 rfl rfl) h1
  obtain ⟨a2, rfl, rfl, rfl, w2⟩ := open_int Try.underlying3 (hval 2 3 v2 rfl rfl) h2
  obtain ⟨s3, rfl, rfl, rfl, hm3⟩ := Go.ChangeMaps.open_string Try.underlying9 (hval 3 9 v3 rfl rfl) h3
  obtain ⟨s4, rfl, k4, t4⟩ := open_ist Try.underlying23 Try.underlying3 (by kernel_rfl) (hval 4 23 v4 rfl rfl) h4
  have hs4 : s4.l.length * 8 ≤ 140737488351232 := told_sized hsz (j := 4) rfl rfl Try.underlying23 (by kernel_rfl) t4
  have hs3 : s3.size ≤ 140737488351232 := by have := sized_string hsz (j := 3) rfl rfl; unfold reachBytes at this; simpa using this
  clear hA0 hval0
  refine (walk a0 a1 a2 s3 s4 w0 w1 w2 hs3 W k4 hs4).mono fun e W' ⟨he, hg⟩ => ?_
  subst he
  exact ⟨_, rfl, law_post (by kernel_rfl) (by kernel_rfl) rfl (by kernel_rfl) Try.underlying4 hW' rfl hg⟩

theorem over : Rows.packBackRow.holds Try.pinned (OpenSpec.ofChange Rows.packBackSpec) :=
  OpenClaim.holds_of_wide 4 Try.f4 rfl rfl rfl rfl rfl rfl rfl ⟨rfl, rfl, rfl, rfl, rfl⟩ rfl rfl rfl rfl rfl (by kernel_rfl) Try.func4 (by kernel_rfl)
    (of_decide_eq_true (by kernel_rfl)) (by unfold Func.isWrapper; first | (rw [if_pos (by decide +kernel)]; kernel_rfl) | (rw [if_neg (by decide +kernel)]; exact ⟨rfl, rfl⟩))
    (fun os started H enc _ => lifted os started H enc)

theorem proved : Rows.PackBackSaid :=
  over
end Go.Proofs.Ytdciebhnnggcoaa.packBack

namespace Go.Proofs.Ytdciebhnnggcoaa
/-- Whatever numbers, text and list: numbers are got as they were put, whatever stands behind; what is got was put so; no number's bytes begin another one's; lists of at most a thousand numbers likewise; no condition but that a text and a list take at most 2^47 - 4096 bytes, as the first form has it. -/
theorem packBack_holds : Rows.PackBackSaid := packBack.proved
#print axioms packBack_holds
end Go.Proofs.Ytdciebhnnggcoaa
