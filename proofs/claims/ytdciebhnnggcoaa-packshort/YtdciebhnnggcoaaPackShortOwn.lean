/- Whatever number and whatever two whole numbers: a number takes as many bytes as it has digits of base 128, at most ten; of two folded ones the nearer to 0 takes no more than the other and one more; no condition. -/
import Derived.Test.YtdciebhnnggcoaaRows
import Derived.Test.YtdciebhnnggcoaaPost
import Derived.Test.YtdciebhnnggcoaaLives
import Derived.Test.YtdciebhnnggcoaaOpen
import Derived.WalkKit
import Derived.ProofKit
import Derived.OpenShut

namespace Go.Proofs.Ytdciebhnnggcoaa.packShort
open Go.ChangeShapes Go.WideShapes Go.ChangeAt Go.RowKit
set_option linter.unusedVariables false

theorem own : ownKnob Try.prog.godebug = none := by kernel_rfl

theorem run_max2 {P : Program} (w : World) (ts : Array TypeId) (t : TypeId) (k k1 : IntKind) (x y : Int) : (Builtin.max_ ts t #[.int k x, .int k1 y]).run P w = .ok (.int k (max x y)) w := by
  simp [Builtin.max_, Builtin.max2]
  by_cases h1 : y < x <;> by_cases h2 : x < y <;> simp [h2] <;> omega
theorem wrap_fd {F : Nat} (h : F < 18446744073709551615) : IntKind.u64.wrap ((F : Int) + 1) = ((F + 1 : Nat) : Int) := by rw [IntKind.wrap_u64]; omega
theorem fd_top {b : Int} (h : -4611686018427387904 ≤ b) (h2 : b ≤ 9223372036854775807) : fd b < 18446744073709551615 := by unfold fd; split <;> omega
theorem long_next {n m k : Nat} (h : k + (pk m).length = (pk n).length + 1) (hm : ¬ m < 128) : (k + 1) + (pk (m / 128)).length = (pk n).length + 1 := by
  rw [pk_great hm, List.length_cons] at h; omega
theorem long_end {n m k : Nat} (h : k + (pk m).length = (pk n).length + 1) (hm : m < 128) : k = (pk n).length := by
  rw [pk_small hm] at h; simp at h; omega
/-- What the last row of the law asks of two numbers, the nearer one first. -/
def asks (x y : Int) : Prop := ∃ (F G : Nat) (s t : ByteArray), (∀ w : World, Calls Try.prog 15 #[.int .i64 x] w fun e w' => e = .returned (.int .u64 F) ∧ w' = w) ∧ (∀ w : World, Calls Try.prog 15 #[.int .i64 y] w fun e w' => e = .returned (.int .u64 G) ∧ w' = w) ∧
  (∀ w : World, Calls Try.prog 13 #[.int .u64 F] w fun e w' => e = .returned (.string s) ∧ Below w.heap.size w w') ∧ (∀ w : World, Calls Try.prog 13 #[.int .u64 ((G : Int) + 1)] w fun e w' => e = .returned (.string t) ∧ Below w.heap.size w w') ∧ s.size ≤ t.size ∧ IntKind.u64.wrap ((G : Int) + 1) = (G : Int) + 1
theorem asks_of {x y : Int} (hx : fits x) (hy : -4611686018427387904 ≤ y) (hy2 : y ≤ 9223372036854775807) (h : max x (-x) ≤ max y (-y)) : asks x y := by
  have h1 := fd_top hy hy2
  refine ⟨fd x, fd y, ps (fd x), ps (fd y + 1), fun w => Fold_any x w hx, fun w => Fold_any y w ⟨by omega, hy2⟩, fun w => Put_any _ w (fd_lt hx), fun w => ?_, ?_, by rw [IntKind.wrap_u64]; omega⟩
  · have := Put_any (fd y + 1) w (by omega)
    rw [show (((fd y + 1 : Nat)) : Int) = (fd y : Int) + 1 by omega] at this; exact this
  · rw [ps_size, ps_size]; exact pk_mono _ _ (fd_near h)

set_option maxRecDepth 20000 in
set_option maxHeartbeats 4000000 in
theorem walk (a0 : Int) (a1 : Int) (a2 : Int) (w0 : (Lit.int .u64 a0).wf = true) (w1 : (Lit.int .i64 a1).wf = true) (w2 : (Lit.int .i64 a2).wf = true) (w : World)  :
    Calls Try.prog 5 #[.int .u64 a0, .int .i64 a1, .int .i64 a2] w fun e w' => e = .returned (.bool true) ∧ Below w.heap.size w w' := by
  obtain ⟨n, rfl, hn⟩ := nat_of w0
  obtain ⟨l1, u1⟩ := int_of w1
  obtain ⟨l2, u2⟩ := int_of w2
  have HL : Hid (∀ w : World, Calls Try.prog 20 #[] w fun e w' => e = .returned (.bool true) ∧ Below w.heap.size w w') := lives_any
  have HP : Hid (∀ w : World, Calls Try.prog 13 #[.int .u64 n] w fun e w' => e = .returned (.string (ps n)) ∧ Below w.heap.size w w') := fun w => Put_any n w hn
  have HZ : Hid ((ps n).size = (pk n).length) := ps_size n
  have HT : Hid ((pk n).length ≤ 10) := pk_ten hn
  have HN : Hid (n < 18446744073709551616) := hn
  have HA : Hid (-4611686018427387904 ≤ a1 → -4611686018427387904 ≤ a2 → max a1 (-a1) ≤ max a2 (-a2) → asks a1 a2) := fun h1 h2 h => asks_of ⟨l1, u1⟩ h2 u2 h
  have HB : Hid (-4611686018427387904 ≤ a1 → -4611686018427387904 ≤ a2 → max a2 (-a2) ≤ max a1 (-a1) → asks a2 a1) := fun h1 h2 h => asks_of ⟨l2, u2⟩ h1 u1 h
  clear w0 w1 w2 hn
  go_enter Try.func5, Try.ntmps5
  go_wp2_with fail
  go_loop [7, 8] (fun o x => ∃ (k m : Nat), o = .int .i64 k ∧ x = .int .u64 m ∧ m < 18446744073709551616 ∧ k + (pk m).length = (pk n).length + 1) (fun _ x => (intOf x).toNat)
  case atStart => exact ⟨1, n, rfl, rfl, HN.out, by omega⟩
  case round =>
    obtain ⟨k, m, rfl, rfl, hm, hk⟩ := hrel
    have hp := pk_pos m
    have hk10 : k ≤ 10 := by have := HT.out; omega
    clear hp
    by_cases hlt : m < 128
    · have HK : Hid (k = (pk n).length) := long_end hk hlt
      clear hk hm
      obtain ⟨s, hs⟩ : ∃ s, ps n = s := ⟨_, rfl⟩
      rw [hs] at HP HZ
      have hsz : s.size = k := by rw [HZ.out, HK.out]
      clear hs
      by_cases c1 : a1 < -4611686018427387904
      · go_wp2_with fail
        refine (HL.out _).mono ?_
        rintro e w3 ⟨rfl, hb3⟩
        go_wp2_with fail
        go_ret
        exact ⟨rfl, hb3⟩
      · by_cases c2 : a2 < -4611686018427387904
        · go_wp2_with fail
          refine (HL.out _).mono ?_
          rintro e w3 ⟨rfl, hb3⟩
          go_wp2_with fail
          go_ret
          exact ⟨rfl, hb3⟩
        · have b1 : -4611686018427387904 ≤ a1 := by omega
          have b2 : -4611686018427387904 ≤ a2 := by omega
          have HA := HA.out b1 b2
          have HB := HB.out b1 b2
          have HA : Hid (max a1 (-a1) ≤ max a2 (-a2) → asks a1 a2) := HA
          have HB : Hid (max a2 (-a2) ≤ max a1 (-a1) → asks a2 a1) := HB
          have m1 : ∀ w ts t, (Builtin.max_ ts t #[.int .i64 a1, .int .i64 (-a1)]).run Try.prog w = .ok (.int .i64 (max a1 (-a1))) w := fun w ts t => run_max2 w ts t _ _ _ _
          have m2 : ∀ w ts t, (Builtin.max_ ts t #[.int .i64 a2, .int .i64 (-a2)]).run Try.prog w = .ok (.int .i64 (max a2 (-a2))) w := fun w ts t => run_max2 w ts t _ _ _ _
          obtain ⟨X, hX⟩ : ∃ X, max a1 (-a1) = X := ⟨_, rfl⟩
          obtain ⟨Y, hY⟩ : ∃ Y, max a2 (-a2) = Y := ⟨_, rfl⟩
          rw [hX] at HA HB m1
          rw [hY] at HA HB m2
          clear hX hY
          by_cases hc : Y < X
          · obtain ⟨F, G, s1, s2, q1, q2, q3, q4, q5, q6⟩ := HB.out (by omega)
            have Q1 : Hid (∀ w : World, Calls Try.prog 15 #[.int .i64 a2] w fun e w' => e = .returned (.int .u64 F) ∧ w' = w) := q1
            have Q2 : Hid (∀ w : World, Calls Try.prog 15 #[.int .i64 a1] w fun e w' => e = .returned (.int .u64 G) ∧ w' = w) := q2
            have Q3 : Hid (∀ w : World, Calls Try.prog 13 #[.int .u64 F] w fun e w' => e = .returned (.string s1) ∧ Below w.heap.size w w') := q3
            have Q4 : Hid (∀ w : World, Calls Try.prog 13 #[.int .u64 ((G : Int) + 1)] w fun e w' => e = .returned (.string s2) ∧ Below w.heap.size w w') := q4
            clear q1 q2 q3 q4
            go_wp2_with fail
            refine (HL.out _).mono ?_
            rintro e w3 ⟨rfl, hb3⟩
            go_wp2_with fail
            refine (HP.out _).mono ?_
            rintro e w4 ⟨rfl, hb4⟩
            have HBe : Hid (Below w.heap.size w w4) := below_step hb3 hb3.size hb4
            clear hb3 hb4
            go_wp2_with fail
            refine (Q1.out _).mono ?_
            rintro e w' ⟨rfl, hw⟩; subst w'
            go_wp2_with fail
            refine (Q3.out _).mono ?_
            rintro e w5 ⟨rfl, hb5⟩
            go_wp2_with fail
            refine (Q2.out _).mono ?_
            rintro e w' ⟨rfl, hw⟩; subst w'
            go_wp2_with fail
            refine (Q4.out _).mono ?_
            rintro e w6 ⟨rfl, hb6⟩
            go_wp2_with fail
            go_ret
            exact ⟨rfl, below_step (below_step HBe.out HBe.out.size hb5) (Nat.le_trans HBe.out.size hb5.size) hb6⟩
          · have hc' : X ≤ Y := by omega
            obtain ⟨F, G, s1, s2, q1, q2, q3, q4, q5, q6⟩ := HA.out hc'
            have Q1 : Hid (∀ w : World, Calls Try.prog 15 #[.int .i64 a1] w fun e w' => e = .returned (.int .u64 F) ∧ w' = w) := q1
            have Q2 : Hid (∀ w : World, Calls Try.prog 15 #[.int .i64 a2] w fun e w' => e = .returned (.int .u64 G) ∧ w' = w) := q2
            have Q3 : Hid (∀ w : World, Calls Try.prog 13 #[.int .u64 F] w fun e w' => e = .returned (.string s1) ∧ Below w.heap.size w w') := q3
            have Q4 : Hid (∀ w : World, Calls Try.prog 13 #[.int .u64 ((G : Int) + 1)] w fun e w' => e = .returned (.string s2) ∧ Below w.heap.size w w') := q4
            clear q1 q2 q3 q4
            go_wp2_with fail
            refine (HL.out _).mono ?_
            rintro e w3 ⟨rfl, hb3⟩
            go_wp2_with fail
            refine (HP.out _).mono ?_
            rintro e w4 ⟨rfl, hb4⟩
            have HBe : Hid (Below w.heap.size w w4) := below_step hb3 hb3.size hb4
            clear hb3 hb4
            go_wp2_with fail
            refine (Q1.out _).mono ?_
            rintro e w' ⟨rfl, hw⟩; subst w'
            go_wp2_with fail
            refine (Q3.out _).mono ?_
            rintro e w5 ⟨rfl, hb5⟩
            go_wp2_with fail
            refine (Q2.out _).mono ?_
            rintro e w' ⟨rfl, hw⟩; subst w'
            go_wp2_with fail
            refine (Q4.out _).mono ?_
            rintro e w6 ⟨rfl, hb6⟩
            go_wp2_with fail
            go_ret
            exact ⟨rfl, below_step (below_step HBe.out HBe.out.size hb5) (Nat.le_trans HBe.out.size hb5.size) hb6⟩
    · have HW : Hid (IntKind.u64.wrap ((m : Int) / 128) = ((m / 128 : Nat) : Int)) := by unfold Hid; rw [IntKind.wrap_u64]; omega
      have HK : Hid ((k + 1) + (pk (m / 128)).length = (pk n).length + 1) := long_next hk hlt
      have HM : Hid (m < 18446744073709551616) := hm
      clear hk hm
      go_wp2_with fail
      go_round
      case rel => exact ⟨k + 1, m / 128, by go_num, val_int HW.out, by have := HM.out; omega, HK.out⟩
      case measure => simp only [intOf, HW.out]; simp; omega

set_option maxRecDepth 100000 in
theorem lifted (os : Os) (started : os.Started) (H : Type) (enc : TypeId × Value → H) :
    ReturnsInHanded {} Try.checked os 5 .any (Rows.packShortSpec.pre6 enc Try.prog Try.f5 Rows.packShortRow.domain false) (Rows.packShortSpec.post enc Try.prog Try.f5 false true false false) := by
  refine returnsInHanded_of_change (C := Try.checked) own started (by kernel_rfl) Try.func5
    (ChangeSpec.witness6 (enc := enc) (C := Try.checked) false ⟨#[], #[.int .u64 0, .int .i64 0, .int .i64 0], []⟩ 8 (by kernel_rfl) (by kernel_rfl) (by kernel_rfl) (by kernel_rfl)) ?_
  intro W base args ds gs before hval0 hW hcnd _
  have hval : ∀ (j : Nat) t v, Try.f5.params[j]? = some t → args[j]? = some v → Value.okWide Try.prog W .any base t v := hval0
  have hW' := hW
  obtain ⟨p, q, hA0, hV, rfl, hfz, hnd⟩ := hW
  have hA : DataW.TrodAll enc Try.prog W 0 (fun _ => true) true Try.f5.params.toList args.toList ds p := hA0
  rw [Try.params5] at hA hval
  obtain ⟨v0, vs0, d0, ds0, p0, q0, hargs, rfl, rfl, h0, r0⟩ := trodAll_cons hA
  obtain ⟨v1, vs1, d1, ds1, p1, q1, rfl, rfl, rfl, h1, r1⟩ := trodAll_cons r0
  obtain ⟨v2, vs2, d2, ds2, p2, q2, rfl, rfl, rfl, h2, r2⟩ := trodAll_cons r1
  obtain ⟨rfl, rfl, rfl⟩ := trodAll_nil r2
  obtain rfl : args = #[v0, v1, v2] := by cases args; simp_all
  obtain ⟨rfl, rfl⟩ := trodVars_none hV
  obtain ⟨a0, rfl, rfl, rfl, w0⟩ := open_int Try.underlying22 (hval 0 22 v0 rfl rfl) h0
  obtain ⟨a1, rfl, rfl, rfl, w1⟩ := open_int Try.underlying3 (hval 1 3 v1 rfl rfl) h1
  obtain ⟨a2, rfl, rfl, rfl, w2⟩ := open_int Try.underlying3 (hval 2 3 v2 rfl rfl) h2

  clear hA0 hval0
  refine (walk a0 a1 a2 w0 w1 w2 W ).mono fun e W' ⟨he, hg⟩ => ?_
  subst he
  exact ⟨_, rfl, law_post (by kernel_rfl) (by kernel_rfl) rfl (by kernel_rfl) Try.underlying4 hW' rfl hg⟩

theorem over : Rows.packShortRow.holds Try.pinned (OpenSpec.ofChange Rows.packShortSpec) :=
  OpenClaim.holds_of_wide 5 Try.f5 rfl rfl rfl rfl rfl rfl rfl ⟨rfl, rfl, rfl, rfl, rfl⟩ rfl rfl rfl rfl rfl (by kernel_rfl) Try.func5 (by kernel_rfl)
    (of_decide_eq_true (by kernel_rfl)) (by unfold Func.isWrapper; first | (rw [if_pos (by decide +kernel)]; kernel_rfl) | (rw [if_neg (by decide +kernel)]; exact ⟨rfl, rfl⟩))
    (fun os started H enc _ => lifted os started H enc)

theorem proved : Rows.PackShortSaid :=
  over
end Go.Proofs.Ytdciebhnnggcoaa.packShort

namespace Go.Proofs.Ytdciebhnnggcoaa
/-- Whatever number and whatever two whole numbers: a number takes as many bytes as it has digits of base 128, at most ten; of two folded ones the nearer to 0 takes no more than the other and one more; no condition. -/
theorem packShort_holds : Rows.PackShortSaid := packShort.proved
#print axioms packShort_holds
end Go.Proofs.Ytdciebhnnggcoaa
