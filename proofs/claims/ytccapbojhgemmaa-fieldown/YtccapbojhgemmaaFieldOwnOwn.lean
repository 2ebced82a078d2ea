/- For every field: Turn leaves the field that is handed in as it was, and what it tells shares nothing with it: each place of that told field may be changed, and the one handed in stays. -/
import Derived.Test.YtccapbojhgemmaaRows
import Derived.Test.YtccapbojhgemmaaPost
import Derived.Test.YtccapbojhgemmaaOpen
import Derived.Test.YtccapbojhgemmaaUse
import Derived.Test.YtccapbojhgemmaaLives
import Derived.Test.YtccapbojhgemmaaCl
import Derived.Test.YtccapbojhgemmaaTn
import Derived.Test.YtccapbojhgemmaaNo
import Derived.WalkKit
import Derived.ProofKit
import Derived.OpenShut
import Derived.SizedLaws
import Derived.ChangeMaps5
import Derived.JoinedCond
namespace Go.Proofs.Ytccapbojhgemmaa.fieldOwn
open Go.ChangeShapes Go.WideShapes Go.ChangeAt Go.RowKit
set_option linter.unusedVariables false

theorem own : ownKnob Try.prog.godebug = none := by kernel_rfl


set_option maxRecDepth 20000 in
set_option maxHeartbeats 4000000 in
theorem walk (s0 : Fld)  (w : World) (h0 : s0.fit w) (hs0 : s0.l.length * 8 ≤ 140737488351232) :
    Calls Try.prog 5 #[s0.val] w fun e w' => e = .returned (.bool true) ∧ Below w.heap.size w w' := by
  obtain ⟨A, B, p, c, l⟩ := s0
  unfold Fld.val
  dsimp only
  obtain ⟨_, _, hrow, hfl, hmax, hpn, hcap⟩ := h0
  dsimp only at hrow hfl hmax hpn hcap hs0
  have HR : Hid (row vi w p l) := hrow
  obtain ⟨n, hn⟩ : ∃ n, l.length = n := ⟨_, rfl⟩
  have HN : Hid (l.length = n) := hn
  rw [hn] at hmax hcap hs0 ⊢
  have HC : Hid (n ≤ c) := hcap
  have HS : Hid (n * 8 ≤ 140737488355328) := by unfold Hid; omega
  have HPN : Hid (p = none → c = 0) := hpn
  clear hs0 hrow hfl hpn hn hcap
  go_enter Try.func5, Try.ntmps5
  go_wp2_with fail
  obtain ⟨w0, hw0⟩ : ∃ w0, w.alloc (.cells #[.int .i64 A, .int .i64 B, .slice p n c] 24) = w0 := ⟨_, rfl⟩
  obtain ⟨F0, hF0⟩ : ∃ F0, w.heap.size = F0 := ⟨_, rfl⟩
  have HW0 : Hid (w.alloc (.cells #[.int .i64 A, .int .i64 B, .slice p n c] 24) = w0) := hw0
  have hb0 : Below w.heap.size w w0 := by rw [← hw0]; exact alloc_below w _
  rw [hw0]
  refine (Clone_any p n c l w0 (row_below HR.out hb0) HN.out HPN.out HS.out).mono ?_
  rintro e w1 ⟨v1, rfl, hm1, hb1⟩
  obtain ⟨p1, c1, rfl, hr1, _, _⟩ := mine_full hm1
  rw [show l.length = n from HN.out]
  have HR1 : Hid (row vi w1 p1 l) := hr1
  have HB1 : Hid (Below w0.heap.size w0 w1) := hb1
  have HB0 : Hid (Below w.heap.size w w1) := below_step hb0 (by have := hb0.size; omega) hb1
  obtain ⟨g0, g1, g2, g3⟩ := box_at hF0 (w1 := w1) (by rw [HW0.out]; exact hb1)
  clear hw0 hb0 hm1 hr1 hb1
  go_wp2_with fail
  by_cases hck : ck A B l = 0
  · obtain ⟨W, H, e1, e2, hW, hH, hl, hg⟩ := ck_yes hck
    subst e1 e2
    have hnl : n = W * H := by rw [← HN.out, hl]
    subst hnl
    obtain ⟨a, ha⟩ := row_some HR.out (by rw [hl]; exact one_le hW hH)
    subst ha
    have hN16 := wh_le hW hH
    refine (Turn_ok W H a c l w1 (row_below HR.out HB0.out) hW hH hl hg HC.out).mono ?_
    rintro e w2 ⟨P, rfl, hm2, hb2⟩
    have HO2 : Hid (ow (W * H) w1.heap.size P w2 (tn W H l)) := by
      have := hm2; unfold mine at this; rw [tn_len] at this; exact this
    have HP : Hid (w1.heap.size ≤ P ∧ P < w2.heap.size) := World.ownsRow.lt hm2 P rfl
    have HB2 : Hid (Below w1.heap.size w1 w2) := hb2
    have HTL : Hid ((tn W H l).length = W * H) := tn_len W H l
    clear hck hW hH hl hg hm2 hb2 g0 g1 g2 g3
    obtain ⟨N, hN⟩ : ∃ N, W * H = N := ⟨_, rfl⟩
    rw [hN] at HC HN HO2 HTL hmax hN16 ⊢
    obtain ⟨F3, hF3⟩ : ∃ F3, w2.heap.size = F3 := ⟨_, rfl⟩
    obtain ⟨g0, g1, g2, g3⟩ := box_at hF0 (w1 := w2) (by rw [HW0.out]; exact HB1.out.trans (HB2.out.mono HB1.out.size))
    have g4 : F0 < F3 := by omega
    go_wp2_with fail
    have hb3 : Below w2.heap.size w2 (w2.alloc (.cells #[.int .i64 (H : Int), .int .i64 (W : Int), .slice (some ⟨P, 0, none⟩) N N] 24)) := alloc_below _ _
    have HB03 : Hid (Below w.heap.size w (w2.alloc (.cells #[.int .i64 (H : Int), .int .i64 (W : Int), .slice (some ⟨P, 0, none⟩) N N] 24))) := (HB0.out.trans (HB2.out.mono HB0.out.size)).trans (hb3.mono (HB0.out.trans (HB2.out.mono HB0.out.size)).size)
    refine (Equal_b (some a) p1 N c c1 l _ HN.out hmax (row_below HR.out HB03.out) (row_below HR1.out (HB2.out.trans (hb3.mono HB2.out.size)))).mono ?_
    rintro e w4 ⟨rfl, hb4⟩
    obtain ⟨b0, b1, b2, b3⟩ := box_at hF3 hb4
    have HB24 : Hid (Below w2.heap.size w2 w4) := below_step hb3 (by simp) hb4
    have HB14 : Hid (Below w1.heap.size w1 w4) := HB2.out.trans (HB24.out.mono HB2.out.size)
    clear hb3 hb4 HB03 g0 g1 g2 g3 g4
    go_wp2_with fail
    have HO4 : Hid (ow N w1.heap.size P w4 (tn W H l)) := World.ownsRow.kept HO2.out (row := none) ⟨HB24.out.os, HB24.out.tape, HB24.out.output, HB24.out.size, fun k hk _ => HB24.out.block k hk⟩ (by simp [Value.ownBlock])
    go_loopw [29] (fun i wr => ∃ k : Nat, i = .int .i64 (k : Int) ∧ k ≤ N ∧ ∃ L', Hid (ow N w1.heap.size P wr L' ∧ L'.length = N ∧ But w4.heap.size P w4 wr)) (fun i _ => N - (intOf i).toNat)
    case atStart => exact ⟨0, rfl, by omega, _, HO4.out, HTL.out, But.refl _ _ _⟩
    case round =>
      obtain ⟨k, rfl, hk, L', HI⟩ := hrel
      by_cases hlt : k < N
      · obtain ⟨X, hX⟩ := ow_cell HI.out.1 HI.out.2.1 hlt
        have hfr : wr.frozen? ⟨P, k, none⟩ = false := World.ownsRow.frozenAt HI.out.1 k
        have l1 : (k : Int) < N := by omega
        have l2 : (0 : Int) ≤ k := by omega
        go_wp2_with fail
        go_roundw
        case rel => exact ⟨k + 1, by go_num, by omega, L'.set k _, ow_set HI.out.1 k _, by rw [List.length_set]; exact HI.out.2.1, HI.out.2.2.trans (But.set _ _ _ _ _)⟩
        case measure => simp [intOf]; omega
      · have HB1r : Hid (Below w1.heap.size w1 wr) := HB14.out.trans (HI.out.2.2.below HB14.out.size HP.out.1)
        clear b0 b1 b2 b3
        go_wp2_with fail
        refine (lives_any _).mono ?_
        rintro e w5 ⟨rfl, hb5⟩
        have HB15 : Hid (Below w1.heap.size w1 w5) := HB1r.out.trans (hb5.mono HB1r.out.size)
        obtain ⟨g0, g1, g2, g3⟩ := box_at hF0 (w1 := w5) (by rw [HW0.out]; exact HB1.out.trans (HB15.out.mono HB1.out.size))
        clear hb5
        go_wp2_with fail
        refine (Equal_b (some a) p1 N c c1 l w5 HN.out hmax (row_below HR.out (HB0.out.trans (HB15.out.mono HB0.out.size))) (row_below HR1.out HB15.out)).mono ?_
        rintro e w6 ⟨rfl, hb6⟩
        have HB6 : Hid (Below w.heap.size w w6) := (HB0.out.trans (HB15.out.mono HB0.out.size)).trans (hb6.mono (HB0.out.trans (HB15.out.mono HB0.out.size)).size)
        clear hb6
        go_wp2_with fail
        go_ret
        exact ⟨rfl, HB6.out⟩
  · obtain ⟨E, hE⟩ : ∃ E, ck A B l = E := ⟨_, rfl⟩
    have hE0 : ¬ E = 0 := by rw [← hE]; exact hck
    have HE : Hid (ck A B l = E) := hE
    clear hck hE
    refine (Turn_no A B p n c l E w1 (row_below HR.out HB0.out) HN.out hmax HE hE0).mono ?_
    rintro e w2 ⟨rfl, hb2⟩
    have HB2 : Hid (Below w1.heap.size w1 w2) := hb2
    clear hb2 g0 g1 g2 g3
    obtain ⟨F3, hF3⟩ : ∃ F3, w2.heap.size = F3 := ⟨_, rfl⟩
    obtain ⟨g0, g1, g2, g3⟩ := box_at hF0 (w1 := w2) (by rw [HW0.out]; exact HB1.out.trans (HB2.out.mono HB1.out.size))
    have g4 : F0 < F3 := by omega
    go_wp2_with fail
    have hb3 : Below w2.heap.size w2 (w2.alloc (.cells #[.int .i64 0, .int .i64 0, .slice none 0 0] 24)) := alloc_below _ _
    have HB03 : Hid (Below w.heap.size w (w2.alloc (.cells #[.int .i64 0, .int .i64 0, .slice none 0 0] 24))) := (HB0.out.trans (HB2.out.mono HB0.out.size)).trans (hb3.mono (HB0.out.trans (HB2.out.mono HB0.out.size)).size)
    refine (Equal_b p p1 n c c1 l _ HN.out hmax (row_below HR.out HB03.out) (row_below HR1.out (HB2.out.trans (hb3.mono HB2.out.size)))).mono ?_
    rintro e w4 ⟨rfl, hb4⟩
    obtain ⟨b0, b1, b2, b3⟩ := box_at hF3 hb4
    have HB24 : Hid (Below w2.heap.size w2 w4) := below_step hb3 (by simp) hb4
    have HB14 : Hid (Below w1.heap.size w1 w4) := HB2.out.trans (HB24.out.mono HB2.out.size)
    clear hb3 hb4 HB03 g0 g1 g2 g3 g4
    go_wp2_with fail
    go_loopw [29] (fun i wr => i = .int .i64 0 ∧ wr = w4) (fun i _ => 0)
    case atStart => exact ⟨rfl, rfl⟩
    case round =>
      obtain ⟨rfl, hwr⟩ := hrel
      have HB1r : Hid (Below w1.heap.size w1 wr) := by rw [hwr]; exact HB14.out
      clear hwr b0 b1 b2 b3
      go_wp2_with fail
      refine (lives_any _).mono ?_
      rintro e w5 ⟨rfl, hb5⟩
      have HB15 : Hid (Below w1.heap.size w1 w5) := HB1r.out.trans (hb5.mono HB1r.out.size)
      obtain ⟨g0, g1, g2, g3⟩ := box_at hF0 (w1 := w5) (by rw [HW0.out]; exact HB1.out.trans (HB15.out.mono HB1.out.size))
      clear hb5
      go_wp2_with fail
      refine (Equal_b p p1 n c c1 l w5 HN.out hmax (row_below HR.out (HB0.out.trans (HB15.out.mono HB0.out.size))) (row_below HR1.out HB15.out)).mono ?_
      rintro e w6 ⟨rfl, hb6⟩
      have HB6 : Hid (Below w.heap.size w w6) := (HB0.out.trans (HB15.out.mono HB0.out.size)).trans (hb6.mono (HB0.out.trans (HB15.out.mono HB0.out.size)).size)
      clear hb6
      go_wp2_with fail
      go_ret
      exact ⟨rfl, HB6.out⟩

set_option maxRecDepth 100000 in
theorem lifted (os : Os) (started : os.Started) (H : Type) (enc : TypeId × Value → H) :
    ReturnsInHanded {} Try.checked os 5 .any (Rows.fieldOwnSpec.pre6 enc Try.prog Try.f5 Rows.fieldOwnRow.domain false) (Rows.fieldOwnSpec.post enc Try.prog Try.f5 false true false false) := by
  refine returnsInHanded_of_change_sized (C := Try.checked) own started (by kernel_rfl) Try.func5
    (ChangeSpec.witness6 (enc := enc) (C := Try.checked) false ⟨#[], #[.agg #[.int .i64 0, .int .i64 0, .slice none 0 0]], []⟩ 8 (by kernel_rfl) (by kernel_rfl) (by kernel_rfl) (by kernel_rfl)) ?_
  intro W base args ds gs before hval0 hW hcnd hsz _
  have hval : ∀ (j : Nat) t v, Try.f5.params[j]? = some t → args[j]? = some v → Value.okWide Try.prog W .any base t v := hval0
  have hW' := hW
  obtain ⟨p, q, hA0, hV, rfl, hfz, hnd⟩ := hW
  have hA : DataW.TrodAll enc Try.prog W 0 (fun _ => true) true Try.f5.params.toList args.toList ds p := hA0
  rw [Try.params5] at hA hval
  obtain ⟨v0, vs0, d0, ds0, p0, q0, hargs, rfl, rfl, h0, r0⟩ := trodAll_cons hA
  obtain ⟨rfl, rfl, rfl⟩ := trodAll_nil r0
  obtain rfl : args = #[v0] := by cases args; simp_all
  obtain ⟨rfl, rfl⟩ := trodVars_none hV
  obtain ⟨s0, rfl, k0, d20, rfl, t0⟩ := open_fld Try.underlying24 Try.underlying3 Try.underlying22 rfl rfl rfl rfl rfl rfl (by kernel_rfl) (by kernel_rfl) (by kernel_rfl) (hval 0 24 v0 rfl rfl) h0
  have hs0 : s0.l.length * 8 ≤ 140737488351232 := fld_sized hsz (j := 0) rfl rfl Try.underlying24 rfl Try.underlying22 (by kernel_rfl) t0
  clear hA0 hval0
  refine (walk s0  W k0 hs0).mono fun e W' ⟨he, hg⟩ => ?_
  subst he
  exact ⟨_, rfl, law_post (by kernel_rfl) (by kernel_rfl) rfl (by kernel_rfl) Try.underlying4 hW' rfl hg⟩

theorem over : Rows.fieldOwnRow.holds Try.pinned (OpenSpec.ofChange Rows.fieldOwnSpec) :=
  OpenClaim.holds_of_wide 5 Try.f5 rfl rfl rfl rfl rfl rfl rfl ⟨rfl, rfl, rfl, rfl, rfl⟩ rfl rfl rfl rfl rfl (by kernel_rfl) Try.func5 (by kernel_rfl)
    (of_decide_eq_true (by kernel_rfl)) (by unfold Func.isWrapper; first | (rw [if_pos (by decide +kernel)]; kernel_rfl) | (rw [if_neg (by decide +kernel)]; exact ⟨rfl, rfl⟩))
    (fun os started H enc _ => lifted os started H enc)

theorem proved : Rows.FieldOwnSaid :=
  over
end Go.Proofs.Ytccapbojhgemmaa.fieldOwn

namespace Go.Proofs.Ytccapbojhgemmaa
/-- For every field: Turn leaves the field that is handed in as it was, and what it tells shares nothing with it: each place of that told field may be changed, and the one handed in stays. -/
theorem fieldOwn_holds : Rows.FieldOwnSaid := fieldOwn.proved
#print axioms fieldOwn_holds
end Go.Proofs.Ytccapbojhgemmaa
