/- For all numbers m and n of 64 bits and all lists out and in of such numbers the law MarkSays of package mark returns true, and its arguments read as before; no condition. -/
import Derived.Test.YtmifgaknmhcajaaRows
import Derived.Test.YtmifgaknmhcajaaPost
import Derived.Test.YtmifgaknmhcajaaOpen
import Derived.Test.YtmifgaknmhcajaaOwn
import Derived.Test.YtmifgaknmhcajaaBoth
import Derived.Test.YtmifgaknmhcajaaMarkOf
import Derived.WalkKit
import Derived.ProofKit
import Derived.OpenShut
import Derived.SizedLaws
import Derived.ChangeMaps5
import Derived.JoinedCond
namespace Go.Proofs.Ytmifgaknmhcajaa.markSays
open Go.ChangeShapes Go.WideShapes Go.ChangeAt Go.RowKit
set_option linter.unusedVariables false

theorem own : ownKnob Try.prog.godebug = none := by kernel_rfl

theorem xor_zero_tn (m : Nat) (a b : List Nat) : tn m (a ++ b) = m ^^^ tn 0 (a ++ b) := tn_zero m _


set_option maxRecDepth 20000 in
set_option maxHeartbeats 4000000 in
theorem walk (a0 : Int) (a1 : Int) (s2 : Lst) (s3 : Lst) (w0 : (Lit.int .u64 a0).wf = true) (w1 : (Lit.int .u64 a1).wf = true) (w : World) (h2 : s2.ok w) (hz2 : s2.p = none → s2.c = 0) (hs2 : s2.l.length * 8 ≤ 140737488351232) (h3 : s3.ok w) (hz3 : s3.p = none → s3.c = 0) (hs3 : s3.l.length * 8 ≤ 140737488351232) :
    Calls Try.prog 3 #[.int .u64 a0, .int .u64 a1, s2.val, s3.val] w fun e w' => e = .returned (.bool true) ∧ Below w.heap.size w w' := by
  obtain ⟨m, rfl, hm⟩ := nat_of w0
  obtain ⟨n, rfl, hn⟩ := nat_of w1
  obtain ⟨p, c, l⟩ := s2
  obtain ⟨q, d, k⟩ := s3
  have HM : Hid (m < 18446744073709551616) := hm
  have HN : Hid (n < 18446744073709551616) := hn
  have H2 : Hid (Lst.ok w ⟨p, c, l⟩) := h2
  have H3 : Hid (Lst.ok w ⟨q, d, k⟩) := h3
  have Z2 : Hid (p = none → c = 0) := hz2
  have Z3 : Hid (q = none → d = 0) := hz3
  have h2l : l.length ≤ 17592186043904 := by simp at hs2; omega
  have h3l : k.length ≤ 17592186043904 := by simp at hs3; omega
  clear w0 w1 h2 h3 hz2 hz3 hs2 hs3 hm hn
  show Calls Try.prog 3 #[.int .u64 m, .int .u64 n, .slice p l.length c, .slice q k.length d] w fun e w' => e = .returned (.bool true) ∧ Below w.heap.size w w'
  by_cases c1 : 500 < l.length
  · go_enter Try.func3, Try.ntmps3
    go_wp2_with fail
    go_ret
    exact ⟨rfl, Below.refl _ _⟩
  by_cases c2 : 500 < k.length
  · go_enter Try.func3, Try.ntmps3
    go_wp2_with fail
    go_ret
    exact ⟨rfl, Below.refl _ _⟩
  obtain ⟨i0, hi, hz0, hz1, hz2⟩ := info_parts info22
  go_enter Try.func3, Try.ntmps3
  go_wp2_with fail
  refine (Clone_any ⟨p, c, l⟩ _ H2.out Z2.out (by show l.length * 8 ≤ _; omega)).mono ?_
  rintro e w1 ⟨v, rfl, hv, hw1⟩
  replace hv : mine w.heap.size w1 v l := hv
  have hvv := hv
  unfold mine at hvv
  cases q with
  | none =>
    have hk0 : k = [] := by
      rcases Nat.eq_zero_or_pos k.length with h0 | h0
      · exact List.eq_nil_of_length_eq_zero h0
      · obtain ⟨a, ha⟩ := row_some H3.out.1 h0
        cases ha
    subst hk0
    obtain rfl : d = 0 := Z3.out rfl
    go_wp2_with (at_builtin; refine wpList_append_own_none rfl _ _ 23 rfl w.heap.size 22 i0 1 Try.underlying23 hi _ _ _ rfl hvv rfl ?_)
    obtain ⟨v2, hv2⟩ : ∃ v2, v2 = v := ⟨_, rfl⟩
    obtain ⟨w2, hw2⟩ : ∃ w2, w2 = w1 := ⟨_, rfl⟩
    have hm2 : mine w.heap.size w2 v2 (l ++ []) := by rw [hv2, hw2, List.append_nil]; exact hv
    have hb2 : Below w.heap.size w w2 := by rw [hw2]; exact hw1
    rw [← hv2, ← hw2]
    clear hv2 hw2 hvv hv hw1
    obtain ⟨J, hJ⟩ : ∃ J, l ++ [] = J := ⟨_, rfl⟩
    have hJl : J.length ≤ 1000 := by rw [← hJ, List.length_append]; first | omega | (simp; omega)
    have hJs : Hid (small J) := by unfold Hid; rw [← hJ]; exact small_append H2.out.2.1 H3.out.2.1
    rw [hJ] at hm2
    have HJ : Hid (∀ x, tn x (l ++ []) = tn x J) := by intro x; rw [hJ]
    clear hJ
    have HV : Hid (mine w.heap.size w2 v2 J) := hm2
    have B2 : Hid (Below w.heap.size w w2) := hb2
    clear hm2 hb2
    go_wp2_with fail
    refine (Mix_any n _ HN.out).mono ?_
    rintro e w' ⟨rfl, hw⟩; subst w'
    go_wp2_with fail
    refine (Mixed_any n _ HN.out).mono ?_
    rintro e w' ⟨rfl, hw⟩; subst w'
    go_wp2_with fail
    refine (Turn_any m n _ HM.out HN.out).mono ?_
    rintro e w' ⟨rfl, hw⟩; subst w'
    go_wp2_with fail
    refine (Mixed_any n _ HN.out).mono ?_
    rintro e w' ⟨rfl, hw⟩; subst w'
    have hx := u64_xor_nat m (mx n) HM.out (mx_lt n)
    obtain ⟨A, hA⟩ : ∃ A, m ^^^ mx n = A := ⟨_, rfl⟩
    obtain ⟨E, hE⟩ : ∃ E, mx n = E := ⟨_, rfl⟩
    rw [hA] at hx ⊢
    rw [hE] at hx ⊢
    clear hA hE
    go_wp2_with fail
    refine (Of_any ⟨p, c, l⟩ _ (Lst.ok_below H2.out B2.out)).mono ?_
    rintro e w3 ⟨rfl, hw3⟩
    have B3 : Hid (Below w.heap.size w w3) := B2.out.trans (hw3.mono B2.out.size)
    have HV3 : Hid (mine w.heap.size w3 v2 J) := mine_below HV.out hw3
    clear hw3 HV B2
    go_wp2_with fail
    refine (MarkOf_any p c l _ (Lst.ok_below H2.out B3.out) (by omega)).mono ?_
    rintro e w' ⟨rfl, hw⟩; subst w'
    obtain ⟨O, hO⟩ : ∃ O, tn 0 l = O := ⟨_, rfl⟩
    rw [hO]
    clear hO
    go_wp2_with fail
    refine (Change_any m ⟨p, c, l⟩ ⟨none, 0, []⟩ _ HM.out (Lst.ok_below H2.out B3.out) (Lst.ok_below H3.out B3.out)).mono ?_
    rintro e w4 ⟨rfl, hw4⟩
    have B4 : Hid (Below w.heap.size w w4) := B3.out.trans (hw4.mono B3.out.size)
    have hy := u64_xor_nat m (tn 0 J) HM.out (tn_lt (by decide) _)
    rw [← tn_zero] at hy
    rw [show tn m ((Lst.mk p c l).l ++ (Lst.mk none 0 []).l) = tn m J from HJ.out m]
    obtain ⟨U, hU⟩ : ∃ U, tn m J = U := ⟨_, rfl⟩
    rw [hU] at hy ⊢
    clear hU
    obtain ⟨p2, c3, rfl, hrow⟩ := mine_form (mine_below HV3.out hw4)
    have HK : Hid (Lst.ok w4 ⟨p2, c3, J⟩) := ⟨hrow, hJs.out, by show J.length ≤ _; omega⟩
    clear hw4 HV3 B3 hrow
    go_wp2_with fail
    refine (MarkOf_any p2 c3 J _ HK.out hJl).mono ?_
    rintro e w' ⟨rfl, hw⟩; subst w'
    obtain ⟨V, hV⟩ : ∃ V, tn 0 J = V := ⟨_, rfl⟩
    rw [hV] at hy ⊢
    clear hV
    go_wp2_with fail
    go_ret
    exact ⟨rfl, B4.out⟩
  | some ka =>
    go_wp2_with (at_builtin; refine wpList_append_own _ rfl _ _ 23 rfl w.heap.size 22 i0 (.int .u64 0) 1 8 Try.underlying23 hi hz0 hz1 hz2 rfl (by decide) _ _ _ rfl hvv ka k.length d (nums k) rfl ?qc1 ?qc2 ?qc3 ?qc4 ?qc5 ?qc6 ?_)
    case qc1 => unfold nums; simp
    case qc2 => exact news_at (row_below H3.out.1 hw1)
    case qc3 => exact nums_one
    case qc4 => unfold maxLen; omega
    case qc5 => omega
    case qc6 => exact hw1.size
    intro v2 w2 hown hgrow _
    have hm2 : mine w.heap.size w2 v2 (l ++ k) := by unfold mine; rw [List.length_append, nums_append]; exact hown
    have hb2 : Below w.heap.size w w2 := mine_grown (v' := v) hv hw1 hgrow
    clear hown hgrow hvv hv hw1
    obtain ⟨J, hJ⟩ : ∃ J, l ++ k = J := ⟨_, rfl⟩
    have hJl : J.length ≤ 1000 := by rw [← hJ, List.length_append]; first | omega | (simp; omega)
    have hJs : Hid (small J) := by unfold Hid; rw [← hJ]; exact small_append H2.out.2.1 H3.out.2.1
    rw [hJ] at hm2
    have HJ : Hid (∀ x, tn x (l ++ k) = tn x J) := by intro x; rw [hJ]
    clear hJ
    have HV : Hid (mine w.heap.size w2 v2 J) := hm2
    have B2 : Hid (Below w.heap.size w w2) := hb2
    clear hm2 hb2
    go_wp2_with fail
    refine (Mix_any n _ HN.out).mono ?_
    rintro e w' ⟨rfl, hw⟩; subst w'
    go_wp2_with fail
    refine (Mixed_any n _ HN.out).mono ?_
    rintro e w' ⟨rfl, hw⟩; subst w'
    go_wp2_with fail
    refine (Turn_any m n _ HM.out HN.out).mono ?_
    rintro e w' ⟨rfl, hw⟩; subst w'
    go_wp2_with fail
    refine (Mixed_any n _ HN.out).mono ?_
    rintro e w' ⟨rfl, hw⟩; subst w'
    have hx := u64_xor_nat m (mx n) HM.out (mx_lt n)
    obtain ⟨A, hA⟩ : ∃ A, m ^^^ mx n = A := ⟨_, rfl⟩
    obtain ⟨E, hE⟩ : ∃ E, mx n = E := ⟨_, rfl⟩
    rw [hA] at hx ⊢
    rw [hE] at hx ⊢
    clear hA hE
    go_wp2_with fail
    refine (Of_any ⟨p, c, l⟩ _ (Lst.ok_below H2.out B2.out)).mono ?_
    rintro e w3 ⟨rfl, hw3⟩
    have B3 : Hid (Below w.heap.size w w3) := B2.out.trans (hw3.mono B2.out.size)
    have HV3 : Hid (mine w.heap.size w3 v2 J) := mine_below HV.out hw3
    clear hw3 HV B2
    go_wp2_with fail
    refine (MarkOf_any p c l _ (Lst.ok_below H2.out B3.out) (by omega)).mono ?_
    rintro e w' ⟨rfl, hw⟩; subst w'
    obtain ⟨O, hO⟩ : ∃ O, tn 0 l = O := ⟨_, rfl⟩
    rw [hO]
    clear hO
    go_wp2_with fail
    refine (Change_any m ⟨p, c, l⟩ ⟨some ka, d, k⟩ _ HM.out (Lst.ok_below H2.out B3.out) (Lst.ok_below H3.out B3.out)).mono ?_
    rintro e w4 ⟨rfl, hw4⟩
    have B4 : Hid (Below w.heap.size w w4) := B3.out.trans (hw4.mono B3.out.size)
    have hy := u64_xor_nat m (tn 0 J) HM.out (tn_lt (by decide) _)
    rw [← tn_zero] at hy
    rw [show tn m ((Lst.mk p c l).l ++ (Lst.mk (some ka) d k).l) = tn m J from HJ.out m]
    obtain ⟨U, hU⟩ : ∃ U, tn m J = U := ⟨_, rfl⟩
    rw [hU] at hy ⊢
    clear hU
    obtain ⟨p2, c3, rfl, hrow⟩ := mine_form (mine_below HV3.out hw4)
    have HK : Hid (Lst.ok w4 ⟨p2, c3, J⟩) := ⟨hrow, hJs.out, by show J.length ≤ _; omega⟩
    clear hw4 HV3 B3 hrow
    go_wp2_with fail
    refine (MarkOf_any p2 c3 J _ HK.out hJl).mono ?_
    rintro e w' ⟨rfl, hw⟩; subst w'
    obtain ⟨V, hV⟩ : ∃ V, tn 0 J = V := ⟨_, rfl⟩
    rw [hV] at hy ⊢
    clear hV
    go_wp2_with fail
    go_ret
    exact ⟨rfl, B4.out⟩

set_option maxRecDepth 100000 in
theorem lifted (os : Os) (started : os.Started) (H : Type) (enc : TypeId × Value → H) :
    ReturnsInHanded {} Try.checked os 3 .any (Rows.markSaysSpec.pre6 enc Try.prog Try.f3 Rows.markSaysRow.domain false) (Rows.markSaysSpec.post enc Try.prog Try.f3 false true false false) := by
  refine returnsInHanded_of_change_sized (C := Try.checked) own started (by kernel_rfl) Try.func3
    (ChangeSpec.witness6 (enc := enc) (C := Try.checked) false ⟨#[], #[.int .u64 0, .int .u64 0, .slice none 0 0, .slice none 0 0], []⟩ 8 (by kernel_rfl) (by kernel_rfl) (by kernel_rfl) (by kernel_rfl)) ?_
  intro W base args ds gs before hval0 hW hcnd hsz _
  have hval : ∀ (j : Nat) t v, Try.f3.params[j]? = some t → args[j]? = some v → Value.okWide Try.prog W .any base t v := hval0
  have hW' := hW
  obtain ⟨p, q, hA0, hV, rfl, hfz, hnd⟩ := hW
  have hA : DataW.TrodAll enc Try.prog W 0 (fun _ => true) true Try.f3.params.toList args.toList ds p := hA0
  rw [Try.params3] at hA hval
  obtain ⟨v0, vs0, d0, ds0, p0, q0, hargs, rfl, rfl, h0, r0⟩ := trodAll_cons hA
  obtain ⟨v1, vs1, d1, ds1, p1, q1, rfl, rfl, rfl, h1, r1⟩ := trodAll_cons r0
  obtain ⟨v2, vs2, d2, ds2, p2, q2, rfl, rfl, rfl, h2, r2⟩ := trodAll_cons r1
  obtain ⟨v3, vs3, d3, ds3, p3, q3, rfl, rfl, rfl, h3, r3⟩ := trodAll_cons r2
  obtain ⟨rfl, rfl, rfl⟩ := trodAll_nil r3
  obtain rfl : args = #[v0, v1, v2, v3] := by cases args; simp_all
  obtain ⟨rfl, rfl⟩ := trodVars_none hV
  obtain ⟨a0, rfl, rfl, rfl, w0⟩ := open_int Try.underlying22 (hval 0 22 v0 rfl rfl) h0
  obtain ⟨a1, rfl, rfl, rfl, w1⟩ := open_int Try.underlying22 (hval 1 22 v1 rfl rfl) h1
  obtain ⟨s2, rfl, k2, t2⟩ := open_lst Try.underlying23 Try.underlying22 (by kernel_rfl) (hval 2 23 v2 rfl rfl) h2
  obtain ⟨s3, rfl, k3, t3⟩ := open_lst Try.underlying23 Try.underlying22 (by kernel_rfl) (hval 3 23 v3 rfl rfl) h3
  have hs2 : s2.l.length * 8 ≤ 140737488351232 := told_sized hsz (j := 2) rfl rfl Try.underlying23 (by kernel_rfl) t2
  have hs3 : s3.l.length * 8 ≤ 140737488351232 := told_sized hsz (j := 3) rfl rfl Try.underlying23 (by kernel_rfl) t3
  clear hA0 hval0
  refine (walk a0 a1 s2 s3 w0 w1 W k2 (open_zero Try.underlying23 Try.underlying22 (by kernel_rfl) h2) hs2 k3 (open_zero Try.underlying23 Try.underlying22 (by kernel_rfl) h3) hs3).mono fun e W' ⟨he, hg⟩ => ?_
  subst he
  exact ⟨_, rfl, law_post (by kernel_rfl) (by kernel_rfl) rfl (by kernel_rfl) Try.underlying4 hW' rfl hg⟩

theorem over : Rows.markSaysRow.holds Try.pinned (OpenSpec.ofChange Rows.markSaysSpec) :=
  OpenClaim.holds_of_wide 3 Try.f3 rfl rfl rfl rfl rfl rfl rfl ⟨rfl, rfl, rfl, rfl, rfl⟩ rfl rfl rfl rfl rfl (by kernel_rfl) Try.func3 (by kernel_rfl)
    (of_decide_eq_true (by kernel_rfl)) (by unfold Func.isWrapper; first | (rw [if_pos (by decide +kernel)]; kernel_rfl) | (rw [if_neg (by decide +kernel)]; exact ⟨rfl, rfl⟩))
    (fun os started H enc _ => lifted os started H enc)

theorem proved : Rows.MarkSaysSaid :=
  over
end Go.Proofs.Ytmifgaknmhcajaa.markSays

namespace Go.Proofs.Ytmifgaknmhcajaa
/-- For all numbers m and n of 64 bits and all lists out and in of such numbers the law MarkSays of package mark returns true, and its arguments read as before; no condition. -/
theorem markSays_holds : Rows.MarkSaysSaid := markSays.proved
#print axioms markSays_holds
end Go.Proofs.Ytmifgaknmhcajaa
