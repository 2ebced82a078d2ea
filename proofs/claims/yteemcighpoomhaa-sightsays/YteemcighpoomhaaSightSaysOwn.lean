/- Whatever field, two cells and reach are handed in, sight.Sees and sight.Seen tell what the document's own answer tells, and the same errors; in the model of Go at this commit, for every argument. -/
import Derived.Test.YteemcighpoomhaaRows
import Derived.Test.YteemcighpoomhaaPost
import Derived.Test.YteemcighpoomhaaSy
import Derived.Test.YteemcighpoomhaaOpen
import Derived.WalkKit
import Derived.ProofKit
import Derived.OpenShut
import Derived.SizedLaws
import Derived.ChangeMaps5
import Derived.JoinedCond
namespace Go.Proofs.Yteemcighpoomhaa.sightSays
open Go.ChangeShapes Go.WideShapes Go.ChangeAt Go.RowKit
set_option linter.unusedVariables false

theorem own : ownKnob Try.prog.godebug = none := by kernel_rfl


set_option maxRecDepth 20000 in
set_option maxHeartbeats 4000000 in
theorem walk (s0 : Fld) (x1 y1 : Int) (x2 y2 : Int) (a3 : Int) (w1x : (Lit.int .i64 x1).wf = true) (w1y : (Lit.int .i64 y1).wf = true) (w2x : (Lit.int .i64 x2).wf = true) (w2y : (Lit.int .i64 y2).wf = true) (w3 : (Lit.int .i64 a3).wf = true) (w : World) (h0 : s0.fit w) (hs0 : s0.l.length * 8 ≤ 140737488351232) :
    Calls Try.prog 3 #[s0.val, .agg #[.int .i64 x1, .int .i64 y1], .agg #[.int .i64 x2, .int .i64 y2], .int .i64 a3] w fun e w' => e = .returned (.bool true) ∧ Below w.heap.size w w' := by
  clear w1x w1y w2x w2y w3
  obtain ⟨A, B, p, c, l⟩ := s0
  obtain ⟨hA, hB, hrow, hfit, hlen, hpc, hlc⟩ := h0
  unfold Fld.val
  simp only at hA hB hrow hfit hlen hpc hlc hs0 ⊢
  obtain ⟨n, hn⟩ : ∃ n, l.length = n := ⟨_, rfl⟩
  rw [hn] at hlen hlc ⊢
  have HN : Hid (l.length = n) := hn
  obtain ⟨F, hF⟩ : ∃ F, w.heap.size = F := ⟨_, rfl⟩
  obtain ⟨w0, hw0⟩ : ∃ w0, ((w.alloc (.cells #[.int .i64 A, .int .i64 B, .slice p n c] 24)).alloc (.cells #[.int .i64 x1, .int .i64 y1] 26)).alloc (.cells #[.int .i64 x2, .int .i64 y2] 26) = w0 := ⟨_, rfl⟩
  have HBX : Hid (∀ V, Below w0.heap.size w0 V → V.cell? ⟨F, 0, none⟩ = some (.int .i64 A) ∧ V.cell? ⟨F, 1, none⟩ = some (.int .i64 B) ∧ V.cell? ⟨F, 2, none⟩ = some (.slice p n c) ∧ V.cell? ⟨F + 1, 0, none⟩ = some (.int .i64 x1) ∧ V.cell? ⟨F + 1, 1, none⟩ = some (.int .i64 y1) ∧ V.cell? ⟨F + 2, 0, none⟩ = some (.int .i64 x2) ∧ V.cell? ⟨F + 2, 1, none⟩ = some (.int .i64 y2)) := fun V hV => boxf hF hw0 hV
  have HB0 : Hid (Below w.heap.size w w0) := by rw [← hw0]; exact ((alloc_below w _).alloc (by simp) _).alloc (by simp; omega) _
  have HR : Hid (row vi w0 p l) := row_below hrow HB0.out
  obtain ⟨z0, z1, z2, z3, z4, z5, z6⟩ := HBX.out w0 (Below.refl _ _)
  have HG : Hid (∀ V, Below w0.heap.size w0 V → Below w.heap.size w V) := fun V hV => HB0.out.trans (hV.mono HB0.out.size)
  obtain ⟨E, hE⟩ : ∃ E, nse A B l x1 y1 a3 = E := ⟨_, rfl⟩
  obtain ⟨L, hL⟩ : ∃ L, sl A B l x1 y1 a3 = L := ⟨_, rfl⟩
  obtain ⟨m, hm⟩ : ∃ m, L.length = m := ⟨_, rfl⟩
  have hm16 : m ≤ 1600 := by rw [← hm, ← hL]; exact sl_bd _ _ _ _ _ _
  have HE : Hid (nse A B l x1 y1 a3 = E) := hE
  have HL : Hid (sl A B l x1 y1 a3 = L) := hL
  have HM : Hid (L.length = m) := hm
  obtain ⟨D, hD⟩ : ∃ D, ser A B l x1 y1 x2 y2 = D := ⟨_, rfl⟩
  obtain ⟨b, hb⟩ : ∃ b, (decide (D = 0) && se A.toNat l x1 y1 x2 y2) = b := ⟨_, rfl⟩
  have HD : Hid (ser A B l x1 y1 x2 y2 = D) := hD
  have HS : Hid ((decide (D = 0) && se A.toNat l x1 y1 x2 y2) = b) := hb
  clear hrow hn hfit hs0 hA hB hE hL hm hD hb hpc hlc
  go_enter Try.func3, Try.ntmps3
  go_wp2_with fail
  refine (Seen_u A B p n c l x1 y1 a3 E L m w0 HR.out HN.out hlen HE HL HM).mono ?_
  rintro e V1 ⟨⟨q1, d1, rfl, hc1⟩, hb1⟩
  have HB1 : Hid (Below w0.heap.size w0 V1) := hb1
  have HC1 : Hid (crow V1 q1 L) := hc1
  clear hb1 hc1 z0 z1 z2 z3 z4 z5 z6 hw0
  obtain ⟨z0, z1, z2, z3, z4, z5, z6⟩ := HBX.out V1 HB1.out
  go_wp2_with fail
  refine (LookedAt_u A B p n c l x1 y1 a3 E L m V1 (row_below HR.out HB1.out) HN.out hlen HE HL HM).mono ?_
  rintro e V2 ⟨⟨q2, d2, rfl, hc2⟩, hb2⟩
  have HB2 : Hid (Below w0.heap.size w0 V2) := HB1.out.trans (hb2.mono HB1.out.size)
  have HC2 : Hid (crow V2 q1 L ∧ crow V2 q2 L) := ⟨crow_below HC1.out hb2, hc2⟩
  clear hb2 hc2 z0 z1 z2 z3 z4 z5 z6
  obtain ⟨z0, z1, z2, z3, z4, z5, z6⟩ := HBX.out V2 HB2.out
  go_wp2_with fail
  refine (Sees_at A B p n c l x1 y1 x2 y2 D b V2 (row_below HR.out HB2.out) HN.out hlen HD HS).mono ?_
  rintro e V3 ⟨rfl, hb3⟩
  have HB3 : Hid (Below w0.heap.size w0 V3) := HB2.out.trans (hb3.mono HB2.out.size)
  have HC3 : Hid (crow V3 q1 L ∧ crow V3 q2 L) := ⟨crow_below HC2.out.1 hb3, crow_below HC2.out.2 hb3⟩
  clear hb3 z0 z1 z2 z3 z4 z5 z6
  obtain ⟨z0, z1, z2, z3, z4, z5, z6⟩ := HBX.out V3 HB3.out
  obtain ⟨C, hC⟩ : ∃ C, ck A B l = C := ⟨_, rfl⟩
  have HK : Hid (ck A B l = C) := hC
  clear hC
  go_wp2_with fail
  refine (Right_any A B p n c l C V3 (row_below HR.out HB3.out) HN.out hlen HK).mono ?_
  rintro e V4 ⟨rfl, hb4⟩
  have HB4 : Hid (Below w0.heap.size w0 V4) := HB3.out.trans (hb4.mono HB3.out.size)
  have HC4 : Hid (crow V4 q1 L ∧ crow V4 q2 L) := ⟨crow_below HC3.out.1 hb4, crow_below HC3.out.2 hb4⟩
  clear hb4 z0 z1 z2 z3 z4 z5 z6
  by_cases h0 : C = 0
  rotate_left
  · have d0 : (C == 0) = false := by simp [h0]
    obtain rfl : D = C := by rw [← HD.out, ← HK.out]; unfold ser cer; simp [show ck A B l ≠ 0 by rw [HK.out]; exact h0]
    obtain rfl : b = false := by rw [← HS.out, decide_eq_false h0]; rfl
    go_wp2_with fail
    refine (Equalc_b q1 q2 m d1 d2 L V4 HM.out (by omega) HC4.out.1 HC4.out.2).mono ?_
    rintro e V9 ⟨rfl, hb9⟩
    have HB9 : Hid (Below w.heap.size w V9) := HG.out V9 (HB4.out.trans (hb9.mono HB4.out.size))
    have e1 : (E == E) = true := by simp
    clear hb9
    go_wp2_with fail
    go_ret
    exact ⟨rfl, by first | exact HB9.out | (rw [← hF]; exact HB9.out)⟩
  subst h0
  obtain ⟨W, H, rfl, rfl, hW, hH, hl, hg⟩ := ck_yes HK.out
  have HF : Hid (okf W H l) := ⟨hW, hH, hl, hg⟩
  clear hW hH hl hg
  obtain ⟨z0, z1, z2, z3, z4, z5, z6⟩ := HBX.out V4 HB4.out
  cases hi1 : inb W H x1 y1 with
  | false =>
    have HI1 : Hid (inb W H x1 y1 = false) := hi1
    obtain rfl : D = 7 := by rw [← HD.out]; unfold ser cer; simp [show ck W H l = 0 from HK.out, hi1]
    obtain rfl : b = false := by rw [← HS.out]; rfl
    clear hi1
    go_wp2_with fail
    refine (In_in W H p n c x1 y1 false V4 HF.out.1 HF.out.2.1 HI1).mono ?_
    rintro e V5 ⟨rfl, hb5⟩
    have HB5 : Hid (Below w0.heap.size w0 V5) := HB4.out.trans (hb5.mono HB4.out.size)
    have HC5 : Hid (crow V5 q1 L ∧ crow V5 q2 L) := ⟨crow_below HC4.out.1 hb5, crow_below HC4.out.2 hb5⟩
    clear hb5 z0 z1 z2 z3 z4 z5 z6
    go_wp2_with fail
    refine (Equalc_b q1 q2 m d1 d2 L V5 HM.out (by omega) HC5.out.1 HC5.out.2).mono ?_
    rintro e V9 ⟨rfl, hb9⟩
    have HB9 : Hid (Below w.heap.size w V9) := HG.out V9 (HB5.out.trans (hb9.mono HB5.out.size))
    have e1 : (E == E) = true := by simp
    clear hb9
    go_wp2_with fail
    go_ret
    exact ⟨rfl, by first | exact HB9.out | (rw [← hF]; exact HB9.out)⟩
  | true =>
    have HI1 : Hid (inb W H x1 y1 = true) := hi1
    cases hi2 : inb W H x2 y2 with
    | false =>
      have HI2 : Hid (inb W H x2 y2 = false) := hi2
      obtain rfl : D = 7 := by rw [← HD.out]; unfold ser cer; simp [show ck W H l = 0 from HK.out, hi1, hi2]
      obtain rfl : b = false := by rw [← HS.out]; rfl
      clear hi1 hi2
      go_wp2_with fail
      refine (In_in W H p n c x1 y1 true V4 HF.out.1 HF.out.2.1 HI1).mono ?_
      rintro e V5 ⟨rfl, hb5⟩
      have HB5 : Hid (Below w0.heap.size w0 V5) := HB4.out.trans (hb5.mono HB4.out.size)
      have HC5 : Hid (crow V5 q1 L ∧ crow V5 q2 L) := ⟨crow_below HC4.out.1 hb5, crow_below HC4.out.2 hb5⟩
      clear hb5 z0 z1 z2 z3 z4 z5 z6
      obtain ⟨z0, z1, z2, z3, z4, z5, z6⟩ := HBX.out V5 HB5.out
      go_wp2_with fail
      refine (In_in W H p n c x2 y2 false V5 HF.out.1 HF.out.2.1 HI2).mono ?_
      rintro e V6 ⟨rfl, hb6⟩
      have HB6 : Hid (Below w0.heap.size w0 V6) := HB5.out.trans (hb6.mono HB5.out.size)
      have HC6 : Hid (crow V6 q1 L ∧ crow V6 q2 L) := ⟨crow_below HC5.out.1 hb6, crow_below HC5.out.2 hb6⟩
      clear hb6 z0 z1 z2 z3 z4 z5 z6
      go_wp2_with fail
      refine (Equalc_b q1 q2 m d1 d2 L V6 HM.out (by omega) HC6.out.1 HC6.out.2).mono ?_
      rintro e V9 ⟨rfl, hb9⟩
      have HB9 : Hid (Below w.heap.size w V9) := HG.out V9 (HB6.out.trans (hb9.mono HB6.out.size))
      have e1 : (E == E) = true := by simp
      clear hb9
      go_wp2_with fail
      go_ret
      exact ⟨rfl, by first | exact HB9.out | (rw [← hF]; exact HB9.out)⟩
    | true =>
      have HI2 : Hid (inb W H x2 y2 = true) := hi2
      obtain rfl : D = 0 := by rw [← HD.out]; unfold ser cer; simp [show ck W H l = 0 from HK.out, hi1, hi2]
      clear hi1 hi2
      go_wp2_with fail
      refine (In_in W H p n c x1 y1 true V4 HF.out.1 HF.out.2.1 HI1).mono ?_
      rintro e V5 ⟨rfl, hb5⟩
      have HB5 : Hid (Below w0.heap.size w0 V5) := HB4.out.trans (hb5.mono HB4.out.size)
      have HC5 : Hid (crow V5 q1 L ∧ crow V5 q2 L) := ⟨crow_below HC4.out.1 hb5, crow_below HC4.out.2 hb5⟩
      clear hb5 z0 z1 z2 z3 z4 z5 z6
      obtain ⟨z0, z1, z2, z3, z4, z5, z6⟩ := HBX.out V5 HB5.out
      go_wp2_with fail
      refine (In_in W H p n c x2 y2 true V5 HF.out.1 HF.out.2.1 HI2).mono ?_
      rintro e V6 ⟨rfl, hb6⟩
      have HB6 : Hid (Below w0.heap.size w0 V6) := HB5.out.trans (hb6.mono HB5.out.size)
      have HC6 : Hid (crow V6 q1 L ∧ crow V6 q2 L) := ⟨crow_below HC5.out.1 hb6, crow_below HC5.out.2 hb6⟩
      clear hb6 z0 z1 z2 z3 z4 z5 z6
      obtain ⟨z0, z1, z2, z3, z4, z5, z6⟩ := HBX.out V6 HB6.out
      obtain ⟨xa, ya, rfl, rfl, hxa, hya⟩ := inb_yes HI1.out
      obtain ⟨xb, yb, rfl, rfl, hxb, hyb⟩ := inb_yes HI2.out
      have HR6 : Hid (row vi V6 p l) := row_below HR.out HB6.out
      obtain ⟨a, rfl⟩ := row_some HR6.out (by rw [HF.out.2.2.1]; exact one_le HF.out.1 HF.out.2.1)
      obtain rfl : n = W * H := by rw [← HN.out]; exact HF.out.2.2.1
      have HSE : Hid (se W l xa ya xb yb = b) := by unfold Hid; have := HS.out; simpa using this
      go_wp2_with fail
      refine (Looks_any W H a c l xa ya xb yb b V6 HR6.out HF.out hxa hya hxb hyb HSE).mono ?_
      rintro e V7 ⟨rfl, hb7⟩
      have HB7 : Hid (Below w0.heap.size w0 V7) := HB6.out.trans (hb7.mono HB6.out.size)
      have HC7 : Hid (crow V7 q1 L ∧ crow V7 q2 L) := ⟨crow_below HC6.out.1 hb7, crow_below HC6.out.2 hb7⟩
      clear hb7 z0 z1 z2 z3 z4 z5 z6
      go_wp2_with fail
      refine (Equalc_b q1 q2 m d1 d2 L V7 HM.out (by omega) HC7.out.1 HC7.out.2).mono ?_
      rintro e V9 ⟨rfl, hb9⟩
      have HB9 : Hid (Below w.heap.size w V9) := HG.out V9 (HB7.out.trans (hb9.mono HB7.out.size))
      have e1 : (E == E) = true := by simp
      have e2 : (b == b) = true := by simp
      clear hb9
      go_wp2_with fail
      go_ret
      exact ⟨rfl, by first | exact HB9.out | (rw [← hF]; exact HB9.out)⟩

set_option maxRecDepth 100000 in
theorem lifted (os : Os) (started : os.Started) (H : Type) (enc : TypeId × Value → H) :
    ReturnsInHanded {} Try.checked os 3 .any (Rows.sightSaysSpec.pre6 enc Try.prog Try.f3 Rows.sightSaysRow.domain false) (Rows.sightSaysSpec.post enc Try.prog Try.f3 false true false false) := by
  refine returnsInHanded_of_change_sized (C := Try.checked) own started (by kernel_rfl) Try.func3
    (ChangeSpec.witness6 (enc := enc) (C := Try.checked) false ⟨#[], #[.agg #[.int .i64 0, .int .i64 0, .slice none 0 0], .agg #[.int .i64 0, .int .i64 0], .agg #[.int .i64 0, .int .i64 0], .int .i64 0], []⟩ 8 (by kernel_rfl) (by kernel_rfl) (by kernel_rfl) (by kernel_rfl)) ?_
  intro W base args ds gs before hval0 hW hcnd hsz _
  have hval : ∀ (j : Nat) t v, Try.f3.params[j]? = some t → args[j]? = some v → Value.okWide Try.prog W .any base t v := hval0
  have hW' := hW
  obtain ⟨p, q, hA0, hV, rfl, hfz, hnd⟩ := hW
  have hA : DataW.TrodAll enc Try.prog W 0 (fun _ => true) true Try.f3.params.toList args.toList ds p := hA0
  rw [Try.params3] at hA hval
  obtain ⟨v0, vs0, d0, ds0, p0, q0, hargs, rfl, rfl, h0, r0⟩ := trodAll_cons hA
  obtain ⟨v1, vs1, d1, ds1, p1, q1, rfl, rfl, rfl, h1, r1⟩ := trodAll_cons r0
  obtain ⟨v2, vs2, d2, ds2, p2, q2, rfl, rfl, rfl, h2, r2⟩ := trodAll_cons r1
  obtain ⟨v3, vs3, d3, ds3, p3, q3, rfl, rfl, rfl, h3, r3⟩ := trodAll_cons r2
  obtain ⟨rfl, rfl, rfl⟩ := trodAll_nil r3
  obtain rfl : args = #[v0, v1, v2, v3] := by cases args; simp_all
  obtain ⟨rfl, rfl⟩ := trodVars_none hV
  obtain ⟨s0, rfl, k0, d20, rfl, t0⟩ := open_fld Try.underlying24 Try.underlying3 Try.underlying22 rfl rfl rfl rfl rfl rfl (by kernel_rfl) (by kernel_rfl) (by kernel_rfl) (hval 0 24 v0 rfl rfl) h0
  obtain ⟨x1, y1, rfl, rfl, rfl, w1x, w1y⟩ := open_two Try.underlying26 Try.underlying3 Try.underlying3 rfl rfl (by kernel_rfl) (by kernel_rfl) (by kernel_rfl) (hval 1 26 v1 rfl rfl) h1
  obtain ⟨x2, y2, rfl, rfl, rfl, w2x, w2y⟩ := open_two Try.underlying26 Try.underlying3 Try.underlying3 rfl rfl (by kernel_rfl) (by kernel_rfl) (by kernel_rfl) (hval 2 26 v2 rfl rfl) h2
  obtain ⟨a3, rfl, rfl, rfl, w3⟩ := open_int Try.underlying3 (hval 3 3 v3 rfl rfl) h3
  have hs0 : s0.l.length * 8 ≤ 140737488351232 := fld_sized hsz (j := 0) rfl rfl Try.underlying24 rfl Try.underlying22 (by kernel_rfl) t0
  clear hA0 hval0
  refine (walk s0 x1 y1 x2 y2 a3 w1x w1y w2x w2y w3 W k0 hs0).mono fun e W' ⟨he, hg⟩ => ?_
  subst he
  exact ⟨_, rfl, law_post (by kernel_rfl) (by kernel_rfl) rfl (by kernel_rfl) Try.underlying4 hW' rfl hg⟩

theorem over : Rows.sightSaysRow.holds Try.pinned (OpenSpec.ofChange Rows.sightSaysSpec) :=
  OpenClaim.holds_of_wide 3 Try.f3 rfl rfl rfl rfl rfl rfl rfl ⟨rfl, rfl, rfl, rfl, rfl⟩ rfl rfl rfl rfl rfl (by kernel_rfl) Try.func3 (by kernel_rfl)
    (of_decide_eq_true (by kernel_rfl)) (by unfold Func.isWrapper; first | (rw [if_pos (by decide +kernel)]; kernel_rfl) | (rw [if_neg (by decide +kernel)]; exact ⟨rfl, rfl⟩))
    (fun os started H enc _ => lifted os started H enc)

theorem proved : Rows.SightSaysSaid :=
  over
end Go.Proofs.Yteemcighpoomhaa.sightSays

namespace Go.Proofs.Yteemcighpoomhaa
/-- Whatever field, two cells and reach are handed in, sight.Sees and sight.Seen tell what the document's own answer tells, and the same errors; in the model of Go at this commit, for every argument. -/
theorem sightSays_holds : Rows.SightSaysSaid := sightSays.proved
#print axioms sightSays_holds
end Go.Proofs.Yteemcighpoomhaa
