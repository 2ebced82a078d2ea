/- Whatever field and two cells are handed in, who sees another one is seen by it, and with the same error; each cell of a right field sees itself and all that is beside it; in the model of Go at this commit, for every argument. -/
import Derived.Test.YteemcighpoomhaaRows
import Derived.Test.YteemcighpoomhaaPost
import Derived.Test.YteemcighpoomhaaSl
import Derived.Test.YteemcighpoomhaaOpen
import Derived.WalkKit
import Derived.ProofKit
import Derived.OpenShut
import Derived.SizedLaws
import Derived.ChangeMaps5
import Derived.JoinedCond
namespace Go.Proofs.Yteemcighpoomhaa.sightBoth
open Go.ChangeShapes Go.WideShapes Go.ChangeAt Go.RowKit
set_option linter.unusedVariables false

theorem own : ownKnob Try.prog.godebug = none := by kernel_rfl


set_option maxRecDepth 20000 in
set_option maxHeartbeats 4000000 in
theorem walk (s0 : Fld) (x1 y1 : Int) (x2 y2 : Int) (w1x : (Lit.int .i64 x1).wf = true) (w1y : (Lit.int .i64 y1).wf = true) (w2x : (Lit.int .i64 x2).wf = true) (w2y : (Lit.int .i64 y2).wf = true) (w : World) (h0 : s0.fit w) (hs0 : s0.l.length * 8 ≤ 140737488351232) :
    Calls Try.prog 4 #[s0.val, .agg #[.int .i64 x1, .int .i64 y1], .agg #[.int .i64 x2, .int .i64 y2]] w fun e w' => e = .returned (.bool true) ∧ Below w.heap.size w w' := by
  obtain ⟨A, B, p, c, l⟩ := s0
  obtain ⟨hA, hB, hrow, hfit, hlen, hpc, hlc⟩ := h0
  unfold Fld.val
  simp only at hA hB hrow hfit hlen hpc hlc hs0 ⊢
  obtain ⟨n, hn⟩ : ∃ n, l.length = n := ⟨_, rfl⟩
  rw [hn] at hlen hlc ⊢
  have HN : Hid (l.length = n) := hn
  obtain ⟨F, hF⟩ : ∃ F, w.heap.size = F := ⟨_, rfl⟩
  obtain ⟨w0, hw0⟩ : ∃ w0, ((w.alloc (.cells #[.int .i64 A, .int .i64 B, .slice p n c] 24)).alloc (.cells #[.int .i64 x1, .int .i64 y1] 26)).alloc (.cells #[.int .i64 x2, .int .i64 y2] 26) = w0 := ⟨_, rfl⟩
  have HBX : Hid (∀ V, Below w0.heap.size w0 V → V.cell? ⟨F, 0, none⟩ = some (.int .i64 A) ∧ V.cell? ⟨F, 1, none⟩ = some (.int .i64 B) ∧ V.cell? ⟨F, 2, none⟩ = some (.slice p n c) ∧ V.cell? ⟨F + 1, 0, none⟩ = some (.int .i64 x1) ∧ V.cell? ⟨F + 1, 1, none⟩ = some (.int .i64 y1) ∧ V.cell? ⟨F + 2, 0, none⟩ = some (.int .i64 x2) ∧ V.cell? ⟨F + 2, 1, none⟩ = some (.int .i64 y2)) := fun V hV => boxf hF hw0 hV
  have HB0 : Hid (Below w.heap.size w w0) := by rw [← hw0]; exact ((alloc_below w _).alloc (by simp) _).alloc (by simp; omega) _
  have HR : Hid (row vi w0 p l) := row_below hrow HB0.out
  obtain ⟨z0, z1, z2, z3, z4, z5, z6⟩ := HBX.out w0 (Below.refl _ _)
  obtain ⟨E, hE⟩ : ∃ E, ser A B l x1 y1 x2 y2 = E := ⟨_, rfl⟩
  obtain ⟨b, hb⟩ : ∃ b, (decide (E = 0) && se A.toNat l x1 y1 x2 y2) = b := ⟨_, rfl⟩
  have HE1 : Hid (ser A B l x1 y1 x2 y2 = E) := hE
  have HE2 : Hid (ser A B l x2 y2 x1 y1 = E) := by unfold Hid; rw [ser_comm]; exact hE
  have HS1 : Hid ((decide (E = 0) && se A.toNat l x1 y1 x2 y2) = b) := hb
  have HS2 : Hid ((decide (E = 0) && se A.toNat l x2 y2 x1 y1) = b) := by unfold Hid; rw [se_comm]; exact hb
  clear hrow hn hfit hs0 hA hB hE hb
  go_enter Try.func4, Try.ntmps4
  go_wp2_with fail
  refine (Sees_at A B p n c l x1 y1 x2 y2 E b w0 HR.out HN.out hlen HE1 HS1).mono ?_
  rintro e w1 ⟨rfl, hb1⟩
  have HB1 : Hid (Below w0.heap.size w0 w1) := hb1
  have HR1 : Hid (row vi w1 p l) := row_below HR.out hb1
  clear hb1 z0 z1 z2 z3 z4 z5 z6 hw0
  obtain ⟨z0, z1, z2, z3, z4, z5, z6⟩ := HBX.out w1 HB1.out
  go_wp2_with fail
  refine (Sees_at A B p n c l x2 y2 x1 y1 E b w1 HR1.out HN.out hlen HE2 HS2).mono ?_
  rintro e w2 ⟨rfl, hb2⟩
  have HB2 : Hid (Below w0.heap.size w0 w2) := HB1.out.trans (hb2.mono HB1.out.size)
  clear hb2 z0 z1 z2 z3 z4 z5 z6
  go_wp2_with fail
  refine (lives_any w2).mono ?_
  rintro e w3 ⟨rfl, hb3⟩
  have HB3 : Hid (Below w0.heap.size w0 w3) := HB2.out.trans (hb3.mono HB2.out.size)
  clear hb3
  by_cases h0 : E = 0
  · subst h0
    obtain ⟨z0, z1, z2, z3, z4, z5, z6⟩ := HBX.out w3 HB3.out
    obtain ⟨W, H, a', b', c', d', rfl, rfl, rfl, rfl, rfl, rfl, ha, hb', hc, hd, hf⟩ := ser_yes HE1.out
    have hW := hf.1
    have hH := hf.2.1
    have m4 := @run_max4 Try.prog
    have m5 : mx4 ((a' : Int) - c') ((c' : Int) - a') ((b' : Int) - d') ((d' : Int) - b') = kg a' b' c' d' := mx4_both _ _ _ _
    have HK : Hid (kg a' b' c' d' ≤ 1 → b = true) := fun h => by rw [← HS1.out, se_near h]; rfl
    obtain ⟨K, hK⟩ : ∃ K, kg (a' : Int) b' c' d' = K := ⟨_, rfl⟩
    rw [hK] at m5 HK
    clear HE1 HE2 HS1 HS2 hf hK
    cases b with
    | true =>
      by_cases hk : K ≤ 1
      all_goals
        go_wp2_with fail
        go_ret
        exact ⟨rfl, by first | exact HB0.out.trans (HB3.out.mono HB0.out.size) | (rw [← hF]; exact HB0.out.trans (HB3.out.mono HB0.out.size))⟩
    | false =>
      have hk : ¬ K ≤ 1 := fun h => by have := HK.out h; cases this
      go_wp2_with fail
      go_ret
      exact ⟨rfl, by first | exact HB0.out.trans (HB3.out.mono HB0.out.size) | (rw [← hF]; exact HB0.out.trans (HB3.out.mono HB0.out.size))⟩
  · have d1 : (E == 0) = false := by simp [h0]
    obtain rfl : b = false := by rw [← HS1.out, decide_eq_false h0]; rfl
    clear HE1 HE2 HS1 HS2
    go_wp2_with fail
    refine (lives_any w3).mono ?_
    rintro e w4 ⟨rfl, hb4⟩
    have HB4 : Hid (Below w0.heap.size w0 w4) := HB3.out.trans (hb4.mono HB3.out.size)
    clear hb4
    go_wp2_with fail
    go_ret
    exact ⟨rfl, HB0.out.trans (HB4.out.mono HB0.out.size)⟩

set_option maxRecDepth 100000 in
theorem lifted (os : Os) (started : os.Started) (H : Type) (enc : TypeId × Value → H) :
    ReturnsInHanded {} Try.checked os 4 .any (Rows.sightBothSpec.pre6 enc Try.prog Try.f4 Rows.sightBothRow.domain false) (Rows.sightBothSpec.post enc Try.prog Try.f4 false true false false) := by
  refine returnsInHanded_of_change_sized (C := Try.checked) own started (by kernel_rfl) Try.func4
    (ChangeSpec.witness6 (enc := enc) (C := Try.checked) false ⟨#[], #[.agg #[.int .i64 0, .int .i64 0, .slice none 0 0], .agg #[.int .i64 0, .int .i64 0], .agg #[.int .i64 0, .int .i64 0]], []⟩ 8 (by kernel_rfl) (by kernel_rfl) (by kernel_rfl) (by kernel_rfl)) ?_
  intro W base args ds gs before hval0 hW hcnd hsz _
  have hval : ∀ (j : Nat) t v, Try.f4.params[j]? = some t → args[j]? = some v → Value.okWide Try.prog W .any base t v := hval0
  have hW' := hW
  obtain ⟨p, q, hA0, hV, rfl, hfz, hnd⟩ := hW
  have hA : DataW.TrodAll enc Try.prog W 0 (fun _ => true) true Try.f4.params.toList args.toList ds p := hA0
  rw [Try.params4] at hA hval
  obtain ⟨v0, vs0, d0, ds0, p0, q0, hargs, rfl, rfl, h0, r0⟩ := trodAll_cons hA
  obtain ⟨v1, vs1, d1, ds1, p1, q1, rfl, rfl, rfl, h1, r1⟩ := trodAll_cons r0
  obtain ⟨v2, vs2, d2, ds2, p2, q2, rfl, rfl, rfl, h2, r2⟩ := trodAll_cons r1
  obtain ⟨rfl, rfl, rfl⟩ := trodAll_nil r2
  obtain rfl : args = #[v0, v1, v2] := by cases args; simp_all
  obtain ⟨rfl, rfl⟩ := trodVars_none hV
  obtain ⟨s0, rfl, k0, d20, rfl, t0⟩ := open_fld Try.underlying24 Try.underlying3 Try.underlying22 rfl rfl rfl rfl rfl rfl (by kernel_rfl) (by kernel_rfl) (by kernel_rfl) (hval 0 24 v0 rfl rfl) h0
  obtain ⟨x1, y1, rfl, rfl, rfl, w1x, w1y⟩ := open_two Try.underlying26 Try.underlying3 Try.underlying3 rfl rfl (by kernel_rfl) (by kernel_rfl) (by kernel_rfl) (hval 1 26 v1 rfl rfl) h1
  obtain ⟨x2, y2, rfl, rfl, rfl, w2x, w2y⟩ := open_two Try.underlying26 Try.underlying3 Try.underlying3 rfl rfl (by kernel_rfl) (by kernel_rfl) (by kernel_rfl) (hval 2 26 v2 rfl rfl) h2
  have hs0 : s0.l.length * 8 ≤ 140737488351232 := fld_sized hsz (j := 0) rfl rfl Try.underlying24 rfl Try.underlying22 (by kernel_rfl) t0
  clear hA0 hval0
  refine (walk s0 x1 y1 x2 y2 w1x w1y w2x w2y W k0 hs0).mono fun e W' ⟨he, hg⟩ => ?_
  subst he
  exact ⟨_, rfl, law_post (by kernel_rfl) (by kernel_rfl) rfl (by kernel_rfl) Try.underlying4 hW' rfl hg⟩

theorem over : Rows.sightBothRow.holds Try.pinned (OpenSpec.ofChange Rows.sightBothSpec) :=
  OpenClaim.holds_of_wide 4 Try.f4 rfl rfl rfl rfl rfl rfl rfl ⟨rfl, rfl, rfl, rfl, rfl⟩ rfl rfl rfl rfl rfl (by kernel_rfl) Try.func4 (by kernel_rfl)
    (of_decide_eq_true (by kernel_rfl)) (by unfold Func.isWrapper; first | (rw [if_pos (by decide +kernel)]; kernel_rfl) | (rw [if_neg (by decide +kernel)]; exact ⟨rfl, rfl⟩))
    (fun os started H enc _ => lifted os started H enc)

theorem proved : Rows.SightBothSaid :=
  over
end Go.Proofs.Yteemcighpoomhaa.sightBoth

namespace Go.Proofs.Yteemcighpoomhaa
/-- Whatever field and two cells are handed in, who sees another one is seen by it, and with the same error; each cell of a right field sees itself and all that is beside it; in the model of Go at this commit, for every argument. -/
theorem sightBoth_holds : Rows.SightBothSaid := sightBoth.proved
#print axioms sightBoth_holds
end Go.Proofs.Yteemcighpoomhaa
