/- Whatever field, cell and reach are handed in, on a right field without rocks and woods sight.Seen tells all cells that are near enough: so many as the window about the cell has within the field; in the model of Go at this commit, for every argument. -/
import Derived.Test.YteemcighpoomhaaRows
import Derived.Test.YteemcighpoomhaaPost
import Derived.Test.YteemcighpoomhaaSo
import Derived.Test.YteemcighpoomhaaOpen
import Derived.WalkKit
import Derived.ProofKit
import Derived.OpenShut
import Derived.SizedLaws
import Derived.ChangeMaps5
import Derived.JoinedCond
namespace Go.Proofs.Yteemcighpoomhaa.sightOpen
open Go.ChangeShapes Go.WideShapes Go.ChangeAt Go.RowKit
set_option linter.unusedVariables false

theorem own : ownKnob Try.prog.godebug = none := by kernel_rfl


set_option maxRecDepth 20000 in
set_option maxHeartbeats 4000000 in
theorem walk (s0 : Fld) (x1 y1 : Int) (a2 : Int) (w1x : (Lit.int .i64 x1).wf = true) (w1y : (Lit.int .i64 y1).wf = true) (w2 : (Lit.int .i64 a2).wf = true) (w : World) (h0 : s0.fit w) (hs0 : s0.l.length * 8 ≤ 140737488351232) :
    Calls Try.prog 6 #[s0.val, .agg #[.int .i64 x1, .int .i64 y1], .int .i64 a2] w fun e w' => e = .returned (.bool true) ∧ Below w.heap.size w w' := by
  obtain ⟨A, B, p, c, l⟩ := s0
  obtain ⟨hA, hB, hrow, hfit, hlen, hpc, hlc⟩ := h0
  unfold Fld.val
  simp only at hA hB hrow hfit hlen hpc hlc hs0 ⊢
  obtain ⟨n, hn⟩ : ∃ n, l.length = n := ⟨_, rfl⟩
  rw [hn] at hlen hlc ⊢
  have HN : Hid (l.length = n) := hn
  obtain ⟨F, hF⟩ : ∃ F, w.heap.size = F := ⟨_, rfl⟩
  obtain ⟨w0, hw0⟩ : ∃ w0, (w.alloc (.cells #[.int .i64 A, .int .i64 B, .slice p n c] 24)).alloc (.cells #[.int .i64 x1, .int .i64 y1] 26) = w0 := ⟨_, rfl⟩
  have HBX : Hid (∀ V, Below w0.heap.size w0 V → V.cell? ⟨F, 0, none⟩ = some (.int .i64 A) ∧ V.cell? ⟨F, 1, none⟩ = some (.int .i64 B) ∧ V.cell? ⟨F, 2, none⟩ = some (.slice p n c) ∧ V.cell? ⟨F + 1, 0, none⟩ = some (.int .i64 x1) ∧ V.cell? ⟨F + 1, 1, none⟩ = some (.int .i64 y1)) := fun V hV => by
    obtain ⟨h0, h1, h2, h3, h4, _⟩ := boxes hw0 hV
    rw [hF] at h0 h1 h2 h3 h4
    exact ⟨h0, h1, h2, h3, h4⟩
  have HB0 : Hid (Below w.heap.size w w0) := by rw [← hw0]; exact (alloc_below w _).alloc (by simp) _
  have HR : Hid (row vi w0 p l) := row_below hrow HB0.out
  obtain ⟨z0, z1, z2, z3, z4⟩ := HBX.out w0 (Below.refl _ _)
  have HG : Hid (∀ V, Below w0.heap.size w0 V → Below w.heap.size w V) := fun V hV => HB0.out.trans (hV.mono HB0.out.size)
  clear hrow hn hfit hs0 hA hB
  go_enter Try.func6, Try.ntmps6
  go_wp2_with fail
  refine (Seen_any A B p n c l x1 y1 a2 w0 HR.out HN.out hlen).mono ?_
  rintro e w1 ⟨hs, hb1⟩
  have HB1 : Hid (Below w0.heap.size w0 w1) := hb1
  clear hb1 z0 z1 z2 z3 z4 hw0
  rcases hs with ⟨E, hE, _, rfl⟩ | ⟨W, H, x, y, k, v, rfl, rfl, rfl, rfl, rfl, hx, hy, hk, hf, rfl, hv⟩
  · have d1 : (E == 0) = false := by simp [hE]
    go_wp2_with fail
    refine (lives_any w1).mono ?_
    rintro e w2 ⟨rfl, hb2⟩
    have HB2 : Hid (Below w0.heap.size w0 w2) := HB1.out.trans (hb2.mono HB1.out.size)
    clear hb2
    go_wp2_with fail
    refine (lives_any w2).mono ?_
    rintro e w3 ⟨rfl, hb3⟩
    have HB3 : Hid (Below w.heap.size w w3) := HG.out w3 (HB2.out.trans (hb3.mono HB2.out.size))
    clear hb3
    go_wp2_with fail
    go_ret
    exact ⟨rfl, HB3.out⟩
  · obtain ⟨m, hm⟩ : ∃ m, (sn W l x y k (W * H)).length = m := ⟨_, rfl⟩
    obtain ⟨q, d, rfl, _⟩ := minec_form hv hm
    obtain ⟨hW1, hW2⟩ := hf.1
    obtain ⟨hH1, hH2⟩ := hf.2.1
    have hm16 : m ≤ 1600 := by rw [← hm]; exact Nat.le_trans (sn_len _ _ _ _ _ _) (wh_le hf.1 hf.2.1)
    have HM : Hid ((sn W l x y k (W * H)).length = m) := hm
    have HF : Hid (okf W H l) := hf
    clear hv hf hm
    go_wp2_with fail
    refine (lives_any w1).mono ?_
    rintro e w2 ⟨rfl, hb2⟩
    have HB2 : Hid (Below w0.heap.size w0 w2) := HB1.out.trans (hb2.mono HB1.out.size)
    have HR2 : Hid (row vi w2 p l) := row_below HR.out HB2.out
    have HBw : Hid (Below w.heap.size w w2) := HG.out w2 HB2.out
    obtain ⟨z0, z1, z2, z3, z4⟩ := HBX.out w2 HB2.out
    clear hb2
    cases h1 : has 1 l with
    | true =>
      have H1 : Hid (has 1 l = true) := h1
      clear h1
      go_wp2_with fail
      refine (Containsi_any p n c l 1 true w2 HR2.out HN.out hlen H1).mono ?_
      rintro e w' ⟨rfl, hw⟩; subst w'
      go_wp2_with fail
      go_ret
      exact ⟨rfl, by first | exact HBw.out | (rw [← hF]; exact HBw.out)⟩
    | false =>
      have H1 : Hid (has 1 l = false) := h1
      clear h1
      cases h2 : has 2 l with
      | true =>
        have H2 : Hid (has 2 l = true) := h2
        clear h2
        go_wp2_with fail
        refine (Containsi_any p n c l 1 false w2 HR2.out HN.out hlen H1).mono ?_
        rintro e w' ⟨rfl, hw⟩; subst w'
        go_wp2_with fail
        refine (Containsi_any p n c l 2 true w2 HR2.out HN.out hlen H2).mono ?_
        rintro e w' ⟨rfl, hw⟩; subst w'
        go_wp2_with fail
        go_ret
        exact ⟨rfl, by first | exact HBw.out | (rw [← hF]; exact HBw.out)⟩
      | false =>
        have H2 : Hid (has 2 l = false) := h2
        clear h2
        obtain ⟨b0, hb0⟩ : ∃ b0, y - k = b0 := ⟨_, rfl⟩
        obtain ⟨b1, hb1⟩ : ∃ b1, min (y + k) (H - 1) = b1 := ⟨_, rfl⟩
        obtain ⟨a0, ha0⟩ : ∃ a0, x - k = a0 := ⟨_, rfl⟩
        obtain ⟨a1, ha1⟩ : ∃ a1, min (x + k) (W - 1) = a1 := ⟨_, rfl⟩
        have hc := sn_count (open_all HF.out.2.2.2 H1.out H2.out) hx hy ha0 ha1 hb0 hb1
        rw [HM.out] at hc
        obtain ⟨P, hP⟩ : ∃ P, a1 + 1 - a0 = P := ⟨_, rfl⟩
        obtain ⟨Q, hQ⟩ : ∃ Q, b1 + 1 - b0 = Q := ⟨_, rfl⟩
        rw [hP, hQ] at hc
        have m2 := @run_max2 Try.prog
        have n2 := @run_min2 Try.prog
        have ey0 : mx 0 ((y : Int) - k) = b0 := by unfold mx; omega
        have ey1 : mn ((H : Int) - 1) ((y : Int) + k) = b1 := by unfold mn; omega
        have ex0 : mx 0 ((x : Int) - k) = a0 := by unfold mx; omega
        have ex1 : mn ((W : Int) - 1) ((x : Int) + k) = a1 := by unfold mn; omega
        have eP : (a1 : Int) - a0 + 1 = P := by omega
        have eQ : (b1 : Int) - b0 + 1 = Q := by omega
        have eM : IntKind.i64.wrap ((P : Int) * (Q : Int)) = (m : Int) := by rw [← Int.natCast_mul, ← hc]; exact wrp (by omega) (by omega)
        have k1 : a1 ≤ 40 := by omega
        have k2 : b1 ≤ 40 := by omega
        have k3 : a0 ≤ a1 := by omega
        have k4 : b0 ≤ b1 := by omega
        clear hb0 hb1 ha0 ha1 hP hQ hc
        go_wp2_with fail
        refine (Containsi_any p n c l 1 false w2 HR2.out HN.out hlen H1).mono ?_
        rintro e w' ⟨rfl, hw⟩; subst w'
        go_wp2_with fail
        refine (Containsi_any p n c l 2 false w2 HR2.out HN.out hlen H2).mono ?_
        rintro e w' ⟨rfl, hw⟩; subst w'
        go_wp2_with fail
        go_ret
        exact ⟨rfl, by first | exact HBw.out | (rw [← hF]; exact HBw.out)⟩

set_option maxRecDepth 100000 in
theorem lifted (os : Os) (started : os.Started) (H : Type) (enc : TypeId × Value → H) :
    ReturnsInHanded {} Try.checked os 6 .any (Rows.sightOpenSpec.pre6 enc Try.prog Try.f6 Rows.sightOpenRow.domain false) (Rows.sightOpenSpec.post enc Try.prog Try.f6 false true false false) := by
  refine returnsInHanded_of_change_sized (C := Try.checked) own started (by kernel_rfl) Try.func6
    (ChangeSpec.witness6 (enc := enc) (C := Try.checked) false ⟨#[], #[.agg #[.int .i64 0, .int .i64 0, .slice none 0 0], .agg #[.int .i64 0, .int .i64 0], .int .i64 0], []⟩ 8 (by kernel_rfl) (by kernel_rfl) (by kernel_rfl) (by kernel_rfl)) ?_
  intro W base args ds gs before hval0 hW hcnd hsz _
  have hval : ∀ (j : Nat) t v, Try.f6.params[j]? = some t → args[j]? = some v → Value.okWide Try.prog W .any base t v := hval0
  have hW' := hW
  obtain ⟨p, q, hA0, hV, rfl, hfz, hnd⟩ := hW
  have hA : DataW.TrodAll enc Try.prog W 0 (fun _ => true) true Try.f6.params.toList args.toList ds p := hA0
  rw [Try.params6] at hA hval
  obtain ⟨v0, vs0, d0, ds0, p0, q0, hargs, rfl, rfl, h0, r0⟩ := trodAll_cons hA
  obtain ⟨v1, vs1, d1, ds1, p1, q1, rfl, rfl, rfl, h1, r1⟩ := trodAll_cons r0
  obtain ⟨v2, vs2, d2, ds2, p2, q2, rfl, rfl, rfl, h2, r2⟩ := trodAll_cons r1
  obtain ⟨rfl, rfl, rfl⟩ := trodAll_nil r2
  obtain rfl : args = #[v0, v1, v2] := by cases args; simp_all
  obtain ⟨rfl, rfl⟩ := trodVars_none hV
  obtain ⟨s0, rfl, k0, d20, rfl, t0⟩ := open_fld Try.underlying24 Try.underlying3 Try.underlying22 rfl rfl rfl rfl rfl rfl (by kernel_rfl) (by kernel_rfl) (by kernel_rfl) (hval 0 24 v0 rfl rfl) h0
  obtain ⟨x1, y1, rfl, rfl, rfl, w1x, w1y⟩ := open_two Try.underlying26 Try.underlying3 Try.underlying3 rfl rfl (by kernel_rfl) (by kernel_rfl) (by kernel_rfl) (hval 1 26 v1 rfl rfl) h1
  obtain ⟨a2, rfl, rfl, rfl, w2⟩ := open_int Try.underlying3 (hval 2 3 v2 rfl rfl) h2
  have hs0 : s0.l.length * 8 ≤ 140737488351232 := fld_sized hsz (j := 0) rfl rfl Try.underlying24 rfl Try.underlying22 (by kernel_rfl) t0
  clear hA0 hval0
  refine (walk s0 x1 y1 a2 w1x w1y w2 W k0 hs0).mono fun e W' ⟨he, hg⟩ => ?_
  subst he
  exact ⟨_, rfl, law_post (by kernel_rfl) (by kernel_rfl) rfl (by kernel_rfl) Try.underlying4 hW' rfl hg⟩

theorem over : Rows.sightOpenRow.holds Try.pinned (OpenSpec.ofChange Rows.sightOpenSpec) :=
  OpenClaim.holds_of_wide 6 Try.f6 rfl rfl rfl rfl rfl rfl rfl ⟨rfl, rfl, rfl, rfl, rfl⟩ rfl rfl rfl rfl rfl (by kernel_rfl) Try.func6 (by kernel_rfl)
    (of_decide_eq_true (by kernel_rfl)) (by unfold Func.isWrapper; first | (rw [if_pos (by decide +kernel)]; kernel_rfl) | (rw [if_neg (by decide +kernel)]; exact ⟨rfl, rfl⟩))
    (fun os started H enc _ => lifted os started H enc)

theorem proved : Rows.SightOpenSaid :=
  over
end Go.Proofs.Yteemcighpoomhaa.sightOpen

namespace Go.Proofs.Yteemcighpoomhaa
/-- Whatever field, cell and reach are handed in, on a right field without rocks and woods sight.Seen tells all cells that are near enough: so many as the window about the cell has within the field; in the model of Go at this commit, for every argument. -/
theorem sightOpen_holds : Rows.SightOpenSaid := sightOpen.proved
#print axioms sightOpen_holds
end Go.Proofs.Yteemcighpoomhaa
