/- Whatever field and two cells are handed in, no cell is on the way that path.Find tells twice, and it has no more cells than the field has places; in the model of Go at this commit, for every argument. -/
import Derived.Test.YtkdammmikmljmaaRows
import Derived.Test.YtkdammmikmljmaaPost
import Derived.Test.YtkdammmikmljmaaCn
import Derived.Test.YtkdammmikmljmaaOpc
import Derived.WalkKit
import Derived.ProofKit
import Derived.OpenShut
import Derived.SizedLaws
import Derived.ChangeMaps5
import Derived.JoinedCond
namespace Go.Proofs.Ytkdammmikmljmaa.pathOnce
open Go.ChangeShapes Go.WideShapes Go.ChangeAt Go.RowKit
set_option linter.unusedVariables false

theorem own : ownKnob Try.prog.godebug = none := by kernel_rfl

theorem k2_call {w V V' : World} {x y : Addr} {a b : Value} (h : Below w.heap.size w V ∧ V.cell? x = some a ∧ V.cell? y = some b) (hb : Below V.heap.size V V') : Below w.heap.size w V' ∧ V'.cell? x = some a ∧ V'.cell? y = some b :=
  ⟨h.1.trans (hb.mono h.1.size), by rw [hb.cell (cell_lt h.2.1)]; exact h.2.1, by rw [hb.cell (cell_lt h.2.2)]; exact h.2.2⟩

set_option maxRecDepth 20000 in
set_option maxHeartbeats 4000000 in
theorem walk (s0 : Fld) (x1 y1 : Int) (x2 y2 : Int) (w1x : (Lit.int .i64 x1).wf = true) (w1y : (Lit.int .i64 y1).wf = true) (w2x : (Lit.int .i64 x2).wf = true) (w2y : (Lit.int .i64 y2).wf = true) (w : World) (h0 : s0.fit w) (hs0 : s0.l.length * 8 ≤ 140737488351232) :
    Calls Try.prog 6 #[s0.val, .agg #[.int .i64 x1, .int .i64 y1], .agg #[.int .i64 x2, .int .i64 y2]] w fun e w' => e = .returned (.bool true) ∧ Below w.heap.size w w' := by
  obtain ⟨A, B, p, c, l⟩ := s0
  obtain ⟨hA, hB, hrow, hfit, hlen, hpc, hlc⟩ := h0
  unfold Fld.val
  simp only at hA hB hrow hfit hlen hpc hlc hs0 ⊢
  obtain ⟨n, hn⟩ : ∃ n, l.length = n := ⟨_, rfl⟩
  rw [hn] at hlen hlc ⊢
  have HN : Hid (l.length = n) := hn
  obtain ⟨F, hF⟩ : ∃ F, w.heap.size = F := ⟨_, rfl⟩
  obtain ⟨w0, hw0⟩ : ∃ w0, ((w.alloc (.cells #[.int .i64 A, .int .i64 B, .slice p n c] 24)).alloc (.cells #[.int .i64 x1, .int .i64 y1] 26)).alloc (.cells #[.int .i64 x2, .int .i64 y2] 26) = w0 := ⟨_, rfl⟩
  have HBX : Hid (∀ V, Below w0.heap.size w0 V → V.cell? ⟨F, 0, none⟩ = some (.int .i64 A) ∧ V.cell? ⟨F, 1, none⟩ = some (.int .i64 B) ∧ V.cell? ⟨F, 2, none⟩ = some (.slice p n c) ∧ V.cell? ⟨F + 1, 0, none⟩ = some (.int .i64 x1) ∧ V.cell? ⟨F + 1, 1, none⟩ = some (.int .i64 y1) ∧ V.cell? ⟨F + 2, 0, none⟩ = some (.int .i64 x2) ∧ V.cell? ⟨F + 2, 1, none⟩ = some (.int .i64 y2)) := fun V hV => boxf hF hw0 hV
  have HB0 : Hid (Below w.heap.size w w0) := by rw [← hw0]; exact ((alloc_below w _).alloc (by simp) _).alloc (by simp; omega) _
  have HR : Hid (row vi w0 p l) := row_below hrow HB0.out
  obtain ⟨z0, z1, z2, z3, z4, z5, z6⟩ := HBX.out w0 (Below.refl _ _)
  clear hrow hn hfit hs0 hA hB
  go_enter Try.func6, Try.ntmps6
  go_wp2_with fail
  refine (Find_any A B p n c l x1 y1 x2 y2 w0 HR.out HN.out hlen).mono ?_
  rintro e w1 ⟨⟨v, D, E, rfl, hf⟩, hb1⟩
  have HB1 : Hid (Below w0.heap.size w0 w1) := hb1
  clear hb1 z0 z1 z2 z3 z4 z5 z6 hw0
  go_wp2_with fail
  refine (lives_any w1).mono ?_
  rintro e w2 ⟨rfl, hb2⟩
  have HB2 : Hid (Below w1.heap.size w1 w2 ∧ Below w0.heap.size w0 w2) := ⟨hb2, HB1.out.trans (hb2.mono HB1.out.size)⟩
  clear hb2
  rcases hf with ⟨hE, hrr, hD, rfl⟩ | ⟨rfl, W, H, far, R, g, cap, hgd, hpos, hD, hR, hRl, rfl, hmc⟩
  · have d1 : (E == 0) = false := by simp [hE]
    clear hrr hD
    go_wp2_with fail
    refine (lives_any w2).mono ?_
    rintro e w3 ⟨rfl, hb3⟩
    have HB3 : Hid (Below w.heap.size w w3) := HB0.out.trans ((HB2.out.2.trans (hb3.mono HB2.out.2.size)).mono HB0.out.size)
    clear hb3
    go_wp2_with fail
    go_ret
    exact ⟨rfl, HB3.out⟩
  · obtain ⟨hA, hB, hok, hia, hib, hra, hrb, hsol⟩ := hgd
    obtain ⟨m, hm⟩ : ∃ m, R.length = m := ⟨_, rfl⟩
    have hmw : m ≤ W * H := by rw [← hm]; exact trl_len hsol hR
    have hnw : n = W * H := by rw [← HN.out]; exact hok.2.2.1
    have hmn : (m : Int) ≤ n := by omega
    rw [hm] at hRl hmc ⊢
    have HL : Hid (R.reverse.length = m) := by unfold Hid; rw [List.length_reverse]; exact hm
    have HNE : Hid (∀ i j (hij : i < j) (hj : j < R.reverse.length), (R.reverse)[i]'(by omega) ≠ (R.reverse)[j]) := fun i j hij hj => rev_ne hsol hR hij hj
    have hmc2 := minec_below hmc HB2.out.1
    have hcap : m ≤ cap := by
      obtain ⟨g', cap', e, _, _, h⟩ := minec_some hmc2 (by rw [HL.out, ← hm]; exact trl_pos hR)
      rw [HL.out] at e h
      simp only [Value.slice.injEq] at e
      omega
    have HMC : Hid (crow w2 (some ⟨g, 0, none⟩) R.reverse) := by
      obtain ⟨p', c', e, h, _⟩ := minec_full hmc2
      simp only [Value.slice.injEq] at e
      unfold Hid
      rw [e.1]; exact h
    clear hpos hD hR hmc hmc2 hm hA hB hok hia hib hra hrb hsol hmw hnw
    go_wp2_with fail
    go_loopw [29] (fun i wr => ∃ k : Nat, i = .int .i64 k ∧ k ≤ m ∧ Hid (Below w2.heap.size w2 wr)) (fun i _ => m - (intOf i).toNat)
    case atStart => exact ⟨0, rfl, by omega, Below.refl _ _⟩
    case round =>
      obtain ⟨k, rfl, hk, HS⟩ := hrel
      by_cases hlt : k < m
      · have hkl : k < R.reverse.length := by rw [HL.out]; exact hlt
        obtain ⟨b, eb, hx, hy⟩ := crow_at (crow_below HMC.out HS.out) hkl
        cases eb
        obtain ⟨x, ex⟩ : ∃ x, (R.reverse)[k].x = x := ⟨_, rfl⟩
        obtain ⟨y, ey⟩ : ∃ y, (R.reverse)[k].y = y := ⟨_, rfl⟩
        rw [ex, add_zero_at] at hx
        rw [ey, add_zero_at] at hy
        have HXY : Hid ((R.reverse)[k] = ⟨x, y⟩) := by unfold Hid; rw [← ex, ← ey]
        clear ex ey
        obtain ⟨G, hG⟩ : ∃ G, wr.heap.size = G := ⟨_, rfl⟩
        obtain ⟨w5, hw5⟩ : ∃ w5, wr.alloc (.cells #[.int .i64 x, .int .i64 y] 26) = w5 := ⟨_, rfl⟩
        have hb5 : Below wr.heap.size wr w5 := by rw [← hw5]; exact alloc_below _ _
        have HB5 : Hid (Below w2.heap.size w2 w5) := HS.out.trans (hb5.mono HS.out.size)
        obtain ⟨g0, g1⟩ : w5.cell? ⟨G, 0, none⟩ = some (.int .i64 x) ∧ w5.cell? ⟨G, 1, none⟩ = some (.int .i64 y) := by rw [← hw5, ← hG]; constructor <;> simp [go_sem]
        have HCT : Hid (∀ V, Below w5.heap.size w5 V → Calls Try.prog 15 #[.slice (some ⟨g, 0, none⟩) k cap, .agg #[.int .i64 x, .int .i64 y]] V fun e w' => e = .returned (.bool false) ∧ Below V.heap.size V w') := by
          intro V hV
          refine Containsc_none (some ⟨g, 0, none⟩) k cap ((R.reverse).take k) x y V (by rw [List.length_take]; omega) (by omega) ?_ ?_
          · intro j q hj
            rw [List.getElem?_take] at hj
            split at hj
            · exact crow_below (crow_below HMC.out HB5.out) hV j q hj
            · cases hj
          · intro j hj
            rw [List.length_take] at hj
            rw [List.getElem_take, ← HXY.out]
            exact HNE.out j k (by omega) hkl
        have l1 : (k : Int) < m := by omega
        have l2 : (0 : Int) ≤ k := by omega
        have l3 : (k : Int) ≤ cap := by omega
        clear hb5
        go_wp2_with fail
        go_region_held3 (fun V => Below w5.heap.size w5 V ∧ V.cell? ⟨G, 0, none⟩ = some (.int .i64 x) ∧ V.cell? ⟨G, 1, none⟩ = some (.int .i64 y)) (first | exact ⟨Below.drew (Below.refl _ _), g0, g1⟩ | exact k2_call (by assumption) (by assumption)) (first
          | (go_at_call 15; with_reducible refine (HCT.out _ (And.left (by assumption))).mono ?_; rintro e w6 ⟨rfl, hb6⟩))
        have HB6 : Hid (Below w2.heap.size w2 w6) := HB5.out.trans (((Below.refl _ _).drew.trans hb6).mono HB5.out.size)
        clear hb6 g0 g1 hw5
        go_wp2_with fail
        go_roundw
        case rel => exact ⟨k + 1, by go_num, by omega, HB6⟩
        case measure => simp [intOf]; omega
      · obtain ⟨z0, z1, z2, z3, z4, z5, z6⟩ := HBX.out wr (HB2.out.2.trans (HS.out.mono HB2.out.2.size))
        have HBW : Hid (Below w.heap.size w wr) := HB0.out.trans ((HB2.out.2.trans (HS.out.mono HB2.out.2.size)).mono HB0.out.size)
        go_wp2_with fail
        go_ret
        exact ⟨by simp, HBW.out⟩

set_option maxRecDepth 100000 in
theorem lifted (os : Os) (started : os.Started) (H : Type) (enc : TypeId × Value → H) :
    ReturnsInHanded {} Try.checked os 6 .any (Rows.pathOnceSpec.pre6 enc Try.prog Try.f6 Rows.pathOnceRow.domain false) (Rows.pathOnceSpec.post enc Try.prog Try.f6 false true false false) := by
  refine returnsInHanded_of_change_sized (C := Try.checked) own started (by kernel_rfl) Try.func6
    (ChangeSpec.witness6 (enc := enc) (C := Try.checked) false ⟨#[], #[.agg #[.int .i64 0, .int .i64 0, .slice none 0 0], .agg #[.int .i64 0, .int .i64 0], .agg #[.int .i64 0, .int .i64 0]], []⟩ 8 (by kernel_rfl) (by kernel_rfl) (by kernel_rfl) (by kernel_rfl)) ?_
  intro W base args ds gs before hval0 hW hcnd hsz _
  have hval : ∀ (j : Nat) t v, Try.f6.params[j]? = some t → args[j]? = some v → Value.okWide Try.prog W .any base t v := hval0
  have hW' := hW
  obtain ⟨p, q, hA0, hV, rfl, hfz, hnd⟩ := hW
  have hA : DataW.TrodAll enc Try.prog W 0 (fun _ => true) true Try.f6.params.toList args.toList ds p := hA0
  rw [Try.params6] at hA hval
  obtain ⟨v0, vs0, d0, ds0, p0, q0, hargs, rfl, rfl, h0, r0⟩ := trodAll_cons hA
  obtain ⟨v1, vs1, d1, ds1, p1, q1, rfl, rfl, rfl, h1, r1⟩ := trodAll_cons r0
  obtain ⟨v2, vs2, d2, ds2, p2, q2, rfl, rfl, rfl, h2, r2⟩ := trodAll_cons r1
  obtain ⟨rfl, rfl, rfl⟩ := trodAll_nil r2
  obtain rfl : args = #[v0, v1, v2] := by cases args; simp_all
  obtain ⟨rfl, rfl⟩ := trodVars_none hV
  obtain ⟨s0, rfl, k0, d20, rfl, t0⟩ := open_fld Try.underlying24 Try.underlying3 Try.underlying22 rfl rfl rfl rfl rfl rfl (by kernel_rfl) (by kernel_rfl) (by kernel_rfl) (hval 0 24 v0 rfl rfl) h0
  obtain ⟨x1, y1, rfl, rfl, rfl, w1x, w1y⟩ := open_two Try.underlying26 Try.underlying3 Try.underlying3 rfl rfl (by kernel_rfl) (by kernel_rfl) (by kernel_rfl) (hval 1 26 v1 rfl rfl) h1
  obtain ⟨x2, y2, rfl, rfl, rfl, w2x, w2y⟩ := open_two Try.underlying26 Try.underlying3 Try.underlying3 rfl rfl (by kernel_rfl) (by kernel_rfl) (by kernel_rfl) (hval 2 26 v2 rfl rfl) h2
  have hs0 : s0.l.length * 8 ≤ 140737488351232 := fld_sized hsz (j := 0) rfl rfl Try.underlying24 rfl Try.underlying22 (by kernel_rfl) t0
  clear hA0 hval0
  refine (walk s0 x1 y1 x2 y2 w1x w1y w2x w2y W k0 hs0).mono fun e W' ⟨he, hg⟩ => ?_
  subst he
  exact ⟨_, rfl, law_post (by kernel_rfl) (by kernel_rfl) rfl (by kernel_rfl) Try.underlying4 hW' rfl hg⟩

theorem over : Rows.pathOnceRow.holds Try.pinned (OpenSpec.ofChange Rows.pathOnceSpec) :=
  OpenClaim.holds_of_wide 6 Try.f6 rfl rfl rfl rfl rfl rfl rfl ⟨rfl, rfl, rfl, rfl, rfl⟩ rfl rfl rfl rfl rfl (by kernel_rfl) Try.func6 (by kernel_rfl)
    (of_decide_eq_true (by kernel_rfl)) (by unfold Func.isWrapper; first | (rw [if_pos (by decide +kernel)]; kernel_rfl) | (rw [if_neg (by decide +kernel)]; exact ⟨rfl, rfl⟩))
    (fun os started H enc _ => lifted os started H enc)

theorem proved : Rows.PathOnceSaid :=
  over
end Go.Proofs.Ytkdammmikmljmaa.pathOnce

namespace Go.Proofs.Ytkdammmikmljmaa
/-- Whatever field and two cells are handed in, no cell is on the way that path.Find tells twice, and it has no more cells than the field has places; in the model of Go at this commit, for every argument. -/
theorem pathOnce_holds : Rows.PathOnceSaid := pathOnce.proved
#print axioms pathOnce_holds
end Go.Proofs.Ytkdammmikmljmaa
