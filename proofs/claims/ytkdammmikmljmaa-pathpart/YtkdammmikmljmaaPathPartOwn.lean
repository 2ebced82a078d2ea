/- Whatever field, three cells and number are handed in, a part of the way that path.Find tells is the way that it tells of the part's ends, what both parts cost makes up what the way costs, and by way of the third cell, where it can be come to, it is not cheaper; in the model of Go at this commit, for every argument. -/
import Derived.Test.YtkdammmikmljmaaRows
import Derived.Test.YtkdammmikmljmaaPost
import Derived.Test.YtkdammmikmljmaaPt
import Derived.Test.YtkdammmikmljmaaOpc
import Derived.WalkKit
import Derived.ProofKit
import Derived.OpenShut
import Derived.SizedLaws
import Derived.ChangeMaps5
import Derived.JoinedCond
namespace Go.Proofs.Ytkdammmikmljmaa.pathPart
open Go.ChangeShapes Go.WideShapes Go.ChangeAt Go.RowKit
set_option linter.unusedVariables false

theorem own : ownKnob Try.prog.godebug = none := by kernel_rfl

theorem boxp {w w0 V : World} {a b c d e f g h i : Value} {t t2 t3 t4 : TypeId} {F : Nat} (hF : w.heap.size = F) (hw : (((w.alloc (.cells #[a, b, c] t)).alloc (.cells #[d, e] t2)).alloc (.cells #[f, g] t3)).alloc (.cells #[h, i] t4) = w0) (hb : Below w0.heap.size w0 V) :
    V.cell? ⟨F, 0, none⟩ = some a ∧ V.cell? ⟨F, 1, none⟩ = some b ∧ V.cell? ⟨F, 2, none⟩ = some c ∧ V.cell? ⟨F + 1, 0, none⟩ = some d ∧ V.cell? ⟨F + 1, 1, none⟩ = some e ∧ V.cell? ⟨F + 2, 0, none⟩ = some f ∧ V.cell? ⟨F + 2, 1, none⟩ = some g ∧ V.cell? ⟨F + 3, 0, none⟩ = some h ∧ V.cell? ⟨F + 3, 1, none⟩ = some i := by
  subst hw hF
  refine ⟨?_, ?_, ?_, ?_, ?_, ?_, ?_, ?_, ?_⟩
  all_goals
    rw [hb.cell (by simp <;> omega)]
    simp [go_sem]

set_option maxRecDepth 20000 in
set_option maxHeartbeats 4000000 in
theorem walk (s0 : Fld) (x1 y1 : Int) (x2 y2 : Int) (x3 y3 : Int) (a4 : Int) (w1x : (Lit.int .i64 x1).wf = true) (w1y : (Lit.int .i64 y1).wf = true) (w2x : (Lit.int .i64 x2).wf = true) (w2y : (Lit.int .i64 y2).wf = true) (w3x : (Lit.int .i64 x3).wf = true) (w3y : (Lit.int .i64 y3).wf = true) (w4 : (Lit.int .i64 a4).wf = true) (w : World) (h0 : s0.fit w) (hs0 : s0.l.length * 8 ≤ 140737488351232) :
    Calls Try.prog 5 #[s0.val, .agg #[.int .i64 x1, .int .i64 y1], .agg #[.int .i64 x2, .int .i64 y2], .agg #[.int .i64 x3, .int .i64 y3], .int .i64 a4] w fun e w' => e = .returned (.bool true) ∧ Below w.heap.size w w' := by
  obtain ⟨A, B, p, c, l⟩ := s0
  obtain ⟨hA, hB, hrow, hfit, hlen, hpc, hlc⟩ := h0
  unfold Fld.val
  simp only at hA hB hrow hfit hlen hpc hlc hs0 ⊢
  obtain ⟨n, hn⟩ : ∃ n, l.length = n := ⟨_, rfl⟩
  rw [hn] at hlen hlc ⊢
  have HN : Hid (l.length = n) := hn
  obtain ⟨F, hF⟩ : ∃ F, w.heap.size = F := ⟨_, rfl⟩
  obtain ⟨w0, hw0⟩ : ∃ w0, (((w.alloc (.cells #[.int .i64 A, .int .i64 B, .slice p n c] 24)).alloc (.cells #[.int .i64 x1, .int .i64 y1] 26)).alloc (.cells #[.int .i64 x2, .int .i64 y2] 26)).alloc (.cells #[.int .i64 x3, .int .i64 y3] 26) = w0 := ⟨_, rfl⟩
  have HBX : Hid (∀ V, Below w0.heap.size w0 V → V.cell? ⟨F, 0, none⟩ = some (.int .i64 A) ∧ V.cell? ⟨F, 1, none⟩ = some (.int .i64 B) ∧ V.cell? ⟨F, 2, none⟩ = some (.slice p n c) ∧ V.cell? ⟨F + 1, 0, none⟩ = some (.int .i64 x1) ∧ V.cell? ⟨F + 1, 1, none⟩ = some (.int .i64 y1) ∧ V.cell? ⟨F + 2, 0, none⟩ = some (.int .i64 x2) ∧ V.cell? ⟨F + 2, 1, none⟩ = some (.int .i64 y2) ∧ V.cell? ⟨F + 3, 0, none⟩ = some (.int .i64 x3) ∧ V.cell? ⟨F + 3, 1, none⟩ = some (.int .i64 y3)) := fun V hV => boxp hF hw0 hV
  have HB0 : Hid (Below w.heap.size w w0) := by rw [← hw0]; exact (((alloc_below w _).alloc (by simp) _).alloc (by simp; omega) _).alloc (by simp; omega) _
  have HR : Hid (row vi w0 p l) := row_below hrow HB0.out
  obtain ⟨z0, z1, z2, z3, z4, z5, z6, z7, z8⟩ := HBX.out w0 (Below.refl _ _)
  clear hrow hn hfit hs0 hA hB
  go_enter Try.func5, Try.ntmps5
  go_wp2_with fail
  refine (Find_any A B p n c l x1 y1 x2 y2 w0 HR.out HN.out hlen).mono ?_
  rintro e w1 ⟨⟨v, D, E, rfl, hf⟩, hb1⟩
  have HB1 : Hid (Below w0.heap.size w0 w1) := hb1
  clear hb1 z0 z1 z2 z3 z4 z5 z6 z7 z8 hw0
  go_wp2_with fail
  refine (lives_any w1).mono ?_
  rintro e w2 ⟨rfl, hb2⟩
  have HB2 : Hid (Below w1.heap.size w1 w2 ∧ Below w0.heap.size w0 w2) := ⟨hb2, HB1.out.trans (hb2.mono HB1.out.size)⟩
  clear hb2
  rcases hf with ⟨hE, hrr, hD, rfl⟩ | ⟨rfl, W, H, far, R, g, cap, hgd, hpos, hD, hR, hRl, rfl, hmc⟩
  · have d1 : (E == 0) = false := by simp [hE]
    clear hrr hD
    go_wp2_with fail
    refine (lives_any w2).mono ?_
    rintro e w3 ⟨rfl, hb3⟩
    have HB3 : Hid (Below w.heap.size w w3) := HB0.out.trans ((HB2.out.2.trans (hb3.mono HB2.out.2.size)).mono HB0.out.size)
    clear hb3
    go_wp2_with fail
    go_ret
    exact ⟨rfl, HB3.out⟩
  · have HGD : Hid (good A B l ⟨x1, y1⟩ ⟨x2, y2⟩ W H far ∧ 0 ≤ pa far (ixc W ⟨x2, y2⟩) ∧ D = pa far (ixc W ⟨x2, y2⟩) ∧ Trl W H l far ⟨x2, y2⟩ R) := ⟨hgd, hpos, hD, hR⟩
    have hDb : -1 ≤ D ∧ D ≤ 4800 := by
      obtain ⟨_, _, hok, _, hib, _, _, hsol⟩ := hgd
      rw [hD]; exact sol_bd hsol (wh_le hok.1 hok.2.1) _ (inf_lt hib)
    obtain ⟨m, hm⟩ : ∃ m, R.length = m := ⟨_, rfl⟩
    rw [hm] at hRl hmc ⊢
    have HL : Hid (R.reverse.length = m) := by unfold Hid; rw [List.length_reverse]; exact hm
    have hmc2 := minec_below hmc HB2.out.1
    have hcap : m ≤ cap := by
      obtain ⟨g', cap', e, _, _, h⟩ := minec_some hmc2 (by rw [HL.out, ← hm]; exact trl_pos hR)
      rw [HL.out] at e h
      simp only [Value.slice.injEq] at e
      omega
    have HMC : Hid (crow w2 (some ⟨g, 0, none⟩) R.reverse) := by
      obtain ⟨p', c', e, h, _⟩ := minec_full hmc2
      simp only [Value.slice.injEq] at e
      unfold Hid
      rw [e.1]; exact h
    obtain ⟨k0, k1, k2, k3, k4, k5, k6, k7, k8⟩ := HBX.out w2 HB2.out.2
    clear hgd hpos hD hR hmc hmc2 hm
    go_wp2_with fail
    refine (Far_any A B p n c l x1 y1 x3 y3 w2 (row_below HR.out HB2.out.2) HN.out hlen).mono ?_
    rintro e w3 ⟨⟨x, ga, rfl, hfa⟩, hb3⟩
    have HB3 : Hid (Below w2.heap.size w2 w3 ∧ Below w0.heap.size w0 w3) := ⟨hb3, HB2.out.2.trans (hb3.mono HB2.out.2.size)⟩
    have HFA : Hid (farr A B l ⟨x1, y1⟩ ⟨x3, y3⟩ x ga) := hfa
    clear hfa hb3 k0 k1 k2 k3 k4 k5 k6 k7 k8
    obtain ⟨k0, k1, k2, k3, k4, k5, k6, k7, k8⟩ := HBX.out w3 HB3.out.2
    go_wp2_with fail
    refine (Far_any A B p n c l x3 y3 x2 y2 w3 (row_below HR.out HB3.out.2) HN.out hlen).mono ?_
    rintro e wd ⟨⟨y, ha, rfl, hfb⟩, hb4⟩
    have HB4 : Hid (Below w2.heap.size w2 wd ∧ Below w0.heap.size w0 wd) := ⟨HB3.out.1.trans (hb4.mono HB3.out.1.size), HB3.out.2.trans (hb4.mono HB3.out.2.size)⟩
    have h3 := part_third HGD.out.1 HGD.out.2.1 HFA.out hfb
    rw [← HGD.out.2.2.1] at h3
    clear hfb hb4 k0 k1 k2 k3 k4 k5 k6 k7 k8 HFA
    have HBW4 : Hid (Below w.heap.size w wd) := HB0.out.trans (HB4.out.2.mono HB0.out.size)
    have HCR4 : Hid (crow wd (some ⟨g, 0, none⟩) R.reverse) := crow_below HMC.out HB4.out.1
    clear HB3 HB2 HB1 HMC
    rcases h3 with h3 | ⟨rfl, rfl, h5, h6, h7, h8, h9⟩
    · have d2 : (ga == 0) = false := by simp [h3]
      by_cases hneg : a4 < 0
      · go_wp2_with fail
        go_ret
        exact ⟨rfl, HBW4.out⟩
      · by_cases hbig : (m : Int) ≤ a4
        · go_wp2_with fail
          go_ret
          exact ⟨rfl, HBW4.out⟩
        · obtain ⟨N, rfl⟩ : ∃ N : Nat, a4 = N := ⟨a4.toNat, by omega⟩
          have hNm : N < m := by omega
          obtain ⟨⟨tx, ty⟩, htt⟩ : ∃ q, (R.reverse)[N]? = some q := ⟨_, List.getElem?_eq_getElem (by rw [HL.out]; exact hNm)⟩
          have HT : Hid ((R.reverse)[N]? = some ⟨tx, ty⟩) := htt
          obtain ⟨a1, ea1, u0, u1⟩ := HCR4.out N _ htt
          cases ea1
          rw [add_zero_at] at u0 u1
          obtain ⟨k0, k1, k2, k3, k4, k5, k6, -, -⟩ := HBX.out wd HB4.out.2
          have HFI : Hid (∀ V, Below wd.heap.size wd V → Calls Try.prog 7 #[.agg #[.int .i64 A, .int .i64 B, .slice p n c], .agg #[.int .i64 x1, .int .i64 y1], .agg #[.int .i64 tx, .int .i64 ty]] V fun e w' => (∃ g5 cap5 P, e = .returned (.tuple #[.slice (some ⟨g5, 0, none⟩) (N + 1) cap5, .int .i64 P, .int .i64 0]) ∧ Hid (P = pa far (ixc W ⟨tx, ty⟩)) ∧ crow w' (some ⟨g5, 0, none⟩) ((R.reverse).take (N + 1))) ∧ Below V.heap.size V w') := by
            intro V hV
            refine (Find_any A B p n c l x1 y1 tx ty V (row_below (row_below HR.out HB4.out.2) hV) HN.out hlen).mono ?_
            rintro e w' ⟨⟨v, P, E, rfl, hf⟩, hb⟩
            obtain ⟨rfl, hP, g5, cap5, rfl, hmm⟩ := part_first HGD.out.1 HGD.out.2.2.2 HT.out hf
            refine ⟨⟨g5, cap5, P, rfl, hP, ?_⟩, hb⟩
            obtain ⟨p', c', e, h, _⟩ := minec_full hmm
            simp only [Value.slice.injEq] at e
            rw [e.1]; exact h
          have l1 : (N : Int) < m := by omega
          have l2 : (0 : Int) ≤ N := by omega
          clear htt hneg hbig
          go_wp2_with fail
          go_region_held3 (fun V => Below wd.heap.size wd V ∧ V.cell? ⟨F, 0, none⟩ = some (.int .i64 A) ∧ V.cell? ⟨F, 1, none⟩ = some (.int .i64 B) ∧ V.cell? ⟨F, 2, none⟩ = some (.slice p n c) ∧ V.cell? ⟨F + 1, 0, none⟩ = some (.int .i64 x1) ∧ V.cell? ⟨F + 1, 1, none⟩ = some (.int .i64 y1) ∧ V.cell? ⟨g, N * 2, none⟩ = some (.int .i64 tx) ∧ V.cell? ⟨g, N * 2 + 1, none⟩ = some (.int .i64 ty)) (first | with_reducible assumption | with_reducible exact k7_drew (by assumption) | with_reducible exact k7_drewN (by assumption) _ | with_reducible exact k7_call (by assumption) (by assumption) | exact ⟨Below.drew (Below.refl _ _), k0, k1, k2, k3, k4, u0, u1⟩) (first
            | (go_at_call 7; with_reducible refine (HFI.out _ (And.left (by assumption))).mono ?_; rintro e w5 ⟨⟨g5, cap5, P, rfl, hP, hcr5⟩, hb5⟩))
          have hb45 : Below wd.heap.size wd w5 := (Below.refl _ _).drew.trans hb5
          have HB5 : Hid (Below wd.heap.size wd w5 ∧ Below w0.heap.size w0 w5 ∧ crow w5 (some ⟨g5, 0, none⟩) ((R.reverse).take (N + 1)) ∧ P = pa far (ixc W ⟨tx, ty⟩)) := ⟨hb45, HB4.out.2.trans (hb45.mono HB4.out.2.size), hcr5, hP.out⟩
          have v0 : w5.cell? ⟨g, N * 2, none⟩ = some (.int .i64 tx) := (hb45.cell (p := ⟨g, N * 2, none⟩) (cell_lt u0)).trans u0
          have v1 : w5.cell? ⟨g, N * 2 + 1, none⟩ = some (.int .i64 ty) := (hb45.cell (p := ⟨g, N * 2 + 1, none⟩) (cell_lt u1)).trans u1
          clear hP hcr5 hb5 hb45 k0 k1 k2 k3 k4 k5 k6 u0 u1 HFI
          obtain ⟨k0, k1, k2, k3, k4, k5, k6, -, -⟩ := HBX.out w5 HB5.out.2.1
          have HFF : Hid (∀ V, Below w5.heap.size w5 V → Calls Try.prog 9 #[.agg #[.int .i64 A, .int .i64 B, .slice p n c], .agg #[.int .i64 tx, .int .i64 ty], .agg #[.int .i64 x2, .int .i64 y2]] V fun e w' => (∃ Q, e = .returned (.tuple #[.int .i64 Q, .int .i64 0]) ∧ Hid (P + Q = D) ∧ 0 ≤ Q ∧ Q ≤ 4800) ∧ Below V.heap.size V w') := by
            intro V hV
            refine (Far_any A B p n c l tx ty x2 y2 V (row_below (row_below HR.out HB5.out.2.1) hV) HN.out hlen).mono ?_
            rintro e w' ⟨⟨Q, E, rfl, hf⟩, hb⟩
            obtain ⟨rfl, hQ, q1, q2⟩ := part_rest HGD.out.1 HGD.out.2.2.2 HT.out hf
            exact ⟨⟨Q, rfl, by unfold Hid; rw [HB5.out.2.2.2, HGD.out.2.2.1]; exact hQ, q1, q2⟩, hb⟩
          go_wp2_with fail
          go_region_held3 (fun V => Below w5.heap.size w5 V ∧ V.cell? ⟨F, 0, none⟩ = some (.int .i64 A) ∧ V.cell? ⟨F, 1, none⟩ = some (.int .i64 B) ∧ V.cell? ⟨F, 2, none⟩ = some (.slice p n c) ∧ V.cell? ⟨F + 2, 0, none⟩ = some (.int .i64 x2) ∧ V.cell? ⟨F + 2, 1, none⟩ = some (.int .i64 y2) ∧ V.cell? ⟨g, N * 2, none⟩ = some (.int .i64 tx) ∧ V.cell? ⟨g, N * 2 + 1, none⟩ = some (.int .i64 ty)) (first | with_reducible assumption | with_reducible exact k7_drew (by assumption) | with_reducible exact k7_drewN (by assumption) _ | with_reducible exact k7_call (by assumption) (by assumption) | exact ⟨Below.drew (Below.refl _ _), k0, k1, k2, k5, k6, v0, v1⟩) (first
            | (go_at_call 9; with_reducible refine (HFF.out _ (And.left (by assumption))).mono ?_; rintro e w6 ⟨⟨Q, rfl, hQ, q1, q2⟩, hb6⟩))
          have hb56 : Below w5.heap.size w5 w6 := (Below.refl _ _).drew.trans hb6
          have HB6 : Hid (Below w.heap.size w w6 ∧ crow w6 (some ⟨g5, 0, none⟩) ((R.reverse).take (N + 1)) ∧ crow w6 (some ⟨g, 0, none⟩) ((R.reverse).take (N + 1))) := by
            refine ⟨HB0.out.trans ((HB5.out.2.1.trans (hb56.mono HB5.out.2.1.size)).mono HB0.out.size), crow_below HB5.out.2.2.1 hb56, ?_⟩
            intro j q hj
            rw [List.getElem?_take] at hj
            split at hj
            · exact crow_below (crow_below HCR4.out HB5.out.1) hb56 j q hj
            · cases hj
          have hQ2 := hQ.out
          have d5 : IntKind.i64.wrap (P + Q) = P + Q := wrp (by omega) (by omega)
          have d6 : (P + Q == D) = true := by simp [hQ2]
          have d7 : IntKind.i64.wrap ((N : Int) + 1) = N + 1 := wrp (by omega) (by omega)
          have l3 : (N : Int) + 1 ≤ cap := by omega
          have l4 : (0 : Int) ≤ N + 1 := by omega
          clear hQ2 hb6 hb56 k0 k1 k2 k3 k4 k5 k6 v0 v1 HFF
          go_wp2_with fail
          refine (Equalc_b (some ⟨g5, 0, none⟩) (some ⟨g, 0, none⟩) (N + 1) _ _ ((R.reverse).take (N + 1)) w6 (by rw [List.length_take, HL.out]; omega) (by omega) HB6.out.2.1 HB6.out.2.2).mono ?_
          rintro e w7 ⟨rfl, hb7⟩
          have HB7 : Hid (Below w.heap.size w w7) := HB6.out.1.trans (hb7.mono HB6.out.1.size)
          clear hb7
          go_wp2_with fail
          go_ret
          exact ⟨rfl, HB7.out⟩
    · have d3 : IntKind.i64.wrap (x + y) = x + y := wrp (by omega) (by omega)
      have d4 : decide (x + y < D) = false := by simp; omega
      by_cases hneg : a4 < 0
      · go_wp2_with fail
        go_ret
        exact ⟨rfl, HBW4.out⟩
      · by_cases hbig : (m : Int) ≤ a4
        · go_wp2_with fail
          go_ret
          exact ⟨rfl, HBW4.out⟩
        · obtain ⟨N, rfl⟩ : ∃ N : Nat, a4 = N := ⟨a4.toNat, by omega⟩
          have hNm : N < m := by omega
          obtain ⟨⟨tx, ty⟩, htt⟩ : ∃ q, (R.reverse)[N]? = some q := ⟨_, List.getElem?_eq_getElem (by rw [HL.out]; exact hNm)⟩
          have HT : Hid ((R.reverse)[N]? = some ⟨tx, ty⟩) := htt
          obtain ⟨a1, ea1, u0, u1⟩ := HCR4.out N _ htt
          cases ea1
          rw [add_zero_at] at u0 u1
          obtain ⟨k0, k1, k2, k3, k4, k5, k6, -, -⟩ := HBX.out wd HB4.out.2
          have HFI : Hid (∀ V, Below wd.heap.size wd V → Calls Try.prog 7 #[.agg #[.int .i64 A, .int .i64 B, .slice p n c], .agg #[.int .i64 x1, .int .i64 y1], .agg #[.int .i64 tx, .int .i64 ty]] V fun e w' => (∃ g5 cap5 P, e = .returned (.tuple #[.slice (some ⟨g5, 0, none⟩) (N + 1) cap5, .int .i64 P, .int .i64 0]) ∧ Hid (P = pa far (ixc W ⟨tx, ty⟩)) ∧ crow w' (some ⟨g5, 0, none⟩) ((R.reverse).take (N + 1))) ∧ Below V.heap.size V w') := by
            intro V hV
            refine (Find_any A B p n c l x1 y1 tx ty V (row_below (row_below HR.out HB4.out.2) hV) HN.out hlen).mono ?_
            rintro e w' ⟨⟨v, P, E, rfl, hf⟩, hb⟩
            obtain ⟨rfl, hP, g5, cap5, rfl, hmm⟩ := part_first HGD.out.1 HGD.out.2.2.2 HT.out hf
            refine ⟨⟨g5, cap5, P, rfl, hP, ?_⟩, hb⟩
            obtain ⟨p', c', e, h, _⟩ := minec_full hmm
            simp only [Value.slice.injEq] at e
            rw [e.1]; exact h
          have l1 : (N : Int) < m := by omega
          have l2 : (0 : Int) ≤ N := by omega
          clear htt hneg hbig
          go_wp2_with fail
          go_region_held3 (fun V => Below wd.heap.size wd V ∧ V.cell? ⟨F, 0, none⟩ = some (.int .i64 A) ∧ V.cell? ⟨F, 1, none⟩ = some (.int .i64 B) ∧ V.cell? ⟨F, 2, none⟩ = some (.slice p n c) ∧ V.cell? ⟨F + 1, 0, none⟩ = some (.int .i64 x1) ∧ V.cell? ⟨F + 1, 1, none⟩ = some (.int .i64 y1) ∧ V.cell? ⟨g, N * 2, none⟩ = some (.int .i64 tx) ∧ V.cell? ⟨g, N * 2 + 1, none⟩ = some (.int .i64 ty)) (first | with_reducible assumption | with_reducible exact k7_drew (by assumption) | with_reducible exact k7_drewN (by assumption) _ | with_reducible exact k7_call (by assumption) (by assumption) | exact ⟨Below.drew (Below.refl _ _), k0, k1, k2, k3, k4, u0, u1⟩) (first
            | (go_at_call 7; with_reducible refine (HFI.out _ (And.left (by assumption))).mono ?_; rintro e w5 ⟨⟨g5, cap5, P, rfl, hP, hcr5⟩, hb5⟩))
          have hb45 : Below wd.heap.size wd w5 := (Below.refl _ _).drew.trans hb5
          have HB5 : Hid (Below wd.heap.size wd w5 ∧ Below w0.heap.size w0 w5 ∧ crow w5 (some ⟨g5, 0, none⟩) ((R.reverse).take (N + 1)) ∧ P = pa far (ixc W ⟨tx, ty⟩)) := ⟨hb45, HB4.out.2.trans (hb45.mono HB4.out.2.size), hcr5, hP.out⟩
          have v0 : w5.cell? ⟨g, N * 2, none⟩ = some (.int .i64 tx) := (hb45.cell (p := ⟨g, N * 2, none⟩) (cell_lt u0)).trans u0
          have v1 : w5.cell? ⟨g, N * 2 + 1, none⟩ = some (.int .i64 ty) := (hb45.cell (p := ⟨g, N * 2 + 1, none⟩) (cell_lt u1)).trans u1
          clear hP hcr5 hb5 hb45 k0 k1 k2 k3 k4 k5 k6 u0 u1 HFI
          obtain ⟨k0, k1, k2, k3, k4, k5, k6, -, -⟩ := HBX.out w5 HB5.out.2.1
          have HFF : Hid (∀ V, Below w5.heap.size w5 V → Calls Try.prog 9 #[.agg #[.int .i64 A, .int .i64 B, .slice p n c], .agg #[.int .i64 tx, .int .i64 ty], .agg #[.int .i64 x2, .int .i64 y2]] V fun e w' => (∃ Q, e = .returned (.tuple #[.int .i64 Q, .int .i64 0]) ∧ Hid (P + Q = D) ∧ 0 ≤ Q ∧ Q ≤ 4800) ∧ Below V.heap.size V w') := by
            intro V hV
            refine (Far_any A B p n c l tx ty x2 y2 V (row_below (row_below HR.out HB5.out.2.1) hV) HN.out hlen).mono ?_
            rintro e w' ⟨⟨Q, E, rfl, hf⟩, hb⟩
            obtain ⟨rfl, hQ, q1, q2⟩ := part_rest HGD.out.1 HGD.out.2.2.2 HT.out hf
            exact ⟨⟨Q, rfl, by unfold Hid; rw [HB5.out.2.2.2, HGD.out.2.2.1]; exact hQ, q1, q2⟩, hb⟩
          go_wp2_with fail
          go_region_held3 (fun V => Below w5.heap.size w5 V ∧ V.cell? ⟨F, 0, none⟩ = some (.int .i64 A) ∧ V.cell? ⟨F, 1, none⟩ = some (.int .i64 B) ∧ V.cell? ⟨F, 2, none⟩ = some (.slice p n c) ∧ V.cell? ⟨F + 2, 0, none⟩ = some (.int .i64 x2) ∧ V.cell? ⟨F + 2, 1, none⟩ = some (.int .i64 y2) ∧ V.cell? ⟨g, N * 2, none⟩ = some (.int .i64 tx) ∧ V.cell? ⟨g, N * 2 + 1, none⟩ = some (.int .i64 ty)) (first | with_reducible assumption | with_reducible exact k7_drew (by assumption) | with_reducible exact k7_drewN (by assumption) _ | with_reducible exact k7_call (by assumption) (by assumption) | exact ⟨Below.drew (Below.refl _ _), k0, k1, k2, k5, k6, v0, v1⟩) (first
            | (go_at_call 9; with_reducible refine (HFF.out _ (And.left (by assumption))).mono ?_; rintro e w6 ⟨⟨Q, rfl, hQ, q1, q2⟩, hb6⟩))
          have hb56 : Below w5.heap.size w5 w6 := (Below.refl _ _).drew.trans hb6
          have HB6 : Hid (Below w.heap.size w w6 ∧ crow w6 (some ⟨g5, 0, none⟩) ((R.reverse).take (N + 1)) ∧ crow w6 (some ⟨g, 0, none⟩) ((R.reverse).take (N + 1))) := by
            refine ⟨HB0.out.trans ((HB5.out.2.1.trans (hb56.mono HB5.out.2.1.size)).mono HB0.out.size), crow_below HB5.out.2.2.1 hb56, ?_⟩
            intro j q hj
            rw [List.getElem?_take] at hj
            split at hj
            · exact crow_below (crow_below HCR4.out HB5.out.1) hb56 j q hj
            · cases hj
          have hQ2 := hQ.out
          have d5 : IntKind.i64.wrap (P + Q) = P + Q := wrp (by omega) (by omega)
          have d6 : (P + Q == D) = true := by simp [hQ2]
          have d7 : IntKind.i64.wrap ((N : Int) + 1) = N + 1 := wrp (by omega) (by omega)
          have l3 : (N : Int) + 1 ≤ cap := by omega
          have l4 : (0 : Int) ≤ N + 1 := by omega
          clear hQ2 hb6 hb56 k0 k1 k2 k3 k4 k5 k6 v0 v1 HFF
          go_wp2_with fail
          refine (Equalc_b (some ⟨g5, 0, none⟩) (some ⟨g, 0, none⟩) (N + 1) _ _ ((R.reverse).take (N + 1)) w6 (by rw [List.length_take, HL.out]; omega) (by omega) HB6.out.2.1 HB6.out.2.2).mono ?_
          rintro e w7 ⟨rfl, hb7⟩
          have HB7 : Hid (Below w.heap.size w w7) := HB6.out.1.trans (hb7.mono HB6.out.1.size)
          clear hb7
          go_wp2_with fail
          go_ret
          exact ⟨rfl, HB7.out⟩

set_option maxRecDepth 100000 in
theorem lifted (os : Os) (started : os.Started) (H : Type) (enc : TypeId × Value → H) :
    ReturnsInHanded {} Try.checked os 5 .any (Rows.pathPartSpec.pre6 enc Try.prog Try.f5 Rows.pathPartRow.domain false) (Rows.pathPartSpec.post enc Try.prog Try.f5 false true false false) := by
  refine returnsInHanded_of_change_sized (C := Try.checked) own started (by kernel_rfl) Try.func5
    (ChangeSpec.witness6 (enc := enc) (C := Try.checked) false ⟨#[], #[.agg #[.int .i64 0, .int .i64 0, .slice none 0 0], .agg #[.int .i64 0, .int .i64 0], .agg #[.int .i64 0, .int .i64 0], .agg #[.int .i64 0, .int .i64 0], .int .i64 0], []⟩ 8 (by kernel_rfl) (by kernel_rfl) (by kernel_rfl) (by kernel_rfl)) ?_
  intro W base args ds gs before hval0 hW hcnd hsz _
  have hval : ∀ (j : Nat) t v, Try.f5.params[j]? = some t → args[j]? = some v → Value.okWide Try.prog W .any base t v := hval0
  have hW' := hW
  obtain ⟨p, q, hA0, hV, rfl, hfz, hnd⟩ := hW
  have hA : DataW.TrodAll enc Try.prog W 0 (fun _ => true) true Try.f5.params.toList args.toList ds p := hA0
  rw [Try.params5] at hA hval
  obtain ⟨v0, vs0, d0, ds0, p0, q0, hargs, rfl, rfl, h0, r0⟩ := trodAll_cons hA
  obtain ⟨v1, vs1, d1, ds1, p1, q1, rfl, rfl, rfl, h1, r1⟩ := trodAll_cons r0
  obtain ⟨v2, vs2, d2, ds2, p2, q2, rfl, rfl, rfl, h2, r2⟩ := trodAll_cons r1
  obtain ⟨v3, vs3, d3, ds3, p3, q3, rfl, rfl, rfl, h3, r3⟩ := trodAll_cons r2
  obtain ⟨v4, vs4, d4, ds4, p4, q4, rfl, rfl, rfl, h4, r4⟩ := trodAll_cons r3
  obtain ⟨rfl, rfl, rfl⟩ := trodAll_nil r4
  obtain rfl : args = #[v0, v1, v2, v3, v4] := by cases args; simp_all
  obtain ⟨rfl, rfl⟩ := trodVars_none hV
  obtain ⟨s0, rfl, k0, d20, rfl, t0⟩ := open_fld Try.underlying24 Try.underlying3 Try.underlying22 rfl rfl rfl rfl rfl rfl (by kernel_rfl) (by kernel_rfl) (by kernel_rfl) (hval 0 24 v0 rfl rfl) h0
  obtain ⟨x1, y1, rfl, rfl, rfl, w1x, w1y⟩ := open_two Try.underlying26 Try.underlying3 Try.underlying3 rfl rfl (by kernel_rfl) (by kernel_rfl) (by kernel_rfl) (hval 1 26 v1 rfl rfl) h1
  obtain ⟨x2, y2, rfl, rfl, rfl, w2x, w2y⟩ := open_two Try.underlying26 Try.underlying3 Try.underlying3 rfl rfl (by kernel_rfl) (by kernel_rfl) (by kernel_rfl) (hval 2 26 v2 rfl rfl) h2
  obtain ⟨x3, y3, rfl, rfl, rfl, w3x, w3y⟩ := open_two Try.underlying26 Try.underlying3 Try.underlying3 rfl rfl (by kernel_rfl) (by kernel_rfl) (by kernel_rfl) (hval 3 26 v3 rfl rfl) h3
  obtain ⟨a4, rfl, rfl, rfl, w4⟩ := open_int Try.underlying3 (hval 4 3 v4 rfl rfl) h4
  have hs0 : s0.l.length * 8 ≤ 140737488351232 := fld_sized hsz (j := 0) rfl rfl Try.underlying24 rfl Try.underlying22 (by kernel_rfl) t0
  clear hA0 hval0
  refine (walk s0 x1 y1 x2 y2 x3 y3 a4 w1x w1y w2x w2y w3x w3y w4 W k0 hs0).mono fun e W' ⟨he, hg⟩ => ?_
  subst he
  exact ⟨_, rfl, law_post (by kernel_rfl) (by kernel_rfl) rfl (by kernel_rfl) Try.underlying4 hW' rfl hg⟩

theorem over : Rows.pathPartRow.holds Try.pinned (OpenSpec.ofChange Rows.pathPartSpec) :=
  OpenClaim.holds_of_wide 5 Try.f5 rfl rfl rfl rfl rfl rfl rfl ⟨rfl, rfl, rfl, rfl, rfl⟩ rfl rfl rfl rfl rfl (by kernel_rfl) Try.func5 (by kernel_rfl)
    (of_decide_eq_true (by kernel_rfl)) (by unfold Func.isWrapper; first | (rw [if_pos (by decide +kernel)]; kernel_rfl) | (rw [if_neg (by decide +kernel)]; exact ⟨rfl, rfl⟩))
    (fun os started H enc _ => lifted os started H enc)

theorem proved : Rows.PathPartSaid :=
  over
end Go.Proofs.Ytkdammmikmljmaa.pathPart

namespace Go.Proofs.Ytkdammmikmljmaa
/-- Whatever field, three cells and number are handed in, a part of the way that path.Find tells is the way that it tells of the part's ends, what both parts cost makes up what the way costs, and by way of the third cell, where it can be come to, it is not cheaper; in the model of Go at this commit, for every argument. -/
theorem pathPart_holds : Rows.PathPartSaid := pathPart.proved
#print axioms pathPart_holds
end Go.Proofs.Ytkdammmikmljmaa
