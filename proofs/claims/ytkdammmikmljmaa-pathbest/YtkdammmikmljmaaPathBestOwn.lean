/- Whatever field and two cells are handed in, the way that path.Find tells leads from the one to the other by steps to the next cell, costs by these steps what is told, and that is what flood.From tells of its end, so that no way is cheaper; of an error nothing else is told; in the model of Go at this commit, for every argument. -/
import Derived.Test.YtkdammmikmljmaaRows
import Derived.Test.YtkdammmikmljmaaPost
import Derived.Test.YtkdammmikmljmaaWf
import Derived.Test.YtkdammmikmljmaaOpc
import Derived.WalkKit
import Derived.ProofKit
import Derived.OpenShut
import Derived.SizedLaws
import Derived.ChangeMaps5
import Derived.JoinedCond
namespace Go.Proofs.Ytkdammmikmljmaa.pathBest
open Go.ChangeShapes Go.WideShapes Go.ChangeAt Go.RowKit
set_option linter.unusedVariables false

theorem own : ownKnob Try.prog.godebug = none := by kernel_rfl


set_option maxRecDepth 20000 in
set_option maxHeartbeats 4000000 in
theorem walk (s0 : Fld) (x1 y1 : Int) (x2 y2 : Int) (w1x : (Lit.int .i64 x1).wf = true) (w1y : (Lit.int .i64 y1).wf = true) (w2x : (Lit.int .i64 x2).wf = true) (w2y : (Lit.int .i64 y2).wf = true) (w : World) (h0 : s0.fit w) (hs0 : s0.l.length * 8 ≤ 140737488351232) :
    Calls Try.prog 4 #[s0.val, .agg #[.int .i64 x1, .int .i64 y1], .agg #[.int .i64 x2, .int .i64 y2]] w fun e w' => e = .returned (.bool true) ∧ Below w.heap.size w w' := by
  obtain ⟨A, B, p, c, l⟩ := s0
  obtain ⟨hA, hB, hrow, hfit, hlen, hpc, hlc⟩ := h0
  unfold Fld.val
  simp only at hA hB hrow hfit hlen hpc hlc hs0 ⊢
  obtain ⟨n, hn⟩ : ∃ n, l.length = n := ⟨_, rfl⟩
  rw [hn] at hlen hlc ⊢
  have HN : Hid (l.length = n) := hn
  obtain ⟨F, hF⟩ : ∃ F, w.heap.size = F := ⟨_, rfl⟩
  obtain ⟨w0, hw0⟩ : ∃ w0, ((w.alloc (.cells #[.int .i64 A, .int .i64 B, .slice p n c] 24)).alloc (.cells #[.int .i64 x1, .int .i64 y1] 26)).alloc (.cells #[.int .i64 x2, .int .i64 y2] 26) = w0 := ⟨_, rfl⟩
  have HBX : Hid (∀ V, Below w0.heap.size w0 V → V.cell? ⟨F, 0, none⟩ = some (.int .i64 A) ∧ V.cell? ⟨F, 1, none⟩ = some (.int .i64 B) ∧ V.cell? ⟨F, 2, none⟩ = some (.slice p n c) ∧ V.cell? ⟨F + 1, 0, none⟩ = some (.int .i64 x1) ∧ V.cell? ⟨F + 1, 1, none⟩ = some (.int .i64 y1) ∧ V.cell? ⟨F + 2, 0, none⟩ = some (.int .i64 x2) ∧ V.cell? ⟨F + 2, 1, none⟩ = some (.int .i64 y2)) := fun V hV => boxf hF hw0 hV
  have HB0 : Hid (Below w.heap.size w w0) := by rw [← hw0]; exact ((alloc_below w _).alloc (by simp) _).alloc (by simp; omega) _
  have HR : Hid (row vi w0 p l) := row_below hrow HB0.out
  obtain ⟨z0, z1, z2, z3, z4, z5, z6⟩ := HBX.out w0 (Below.refl _ _)
  clear hrow hn hfit hs0 hA hB
  go_enter Try.func4, Try.ntmps4
  go_wp2_with fail
  refine (Find_any A B p n c l x1 y1 x2 y2 w0 HR.out HN.out hlen).mono ?_
  rintro e w1 ⟨⟨v, D, E, rfl, hf⟩, hb1⟩
  have HB1 : Hid (Below w0.heap.size w0 w1) := hb1
  clear hb1 z0 z1 z2 z3 z4 z5 z6 hw0
  go_wp2_with fail
  refine (lives_any w1).mono ?_
  rintro e w2 ⟨rfl, hb2⟩
  have HB2 : Hid (Below w1.heap.size w1 w2 ∧ Below w0.heap.size w0 w2) := ⟨hb2, HB1.out.trans (hb2.mono HB1.out.size)⟩
  clear hb2
  rcases hf with ⟨hE, hrr, hD, rfl⟩ | ⟨rfl, W, H, far, R, g, cap, hgd, hpos, hD, hR, hRl, rfl, hmc⟩
  · have d1 : (E == 0) = false := by simp [hE]
    subst hD
    clear hrr
    go_wp2_with fail
    refine (lives_any w2).mono ?_
    rintro e w3 ⟨rfl, hb3⟩
    have HB3 : Hid (Below w.heap.size w w3) := HB0.out.trans ((HB2.out.2.trans (hb3.mono HB2.out.2.size)).mono HB0.out.size)
    clear hb3
    go_wp2_with fail
    go_ret
    exact ⟨rfl, HB3.out⟩
  · obtain ⟨hA, hB, hok, hia, hib, hra, hrb, hsol⟩ := hgd
    subst hA hB
    obtain ⟨M, hM⟩ : ∃ M, R.length = M + 1 := ⟨R.length - 1, by have := trl_pos hR; omega⟩
    have hnw : n = W * H := by rw [← HN.out]; exact hok.2.2.1
    subst hnw
    rw [hM] at hRl hmc ⊢
    have HL : Hid (R.reverse.length = M + 1) := by unfold Hid; rw [List.length_reverse]; exact hM
    have HFS : Hid ((R.reverse)[0]? = some ⟨x1, y1⟩) := way_first hsol hia hR
    have HLS : Hid ((R.reverse)[M]? = some ⟨x2, y2⟩) := way_last hR hM
    have HWA : Hid (∀ j c, (R.reverse)[j]? = some c → inf W H c ∧ 0 ≤ pa far (ixc W c) ∧ pa l (ixc W c) ≠ 1) := fun j c hj => way_at hsol hR hj
    have HWN : Hid (∀ j c d, (R.reverse)[j]? = some c → (R.reverse)[j + 1]? = some d → adj W H (ixc W c) (ixc W d) ∧ pa far (ixc W d) = pa far (ixc W c) + kc (pa l (ixc W d))) := fun j c d hc hd => way_next hsol hR hc hd
    have HZ0 : Hid (pa far (ixc W ⟨x1, y1⟩) = 0) := (hsol.zero _ (inf_lt hia)).2 ((fst_cel hia _).2 rfl)
    have hmc2 := minec_below hmc HB2.out.1
    have HMC : Hid (crow w2 (some ⟨g, 0, none⟩) R.reverse) := by
      obtain ⟨p', c', e, h, _⟩ := minec_full hmc2
      simp only [Value.slice.injEq] at e
      unfold Hid
      rw [e.1]; exact h
    obtain ⟨X, Y, eb, hX, hY⟩ := hib
    simp only [Cel.mk.injEq] at eb
    obtain ⟨rfl, rfl⟩ := eb
    obtain ⟨I, hI⟩ : ∃ I, Y * W + X = I := ⟨_, rfl⟩
    have HIC : Hid (ixc W ⟨X, Y⟩ = I) := by unfold Hid; rw [ixc_nat]; exact hI
    have hIl : I < W * H := by rw [← hI]; exact pl_lt hX hY
    have hN : W * H ≤ 1600 := wh_le hok.1 hok.2.1
    have HD : Hid (pa far I = D) := by unfold Hid; rw [hD, HIC.out]
    have HG : Hid (okf W H l ∧ inf W H ⟨x1, y1⟩ ∧ pa l (ixc W ⟨x1, y1⟩) ≠ 1 ∧ Sol W H l (fst_ W [⟨x1, y1⟩]) far) := ⟨hok, hia, hra, hsol⟩
    have hr2 : row vi w2 p l := row_below HR.out HB2.out.2
    obtain ⟨a, rfl⟩ := row_some hr2 (by rw [hok.2.2.1]; exact one_le hok.1 hok.2.1)
    obtain ⟨P1, hP1⟩ : ∃ P1 : Nat, Y * W = P1 := ⟨_, rfl⟩
    have eP : IntKind.i64.wrap ((Y : Int) * (W : Int)) = (P1 : Int) := by rw [← Int.natCast_mul, hP1]; exact wrp (by omega) (by omega)
    have eJ : (P1 : Int) + X = I := by omega
    have eJ2 : IntKind.i64.wrap (I : Int) = I := wrp (by omega) (by omega)
    obtain ⟨k0, k1, k2, k3, k4, k5, k6⟩ := HBX.out w2 HB2.out.2
    obtain ⟨w3, hw3⟩ : ∃ w3, w2.alloc (.cells #[.int .i64 x1, .int .i64 y1] 26) = w3 := ⟨_, rfl⟩
    have hb3 : Below w2.heap.size w2 w3 := by rw [← hw3]; exact alloc_below _ _
    have hc3 : crow w3 (some ⟨w2.heap.size, 0, none⟩) [⟨x1, y1⟩] := by rw [← hw3]; exact crow_one _ _ _
    have HFR : Hid (Calls Try.prog 12 #[.agg #[.int .i64 (W : Int), .int .i64 (H : Int), .slice (some a) (W * H) c], .slice (some ⟨w2.heap.size, 0, none⟩) 1 1] w3 fun e w' => (∃ g2 : Nat, e = .returned (.tuple #[.slice (some ⟨g2, 0, none⟩) (W * H) (W * H), .int .i64 0]) ∧ row vi w' (some ⟨g2, 0, none⟩) far) ∧ Below w3.heap.size w3 w') := by
      refine (From_ok W H a (some ⟨w2.heap.size, 0, none⟩) c 1 1 l [⟨x1, y1⟩] w3 (row_below hr2 hb3) hok.1 hok.2.1 hok.2.2.1 hok.2.2.2 hc3 rfl (by decide) (cke_one hia hra) (by
        obtain ⟨b', hb', hc'⟩ := row_at (row_below hr2 hb3) (j := 0) (by rw [hok.2.2.1]; exact one_le hok.1 hok.2.1)
        cases hb'
        have := cell_lt hc'; rwa [add_block] at this)).mono ?_
      rintro e w' ⟨g2, far2, rfl, hm2, hs2, hb2⟩
      obtain rfl := sol_one hs2 hsol
      exact ⟨⟨g2, rfl, mine_row hm2⟩, hb2⟩
    have HB3 : Hid (Below w2.heap.size w2 w3) := hb3
    clear hpos hD hR hmc hmc2 hM hok hia hra hrb hsol hr2 hb3 hc3 hI hX hY hP1
    go_wp2_with fail
    refine HFR.out.mono ?_
    rintro e w4 ⟨⟨g2, rfl, hfr⟩, hb4⟩
    have HB4 : Hid (Below w2.heap.size w2 w4) := HB3.out.trans (hb4.mono HB3.out.size)
    have HB04 : Hid (Below w0.heap.size w0 w4) := HB2.out.2.trans (HB4.out.mono HB2.out.2.size)
    obtain ⟨f0, f1, f2, f3, f4, f5, f6⟩ := HBX.out w4 HB04.out
    have cD : w4.cell? ⟨g2, I, none⟩ = some (.int .i64 D) := by
      obtain ⟨b', hb', hc'⟩ := row_at hfr (j := I) (by rw [HG.out.2.2.2.len]; exact hIl)
      cases hb'
      rw [← pa_get far, add_zero_at, HD.out] at hc'; exact hc'
    obtain ⟨a1, ea1, u0, u1⟩ := crow_below HMC.out HB4.out 0 _ HFS.out
    cases ea1
    obtain ⟨a2, ea2, u2, u3⟩ := crow_below HMC.out HB4.out M _ HLS.out
    cases ea2
    rw [add_zero_at] at u0 u1 u2 u3
    have i1 : (I : Int) < W * H := by omega
    have i2 : (0 : Int) ≤ I := by omega
    have m0 : ((M : Int) + 1 == 0) = false := by simp; omega
    have m1 : IntKind.i64.wrap ((M : Int) + 1 - 1) = M := by rw [Int.add_sub_cancel]; exact wrp (by omega) (by omega)
    have m2 : (M : Int) + 1 - 1 = M := by omega
    have m3 : IntKind.i64.wrap (M : Int) = M := wrp (by omega) (by omega)
    have m4 : (M : Int) < M + 1 := by omega
    have m5 : (0 : Int) ≤ M := by omega
    have m6 : (0 : Int) < M + 1 := by omega
    clear hb4 hfr k0 k1 k2 k3 k4 k5 k6 hw3
    go_wp2_with fail
    go_quiet (fail)
    have HB5 : Hid (Below w2.heap.size w2 (w4.drewN nq)) := below_drewN HB4.out _
    generalize w4.drewN nq = w5 at HB5 ⊢
    clear f0 f1 f2 f3 f4 f5 f6 cD u0 u1 u2 u3 m0 m1 m2 m3 m6 HB4 HB04 HB3 eP eJ eJ2
    have hBD := fun i hi => sol_bd HG.out.2.2.2 hN i hi
    have HBD : Hid (∀ i, i < W * H → -1 ≤ pa far i ∧ pa far i ≤ 4800) := hBD
    clear hBD
    go_wp2_with fail
    go_loopw [12, 13] (fun s i wr => ∃ (j k : Nat) (q : Int), s = .int .i64 q ∧ i = .int .i64 k ∧ k ≤ M + 1 ∧ Hid (k = j + 1 ∧ Below w2.heap.size w2 wr ∧ ∃ d, (R.reverse)[j]? = some d ∧ pa far (ixc W d) = q)) (fun _ i _ => M + 1 - (intOf i).toNat)
    case atStart => exact ⟨0, 1, 0, rfl, rfl, by omega, rfl, HB5.out, _, HFS.out, HZ0.out⟩
    case round =>
      obtain ⟨j, k, q, rfl, rfl, hk, HS⟩ := hrel
      by_cases hlt : k < M + 1
      · obtain ⟨ek, hBw, cj, hcj, hq⟩ := HS.out
        obtain ⟨dk, hdk⟩ : ∃ dk, (R.reverse)[k]? = some dk := ⟨_, List.getElem?_eq_getElem (by rw [HL.out]; exact hlt)⟩
        obtain ⟨ic, pc, rc⟩ := HWA.out j cj hcj
        obtain ⟨id_, pd, rd⟩ := HWA.out k dk hdk
        have hwn := HWN.out j cj dk hcj (by rw [← ek]; exact hdk)
        have hnear := adj_near ic id_ hwn.1
        have hcb := HBD.out _ (inf_lt ic)
        have hdb := HBD.out _ (inf_lt id_)
        rw [hq] at hcb hwn
        obtain ⟨Z, hZ⟩ : ∃ Z, pa l (ixc W dk) = Z := ⟨_, rfl⟩
        obtain ⟨K, hK⟩ : ∃ K, kc Z = K := ⟨_, rfl⟩
        rw [hZ] at hwn rd
        rw [hK] at hwn
        have hzb := sort_bd HG.out.1.2.2.2 (j := ixc W dk) (by rw [HG.out.1.2.2.1]; exact inf_lt id_)
        rw [hZ] at hzb
        have hck := co_kc hzb.1 hzb.2 rd
        have HC : Hid (co Z = K) := hck.1.trans hK
        have HE : Hid (ce Z = 0) := hck.2
        have hkb := kc_bd Z
        rw [hK] at hkb
        obtain ⟨Xc, Yc, rfl, hXc, hYc⟩ := ic
        obtain ⟨Xd, Yd, rfl, hXd, hYd⟩ := id_
        obtain ⟨dx, hdx⟩ : ∃ dx : Int, (Xd : Int) - Xc = dx := ⟨_, rfl⟩
        obtain ⟨dy, hdy⟩ : ∃ dy : Int, (Yd : Int) - Yc = dy := ⟨_, rfl⟩
        simp only [hdx, hdy] at hnear
        obtain ⟨P, Q, hP, hQ, hPQ, p0, p1, q0, q1, x0, x1', y0, y1'⟩ := near_sq hnear
        have HNX : Hid (k + 1 = k + 1 ∧ ∃ d, (R.reverse)[k]? = some d ∧ pa far (ixc W d) = q + K) := ⟨rfl, _, hdk, hwn.2⟩
        obtain ⟨a1, ea1, v0, v1⟩ := crow_below HMC.out hBw j _ hcj
        cases ea1
        obtain ⟨a2, ea2, v2, v3⟩ := crow_below HMC.out hBw k _ hdk
        cases ea2
        rw [add_zero_at] at v0 v1 v2 v3
        obtain ⟨f0, f1, f2, -, -, -, -⟩ := HBX.out wr (HB2.out.2.trans (hBw.mono HB2.out.2.size))
        have HBW : Hid (Below w2.heap.size w2 wr ∧ wr.cell? ⟨g, j * 2, none⟩ = some (.int .i64 (Xc : Int)) ∧ wr.cell? ⟨g, j * 2 + 1, none⟩ = some (.int .i64 (Yc : Int)) ∧ wr.cell? ⟨g, k * 2, none⟩ = some (.int .i64 (Xd : Int)) ∧ wr.cell? ⟨g, k * 2 + 1, none⟩ = some (.int .i64 (Yd : Int))) := ⟨hBw, v0, v1, v2, v3⟩
        have HAT : Hid (∀ V, Below wr.heap.size wr V → Calls Try.prog 13 #[.agg #[.int .i64 (W : Int), .int .i64 (H : Int), .slice (some a) (W * H) c], .agg #[.int .i64 (Xd : Int), .int .i64 (Yd : Int)]] V fun e w' => e = .returned (.tuple #[.int .i64 Z, .int .i64 0]) ∧ Below V.heap.size V w') := by
          intro V hV
          refine At_in W H a c l Xd Yd Z V (row_below (row_below (row_below HR.out HB2.out.2) hBw) hV) HG.out.1.1 HG.out.1.2.1 HG.out.1.2.2.1 HG.out.1.2.2.2 hXd hYd ?_
          unfold Hid
          rw [ixc_nat] at hZ
          exact hZ
        have ej : (k : Int) - 1 = j := by omega
        have n1 : (k : Int) < M + 1 := by omega
        have n2 : (0 : Int) ≤ k := by omega
        have n3 : (0 : Int) ≤ j := by omega
        have n4 : (j : Int) < M + 1 := by omega
        have n5 : IntKind.i64.wrap (j : Int) = j := wrp (by omega) (by omega)
        have n6 : IntKind.i64.wrap dx = dx := wrp (by omega) (by omega)
        have n7 : IntKind.i64.wrap dy = dy := wrp (by omega) (by omega)
        have n8 : IntKind.i64.wrap P = P := wrp (by omega) (by omega)
        have n9 : IntKind.i64.wrap Q = Q := wrp (by omega) (by omega)
        have n10 : IntKind.i64.wrap (q + K) = q + K := wrp (by omega) (by omega)
        clear hcj hdk hwn hnear hcb hdb hq hZ hK hzb hck hkb rd rc pc pd hXc hYc hXd hYd p0 p1 q0 q1 x0 x1' y0 y1' v0 v1 ek hBw
        go_wp2_with fail
        go_region_held3 (fun V => Below wr.heap.size wr V ∧ V.cell? ⟨F, 0, none⟩ = some (.int .i64 (W : Int)) ∧ V.cell? ⟨F, 1, none⟩ = some (.int .i64 (H : Int)) ∧ V.cell? ⟨F, 2, none⟩ = some (.slice (some a) (W * H) c) ∧ V.cell? ⟨g, k * 2, none⟩ = some (.int .i64 (Xd : Int)) ∧ V.cell? ⟨g, k * 2 + 1, none⟩ = some (.int .i64 (Yd : Int))) (first | with_reducible assumption | with_reducible exact k5_drew (by assumption) | with_reducible exact k5_drewN (by assumption) _ | with_reducible exact k5_call (by assumption) (by assumption) | exact ⟨Below.drew (Below.refl _ _), f0, f1, f2, v2, v3⟩) (first
          | (go_at_call 13; with_reducible refine (HAT.out _ (And.left (by assumption))).mono ?_; rintro e w6 ⟨rfl, hb6⟩))
        have hb6' : Below wr.heap.size wr w6 := (Below.refl _ _).drew.trans hb6
        have HB6 : Hid (Below w2.heap.size w2 w6) := HBW.out.1.trans (hb6'.mono HBW.out.1.size)
        have s0 : w6.cell? ⟨g, j * 2, none⟩ = some (.int .i64 (Xc : Int)) := (hb6'.cell (p := ⟨g, j * 2, none⟩) (cell_lt HBW.out.2.1)).trans HBW.out.2.1
        have s1 : w6.cell? ⟨g, j * 2 + 1, none⟩ = some (.int .i64 (Yc : Int)) := (hb6'.cell (p := ⟨g, j * 2 + 1, none⟩) (cell_lt HBW.out.2.2.1)).trans HBW.out.2.2.1
        have s2 : w6.cell? ⟨g, k * 2, none⟩ = some (.int .i64 (Xd : Int)) := (hb6'.cell (p := ⟨g, k * 2, none⟩) (cell_lt HBW.out.2.2.2.1)).trans HBW.out.2.2.2.1
        have s3 : w6.cell? ⟨g, k * 2 + 1, none⟩ = some (.int .i64 (Yd : Int)) := (hb6'.cell (p := ⟨g, k * 2 + 1, none⟩) (cell_lt HBW.out.2.2.2.2)).trans HBW.out.2.2.2.2
        clear hb6 hb6' f0 f1 f2 v2 v3
        go_wp2_with fail
        refine (Cost_at Z K 0 _ HC HE).mono ?_
        rintro e w' ⟨rfl, hw⟩; subst w'
        go_wp2_with fail
        go_quiet (fail)
        have HB7 : Hid (Below w2.heap.size w2 (w6.drewN nq)) := below_drewN HB6.out _
        generalize w6.drewN nq = w7 at HB7 ⊢
        clear s0 s1 s2 s3
        go_wp2_with fail
        go_roundw
        case rel =>
          obtain ⟨_, h2⟩ := HNX.out
          exact ⟨k, k + 1, q + K, rfl, by go_num, by omega, rfl, HB7.out, h2⟩
        case measure => simp [intOf]; omega
      · obtain ⟨ek, hBw, cj, hcj, hq⟩ := HS.out
        have hjM : j = M := by omega
        rw [hjM, HLS.out] at hcj
        have hqD : q = D := by rw [← hq, ← Option.some.inj hcj, HIC.out, HD.out]
        subst hqD
        have HBW : Hid (Below w.heap.size w wr) := HB0.out.trans ((HB2.out.2.trans (hBw.mono HB2.out.2.size)).mono HB0.out.size)
        clear hcj hq hBw
        go_wp2_with fail
        go_ret
        exact ⟨rfl, HBW.out⟩

set_option maxRecDepth 100000 in
theorem lifted (os : Os) (started : os.Started) (H : Type) (enc : TypeId × Value → H) :
    ReturnsInHanded {} Try.checked os 4 .any (Rows.pathBestSpec.pre6 enc Try.prog Try.f4 Rows.pathBestRow.domain false) (Rows.pathBestSpec.post enc Try.prog Try.f4 false true false false) := by
  refine returnsInHanded_of_change_sized (C := Try.checked) own started (by kernel_rfl) Try.func4
    (ChangeSpec.witness6 (enc := enc) (C := Try.checked) false ⟨#[], #[.agg #[.int .i64 0, .int .i64 0, .slice none 0 0], .agg #[.int .i64 0, .int .i64 0], .agg #[.int .i64 0, .int .i64 0]], []⟩ 8 (by kernel_rfl) (by kernel_rfl) (by kernel_rfl) (by kernel_rfl)) ?_
  intro W base args ds gs before hval0 hW hcnd hsz _
  have hval : ∀ (j : Nat) t v, Try.f4.params[j]? = some t → args[j]? = some v → Value.okWide Try.prog W .any base t v := hval0
  have hW' := hW
  obtain ⟨p, q, hA0, hV, rfl, hfz, hnd⟩ := hW
  have hA : DataW.TrodAll enc Try.prog W 0 (fun _ => true) true Try.f4.params.toList args.toList ds p := hA0
  rw [Try.params4] at hA hval
  obtain ⟨v0, vs0, d0, ds0, p0, q0, hargs, rfl, rfl, h0, r0⟩ := trodAll_cons hA
  obtain ⟨v1, vs1, d1, ds1, p1, q1, rfl, rfl, rfl, h1, r1⟩ := trodAll_cons r0
  obtain ⟨v2, vs2, d2, ds2, p2, q2, rfl, rfl, rfl, h2, r2⟩ := trodAll_cons r1
  obtain ⟨rfl, rfl, rfl⟩ := trodAll_nil r2
  obtain rfl : args = #[v0, v1, v2] := by cases args; simp_all
  obtain ⟨rfl, rfl⟩ := trodVars_none hV
  obtain ⟨s0, rfl, k0, d20, rfl, t0⟩ := open_fld Try.underlying24 Try.underlying3 Try.underlying22 rfl rfl rfl rfl rfl rfl (by kernel_rfl) (by kernel_rfl) (by kernel_rfl) (hval 0 24 v0 rfl rfl) h0
  obtain ⟨x1, y1, rfl, rfl, rfl, w1x, w1y⟩ := open_two Try.underlying26 Try.underlying3 Try.underlying3 rfl rfl (by kernel_rfl) (by kernel_rfl) (by kernel_rfl) (hval 1 26 v1 rfl rfl) h1
  obtain ⟨x2, y2, rfl, rfl, rfl, w2x, w2y⟩ := open_two Try.underlying26 Try.underlying3 Try.underlying3 rfl rfl (by kernel_rfl) (by kernel_rfl) (by kernel_rfl) (hval 2 26 v2 rfl rfl) h2
  have hs0 : s0.l.length * 8 ≤ 140737488351232 := fld_sized hsz (j := 0) rfl rfl Try.underlying24 rfl Try.underlying22 (by kernel_rfl) t0
  clear hA0 hval0
  refine (walk s0 x1 y1 x2 y2 w1x w1y w2x w2y W k0 hs0).mono fun e W' ⟨he, hg⟩ => ?_
  subst he
  exact ⟨_, rfl, law_post (by kernel_rfl) (by kernel_rfl) rfl (by kernel_rfl) Try.underlying4 hW' rfl hg⟩

theorem over : Rows.pathBestRow.holds Try.pinned (OpenSpec.ofChange Rows.pathBestSpec) :=
  OpenClaim.holds_of_wide 4 Try.f4 rfl rfl rfl rfl rfl rfl rfl ⟨rfl, rfl, rfl, rfl, rfl⟩ rfl rfl rfl rfl rfl (by kernel_rfl) Try.func4 (by kernel_rfl)
    (of_decide_eq_true (by kernel_rfl)) (by unfold Func.isWrapper; first | (rw [if_pos (by decide +kernel)]; kernel_rfl) | (rw [if_neg (by decide +kernel)]; exact ⟨rfl, rfl⟩))
    (fun os started H enc _ => lifted os started H enc)

theorem proved : Rows.PathBestSaid :=
  over
end Go.Proofs.Ytkdammmikmljmaa.pathBest

namespace Go.Proofs.Ytkdammmikmljmaa
/-- Whatever field and two cells are handed in, the way that path.Find tells leads from the one to the other by steps to the next cell, costs by these steps what is told, and that is what flood.From tells of its end, so that no way is cheaper; of an error nothing else is told; in the model of Go at this commit, for every argument. -/
theorem pathBest_holds : Rows.PathBestSaid := pathBest.proved
#print axioms pathBest_holds
end Go.Proofs.Ytkdammmikmljmaa
