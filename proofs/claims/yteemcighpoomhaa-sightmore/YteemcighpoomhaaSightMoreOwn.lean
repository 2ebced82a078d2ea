/- Whatever field, cell, rock, near and far are handed in, who looks farther sees all that there was, what sight.Seen tells is what sight.Sees tells, and where a place becomes plain nothing that was seen is lost; in the model of Go at this commit, for every argument. -/
import Derived.Test.YteemcighpoomhaaRows
import Derived.Test.YteemcighpoomhaaPost
import Derived.Test.YteemcighpoomhaaSx
import Derived.Test.YteemcighpoomhaaOpen
import Derived.WalkKit
import Derived.ProofKit
import Derived.OpenShut
import Derived.SizedLaws
import Derived.ChangeMaps5
import Derived.JoinedCond
namespace Go.Proofs.Yteemcighpoomhaa.sightMore
open Go.ChangeShapes Go.WideShapes Go.ChangeAt Go.RowKit
set_option linter.unusedVariables false

theorem own : ownKnob Try.prog.godebug = none := by kernel_rfl

theorem boxf_bel {w w0 : World} {a b c d e f g : Value} {t t' : TypeId} (hw0 : ((w.alloc (.cells #[a, b, c] t)).alloc (.cells #[d, e] t')).alloc (.cells #[f, g] t') = w0) : Below w.heap.size w w0 := by
  rw [← hw0]; exact ((alloc_below w _).alloc (by simp) _).alloc (by simp; omega) _

set_option maxRecDepth 20000 in
set_option maxHeartbeats 4000000 in
theorem walk (s0 : Fld) (x1 y1 : Int) (x2 y2 : Int) (a3 : Int) (a4 : Int) (w1x : (Lit.int .i64 x1).wf = true) (w1y : (Lit.int .i64 y1).wf = true) (w2x : (Lit.int .i64 x2).wf = true) (w2y : (Lit.int .i64 y2).wf = true) (w3 : (Lit.int .i64 a3).wf = true) (w4 : (Lit.int .i64 a4).wf = true) (w : World) (h0 : s0.fit w) (hs0 : s0.l.length * 8 ≤ 140737488351232) :
    Calls Try.prog 5 #[s0.val, .agg #[.int .i64 x1, .int .i64 y1], .agg #[.int .i64 x2, .int .i64 y2], .int .i64 a3, .int .i64 a4] w fun e w' => e = .returned (.bool true) ∧ Below w.heap.size w w' := by
  clear w1x w1y w2x w2y w3 w4
  obtain ⟨A, B, p, c, l⟩ := s0
  obtain ⟨hA, hB, hrow, hfit, hlen, hpc, hlc⟩ := h0
  unfold Fld.val
  simp only at hA hB hrow hfit hlen hpc hlc hs0 ⊢
  obtain ⟨n, hn⟩ : ∃ n, l.length = n := ⟨_, rfl⟩
  rw [hn] at hlen hlc ⊢
  have HN : Hid (l.length = n) := hn
  obtain ⟨F, hF⟩ : ∃ F, w.heap.size = F := ⟨_, rfl⟩
  obtain ⟨w0, hw0⟩ : ∃ w0, ((w.alloc (.cells #[.int .i64 A, .int .i64 B, .slice p n c] 24)).alloc (.cells #[.int .i64 x1, .int .i64 y1] 26)).alloc (.cells #[.int .i64 x2, .int .i64 y2] 26) = w0 := ⟨_, rfl⟩
  have HBX : Hid (∀ V, Below w0.heap.size w0 V → V.cell? ⟨F, 0, none⟩ = some (.int .i64 A) ∧ V.cell? ⟨F, 1, none⟩ = some (.int .i64 B) ∧ V.cell? ⟨F, 2, none⟩ = some (.slice p n c) ∧ V.cell? ⟨F + 1, 0, none⟩ = some (.int .i64 x1) ∧ V.cell? ⟨F + 1, 1, none⟩ = some (.int .i64 y1) ∧ V.cell? ⟨F + 2, 0, none⟩ = some (.int .i64 x2) ∧ V.cell? ⟨F + 2, 1, none⟩ = some (.int .i64 y2)) := fun V hV => boxf hF hw0 hV
  have HB0 : Hid (Below w.heap.size w w0) := boxf_bel hw0
  have HR : Hid (row vi w0 p l) := row_below hrow HB0.out
  obtain ⟨z0, z1, z2, z3, z4, z5, z6⟩ := HBX.out w0 (Below.refl _ _)
  have HG : Hid (∀ V, Below w0.heap.size w0 V → Below w.heap.size w V) := fun V hV => HB0.out.trans (hV.mono HB0.out.size)
  have HPC : Hid (p = none → c = 0) := hpc
  clear hrow hn hfit hs0 hA hB hpc hlc
  go_enter Try.func5, Try.ntmps5
  go_wp2_with fail
  refine (Seen_w A B p n c l x1 y1 a3 w0 HR.out HN.out hlen).mono ?_
  rintro e V1 ⟨⟨v1, E1, rfl, HY1⟩, hb1⟩
  have HB1 : Hid (Below w0.heap.size w0 V1) := hb1
  have HR1 : Hid (row vi V1 p l) := row_below HR.out hb1
  clear hb1 z0 z1 z2 z3 z4 z5 z6 hw0
  obtain ⟨z0, z1, z2, z3, z4, z5, z6⟩ := HBX.out V1 HB1.out
  go_wp2_with fail
  refine (Seen_w A B p n c l x1 y1 a4 V1 HR1.out HN.out hlen).mono ?_
  rintro e V2 ⟨⟨v2, E2, rfl, HY2⟩, hb2⟩
  have HB12 : Hid (Below V1.heap.size V1 V2) := hb2
  have HB2 : Hid (Below w0.heap.size w0 V2) := HB1.out.trans (hb2.mono HB1.out.size)
  clear hb2 z0 z1 z2 z3 z4 z5 z6
  go_wp2_with fail
  refine (lives_any V2).mono ?_
  rintro e V3 ⟨rfl, hb3⟩
  have HB23 : Hid (Below V2.heap.size V2 V3) := hb3
  have HB3 : Hid (Below w0.heap.size w0 V3) := HB2.out.trans (hb3.mono HB2.out.size)
  clear hb3
  by_cases hE1 : E1 = 0
  rotate_left
  · have d1 : (E1 == 0) = false := by simp [hE1]
    go_wp2_with fail
    refine (lives_any V3).mono ?_
    rintro e V4 ⟨rfl, hb4⟩
    have HB4 : Hid (Below w.heap.size w V4) := HG.out V4 (HB3.out.trans (hb4.mono HB3.out.size))
    clear hb4
    go_wp2_with fail
    go_ret
    exact ⟨rfl, HB4.out⟩
  by_cases hE2 : E2 = 0
  rotate_left
  · have d1 : (E2 == 0) = false := by simp [hE2]
    subst hE1
    go_wp2_with fail
    refine (lives_any V3).mono ?_
    rintro e V4 ⟨rfl, hb4⟩
    have HB4 : Hid (Below w.heap.size w V4) := HG.out V4 (HB3.out.trans (hb4.mono HB3.out.size))
    clear hb4
    go_wp2_with fail
    go_ret
    exact ⟨rfl, HB4.out⟩
  subst hE1
  subst hE2
  by_cases hnf : a4 < a3
  · go_wp2_with fail
    refine (lives_any V3).mono ?_
    rintro e V4 ⟨rfl, hb4⟩
    have HB4 : Hid (Below w.heap.size w V4) := HG.out V4 (HB3.out.trans (hb4.mono HB3.out.size))
    clear hb4
    go_wp2_with fail
    go_ret
    exact ⟨rfl, HB4.out⟩
  obtain ⟨W, H, x, y, k, rfl, rfl, rfl, rfl, rfl, hx, hy, hk, hf, hv1⟩ := HY1.out rfl
  obtain ⟨W', H', x', y', k', eW, eH, ex, ey, rfl, _, _, hk', _, hv2⟩ := HY2.out rfl
  obtain rfl : W = W' := by omega
  obtain rfl : H = H' := by omega
  obtain rfl : x = x' := by omega
  obtain rfl : y = y' := by omega
  obtain ⟨L1, hL1⟩ : ∃ L, sn W l x y k (W * H) = L := ⟨_, rfl⟩
  obtain ⟨L2, hL2⟩ : ∃ L, sn W l x y k' (W * H) = L := ⟨_, rfl⟩
  have HWH : Hid (W * H ≤ 1600 ∧ 1 ≤ W * H) := ⟨wh_le hf.1 hf.2.1, one_le hf.1 hf.2.1⟩
  have HF : Hid (okf W H l) := hf
  have HIN : Hid (∀ c ∈ L1, c ∈ L2 ∧ ∃ x' y' : Nat, c = ⟨x', y'⟩ ∧ x' < W ∧ y' < H ∧ se W l x y x' y' = true) := by
    intro c hc
    rw [← hL1] at hc
    rw [← hL2]
    exact sn_in hf.1.1 (by omega) (fun i => .inl rfl) hc
  have HON : Hid (∀ m : List Int, (∀ i, m.getD i 0 = l.getD i 0 ∨ m.getD i 0 = 0) → ∀ c ∈ L1, c ∈ sn W m x y k (W * H)) := by
    intro m hm c hc
    rw [← hL1] at hc
    exact (sn_in hf.1.1 (Int.le_refl _) hm hc).1
  have HSELF : Hid ((⟨(x : Int), (y : Int)⟩ : Cel) ∈ L1) := by unfold Hid; rw [← hL1]; exact sn_self hx hy
  have hl1 : L1.length ≤ 1600 := by rw [← hL1]; exact Nat.le_trans (sn_len _ _ _ _ _ _) HWH.out.1
  have hl2 : L2.length ≤ 1600 := by rw [← hL2]; exact Nat.le_trans (sn_len _ _ _ _ _ _) HWH.out.1
  rw [hL1] at hv1
  rw [hL2] at hv2
  obtain ⟨m1, hm1⟩ : ∃ m, L1.length = m := ⟨_, rfl⟩
  obtain ⟨m2, hm2⟩ : ∃ m, L2.length = m := ⟨_, rfl⟩
  obtain ⟨q1, d1, rfl, hc1⟩ := minec_form hv1 hm1
  obtain ⟨q2, d2, rfl, hc2⟩ := minec_form hv2 hm2
  rw [hm1] at hl1
  rw [hm2] at hl2
  have HM1 : Hid (L1.length = m1) := hm1
  have HM2 : Hid (L2.length = m2) := hm2
  have HC1 : Hid (crow V3 q1 L1) := crow_below hc1 (HB12.out.trans (HB23.out.mono HB12.out.size))
  have HC2 : Hid (crow V3 q2 L2) := crow_below hc2 HB23.out
  have HR3 : Hid (row vi V3 p l) := row_below HR.out HB3.out
  have hnW : n = W * H := by rw [← HN.out]; exact hf.2.2.1
  subst hnW
  obtain ⟨a, rfl⟩ := row_some HR3.out (by rw [hf.2.2.1]; exact HWH.out.2)
  have HBX3 : Hid (∀ V, Below V3.heap.size V3 V → Below w0.heap.size w0 V) := fun V hV => HB3.out.trans (hV.mono HB3.out.size)
  clear HY1 HY2 hv1 hv2 hc1 hc2 hm1 hm2 hL1 hL2 eW eH ex ey hf
  have dn1 : decide (k' < k) = false := by simp; omega
  go_wp2_with fail
  go_loopw [58] (fun i wr => ∃ j : Nat, i = .int .i64 (j : Int) ∧ j ≤ m1 ∧ Hid (Below V3.heap.size V3 wr)) (fun i _ => m1 - (intOf i).toNat)
  case atStart => exact ⟨0, rfl, by omega, Below.refl _ _⟩
  case round =>
    obtain ⟨j, rfl, hj, HS⟩ := hrel
    by_cases hlt : j < m1
    · have hjl : j < L1.length := by rw [HM1.out]; exact hlt
      obtain ⟨b, rfl, ha1, ha2⟩ := crow_at (crow_below HC1.out HS.out) hjl
      obtain ⟨hmem, X, Y, eXY, hX, hY, hse⟩ := HIN.out _ (List.getElem_mem hjl)
      rw [eXY] at ha1 ha2 hmem
      have ha3 : wr.cell? (b.add (j * 2)) = some (.int .i64 (X : Int)) := ha1
      have ha4 : wr.cell? ⟨(b.add (j * 2)).block, (b.add (j * 2)).off + 1, none⟩ = some (.int .i64 (Y : Int)) := cell_two ha2
      have HSE : Hid (se W l x y X Y = true) := hse
      have HMEM : Hid ((⟨(X : Int), (Y : Int)⟩ : Cel) ∈ L2) := hmem
      clear ha1 ha2 eXY hmem hse
      obtain ⟨G, hG⟩ : ∃ G, wr.heap.size = G := ⟨_, rfl⟩
      obtain ⟨V5, hV5⟩ : ∃ V5, wr.alloc (.cells #[.int .i64 (X : Int), .int .i64 (Y : Int)] 26) = V5 := ⟨_, rfl⟩
      have hb5 : Below wr.heap.size wr V5 := by rw [← hV5]; exact alloc_below _ _
      have HS5 : Hid (Below V3.heap.size V3 V5) := HS.out.trans (hb5.mono HS.out.size)
      obtain ⟨z0, z1, z2, z3, z4, z5, z6⟩ := HBX.out V5 (HBX3.out V5 HS5.out)
      have g01 : V5.cell? ⟨G, 0, none⟩ = some (.int .i64 (X : Int)) ∧ V5.cell? ⟨G, 1, none⟩ = some (.int .i64 (Y : Int)) := by rw [← hV5, ← hG]; constructor <;> simp [go_sem]
      obtain ⟨g0, g1⟩ := g01
      have l1 : (j : Int) < m1 := by omega
      have l2 : (0 : Int) ≤ j := by omega
      clear hb5
      go_wp2_with fail
      refine (Sees_ok W H a c l x y X Y true V5 (row_below HR3.out HS5.out) HF.out hx hy hX hY HSE).mono ?_
      rintro e V6 ⟨rfl, hb6⟩
      have HS6 : Hid (Below V3.heap.size V3 V6) := HS5.out.trans (hb6.mono HS5.out.size)
      have p0 : V6.cell? ⟨G, 0, none⟩ = some (.int .i64 (X : Int)) := (hb6.cell (p := ⟨G, 0, none⟩) (cell_lt g0)).trans g0
      have p1 : V6.cell? ⟨G, 1, none⟩ = some (.int .i64 (Y : Int)) := (hb6.cell (p := ⟨G, 1, none⟩) (cell_lt g1)).trans g1
      clear hb6 z0 z1 z2 z3 z4 z5 z6 g0 g1 hV5
      go_wp2_with fail
      refine (Containsc_yes q2 m2 d2 L2 X Y V6 HM2.out (by omega) (crow_below HC2.out HS6.out) HMEM.out).mono ?_
      rintro e V7 ⟨rfl, hb7⟩
      have HS7 : Hid (Below V3.heap.size V3 V7) := HS6.out.trans (hb7.mono HS6.out.size)
      clear hb7 p0 p1
      go_wp2_with fail
      go_roundw
      case rel => exact ⟨j + 1, by go_num, by omega, HS7⟩
      case measure => simp [intOf]; omega
    · obtain ⟨V4, hV4⟩ : ∃ V4 : World, V4 = wr := ⟨_, rfl⟩
      subst hV4
      have l1 : ¬ (j : Int) < m1 := by omega
      obtain ⟨f0, f1, f2, f3, f4, f5, f6⟩ := HBX.out V4 (HBX3.out V4 HS.out)
      go_wp2_with fail
      have HR4 : Hid (row vi V4 (some a) l) := row_below HR3.out HS.out
      have hN1 : 1 ≤ W * H := HWH.out.2
      have hN2 : W * H ≤ 1600 := HWH.out.1
      clear f3 f4 f5 f6
      refine cut_wp (fun a' w' => ∃ T g cap : Nat, a' = { tmps := #[Value.agg #[Value.int IntKind.i64 (W : Int), Value.int IntKind.i64 (H : Int), Value.slice (some a) (W * H) c], Value.agg #[Value.int IntKind.i64 (x : Int), Value.int IntKind.i64 (y : Int)], Value.agg #[Value.int IntKind.i64 x2, Value.int IntKind.i64 y2], Value.int IntKind.i64 (k : Int), Value.int IntKind.i64 (k' : Int), Value.pointer (some ⟨F, 0, none⟩), Value.pointer (some ⟨F + 1, 0, none⟩), Value.pointer (some ⟨F + 1 + 1, 0, none⟩), undef, undef, u10, Value.slice q1 m1 d1, Value.int IntKind.i64 0, Value.slice q2 m2 d2, Value.int IntKind.i64 0, undef, u16, u17, u18, .pointer (some ⟨T, 0, none⟩), undef, undef, undef, undef, undef, undef, Value.tuple #[Value.slice q1 m1 d1, Value.int IntKind.i64 0], Value.agg #[Value.int IntKind.i64 (W : Int), Value.int IntKind.i64 (H : Int), Value.slice (some a) (W * H) c], Value.agg #[Value.int IntKind.i64 (x : Int), Value.int IntKind.i64 (y : Int)], Value.int IntKind.i64 (k : Int), Value.tuple #[Value.slice q1 m1 d1, Value.int IntKind.i64 0], Value.slice q1 m1 d1, Value.int IntKind.i64 0, Value.tuple #[Value.slice q2 m2 d2, Value.int IntKind.i64 0], Value.agg #[Value.int IntKind.i64 (W : Int), Value.int IntKind.i64 (H : Int), Value.slice (some a) (W * H) c], Value.agg #[Value.int IntKind.i64 (x : Int), Value.int IntKind.i64 (y : Int)], Value.int IntKind.i64 (k' : Int), Value.tuple #[Value.slice q2 m2 d2, Value.int IntKind.i64 0], Value.slice q2 m2 d2, Value.int IntKind.i64 0, Value.bool true, Value.bool false, Value.bool false, Value.int IntKind.i64 0, Value.bool false, Value.bool false, Value.bool false, Value.int IntKind.i64 0, Value.bool false, Value.bool false, Value.bool false, Value.int IntKind.i64 (k : Int), Value.int IntKind.i64 (k' : Int), Value.bool false, Value.bool false, undef, Value.slice q1 m1 d1, Value.int IntKind.i64 (m1 : Int), Value.int IntKind.i64 (j : Int), Value.bool false, u60, u61, u62, u63, u64, u65, u66, u67, u68, u69, u70, u71, u72, u73, u74, u75, u76, u77, u78, u79, u80, u81, .pointer (some ⟨F, 0, none⟩), .int .i64 (W : Int), .pointer (some ⟨F, 1, none⟩), .int .i64 (H : Int), .pointer (some ⟨F, 2, none⟩), .slice (some a) (W * H) c, .slice (some ⟨g, 0, none⟩) (W * H) cap, .agg #[.int .i64 (W : Int), .int .i64 (H : Int), .slice (some ⟨g, 0, none⟩) (W * H) cap], undef, undef, undef, undef, undef, undef, undef, undef, undef, undef, undef, undef, undef, undef, undef, undef, undef, undef, undef, undef, undef, undef, undef, undef, undef, undef, undef, undef, undef, undef, undef, undef, undef, undef, undef, undef, undef, undef, undef, undef, undef, undef, undef, undef], defers := [] } ∧ fin3 V4 T g cap (W * H) W H l w') ?first ?rest
      case first =>
        go_region_held3 (fun V => Below V4.heap.size V4 V ∧ V.cell? ⟨F, 0, none⟩ = some (.int .i64 (W : Int)) ∧ V.cell? ⟨F, 1, none⟩ = some (.int .i64 (H : Int)) ∧ V.cell? ⟨F, 2, none⟩ = some (.slice (some a) (W * H) c)) (first | with_reducible assumption | with_reducible exact k3_drew (by assumption) | with_reducible exact k3_drewN (by assumption) _ | with_reducible exact k3_call (by assumption) (by assumption) | with_reducible exact k3_alloc (by assumption) _ | with_reducible exact k3_of f0 f1 f2 (hB13.alloc hB13.size _) | with_reducible exact k3_of f0 f1 f2 (below_set3 hB13 (Nat.le_refl _) _ _ _) | with_reducible exact k3_of f0 f1 f2 (Below.drew (Below.refl _ _)) | with_reducible exact k3_of f0 f1 f2 (below_one _ _) | with_reducible exact k3_of f0 f1 f2 (Below.refl _ _)) (first
          | (go_at_call 16; refine (Clone_form a (W * H) c l _ (k3_row HR4.out (by assumption)) HF.out.2.2.1 hN1 hN2).mono ?_; rintro e w3 ⟨g, cap, rfl, hm3, hc3, hb3⟩; have hB13 : Below V4.heap.size V4 w3 := k3_bel hb3 (by assumption); first | (with_reducible (have y5 := fld_at (T := V4.heap.size) hb3 (hi0 _ _)); obtain ⟨y0, y1, y2, y3, y4, y5⟩ := y5) | skip))
        · exact ⟨_, g, cap, rfl, fin3_alloc hB13 hm3 (Nat.le_refl _)⟩
        · exact ⟨_, g, cap, rfl, fin3_set (below_one _ _).size (Nat.le_refl _) (hi0 _ _) hb3 hB13 hm3⟩
      case rest =>
        rintro a' V8 ⟨T, g, cap, rfl, hfin⟩
        have HFIN : Hid (fin3 V4 T g cap (W * H) W H l V8) := hfin
        have HS8 : Hid (Below V3.heap.size V3 V8) := HS.out.trans (hfin.2.2.1.mono HS.out.size)
        clear hfin f0 f1 f2
        obtain ⟨f0, f1, f2, f3, f4, f5, f6⟩ := HBX.out V8 (HBX3.out V8 HS8.out)
        obtain ⟨E3, hE3⟩ : ∃ E3, cer W H l x2 y2 = E3 := ⟨_, rfl⟩
        have HE3 : Hid (cer W H l x2 y2 = E3) := hE3
        clear hE3
        go_wp2_with fail
        refine (At_any (W : Int) (H : Int) (some a) (W * H) c l x2 y2 E3 V8 (row_below HR3.out HS8.out) HN.out hlen HE3).mono ?_
        rintro e V9 ⟨Z, rfl, hb9⟩
        have HB9 : Hid (Below V8.heap.size V8 V9) := hb9
        have HS9 : Hid (Below V3.heap.size V3 V9) := HS8.out.trans (hb9.mono HS8.out.size)
        clear hb9 f0 f1 f2 f3 f4 f5 f6
        by_cases h3 : E3 = 0
        · subst h3
          obtain ⟨W', H', rx, ry, eW, eH, rfl, rfl, hrx, hry, _⟩ := cer_yes HE3.out
          obtain rfl : W = W' := by omega
          obtain rfl : H = H' := by omega
          obtain ⟨T1, hT1⟩ : ∃ T1 : Nat, ry * W = T1 := ⟨_, rfl⟩
          obtain ⟨J, hJ⟩ : ∃ J : Nat, T1 + rx = J := ⟨_, rfl⟩
          have hJl : J < W * H := by rw [← hJ, ← hT1]; exact ix_lt hrx hry
          have eT : IntKind.i64.wrap ((ry : Int) * (W : Int)) = (T1 : Int) := by rw [← Int.natCast_mul, hT1]; exact wrp (by omega) (by omega)
          have eJ : (T1 : Int) + rx = J := by omega
          have eJ2 : IntKind.i64.wrap (J : Int) = J := wrp (by omega) (by omega)
          have hJi : (J : Int) < W * H := by omega
          have hJ0 : (0 : Int) ≤ J := by omega
          obtain ⟨f0, f1, f2, f3, f4, f5, f6⟩ := HBX.out V9 (HBX3.out V9 HS9.out)
          obtain ⟨t0, t1, t2⟩ := fin3_box HFIN.out V9 HB9.out
          have hfr : V9.frozen? ⟨g, J, none⟩ = false := mine_free (mine_below HFIN.out.2.1 HB9.out) HF.out.2.2.1 J
          obtain ⟨ad, had, hcl⟩ := row_at (fin3_row (fin3_later HFIN.out HB9.out) HF.out.2.2.1 hN1) (j := J) (by rw [HF.out.2.2.1]; exact hJl)
          cases had
          rw [add_zero_at] at hcl
          obtain ⟨Z2, hZ2⟩ : ∃ Z2, vi (l[J]'(by rw [HF.out.2.2.1]; exact hJl)) = Z2 := ⟨_, rfl⟩
          rw [hZ2] at hcl
          obtain ⟨V10, hV10⟩ : ∃ V10, V9.setCell ⟨g, J, none⟩ (.int .i64 0) = V10 := ⟨_, rfl⟩
          have HFI : Hid (fin3 V4 T g cap (W * H) W H (l.set J 0) V10) := by unfold Hid; rw [← hV10]; exact fin3_put HFIN.out HF.out.2.2.1 HB9.out 0
          have HS10 : Hid (Below V3.heap.size V3 V10) := HS.out.trans (HFI.out.2.2.1.mono HS.out.size)
          obtain ⟨M, hM⟩ : ∃ M, l.set J 0 = M := ⟨_, rfl⟩
          have HOM : Hid (okf W H M) := by unfold Hid; rw [← hM]; exact okf_set HF.out
          have HLM : Hid (M.length = W * H) := HOM.out.2.2.1
          have HPL : Hid (∀ c ∈ L1, c ∈ sn W M x y k (W * H)) := by unfold Hid; rw [← hM]; exact HON.out _ set_plain
          rw [hM] at HFI
          obtain ⟨e0, e1, e2⟩ := fin3_box HFI.out V10 (Below.refl _ _)
          obtain ⟨k0, k1, k2, k3, k4, k5, k6⟩ := HBX.out V10 (HBX3.out V10 HS10.out)
          clear hT1 hJ hZ2 hM eW eH
          go_wp2_with fail
          refine (Seen_ok W H ⟨g, 0, none⟩ cap M x y k V10 (fin3_row HFI.out HLM.out hN1) HOM.out hx hy hk).mono ?_
          rintro e V11 ⟨v3, rfl, hv3, hb11⟩
          obtain ⟨L3, hL3⟩ : ∃ L, sn W M x y k (W * H) = L := ⟨_, rfl⟩
          have hl3 : L3.length ≤ 1600 := by rw [← hL3]; exact Nat.le_trans (sn_len _ _ _ _ _ _) HWH.out.1
          obtain ⟨m3, hm3⟩ : ∃ m, L3.length = m := ⟨_, rfl⟩
          rw [hL3] at hv3
          rw [hm3] at hl3
          obtain ⟨q3, d3', rfl, hc3⟩ := minec_form hv3 hm3
          have HM3 : Hid (L3.length = m3) := hm3
          have HC3 : Hid (crow V11 q3 L3) := hc3
          have HP3 : Hid (∀ c ∈ L1, c ∈ L3) := by unfold Hid; rw [← hL3]; exact HPL.out
          have HS11 : Hid (Below V3.heap.size V3 V11) := HS10.out.trans (hb11.mono HS10.out.size)
          clear hb11 hL3 hm3 hv3 hc3 e0 e1 e2 k0 k1 k2 k3 k4 k5 k6 f0 f1 f2 f3 f4 f5 f6 t0 t1 t2 hcl hfr hV10
          go_wp2_with fail
          go_loopw [118] (fun i wr => ∃ s : Nat, i = .int .i64 (s : Int) ∧ s ≤ m1 ∧ Hid (Below V11.heap.size V11 wr)) (fun i _ => m1 - (intOf i).toNat)
          case atStart => exact ⟨0, rfl, by omega, Below.refl _ _⟩
          case round =>
            obtain ⟨s, rfl, hs, HT⟩ := hrel
            have HTS : Hid (Below V3.heap.size V3 wr) := HS11.out.trans (HT.out.mono HS11.out.size)
            by_cases hlt2 : s < m1
            · have hsl : s < L1.length := by rw [HM1.out]; exact hlt2
              obtain ⟨b, rfl, ha1, ha2⟩ := crow_at (crow_below HC1.out HTS.out) hsl
              have hmem := HP3.out _ (List.getElem_mem hsl)
              obtain ⟨X, hX⟩ : ∃ X, L1[s].x = X := ⟨_, rfl⟩
              obtain ⟨Y, hY⟩ : ∃ Y, L1[s].y = Y := ⟨_, rfl⟩
              have eXY : L1[s] = ⟨X, Y⟩ := by rw [← hX, ← hY]
              rw [hX] at ha1
              rw [hY] at ha2
              rw [eXY] at hmem
              have ha3 : wr.cell? (b.add (s * 2)) = some (.int .i64 X) := ha1
              have ha4 : wr.cell? ⟨(b.add (s * 2)).block, (b.add (s * 2)).off + 1, none⟩ = some (.int .i64 Y) := cell_two ha2
              have HMEM : Hid ((⟨X, Y⟩ : Cel) ∈ L3) := hmem
              clear ha1 ha2 eXY hmem hX hY
              obtain ⟨G, hG⟩ : ∃ G, wr.heap.size = G := ⟨_, rfl⟩
              obtain ⟨V12, hV12⟩ : ∃ V12, wr.alloc (.cells #[.int .i64 X, .int .i64 Y] 26) = V12 := ⟨_, rfl⟩
              have hb12 : Below wr.heap.size wr V12 := by rw [← hV12]; exact alloc_below _ _
              have HS12 : Hid (Below V11.heap.size V11 V12) := HT.out.trans (hb12.mono HT.out.size)
              have g01 : V12.cell? ⟨G, 0, none⟩ = some (.int .i64 X) ∧ V12.cell? ⟨G, 1, none⟩ = some (.int .i64 Y) := by rw [← hV12, ← hG]; constructor <;> simp [go_sem]
              obtain ⟨g0, g1⟩ := g01
              have l3 : (s : Int) < m1 := by omega
              have l4 : (0 : Int) ≤ s := by omega
              clear hb12
              go_wp2_with fail
              refine (Containsc_yes q3 m3 d3' L3 X Y V12 HM3.out (by omega) (crow_below HC3.out HS12.out) HMEM.out).mono ?_
              rintro e V13 ⟨rfl, hb13⟩
              have HS13 : Hid (Below V11.heap.size V11 V13) := HS12.out.trans (hb13.mono HS12.out.size)
              clear hb13 g0 g1 hV12
              go_wp2_with fail
              go_roundw
              case rel => exact ⟨s + 1, by go_num, by omega, HS13⟩
              case measure => simp [intOf]; omega
            · have l3 : ¬ (s : Int) < m1 := by omega
              obtain ⟨i0, i1, i2, i3, i4, i5, i6⟩ := HBX.out wr (HBX3.out wr HTS.out)
              go_wp2_with fail
              refine (Containsc_yes q1 m1 d1 L1 x y wr HM1.out (by omega) (crow_below HC1.out HTS.out) HSELF.out).mono ?_
              rintro e V14 ⟨rfl, hb14⟩
              have HS14 : Hid (Below w.heap.size w V14) := HG.out V14 (HBX3.out V14 (HTS.out.trans (hb14.mono HTS.out.size)))
              clear hb14
              go_wp2_with fail
              go_ret
              exact ⟨rfl, by first | exact HS14.out | (rw [← hF]; exact HS14.out)⟩
        · have d3 : (E3 == 0) = false := by simp [h3]
          have HFI : Hid (fin3 V4 T g cap (W * H) W H l V9) := fin3_later HFIN.out HB9.out
          obtain ⟨V10, hV10⟩ : ∃ V10 : World, V10 = V9 := ⟨_, rfl⟩
          subst hV10
          have HS10 : Hid (Below V3.heap.size V3 V10) := HS9.out
          obtain ⟨M, hM⟩ : ∃ M, l = M := ⟨_, rfl⟩
          have HOM : Hid (okf W H M) := by unfold Hid; rw [← hM]; exact HF.out
          have HLM : Hid (M.length = W * H) := HOM.out.2.2.1
          have HPL : Hid (∀ c ∈ L1, c ∈ sn W M x y k (W * H)) := by unfold Hid; rw [← hM]; exact HON.out _ (fun i => .inl rfl)
          rw [hM] at HFI
          obtain ⟨e0, e1, e2⟩ := fin3_box HFI.out V10 (Below.refl _ _)
          obtain ⟨k0, k1, k2, k3, k4, k5, k6⟩ := HBX.out V10 (HBX3.out V10 HS10.out)
          clear hM
          go_wp2_with fail
          refine (Seen_ok W H ⟨g, 0, none⟩ cap M x y k V10 (fin3_row HFI.out HLM.out hN1) HOM.out hx hy hk).mono ?_
          rintro e V11 ⟨v3, rfl, hv3, hb11⟩
          obtain ⟨L3, hL3⟩ : ∃ L, sn W M x y k (W * H) = L := ⟨_, rfl⟩
          have hl3 : L3.length ≤ 1600 := by rw [← hL3]; exact Nat.le_trans (sn_len _ _ _ _ _ _) HWH.out.1
          obtain ⟨m3, hm3⟩ : ∃ m, L3.length = m := ⟨_, rfl⟩
          rw [hL3] at hv3
          rw [hm3] at hl3
          obtain ⟨q3, d3', rfl, hc3⟩ := minec_form hv3 hm3
          have HM3 : Hid (L3.length = m3) := hm3
          have HC3 : Hid (crow V11 q3 L3) := hc3
          have HP3 : Hid (∀ c ∈ L1, c ∈ L3) := by unfold Hid; rw [← hL3]; exact HPL.out
          have HS11 : Hid (Below V3.heap.size V3 V11) := HS10.out.trans (hb11.mono HS10.out.size)
          clear hb11 hL3 hm3 hv3 hc3 e0 e1 e2 k0 k1 k2 k3 k4 k5 k6
          go_wp2_with fail
          go_loopw [118] (fun i wr => ∃ s : Nat, i = .int .i64 (s : Int) ∧ s ≤ m1 ∧ Hid (Below V11.heap.size V11 wr)) (fun i _ => m1 - (intOf i).toNat)
          case atStart => exact ⟨0, rfl, by omega, Below.refl _ _⟩
          case round =>
            obtain ⟨s, rfl, hs, HT⟩ := hrel
            have HTS : Hid (Below V3.heap.size V3 wr) := HS11.out.trans (HT.out.mono HS11.out.size)
            by_cases hlt2 : s < m1
            · have hsl : s < L1.length := by rw [HM1.out]; exact hlt2
              obtain ⟨b, rfl, ha1, ha2⟩ := crow_at (crow_below HC1.out HTS.out) hsl
              have hmem := HP3.out _ (List.getElem_mem hsl)
              obtain ⟨X, hX⟩ : ∃ X, L1[s].x = X := ⟨_, rfl⟩
              obtain ⟨Y, hY⟩ : ∃ Y, L1[s].y = Y := ⟨_, rfl⟩
              have eXY : L1[s] = ⟨X, Y⟩ := by rw [← hX, ← hY]
              rw [hX] at ha1
              rw [hY] at ha2
              rw [eXY] at hmem
              have ha3 : wr.cell? (b.add (s * 2)) = some (.int .i64 X) := ha1
              have ha4 : wr.cell? ⟨(b.add (s * 2)).block, (b.add (s * 2)).off + 1, none⟩ = some (.int .i64 Y) := cell_two ha2
              have HMEM : Hid ((⟨X, Y⟩ : Cel) ∈ L3) := hmem
              clear ha1 ha2 eXY hmem hX hY
              obtain ⟨G, hG⟩ : ∃ G, wr.heap.size = G := ⟨_, rfl⟩
              obtain ⟨V12, hV12⟩ : ∃ V12, wr.alloc (.cells #[.int .i64 X, .int .i64 Y] 26) = V12 := ⟨_, rfl⟩
              have hb12 : Below wr.heap.size wr V12 := by rw [← hV12]; exact alloc_below _ _
              have HS12 : Hid (Below V11.heap.size V11 V12) := HT.out.trans (hb12.mono HT.out.size)
              have g01 : V12.cell? ⟨G, 0, none⟩ = some (.int .i64 X) ∧ V12.cell? ⟨G, 1, none⟩ = some (.int .i64 Y) := by rw [← hV12, ← hG]; constructor <;> simp [go_sem]
              obtain ⟨g0, g1⟩ := g01
              have l3 : (s : Int) < m1 := by omega
              have l4 : (0 : Int) ≤ s := by omega
              clear hb12
              go_wp2_with fail
              refine (Containsc_yes q3 m3 d3' L3 X Y V12 HM3.out (by omega) (crow_below HC3.out HS12.out) HMEM.out).mono ?_
              rintro e V13 ⟨rfl, hb13⟩
              have HS13 : Hid (Below V11.heap.size V11 V13) := HS12.out.trans (hb13.mono HS12.out.size)
              clear hb13 g0 g1 hV12
              go_wp2_with fail
              go_roundw
              case rel => exact ⟨s + 1, by go_num, by omega, HS13⟩
              case measure => simp [intOf]; omega
            · have l3 : ¬ (s : Int) < m1 := by omega
              obtain ⟨i0, i1, i2, i3, i4, i5, i6⟩ := HBX.out wr (HBX3.out wr HTS.out)
              go_wp2_with fail
              refine (Containsc_yes q1 m1 d1 L1 x y wr HM1.out (by omega) (crow_below HC1.out HTS.out) HSELF.out).mono ?_
              rintro e V14 ⟨rfl, hb14⟩
              have HS14 : Hid (Below w.heap.size w V14) := HG.out V14 (HBX3.out V14 (HTS.out.trans (hb14.mono HTS.out.size)))
              clear hb14
              go_wp2_with fail
              go_ret
              exact ⟨rfl, by first | exact HS14.out | (rw [← hF]; exact HS14.out)⟩

set_option maxRecDepth 100000 in
theorem lifted (os : Os) (started : os.Started) (H : Type) (enc : TypeId × Value → H) :
    ReturnsInHanded {} Try.checked os 5 .any (Rows.sightMoreSpec.pre6 enc Try.prog Try.f5 Rows.sightMoreRow.domain false) (Rows.sightMoreSpec.post enc Try.prog Try.f5 false true false false) := by
  refine returnsInHanded_of_change_sized (C := Try.checked) own started (by kernel_rfl) Try.func5
    (ChangeSpec.witness6 (enc := enc) (C := Try.checked) false ⟨#[], #[.agg #[.int .i64 0, .int .i64 0, .slice none 0 0], .agg #[.int .i64 0, .int .i64 0], .agg #[.int .i64 0, .int .i64 0], .int .i64 0, .int .i64 0], []⟩ 8 (by kernel_rfl) (by kernel_rfl) (by kernel_rfl) (by kernel_rfl)) ?_
  intro W base args ds gs before hval0 hW hcnd hsz _
  have hval : ∀ (j : Nat) t v, Try.f5.params[j]? = some t → args[j]? = some v → Value.okWide Try.prog W .any base t v := hval0
  have hW' := hW
  obtain ⟨p, q, hA0, hV, rfl, hfz, hnd⟩ := hW
  have hA : DataW.TrodAll enc Try.prog W 0 (fun _ => true) true Try.f5.params.toList args.toList ds p := hA0
  rw [Try.params5] at hA hval
  obtain ⟨v0, vs0, d0, ds0, p0, q0, hargs, rfl, rfl, h0, r0⟩ := trodAll_cons hA
  obtain ⟨v1, vs1, d1, ds1, p1, q1, rfl, rfl, rfl, h1, r1⟩ := trodAll_cons r0
  obtain ⟨v2, vs2, d2, ds2, p2, q2, rfl, rfl, rfl, h2, r2⟩ := trodAll_cons r1
  obtain ⟨v3, vs3, d3, ds3, p3, q3, rfl, rfl, rfl, h3, r3⟩ := trodAll_cons r2
  obtain ⟨v4, vs4, d4, ds4, p4, q4, rfl, rfl, rfl, h4, r4⟩ := trodAll_cons r3
  obtain ⟨rfl, rfl, rfl⟩ := trodAll_nil r4
  obtain rfl : args = #[v0, v1, v2, v3, v4] := by cases args; simp_all
  obtain ⟨rfl, rfl⟩ := trodVars_none hV
  obtain ⟨s0, rfl, k0, d20, rfl, t0⟩ := open_fld Try.underlying24 Try.underlying3 Try.underlying22 rfl rfl rfl rfl rfl rfl (by kernel_rfl) (by kernel_rfl) (by kernel_rfl) (hval 0 24 v0 rfl rfl) h0
  obtain ⟨x1, y1, rfl, rfl, rfl, w1x, w1y⟩ := open_two Try.underlying26 Try.underlying3 Try.underlying3 rfl rfl (by kernel_rfl) (by kernel_rfl) (by kernel_rfl) (hval 1 26 v1 rfl rfl) h1
  obtain ⟨x2, y2, rfl, rfl, rfl, w2x, w2y⟩ := open_two Try.underlying26 Try.underlying3 Try.underlying3 rfl rfl (by kernel_rfl) (by kernel_rfl) (by kernel_rfl) (hval 2 26 v2 rfl rfl) h2
  obtain ⟨a3, rfl, rfl, rfl, w3⟩ := open_int Try.underlying3 (hval 3 3 v3 rfl rfl) h3
  obtain ⟨a4, rfl, rfl, rfl, w4⟩ := open_int Try.underlying3 (hval 4 3 v4 rfl rfl) h4
  have hs0 : s0.l.length * 8 ≤ 140737488351232 := fld_sized hsz (j := 0) rfl rfl Try.underlying24 rfl Try.underlying22 (by kernel_rfl) t0
  clear hA0 hval0
  refine (walk s0 x1 y1 x2 y2 a3 a4 w1x w1y w2x w2y w3 w4 W k0 hs0).mono fun e W' ⟨he, hg⟩ => ?_
  subst he
  exact ⟨_, rfl, law_post (by kernel_rfl) (by kernel_rfl) rfl (by kernel_rfl) Try.underlying4 hW' rfl hg⟩

theorem over : Rows.sightMoreRow.holds Try.pinned (OpenSpec.ofChange Rows.sightMoreSpec) :=
  OpenClaim.holds_of_wide 5 Try.f5 rfl rfl rfl rfl rfl rfl rfl ⟨rfl, rfl, rfl, rfl, rfl⟩ rfl rfl rfl rfl rfl (by kernel_rfl) Try.func5 (by kernel_rfl)
    (of_decide_eq_true (by kernel_rfl)) (by unfold Func.isWrapper; first | (rw [if_pos (by decide +kernel)]; kernel_rfl) | (rw [if_neg (by decide +kernel)]; exact ⟨rfl, rfl⟩))
    (fun os started H enc _ => lifted os started H enc)

theorem proved : Rows.SightMoreSaid :=
  over
end Go.Proofs.Yteemcighpoomhaa.sightMore

namespace Go.Proofs.Yteemcighpoomhaa
/-- Whatever field, cell, rock, near and far are handed in, who looks farther sees all that there was, what sight.Seen tells is what sight.Sees tells, and where a place becomes plain nothing that was seen is lost; in the model of Go at this commit, for every argument. -/
theorem sightMore_holds : Rows.SightMoreSaid := sightMore.proved
#print axioms sightMore_holds
end Go.Proofs.Yteemcighpoomhaa
