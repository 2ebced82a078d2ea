/- FloodBack: whatever is handed in, the law answers true: from one cell to another it is as far as back, but for what both ends cost. No conditions. -/
import Derived.Test.YtlekihmlifkjmaaRows
import Derived.Test.YtlekihmlifkjmaaPost
import Derived.Test.YtlekihmlifkjmaaFw
import Derived.WalkKit
import Derived.ProofKit
import Derived.OpenShut
import Derived.SizedLaws
import Derived.ChangeMaps5
import Derived.JoinedCond
namespace Go.Proofs.Ytlekihmlifkjmaa.floodBack
open Go.ChangeShapes Go.WideShapes Go.ChangeAt Go.RowKit
set_option linter.unusedVariables false

theorem own : ownKnob Try.prog.godebug = none := by kernel_rfl

theorem box223 {w w0 V : World} {a b c d e f g : Value} {t t2 t3 : TypeId} {F : Nat} (hF : w.heap.size = F) (hw : ((w.alloc (.cells #[a, b, c] t)).alloc (.cells #[d, e] t2)).alloc (.cells #[f, g] t3) = w0) (hb : Below w0.heap.size w0 V) :
    V.cell? ⟨F, 0, none⟩ = some a ∧ V.cell? ⟨F, 1, none⟩ = some b ∧ V.cell? ⟨F, 2, none⟩ = some c ∧ V.cell? ⟨F + 1, 0, none⟩ = some d ∧ V.cell? ⟨F + 1, 1, none⟩ = some e ∧ V.cell? ⟨F + 2, 0, none⟩ = some f ∧ V.cell? ⟨F + 2, 1, none⟩ = some g := by
  subst hw hF
  refine ⟨?_, ?_, ?_, ?_, ?_, ?_, ?_⟩
  all_goals
    rw [hb.cell (by simp <;> omega)]
    simp [go_sem]
/-- How both floods ended. -/
def two (A B : Int) (l : List Int) (n : Nat) (c1 c2 : Cel) (w0 w2 : World) (v1 v2 : Value) (e1 e2 : Int) : Prop :=
  (e1 ≠ 0 ∨ e2 ≠ 0) ∨ ∃ (W H g1 g2 : Nat) (far1 far2 : List Int), A = W ∧ B = H ∧ n = W * H ∧ okf W H l ∧ cke W H l [c1] = 0 ∧ cke W H l [c2] = 0 ∧ e1 = 0 ∧ e2 = 0 ∧ v1 = .slice (some ⟨g1, 0, none⟩) (W * H) (W * H) ∧ v2 = .slice (some ⟨g2, 0, none⟩) (W * H) (W * H) ∧ row vi w2 (some ⟨g1, 0, none⟩) far1 ∧ row vi w2 (some ⟨g2, 0, none⟩) far2 ∧ Sol W H l (fst_ W [c1]) far1 ∧ Sol W H l (fst_ W [c2]) far2

set_option maxRecDepth 20000 in
set_option maxHeartbeats 4000000 in
theorem walk (s0 : Fld) (x1 y1 : Int) (x2 y2 : Int) (w1x : (Lit.int .i64 x1).wf = true) (w1y : (Lit.int .i64 y1).wf = true) (w2x : (Lit.int .i64 x2).wf = true) (w2y : (Lit.int .i64 y2).wf = true) (w : World) (h0 : s0.fit w) (hs0 : s0.l.length * 8 ≤ 140737488351232) :
    Calls Try.prog 6 #[s0.val, .agg #[.int .i64 x1, .int .i64 y1], .agg #[.int .i64 x2, .int .i64 y2]] w fun e w' => e = .returned (.bool true) ∧ Below w.heap.size w w' := by
  obtain ⟨A, B, p, c, l⟩ := s0
  obtain ⟨hA, hB, hrow, hfit, hlen, hpc, hlc⟩ := h0
  unfold Fld.val
  simp only at hA hB hrow hfit hlen hpc hlc hs0 ⊢
  obtain ⟨n, hn⟩ : ∃ n, l.length = n := ⟨_, rfl⟩
  rw [hn] at hlen hlc ⊢
  have HR : Hid (row vi w p l) := hrow
  have HN : Hid (l.length = n) := hn
  clear hrow hn hfit hs0
  obtain ⟨F, hF⟩ : ∃ F, w.heap.size = F := ⟨_, rfl⟩
  obtain ⟨w0, hw0⟩ : ∃ w0, ((w.alloc (.cells #[.int .i64 A, .int .i64 B, .slice p n c] 24)).alloc (.cells #[.int .i64 x1, .int .i64 y1] 38)).alloc (.cells #[.int .i64 x2, .int .i64 y2] 38) = w0 := ⟨_, rfl⟩
  have HBX : Hid (∀ V, Below w0.heap.size w0 V → V.cell? ⟨F, 0, none⟩ = some (.int .i64 A) ∧ V.cell? ⟨F, 1, none⟩ = some (.int .i64 B) ∧ V.cell? ⟨F, 2, none⟩ = some (.slice p n c) ∧ V.cell? ⟨F + 1, 0, none⟩ = some (.int .i64 x1) ∧ V.cell? ⟨F + 1, 1, none⟩ = some (.int .i64 y1) ∧ V.cell? ⟨F + 2, 0, none⟩ = some (.int .i64 x2) ∧ V.cell? ⟨F + 2, 1, none⟩ = some (.int .i64 y2)) := fun V hV => box223 hF hw0 hV
  have HB0 : Hid (Below w.heap.size w w0) := by rw [← hw0]; exact ((alloc_below w _).alloc (by simp) _).alloc (by simp; omega) _
  obtain ⟨z0, z1, z2, z3, z4, z5, z6⟩ := HBX.out w0 (Below.refl _ _)
  go_enter Try.func6, Try.ntmps6
  go_wp2_with fail
  obtain ⟨w1, hw1⟩ : ∃ w1, w0.alloc (.cells #[.int .i64 x1, .int .i64 y1] 38) = w1 := ⟨_, rfl⟩
  have hb1 : Below w0.heap.size w0 w1 := by rw [← hw1]; exact alloc_below _ _
  have hc1 : crow w1 (some ⟨w0.heap.size, 0, none⟩) [⟨x1, y1⟩] := by rw [← hw1]; exact crow_one _ _ _
  rw [hw1]
  refine (From_any A B p (some ⟨w0.heap.size, 0, none⟩) n c 1 1 l [⟨x1, y1⟩] w1 (row_below HR.out (HB0.out.trans (hb1.mono HB0.out.size))) HN.out hlen hc1 rfl).mono ?_
  rintro e w2 ⟨hcase1, hb2⟩
  have hB02 : Below w0.heap.size w0 w2 := hb1.trans (hb2.mono hb1.size)
  obtain ⟨v1, e1, rfl, hcs1⟩ : ∃ v1 e1, e = .returned (.tuple #[v1, .int .i64 e1]) ∧ (e1 ≠ 0 ∨ ∃ (W H g1 : Nat) (far1 : List Int), A = W ∧ B = H ∧ n = W * H ∧ okf W H l ∧ cke W H l [⟨x1, y1⟩] = 0 ∧ e1 = 0 ∧ v1 = .slice (some ⟨g1, 0, none⟩) (W * H) (W * H) ∧ row vi w2 (some ⟨g1, 0, none⟩) far1 ∧ Sol W H l (fst_ W [⟨x1, y1⟩]) far1) := by
    rcases hcase1 with ⟨E, hE, _, rfl⟩ | ⟨W, H, g, far, hA', hB', hn', hok, _, hck, rfl, hm, hsol⟩
    · exact ⟨_, _, rfl, .inl hE⟩
    · exact ⟨_, _, rfl, .inr ⟨W, H, g, far, hA', hB', hn', hok, hck, rfl, rfl, mine_row hm, hsol⟩⟩
  have HC1 : Hid _ := hcs1
  have HB2 : Hid (Below w0.heap.size w0 w2) := hB02
  obtain ⟨k0, k1, k2, k3, k4, k5, k6⟩ := HBX.out w2 hB02
  clear hcase1 hb2 hB02 hb1 hc1 hw1 hcs1 z0 z1 z2 z3 z4 z5 z6
  go_wp2_with fail
  obtain ⟨w3, hw3⟩ : ∃ w3, w2.alloc (.cells #[.int .i64 x2, .int .i64 y2] 38) = w3 := ⟨_, rfl⟩
  have hb3 : Below w2.heap.size w2 w3 := by rw [← hw3]; exact alloc_below _ _
  have hc3 : crow w3 (some ⟨w2.heap.size, 0, none⟩) [⟨x2, y2⟩] := by rw [← hw3]; exact crow_one _ _ _
  have hB03 : Below w0.heap.size w0 w3 := HB2.out.trans (hb3.mono HB2.out.size)
  rw [hw3]
  refine (From_any A B p (some ⟨w2.heap.size, 0, none⟩) n c 1 1 l [⟨x2, y2⟩] w3 (row_below HR.out (HB0.out.trans (hB03.mono HB0.out.size))) HN.out hlen hc3 rfl).mono ?_
  rintro e w4 ⟨hcase2, hb4⟩
  have hB04 : Below w0.heap.size w0 w4 := hB03.trans (hb4.mono hB03.size)
  obtain ⟨v2, e2, rfl, hcs2⟩ : ∃ v2 e2, e = .returned (.tuple #[v2, .int .i64 e2]) ∧ two A B l n ⟨x1, y1⟩ ⟨x2, y2⟩ w0 w4 v1 v2 e1 e2 := by
    rcases hcase2 with ⟨E, hE, _, rfl⟩ | ⟨W, H, g, far, hA', hB', hn', hok, _, hck, rfl, hm, hsol⟩
    · exact ⟨_, _, rfl, .inl (.inr hE)⟩
    · refine ⟨_, _, rfl, ?_⟩
      rcases HC1.out with h | ⟨W', H', g1, far1, q1, q2, q3, q4, q5, q6, q7, q8, q9⟩
      · exact .inl (.inl h)
      · have eW : W' = W := by omega
        have eH : H' = H := by omega
        subst eW eH
        exact .inr ⟨W', H', g1, g, far1, far, hA', hB', hn', hok, q5, hck, q6, rfl, q7, rfl, row_below (row_below q8 hb3) hb4, mine_row hm, q9, hsol⟩
  have HC2 : Hid _ := hcs2
  have HB4 : Hid (Below w0.heap.size w0 w4) := hB04
  clear hcase2 hb4 hB04 hb3 hc3 hw3 hcs2 hB03 HC1 k0 k1 k2 k3 k4 k5 k6
  go_wp2_with fail
  refine (lives_any w4).mono ?_
  rintro e w5 ⟨rfl, hb5⟩
  have HB5 : Hid (Below w0.heap.size w0 w5) := HB4.out.trans (hb5.mono HB4.out.size)
  have HB45 : Hid (Below w4.heap.size w4 w5) := hb5
  obtain ⟨k0, k1, k2, k3, k4, k5, k6⟩ := HBX.out w5 HB5.out
  clear hb5
  rcases HC2.out with herr | ⟨W, H, g1, g2, far1, far2, hA', hB', hn', hok, hk1, hk2, hE1, hE2, hv1, hv2, hr1, hr2, hs1, hs2⟩
  · -- an error
    have key : (e1 == 0) = false ∨ (e1 = 0 ∧ (e2 == 0) = false) := by
      by_cases h : e1 = 0
      · right; refine ⟨h, ?_⟩; rcases herr with h' | h'
        · exact absurd h h'
        · simp [h']
      · left; simp [h]
    clear herr HC2
    rcases key with h1 | ⟨rfl, h2⟩
    · go_wp2_with fail
      refine (lives_any w5).mono ?_
      rintro e w6 ⟨rfl, hb6⟩
      have HB6 : Hid (Below w.heap.size w w6) := HB0.out.trans ((HB5.out.trans (hb6.mono HB5.out.size)).mono HB0.out.size)
      clear hb6
      go_wp2_with fail
      go_ret
      exact ⟨rfl, HB6.out⟩
    · go_wp2_with fail
      refine (lives_any w5).mono ?_
      rintro e w6 ⟨rfl, hb6⟩
      have HB6 : Hid (Below w.heap.size w w6) := HB0.out.trans ((HB5.out.trans (hb6.mono HB5.out.size)).mono HB0.out.size)
      clear hb6
      go_wp2_with fail
      go_ret
      exact ⟨rfl, HB6.out⟩
  · subst hE1 hE2 hA' hB' hn' hv1 hv2
    obtain ⟨X1, Y1, q1, hX1, hY1, r1⟩ := cke_zero hk1 ⟨x1, y1⟩ (by simp)
    obtain ⟨X2, Y2, q2, hX2, hY2, r2⟩ := cke_zero hk2 ⟨x2, y2⟩ (by simp)
    simp only [Cel.mk.injEq] at q1 q2
    obtain ⟨rfl, rfl⟩ := q1
    obtain ⟨rfl, rfl⟩ := q2
    obtain ⟨P, hP⟩ : ∃ P, Y1 * W + X1 = P := ⟨_, rfl⟩
    obtain ⟨Q, hQ⟩ : ∃ Q, Y2 * W + X2 = Q := ⟨_, rfl⟩
    have hPl : P < W * H := by rw [← hP]; exact pl_lt hX1 hY1
    have hQl : Q < W * H := by rw [← hQ]; exact pl_lt hX2 hY2
    have hN : W * H ≤ 1600 := wh_le hok.1 hok.2.1
    rw [hP] at r1
    rw [hQ] at r2
    have hback := sol_back hs1 hs2 (fun i _ => by rw [fst_one, hP]) (fun i _ => by rw [fst_one, hQ]) hPl hQl r1 r2
    have b1 := sort_bd hok.2.2.2 (j := P) (by rw [hok.2.2.1]; exact hPl)
    have b2 := sort_bd hok.2.2.2 (j := Q) (by rw [hok.2.2.1]; exact hQl)
    have m1 := co_kc b1.1 b1.2 r1
    have m2 := co_kc b2.1 b2.2 r2
    obtain ⟨Z1, hZ1⟩ : ∃ Z, pa l P = Z := ⟨_, rfl⟩
    obtain ⟨Z2, hZ2⟩ : ∃ Z, pa l Q = Z := ⟨_, rfl⟩
    obtain ⟨K1, hK1⟩ : ∃ K, kc Z1 = K := ⟨_, rfl⟩
    obtain ⟨K2, hK2⟩ : ∃ K, kc Z2 = K := ⟨_, rfl⟩
    have kb1 := kc_bd Z1
    have kb2 := kc_bd Z2
    obtain ⟨XQ, hXQ⟩ : ∃ X, pa far1 Q = X := ⟨_, rfl⟩
    obtain ⟨YP, hYP⟩ : ∃ X, pa far2 P = X := ⟨_, rfl⟩
    rw [hZ1, hZ2, hK1, hK2, hXQ, hYP] at hback
    rw [hZ1, hK1] at m1
    rw [hZ2, hK2] at m2
    rw [hK1] at kb1
    rw [hK2] at kb2
    have bx : -1 ≤ XQ ∧ XQ ≤ 4800 := by rw [← hXQ]; exact sol_bd hs1 hN Q hQl
    have by' : -1 ≤ YP ∧ YP ≤ 4800 := by rw [← hYP]; exact sol_bd hs2 hN P hPl
    have HM1 : Hid (co Z1 = K1 ∧ ce Z1 = 0) := m1
    have HM2 : Hid (co Z2 = K2 ∧ ce Z2 = 0) := m2
    -- the cells
    have hrl : row vi w5 p l := row_below HR.out (HB0.out.trans (HB5.out.mono HB0.out.size))
    obtain ⟨a, rfl⟩ := row_some hrl (by rw [hok.2.2.1]; omega)
    have cp : w5.cell? (a.add P) = some (.int .i64 Z1) := by
      obtain ⟨b, hb, hcl⟩ := row_at hrl (j := P) (by rw [hok.2.2.1]; exact hPl)
      cases hb
      rw [← pa_get l, hZ1] at hcl; exact hcl
    have cq : w5.cell? (a.add Q) = some (.int .i64 Z2) := by
      obtain ⟨b, hb, hcl⟩ := row_at hrl (j := Q) (by rw [hok.2.2.1]; exact hQl)
      cases hb
      rw [← pa_get l, hZ2] at hcl; exact hcl
    have cx : w5.cell? ⟨g1, Q, none⟩ = some (.int .i64 XQ) := by
      obtain ⟨b, hb, hcl⟩ := row_at (row_below hr1 HB45.out) (j := Q) (by rw [hs1.len]; exact hQl)
      cases hb
      rw [← pa_get far1, hXQ, add_zero_at] at hcl; exact hcl
    have cy : w5.cell? ⟨g2, P, none⟩ = some (.int .i64 YP) := by
      obtain ⟨b, hb, hcl⟩ := row_at (row_below hr2 HB45.out) (j := P) (by rw [hs2.len]; exact hPl)
      cases hb
      rw [← pa_get far2, hYP, add_zero_at] at hcl; exact hcl
    have HBW : Hid (Below w.heap.size w w5) := HB0.out.trans (HB5.out.mono HB0.out.size)
    obtain ⟨T1, hT1⟩ : ∃ T : Nat, Y1 * W = T := ⟨_, rfl⟩
    obtain ⟨T2, hT2⟩ : ∃ T : Nat, Y2 * W = T := ⟨_, rfl⟩
    have d1 : IntKind.i64.wrap ((Y1 : Int) * (W : Int)) = (T1 : Int) := by rw [← Int.natCast_mul, hT1]; exact wrp (by omega) (by omega)
    have d2 : IntKind.i64.wrap ((Y2 : Int) * (W : Int)) = (T2 : Int) := by rw [← Int.natCast_mul, hT2]; exact wrp (by omega) (by omega)
    have d3 : (T1 : Int) + X1 = P := by omega
    have d4 : (T2 : Int) + X2 = Q := by omega
    have d5 : IntKind.i64.wrap (P : Int) = P := wrp (by omega) (by omega)
    have d6 : IntKind.i64.wrap (Q : Int) = Q := wrp (by omega) (by omega)
    have i1 : (P : Int) < W * H := by omega
    have i2 : (Q : Int) < W * H := by omega
    have i3 : (0 : Int) ≤ P := by omega
    have i4 : (0 : Int) ≤ Q := by omega
    have HP : Hid (P < W * H) := hPl
    clear hX1 hY1 hX2 hY2 hP hQ hPl hQl hok hk1 hk2 hr1 hr2 hs1 hs2 hA hB HC2 HBX m1 m2 hZ1 hZ2 hK1 hK2 hXQ hYP hT1 hT2 b1 b2 hrl r1 r2 HR HN hw0 HB45 HB4 HB2
    go_wp2_with fail
    go_quiet (fail)
    have k2' : (w5.drewN nq).cell? ⟨F, 2, none⟩ = some (.slice (some a) (W * H) c) := k2
    have cp' : (w5.drewN nq).cell? (a.add P) = some (.int .i64 Z1) := cp
    have cq' : (w5.drewN nq).cell? (a.add Q) = some (.int .i64 Z2) := cq
    have cx' : (w5.drewN nq).cell? ⟨g1, Q, none⟩ = some (.int .i64 XQ) := cx
    have cy' : (w5.drewN nq).cell? ⟨g2, P, none⟩ = some (.int .i64 YP) := cy
    have HBW' : Hid (Below w.heap.size w (w5.drewN nq)) := below_drewN HBW.out _
    generalize w5.drewN nq = w6 at k2' cp' cq' cx' cy' HBW' ⊢
    clear k0 k1 k2 k3 k4 k5 k6 cp cq cx cy HBW d1 d2 d3 d4
    go_wp2_with fail
    refine (Cost_at Z1 K1 0 w6 HM1.out.1 HM1.out.2).mono ?_
    rintro e w' ⟨rfl, hw⟩; subst w'
    go_wp2_with fail
    refine (Cost_at Z2 K2 0 w6 HM2.out.1 HM2.out.2).mono ?_
    rintro e w' ⟨rfl, hw⟩; subst w'
    rcases hback with ⟨q1, q2⟩ | ⟨q1, q2⟩
    · have u1 : decide (XQ < 0) = true := by simp [q1]
      have u2 : decide (YP < 0) = true := by simp [q2]
      go_wp2_with fail
      go_quiet (fail)
      go_wp2_with fail
      go_ret
      exact ⟨rfl, below_drewN HBW'.out _⟩
    · have u1 : decide (XQ < 0) = false := by simp; omega
      have u2 : decide (0 ≤ XQ) = true := by simp [q1]
      have u3 : IntKind.i64.wrap (XQ - K2) = XQ - K2 := wrp (by omega) (by omega)
      have u4 : IntKind.i64.wrap (YP - K1) = YP - K1 := wrp (by omega) (by omega)
      have u5 : (XQ - K2 == YP - K1) = true := by simp [q2]
      go_wp2_with fail
      go_quiet (fail)
      go_wp2_with fail
      go_ret
      exact ⟨rfl, below_drewN HBW'.out _⟩

set_option maxRecDepth 100000 in
theorem lifted (os : Os) (started : os.Started) (H : Type) (enc : TypeId × Value → H) :
    ReturnsInHanded {} Try.checked os 6 .any (Rows.floodBackSpec.pre6 enc Try.prog Try.f6 Rows.floodBackRow.domain false) (Rows.floodBackSpec.post enc Try.prog Try.f6 false true false false) := by
  refine returnsInHanded_of_change_sized (C := Try.checked) own started (by kernel_rfl) Try.func6
    (ChangeSpec.witness6 (enc := enc) (C := Try.checked) false ⟨#[], #[.agg #[.int .i64 0, .int .i64 0, .slice none 0 0], .agg #[.int .i64 0, .int .i64 0], .agg #[.int .i64 0, .int .i64 0]], []⟩ 8 (by kernel_rfl) (by kernel_rfl) (by kernel_rfl) (by kernel_rfl)) ?_
  intro W base args ds gs before hval0 hW hcnd hsz _
  have hval : ∀ (j : Nat) t v, Try.f6.params[j]? = some t → args[j]? = some v → Value.okWide Try.prog W .any base t v := hval0
  have hW' := hW
  obtain ⟨p, q, hA0, hV, rfl, hfz, hnd⟩ := hW
  have hA : DataW.TrodAll enc Try.prog W 0 (fun _ => true) true Try.f6.params.toList args.toList ds p := hA0
  rw [Try.params6] at hA hval
  obtain ⟨v0, vs0, d0, ds0, p0, q0, hargs, rfl, rfl, h0, r0⟩ := trodAll_cons hA
  obtain ⟨v1, vs1, d1, ds1, p1, q1, rfl, rfl, rfl, h1, r1⟩ := trodAll_cons r0
  obtain ⟨v2, vs2, d2, ds2, p2, q2, rfl, rfl, rfl, h2, r2⟩ := trodAll_cons r1
  obtain ⟨rfl, rfl, rfl⟩ := trodAll_nil r2
  obtain rfl : args = #[v0, v1, v2] := by cases args; simp_all
  obtain ⟨rfl, rfl⟩ := trodVars_none hV
  obtain ⟨s0, rfl, k0, d20, rfl, t0⟩ := open_fld Try.underlying24 Try.underlying3 Try.underlying22 rfl rfl rfl rfl rfl rfl (by kernel_rfl) (by kernel_rfl) (by kernel_rfl) (hval 0 24 v0 rfl rfl) h0
  obtain ⟨x1, y1, rfl, rfl, rfl, w1x, w1y⟩ := open_two Try.underlying38 Try.underlying3 Try.underlying3 rfl rfl (by kernel_rfl) (by kernel_rfl) (by kernel_rfl) (hval 1 38 v1 rfl rfl) h1
  obtain ⟨x2, y2, rfl, rfl, rfl, w2x, w2y⟩ := open_two Try.underlying38 Try.underlying3 Try.underlying3 rfl rfl (by kernel_rfl) (by kernel_rfl) (by kernel_rfl) (hval 2 38 v2 rfl rfl) h2
  have hs0 : s0.l.length * 8 ≤ 140737488351232 := fld_sized hsz (j := 0) rfl rfl Try.underlying24 rfl Try.underlying22 (by kernel_rfl) t0
  clear hA0 hval0
  refine (walk s0 x1 y1 x2 y2 w1x w1y w2x w2y W k0 hs0).mono fun e W' ⟨he, hg⟩ => ?_
  subst he
  exact ⟨_, rfl, law_post (by kernel_rfl) (by kernel_rfl) rfl (by kernel_rfl) Try.underlying4 hW' rfl hg⟩

theorem over : Rows.floodBackRow.holds Try.pinned (OpenSpec.ofChange Rows.floodBackSpec) :=
  OpenClaim.holds_of_wide 6 Try.f6 rfl rfl rfl rfl rfl rfl rfl ⟨rfl, rfl, rfl, rfl, rfl⟩ rfl rfl rfl rfl rfl (by kernel_rfl) Try.func6 (by kernel_rfl)
    (of_decide_eq_true (by kernel_rfl)) (by unfold Func.isWrapper; first | (rw [if_pos (by decide +kernel)]; kernel_rfl) | (rw [if_neg (by decide +kernel)]; exact ⟨rfl, rfl⟩))
    (fun os started H enc _ => lifted os started H enc)

theorem proved : Rows.FloodBackSaid :=
  over
end Go.Proofs.Ytlekihmlifkjmaa.floodBack

namespace Go.Proofs.Ytlekihmlifkjmaa
/-- FloodBack: whatever is handed in, the law answers true: from one cell to another it is as far as back, but for what both ends cost. No conditions. -/
theorem floodBack_holds : Rows.FloodBackSaid := floodBack.proved
#print axioms floodBack_holds
end Go.Proofs.Ytlekihmlifkjmaa
