/- What MarchSays returns, one way of three: a right world, not too many goes. -/
import Derived.Test.YtnbbfnlfcncgnaaMya
namespace Go.Proofs.Ytnbbfnlfcncgnaa
open Go.ChangeShapes Go.WideShapes Go.RowKit
set_option linter.unusedVariables false

set_option maxRecDepth 20000 in
set_option maxHeartbeats 16000000 in
theorem saysC (s0 : Wld) (s1 : Gst) (a2 : Int) (x3 y3 : Int) (a4 : Int) (w2 : (Lit.int .i64 a2).wf = true) (w3x : (Lit.int .i64 x3).wf = true) (w3y : (Lit.int .i64 y3).wf = true) (w4 : (Lit.int .i64 a4).wf = true) (w : World) (h0 : s0.fit w) (h1 : s1.fit w) (hs1 : s1.l.length * 24 ≤ 140737488351232) (E0 : Int) (hE0 : wre s0 E0) (hcase : E0 = 0 ∧ s1.l.length ≤ 200) :
    Calls Try.prog 3 #[s0.val, s1.val, .int .i64 a2, .agg #[.int .i64 x3, .int .i64 y3], .int .i64 a4] w fun e w' => e = .returned (.bool true) ∧ Below w.heap.size w w' := by
  have HCASE : Hid (E0 = 0 ∧ s1.l.length ≤ 200) := hcase
  clear hcase
  obtain ⟨E, hE⟩ := ber_total s0 s1.l.length
  obtain ⟨E2, hE2⟩ := rer_total s0 a2 a4
  obtain ⟨hcr, hxb, hmx, hzp, hkc⟩ := h1
  have fi := int_of w2
  have fx := int_of w3x
  have fy := int_of w3y
  have HS1 : Hid (∀ V, Below w.heap.size w V → Calls Try.prog 9 #[s0.val, .slice s1.p s1.l.length s1.c] V fun e w' => (∃ (s' : Wld) (gp : Option Addr) (gc : Nat) (I : List Int), e = .returned (.tuple #[s'.val, .slice gp I.length gc, .int .i64 E]) ∧ row vi w' gp I ∧ s'.fit w' ∧ I.length ≤ 100 ∧ stk s0 s1.l E s' I) ∧ Below V.heap.size V w') := fun V hV => by
    have hf := Wld.fit_below h0 hV
    refine (Step_any s0 E s1.p s1.l.length s1.c s1.l V hf (gor_below hcr hV) hxb rfl hmx hE).mono ?_
    rintro e w' ⟨⟨s', gp, gc, I, rfl, h1, h2, h3⟩, hb⟩
    exact ⟨⟨s', gp, gc, I, rfl, h1, step_fit hf h2 h3, (step_ids hf ⟨_, hE⟩ h3).1, h3⟩, hb⟩
  have HS2 : Hid (∀ V, Below w.heap.size w V → Calls Try.prog 10 #[s0.val, .int .i64 a2, .agg #[.int .i64 x3, .int .i64 y3], .int .i64 a4] V fun e w' => (∃ (s' : Wld) (k : Int), e = .returned (.tuple #[s'.val, .int .i64 k, .int .i64 E2]) ∧ s'.fit w' ∧ rck s0 a2 x3 y3 a4 E2 s' k) ∧ Below V.heap.size V w') := fun V hV => by
    have hf := Wld.fit_below h0 hV
    refine (Reach_any s0 a2 x3 y3 a4 E2 V hf fi fx fy hE2).mono ?_
    rintro e w' ⟨⟨s', k, rfl, h1, h2⟩, hb⟩
    exact ⟨⟨s', k, rfl, (reach_fit hf hE2 h1 h2).1, h2⟩, hb⟩
  have HWR : Hid (∀ V, Below w.heap.size w V → Calls Try.prog 11 #[s0.val] V fun e w' => e = .returned (.int .i64 E0) ∧ Below V.heap.size V w') := fun V hV => WorldRight_at s0 E0 V (Wld.fit_below h0 hV) hE0
  have HTO : Hid (∀ V, Below w.heap.size w V → Calls Try.prog 13 #[s0.val, .int .i64 a2] V fun e w' => e = .returned (.tuple #[tv (tof s0.lt a2), .bool (trf s0.lt a2).isSome]) ∧ Below V.heap.size V w') := fun V hV => TroopOf_any s0 a2 V (Wld.fit_below h0 hV)
  have HMA : Hid (E0 = 0 → s1.l.length ≤ 200 → ∀ sa Ia, stk s0 s1.l E sa Ia → ∀ V, Below w.heap.size w V → Calls Try.prog 12 #[s0.val, .slice s1.p s1.l.length s1.c] V fun e w' => (∃ (x : Wld) (gp : Option Addr) (gc : Nat), e = .returned (.tuple #[x.val, .slice gp Ia.length gc]) ∧ (∀ U, Ex (fun g => w.heap.size ≤ g ∧ g < V.heap.size) w' U → x.fit U ∧ row vi U gp Ia) ∧ samew sa x) ∧ Below V.heap.size V w') := fun e0 hn sa Ia hs V hV => by
    subst e0
    obtain ⟨W, H, hk⟩ := wre_ok hE0
    refine (Marched_ok s0 W H s1.p s1.l.length s1.c s1.l w V hV h0 hk (gor_below hcr hV) hxb rfl hn).mono ?_
    rintro e w' ⟨⟨x, gp, gc, I, rfl, h2, h3, h4, h5⟩, hb⟩
    rcases hs with ⟨hne, _⟩ | ⟨_, k1, k2, k3⟩
    · exfalso
      obtain ⟨E0', q1, q2⟩ := hE
      rcases q2 with ⟨q3, _⟩ | ⟨_, q3, _⟩ | ⟨_, _, q3⟩
      · exact wre_no q1 q3 ⟨W, H, hk⟩
      · omega
      · exact hne q3
    · obtain ⟨e1, e2⟩ := mst_one k3 h5
      subst e2
      exact ⟨⟨x, gp, gc, rfl, h2, samew_of k1 h3 e1⟩, hb⟩
  have HMF : Hid (E0 = 0 → E2 = 0 → ∀ sb k, rck s0 a2 x3 y3 a4 E2 sb k → ∀ V, Below w.heap.size w V → Calls Try.prog 15 #[s0.val, .int .i64 a2, .agg #[.int .i64 x3, .int .i64 y3], .int .i64 a4] V fun e w' => (∃ (y : Wld), e = .returned (.tuple #[y.val, .int .i64 k]) ∧ (∀ U, Ex (fun g => w.heap.size ≤ g ∧ g < V.heap.size) w' U → y.fit U) ∧ samew sb y) ∧ Below V.heap.size V w') := fun e0 e2 sb k hs V hV => by
    subst e0 e2
    obtain ⟨W, H, hk⟩ := wre_ok hE0
    rcases hs with ⟨hne, _⟩ | ⟨_, k1, k2, m, kk, hm, rfl, hm2, k3⟩
    · exact absurd rfl hne
    · subst hm
      refine (MarchedFar_ok s0 W H m a2 x3 y3 w V hV h0 hk hm2 fi fx fy).mono ?_
      rintro e w' ⟨⟨y, k', rfl, h1, h2, h3, m', kk', hm', rfl, _, h4⟩, hb⟩
      obtain rfl : m' = m := by omega
      obtain ⟨e1, e2⟩ := rch_one k3 h4
      subst e2
      exact ⟨⟨y, rfl, fun U hU => h1 U (hU.mono (fun i _ e => by omega)), samew_of k1 h2 e1⟩, hb⟩
  have HNO1 : Hid (∀ sa Ia, E ≠ 0 → stk s0 s1.l E sa Ia → sa = wz ∧ Ia = []) := fun sa Ia hne h => by
    rcases h with ⟨_, h1, h2⟩ | ⟨h1, _⟩
    · exact ⟨h1, h2⟩
    · exact absurd h1 hne
  have HNO2 : Hid (∀ sb k, E2 ≠ 0 → rck s0 a2 x3 y3 a4 E2 sb k → sb = wz ∧ k = 0) := fun sb k hne h => by
    rcases h with ⟨_, h1, h2⟩ | ⟨h1, _⟩
    · exact ⟨h1, h2⟩
    · exact absurd h1 hne
  have HC1 : Hid ((E0 ≠ 0 ∧ E = E0 ∧ E2 = E0) ∨ (E0 = 0 ∧ 200 < s1.l.length ∧ E = 2) ∨ (E0 = 0 ∧ s1.l.length ≤ 200 ∧ E = 0)) := by
    obtain ⟨q0, q1, q2⟩ := hE
    obtain ⟨r0, r1, r2⟩ := hE2
    have u1 := wre_one q1 hE0
    have u2 := wre_one r1 hE0
    subst u1 u2
    unfold Hid
    rcases q2 with ⟨q3, q4⟩ | ⟨q3, q4, q5⟩ | ⟨q3, q4, q5⟩
    · left
      refine ⟨q3, q4, ?_⟩
      rcases r2 with ⟨_, r3⟩ | ⟨r3, _⟩ | ⟨r3, _⟩ | ⟨r3, _⟩
      · exact r3
      · exact absurd r3 q3
      · exact absurd r3 q3
      · exact absurd r3 q3
    · exact .inr (.inl ⟨q3, q4, q5⟩)
    · exact .inr (.inr ⟨q3, q4, q5⟩)
  have HC2 : Hid (E0 = 0 → ((decide (0 ≤ a4) && decide (a4 ≤ 200)) = false ∧ E2 = 1) ∨ ((decide (0 ≤ a4) && decide (a4 ≤ 200)) = true ∧ (trf s0.lt a2).isSome = false ∧ E2 = 7) ∨ ((decide (0 ≤ a4) && decide (a4 ≤ 200)) = true ∧ (trf s0.lt a2).isSome = true ∧ E2 = 0)) := fun e0 => by
    obtain ⟨r0, r1, r2⟩ := hE2
    have u2 := wre_one r1 hE0
    subst u2
    rcases r2 with ⟨r3, _⟩ | ⟨_, r3, r4⟩ | ⟨_, r3, r4, r5⟩ | ⟨_, r3, r4, r5⟩
    · exact absurd e0 r3
    · refine .inl ⟨?_, r4⟩
      by_cases h1 : 0 ≤ a4 <;> by_cases h2 : a4 ≤ 200 <;> simp [h1, h2]
      exact r3 ⟨h1, h2⟩
    · refine .inr (.inl ⟨by simp [r3.1, r3.2], ?_, r5⟩)
      cases h : trf s0.lt a2 with
      | none => rfl
      | some t => exact absurd (trf_some h).2 (r4 t (trf_some h).1)
    · refine .inr (.inr ⟨by simp [r3.1, r3.2], ?_, r5⟩)
      cases h : trf s0.lt a2 with
      | none => obtain ⟨t, ht, e⟩ := r4; exact absurd e (trf_none h t ht)
      | some t => rfl
  obtain ⟨SK, hSK⟩ : ∃ SK : Wld → List Int → Prop, (fun sa Ia => stk s0 s1.l E sa Ia) = SK := ⟨_, rfl⟩
  obtain ⟨RK, hRK⟩ : ∃ RK : Wld → Int → Prop, (fun sb k => rck s0 a2 x3 y3 a4 E2 sb k) = RK := ⟨_, rfl⟩
  have e1 : ∀ sa Ia, stk s0 s1.l E sa Ia = SK sa Ia := fun sa Ia => by rw [← hSK]
  have e2 : ∀ sb k, rck s0 a2 x3 y3 a4 E2 sb k = RK sb k := fun sb k => by rw [← hRK]
  simp only [e1] at HS1 HMA HNO1
  simp only [e2] at HS2 HMF HNO2
  obtain ⟨ov, hov⟩ : ∃ ov, trf s0.lt a2 = ov := ⟨_, rfl⟩
  rw [hov] at HC2 HTO
  obtain ⟨tr, htr⟩ : ∃ tr, tof s0.lt a2 = tr := ⟨_, rfl⟩
  rw [htr] at HTO
  clear h0 hE hE2 hE0 hs1 fi fx fy w2 w3x w3y w4 hcr hxb hmx hzp hkc hSK hRK e1 e2 hov htr
  obtain ⟨pl, cl, gs⟩ := s1
  unfold Gst.val
  dsimp only at *
  obtain ⟨nl, hnl⟩ : ∃ nl, gs.length = nl := ⟨_, rfl⟩
  rw [hnl] at HS1 HMA HC1 ⊢
  try rw [hnl] at HCASE
  clear hnl
  obtain ⟨A, B, p, n, c, l, pb, nb, cb, lb, ps, ns, cs, ls, pm, nm, cm, lm, pt, nt, ct, lt, N, T⟩ := s0
  obtain ⟨r1_, r2_, r3_, r4_, r5_, r6_, r7_⟩ := tr
  unfold Wld.val at *
  unfold tv at HTO
  dsimp only at *
  obtain ⟨F, hF⟩ : ∃ F, w.heap.size = F := ⟨_, rfl⟩
  obtain ⟨w0, hw0⟩ : ∃ w0, (w.alloc (.cells #[.int .i64 A, .int .i64 B, .slice p n c, .slice pb nb cb, .slice ps ns cs, .slice pm nm cm, .slice pt nt ct, .int .i64 N, .int .i64 T] 28)).alloc (.cells #[.int .i64 x3, .int .i64 y3] 31) = w0 := ⟨_, rfl⟩
  have HBX : Hid (∀ V, Below w0.heap.size w0 V → c9 V F (.int .i64 A) (.int .i64 B) (.slice p n c) (.slice pb nb cb) (.slice ps ns cs) (.slice pm nm cm) (.slice pt nt ct) (.int .i64 N) (.int .i64 T) ∧ V.cell? ⟨F + 1, 0, none⟩ = some (.int .i64 x3) ∧ V.cell? ⟨F + 1, 1, none⟩ = some (.int .i64 y3)) := fun V hV => box92 hF hw0 hV
  have hB0 : Below w.heap.size w w0 := by rw [← hw0]; exact (alloc_below w _).alloc (by simp) _
  have HUP : Hid (∀ V, Below w0.heap.size w0 V → Below w.heap.size w V) := fun V hV => hB0.trans (hV.mono hB0.size)
  obtain ⟨⟨z0, z1, z2, z3, z4, z5, z6, z7, z8⟩, q0, q1⟩ := HBX.out w0 (Below.refl _ _)
  clear hB0
  go_enter Try.func3, Try.ntmps3
  go_wp2_with fail
  refine (HS1.out w0 (HUP.out w0 (Below.refl _ _))).mono ?_
  rintro e v1 ⟨⟨sa, gpa, gca, Ia, rfl, hra, hfa, hla, hsa⟩, hb1⟩
  clear z0 z1 z2 z3 z4 z5 z6 z7 z8 q0 q1 hw0 hF HS1
  obtain ⟨G1, hG1⟩ : ∃ G1, v1.heap.size = G1 := ⟨_, rfl⟩
  have HSA : Hid (SK sa Ia) := hsa
  obtain ⟨na, hna⟩ : ∃ na, Ia.length = na := ⟨_, rfl⟩
  rw [hna] at hla ⊢
  have HNA : Hid (Ia.length = na) := hna
  obtain ⟨sA, hsA⟩ : ∃ sA : Wld, sA = sa := ⟨_, rfl⟩
  have HSAE : Hid (sA = sa) := hsA
  obtain ⟨A1, B1, p1, n1, c1, l1, pb1, nb1, cb1, lb1, ps1, ns1, cs1, ls1, pm1, nm1, cm1, lm1, pt1, nt1, ct1, lt1, N1, T1⟩ := sa
  dsimp only
  obtain ⟨w1, hw1⟩ : ∃ w1, v1.alloc (.cells #[.int .i64 A1, .int .i64 B1, .slice p1 n1 c1, .slice pb1 nb1 cb1, .slice ps1 ns1 cs1, .slice pm1 nm1 cm1, .slice pt1 nt1 ct1, .int .i64 N1, .int .i64 T1] 28) = w1 := ⟨_, rfl⟩
  have b11 : Below v1.heap.size v1 w1 := by rw [← hw1]; exact alloc_below _ _
  have HB1 : Hid (Below w0.heap.size w0 w1) := below_call hb1 hb1.size b11
  have HBA : Hid (∀ V, Below w1.heap.size w1 V → c9 V G1 (.int .i64 A1) (.int .i64 B1) (.slice p1 n1 c1) (.slice pb1 nb1 cb1) (.slice ps1 ns1 cs1) (.slice pm1 nm1 cm1) (.slice pt1 nt1 ct1) (.int .i64 N1) (.int .i64 T1)) := fun V hV => boxw hG1 hw1 hV
  have HFA : Hid (∀ V, Below w1.heap.size w1 V → Wld.fit V ⟨A1, B1, p1, n1, c1, l1, pb1, nb1, cb1, lb1, ps1, ns1, cs1, ls1, pm1, nm1, cm1, lm1, pt1, nt1, ct1, lt1, N1, T1⟩ ∧ row vi V gpa Ia) := fun V hV => ⟨Wld.fit_below hfa (below_call b11 b11.size hV), row_below hra (below_call b11 b11.size hV)⟩
  obtain ⟨⟨z0, z1, z2, z3, z4, z5, z6, z7, z8⟩, q0, q1⟩ := HBX.out w1 HB1.out
  clear hra hfa hsa hb1 b11 hsA hna
  go_wp2_with fail
  refine (HS2.out w1 (HUP.out w1 HB1.out)).mono ?_
  rintro e v2 ⟨⟨sb, kk, rfl, hfb, hsb⟩, hb2⟩
  clear z0 z1 z2 z3 z4 z5 z6 z7 z8 q0 q1 hw1 hG1 HS2
  obtain ⟨G2, hG2⟩ : ∃ G2, v2.heap.size = G2 := ⟨_, rfl⟩
  have HSB : Hid (RK sb kk) := hsb
  obtain ⟨A2, B2, p2, n2, c2, l2, pb2, nb2, cb2, lb2, ps2, ns2, cs2, ls2, pm2, nm2, cm2, lm2, pt2, nt2, ct2, lt2, N2, T2⟩ := sb
  dsimp only
  obtain ⟨w2, hw2⟩ : ∃ w2, v2.alloc (.cells #[.int .i64 A2, .int .i64 B2, .slice p2 n2 c2, .slice pb2 nb2 cb2, .slice ps2 ns2 cs2, .slice pm2 nm2 cm2, .slice pt2 nt2 ct2, .int .i64 N2, .int .i64 T2] 28) = w2 := ⟨_, rfl⟩
  have b22 : Below v2.heap.size v2 w2 := by rw [← hw2]; exact alloc_below _ _
  have HB12 : Hid (Below w1.heap.size w1 w2) := below_call hb2 hb2.size b22
  have HBB : Hid (∀ V, Below w2.heap.size w2 V → c9 V G2 (.int .i64 A2) (.int .i64 B2) (.slice p2 n2 c2) (.slice pb2 nb2 cb2) (.slice ps2 ns2 cs2) (.slice pm2 nm2 cm2) (.slice pt2 nt2 ct2) (.int .i64 N2) (.int .i64 T2)) := fun V hV => boxw hG2 hw2 hV
  have HFB : Hid (∀ V, Below w2.heap.size w2 V → Wld.fit V ⟨A2, B2, p2, n2, c2, l2, pb2, nb2, cb2, lb2, ps2, ns2, cs2, ls2, pm2, nm2, cm2, lm2, pt2, nt2, ct2, lt2, N2, T2⟩) := fun V hV => Wld.fit_below hfb (below_call b22 b22.size hV)
  have HB2 : Hid (Below w0.heap.size w0 w2) := below_call HB1.out HB1.out.size HB12.out
  obtain ⟨⟨z0, z1, z2, z3, z4, z5, z6, z7, z8⟩, -, -⟩ := HBX.out w2 HB2.out
  clear hfb hsb hb2 b22
  go_wp2_with fail
  refine (HWR.out w2 (HUP.out w2 HB2.out)).mono ?_
  rintro e w3 ⟨rfl, hb3⟩
  clear z0 z1 z2 z3 z4 z5 z6 z7 z8 hw2 hG2 HWR
  have HB23 : Hid (Below w2.heap.size w2 w3) := hb3
  have HB3 : Hid (Below w0.heap.size w0 w3) := below_call HB2.out HB2.out.size hb3
  obtain ⟨G3, hG3⟩ : ∃ G3, w3.heap.size = G3 := ⟨_, rfl⟩
  have HG3 : Hid (w3.heap.size = G3) := hG3
  have HF3 : Hid (F + 1 < w3.heap.size) := by
    have h1 : F + 1 < w0.heap.size := cell_lt (HBX.out w0 (Below.refl _ _)).2.1
    exact Nat.lt_of_lt_of_le h1 HB3.out.size
  have xz : bx9 (w3.alloc (.cells #[.int .i64 0, .int .i64 0, .slice none 0 0, .slice none 0 0, .slice none 0 0, .slice none 0 0, .slice none 0 0, .int .i64 0, .int .i64 0] 28)) G3 (.int .i64 0) (.int .i64 0) (.slice none 0 0) (.slice none 0 0) (.slice none 0 0) (.slice none 0 0) (.slice none 0 0) (.int .i64 0) (.int .i64 0) := by rw [← hG3]; exact box9_new _ _ _ _ _ _ _ _ _ _
  have hb34 : Below w3.heap.size w3 (w3.alloc (.cells #[.int .i64 0, .int .i64 0, .slice none 0 0, .slice none 0 0, .slice none 0 0, .slice none 0 0, .slice none 0 0, .int .i64 0, .int .i64 0] 28)) := alloc_below _ _
  have HXZ : Hid (bx9 (w3.alloc (.cells #[.int .i64 0, .int .i64 0, .slice none 0 0, .slice none 0 0, .slice none 0 0, .slice none 0 0, .slice none 0 0, .int .i64 0, .int .i64 0] 28)) G3 (.int .i64 0) (.int .i64 0) (.slice none 0 0) (.slice none 0 0) (.slice none 0 0) (.slice none 0 0) (.slice none 0 0) (.int .i64 0) (.int .i64 0)) := xz
  have HB34 : Hid (Below w3.heap.size w3 (w3.alloc (.cells #[.int .i64 0, .int .i64 0, .slice none 0 0, .slice none 0 0, .slice none 0 0, .slice none 0 0, .slice none 0 0, .int .i64 0, .int .i64 0] 28))) := hb34
  clear hb3 xz hb34
  rcases HC1.out with ⟨hne, hEE, hEE2⟩ | ⟨he0, hgt, hEE⟩ | ⟨he0, hle2, hEE⟩
  · exact absurd HCASE.out.1 hne
  · have := HCASE.out.2; omega
  · subst he0
    subst hEE
    have dl1 : decide ((200 : Int) < nl) = false := by simp; omega
    have HMAr := HMA.out (by first | rfl | trivial) hle2 _ _ HSA.out
    rw [HNA.out] at HMAr
    obtain ⟨w4, hw4⟩ : ∃ w4, w3.alloc (.cells #[.int .i64 0, .int .i64 0, .slice none 0 0, .slice none 0 0, .slice none 0 0, .slice none 0 0, .slice none 0 0, .int .i64 0, .int .i64 0] 28) = w4 := ⟨_, rfl⟩
    have HX4 : Hid (bx9 w4 G3 (.int .i64 0) (.int .i64 0) (.slice none 0 0) (.slice none 0 0) (.slice none 0 0) (.slice none 0 0) (.slice none 0 0) (.int .i64 0) (.int .i64 0)) := by rw [← hw4]; exact HXZ.out
    have HB34' : Hid (Below w3.heap.size w3 w4) := by rw [← hw4]; exact HB34.out
    have HB4 : Hid (Below w0.heap.size w0 w4) := below_call HB3.out HB3.out.size HB34'.out
    have HMA4 : Hid (Calls Try.prog 12 #[.agg #[.int .i64 A, .int .i64 B, .slice p n c, .slice pb nb cb, .slice ps ns cs, .slice pm nm cm, .slice pt nt ct, .int .i64 N, .int .i64 T], .slice pl nl cl] w4 _) := HMAr w4 (HUP.out w4 HB4.out)
    have HW4 : Hid (w3.alloc (.cells #[.int .i64 0, .int .i64 0, .slice none 0 0, .slice none 0 0, .slice none 0 0, .slice none 0 0, .slice none 0 0, .int .i64 0, .int .i64 0] 28) = w4) := hw4
    obtain ⟨⟨z0, z1, z2, z3, z4, z5, z6, z7, z8⟩, -, -⟩ := HBX.out w3 HB3.out
    have hF3 : F + 1 < w3.heap.size := HF3.out
    have hFa : F < G3 := by have := HG3.out; omega
    clear hw4 HMAr
    go_wp2_with fail
    first | rw [HW4.out] | skip
    refine Calls.mono HMA4.out ?_
    rintro e v5 ⟨⟨sx, gpx, gcx, rfl, hfx, hsame⟩, hb5⟩
    obtain ⟨A3, B3, p3, n3, c3, l3, pb3, nb3, cb3, lb3, ps3, ns3, cs3, ls3, pm3, nm3, cm3, lm3, pt3, nt3, ct3, lt3, N3, T3⟩ := sx
    dsimp only
    have hX5 := bx9_below HX4.out hb5
    obtain ⟨w5, hw5⟩ : ∃ w5, ((((((((v5.setCell ⟨G3, 0, none⟩ (.int .i64 A3)).setCell ⟨G3, 1, none⟩ (.int .i64 B3)).setCell ⟨G3, 2, none⟩ (.slice p3 n3 c3)).setCell ⟨G3, 3, none⟩ (.slice pb3 nb3 cb3)).setCell ⟨G3, 4, none⟩ (.slice ps3 ns3 cs3)).setCell ⟨G3, 5, none⟩ (.slice pm3 nm3 cm3)).setCell ⟨G3, 6, none⟩ (.slice pt3 nt3 ct3)).setCell ⟨G3, 7, none⟩ (.int .i64 N3)).setCell ⟨G3, 8, none⟩ (.int .i64 T3) = w5 := ⟨_, rfl⟩
    obtain ⟨k2, kx⟩ := set9 hX5 hw5.symm
    have HX5 : Hid (bx9 w5 G3 (.int .i64 A3) (.int .i64 B3) (.slice p3 n3 c3) (.slice pb3 nb3 cb3) (.slice ps3 ns3 cs3) (.slice pm3 nm3 cm3) (.slice pt3 nt3 ct3) (.int .i64 N3) (.int .i64 T3)) := k2
    have hv35 : Below w3.heap.size w3 v5 := below_call HB34'.out HB34'.out.size hb5
    have HB35 : Hid (Below w3.heap.size w3 w5) := hv35.trans (kx.below (B := w3.heap.size) hv35.size (fun k hk e => by rw [HG3.out] at hk; omega))
    have hxf := hfx w5 (kx.mono (fun i _ e => by have h1 := (HUP.out w3 HB3.out).size; have h2 := HG3.out; have h3 := bx9_lt HX4.out; omega))
    have HXF : Hid (Wld.fit w5 ⟨A3, B3, p3, n3, c3, l3, pb3, nb3, cb3, lb3, ps3, ns3, cs3, ls3, pm3, nm3, cm3, lm3, pt3, nt3, ct3, lt3, N3, T3⟩) := hxf.1
    have HRW5 : Hid (row vi w5 gpx Ia) := hxf.2
    have HSWA : Hid (∀ V, Below w5.heap.size w5 V → Calls Try.prog 16 #[.agg #[.int .i64 A1, .int .i64 B1, .slice p1 n1 c1, .slice pb1 nb1 cb1, .slice ps1 ns1 cs1, .slice pm1 nm1 cm1, .slice pt1 nt1 ct1, .int .i64 N1, .int .i64 T1], .agg #[.int .i64 A3, .int .i64 B3, .slice p3 n3 c3, .slice pb3 nb3 cb3, .slice ps3 ns3 cs3, .slice pm3 nm3 cm3, .slice pt3 nt3 ct3, .int .i64 N3, .int .i64 T3]] V fun e w' => e = .returned (.bool true) ∧ Below V.heap.size V w') := fun V hV =>
      SameWorld_yes ⟨A1, B1, p1, n1, c1, l1, pb1, nb1, cb1, lb1, ps1, ns1, cs1, ls1, pm1, nm1, cm1, lm1, pt1, nt1, ct1, lt1, N1, T1⟩ ⟨A3, B3, p3, n3, c3, l3, pb3, nb3, cb3, lb3, ps3, ns3, cs3, ls3, pm3, nm3, cm3, lm3, pt3, nt3, ct3, lt3, N3, T3⟩ V (HFA.out V (below_call HB12.out HB12.out.size (below_call HB23.out HB23.out.size (below_call HB35.out HB35.out.size hV)))).1 (Wld.fit_below HXF.out hV) hsame
    have HEQA : Hid (∀ V, Below w5.heap.size w5 V → Calls Try.prog 17 #[.slice gpa na gca, .slice gpx na gcx] V fun e w' => e = .returned (.bool true) ∧ Below V.heap.size V w') := fun V hV => Equal_b gpa gpx na gca gcx Ia V HNA.out (by omega) (HFA.out V (below_call HB12.out HB12.out.size (below_call HB23.out HB23.out.size (below_call HB35.out HB35.out.size hV)))).2 (row_below HRW5.out hV)
    clear z0 z1 z2 z3 z4 z5 z6 z7 z8
    obtain ⟨z0, z1, z2, z3, z4, z5, z6, z7, z8⟩ := bx9_c9 hX5
    have fz0 := bx9_free hX5 0
    have fz1 := bx9_free hX5 1
    have fz2 := bx9_free hX5 2
    have fz3 := bx9_free hX5 3
    have fz4 := bx9_free hX5 4
    have fz5 := bx9_free hX5 5
    have fz6 := bx9_free hX5 6
    have fz7 := bx9_free hX5 7
    have fz8 := bx9_free hX5 8
    obtain ⟨w6, hw6⟩ : ∃ w6, w5.alloc (.cells #[.int .i64 0, .int .i64 0, .slice none 0 0, .slice none 0 0, .slice none 0 0, .slice none 0 0, .slice none 0 0, .int .i64 0, .int .i64 0] 28) = w6 := ⟨_, rfl⟩
    have HB05 : Hid (Below w0.heap.size w0 w5) := below_call HB3.out HB3.out.size HB35.out
    have b56 : Below w5.heap.size w5 w6 := by rw [← hw6]; exact alloc_below _ _
    obtain ⟨G4, hG4⟩ : ∃ G4, w5.heap.size = G4 := ⟨_, rfl⟩
    have HX6 : Hid (bx9 w6 G4 (.int .i64 0) (.int .i64 0) (.slice none 0 0) (.slice none 0 0) (.slice none 0 0) (.slice none 0 0) (.slice none 0 0) (.int .i64 0) (.int .i64 0)) := by unfold Hid; rw [← hw6, ← hG4]; exact box9_new _ _ _ _ _ _ _ _ _ _
    have HB56 : Hid (Below w5.heap.size w5 w6) := b56
    have HB06 : Hid (Below w0.heap.size w0 w6) := below_call HB05.out HB05.out.size b56
    have HW6 : Hid (w5.alloc (.cells #[.int .i64 0, .int .i64 0, .slice none 0 0, .slice none 0 0, .slice none 0 0, .slice none 0 0, .slice none 0 0, .int .i64 0, .int .i64 0] 28) = w6) := hw6
    have HG4 : Hid (w5.heap.size = G4) := hG4
    obtain ⟨⟨y0, y1, y2, y3_, y4, y5, y6, y7, y8⟩, -, -⟩ := HBX.out w5 HB05.out
    have hFa5 : F < G4 := by have h1 := HB35.out.size; have h2 := HG3.out; omega
    have hFa6 : F < w5.heap.size := by omega
    clear b56 hw6 kx k2 hX5 hv35 hb5 hsame hxf hfx
    go_wp2_with fail
    first | rw [HW6.out] | skip
    clear z0 z1 z2 z3 z4 z5 z6 z7 z8 fz0 fz1 fz2 fz3 fz4 fz5 fz6 fz7 fz8 y0 y1 y2 y3_ y4 y5 y6 y7 y8 hF3 hFa5 hFa6 hw5 hG4
    refine (HTO.out w6 (HUP.out w6 HB06.out)).mono ?_
    rintro e v7 ⟨rfl, hb7⟩
    obtain ⟨w7, hw7⟩ : ∃ w7, v7.alloc (.cells #[.int .i64 r1_, .int .i64 r2_, .int .i64 r3_, .int .i64 r4_, .int .i64 r5_, .int .i64 r6_, .int .i64 r7_] 41) = w7 := ⟨_, rfl⟩
    have b67 : Below w6.heap.size w6 w7 := below_call hb7 hb7.size (by rw [← hw7]; exact alloc_below _ _)
    have HX7 : Hid (bx9 w7 G4 (.int .i64 0) (.int .i64 0) (.slice none 0 0) (.slice none 0 0) (.slice none 0 0) (.slice none 0 0) (.slice none 0 0) (.int .i64 0) (.int .i64 0)) := bx9_below HX6.out b67
    have HB57 : Hid (Below w5.heap.size w5 w7) := below_call HB56.out HB56.out.size b67
    have HB07 : Hid (Below w0.heap.size w0 w7) := below_call HB06.out HB06.out.size b67
    have HB27 : Hid (Below w2.heap.size w2 w7) := below_call HB23.out HB23.out.size (below_call HB35.out HB35.out.size HB57.out)
    clear hb7 b67
    rcases HC2.out (by first | rfl | trivial) with ⟨hb, hEE2⟩ | ⟨hb, hov, hEE2⟩ | ⟨hb, hov, hEE2⟩
    · subst hEE2
      obtain ⟨hz2, hk2⟩ := HNO2.out _ _ (by decide) HSB.out
      have HBT : Hid ((decide (0 ≤ a4) && decide (a4 ≤ 200)) = false) := hb
      clear hb
      subst hk2
      have HSWB : Hid (∀ V, Below w7.heap.size w7 V → Calls Try.prog 16 #[.agg #[.int .i64 A2, .int .i64 B2, .slice p2 n2 c2, .slice pb2 nb2 cb2, .slice ps2 ns2 cs2, .slice pm2 nm2 cm2, .slice pt2 nt2 ct2, .int .i64 N2, .int .i64 T2], .agg #[.int .i64 0, .int .i64 0, .slice none 0 0, .slice none 0 0, .slice none 0 0, .slice none 0 0, .slice none 0 0, .int .i64 0, .int .i64 0]] V fun e w' => e = .returned (.bool true) ∧ Below V.heap.size V w') := fun V hV => by
        have hf := HFB.out V (below_call HB27.out HB27.out.size hV)
        have hf2 := hf
        rw [hz2] at hf2
        refine SameWorld_yes ⟨A2, B2, p2, n2, c2, l2, pb2, nb2, cb2, lb2, ps2, ns2, cs2, ls2, pm2, nm2, cm2, lm2, pt2, nt2, ct2, lt2, N2, T2⟩ wz V hf hf2 ?_
        rw [hz2]; exact samew_refl wz
      clear hz2
      go_wp2_with fail
      refine (Between_at a4 0 200 false _ HBT.out).mono ?_
      rintro e w' ⟨rfl, hw⟩; subst w'
      obtain ⟨a0_, a1_, a2_, a3_, a4_, a5_, a6_, a7_, a8_⟩ := HBA.out w7 (below_call HB12.out HB12.out.size HB27.out)
      obtain ⟨c0_, c1_, c2_, c3_, c4_, c5_, c6_, c7_, c8_⟩ := bx9_c9 (bx9_below HX5.out HB57.out)
      have HSWA7 : Hid _ := HSWA.out w7 HB57.out
      go_wp2_with fail
      refine Calls.mono HSWA7.out ?_
      rintro e w9 ⟨rfl, hb9⟩
      have HB79 : Hid (Below w7.heap.size w7 w9) := hb9
      have HEQ9 : Hid _ := HEQA.out w9 (below_call HB57.out HB57.out.size hb9)
      clear hb9 a0_ a1_ a2_ a3_ a4_ a5_ a6_ a7_ a8_ c0_ c1_ c2_ c3_ c4_ c5_ c6_ c7_ c8_ hw7
      go_wp2_with fail
      refine Calls.mono HEQ9.out ?_
      rintro e w10 ⟨rfl, hb10⟩
      have HB10 : Hid (Below w7.heap.size w7 w10) := below_call HB79.out HB79.out.size hb10
      have hB2t := below_call HB23.out HB23.out.size (below_call HB35.out HB35.out.size (below_call HB57.out HB57.out.size HB10.out))
      obtain ⟨b0_, b1_, b2_, b3_, b4_, b5_, b6_, b7_, b8_⟩ := HBB.out w10 hB2t
      obtain ⟨c0_, c1_, c2_, c3_, c4_, c5_, c6_, c7_, c8_⟩ := bx9_c9 (bx9_below HX7.out HB10.out)
      have HSWB10 : Hid _ := HSWB.out w10 HB10.out
      clear hb10 hB2t
      go_wp2_with fail
      refine Calls.mono HSWB10.out ?_
      rintro e w11 ⟨rfl, hb11⟩
      have HB11 : Hid (Below w.heap.size w w11) := below_call (HUP.out w7 HB07.out) (HUP.out w7 HB07.out).size (below_call HB10.out HB10.out.size hb11)
      clear hb11
      go_wp2_with fail
      go_ret
      exact ⟨by first | rfl | simp_all, HB11.out⟩
    · subst hEE2
      obtain ⟨hz2, hk2⟩ := HNO2.out _ _ (by decide) HSB.out
      have HBT : Hid ((decide (0 ≤ a4) && decide (a4 ≤ 200)) = true) := hb
      obtain ⟨ob, hob⟩ : ∃ ob, ov.isSome = ob := ⟨_, rfl⟩
      rw [hob] at hov ⊢
      subst hov
      clear hb
      subst hk2
      have HSWB : Hid (∀ V, Below w7.heap.size w7 V → Calls Try.prog 16 #[.agg #[.int .i64 A2, .int .i64 B2, .slice p2 n2 c2, .slice pb2 nb2 cb2, .slice ps2 ns2 cs2, .slice pm2 nm2 cm2, .slice pt2 nt2 ct2, .int .i64 N2, .int .i64 T2], .agg #[.int .i64 0, .int .i64 0, .slice none 0 0, .slice none 0 0, .slice none 0 0, .slice none 0 0, .slice none 0 0, .int .i64 0, .int .i64 0]] V fun e w' => e = .returned (.bool true) ∧ Below V.heap.size V w') := fun V hV => by
        have hf := HFB.out V (below_call HB27.out HB27.out.size hV)
        have hf2 := hf
        rw [hz2] at hf2
        refine SameWorld_yes ⟨A2, B2, p2, n2, c2, l2, pb2, nb2, cb2, lb2, ps2, ns2, cs2, ls2, pm2, nm2, cm2, lm2, pt2, nt2, ct2, lt2, N2, T2⟩ wz V hf hf2 ?_
        rw [hz2]; exact samew_refl wz
      clear hz2
      go_wp2_with fail
      refine (Between_at a4 0 200 true _ HBT.out).mono ?_
      rintro e w' ⟨rfl, hw⟩; subst w'
      obtain ⟨a0_, a1_, a2_, a3_, a4_, a5_, a6_, a7_, a8_⟩ := HBA.out w7 (below_call HB12.out HB12.out.size HB27.out)
      obtain ⟨c0_, c1_, c2_, c3_, c4_, c5_, c6_, c7_, c8_⟩ := bx9_c9 (bx9_below HX5.out HB57.out)
      have HSWA7 : Hid _ := HSWA.out w7 HB57.out
      go_wp2_with fail
      refine Calls.mono HSWA7.out ?_
      rintro e w9 ⟨rfl, hb9⟩
      have HB79 : Hid (Below w7.heap.size w7 w9) := hb9
      have HEQ9 : Hid _ := HEQA.out w9 (below_call HB57.out HB57.out.size hb9)
      clear hb9 a0_ a1_ a2_ a3_ a4_ a5_ a6_ a7_ a8_ c0_ c1_ c2_ c3_ c4_ c5_ c6_ c7_ c8_ hw7
      go_wp2_with fail
      refine Calls.mono HEQ9.out ?_
      rintro e w10 ⟨rfl, hb10⟩
      have HB10 : Hid (Below w7.heap.size w7 w10) := below_call HB79.out HB79.out.size hb10
      have hB2t := below_call HB23.out HB23.out.size (below_call HB35.out HB35.out.size (below_call HB57.out HB57.out.size HB10.out))
      obtain ⟨b0_, b1_, b2_, b3_, b4_, b5_, b6_, b7_, b8_⟩ := HBB.out w10 hB2t
      obtain ⟨c0_, c1_, c2_, c3_, c4_, c5_, c6_, c7_, c8_⟩ := bx9_c9 (bx9_below HX7.out HB10.out)
      have HSWB10 : Hid _ := HSWB.out w10 HB10.out
      clear hb10 hB2t
      go_wp2_with fail
      refine Calls.mono HSWB10.out ?_
      rintro e w11 ⟨rfl, hb11⟩
      have HB11 : Hid (Below w.heap.size w w11) := below_call (HUP.out w7 HB07.out) (HUP.out w7 HB07.out).size (below_call HB10.out HB10.out.size hb11)
      clear hb11
      go_wp2_with fail
      go_ret
      exact ⟨by first | rfl | simp_all, HB11.out⟩
    · subst hEE2
      have HBT : Hid ((decide (0 ≤ a4) && decide (a4 ≤ 200)) = true) := hb
      obtain ⟨ob, hob⟩ : ∃ ob, ov.isSome = ob := ⟨_, rfl⟩
      rw [hob] at hov ⊢
      subst hov
      clear hb
      have HMF7 : Hid (Calls Try.prog 15 #[.agg #[.int .i64 A, .int .i64 B, .slice p n c, .slice pb nb cb, .slice ps ns cs, .slice pm nm cm, .slice pt nt ct, .int .i64 N, .int .i64 T], .int .i64 a2, .agg #[.int .i64 x3, .int .i64 y3], .int .i64 a4] w7 _) := HMF.out (by first | rfl | trivial) (by first | rfl | trivial) _ _ HSB.out w7 (HUP.out w7 HB07.out)
      go_wp2_with fail
      refine (Between_at a4 0 200 true _ HBT.out).mono ?_
      rintro e w' ⟨rfl, hw⟩; subst w'
      obtain ⟨⟨z0, z1, z2, z3, z4, z5, z6, z7, z8⟩, q0, q1⟩ := HBX.out w7 HB07.out
      go_wp2_with fail
      refine Calls.mono HMF7.out ?_
      rintro e v8 ⟨⟨sy, rfl, hfy, hsame⟩, hb8⟩
      obtain ⟨A4, B4, p4, n4, c4, l4, pb4, nb4, cb4, lb4, ps4, ns4, cs4, ls4, pm4, nm4, cm4, lm4, pt4, nt4, ct4, lt4, N4, T4⟩ := sy
      dsimp only
      have hX8 := bx9_below HX7.out hb8
      clear z0 z1 z2 z3 z4 z5 z6 z7 z8 q0 q1
      obtain ⟨w8, hw8⟩ : ∃ w8, ((((((((v8.setCell ⟨G4, 0, none⟩ (.int .i64 A4)).setCell ⟨G4, 1, none⟩ (.int .i64 B4)).setCell ⟨G4, 2, none⟩ (.slice p4 n4 c4)).setCell ⟨G4, 3, none⟩ (.slice pb4 nb4 cb4)).setCell ⟨G4, 4, none⟩ (.slice ps4 ns4 cs4)).setCell ⟨G4, 5, none⟩ (.slice pm4 nm4 cm4)).setCell ⟨G4, 6, none⟩ (.slice pt4 nt4 ct4)).setCell ⟨G4, 7, none⟩ (.int .i64 N4)).setCell ⟨G4, 8, none⟩ (.int .i64 T4) = w8 := ⟨_, rfl⟩
      obtain ⟨k2, kx⟩ := set9 hX8 hw8.symm
      have HX8 : Hid (bx9 w8 G4 (.int .i64 A4) (.int .i64 B4) (.slice p4 n4 c4) (.slice pb4 nb4 cb4) (.slice ps4 ns4 cs4) (.slice pm4 nm4 cm4) (.slice pt4 nt4 ct4) (.int .i64 N4) (.int .i64 T4)) := k2
      have HB08 : Hid (Below w.heap.size w w8) := by
        have h1 := HUP.out v8 (below_call HB07.out HB07.out.size hb8)
        refine h1.trans (kx.below (B := w.heap.size) h1.size (fun i hi e => ?_))
        have h2 := (HUP.out w5 HB05.out).size
        have h3 := HG4.out
        omega
      have HB58 : Hid (Below w5.heap.size w5 w8) := by
        have h1 := below_call HB57.out HB57.out.size hb8
        exact h1.trans (kx.below (B := w5.heap.size) h1.size (fun i hi e => by have h3 := HG4.out; omega))
      have HYF : Hid (Wld.fit w8 ⟨A4, B4, p4, n4, c4, l4, pb4, nb4, cb4, lb4, ps4, ns4, cs4, ls4, pm4, nm4, cm4, lm4, pt4, nt4, ct4, lt4, N4, T4⟩) := hfy w8 (kx.mono (fun i _ e => by have h1 := (HUP.out w5 HB05.out).size; have h2 := HG4.out; have h3 := bx9_lt HX7.out; omega))
      have HSWB : Hid (∀ V, Below w8.heap.size w8 V → Calls Try.prog 16 #[.agg #[.int .i64 A2, .int .i64 B2, .slice p2 n2 c2, .slice pb2 nb2 cb2, .slice ps2 ns2 cs2, .slice pm2 nm2 cm2, .slice pt2 nt2 ct2, .int .i64 N2, .int .i64 T2], .agg #[.int .i64 A4, .int .i64 B4, .slice p4 n4 c4, .slice pb4 nb4 cb4, .slice ps4 ns4 cs4, .slice pm4 nm4 cm4, .slice pt4 nt4 ct4, .int .i64 N4, .int .i64 T4]] V fun e w' => e = .returned (.bool true) ∧ Below V.heap.size V w') := fun V hV =>
        SameWorld_yes ⟨A2, B2, p2, n2, c2, l2, pb2, nb2, cb2, lb2, ps2, ns2, cs2, ls2, pm2, nm2, cm2, lm2, pt2, nt2, ct2, lt2, N2, T2⟩ ⟨A4, B4, p4, n4, c4, l4, pb4, nb4, cb4, lb4, ps4, ns4, cs4, ls4, pm4, nm4, cm4, lm4, pt4, nt4, ct4, lt4, N4, T4⟩ V (HFB.out V (below_call HB23.out HB23.out.size (below_call HB35.out HB35.out.size (below_call HB58.out HB58.out.size hV)))) (Wld.fit_below HYF.out hV) hsame
      obtain ⟨z0, z1, z2, z3, z4, z5, z6, z7, z8⟩ := bx9_c9 hX8
      have fz0 := bx9_free hX8 0
      have fz1 := bx9_free hX8 1
      have fz2 := bx9_free hX8 2
      have fz3 := bx9_free hX8 3
      have fz4 := bx9_free hX8 4
      have fz5 := bx9_free hX8 5
      have fz6 := bx9_free hX8 6
      have fz7 := bx9_free hX8 7
      have fz8 := bx9_free hX8 8
      have hB2v := below_call HB23.out HB23.out.size (below_call HB35.out HB35.out.size HB58.out)
      have hB1v := below_call HB12.out HB12.out.size hB2v
      obtain ⟨a0_, a1_, a2_, a3_, a4_, a5_, a6_, a7_, a8_⟩ := HBA.out w8 hB1v
      obtain ⟨c0_, c1_, c2_, c3_, c4_, c5_, c6_, c7_, c8_⟩ := bx9_c9 (bx9_below HX5.out HB58.out)
      have HSWA8 : Hid _ := HSWA.out w8 HB58.out
      clear hB2v hB1v hfy hsame k2 kx hb8 hX8
      go_wp2_with fail
      refine Calls.mono HSWA8.out ?_
      rintro e w9 ⟨rfl, hb9⟩
      have HB89 : Hid (Below w8.heap.size w8 w9) := hb9
      have HEQ9 : Hid _ := HEQA.out w9 (below_call HB58.out HB58.out.size hb9)
      clear hb9 a0_ a1_ a2_ a3_ a4_ a5_ a6_ a7_ a8_ c0_ c1_ c2_ c3_ c4_ c5_ c6_ c7_ c8_ z0 z1 z2 z3 z4 z5 z6 z7 z8 fz0 fz1 fz2 fz3 fz4 fz5 fz6 fz7 fz8 hw8 hw7
      go_wp2_with fail
      refine Calls.mono HEQ9.out ?_
      rintro e w10 ⟨rfl, hb10⟩
      have HB10 : Hid (Below w8.heap.size w8 w10) := below_call HB89.out HB89.out.size hb10
      have hB2t := below_call HB23.out HB23.out.size (below_call HB35.out HB35.out.size (below_call HB58.out HB58.out.size HB10.out))
      obtain ⟨b0_, b1_, b2_, b3_, b4_, b5_, b6_, b7_, b8_⟩ := HBB.out w10 hB2t
      obtain ⟨c0_, c1_, c2_, c3_, c4_, c5_, c6_, c7_, c8_⟩ := bx9_c9 (bx9_below HX8.out HB10.out)
      have HSWB10 : Hid _ := HSWB.out w10 HB10.out
      clear hb10 hB2t
      go_wp2_with fail
      refine Calls.mono HSWB10.out ?_
      rintro e w11 ⟨rfl, hb11⟩
      have HB11 : Hid (Below w.heap.size w w11) := below_call HB08.out HB08.out.size (below_call HB10.out HB10.out.size hb11)
      clear hb11
      go_wp2_with fail
      go_ret
      exact ⟨by first | rfl | simp_all, HB11.out⟩
end Go.Proofs.Ytnbbfnlfcncgnaa
