/- MarchCuts: to go so far, and then farther, is to go all of it at once: for every world, number, cell and lengths the law answers true. -/
import Derived.Test.YtnbbfnlfcncgnaaRows
import Derived.Test.YtnbbfnlfcncgnaaPost
import Derived.Test.YtnbbfnlfcncgnaaOpc
import Derived.Test.YtnbbfnlfcncgnaaRb
import Derived.Test.YtnbbfnlfcncgnaaLv
import Derived.Test.YtnbbfnlfcncgnaaSf
import Derived.WalkKit
import Derived.ProofKit
import Derived.OpenShut

namespace Go.Proofs.Ytnbbfnlfcncgnaa.marchCuts
open Go.ChangeShapes Go.WideShapes Go.ChangeAt Go.RowKit
set_option linter.unusedVariables false

theorem own : ownKnob Try.prog.godebug = none := by kernel_rfl

theorem rck_ok {s s' : Wld} {id tx ty n k : Int} (h : rck s id tx ty n 0 s' k) : likew s s' ∧ s'.nt = s.nt ∧ ∃ m kk : Nat, n = m ∧ k = kk ∧ m ≤ 200 ∧ Rch s.A s.B s.l (gol [⟨id, tx, ty⟩]) s.nt s.lt m s'.lt kk := by
  rcases h with ⟨h, _⟩ | ⟨_, h⟩
  · exact absurd rfl h
  · exact h
theorem rck_bd {s s' : Wld} {id tx ty n k E : Int} (h : rck s id tx ty n E s' k) : 0 ≤ k ∧ k ≤ 200 := by
  rcases h with ⟨_, _, rfl⟩ | ⟨_, _, _, m, kk, _, rfl, h1, h2⟩
  · omega
  · have := rch_le h2; omega
/-- To go so far, and then farther, is to go all of it at once. -/
theorem rck_cut {s s1 s2 s3 : Wld} {id tx ty n m k j i : Int} (h1 : rck s id tx ty n 0 s1 k) (h2 : rck s1 id tx ty m 0 s2 j) (h3 : rck s id tx ty (n + m) 0 s3 i) : samew s2 s3 ∧ i = k + j := by
  obtain ⟨a1, t1, m1, k1, rfl, rfl, _, r1⟩ := rck_ok h1
  obtain ⟨a2, t2, m2, k2, rfl, rfl, _, r2⟩ := rck_ok h2
  obtain ⟨a3, t3, m3, k3, e3, rfl, _, r3⟩ := rck_ok h3
  obtain rfl : m3 = m1 + m2 := by omega
  obtain ⟨x1, x2, _, x3, _, x4, _, x5, _, x6, x7, x8⟩ := a1
  obtain ⟨y1, y2, _, y3, _, y4, _, y5, _, y6, y7, y8⟩ := a2
  obtain ⟨z1, z2, _, z3, _, z4, _, z5, _, z6, z7, z8⟩ := a3
  rw [x1, x2, x3, t1] at r2
  obtain ⟨e1, e2⟩ := rch_one r3 (rch_cut r1 r2)
  exact ⟨⟨(y1.trans x1).trans z1.symm, (y2.trans x2).trans z2.symm, (y3.trans x3).trans z3.symm, (y4.trans x4).trans z4.symm, (y5.trans x5).trans z5.symm, (y6.trans x6).trans z6.symm, e1.symm, (y7.trans x7).trans z7.symm, (y8.trans x8).trans z8.symm⟩, by rw [e2]; omega⟩

set_option maxRecDepth 20000 in
set_option maxHeartbeats 4000000 in
theorem walk (s0 : Wld) (a1 : Int) (x2 y2 : Int) (a3 : Int) (a4 : Int) (w1 : (Lit.int .i64 a1).wf = true) (w2x : (Lit.int .i64 x2).wf = true) (w2y : (Lit.int .i64 y2).wf = true) (w3 : (Lit.int .i64 a3).wf = true) (w4 : (Lit.int .i64 a4).wf = true) (w : World) (h0 : s0.fit w) :
    Calls Try.prog 7 #[s0.val, .int .i64 a1, .agg #[.int .i64 x2, .int .i64 y2], .int .i64 a3, .int .i64 a4] w fun e w' => e = .returned (.bool true) ∧ Below w.heap.size w w' := by
  obtain ⟨E, hE⟩ := rer_total s0 a1 a3
  have fi := int_of w1
  have fx := int_of w2x
  have fy := int_of w2y
  have H1 : Hid (∀ V, Below w.heap.size w V → Calls Try.prog 10 #[s0.val, .int .i64 a1, .agg #[.int .i64 x2, .int .i64 y2], .int .i64 a3] V fun e w' => (∃ (s' : Wld) (k : Int), e = .returned (.tuple #[s'.val, .int .i64 k, .int .i64 E]) ∧ s'.fit w' ∧ (E = 0 → ∃ W H, okw s' W H) ∧ rck s0 a1 x2 y2 a3 E s' k) ∧ Below V.heap.size V w') := fun V hV => by
    have hf := Wld.fit_below h0 hV
    refine (Reach_any s0 a1 x2 y2 a3 E V hf fi fx fy hE).mono ?_
    rintro e w' ⟨⟨s', k, rfl, h1, h2⟩, hb⟩
    obtain ⟨h3, h4⟩ := reach_fit hf hE h1 h2
    exact ⟨⟨s', k, rfl, h3, h4, h2⟩, hb⟩
  have H2 : Hid (∀ (s : Wld) V, s.fit V → ∃ E2, rer s a1 a4 E2 ∧ Calls Try.prog 10 #[s.val, .int .i64 a1, .agg #[.int .i64 x2, .int .i64 y2], .int .i64 a4] V fun e w' => (∃ (s' : Wld) (k : Int), e = .returned (.tuple #[s'.val, .int .i64 k, .int .i64 E2]) ∧ s'.fit w' ∧ rck s a1 x2 y2 a4 E2 s' k) ∧ Below V.heap.size V w') := fun s V hf => by
    obtain ⟨E2, hE2⟩ := rer_total s a1 a4
    refine ⟨E2, hE2, (Reach_any s a1 x2 y2 a4 E2 V hf fi fx fy hE2).mono ?_⟩
    rintro e w' ⟨⟨s', k, rfl, h1, h2⟩, hb⟩
    obtain ⟨h3, h4⟩ := reach_fit hf hE2 h1 h2
    exact ⟨⟨s', k, rfl, h3, h2⟩, hb⟩
  have H3 : Hid (E = 0 → 0 ≤ a4 → a3 + a4 ≤ 200 → ∀ V, Below w.heap.size w V → Calls Try.prog 10 #[s0.val, .int .i64 a1, .agg #[.int .i64 x2, .int .i64 y2], .int .i64 (a3 + a4)] V fun e w' => (∃ (s' : Wld) (k : Int), e = .returned (.tuple #[s'.val, .int .i64 k, .int .i64 0]) ∧ s'.fit w' ∧ rck s0 a1 x2 y2 (a3 + a4) 0 s' k) ∧ Below V.heap.size V w') := fun e0 hm hnm V hV => by
    subst e0
    have hf := Wld.fit_below h0 hV
    obtain ⟨⟨W, H, hk⟩, hn, hid⟩ := rer_ok hE
    have hE3 : rer s0 a1 (a3 + a4) 0 := ⟨0, wre_of hk, .inr (.inr (.inr ⟨rfl, ⟨by omega, hnm⟩, hid, rfl⟩))⟩
    refine (Reach_any s0 a1 x2 y2 (a3 + a4) 0 V hf fi fx fy hE3).mono ?_
    rintro e w' ⟨⟨s', k, rfl, h1, h2⟩, hb⟩
    obtain ⟨h3, h4⟩ := reach_fit hf hE3 h1 h2
    exact ⟨⟨s', k, rfl, h3, h2⟩, hb⟩
  have HE : Hid (E = 0 → 0 ≤ a3 ∧ a3 ≤ 200) := fun e0 => by subst e0; exact (rer_ok hE).2.1
  obtain ⟨RK, hRK⟩ : ∃ RK : Int → Int → Wld → Int → Prop, (fun n E s' k => rck s0 a1 x2 y2 n E s' k) = RK := ⟨_, rfl⟩
  have e1 : ∀ n E s' k, rck s0 a1 x2 y2 n E s' k = RK n E s' k := fun n E s' k => by rw [← hRK]
  have HCUT : Hid (∀ s1 s2 s3 k j i, RK a3 0 s1 k → rck s1 a1 x2 y2 a4 0 s2 j → RK (a3 + a4) 0 s3 i → samew s2 s3 ∧ i = k + j) := fun s1 s2 s3 k j i h1 h2 h3 => by
    rw [← hRK] at h1 h3
    exact rck_cut h1 h2 h3
  have HBD : Hid (∀ n E s' k, RK n E s' k → 0 ≤ k ∧ k ≤ 200) := fun n E s' k h => by rw [← hRK] at h; exact rck_bd h
  simp only [e1] at H1 H3
  clear h0 hE fi fx fy w1 w2x w2y w3 w4 hRK e1
  obtain ⟨A, B, p, n, c, l, pb, nb, cb, lb, ps, ns, cs, ls, pm, nm, cm, lm, pt, nt, ct, lt, N, T⟩ := s0
  unfold Wld.val at *
  dsimp only at *
  obtain ⟨F, hF⟩ : ∃ F, w.heap.size = F := ⟨_, rfl⟩
  obtain ⟨w0, hw0⟩ : ∃ w0, (w.alloc (.cells #[.int .i64 A, .int .i64 B, .slice p n c, .slice pb nb cb, .slice ps ns cs, .slice pm nm cm, .slice pt nt ct, .int .i64 N, .int .i64 T] 28)).alloc (.cells #[.int .i64 x2, .int .i64 y2] 31) = w0 := ⟨_, rfl⟩
  have HBX : Hid (∀ V, Below w0.heap.size w0 V → c9 V F (.int .i64 A) (.int .i64 B) (.slice p n c) (.slice pb nb cb) (.slice ps ns cs) (.slice pm nm cm) (.slice pt nt ct) (.int .i64 N) (.int .i64 T) ∧ V.cell? ⟨F + 1, 0, none⟩ = some (.int .i64 x2) ∧ V.cell? ⟨F + 1, 1, none⟩ = some (.int .i64 y2)) := fun V hV => box92 hF hw0 hV
  have hB0 : Below w.heap.size w w0 := by rw [← hw0]; exact (alloc_below w _).alloc (by simp) _
  have HUP : Hid (∀ V, Below w0.heap.size w0 V → Below w.heap.size w V) := fun V hV => hB0.trans (hV.mono hB0.size)
  obtain ⟨⟨z0, z1, z2, z3, z4, z5, z6, z7, z8⟩, q0, q1⟩ := HBX.out w0 (Below.refl _ _)
  clear hB0
  go_enter Try.func7, Try.ntmps7
  go_wp2_with fail
  refine (H1.out w0 (HUP.out w0 (Below.refl _ _))).mono ?_
  rintro e w1 ⟨⟨sa, k, rfl, hfa, -, hra⟩, hb1⟩
  have hkb := HBD.out _ _ _ _ hra
  have HKB : Hid (0 ≤ k ∧ k ≤ 200) := hkb
  clear z0 z1 z2 z3 z4 z5 z6 z7 z8 q0 q1 hw0 hF H1
  have HRA : Hid (RK a3 E sa k) := hra
  have HFA : Hid (∀ V, Below w1.heap.size w1 V → sa.fit V) := fun V hV => Wld.fit_below hfa hV
  have HB1 : Hid (Below w0.heap.size w0 w1) := hb1
  have HSA : Hid (∃ sz, sz = sa) := ⟨_, rfl⟩
  obtain ⟨A1, B1, p1, n1, c1, l1, pb1, nb1, cb1, lb1, ps1, ns1, cs1, ls1, pm1, nm1, cm1, lm1, pt1, nt1, ct1, lt1, N1, T1⟩ := sa
  dsimp only
  obtain ⟨w2, hw2⟩ : ∃ w2, w1.alloc (.cells #[.int .i64 A1, .int .i64 B1, .slice p1 n1 c1, .slice pb1 nb1 cb1, .slice ps1 ns1 cs1, .slice pm1 nm1 cm1, .slice pt1 nt1 ct1, .int .i64 N1, .int .i64 T1] 28) = w2 := ⟨_, rfl⟩
  obtain ⟨G1, hG1⟩ : ∃ G1, w1.heap.size = G1 := ⟨_, rfl⟩
  have hb2 : Below w1.heap.size w1 w2 := by rw [← hw2]; exact alloc_below _ _
  have HBA : Hid (∀ V, Below w2.heap.size w2 V → c9 V G1 (.int .i64 A1) (.int .i64 B1) (.slice p1 n1 c1) (.slice pb1 nb1 cb1) (.slice ps1 ns1 cs1) (.slice pm1 nm1 cm1) (.slice pt1 nt1 ct1) (.int .i64 N1) (.int .i64 T1)) := fun V hV => boxw hG1 hw2 hV
  have HB2 : Hid (Below w0.heap.size w0 w2) := below_call hb1 hb1.size hb2
  obtain ⟨E2, hE2, hc2⟩ := H2.out _ w2 (HFA.out w2 hb2)
  have HC2 : Hid (Calls Try.prog 10 #[.agg #[.int .i64 A1, .int .i64 B1, .slice p1 n1 c1, .slice pb1 nb1 cb1, .slice ps1 ns1 cs1, .slice pm1 nm1 cm1, .slice pt1 nt1 ct1, .int .i64 N1, .int .i64 T1], .int .i64 a1, .agg #[.int .i64 x2, .int .i64 y2], .int .i64 a4] w2 _) := hc2
  have HE2 : Hid (E2 = 0 → 0 ≤ a4 ∧ a4 ≤ 200) := fun e0 => by subst e0; exact (rer_ok hE2).2.1
  obtain ⟨⟨z0, z1, z2, z3, z4, z5, z6, z7, z8⟩, q0, q1⟩ := HBX.out w2 HB2.out
  obtain ⟨y0, y1, y2_, y3, y4, y5, y6, y7, y8⟩ := HBA.out w2 (Below.refl _ _)
  clear hfa hra hb1 hb2 hE2 hc2 H2
  go_wp2_with fail
  refine Calls.mono HC2.out ?_
  rintro e w3 ⟨⟨sb, j, rfl, hfb, hrb⟩, hb3⟩
  have hjb := rck_bd hrb
  have HJB : Hid (0 ≤ j ∧ j ≤ 200) := hjb
  clear z0 z1 z2 z3 z4 z5 z6 z7 z8 q0 q1 y0 y1 y2_ y3 y4 y5 y6 y7 y8 hw2 hG1
  have HRB : Hid (rck ⟨A1, B1, p1, n1, c1, l1, pb1, nb1, cb1, lb1, ps1, ns1, cs1, ls1, pm1, nm1, cm1, lm1, pt1, nt1, ct1, lt1, N1, T1⟩ a1 x2 y2 a4 E2 sb j) := hrb
  have HFB : Hid (∀ V, Below w3.heap.size w3 V → sb.fit V) := fun V hV => Wld.fit_below hfb hV
  have HB3 : Hid (Below w0.heap.size w0 w3) := below_call HB2.out HB2.out.size hb3
  have HB23 : Hid (Below w2.heap.size w2 w3) := hb3
  obtain ⟨A2, B2, p2, n2, c2, l2, pb2, nb2, cb2, lb2, ps2, ns2, cs2, ls2, pm2, nm2, cm2, lm2, pt2, nt2, ct2, lt2, N2, T2⟩ := sb
  dsimp only
  obtain ⟨w4, hw4⟩ : ∃ w4, w3.alloc (.cells #[.int .i64 A2, .int .i64 B2, .slice p2 n2 c2, .slice pb2 nb2 cb2, .slice ps2 ns2 cs2, .slice pm2 nm2 cm2, .slice pt2 nt2 ct2, .int .i64 N2, .int .i64 T2] 28) = w4 := ⟨_, rfl⟩
  obtain ⟨G2, hG2⟩ : ∃ G2, w3.heap.size = G2 := ⟨_, rfl⟩
  have hb4 : Below w3.heap.size w3 w4 := by rw [← hw4]; exact alloc_below _ _
  have HB34 : Hid (Below w3.heap.size w3 w4) := hb4
  have HBB : Hid (∀ V, Below w4.heap.size w4 V → c9 V G2 (.int .i64 A2) (.int .i64 B2) (.slice p2 n2 c2) (.slice pb2 nb2 cb2) (.slice ps2 ns2 cs2) (.slice pm2 nm2 cm2) (.slice pt2 nt2 ct2) (.int .i64 N2) (.int .i64 T2)) := fun V hV => boxw hG2 hw4 hV
  have HB4 : Hid (Below w0.heap.size w0 w4) := below_call HB3.out HB3.out.size hb4
  clear hfb hrb hb3 hb4
  go_wp2_with fail
  refine (mlives_any w4).mono ?_
  rintro e w5 ⟨rfl, hb5⟩
  have HB45 : Hid (Below w4.heap.size w4 w5) := hb5
  have HB5 : Hid (Below w0.heap.size w0 w5) := below_call HB4.out HB4.out.size hb5
  clear hb5 hw4 hG2
  have hend : (E = 0 ∧ E2 = 0 ∧ a3 + a4 ≤ 200) ∨ E ≠ 0 ∨ (E = 0 ∧ E2 ≠ 0) ∨ (E = 0 ∧ E2 = 0 ∧ ¬ a3 + a4 ≤ 200) := by
    by_cases e0 : E = 0 <;> by_cases e2 : E2 = 0 <;> by_cases e3 : a3 + a4 ≤ 200 <;> simp [e0, e2, e3]
  rcases hend with ⟨rfl, rfl, hnm⟩ | hE0 | ⟨rfl, hE0⟩ | ⟨rfl, rfl, hnm⟩
  rotate_left
  · have d1 : (E != 0) = true := by simp [hE0]
    go_wp2_with fail
    refine (mlives_any w5).mono ?_
    rintro e w6 ⟨rfl, hb6⟩
    have HB6 : Hid (Below w.heap.size w w6) := HUP.out w6 (below_call HB5.out HB5.out.size hb6)
    clear hb6
    go_wp2_with fail
    go_ret
    exact ⟨by simp, HB6.out⟩
  · have d1 : (E2 != 0) = true := by simp [hE0]
    go_wp2_with fail
    refine (mlives_any w5).mono ?_
    rintro e w6 ⟨rfl, hb6⟩
    have HB6 : Hid (Below w.heap.size w w6) := HUP.out w6 (below_call HB5.out HB5.out.size hb6)
    clear hb6
    go_wp2_with fail
    go_ret
    exact ⟨by simp, HB6.out⟩
  · have ha3 := HE.out rfl
    have ha4 := HE2.out rfl
    have d1 : decide (200 < a3 + a4) = true := by simp; omega
    go_wp2_with fail
    refine (mlives_any w5).mono ?_
    rintro e w6 ⟨rfl, hb6⟩
    have HB6 : Hid (Below w.heap.size w w6) := HUP.out w6 (below_call HB5.out HB5.out.size hb6)
    clear hb6
    go_wp2_with fail
    go_ret
    exact ⟨by simp, HB6.out⟩
  · have ha3 := HE.out rfl
    have ha4 := HE2.out rfl
    have d1 : decide (200 < a3 + a4) = false := by simp; omega
    have HC3 : Hid (Calls Try.prog 10 #[.agg #[.int .i64 A, .int .i64 B, .slice p n c, .slice pb nb cb, .slice ps ns cs, .slice pm nm cm, .slice pt nt ct, .int .i64 N, .int .i64 T], .int .i64 a1, .agg #[.int .i64 x2, .int .i64 y2], .int .i64 (a3 + a4)] w5 _) := H3.out rfl ha4.1 hnm w5 (HUP.out w5 HB5.out)
    obtain ⟨⟨z0, z1, z2, z3, z4, z5, z6, z7, z8⟩, q0, q1⟩ := HBX.out w5 HB5.out
    clear H3
    go_wp2_with fail
    refine Calls.mono HC3.out ?_
    rintro e w6 ⟨⟨sc, i, rfl, hfc, hrc⟩, hb6⟩
    obtain ⟨hsame, hi⟩ := HCUT.out _ _ _ _ _ _ HRA.out HRB.out hrc
    have HB6 : Hid (Below w0.heap.size w0 w6) := below_call HB5.out HB5.out.size hb6
    have hB46 : Below w4.heap.size w4 w6 := below_call HB45.out HB45.out.size hb6
    obtain ⟨A3, B3, p3, n3, c3, l3, pb3, nb3, cb3, lb3, ps3, ns3, cs3, ls3, pm3, nm3, cm3, lm3, pt3, nt3, ct3, lt3, N3, T3⟩ := sc
    dsimp only
    obtain ⟨w7, hw7⟩ : ∃ w7, w6.alloc (.cells #[.int .i64 A3, .int .i64 B3, .slice p3 n3 c3, .slice pb3 nb3 cb3, .slice ps3 ns3 cs3, .slice pm3 nm3 cm3, .slice pt3 nt3 ct3, .int .i64 N3, .int .i64 T3] 28) = w7 := ⟨_, rfl⟩
    obtain ⟨G3, hG3⟩ : ∃ G3, w6.heap.size = G3 := ⟨_, rfl⟩
    have hb7 : Below w6.heap.size w6 w7 := by rw [← hw7]; exact alloc_below _ _
    have hB47 : Below w4.heap.size w4 w7 := below_call hB46 hB46.size hb7
    have HB7 : Hid (Below w.heap.size w w7) := HUP.out w7 (below_call HB6.out HB6.out.size hb7)
    have HSW : Hid (Calls Try.prog 16 #[.agg #[.int .i64 A2, .int .i64 B2, .slice p2 n2 c2, .slice pb2 nb2 cb2, .slice ps2 ns2 cs2, .slice pm2 nm2 cm2, .slice pt2 nt2 ct2, .int .i64 N2, .int .i64 T2], .agg #[.int .i64 A3, .int .i64 B3, .slice p3 n3 c3, .slice pb3 nb3 cb3, .slice ps3 ns3 cs3, .slice pm3 nm3 cm3, .slice pt3 nt3 ct3, .int .i64 N3, .int .i64 T3]] w7 fun e w' => e = .returned (.bool true) ∧ Below w7.heap.size w7 w') := SameWorld_yes ⟨A2, B2, p2, n2, c2, l2, pb2, nb2, cb2, lb2, ps2, ns2, cs2, ls2, pm2, nm2, cm2, lm2, pt2, nt2, ct2, lt2, N2, T2⟩ ⟨A3, B3, p3, n3, c3, l3, pb3, nb3, cb3, lb3, ps3, ns3, cs3, ls3, pm3, nm3, cm3, lm3, pt3, nt3, ct3, lt3, N3, T3⟩ w7 (HFB.out w7 (below_call HB34.out HB34.out.size hB47)) (Wld.fit_below hfc hb7) hsame
    have d2 : (i == k + j) = true := by rw [hi]; simp
    clear z0 z1 z2 z3 z4 z5 z6 z7 z8 q0 q1 HC3
    obtain ⟨z0, z1, z2, z3, z4, z5, z6, z7, z8⟩ := HBB.out w7 hB47
    obtain ⟨y0, y1, y2_, y3, y4, y5, y6, y7, y8⟩ := boxw hG3 hw7 (Below.refl _ _)
    clear hfc hrc hb6 hB46 hb7 hB47 hsame
    subst hi
    go_wp2_with fail
    refine Calls.mono HSW.out ?_
    rintro e w8 ⟨rfl, hb8⟩
    have HB8 : Hid (Below w.heap.size w w8) := below_call HB7.out HB7.out.size hb8
    clear hb8
    go_wp2_with fail
    go_ret
    exact ⟨rfl, HB8.out⟩

set_option maxRecDepth 100000 in
theorem lifted (os : Os) (started : os.Started) (H : Type) (enc : TypeId × Value → H) :
    ReturnsInHanded {} Try.checked os 7 .any (Rows.marchCutsSpec.pre6 enc Try.prog Try.f7 Rows.marchCutsRow.domain false) (Rows.marchCutsSpec.post enc Try.prog Try.f7 false true false false) := by
  refine returnsInHanded_of_change (C := Try.checked) own started (by kernel_rfl) Try.func7
    (ChangeSpec.witness6 (enc := enc) (C := Try.checked) false ⟨#[], #[.agg #[.int .i64 0, .int .i64 0, .slice none 0 0, .slice none 0 0, .slice none 0 0, .slice none 0 0, .slice none 0 0, .int .i64 0, .int .i64 0], .int .i64 0, .agg #[.int .i64 0, .int .i64 0], .int .i64 0, .int .i64 0], []⟩ 8 (by kernel_rfl) (by kernel_rfl) (by kernel_rfl) (by kernel_rfl)) ?_
  intro W base args ds gs before hval0 hW hcnd _
  have hval : ∀ (j : Nat) t v, Try.f7.params[j]? = some t → args[j]? = some v → Value.okWide Try.prog W .any base t v := hval0
  have hW' := hW
  obtain ⟨p, q, hA0, hV, rfl, hfz, hnd⟩ := hW
  have hA : DataW.TrodAll enc Try.prog W 0 (fun _ => true) true Try.f7.params.toList args.toList ds p := hA0
  rw [Try.params7] at hA hval
  obtain ⟨v0, vs0, d0, ds0, p0, q0, hargs, rfl, rfl, h0, r0⟩ := trodAll_cons hA
  obtain ⟨v1, vs1, d1, ds1, p1, q1, rfl, rfl, rfl, h1, r1⟩ := trodAll_cons r0
  obtain ⟨v2, vs2, d2, ds2, p2, q2, rfl, rfl, rfl, h2, r2⟩ := trodAll_cons r1
  obtain ⟨v3, vs3, d3, ds3, p3, q3, rfl, rfl, rfl, h3, r3⟩ := trodAll_cons r2
  obtain ⟨v4, vs4, d4, ds4, p4, q4, rfl, rfl, rfl, h4, r4⟩ := trodAll_cons r3
  obtain ⟨rfl, rfl, rfl⟩ := trodAll_nil r4
  obtain rfl : args = #[v0, v1, v2, v3, v4] := by cases args; simp_all
  obtain ⟨rfl, rfl⟩ := trodVars_none hV
  obtain ⟨s0, rfl, k0⟩ := open_wld (hval 0 28 v0 rfl rfl) h0
  obtain ⟨a1, rfl, rfl, rfl, w1⟩ := open_int Try.underlying3 (hval 1 3 v1 rfl rfl) h1
  obtain ⟨x2, y2, rfl, rfl, rfl, w2x, w2y⟩ := open_two Try.underlying31 Try.underlying3 Try.underlying3 rfl rfl (by kernel_rfl) (by kernel_rfl) (by kernel_rfl) (hval 2 31 v2 rfl rfl) h2
  obtain ⟨a3, rfl, rfl, rfl, w3⟩ := open_int Try.underlying3 (hval 3 3 v3 rfl rfl) h3
  obtain ⟨a4, rfl, rfl, rfl, w4⟩ := open_int Try.underlying3 (hval 4 3 v4 rfl rfl) h4

  clear hA0 hval0
  refine (walk s0 a1 x2 y2 a3 a4 w1 w2x w2y w3 w4 W k0).mono fun e W' ⟨he, hg⟩ => ?_
  subst he
  exact ⟨_, rfl, law_post (by kernel_rfl) (by kernel_rfl) rfl (by kernel_rfl) Try.underlying4 hW' rfl hg⟩

theorem over : Rows.marchCutsRow.holds Try.pinned (OpenSpec.ofChange Rows.marchCutsSpec) :=
  OpenClaim.holds_of_wide 7 Try.f7 rfl rfl rfl rfl rfl rfl rfl ⟨rfl, rfl, rfl, rfl, rfl⟩ rfl rfl rfl rfl rfl (by kernel_rfl) Try.func7 (by kernel_rfl)
    (of_decide_eq_true (by kernel_rfl)) (by unfold Func.isWrapper; first | (rw [if_pos (by decide +kernel)]; kernel_rfl) | (rw [if_neg (by decide +kernel)]; exact ⟨rfl, rfl⟩))
    (fun os started H enc _ => lifted os started H enc)

theorem proved : Rows.MarchCutsSaid :=
  over
end Go.Proofs.Ytnbbfnlfcncgnaa.marchCuts

namespace Go.Proofs.Ytnbbfnlfcncgnaa
/-- MarchCuts: to go so far, and then farther, is to go all of it at once: for every world, number, cell and lengths the law answers true. -/
theorem marchCuts_holds : Rows.MarchCutsSaid := marchCuts.proved
#print axioms marchCuts_holds
end Go.Proofs.Ytnbbfnlfcncgnaa
