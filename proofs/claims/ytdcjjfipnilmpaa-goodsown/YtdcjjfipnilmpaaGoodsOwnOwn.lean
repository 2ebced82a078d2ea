/- GoodsOwn: a world that is handed in stays as it was, and what is told shares nothing with it: for every world and every list of deeds the law answers true. -/
import Derived.Test.YtdcjjfipnilmpaaRows
import Derived.Test.YtdcjjfipnilmpaaPost
import Derived.Test.YtdcjjfipnilmpaaOpc
import Derived.Test.YtdcjjfipnilmpaaLv
import Derived.Test.YtdcjjfipnilmpaaSp
import Derived.Test.YtdcjjfipnilmpaaHc
import Derived.Test.YtdcjjfipnilmpaaHd
import Derived.WalkKit
import Derived.ProofKit
import Derived.OpenShut
import Derived.SizedLaws
import Derived.ChangeMaps5
import Derived.JoinedCond
namespace Go.Proofs.Ytdcjjfipnilmpaa.goodsOwn
open Go.ChangeShapes Go.WideShapes Go.ChangeAt Go.RowKit
set_option linter.unusedVariables false

theorem own : ownKnob Try.prog.godebug = none := by kernel_rfl


set_option maxRecDepth 20000 in
set_option maxHeartbeats 4000000 in
theorem walk (s0 : Wld) (s1 : Dst)  (w : World) (h0 : s0.fit w) (hz0 : wsz s0) (h1 : s1.fit w) (hs1 : s1.l.length * 40 ≤ 140737488351232) :
    Calls Try.prog 8 #[s0.val, s1.val] w fun e w' => e = .returned (.bool true) ∧ Below w.heap.size w w' := by
  obtain ⟨E, hE⟩ := ber_total s0 s1.l.length
  obtain ⟨hcr, hxb, hmx, hzp, hkc⟩ := h1
  obtain ⟨hq1, hq2, hq3, hq4, hq5⟩ := hz0
  have HS1 : Hid (∀ V, Below w.heap.size w V → Calls Try.prog 9 #[s0.val, .slice s1.p s1.l.length s1.c] V fun e w' => (∃ (s' : Wld) (gp : Option Addr) (gc : Nat) (gl : List Bool), e = .returned (.tuple #[s'.val, .slice gp gl.length gc, .int .i64 E]) ∧ row vbl w' gp gl ∧ wown V.heap.size w' s' ∧ dok s0 s1.l E s' gl) ∧ Below V.heap.size V w') := fun V hV => Do_any s0 E s1.p s1.l.length s1.c s1.l V (Wld.fit_below h0 hV) (dor_below hcr hV) hxb rfl hmx hE
  have HKT : Hid (∀ V, Below w.heap.size w V → Calls Try.prog 23 #[.slice s0.pt s0.nt s0.ct] V fun e w' => (∃ v, e = .returned v ∧ w'.ownsRow V.heap.size 47 7 v s0.lt.length (flat7 s0.lt)) ∧ Below V.heap.size V w') := fun V hV => by
    refine (Clonet_any s0.pt s0.nt s0.ct s0.lt V (trow_below h0.rt hV) h0.ht (by omega)).mono ?_
    rintro e w' ⟨⟨v, e1, h1, _⟩, h2⟩
    exact ⟨⟨v, e1, h1⟩, h2⟩
  have hki : ∀ (p : Option Addr) (n c : Nat) (l : List Int) V, row vi w p l → l.length = n → n * 8 ≤ 140737488355328 → Below w.heap.size w V → Calls Try.prog 24 #[.slice p n c] V fun e w' => (∃ v, e = .returned v ∧ w'.ownsRow V.heap.size 3 1 v l.length (l.map vi)) ∧ Below V.heap.size V w' := fun p n c l V h1 h2 h3 hV => by
    refine (Clonei_any p n c l V (row_below h1 hV) h2 h3).mono ?_
    rintro e w' ⟨⟨v, e1, h1, _⟩, h2⟩
    exact ⟨⟨v, e1, h1⟩, h2⟩
  have HKP : Hid (∀ V, Below w.heap.size w V → Calls Try.prog 24 #[.slice s0.p s0.n s0.c] V fun e w' => (∃ v, e = .returned v ∧ w'.ownsRow V.heap.size 3 1 v s0.l.length (s0.l.map vi)) ∧ Below V.heap.size V w') := fun V hV => hki _ _ _ _ V h0.r h0.h (by omega) hV
  have HKS : Hid (∀ V, Below w.heap.size w V → Calls Try.prog 24 #[.slice s0.ps s0.ns s0.cs] V fun e w' => (∃ v, e = .returned v ∧ w'.ownsRow V.heap.size 3 1 v s0.ls.length (s0.ls.map vi)) ∧ Below V.heap.size V w') := fun V hV => hki _ _ _ _ V h0.rs h0.hs (by omega) hV
  have HKM : Hid (∀ V, Below w.heap.size w V → Calls Try.prog 24 #[.slice s0.pm s0.nm s0.cm] V fun e w' => (∃ v, e = .returned v ∧ w'.ownsRow V.heap.size 3 1 v s0.lm.length (s0.lm.map vi)) ∧ Below V.heap.size V w') := fun V hV => hki _ _ _ _ V h0.rm h0.hm (by omega) hV
  have HKB : Hid (∀ V, Below w.heap.size w V → Calls Try.prog 25 #[.slice s0.pb s0.nb s0.cb] V fun e w' => (∃ v, e = .returned v ∧ w'.ownsRow V.heap.size 45 2 v s0.lb.length (flat2 s0.lb)) ∧ Below V.heap.size V w') := fun V hV => by
    refine (Clonec_any s0.pb s0.nb s0.cb s0.lb V (crow_below h0.rb hV) h0.hb (by omega)).mono ?_
    rintro e w' ⟨⟨v, e1, h1, _⟩, h2⟩
    exact ⟨⟨v, e1, h1⟩, h2⟩
  have HO1 : Hid (∀ (F G1 G2 G3 G4 G5 : Nat) (q1 q2 q3 q4 q5 : Option Addr) (d1 d2 d3 d4 d5 : Nat) (V : World), Below w.heap.size w V →
      bx9 V F (.int .i64 s0.A) (.int .i64 s0.B) (.slice s0.p s0.n s0.c) (.slice s0.pb s0.nb s0.cb) (.slice s0.ps s0.ns s0.cs) (.slice s0.pm s0.nm s0.cm) (.slice s0.pt s0.nt s0.ct) (.int .i64 s0.N) (.int .i64 s0.T) →
      V.cell? ⟨G1, 0, none⟩ = some (.slice q1 s0.nt d1) → trow V q1 s0.lt → V.cell? ⟨G2, 0, none⟩ = some (.slice q2 s0.n d2) → row vi V q2 s0.l → V.cell? ⟨G3, 0, none⟩ = some (.slice q3 s0.nb d3) → crow V q3 s0.lb →
      V.cell? ⟨G4, 0, none⟩ = some (.slice q4 s0.ns d4) → row vi V q4 s0.ls → V.cell? ⟨G5, 0, none⟩ = some (.slice q5 s0.nm d5) → row vi V q5 s0.lm →
      Calls Try.prog 26 #[.pointer (some ⟨F, 0, none⟩), .pointer (some ⟨G1, 0, none⟩), .pointer (some ⟨G2, 0, none⟩), .pointer (some ⟨G3, 0, none⟩), .pointer (some ⟨G4, 0, none⟩), .pointer (some ⟨G5, 0, none⟩)] V fun e w' => e = .returned (.bool true) ∧ Below V.heap.size V w') :=
    fun F G1 G2 G3 G4 G5 q1 q2 q3 q4 q5 d1 d2 d3 d4 d5 V hV hx a1 r1 a2 r2 a3 r3 a4 r4 a5 r5 => Own1_any s0 F G1 G2 G3 G4 G5 q1 q2 q3 q4 q5 d1 d2 d3 d4 d5 V (Wld.fit_below h0 hV) hx a1 r1 a2 r2 a3 r3 a4 r4 a5 r5
  have HLEN : Hid (s0.lt.length = s0.nt ∧ s0.l.length = s0.n ∧ s0.lb.length = s0.nb ∧ s0.ls.length = s0.ns ∧ s0.lm.length = s0.nm) := ⟨h0.ht, h0.h, h0.hb, h0.hs, h0.hm⟩
  obtain ⟨SO, hSO⟩ : ∃ SO : Wld → List Bool → Prop, (fun s' gl => dok s0 s1.l E s' gl) = SO := ⟨_, rfl⟩
  have e1 : ∀ s' gl, dok s0 s1.l E s' gl = SO s' gl := fun s' gl => by rw [← hSO]
  simp only [e1] at HS1
  obtain ⟨pl, cl, bl⟩ := s1
  unfold Dst.val
  dsimp only at *
  clear hs1 h0 hE hcr hxb hmx hzp hkc hSO e1 hki hq1 hq2 hq3 hq4 hq5
  obtain ⟨A, B, p, n, c, l, pb, nb, cb, lb, ps, ns, cs, ls, pm, nm, cm, lm, pt, nt, ct, lt, N, T⟩ := s0
  unfold Wld.val at *
  dsimp only at *
  obtain ⟨nl, hnl⟩ : ∃ nl, bl.length = nl := ⟨_, rfl⟩
  rw [hnl] at HS1 ⊢
  clear hnl
  obtain ⟨F, hF⟩ : ∃ F, w.heap.size = F := ⟨_, rfl⟩
  obtain ⟨w0, hw0⟩ : ∃ w0, w.alloc (.cells #[.int .i64 A, .int .i64 B, .slice p n c, .slice pb nb cb, .slice ps ns cs, .slice pm nm cm, .slice pt nt ct, .int .i64 N, .int .i64 T] 28) = w0 := ⟨_, rfl⟩
  have hB0 : Below w.heap.size w w0 := by rw [← hw0]; exact alloc_below _ _
  have hx0 : bx9 w0 F (.int .i64 A) (.int .i64 B) (.slice p n c) (.slice pb nb cb) (.slice ps ns cs) (.slice pm nm cm) (.slice pt nt ct) (.int .i64 N) (.int .i64 T) := by rw [← hw0, ← hF]; exact box9_new _ _ _ _ _ _ _ _ _ _
  have HB0 : Hid (Below w.heap.size w w0) := hB0
  have HBX : Hid (∀ V, Below w0.heap.size w0 V → bx9 V F (.int .i64 A) (.int .i64 B) (.slice p n c) (.slice pb nb cb) (.slice ps ns cs) (.slice pm nm cm) (.slice pt nt ct) (.int .i64 N) (.int .i64 T)) := fun V hV => bx9_below hx0 hV
  have HUP : Hid (∀ V, Below w0.heap.size w0 V → Below w.heap.size w V) := fun V hV => HB0.out.trans (hV.mono HB0.out.size)
  obtain ⟨z0, z1, z2, z3, z4, z5, z6, z7, z8⟩ := bx9_c9 hx0
  clear hB0 hx0
  go_enter Try.func8, Try.ntmps8
  go_wp2_with fail
  clear z0 z1 z2 z3 z4 z5 z6 z7 z8 hw0 hF
  refine reg1 F A B N T p pb ps pm pt n c nb cb ns cs nm cm nt ct l ls lm lb lt w0 _ _ _ _ _ _ _ _ _ _ _ _ _ _ _ _ _ _ _ _ _ _ _ _ _ _ _ _ _ _ _ _ _ _ _ _ _ _ _ _ _ _ _ _ _ _ _ _ _ _ _ (HBX.out w0 (Below.refl _ _)) (fun V hV => HKT.out V (HUP.out V hV)) (fun V hV => HKP.out V (HUP.out V hV)) ?_
  intro v1 v2 G1 G2 w1 hb1 ca1 ca2 ow1 ow2
  obtain ⟨q1, d1, rfl⟩ := mine_form ow1
  obtain ⟨q2, d2, rfl⟩ := mine_form ow2
  have HB01 : Hid (Below w0.heap.size w0 w1) := hb1
  have HG1 : Hid (w1.cell? ⟨G1, 0, none⟩ = some (.slice q1 lt.length d1) ∧ w1.cell? ⟨G2, 0, none⟩ = some (.slice q2 l.length d2)) := ⟨ca1, ca2⟩
  have HR1 : Hid (trow w1 q1 lt ∧ row vi w1 q2 l) := ⟨own_trow ow1, own_row ow2⟩
  clear hb1 ca1 ca2 ow1 ow2
  dsimp only
  go_wp2_with fail
  refine reg2 F A B N T p pb ps pm pt n c nb cb ns cs nm cm nt ct l ls lm lb lt w1 _ _ _ _ _ _ _ _ _ _ _ _ _ _ _ _ _ _ _ _ _ _ _ _ _ _ _ _ _ _ _ _ _ _ _ _ _ _ _ _ _ _ _ _ _ _ _ _ _ _ _ (HBX.out w1 HB01.out) (fun V hV => HKB.out V (HUP.out V (below_call HB01.out HB01.out.size hV))) (fun V hV => HKS.out V (HUP.out V (below_call HB01.out HB01.out.size hV))) (fun V hV => HKM.out V (HUP.out V (below_call HB01.out HB01.out.size hV))) ?_
  intro v3 v4 v5 G3 G4 G5 w2 hb2 ca3 ca4 ca5 ow3 ow4 ow5
  obtain ⟨q3, d3, rfl⟩ := mine_form ow3
  obtain ⟨q4, d4, rfl⟩ := mine_form ow4
  obtain ⟨q5, d5, rfl⟩ := mine_form ow5
  have HB02 : Hid (Below w0.heap.size w0 w2) := below_call HB01.out HB01.out.size hb2
  have hcl : ∀ V, Below w2.heap.size w2 V → Calls Try.prog 26 #[.pointer (some ⟨F, 0, none⟩), .pointer (some ⟨G1, 0, none⟩), .pointer (some ⟨G2, 0, none⟩), .pointer (some ⟨G3, 0, none⟩), .pointer (some ⟨G4, 0, none⟩), .pointer (some ⟨G5, 0, none⟩)] V fun e w' => e = .returned (.bool true) ∧ Below V.heap.size V w' := fun V hV => by
    have h12 := hb2.trans (hV.mono hb2.size)
    obtain ⟨y1, y2, y3, y4, y5⟩ := HLEN.out
    have k1 := cell_call h12 HG1.out.1
    have k2 := cell_call h12 HG1.out.2
    have k3 := cell_call hV ca3
    have k4 := cell_call hV ca4
    have k5 := cell_call hV ca5
    rw [y1] at k1
    rw [y2] at k2
    rw [y3] at k3
    rw [y4] at k4
    rw [y5] at k5
    exact HO1.out F G1 G2 G3 G4 G5 q1 q2 q3 q4 q5 d1 d2 d3 d4 d5 V (HUP.out V (below_call HB02.out HB02.out.size hV)) (HBX.out V (below_call HB02.out HB02.out.size hV)) k1 (trow_below HR1.out.1 h12) k2 (row_below HR1.out.2 h12) k3 (crow_below (own_crow ow3) hV) k4 (row_below (own_row ow4) hV) k5 (row_below (own_row ow5) hV)
  have HCL : Hid _ := hcl
  have HBW2 : Hid (Below w.heap.size w w2) := HUP.out w2 HB02.out
  obtain ⟨z0, z1, z2, z3, z4, z5, z6, z7, z8⟩ := bx9_c9 (HBX.out w2 HB02.out)
  clear hb2 ca3 ca4 ca5 ow3 ow4 ow5 hcl HO1 HR1 HG1 HKT HKP HKB HKS HKM HLEN
  dsimp only
  go_wp2_with fail
  refine (HS1.out w2 HBW2.out).mono ?_
  rintro e w3 ⟨⟨sa, gpa, gca, gla, rfl, hra, hwa, hsa⟩, hb3⟩
  have HB23 : Hid (Below w2.heap.size w2 w3) := hb3
  clear hra hsa hb3 z0 z1 z2 z3 z4 z5 z6 z7 z8 HS1
  have HSP : Hid (∀ V, Below w3.heap.size w3 V → Calls Try.prog 29 #[sa.val] V fun e w' => (∃ v, e = .returned v) ∧ Below w2.heap.size V w') := fun V hV =>
by
    refine (spoil_any sa w2.heap.size w3.heap.size w3 V (Nat.le_trans HB23.out.size hV.size) hV.size rfl hwa (wown_below hwa hV)).mono ?_
    rintro e w' ⟨h1, h2, _⟩
    exact ⟨h1, h2⟩
  clear hwa
  obtain ⟨A1, B1, p1, n1, c1, l1_, pb1, nb1, cb1, lb1, ps1, ns1, cs1, ls1, pm1, nm1, cm1, lm1, pt1, nt1, ct1, lt1, N1, T1⟩ := sa
  unfold Wld.val at HSP
  dsimp only at HSP ⊢
  obtain ⟨w4, hw4⟩ : ∃ w4, w3.alloc (.cells #[.int .i64 A1, .int .i64 B1, .slice p1 n1 c1, .slice pb1 nb1 cb1, .slice ps1 ns1 cs1, .slice pm1 nm1 cm1, .slice pt1 nt1 ct1, .int .i64 N1, .int .i64 T1] 28) = w4 := ⟨_, rfl⟩
  obtain ⟨K, hK⟩ : ∃ K, w3.heap.size = K := ⟨_, rfl⟩
  have hb4 : Below w3.heap.size w3 w4 := by rw [← hw4]; exact alloc_below _ _
  have hx4 : bx9 w4 K (.int .i64 A1) (.int .i64 B1) (.slice p1 n1 c1) (.slice pb1 nb1 cb1) (.slice ps1 ns1 cs1) (.slice pm1 nm1 cm1) (.slice pt1 nt1 ct1) (.int .i64 N1) (.int .i64 T1) := by rw [← hw4, ← hK]; exact box9_new _ _ _ _ _ _ _ _ _ _
  have HX4 : Hid (∀ V, Below w4.heap.size w4 V → bx9 V K (.int .i64 A1) (.int .i64 B1) (.slice p1 n1 c1) (.slice pb1 nb1 cb1) (.slice ps1 ns1 cs1) (.slice pm1 nm1 cm1) (.slice pt1 nt1 ct1) (.int .i64 N1) (.int .i64 T1)) := fun V hV => bx9_below hx4 hV
  have HB34 : Hid (Below w3.heap.size w3 w4) := hb4
  have HB24 : Hid (Below w2.heap.size w2 w4) := below_call HB23.out HB23.out.size hb4
  clear hb4 hx4
  go_wp2_with fail
  clear hw4 hK
  refine (HCL.out w4 HB24.out).mono ?_
  rintro e w5 ⟨rfl, hb5⟩
  have HB45 : Hid (Below w4.heap.size w4 w5) := hb5
  have HB35 : Hid (Below w3.heap.size w3 w5) := below_call HB34.out HB34.out.size hb5
  have HB25 : Hid (Below w2.heap.size w2 w5) := below_call HB24.out HB24.out.size hb5
  obtain ⟨z0, z1, z2, z3, z4, z5, z6, z7, z8⟩ := bx9_c9 (HX4.out w5 HB45.out)
  clear hb5
  go_wp2_with fail
  refine (HSP.out w5 HB35.out).mono ?_
  rintro e w6 ⟨⟨vr, rfl⟩, hb6⟩
  have HB26 : Hid (Below w2.heap.size w2 w6) := HB25.out.trans hb6
  clear hb6 z0 z1 z2 z3 z4 z5 z6 z7 z8
  go_wp2_with fail
  refine (glives_any w6).mono ?_
  rintro e w7 ⟨rfl, hb7⟩
  have HB27 : Hid (Below w2.heap.size w2 w7) := below_call HB26.out HB26.out.size hb7
  clear hb7
  go_wp2_with fail
  refine (HCL.out w7 HB27.out).mono ?_
  rintro e w8 ⟨rfl, hb8⟩
  have HB8 : Hid (Below w.heap.size w w8) := below_call HBW2.out HBW2.out.size (below_call HB27.out HB27.out.size hb8)
  clear hb8
  go_wp2_with fail
  go_ret
  exact ⟨rfl, HB8.out⟩

set_option maxRecDepth 100000 in
theorem lifted (os : Os) (started : os.Started) (H : Type) (enc : TypeId × Value → H) :
    ReturnsInHanded {} Try.checked os 8 .any (Rows.goodsOwnSpec.pre6 enc Try.prog Try.f8 Rows.goodsOwnRow.domain false) (Rows.goodsOwnSpec.post enc Try.prog Try.f8 false true false false) := by
  refine returnsInHanded_of_change_sized (C := Try.checked) own started (by kernel_rfl) Try.func8
    (ChangeSpec.witness6 (enc := enc) (C := Try.checked) false ⟨#[], #[.agg #[.int .i64 0, .int .i64 0, .slice none 0 0, .slice none 0 0, .slice none 0 0, .slice none 0 0, .slice none 0 0, .int .i64 0, .int .i64 0], .slice none 0 0], []⟩ 8 (by kernel_rfl) (by kernel_rfl) (by kernel_rfl) (by kernel_rfl)) ?_
  intro W base args ds gs before hval0 hW hcnd hsz _
  have hval : ∀ (j : Nat) t v, Try.f8.params[j]? = some t → args[j]? = some v → Value.okWide Try.prog W .any base t v := hval0
  have hW' := hW
  obtain ⟨p, q, hA0, hV, rfl, hfz, hnd⟩ := hW
  have hA : DataW.TrodAll enc Try.prog W 0 (fun _ => true) true Try.f8.params.toList args.toList ds p := hA0
  rw [Try.params8] at hA hval
  obtain ⟨v0, vs0, d0, ds0, p0, q0, hargs, rfl, rfl, h0, r0⟩ := trodAll_cons hA
  obtain ⟨v1, vs1, d1, ds1, p1, q1, rfl, rfl, rfl, h1, r1⟩ := trodAll_cons r0
  obtain ⟨rfl, rfl, rfl⟩ := trodAll_nil r1
  obtain rfl : args = #[v0, v1] := by cases args; simp_all
  obtain ⟨rfl, rfl⟩ := trodVars_none hV
  obtain ⟨s0, rfl, k0, t0⟩ := open_wld2 (hval 0 28 v0 rfl rfl) h0
  obtain ⟨s1, rfl, k1, t1⟩ := open_dst (hval 1 29 v1 rfl rfl) h1
  have hz0 : wsz s0 := wld_sized hsz (j := 0) rfl rfl t0
  have hs1 : s1.l.length * 40 ≤ 140737488351232 := told_sized hsz (j := 1) rfl rfl Try.underlying29 (by kernel_rfl) t1
  clear hA0 hval0
  refine (walk s0 s1  W k0 hz0 k1 hs1).mono fun e W' ⟨he, hg⟩ => ?_
  subst he
  exact ⟨_, rfl, law_post (by kernel_rfl) (by kernel_rfl) rfl (by kernel_rfl) Try.underlying4 hW' rfl hg⟩

theorem over : Rows.goodsOwnRow.holds Try.pinned (OpenSpec.ofChange Rows.goodsOwnSpec) :=
  OpenClaim.holds_of_wide 8 Try.f8 rfl rfl rfl rfl rfl rfl rfl ⟨rfl, rfl, rfl, rfl, rfl⟩ rfl rfl rfl rfl rfl (by kernel_rfl) Try.func8 (by kernel_rfl)
    (of_decide_eq_true (by kernel_rfl)) (by unfold Func.isWrapper; first | (rw [if_pos (by decide +kernel)]; kernel_rfl) | (rw [if_neg (by decide +kernel)]; exact ⟨rfl, rfl⟩))
    (fun os started H enc _ => lifted os started H enc)

theorem proved : Rows.GoodsOwnSaid :=
  over
end Go.Proofs.Ytdcjjfipnilmpaa.goodsOwn

namespace Go.Proofs.Ytdcjjfipnilmpaa
/-- GoodsOwn: a world that is handed in stays as it was, and what is told shares nothing with it: for every world and every list of deeds the law answers true. -/
theorem goodsOwn_holds : Rows.GoodsOwnSaid := goodsOwn.proved
#print axioms goodsOwn_holds
end Go.Proofs.Ytdcjjfipnilmpaa
