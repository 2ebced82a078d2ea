/- GoodsCuts: deeds can be cut in two lists at any place, and those that were no deeds can be left out: for every world and every two lists of deeds the law answers true. -/
import Derived.Test.YtdcjjfipnilmpaaRows
import Derived.Test.YtdcjjfipnilmpaaPost
import Derived.Test.YtdcjjfipnilmpaaLv
import Derived.Test.YtdcjjfipnilmpaaSf
import Derived.Test.YtdcjjfipnilmpaaCb
import Derived.WalkKit
import Derived.ProofKit
import Derived.OpenShut
import Derived.SizedLaws
import Derived.ChangeMaps5
import Derived.JoinedCond
namespace Go.Proofs.Ytdcjjfipnilmpaa.goodsCuts
open Go.ChangeShapes Go.WideShapes Go.ChangeAt Go.RowKit
set_option linter.unusedVariables false

theorem own : ownKnob Try.prog.godebug = none := by kernel_rfl

theorem only_mem {ds : List Ded} {bs : List Bool} {t : Ded} (h : t ∈ only ds bs) : t ∈ ds := by
  unfold only at h
  obtain ⟨p, hp, rfl⟩ := List.mem_map.1 h
  have hp2 := (List.mem_filter.1 hp).1
  exact (List.of_mem_zip (a := p.1) (b := p.2) hp2).1
/-- Behind the deeds gs the world s is s2, and bs is what is told of each. -/
def cutj (s s2 : Wld) (W H : Nat) (gs : List Ded) (bs : List Bool) : Prop := okw s W H ∧ kept s s2 ∧ Dr W H s.l s.lb s.shp gs s2.shp bs
theorem cut_join {s s1 s2 : Wld} {gl gm : List Ded} {b1 b2 : List Bool} (h1 : dok s gl 0 s1 b1) (h2 : dok s1 gm 0 s2 b2) : ∃ W H, cutj s s2 W H (gl ++ gm) (b1 ++ b2) := by
  rcases h1 with ⟨h, _⟩ | ⟨_, W, H, hk, hkp, hd⟩
  · exact absurd rfl h
  rcases h2 with ⟨h, _⟩ | ⟨_, W2, H2, hk2, hkp2, hd2⟩
  · exact absurd rfl h
  have ea : (W2 : Int) = W := by rw [← hk2.a, hkp.a, hk.a]
  have eb : (H2 : Int) = H := by rw [← hk2.b, hkp.b, hk.b]
  obtain rfl : W2 = W := by omega
  obtain rfl : H2 = H := by omega
  rw [hkp.l, hkp.lb] at hd2
  refine ⟨W2, H2, hk, ⟨by rw [hkp2.a, hkp.a], by rw [hkp2.b, hkp.b], by rw [hkp2.l, hkp.l], by rw [hkp2.lb, hkp.lb], by rw [hkp2.t, hkp.t], by rw [hkp2.n, hkp.n], by rw [hkp2.nb, hkp.nb]⟩, dr_app hd hd2⟩
theorem kept_same {s s2 s3 : Wld} (h2 : kept s s2) (h3 : kept s s3) (he : s2.shp = s3.shp) : samew s2 s3 := by
  unfold Wld.shp at he
  injection he with e1 e2 e3 e4
  exact ⟨by rw [h2.a, h3.a], by rw [h2.b, h3.b], by rw [h2.l, h3.l], by rw [h2.lb, h3.lb], e1, e2, e3, e4, by rw [h2.t, h3.t]⟩
theorem cut_do {s s2 : Wld} {W H : Nat} {gs : List Ded} {bs : List Bool} {w : World} (h : s.fit w) (hc : cutj s s2 W H gs bs) (hf : ∀ t ∈ gs, fitd t) {n : Nat} (hn : gs.length = n) (h200 : n ≤ 200) (p : Option Addr) (c : Nat) (V : World) (hV : Below w.heap.size w V) (hg : dor V p gs) :
    Calls Try.prog 9 #[s.val, .slice p n c] V fun e w' => (∃ (s3 : Wld) (dp : Option Addr) (dc : Nat), e = .returned (.tuple #[s3.val, .slice dp bs.length dc, .int .i64 0]) ∧ row vbl w' dp bs ∧ samew s2 s3 ∧ s3.fit w') ∧ Below V.heap.size V w' := by
  refine (Do_ok s W H p n c gs V (Wld.fit_below h hV) hc.1 hg hf hn h200).mono ?_
  rintro e w' ⟨⟨s3, dp, dc, b3, rfl, hr, how, hkp, hd⟩, hb⟩
  obtain ⟨e1, e2⟩ := dr_one (okw_oks hc.1 h.hb h.ht) hc.2.2 hd
  subst e2
  exact ⟨⟨s3, dp, dc, rfl, hr, kept_same hc.2.1 hkp e1, (dr_right h hc.1 hkp hd how).1⟩, hb⟩
theorem cut_only {s s2 : Wld} {W H : Nat} {gs : List Ded} {bs : List Bool} (hc : cutj s s2 W H gs bs) : ∃ cs, cutj s s2 W H (only gs bs) cs := by
  obtain ⟨cs, h⟩ := dr_only hc.2.2
  exact ⟨cs, hc.1, hc.2.1, h⟩
theorem only_take {ds : List Ded} {bs : List Bool} (h : bs.length = ds.length) {k : Nat} (hk : k < ds.length) (hk2 : k < bs.length) : only (ds.take (k + 1)) (bs.take (k + 1)) = only (ds.take k) (bs.take k) ++ if bs[k] then [ds[k]] else [] := by
  rw [List.take_succ_eq_append_getElem hk, List.take_succ_eq_append_getElem hk2]
  exact only_snoc (by rw [List.length_take, List.length_take, h]) _ _
theorem samew_symm {s t : Wld} (h : samew s t) : samew t s := by
  obtain ⟨a, b, c, d, e, f, g, i, j⟩ := h
  exact ⟨a.symm, b.symm, c.symm, d.symm, e.symm, f.symm, g.symm, i.symm, j.symm⟩
theorem samew_trans {s t u : Wld} (h : samew s t) (k : samew t u) : samew s u := by
  obtain ⟨a, b, c, d, e, f, g, i, j⟩ := h
  obtain ⟨a', b', c', d', e', f', g', i', j'⟩ := k
  exact ⟨a.trans a', b.trans b', c.trans c', d.trans d', e.trans e', f.trans f', g.trans g', i.trans i', j.trans j'⟩
/-- All that is told of two lists of deeds that lie one behind the other. -/
structure cuts (s : Wld) (gl gm : List Ded) (w : World) (s2 : Wld) (bs : List Bool) (n : Nat) : Prop where
  len : bs.length = n
  zn : (gl ++ gm).length = n
  one : ∀ (p : Option Addr) (c : Nat) (V : World), Below w.heap.size w V → dor V p (gl ++ gm) → Calls Try.prog 9 #[s.val, .slice p n c] V fun e w' => (∃ (s3 : Wld) (dp : Option Addr) (dc : Nat), e = .returned (.tuple #[s3.val, .slice dp n dc, .int .i64 0]) ∧ row vbl w' dp bs ∧ samew s2 s3 ∧ s3.fit w') ∧ Below V.heap.size V w'
  two : ∀ (p : Option Addr) (m c : Nat) (V : World), Below w.heap.size w V → dor V p (only (gl ++ gm) bs) → (only (gl ++ gm) bs).length = m → Calls Try.prog 9 #[s.val, .slice p m c] V fun e w' => (∃ (s3 : Wld) (dp : Option Addr) (dn dc : Nat), e = .returned (.tuple #[s3.val, .slice dp dn dc, .int .i64 0]) ∧ samew s2 s3 ∧ s3.fit w') ∧ Below V.heap.size V w'
theorem cuts_of {s s1 s2 : Wld} {gl gm : List Ded} {b1 b2 : List Bool} {w : World} {n : Nat} (h : s.fit w) (h1 : dok s gl 0 s1 b1) (h2 : dok s1 gm 0 s2 b2) (f1 : ∀ t ∈ gl, fitd t) (f2 : ∀ t ∈ gm, fitd t) (hn : gl.length + gm.length = n) (h200 : n ≤ 200) : cuts s gl gm w s2 (b1 ++ b2) n := by
  obtain ⟨W, H, hj⟩ := cut_join h1 h2
  have hz : (gl ++ gm).length = n := by rw [List.length_append, hn]
  have hl : (b1 ++ b2).length = n := by rw [← hz]; exact dr_len hj.2.2
  have hf : ∀ t ∈ gl ++ gm, fitd t := fun t ht => by
    rcases List.mem_append.1 ht with h | h
    · exact f1 t h
    · exact f2 t h
  refine ⟨hl, hz, fun p c V hV hg => ?_, fun p m c V hV hg hm => ?_⟩
  · have := cut_do h hj hf hz h200 p c V hV hg
    rw [hl] at this
    exact this
  · obtain ⟨cs, hj2⟩ := cut_only hj
    refine (cut_do h hj2 (fun t ht => hf t (only_mem ht)) hm (by have := only_len (gl ++ gm) (b1 ++ b2); omega) p c V hV hg).mono ?_
    rintro e w' ⟨⟨s3, dp, dc, rfl, _, q1, q2⟩, hb⟩
    exact ⟨⟨s3, dp, _, dc, rfl, q1, q2⟩, hb⟩
theorem dok_len {s s' : Wld} {gs : List Ded} {bs : List Bool} (h : dok s gs 0 s' bs) : bs.length = gs.length := by
  rcases h with ⟨h, _⟩ | ⟨_, W, H, hk, hkp, hd⟩
  · exact absurd rfl h
  · exact dr_len hd

set_option maxRecDepth 20000 in
set_option maxHeartbeats 4000000 in
theorem walk (s0 : Wld) (s1 : Dst) (s2 : Dst)  (w : World) (h0 : s0.fit w) (h1 : s1.fit w) (hs1 : s1.l.length * 40 ≤ 140737488351232) (h2 : s2.fit w) (hs2 : s2.l.length * 40 ≤ 140737488351232) :
    Calls Try.prog 6 #[s0.val, s1.val, s2.val] w fun e w' => e = .returned (.bool true) ∧ Below w.heap.size w w' := by
  obtain ⟨E, hE⟩ := ber_total s0 s1.l.length
  have HDO : Hid (∀ V, Below w.heap.size w V → Calls Try.prog 9 #[s0.val, .slice s1.p s1.l.length s1.c] V fun e w' => (∃ (s' : Wld) (dp : Option Addr) (dc : Nat) (bs : List Bool), e = .returned (.tuple #[s'.val, .slice dp bs.length dc, .int .i64 E]) ∧ row vbl w' dp bs ∧ wown V.heap.size w' s' ∧ dok s0 s1.l E s' bs) ∧ Below V.heap.size V w') := fun V hV => Do_any s0 E s1.p _ s1.c s1.l V (Wld.fit_below h0 hV) (dor_below h1.1 hV) h1.2.1 rfl h1.2.2.1 hE
  have HD : Hid (∀ (s' : Wld) (bs : List Bool) (B : Nat) (V : World), wown B V s' → dok s0 s1.l E s' bs → s'.fit V) := fun s' bs B V hw hd => dok_fit h0 hd hw
  have HE : Hid (E = 0 → s1.l.length ≤ 200) := fun e => by subst e; exact (ber_ok hE).2
  have HL : Hid (dor w s1.p s1.l ∧ (∀ t ∈ s1.l, fitd t)) := ⟨h1.1, h1.2.1⟩
  have HM : Hid (dor w s2.p s2.l ∧ (∀ t ∈ s2.l, fitd t) ∧ s2.l.length ≤ 9223372036854775807) := ⟨h2.1, h2.2.1, h2.2.2.1⟩
  have HF0 : Hid (s0.fit w) := h0
  clear h0 h1 h2 hs1 hs2 hE
  obtain ⟨A, B, p, n, c, l, pb, nb, cb, lb, ps, ns, cs, ls, pm, nm, cm, lm, pt, nt, ct, lt, N, T⟩ := s0
  obtain ⟨lp, lc, ll⟩ := s1
  obtain ⟨mp, mc, ml⟩ := s2
  unfold Wld.val Dst.val at *
  dsimp only at *
  obtain ⟨nl, hnl⟩ : ∃ nl, ll.length = nl := ⟨_, rfl⟩
  obtain ⟨nq, hnq⟩ : ∃ nq, ml.length = nq := ⟨_, rfl⟩
  rw [hnl] at HDO HE ⊢
  rw [hnq] at HM ⊢
  have HNN : Hid (ll.length = nl ∧ ml.length = nq) := ⟨hnl, hnq⟩
  clear hnl hnq
  obtain ⟨F, hF⟩ : ∃ F, w.heap.size = F := ⟨_, rfl⟩
  obtain ⟨w0, hw0⟩ : ∃ w0, w.alloc (.cells #[.int .i64 A, .int .i64 B, .slice p n c, .slice pb nb cb, .slice ps ns cs, .slice pm nm cm, .slice pt nt ct, .int .i64 N, .int .i64 T] 28) = w0 := ⟨_, rfl⟩
  have hB0 : Below w.heap.size w w0 := by rw [← hw0]; exact alloc_below _ _
  have HB0 : Hid (Below w.heap.size w w0) := hB0
  have HZ : Hid (∀ V, Below w0.heap.size w0 V → c9 V F (.int .i64 A) (.int .i64 B) (.slice p n c) (.slice pb nb cb) (.slice ps ns cs) (.slice pm nm cm) (.slice pt nt ct) (.int .i64 N) (.int .i64 T)) := fun V hV => boxw hF hw0 hV
  have HFW : Hid (w.heap.size = F) := hF
  obtain ⟨z0, z1, z2, z3, z4, z5, z6, z7, z8⟩ := HZ.out w0 (Below.refl _ _)
  clear hB0
  go_enter Try.func6, Try.ntmps6
  go_wp2_with fail
  refine (HDO.out w0 HB0.out).mono ?_
  rintro e w1 ⟨⟨s', dp, dc, bs1, rfl, hr, how, hdk⟩, hb1⟩
  obtain ⟨nd, hnd⟩ : ∃ nd, bs1.length = nd := ⟨_, rfl⟩
  rw [hnd]
  have hfit := HD.out s' bs1 _ w1 how hdk
  have HFIT1 : Hid (s'.fit w1) := hfit
  have HDK1 : Hid (dok ⟨A, B, p, n, c, l, pb, nb, cb, lb, ps, ns, cs, ls, pm, nm, cm, lm, pt, nt, ct, lt, N, T⟩ ll E s' bs1) := hdk
  have HR1 : Hid (row vbl w1 dp bs1 ∧ bs1.length = nd) := ⟨hr, hnd⟩
  have HB1 : Hid (Below w.heap.size w w1) := below_call HB0.out HB0.out.size hb1
  have HB01 : Hid (Below w0.heap.size w0 w1) := hb1
  obtain ⟨E2, hE2⟩ := ber_total s' nq
  have HDO2 : Hid (∀ V, Below w1.heap.size w1 V → Calls Try.prog 9 #[s'.val, .slice mp nq mc] V fun e w' => (∃ (s'' : Wld) (dp : Option Addr) (dc : Nat) (bs : List Bool), e = .returned (.tuple #[s''.val, .slice dp bs.length dc, .int .i64 E2]) ∧ row vbl w' dp bs ∧ wown V.heap.size w' s'' ∧ dok s' ml E2 s'' bs) ∧ Below V.heap.size V w') := fun V hV => Do_any s' E2 mp _ mc ml V (Wld.fit_below HFIT1.out hV) (dor_below HM.out.1 (below_call HB1.out HB1.out.size hV)) HM.out.2.1 HNN.out.2 HM.out.2.2 hE2
  have HE2 : Hid (E2 = 0 → nq ≤ 200) := fun e => by subst e; exact (ber_ok hE2).2
  clear hE2 hdk hr hnd how hfit hb1
  obtain ⟨S1, hS1⟩ : ∃ S1 : Wld, S1 = s' := ⟨_, rfl⟩
  rw [← hS1] at HDK1 HFIT1 HDO2
  obtain ⟨A1, B1, p1, n1, c1, l1, pb1, nb1, cb1, lb1, ps1, ns1, cs1, ls1, pm1, nm1, cm1, lm1, pt1, nt1, ct1, lt1, N1, T1⟩ := s'
  have HV1 : Hid (S1.val = .agg #[.int .i64 A1, .int .i64 B1, .slice p1 n1 c1, .slice pb1 nb1 cb1, .slice ps1 ns1 cs1, .slice pm1 nm1 cm1, .slice pt1 nt1 ct1, .int .i64 N1, .int .i64 T1]) := by unfold Hid; rw [hS1]; rfl
  dsimp only
  rw [HV1.out] at HDO2
  unfold Wld.val at HDO2
  clear hS1
  obtain ⟨J, hJ⟩ : ∃ J, w1.heap.size = J := ⟨_, rfl⟩
  obtain ⟨w2, hw2⟩ : ∃ w2, w1.alloc (.cells #[.int .i64 A1, .int .i64 B1, .slice p1 n1 c1, .slice pb1 nb1 cb1, .slice ps1 ns1 cs1, .slice pm1 nm1 cm1, .slice pt1 nt1 ct1, .int .i64 N1, .int .i64 T1] 28) = w2 := ⟨_, rfl⟩
  have hb12 : Below w1.heap.size w1 w2 := by rw [← hw2]; exact alloc_below _ _
  have HB12 : Hid (Below w1.heap.size w1 w2) := hb12
  have HB2 : Hid (Below w.heap.size w w2) := below_call HB1.out HB1.out.size hb12
  have HB02 : Hid (Below w0.heap.size w0 w2) := below_call HB01.out HB01.out.size hb12
  clear z0 z1 z2 z3 z4 z5 z6 z7 z8 hw0 hb12
  obtain ⟨z0, z1, z2, z3, z4, z5, z6, z7, z8⟩ := boxw hJ hw2 (Below.refl _ _)
  go_wp2_with fail
  refine (HDO2.out w2 HB12.out).mono ?_
  rintro e w3 ⟨⟨s'', dp2, dc2, bs2, rfl, hr, how, hdk⟩, hb3⟩
  obtain ⟨nd2, hnd2⟩ : ∃ nd2, bs2.length = nd2 := ⟨_, rfl⟩
  rw [hnd2]
  have HFIT2 : Hid (s''.fit w3) := dok_fit HFIT1.out hdk how
  have HR2 : Hid (row vbl w3 dp2 bs2 ∧ bs2.length = nd2) := ⟨hr, hnd2⟩
  have HB13 : Hid (Below w1.heap.size w1 w3) := below_call HB12.out HB12.out.size hb3
  have HB3 : Hid (Below w.heap.size w w3) := below_call HB2.out HB2.out.size hb3
  have HB03 : Hid (Below w0.heap.size w0 w3) := below_call HB02.out HB02.out.size hb3
  have HDK2 : Hid (dok S1 ml E2 s'' bs2) := hdk
  clear hr how hdk hnd2 hb3 hw2 z0 z1 z2 z3 z4 z5 z6 z7 z8
  obtain ⟨S2, hS2⟩ : ∃ S2 : Wld, S2 = s'' := ⟨_, rfl⟩
  rw [← hS2] at HDK2 HFIT2
  obtain ⟨A2, B2, p2, n2, c2, l2, pb2, nb2, cb2, lb2, ps2, ns2, cs2, ls2, pm2, nm2, cm2, lm2, pt2, nt2, ct2, lt2, N2, T2⟩ := s''
  have HV2 : Hid (S2.val = .agg #[.int .i64 A2, .int .i64 B2, .slice p2 n2 c2, .slice pb2 nb2 cb2, .slice ps2 ns2 cs2, .slice pm2 nm2 cm2, .slice pt2 nt2 ct2, .int .i64 N2, .int .i64 T2]) := by unfold Hid; rw [hS2]; rfl
  dsimp only
  clear hS2
  obtain ⟨K, hK⟩ : ∃ K, w3.heap.size = K := ⟨_, rfl⟩
  obtain ⟨w4, hw4⟩ : ∃ w4, w3.alloc (.cells #[.int .i64 A2, .int .i64 B2, .slice p2 n2 c2, .slice pb2 nb2 cb2, .slice ps2 ns2 cs2, .slice pm2 nm2 cm2, .slice pt2 nt2 ct2, .int .i64 N2, .int .i64 T2] 28) = w4 := ⟨_, rfl⟩
  have hb34 : Below w3.heap.size w3 w4 := by rw [← hw4]; exact alloc_below _ _
  have HB34 : Hid (Below w3.heap.size w3 w4) := hb34
  have HY : Hid (∀ V, Below w4.heap.size w4 V → c9 V K (.int .i64 A2) (.int .i64 B2) (.slice p2 n2 c2) (.slice pb2 nb2 cb2) (.slice ps2 ns2 cs2) (.slice pm2 nm2 cm2) (.slice pt2 nt2 ct2) (.int .i64 N2) (.int .i64 T2)) := fun V hV => boxw hK hw4 hV
  have HB4 : Hid (Below w.heap.size w w4) := below_call HB3.out HB3.out.size hb34
  have HB04 : Hid (Below w0.heap.size w0 w4) := below_call HB03.out HB03.out.size hb34
  have HB14 : Hid (Below w1.heap.size w1 w4) := below_call HB13.out HB13.out.size hb34
  have HW4 : Hid (_ = w4) := hw4
  clear hb34 hw4
  go_wp2_with fail
  rw [HW4.out]
  refine (glives_any w4).mono ?_
  rintro e w5 ⟨rfl, hb5⟩
  have HB5 : Hid (Below w.heap.size w w5) := below_call HB4.out HB4.out.size hb5
  have HB05 : Hid (Below w0.heap.size w0 w5) := below_call HB04.out HB04.out.size hb5
  have HB15 : Hid (Below w1.heap.size w1 w5) := below_call HB14.out HB14.out.size hb5
  have HB35 : Hid (Below w3.heap.size w3 w5) := below_call HB34.out HB34.out.size hb5
  have HB45 : Hid (Below w4.heap.size w4 w5) := hb5
  clear hb5 HW4
  by_cases e0 : E = 0
  rotate_left
  · have d1 : (E != 0) = true := by simp [e0]
    go_wp2_with fail
    refine (glives_any w5).mono ?_
    rintro e w6 ⟨rfl, hb6⟩
    have HB6 : Hid (Below w.heap.size w w6) := below_call HB5.out HB5.out.size hb6
    clear hb6
    go_wp2_with fail
    go_ret
    exact ⟨rfl, by first | exact HB6.out | (rw [← HFW.out]; exact HB6.out)⟩
  subst e0
  by_cases e2 : E2 = 0
  rotate_left
  · have d1 : (E2 != 0) = true := by simp [e2]
    go_wp2_with fail
    refine (glives_any w5).mono ?_
    rintro e w6 ⟨rfl, hb6⟩
    have HB6 : Hid (Below w.heap.size w w6) := below_call HB5.out HB5.out.size hb6
    clear hb6
    go_wp2_with fail
    go_ret
    exact ⟨rfl, by first | exact HB6.out | (rw [← HFW.out]; exact HB6.out)⟩
  subst e2
  have hl1 := HE.out rfl
  have hl2 := HE2.out rfl
  by_cases hov : 200 < nl + nq
  · have d1 : (200 : Int) < (nl : Int) + (nq : Int) := by omega
    go_wp2_with fail
    refine (glives_any w5).mono ?_
    rintro e w6 ⟨rfl, hb6⟩
    have HB6 : Hid (Below w.heap.size w w6) := below_call HB5.out HB5.out.size hb6
    clear hb6
    go_wp2_with fail
    go_ret
    exact ⟨rfl, by first | exact HB6.out | (rw [← HFW.out]; exact HB6.out)⟩
  have hnd : nl = nd := by rw [← HR1.out.2, dok_len HDK1.out, HNN.out.1]
  have hnd2 : nq = nd2 := by rw [← HR2.out.2, dok_len HDK2.out, HNN.out.2]
  subst hnd hnd2
  obtain ⟨nz, hnz⟩ : ∃ nz, nl + nq = nz := ⟨_, rfl⟩
  have HC : Hid (cuts ⟨A, B, p, n, c, l, pb, nb, cb, lb, ps, ns, cs, ls, pm, nm, cm, lm, pt, nt, ct, lt, N, T⟩ ll ml w S2 (bs1 ++ bs2) nz) := cuts_of HF0.out HDK1.out HDK2.out HL.out.2 HM.out.2.1 (by rw [HNN.out.1, HNN.out.2]; exact hnz) (by omega)
  have HC1 : Hid (∀ (p' : Option Addr) (c' : Nat) (V : World), Below w.heap.size w V → dor V p' (ll ++ ml) → Calls Try.prog 9 #[.agg #[.int .i64 A, .int .i64 B, .slice p n c, .slice pb nb cb, .slice ps ns cs, .slice pm nm cm, .slice pt nt ct, .int .i64 N, .int .i64 T], .slice p' nz c'] V fun e w' => (∃ (s3 : Wld) (dp : Option Addr) (dc : Nat), e = .returned (.tuple #[s3.val, .slice dp nz dc, .int .i64 0]) ∧ row vbl w' dp (bs1 ++ bs2) ∧ samew S2 s3 ∧ s3.fit w') ∧ Below V.heap.size V w') := HC.out.one
  have HC2 : Hid (∀ (p' : Option Addr) (m c' : Nat) (V : World), Below w.heap.size w V → dor V p' (only (ll ++ ml) (bs1 ++ bs2)) → (only (ll ++ ml) (bs1 ++ bs2)).length = m → Calls Try.prog 9 #[.agg #[.int .i64 A, .int .i64 B, .slice p n c, .slice pb nb cb, .slice ps ns cs, .slice pm nm cm, .slice pt nt ct, .int .i64 N, .int .i64 T], .slice p' m c'] V fun e w' => (∃ (s3 : Wld) (dp : Option Addr) (dn dc : Nat), e = .returned (.tuple #[s3.val, .slice dp dn dc, .int .i64 0]) ∧ samew S2 s3 ∧ s3.fit w') ∧ Below V.heap.size V w') := HC.out.two
  have HLN : Hid (nl ≤ 200 ∧ nq ≤ 200 ∧ nz ≤ 200) := ⟨hl1, hl2, by omega⟩
  have HCL : Hid (∀ V, Below w.heap.size w V → Calls Try.prog 20 #[.slice lp nl lc] V fun e w' => (∃ v, e = .returned v ∧ mined V.heap.size w' v ll ∧ alli w' v) ∧ Below V.heap.size V w') := fun V hV => Cloned_any lp nl lc ll V (dor_below HL.out.1 hV) HNN.out.1 (by have := HLN.out.1; omega)
  have d1 : ¬ (200 : Int) < (nl : Int) + (nq : Int) := by omega
  have d2 : decide ((200 : Int) < (nl : Int) + (nq : Int)) = false := by simp; omega
  clear HDO HE HE2 HD HDO2 HDK1 HDK2
  go_wp2_with fail
  clear d1 d2
  refine (HCL.out w5 HB5.out).mono ?_
  rintro e w6 ⟨⟨v6, rfl, hm6, _⟩, hb6⟩
  have HB6 : Hid (Below w.heap.size w w6) := below_call HB5.out HB5.out.size hb6
  obtain ⟨v7, w7, hrun7, hm7, hg7⟩ := run_mored (d := mc) hm6 (dor_below HM.out.1 HB6.out) HNN.out.2 (by rw [HNN.out.1]; have := HLN.out; omega) hb6.size
  have hb57 : Below w5.heap.size w5 w7 := hb6.grown hg7 hb6.size (fun k hk => own_base hm6 k hk)
  obtain ⟨zp, zc, rfl, hz7, _⟩ := mined_form hm7
  rw [HC.out.zn] at hrun7
  have HRUN7 : Hid ((Builtin.append_ #[29, 29] 29 #[v6, .slice mp nq mc]).run Try.prog w6 = .ok (.slice zp nz zc) w7) := hrun7
  have HDZ7 : Hid (dor w7 zp (ll ++ ml)) := hz7
  have HB7 : Hid (Below w.heap.size w w7) := below_call HB5.out HB5.out.size hb57
  have HB07 : Hid (Below w0.heap.size w0 w7) := below_call HB05.out HB05.out.size hb57
  have HB17 : Hid (Below w1.heap.size w1 w7) := below_call HB15.out HB15.out.size hb57
  have HB37 : Hid (Below w3.heap.size w3 w7) := below_call HB35.out HB35.out.size hb57
  have HB47 : Hid (Below w4.heap.size w4 w7) := below_call HB45.out HB45.out.size hb57
  clear hm6 hb6 hrun7 hm7 hg7 hb57 hz7
  obtain ⟨z0, z1, z2, z3, z4, z5, z6, z7, z8⟩ := HZ.out w7 HB07.out
  go_wp2_with (at_builtin; refine wpList_append_run rfl _ _ 29 rfl v6 (.slice mp nq mc) rfl rfl HRUN7.out ?_)
  go_wp2_with fail
  refine (HC1.out zp zc w7 HB7.out HDZ7.out).mono ?_
  rintro e w8 ⟨⟨s3, dp3, dc3, rfl, hr3, hsw, hft3⟩, hb8⟩
  have HR3 : Hid (row vbl w8 dp3 (bs1 ++ bs2)) := hr3
  have HB78 : Hid (Below w7.heap.size w7 w8) := hb8
  obtain ⟨S3, hS3⟩ : ∃ S3 : Wld, S3 = s3 := ⟨_, rfl⟩
  have HS3 : Hid (samew S2 S3 ∧ S3.fit w8) := by rw [hS3]; exact ⟨hsw, hft3⟩
  obtain ⟨A3, B3, p3, n3, c3, l3, pb3, nb3, cb3, lb3, ps3, ns3, cs3, ls3, pm3, nm3, cm3, lm3, pt3, nt3, ct3, lt3, N3, T3⟩ := s3
  have HV3 : Hid (S3.val = .agg #[.int .i64 A3, .int .i64 B3, .slice p3 n3 c3, .slice pb3 nb3 cb3, .slice ps3 ns3 cs3, .slice pm3 nm3 cm3, .slice pt3 nt3 ct3, .int .i64 N3, .int .i64 T3]) := by unfold Hid; rw [hS3]; rfl
  unfold Wld.val
  dsimp only
  clear hS3 hr3 hsw hft3 hb8 z0 z1 z2 z3 z4 z5 z6 z7 z8
  obtain ⟨G, hG⟩ : ∃ G, w8.heap.size = G := ⟨_, rfl⟩
  obtain ⟨w9, hw9⟩ : ∃ w9, w8.alloc (.cells #[.int .i64 A3, .int .i64 B3, .slice p3 n3 c3, .slice pb3 nb3 cb3, .slice ps3 ns3 cs3, .slice pm3 nm3 cm3, .slice pt3 nt3 ct3, .int .i64 N3, .int .i64 T3] 28) = w9 := ⟨_, rfl⟩
  have hb89 : Below w8.heap.size w8 w9 := by rw [← hw9]; exact alloc_below _ _
  have HB89 : Hid (Below w8.heap.size w8 w9) := hb89
  have HB79 : Hid (Below w7.heap.size w7 w9) := below_call HB78.out HB78.out.size hb89
  have HB49 : Hid (Below w4.heap.size w4 w9) := below_call HB47.out HB47.out.size HB79.out
  have HX : Hid (∀ V, Below w9.heap.size w9 V → c9 V G (.int .i64 A3) (.int .i64 B3) (.slice p3 n3 c3) (.slice pb3 nb3 cb3) (.slice ps3 ns3 cs3) (.slice pm3 nm3 cm3) (.slice pt3 nt3 ct3) (.int .i64 N3) (.int .i64 T3)) := fun V hV => boxw hG hw9 hV
  have HSW : Hid (∀ V, Below w9.heap.size w9 V → Calls Try.prog 14 #[.agg #[.int .i64 A2, .int .i64 B2, .slice p2 n2 c2, .slice pb2 nb2 cb2, .slice ps2 ns2 cs2, .slice pm2 nm2 cm2, .slice pt2 nt2 ct2, .int .i64 N2, .int .i64 T2], .agg #[.int .i64 A3, .int .i64 B3, .slice p3 n3 c3, .slice pb3 nb3 cb3, .slice ps3 ns3 cs3, .slice pm3 nm3 cm3, .slice pt3 nt3 ct3, .int .i64 N3, .int .i64 T3]] V fun e w' => e = .returned (.bool true) ∧ Below V.heap.size V w') := fun V hV => by
    have h := SameWorld_yes S2 S3 V (Wld.fit_below HFIT2.out (below_call HB37.out HB37.out.size (below_call HB79.out HB79.out.size hV))) (Wld.fit_below HS3.out.2 (below_call HB89.out HB89.out.size hV)) HS3.out.1
    rw [HV2.out, HV3.out] at h
    exact h
  obtain ⟨y0, y1, y2, y3, y4, y5, y6, y7, y8⟩ := HY.out w9 HB49.out
  obtain ⟨x0, x1, x2, x3, x4, x5, x6, x7, x8⟩ := HX.out w9 (Below.refl _ _)
  clear hb89
  go_wp2_with fail
  refine (HSW.out w9 (Below.refl _ _)).mono ?_
  rintro e w10 ⟨rfl, hb10⟩
  have HB910 : Hid (Below w9.heap.size w9 w10) := hb10
  have HB710 : Hid (Below w7.heap.size w7 w10) := below_call HB79.out HB79.out.size hb10
  clear hb10 hw9 y0 y1 y2 y3 y4 y5 y6 y7 y8 x0 x1 x2 x3 x4 x5 x6 x7 x8
  go_wp2_with fail
  have HB110 : Hid (Below w1.heap.size w1 w10) := below_call HB17.out HB17.out.size HB710.out
  have HB310 : Hid (Below w3.heap.size w3 w10) := below_call HB37.out HB37.out.size HB710.out
  have HB010 : Hid (Below w0.heap.size w0 w10) := below_call HB07.out HB07.out.size HB710.out
  have HBw10 : Hid (Below w.heap.size w w10) := below_call HB7.out HB7.out.size HB710.out
  have HB810 : Hid (Below w8.heap.size w8 w10) := below_call HB89.out HB89.out.size HB910.out
  refine (Cloneb_any dp nl dc bs1 w10 (row_below HR1.out.1 HB110.out) HR1.out.2 (by have := HLN.out; omega)).mono ?_
  rintro e w11 ⟨⟨v11, rfl, hm11⟩, hb11⟩
  obtain ⟨v12, w12, hrun12, hm12, hg12⟩ := run_moreb (d := dc2) hm11 (row_below HR2.out.1 (below_call HB310.out HB310.out.size hb11)) HR2.out.2 (by have := HLN.out; rw [HR1.out.2]; omega) hb11.size
  have hb1012 : Below w10.heap.size w10 w12 := hb11.grown hg12 hb11.size (fun k hk => own_base hm11 k hk)
  obtain ⟨bp, bc, rfl, hz12, _⟩ := mineb_form hm12
  rw [HC.out.len] at hrun12
  have HRUN12 : Hid ((Builtin.append_ #[30, 30] 30 #[v11, .slice dp2 nq dc2]).run Try.prog w11 = .ok (.slice bp nz bc) w12) := hrun12
  have HEQ : Hid (Calls Try.prog 15 #[.slice dp3 nz dc3, .slice bp nz bc] w12 fun e w' => e = .returned (.bool true) ∧ Below w12.heap.size w12 w') := Equalv_b dp3 bp nz dc3 bc (bs1 ++ bs2) w12 HC.out.len (by have := HLN.out; omega) (row_below HR3.out (below_call HB810.out HB810.out.size hb1012)) hz12
  have HB1012 : Hid (Below w10.heap.size w10 w12) := hb1012
  clear hm11 hb11 hrun12 hm12 hg12 hb1012 hz12
  go_wp2_with (at_builtin; refine wpList_append_ran _ _ 30 rfl v11 (.slice dp2 nq dc2) rfl rfl HRUN12.out rfl ?_)
  refine Calls.mono HEQ.out ?_
  rintro e w13 ⟨rfl, hb13⟩
  have HB1013 : Hid (Below w10.heap.size w10 w13) := below_call HB1012.out HB1012.out.size hb13
  have HBw13 : Hid (Below w.heap.size w w13) := below_call HBw10.out HBw10.out.size HB1013.out
  have HB013 : Hid (Below w0.heap.size w0 w13) := below_call HB010.out HB010.out.size HB1013.out
  have HB713 : Hid (Below w7.heap.size w7 w13) := below_call HB710.out HB710.out.size HB1013.out
  have HB813 : Hid (Below w8.heap.size w8 w13) := below_call HB810.out HB810.out.size HB1013.out
  have HB913 : Hid (Below w9.heap.size w9 w13) := below_call HB910.out HB910.out.size HB1013.out
  clear hb13
  go_wp2_with fail
  go_loopw [109, 17] (fun i v wr => ∃ k : Nat, i = .int .i64 (k : Int) ∧ k ≤ nz ∧ Hid (Below w13.heap.size w13 wr ∧ mined w13.heap.size wr v (only ((ll ++ ml).take k) ((bs1 ++ bs2).take k)))) (fun i _ _ => nz - (intOf i).toNat)
  case atStart => exact ⟨0, rfl, by omega, Below.refl _ _, World.ownsRow_nil _ _ _ _⟩
  case round =>
    obtain ⟨k, rfl, hk, HS⟩ := hrel
    have HB7r : Hid (Below w7.heap.size w7 wr) := below_call HB713.out HB713.out.size HS.out.1
    have HB8r : Hid (Below w8.heap.size w8 wr) := below_call HB813.out HB813.out.size HS.out.1
    by_cases hlt : k < nz
    · have hkz : k < (ll ++ ml).length := by rw [HC.out.zn]; exact hlt
      have hkb : k < (bs1 ++ bs2).length := by rw [HC.out.len]; exact hlt
      obtain ⟨a, rfl, hc⟩ := dor_at (dor_below HDZ7.out HB7r.out) hkz
      obtain ⟨b, rfl, hb⟩ := row_at (row_below HR3.out HB8r.out) hkb
      obtain ⟨t, ht⟩ : ∃ t, (ll ++ ml)[k] = t := ⟨_, rfl⟩
      obtain ⟨X, hX⟩ : ∃ X, (bs1 ++ bs2)[k] = X := ⟨_, rfl⟩
      have hot := only_take (by rw [HC.out.len, HC.out.zn]) hkz hkb
      rw [ht, hX] at hot
      rw [ht] at hc
      rw [hX] at hb
      have HOT : Hid (only ((ll ++ ml).take (k + 1)) ((bs1 ++ bs2).take (k + 1)) = only ((ll ++ ml).take k) ((bs1 ++ bs2).take k) ++ if X = true then [t] else []) := hot
      have hol : (only ((ll ++ ml).take k) ((bs1 ++ bs2).take k)).length ≤ 200 := by
        have h1 := only_len ((ll ++ ml).take k) ((bs1 ++ bs2).take k)
        rw [List.length_take] at h1
        have := HLN.out
        omega
      obtain ⟨dk, dw, dx, dy, da⟩ := t
      obtain ⟨c0, c1, c2, c3, c4⟩ := hc
      simp only at c0 c1 c2 c3 c4
      obtain ⟨w14, hw14⟩ : ∃ w14, wr.alloc (.cells #[.int .i64 dk, .int .i64 dw, .int .i64 dx, .int .i64 dy, .int .i64 da] 52) = w14 := ⟨_, rfl⟩
      have hb14 : Below wr.heap.size wr w14 := by rw [← hw14]; exact alloc_below _ _
      obtain ⟨D, hD⟩ : ∃ D, wr.heap.size = D := ⟨_, rfl⟩
      have e4 : w14.heap[D]? = some (.cells #[.int .i64 dk, .int .i64 dw, .int .i64 dx, .int .i64 dy, .int .i64 da] 52) := by rw [← hw14, ← hD]; exact World.alloc_heap_new wr _
      have q0 : w14.cell? ⟨D, 0, none⟩ = some (.int .i64 dk) := by simp [World.cell?, e4]
      have q1 : w14.cell? ⟨D, 1, none⟩ = some (.int .i64 dw) := by simp [World.cell?, e4]
      have q2 : w14.cell? ⟨D, 2, none⟩ = some (.int .i64 dx) := by simp [World.cell?, e4]
      have q3 : w14.cell? ⟨D, 3, none⟩ = some (.int .i64 dy) := by simp [World.cell?, e4]
      have q4 : w14.cell? ⟨D, 4, none⟩ = some (.int .i64 da) := by simp [World.cell?, e4]
      have hb' : w14.cell? (b.add k) = some (.bool X) := cell_call2 hb hb14
      have hm14 : mined w13.heap.size w14 u17 (only ((ll ++ ml).take k) ((bs1 ++ bs2).take k)) := by rw [← hw14]; exact HS.out.2.alloc _
      have hs14 : w13.heap.size ≤ w14.heap.size := Nat.le_trans HS.out.1.size hb14.size
      obtain ⟨v15, w15, hrun15, hm15, hg15⟩ := run_mored (R := [⟨dk, dw, dx, dy, da⟩]) (d := 1) (m := 1) (hm14.alloc (.cells #[.int .i64 dk, .int .i64 dw, .int .i64 dx, .int .i64 dy, .int .i64 da] 52)) (dor_heap (World.alloc_heap_new w14 _)) rfl (by omega) (by rw [World.size_alloc]; omega)
      have HRUN15 : Hid ((Builtin.append_ #[29, 29] 29 #[u17, .slice (some ⟨w14.heap.size, 0, none⟩) 1 1]).run Try.prog (w14.alloc (.cells #[.int .i64 dk, .int .i64 dw, .int .i64 dx, .int .i64 dy, .int .i64 da] 52)) = .ok v15 w15) := hrun15
      have hb1415 : Below w13.heap.size w14 w15 := ((Below.refl _ _).alloc hs14 _).grown hg15 (by rw [World.size_alloc]; omega) (fun j hj => own_base hm14 j hj)
      have HB1315 : Hid (Below w13.heap.size w13 w14 ∧ Below w13.heap.size w13 w15) := ⟨HS.out.1.trans (hb14.mono HS.out.1.size), (HS.out.1.trans (hb14.mono HS.out.1.size)).trans hb1415⟩
      have HM15 : Hid (mined w13.heap.size w14 u17 (only ((ll ++ ml).take k) ((bs1 ++ bs2).take k)) ∧ mined w13.heap.size w15 v15 (only ((ll ++ ml).take k) ((bs1 ++ bs2).take k) ++ [⟨dk, dw, dx, dy, da⟩])) := ⟨hm14, hm15⟩
      have l1 : (k : Int) < nz := by omega
      have l2 : (0 : Int) ≤ k := by omega
      clear hb14 hm14 hs14 hrun15 hm15 hg15 hb1415 hot hb ht hX
      cases X
      · go_wp2_with fail
        go_roundw
        case rel => exact ⟨k + 1, by go_num, by omega, HB1315.out.1, by rw [HOT.out]; simpa using HM15.out.1⟩
        case measure => simp [intOf]; omega
      · go_wp2_with (at_builtin; refine wpList_append_run rfl _ _ 29 rfl u17 (.slice (some ⟨w14.heap.size, 0, none⟩) 1 1) rfl rfl HRUN15.out ?_)
        go_wp2_with fail
        go_roundw
        case rel => exact ⟨k + 1, by go_num, by omega, HB1315.out.2, by rw [HOT.out]; simpa using HM15.out.2⟩
        case measure => simp [intOf]; omega
    · obtain rfl : k = nz := by omega
      have e1 : (ll ++ ml).take k = ll ++ ml := List.take_of_length_le (by rw [HC.out.zn]; exact Nat.le_refl _)
      have e2 : (bs1 ++ bs2).take k = bs1 ++ bs2 := List.take_of_length_le (by rw [HC.out.len]; exact Nat.le_refl _)
      have hm := HS.out.2
      rw [e1, e2] at hm
      obtain ⟨op, oc, rfl, ho, _⟩ := mined_form hm
      obtain ⟨no, hno⟩ : ∃ no, (only (ll ++ ml) (bs1 ++ bs2)).length = no := ⟨_, rfl⟩
      rw [hno] at HS ⊢
      have HBwr : Hid (Below w.heap.size w wr) := below_call HBw13.out HBw13.out.size HS.out.1
      have HDO4 := HC2.out op no oc wr HBwr.out ho hno
      obtain ⟨z0, z1, z2, z3, z4, z5, z6, z7, z8⟩ := HZ.out wr (below_call HB013.out HB013.out.size HS.out.1)
      have HDO4' : Hid (Calls Try.prog 9 #[.agg #[.int .i64 A, .int .i64 B, .slice p n c, .slice pb nb cb, .slice ps ns cs, .slice pm nm cm, .slice pt nt ct, .int .i64 N, .int .i64 T], .slice op no oc] wr fun e w' => (∃ (s3 : Wld) (dp : Option Addr) (dn dc : Nat), e = .returned (.tuple #[s3.val, .slice dp dn dc, .int .i64 0]) ∧ samew S2 s3 ∧ s3.fit w') ∧ Below wr.heap.size wr w') := HDO4
      clear HDO4 hm e1 e2 ho hno
      go_wp2_with fail
      refine Calls.mono HDO4'.out ?_
      rintro e w16 ⟨⟨s4, dp4, dn4, dc4, rfl, hsw, hft4⟩, hb16⟩
      obtain ⟨S4, hS4⟩ : ∃ S4 : Wld, S4 = s4 := ⟨_, rfl⟩
      have HS4 : Hid (samew S4 S3 ∧ S4.fit w16) := by rw [hS4]; exact ⟨samew_trans (samew_symm hsw) HS3.out.1, hft4⟩
      obtain ⟨A4, B4, p4, n4, c4, l4, pb4, nb4, cb4, lb4, ps4, ns4, cs4, ls4, pm4, nm4, cm4, lm4, pt4, nt4, ct4, lt4, N4, T4⟩ := s4
      have HV4 : Hid (S4.val = .agg #[.int .i64 A4, .int .i64 B4, .slice p4 n4 c4, .slice pb4 nb4 cb4, .slice ps4 ns4 cs4, .slice pm4 nm4 cm4, .slice pt4 nt4 ct4, .int .i64 N4, .int .i64 T4]) := by unfold Hid; rw [hS4]; rfl
      unfold Wld.val
      dsimp only
      have HB16 : Hid (Below wr.heap.size wr w16) := hb16
      clear hS4 hsw hft4 hb16 z0 z1 z2 z3 z4 z5 z6 z7 z8
      obtain ⟨D, hD⟩ : ∃ D, w16.heap.size = D := ⟨_, rfl⟩
      obtain ⟨w17, hw17⟩ : ∃ w17, w16.alloc (.cells #[.int .i64 A4, .int .i64 B4, .slice p4 n4 c4, .slice pb4 nb4 cb4, .slice ps4 ns4 cs4, .slice pm4 nm4 cm4, .slice pt4 nt4 ct4, .int .i64 N4, .int .i64 T4] 28) = w17 := ⟨_, rfl⟩
      have hb1617 : Below w16.heap.size w16 w17 := by rw [← hw17]; exact alloc_below _ _
      have HB1617 : Hid (Below w16.heap.size w16 w17) := hb1617
      have HBr17 : Hid (Below wr.heap.size wr w17) := below_call HB16.out HB16.out.size hb1617
      have HB1317 : Hid (Below w13.heap.size w13 w17) := below_call HS.out.1 HS.out.1.size HBr17.out
      have HBw17 : Hid (Below w.heap.size w w17) := below_call HBwr.out HBwr.out.size HBr17.out
      have HB917 : Hid (Below w9.heap.size w9 w17) := below_call HB913.out HB913.out.size HB1317.out
      have HSW2 : Hid (∀ V, Below w17.heap.size w17 V → Calls Try.prog 14 #[.agg #[.int .i64 A4, .int .i64 B4, .slice p4 n4 c4, .slice pb4 nb4 cb4, .slice ps4 ns4 cs4, .slice pm4 nm4 cm4, .slice pt4 nt4 ct4, .int .i64 N4, .int .i64 T4], .agg #[.int .i64 A3, .int .i64 B3, .slice p3 n3 c3, .slice pb3 nb3 cb3, .slice ps3 ns3 cs3, .slice pm3 nm3 cm3, .slice pt3 nt3 ct3, .int .i64 N3, .int .i64 T3]] V fun e w' => e = .returned (.bool true) ∧ Below V.heap.size V w') := fun V hV => by
        have h := SameWorld_yes S4 S3 V (Wld.fit_below HS4.out.2 (below_call HB1617.out HB1617.out.size hV)) (Wld.fit_below HS3.out.2 (below_call HB89.out HB89.out.size (below_call HB917.out HB917.out.size hV))) HS4.out.1
        rw [HV4.out, HV3.out] at h
        exact h
      obtain ⟨y0, y1, y2, y3, y4, y5, y6, y7, y8⟩ := boxw hD hw17 (Below.refl _ _)
      obtain ⟨x0, x1, x2, x3, x4, x5, x6, x7, x8⟩ := HX.out w17 HB917.out
      clear hb1617
      go_wp2_with fail
      refine (HSW2.out w17 (Below.refl _ _)).mono ?_
      rintro e w18 ⟨rfl, hb18⟩
      have HB18 : Hid (Below w.heap.size w w18) := below_call HBw17.out HBw17.out.size hb18
      clear hb18 hw17 y0 y1 y2 y3 y4 y5 y6 y7 y8 x0 x1 x2 x3 x4 x5 x6 x7 x8
      go_wp2_with fail
      go_ret
      exact ⟨rfl, by first | exact HB18.out | (rw [← HFW.out]; exact HB18.out)⟩

set_option maxRecDepth 100000 in
theorem lifted (os : Os) (started : os.Started) (H : Type) (enc : TypeId × Value → H) :
    ReturnsInHanded {} Try.checked os 6 .any (Rows.goodsCutsSpec.pre6 enc Try.prog Try.f6 Rows.goodsCutsRow.domain false) (Rows.goodsCutsSpec.post enc Try.prog Try.f6 false true false false) := by
  refine returnsInHanded_of_change_sized (C := Try.checked) own started (by kernel_rfl) Try.func6
    (ChangeSpec.witness6 (enc := enc) (C := Try.checked) false ⟨#[], #[.agg #[.int .i64 0, .int .i64 0, .slice none 0 0, .slice none 0 0, .slice none 0 0, .slice none 0 0, .slice none 0 0, .int .i64 0, .int .i64 0], .slice none 0 0, .slice none 0 0], []⟩ 8 (by kernel_rfl) (by kernel_rfl) (by kernel_rfl) (by kernel_rfl)) ?_
  intro W base args ds gs before hval0 hW hcnd hsz _
  have hval : ∀ (j : Nat) t v, Try.f6.params[j]? = some t → args[j]? = some v → Value.okWide Try.prog W .any base t v := hval0
  have hW' := hW
  obtain ⟨p, q, hA0, hV, rfl, hfz, hnd⟩ := hW
  have hA : DataW.TrodAll enc Try.prog W 0 (fun _ => true) true Try.f6.params.toList args.toList ds p := hA0
  rw [Try.params6] at hA hval
  obtain ⟨v0, vs0, d0, ds0, p0, q0, hargs, rfl, rfl, h0, r0⟩ := trodAll_cons hA
  obtain ⟨v1, vs1, d1, ds1, p1, q1, rfl, rfl, rfl, h1, r1⟩ := trodAll_cons r0
  obtain ⟨v2, vs2, d2, ds2, p2, q2, rfl, rfl, rfl, h2, r2⟩ := trodAll_cons r1
  obtain ⟨rfl, rfl, rfl⟩ := trodAll_nil r2
  obtain rfl : args = #[v0, v1, v2] := by cases args; simp_all
  obtain ⟨rfl, rfl⟩ := trodVars_none hV
  obtain ⟨s0, rfl, k0⟩ := open_wld (hval 0 28 v0 rfl rfl) h0
  obtain ⟨s1, rfl, k1, t1⟩ := open_dst (hval 1 29 v1 rfl rfl) h1
  obtain ⟨s2, rfl, k2, t2⟩ := open_dst (hval 2 29 v2 rfl rfl) h2
  have hs1 : s1.l.length * 40 ≤ 140737488351232 := told_sized hsz (j := 1) rfl rfl Try.underlying29 (by kernel_rfl) t1
  have hs2 : s2.l.length * 40 ≤ 140737488351232 := told_sized hsz (j := 2) rfl rfl Try.underlying29 (by kernel_rfl) t2
  clear hA0 hval0
  refine (walk s0 s1 s2  W k0 k1 hs1 k2 hs2).mono fun e W' ⟨he, hg⟩ => ?_
  subst he
  exact ⟨_, rfl, law_post (by kernel_rfl) (by kernel_rfl) rfl (by kernel_rfl) Try.underlying4 hW' rfl hg⟩

theorem over : Rows.goodsCutsRow.holds Try.pinned (OpenSpec.ofChange Rows.goodsCutsSpec) :=
  OpenClaim.holds_of_wide 6 Try.f6 rfl rfl rfl rfl rfl rfl rfl ⟨rfl, rfl, rfl, rfl, rfl⟩ rfl rfl rfl rfl rfl (by kernel_rfl) Try.func6 (by kernel_rfl)
    (of_decide_eq_true (by kernel_rfl)) (by unfold Func.isWrapper; first | (rw [if_pos (by decide +kernel)]; kernel_rfl) | (rw [if_neg (by decide +kernel)]; exact ⟨rfl, rfl⟩))
    (fun os started H enc _ => lifted os started H enc)

theorem proved : Rows.GoodsCutsSaid :=
  over
end Go.Proofs.Ytdcjjfipnilmpaa.goodsCuts

namespace Go.Proofs.Ytdcjjfipnilmpaa
/-- GoodsCuts: deeds can be cut in two lists at any place, and those that were no deeds can be left out: for every world and every two lists of deeds the law answers true. -/
theorem goodsCuts_holds : Rows.GoodsCutsSaid := goodsCuts.proved
#print axioms goodsCuts_holds
end Go.Proofs.Ytdcjjfipnilmpaa
