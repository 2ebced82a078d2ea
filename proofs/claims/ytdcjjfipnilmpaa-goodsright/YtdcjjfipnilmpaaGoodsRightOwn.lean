/- GoodsRight: a right world is right behind deeds, none of its troops is gone, has moved or been harmed, new ones have new numbers: for every world and every list of deeds the law answers true. -/
import Derived.Test.YtdcjjfipnilmpaaRows
import Derived.Test.YtdcjjfipnilmpaaPost
import Derived.Test.YtdcjjfipnilmpaaOpc
import Derived.Test.YtdcjjfipnilmpaaWo
import Derived.Test.YtdcjjfipnilmpaaLv
import Derived.Test.YtdcjjfipnilmpaaSf
import Derived.WalkKit
import Derived.ProofKit
import Derived.OpenShut
import Derived.SizedLaws
import Derived.ChangeMaps5
import Derived.JoinedCond
namespace Go.Proofs.Ytdcjjfipnilmpaa.goodsRight
open Go.ChangeShapes Go.WideShapes Go.ChangeAt Go.RowKit
set_option linter.unusedVariables false

theorem own : ownKnob Try.prog.godebug = none := by kernel_rfl


set_option maxRecDepth 20000 in
set_option maxHeartbeats 4000000 in
theorem walk (s0 : Wld) (s1 : Dst)  (w : World) (h0 : s0.fit w) (h1 : s1.fit w) (hs1 : s1.l.length * 40 ≤ 140737488351232) :
    Calls Try.prog 5 #[s0.val, s1.val] w fun e w' => e = .returned (.bool true) ∧ Below w.heap.size w w' := by
  obtain ⟨E, hE⟩ := ber_total s0 s1.l.length
  by_cases e0 : E = 0
  · subst e0
    obtain ⟨⟨W, H, hk⟩, h200⟩ := ber_ok hE
    have HDO : Hid (∀ V, Below w.heap.size w V → Calls Try.prog 9 #[s0.val, .slice s1.p s1.l.length s1.c] V fun e w' => (∃ (s' : Wld) (dp : Option Addr) (dc : Nat) (bs : List Bool), e = .returned (.tuple #[s'.val, .slice dp bs.length dc, .int .i64 0]) ∧ row vbl w' dp bs ∧ wown V.heap.size w' s' ∧ kept s0 s' ∧ Dr W H s0.l s0.lb s0.shp s1.l s'.shp bs) ∧ Below V.heap.size V w') := fun V hV => Do_ok s0 W H s1.p _ s1.c s1.l V (Wld.fit_below h0 hV) hk (dor_below h1.1 hV) h1.2.1 rfl h200
    have HD : Hid (∀ (s' : Wld) (bs : List Bool) (B : Nat) (V : World), wown B V s' → kept s0 s' → Dr W H s0.l s0.lb s0.shp s1.l s'.shp bs → s'.fit V ∧ okw s' W H ∧ grew s0.shp s'.shp ∧ bs.length = s1.l.length) := fun s' bs B V hw hkp hd => by
      obtain ⟨r1, r2⟩ := dr_right h0 hk hkp hd hw
      exact ⟨r1, r2, dr_grew hd, dr_len hd⟩
    have HF0 : Hid (s0.fit w ∧ okw s0 W H) := ⟨h0, hk⟩
    clear h0 h1 hs1 hE hk h200
    obtain ⟨A, B, p, n, c, l, pb, nb, cb, lb, ps, ns, cs, ls, pm, nm, cm, lm, pt, nt, ct, lt, N, T⟩ := s0
    obtain ⟨lp, lc, ll⟩ := s1
    unfold Wld.val Dst.val at *
    dsimp only at *
    obtain ⟨nl, hnl⟩ : ∃ nl, ll.length = nl := ⟨_, rfl⟩
    rw [hnl] at HDO HD ⊢
    clear hnl
    obtain ⟨F, hF⟩ : ∃ F, w.heap.size = F := ⟨_, rfl⟩
    obtain ⟨w0, hw0⟩ : ∃ w0, w.alloc (.cells #[.int .i64 A, .int .i64 B, .slice p n c, .slice pb nb cb, .slice ps ns cs, .slice pm nm cm, .slice pt nt ct, .int .i64 N, .int .i64 T] 28) = w0 := ⟨_, rfl⟩
    have hB0 : Below w.heap.size w w0 := by rw [← hw0]; exact alloc_below _ _
    have HB0 : Hid (Below w.heap.size w w0) := hB0
    have HZ : Hid (∀ V, Below w0.heap.size w0 V → c9 V F (.int .i64 A) (.int .i64 B) (.slice p n c) (.slice pb nb cb) (.slice ps ns cs) (.slice pm nm cm) (.slice pt nt ct) (.int .i64 N) (.int .i64 T)) := fun V hV => boxw hF hw0 hV
    have HFW : Hid (w.heap.size = F ∧ F < w0.heap.size) := ⟨hF, by rw [← hw0, World.size_alloc]; omega⟩
    obtain ⟨z0, z1, z2, z3, z4, z5, z6, z7, z8⟩ := HZ.out w0 (Below.refl _ _)
    clear hB0
    go_enter Try.func5, Try.ntmps5
    go_wp2_with fail
    refine (HDO.out w0 HB0.out).mono ?_
    rintro e w1 ⟨⟨s', dp, dc, bs, rfl, hr, how, hkp, hdr⟩, hb1⟩
    obtain ⟨hfit, hok, hgrew, hbl⟩ := HD.out s' bs _ w1 how hkp hdr
    rw [hbl]
    have HW1 : Hid (∀ V, Below w1.heap.size w1 V → Calls Try.prog 17 #[s'.val] V fun e w' => e = .returned (.int .i64 0) ∧ Below V.heap.size V w') := fun V hV => Check_world s' 0 V (Wld.fit_below hfit hV) (wre_of hok)
    have HB1 : Hid (Below w.heap.size w w1) := below_call HB0.out HB0.out.size hb1
    have HB01 : Hid (Below w0.heap.size w0 w1) := hb1
    have HN : Hid (1 ≤ s'.N ∧ s'.N ≤ 1000000 ∧ s'.nt ≤ 100) := by
      have ho := okw_oks hok hfit.hb hfit.ht
      exact ⟨ho.n1, ho.n2, hok.nt⟩
    have HFIT : Hid (s'.fit w1) := hfit
    obtain ⟨A1, B1, p1, n1, c1, l1, pb1, nb1, cb1, lb1, ps1, ns1, cs1, ls1, pm1, nm1, cm1, lm1, pt1, nt1, ct1, lt1, N1, T1⟩ := s'
    obtain ⟨rfl, rfl, rfl, rfl, rfl, rfl, rfl⟩ := hkp
    have HGR : Hid (grew (⟨ls, lm, lt, N⟩ : Shp) ⟨ls1, lm1, lt1, N1⟩) := hgrew
    unfold Wld.val at HW1
    dsimp only at *
    obtain ⟨J, hJ⟩ : ∃ J, w1.heap.size = J := ⟨_, rfl⟩
    obtain ⟨w2, hw2⟩ : ∃ w2, w1.alloc (.cells #[.int .i64 A1, .int .i64 B1, .slice p1 n1 c1, .slice pb1 nb1 cb1, .slice ps1 ns1 cs1, .slice pm1 nm1 cm1, .slice pt1 nt1 ct1, .int .i64 N1, .int .i64 T1] 28) = w2 := ⟨_, rfl⟩
    have hb12 : Below w1.heap.size w1 w2 := by rw [← hw2]; exact alloc_below _ _
    have HB12 : Hid (Below w1.heap.size w1 w2) := hb12
    have HY : Hid (∀ V, Below w2.heap.size w2 V → c9 V J (.int .i64 A1) (.int .i64 B1) (.slice p1 n1 c1) (.slice pb1 nb1 cb1) (.slice ps1 ns1 cs1) (.slice pm1 nm1 cm1) (.slice pt1 nt1 ct1) (.int .i64 N1) (.int .i64 T1)) := fun V hV => boxw hJ hw2 hV
    have HB2 : Hid (Below w.heap.size w w2) := below_call HB1.out HB1.out.size hb12
    have HB02 : Hid (Below w0.heap.size w0 w2) := below_call HB01.out HB01.out.size hb12
    have HJ2 : Hid (J < w2.heap.size ∧ w1.heap.size = J) := ⟨by rw [← hw2, World.size_alloc]; omega, hJ⟩
    clear hr how hdr hb1 hb12 hfit hok hgrew hbl z0 z1 z2 z3 z4 z5 z6 z7 z8 hw0 HD
    go_wp2_with fail
    refine (glives_any w2).mono ?_
    rintro e w3 ⟨rfl, hb3⟩
    have HB23 : Hid (Below w2.heap.size w2 w3) := hb3
    have HB13 : Hid (Below w1.heap.size w1 w3) := below_call HB12.out HB12.out.size hb3
    obtain ⟨y0, y1, y2, y3, y4, y5, y6, y7, y8⟩ := HY.out w3 HB23.out
    clear hb3 hw2
    go_wp2_with fail
    refine (HW1.out w3 HB13.out).mono ?_
    rintro e w4 ⟨rfl, hb4⟩
    have HB24 : Hid (Below w2.heap.size w2 w4) := below_call HB23.out HB23.out.size hb4
    have HB04 : Hid (Below w0.heap.size w0 w4) := below_call HB02.out HB02.out.size HB24.out
    clear hb4 y0 y1 y2 y3 y4 y5 y6 y7 y8
    obtain ⟨y0, y1, y2, y3, y4, y5, y6, y7, y8⟩ := HY.out w4 HB24.out
    obtain ⟨z0, z1, z2, z3, z4, z5, z6, z7, z8⟩ := HZ.out w4 HB04.out
    have hg1 : lt.length ≤ lt1.length := HGR.out.n
    have hg2 : N1 - N = (lt1.length : Int) - lt.length := HGR.out.i
    have hl0 := HF0.out.1.ht
    have hl1 := HFIT.out.ht
    dsimp only at hl0 hl1
    rw [hl0, hl1] at hg1 hg2
    have hN := HN.out
    have hn1 := hN.1
    have hn2 := hN.2.1
    have hn3 := hN.2.2
    have hm1 : 1 ≤ N := by
      have := okw_oks HF0.out.2 HF0.out.1.hb HF0.out.1.ht
      exact this.n1
    have hm2 : N ≤ 1000000 := by omega
    have hm3 : nt ≤ 100 := by omega
    have d1 : decide ((nt1 : Int) < (nt : Int)) = false := by simp; omega
    have d1n : decide (nt1 < nt) = false := by simp; omega
    have d2 : (N1 - N != (nt1 : Int) - (nt : Int)) = false := by simp [hg2]
    have HGT : Hid (nt ≤ nt1 ∧ lt.length = nt ∧ lt1.length = nt1) := ⟨hg1, hl0, hl1⟩
    clear hg1 hg2 hl0 hl1 hN
    go_wp2_with fail
    clear y0 y1 y2 y3 y4 y5 y6 y7 y8 z0 z1 z2 z3 z4 z5 z6 z7 z8 d1 d1n d2
    go_loopw [61] (fun i wr => ∃ k : Nat, i = .int .i64 (k : Int) ∧ k ≤ nt1 ∧ Hid (Below w2.heap.size w2 wr)) (fun i _ => nt1 - (intOf i).toNat)
    case atStart => exact ⟨0, rfl, by omega, HB24.out⟩
    case round =>
      obtain ⟨k, rfl, hk, HS⟩ := hrel
      have HB0r : Hid (Below w0.heap.size w0 wr) := below_call HB02.out HB02.out.size HS.out
      by_cases hlt : k < nt1
      · have hkl : k < lt1.length := by rw [HGT.out.2.2]; exact hlt
        obtain ⟨a, rfl, hc⟩ := trow_at (trow_below HFIT.out.rt (below_call HB12.out HB12.out.size HS.out)) hkl
        obtain ⟨t, ht⟩ : ∃ t, lt1[k] = t := ⟨_, rfl⟩
        dsimp only at hc
        rw [ht] at hc
        have hkt : lt1[k]? = some t := by rw [List.getElem?_eq_getElem hkl, ht]
        obtain ⟨w4, hw4⟩ : ∃ w4 : World, w4 = wr := ⟨_, rfl⟩
        subst hw4
        obtain ⟨G, hG⟩ : ∃ G, w4.heap.size = G := ⟨_, rfl⟩
        have l1 : (k : Int) < nt1 := by omega
        have l2 : (0 : Int) ≤ k := by omega
        by_cases hkn : k < nt
        · have hkl0 : k < lt.length := by rw [HGT.out.2.1]; exact hkn
          obtain ⟨dd, hdd⟩ := HGR.out.a k _ (List.getElem?_eq_getElem hkl0)
          obtain ⟨a0, rfl, hc0⟩ := trow_at (trow_below HF0.out.1.rt (below_call HB0.out HB0.out.size HB0r.out)) hkl0
          obtain ⟨t0, ht0⟩ : ∃ t0, lt[k] = t0 := ⟨_, rfl⟩
          dsimp only at hc0
          rw [ht0] at hc0 hdd
          have hte : t = t0.load dd := by
            have h : lt1[k]? = some (t0.load dd) := hdd
            rw [hkt] at h; cases h; rfl
          subst hte
          obtain ⟨ti, to_, tk, tx, ty, tf, td⟩ := t0
          obtain ⟨u0, u1, u2, u3, u4, u5, u6⟩ := hc0
          obtain ⟨c0, c1, c2, c3, c4, c5, c6⟩ := hc
          simp only [Trp.load] at c0 c1 c2 c3 c4 c5 c6 u0 u1 u2 u3 u4 u5 u6
          obtain ⟨w5, hw5⟩ : ∃ w5, w4.alloc (.cells #[.int .i64 ti, .int .i64 to_, .int .i64 tk, .int .i64 tx, .int .i64 ty, .int .i64 tf, .int .i64 dd] 47) = w5 := ⟨_, rfl⟩
          have hk5 : w5.heap[G]? = some (.cells #[.int .i64 ti, .int .i64 to_, .int .i64 tk, .int .i64 tx, .int .i64 ty, .int .i64 tf, .int .i64 dd] 47) := by rw [← hw5, ← hG]; exact World.alloc_heap_new w4 _
          have hb5 : Below w4.heap.size w4 w5 := by rw [← hw5]; exact alloc_below _ _
          have v0 := cell_call2 u0 hb5
          have v1 := cell_call2 u1 hb5
          have v2 := cell_call2 u2 hb5
          have v3 := cell_call2 u3 hb5
          have v4 := cell_call2 u4 hb5
          have v5 := cell_call2 u5 hb5
          have v6 := cell_call2 u6 hb5
          have hfz : w5.frozen? ⟨G, 6, none⟩ = false := by simp [World.frozen?, hk5]
          have hce : w5.cell? ⟨G, 6, none⟩ = some (.int .i64 dd) := by simp [World.cell?, hk5]
          obtain ⟨w6, hw6⟩ : ∃ w6, w5.setCell ⟨G, 6, none⟩ (.int .i64 td) = w6 := ⟨_, rfl⟩
          have hk6 : w6.heap[G]? = some (.cells #[.int .i64 ti, .int .i64 to_, .int .i64 tk, .int .i64 tx, .int .i64 ty, .int .i64 tf, .int .i64 td] 47) := by rw [← hw6, heap_setCell_same w5 G 6 _ _ _ hk5]; rfl
          have ex6 : Ex (fun g => g = G) w5 w6 := by rw [← hw6]; exact Ex.set (S := fun g => g = G) w5 ⟨G, 6, none⟩ rfl _
          have nG : ∀ {q : Addr} {u : Value}, w4.cell? q = some u → ¬ q.block = G := fun h e => by have := cell_lt h; omega
          have old : ∀ {q : Addr} {u : Value}, w4.cell? q = some u → w6.cell? q = some u := fun h => (ex6.cell (cell_lt (cell_call2 h hb5)) (nG h)).trans (cell_call2 h hb5)
          have g0 := old u0
          have g1 := old u1
          have g2 := old u2
          have g3 := old u3
          have g4 := old u4
          have g5 := old u5
          have g6 := old u6
          have b0 : w6.cell? ⟨G, 0, none⟩ = some (.int .i64 ti) := by simp [World.cell?, hk6]
          have b1 : w6.cell? ⟨G, 1, none⟩ = some (.int .i64 to_) := by simp [World.cell?, hk6]
          have b2 : w6.cell? ⟨G, 2, none⟩ = some (.int .i64 tk) := by simp [World.cell?, hk6]
          have b3 : w6.cell? ⟨G, 3, none⟩ = some (.int .i64 tx) := by simp [World.cell?, hk6]
          have b4 : w6.cell? ⟨G, 4, none⟩ = some (.int .i64 ty) := by simp [World.cell?, hk6]
          have b5 : w6.cell? ⟨G, 5, none⟩ = some (.int .i64 tf) := by simp [World.cell?, hk6]
          have b6 : w6.cell? ⟨G, 6, none⟩ = some (.int .i64 td) := by simp [World.cell?, hk6]
          obtain ⟨z0, z1, z2, z3, z4, z5, z6, z7, z8⟩ := HZ.out w5 (below_call HB0r.out HB0r.out.size hb5)
          have q6 : w6.cell? ⟨F, 6, none⟩ = some (.slice (some a0) nt ct) := by
            have hh := (HZ.out w4 HB0r.out).2.2.2.2.2.2.1
            exact old hh
          have HW6 : Hid (w5.setCell ⟨G, 6, none⟩ (.int .i64 td) = w6) := hw6
          have HB6 : Hid (∀ m, Below w2.heap.size w2 (w6.drewN m)) := fun m => below_drewN ((below_call HS.out HS.out.size hb5).trans (ex6.below (B := w2.heap.size) (below_call HS.out HS.out.size hb5).size (fun j hj e => by have := HS.out.size; omega))) m
          have l3 : (k : Int) < nt := by omega
          clear hb5 hw6 hk5 hk6 ex6 old nG u0 u1 u2 u3 u4 u5 u6 hdd hkt ht ht0
          go_wp2_with fail
          rw [HW6.out]
          clear z0 z1 z2 z3 z4 z5 z6 z7 z8 v0 v1 v2 v3 v4 v5 v6 c0 c1 c2 c3 c4 c5 c6 hfz hce hw5
          go_quiet (fail)
          go_wp2_with fail
          go_roundw
          case rel => exact ⟨k + 1, by go_num, by omega, HB6.out _⟩
          case measure => simp [intOf]; omega
        · have hge : N ≤ t.i := HGR.out.b k t (by show lt.length ≤ k; rw [HGT.out.2.1]; omega) hkt
          obtain ⟨ti, to_, tk, tx, ty, tf, td⟩ := t
          obtain ⟨c0, c1, c2, c3, c4, c5, c6⟩ := hc
          simp only at c0 c1 c2 c3 c4 c5 c6 hge
          obtain ⟨w5, hw5⟩ : ∃ w5, w4.alloc (.cells #[.int .i64 ti, .int .i64 to_, .int .i64 tk, .int .i64 tx, .int .i64 ty, .int .i64 tf, .int .i64 td] 47) = w5 := ⟨_, rfl⟩
          have hk5 : w5.heap[G]? = some (.cells #[.int .i64 ti, .int .i64 to_, .int .i64 tk, .int .i64 tx, .int .i64 ty, .int .i64 tf, .int .i64 td] 47) := by rw [← hw5, ← hG]; exact World.alloc_heap_new w4 _
          have hb5 : Below w4.heap.size w4 w5 := by rw [← hw5]; exact alloc_below _ _
          have b0 : w5.cell? ⟨G, 0, none⟩ = some (.int .i64 ti) := by simp [World.cell?, hk5]
          obtain ⟨z0, z1, z2, z3, z4, z5, z6, z7, z8⟩ := HZ.out w5 (below_call HB0r.out HB0r.out.size hb5)
          have HB5 : Hid (Below w2.heap.size w2 w5) := below_call HS.out HS.out.size hb5
          have l3 : (nt : Int) ≤ k := by omega
          clear hb5 hk5 hkt ht
          go_wp2_with fail
          clear z0 z1 z2 z3 z4 z5 z6 z7 z8 c0 c1 c2 c3 c4 c5 c6 b0 hw5
          go_roundw
          case rel => exact ⟨k + 1, by go_num, by omega, HB5.out⟩
          case measure => simp [intOf]; omega
      · obtain ⟨y0, y1, y2, y3, y4, y5, y6, y7, y8⟩ := HY.out wr HS.out
        obtain ⟨z0, z1, z2, z3, z4, z5, z6, z7, z8⟩ := HZ.out wr HB0r.out
        have HSF : Hid (∀ V, Below w2.heap.size w2 V → Calls Try.prog 18 #[.agg #[.int .i64 A1, .int .i64 B1, .slice p1 n1 c1], .agg #[.int .i64 A1, .int .i64 B1, .slice p n1 c]] V fun e w' => e = .returned (.bool true) ∧ Below V.heap.size V w') := fun V hV =>
          SameField_yes A1 B1 p1 p n1 c1 c l1 V HFIT.out.h HFIT.out.m (row_below HFIT.out.r (below_call HB12.out HB12.out.size hV)) (row_below HF0.out.1.r (below_call HB2.out HB2.out.size hV))
        have HEC : Hid (∀ V, Below w2.heap.size w2 V → Calls Try.prog 19 #[.slice pb1 nb1 cb1, .slice pb nb1 cb] V fun e w' => e = .returned (.bool true) ∧ Below V.heap.size V w') := fun V hV =>
          Equalc_b pb1 pb nb1 cb1 cb lb1 V HFIT.out.hb HFIT.out.mb (crow_below HFIT.out.rb (below_call HB12.out HB12.out.size hV)) (crow_below HF0.out.1.rb (below_call HB2.out HB2.out.size hV))
        go_wp2_with fail
        refine (HSF.out wr HS.out).mono ?_
        rintro e w5 ⟨rfl, hb5⟩
        have HB5 : Hid (Below w2.heap.size w2 w5) := below_call HS.out HS.out.size hb5
        clear hb5 y0 y1 y2 y3 y4 y5 y6 y7 y8 z0 z1 z2 z3 z4 z5 z6 z7 z8
        obtain ⟨y0, y1, y2, y3, y4, y5, y6, y7, y8⟩ := HY.out w5 HB5.out
        obtain ⟨z0, z1, z2, z3, z4, z5, z6, z7, z8⟩ := HZ.out w5 (below_call HB02.out HB02.out.size HB5.out)
        go_wp2_with fail
        refine (HEC.out w5 HB5.out).mono ?_
        rintro e w6 ⟨rfl, hb6⟩
        have HB6 : Hid (Below w2.heap.size w2 w6) := below_call HB5.out HB5.out.size hb6
        clear hb6 y0 y1 y2 y3 y4 y5 y6 y7 y8 z0 z1 z2 z3 z4 z5 z6 z7 z8
        obtain ⟨y0, y1, y2, y3, y4, y5, y6, y7, y8⟩ := HY.out w6 HB6.out
        obtain ⟨z0, z1, z2, z3, z4, z5, z6, z7, z8⟩ := HZ.out w6 (below_call HB02.out HB02.out.size HB6.out)
        have HBW : Hid (Below w.heap.size w w6) := below_call HB2.out HB2.out.size HB6.out
        go_wp2_with fail
        go_ret
        exact ⟨rfl, by first | exact HBW.out | (rw [← HFW.out.1]; exact HBW.out)⟩
  · have HDO : Hid (∀ V, Below w.heap.size w V → Calls Try.prog 9 #[s0.val, .slice s1.p s1.l.length s1.c] V fun e w' => (∃ (s' : Wld) (dp : Option Addr) (dn dc : Nat), e = .returned (.tuple #[s'.val, .slice dp dn dc, .int .i64 E])) ∧ Below V.heap.size V w') := fun V hV => by
      refine (Do_any s0 E s1.p _ s1.c s1.l V (Wld.fit_below h0 hV) (dor_below h1.1 hV) h1.2.1 rfl h1.2.2.1 hE).mono ?_
      rintro e w' ⟨⟨s', dp, dc, bs, rfl, _⟩, hb⟩
      exact ⟨⟨s', dp, _, dc, rfl⟩, hb⟩
    clear h0 h1 hs1 hE
    obtain ⟨A, B, p, n, c, l, pb, nb, cb, lb, ps, ns, cs, ls, pm, nm, cm, lm, pt, nt, ct, lt, N, T⟩ := s0
    obtain ⟨lp, lc, ll⟩ := s1
    unfold Wld.val Dst.val at *
    dsimp only at *
    obtain ⟨nl, hnl⟩ : ∃ nl, ll.length = nl := ⟨_, rfl⟩
    rw [hnl] at HDO ⊢
    clear hnl
    obtain ⟨F, hF⟩ : ∃ F, w.heap.size = F := ⟨_, rfl⟩
    obtain ⟨w0, hw0⟩ : ∃ w0, w.alloc (.cells #[.int .i64 A, .int .i64 B, .slice p n c, .slice pb nb cb, .slice ps ns cs, .slice pm nm cm, .slice pt nt ct, .int .i64 N, .int .i64 T] 28) = w0 := ⟨_, rfl⟩
    have hB0 : Below w.heap.size w w0 := by rw [← hw0]; exact alloc_below _ _
    have HB0 : Hid (Below w.heap.size w w0) := hB0
    obtain ⟨z0, z1, z2, z3, z4, z5, z6, z7, z8⟩ := boxw hF hw0 (Below.refl _ _)
    have d1 : (E != 0) = true := by simp [e0]
    clear hB0
    go_enter Try.func5, Try.ntmps5
    go_wp2_with fail
    refine (HDO.out w0 HB0.out).mono ?_
    rintro e w1 ⟨⟨s', dp, dn, dc, rfl⟩, hb1⟩
    have HB1 : Hid (Below w.heap.size w w1) := below_call HB0.out HB0.out.size hb1
    clear hb1 z0 z1 z2 z3 z4 z5 z6 z7 z8 hw0
    obtain ⟨A1, B1, p1, n1, c1, l1, pb1, nb1, cb1, lb1, ps1, ns1, cs1, ls1, pm1, nm1, cm1, lm1, pt1, nt1, ct1, lt1, N1, T1⟩ := s'
    dsimp only
    go_wp2_with fail
    refine (glives_any _).mono ?_
    rintro e w3 ⟨rfl, hb3⟩
    have HB3 : Hid (Below w.heap.size w w3) := below_call (HB1.out.alloc HB1.out.size _) (HB1.out.alloc HB1.out.size _).size hb3
    clear hb3
    go_wp2_with fail
    refine (glives_any _).mono ?_
    rintro e w4 ⟨rfl, hb4⟩
    have HB4 : Hid (Below w.heap.size w w4) := below_call HB3.out HB3.out.size hb4
    clear hb4
    go_wp2_with fail
    go_ret
    exact ⟨rfl, by first | exact HB4.out | (rw [← hF]; exact HB4.out)⟩

set_option maxRecDepth 100000 in
theorem lifted (os : Os) (started : os.Started) (H : Type) (enc : TypeId × Value → H) :
    ReturnsInHanded {} Try.checked os 5 .any (Rows.goodsRightSpec.pre6 enc Try.prog Try.f5 Rows.goodsRightRow.domain false) (Rows.goodsRightSpec.post enc Try.prog Try.f5 false true false false) := by
  refine returnsInHanded_of_change_sized (C := Try.checked) own started (by kernel_rfl) Try.func5
    (ChangeSpec.witness6 (enc := enc) (C := Try.checked) false ⟨#[], #[.agg #[.int .i64 0, .int .i64 0, .slice none 0 0, .slice none 0 0, .slice none 0 0, .slice none 0 0, .slice none 0 0, .int .i64 0, .int .i64 0], .slice none 0 0], []⟩ 8 (by kernel_rfl) (by kernel_rfl) (by kernel_rfl) (by kernel_rfl)) ?_
  intro W base args ds gs before hval0 hW hcnd hsz _
  have hval : ∀ (j : Nat) t v, Try.f5.params[j]? = some t → args[j]? = some v → Value.okWide Try.prog W .any base t v := hval0
  have hW' := hW
  obtain ⟨p, q, hA0, hV, rfl, hfz, hnd⟩ := hW
  have hA : DataW.TrodAll enc Try.prog W 0 (fun _ => true) true Try.f5.params.toList args.toList ds p := hA0
  rw [Try.params5] at hA hval
  obtain ⟨v0, vs0, d0, ds0, p0, q0, hargs, rfl, rfl, h0, r0⟩ := trodAll_cons hA
  obtain ⟨v1, vs1, d1, ds1, p1, q1, rfl, rfl, rfl, h1, r1⟩ := trodAll_cons r0
  obtain ⟨rfl, rfl, rfl⟩ := trodAll_nil r1
  obtain rfl : args = #[v0, v1] := by cases args; simp_all
  obtain ⟨rfl, rfl⟩ := trodVars_none hV
  obtain ⟨s0, rfl, k0⟩ := open_wld (hval 0 28 v0 rfl rfl) h0
  obtain ⟨s1, rfl, k1, t1⟩ := open_dst (hval 1 29 v1 rfl rfl) h1
  have hs1 : s1.l.length * 40 ≤ 140737488351232 := told_sized hsz (j := 1) rfl rfl Try.underlying29 (by kernel_rfl) t1
  clear hA0 hval0
  refine (walk s0 s1  W k0 k1 hs1).mono fun e W' ⟨he, hg⟩ => ?_
  subst he
  exact ⟨_, rfl, law_post (by kernel_rfl) (by kernel_rfl) rfl (by kernel_rfl) Try.underlying4 hW' rfl hg⟩

theorem over : Rows.goodsRightRow.holds Try.pinned (OpenSpec.ofChange Rows.goodsRightSpec) :=
  OpenClaim.holds_of_wide 5 Try.f5 rfl rfl rfl rfl rfl rfl rfl ⟨rfl, rfl, rfl, rfl, rfl⟩ rfl rfl rfl rfl rfl (by kernel_rfl) Try.func5 (by kernel_rfl)
    (of_decide_eq_true (by kernel_rfl)) (by unfold Func.isWrapper; first | (rw [if_pos (by decide +kernel)]; kernel_rfl) | (rw [if_neg (by decide +kernel)]; exact ⟨rfl, rfl⟩))
    (fun os started H enc _ => lifted os started H enc)

theorem proved : Rows.GoodsRightSaid :=
  over
end Go.Proofs.Ytdcjjfipnilmpaa.goodsRight

namespace Go.Proofs.Ytdcjjfipnilmpaa
/-- GoodsRight: a right world is right behind deeds, none of its troops is gone, has moved or been harmed, new ones have new numbers: for every world and every list of deeds the law answers true. -/
theorem goodsRight_holds : Rows.GoodsRightSaid := goodsRight.proved
#print axioms goodsRight_holds
end Go.Proofs.Ytdcjjfipnilmpaa
