/- What Deeded tells of a mine. -/
import Derived.Test.YtdcjjfipnilmpaaME
import Derived.Test.YtdcjjfipnilmpaaMR
import Derived.Deep.RegionHeld3
import Derived.Deep.DrawnRows
import Derived.RegionTactic
namespace Go.Proofs.Ytdcjjfipnilmpaa
open Go.RowKit Go.Maps
set_option linter.unusedVariables false

set_option maxRecDepth 40000 in
set_option maxHeartbeats 16000000 in
theorem Deeded_mine (s : Wld) (W H : Nat) (d : Ded) (w : World) (h : s.fit w) (hk : okw s W H) (hd : fitd d) (hk1 : d.k = 1) :
    Calls Try.prog 38 #[s.val, dv d] w fun e w' => dres w.heap.size s (fun s' r => Ds W H s.l s.lb s.shp d s' r) e w' ∧ Below w.heap.size w w' := by
  have HK : Hid (d.k = 1) := hk1
  clear hk1
  have HOK : Hid (oks W H s.l s.lb s.shp ∧ s.A = W ∧ s.B = H) := ⟨okw_oks hk h.hb h.ht, hk.a, hk.b⟩
  have HPB : Hid (row vi w s.p s.l ∧ s.l.length = s.n ∧ crow w s.pb s.lb ∧ s.lb.length = s.nb) := ⟨h.r, h.h, h.rb, h.hb⟩
  have HC1 : Hid (∀ V, Below w.heap.size w V → Calls Try.prog 24 #[.slice s.ps s.ns s.cs] V fun e w' => (∃ v, e = .returned v ∧ w'.ownsRow V.heap.size 3 1 v s.ls.length (s.ls.map vi)) ∧ Below V.heap.size V w') := fun V hV => by
    refine (Clonei_any s.ps s.ns s.cs s.ls V (row_below h.rs hV) h.hs (by have := HOK.out.1.pl.1; have := HOK.out.1.nb; have := h.hs; have e : s.shp.ls.length = s.ls.length := rfl; omega)).mono ?_
    rintro e w' ⟨⟨v, rfl, hv, _⟩, hb⟩
    exact ⟨⟨v, rfl, hv⟩, hb⟩
  have HC2 : Hid (∀ V, Below w.heap.size w V → Calls Try.prog 24 #[.slice s.pm s.nm s.cm] V fun e w' => (∃ v, e = .returned v ∧ w'.ownsRow V.heap.size 3 1 v s.lm.length (s.lm.map vi)) ∧ Below V.heap.size V w') := fun V hV => by
    refine (Clonei_any s.pm s.nm s.cm s.lm V (row_below h.rm hV) h.hm (by
      have h1 := HOK.out.1.mn.1
      have h2 := HOK.out.1.f.2.2.1
      have h3 := wh_le HOK.out.1.f.1 HOK.out.1.f.2.1
      have h4 := h.hm
      have e : s.shp.lm.length = s.lm.length := rfl
      omega)).mono ?_
    rintro e w' ⟨⟨v, rfl, hv, _⟩, hb⟩
    exact ⟨⟨v, rfl, hv⟩, hb⟩
  have HC3 : Hid (∀ V, Below w.heap.size w V → Calls Try.prog 23 #[.slice s.pt s.nt s.ct] V fun e w' => (∃ v, e = .returned v ∧ w'.ownsRow V.heap.size 47 7 v s.lt.length (flat7 s.lt)) ∧ Below V.heap.size V w') := fun V hV => by
    refine (Clonet_any s.pt s.nt s.ct s.lt V (trow_below h.rt hV) h.ht (by have := HOK.out.1.nt; have := h.ht; have e : s.shp.lt.length = s.lt.length := rfl; omega)).mono ?_
    rintro e w' ⟨⟨v, rfl, hv, _⟩, hb⟩
    exact ⟨⟨v, rfl, hv⟩, hb⟩
  have HFD : Hid (fitd d) := hd
  clear h hk hd
  obtain ⟨A, B, p, n, c, l, pb, nb, cb, lb, ps, ns, cs, ls, pm, nm, cm, lm, pt, nt, ct, lt, N, T⟩ := s
  obtain ⟨dk, dw, dx, dy, da⟩ := d
  unfold Wld.val dv
  dsimp only at *
  obtain ⟨J, hJ⟩ : ∃ J, w.heap.size = J := ⟨_, rfl⟩
  obtain ⟨w0, hw0⟩ : ∃ w0, ((w.alloc (.cells #[.int .i64 A, .int .i64 B, .slice p n c, .slice pb nb cb, .slice ps ns cs, .slice pm nm cm, .slice pt nt ct, .int .i64 N, .int .i64 T] 28)).alloc (.cells #[.int .i64 dk, .int .i64 dw, .int .i64 dx, .int .i64 dy, .int .i64 da] 52)).alloc (.cells #[.int .i64 0, .int .i64 0, .slice none 0 0, .slice none 0 0, .slice none 0 0, .slice none 0 0, .slice none 0 0, .int .i64 0, .int .i64 0] 28) = w0 := ⟨_, rfl⟩
  have hB0 : Below w.heap.size w w0 := by rw [← hw0]; exact ((alloc_below w _).alloc (by simp) _).alloc (by simp; omega) _
  have hx0 : bx9 w0 J (.int .i64 A) (.int .i64 B) (.slice p n c) (.slice pb nb cb) (.slice ps ns cs) (.slice pm nm cm) (.slice pt nt ct) (.int .i64 N) (.int .i64 T) := by
    rw [← hw0, ← hJ]
    exact bx9_below (bx9_below (box9_new w _ _ _ _ _ _ _ _ _) (alloc_below _ _)) (alloc_below _ _)
  have hd0 : bxd w0 (J + 1) ⟨dk, dw, dx, dy, da⟩ := by
    rw [← hw0, ← hJ]
    refine bxd_ex (S := fun _ => False) ?_ (Ex.of_below (alloc_below _ _)) (fun e => e)
    have := World.alloc_heap_new (w.alloc (.cells #[.int .i64 A, .int .i64 B, .slice p n c, .slice pb nb cb, .slice ps ns cs, .slice pm nm cm, .slice pt nt ct, .int .i64 N, .int .i64 T] 28)) (.cells #[.int .i64 dk, .int .i64 dw, .int .i64 dx, .int .i64 dy, .int .i64 da] 52)
    rw [World.size_alloc] at this
    exact this
  have hr0 : bx9 w0 (J + 1 + 1) (.int .i64 0) (.int .i64 0) (.slice none 0 0) (.slice none 0 0) (.slice none 0 0) (.slice none 0 0) (.slice none 0 0) (.int .i64 0) (.int .i64 0) := by
    rw [← hw0, ← hJ]
    have := box9_new ((w.alloc (.cells #[.int .i64 A, .int .i64 B, .slice p n c, .slice pb nb cb, .slice ps ns cs, .slice pm nm cm, .slice pt nt ct, .int .i64 N, .int .i64 T] 28)).alloc (.cells #[.int .i64 dk, .int .i64 dw, .int .i64 dx, .int .i64 dy, .int .i64 da] 52)) (.int .i64 0) (.int .i64 0) (.slice none 0 0) (.slice none 0 0) (.slice none 0 0) (.slice none 0 0) (.slice none 0 0) (.int .i64 0) (.int .i64 0)
    rw [World.size_alloc, World.size_alloc] at this
    exact this
  have hs0 : w0.heap.size = J + 1 + 1 + 1 := by rw [← hw0, World.size_alloc, World.size_alloc, World.size_alloc, hJ]
  have HB0 : Hid (Below w.heap.size w w0) := hB0
  have HS0 : Hid (w0.heap.size = J + 1 + 1 + 1 ∧ w.heap.size = J) := ⟨hs0, hJ⟩
  have HX0 : Hid (bx9 w0 J (.int .i64 A) (.int .i64 B) (.slice p n c) (.slice pb nb cb) (.slice ps ns cs) (.slice pm nm cm) (.slice pt nt ct) (.int .i64 N) (.int .i64 T)) := hx0
  have HD0 : Hid (bxd w0 (J + 1) ⟨dk, dw, dx, dy, da⟩ ∧ bx9 w0 (J + 1 + 1) (.int .i64 0) (.int .i64 0) (.slice none 0 0) (.slice none 0 0) (.slice none 0 0) (.slice none 0 0) (.slice none 0 0) (.int .i64 0) (.int .i64 0)) := ⟨hd0, hr0⟩
  have HUP : Hid (∀ V, Ex (fun g => g = J) w0 V → Below w.heap.size w V) := fun V hV => HB0.out.trans (hV.below HB0.out.size (fun k hk e => by have := HS0.out.2; omega))
  clear hB0 hx0 hd0 hr0 hs0
  go_enter Try.func38, Try.ntmps38
  go_wp2_with fail
  clear hw0
  refine regd1 J A B N T p pb ps pm pt n c nb cb ns cs nm cm nt ct ls lm lt w0 _ _ _ _ _ _ _ _ _ _ _ _ _ _ _ _ _ _ _ _ _ _ _ _ _ _ _ _ _ _ _ _ _ _ _ _ _ _ _ _ _ _ _ _ _ _ _ _ _ _ _ _ _ _ _ _ _ _ _ _ _ _ _ _ _ _ _ _ _ _ _ _ _ _ _ _ _ _ _ _ _ _ _ _ _ _ _ _ _ _ _ _ _ _ _ _ _ _ _ _ _ _ _ _ _ _ _ _ _ _ _ _ _ _ _ _ _ _ _ _ _ _ _ _ _ _ _ _ _ _ _ _ _ _ _ _ _ _ _ _ _ _ _ _ _ _ _ _ _ _ _ _ _ _ _ _ _ _ _ _ _ _ _ _ _ _ _ _ _ _ _ _ _ _ _ _ _ _ _ _ _ _ _ _ _ _ _ _ _ _ _ _ _ _ _ _ _ _ _ _ _ _ _ _ _ _ _ _ _ _ _ _ _ _ _ _ _ _ _ _ _ _ _ _ _ _ _ _ _ _ _ _ _ _ _ _ _ _ _ _ _ _ _ _ _ _ _ _ _ _ _ _ _ _ _ _ _ _ _ _ _ _ _ _ _ _ _ _ _ _ _ _ _ _ _ _ _ _ _ _ _ _ _ _ _ _ _ _ _ _ _ _ HX0.out (fun V hV => HC1.out V (HUP.out V hV)) (fun V hV => HC2.out V (HUP.out V hV)) (fun V hV => HC3.out V (HUP.out V hV)) ?_
  intro qs es qm em qt et w1 he hx os om ot ap
  obtain ⟨s1, hs1⟩ : ∃ s1 : Wld, s1 = ⟨A, B, p, n, c, l, pb, nb, cb, lb, qs, ls.length, es, ls, qm, lm.length, em, lm, qt, lt.length, et, lt, N, T⟩ := ⟨_, rfl⟩
  have HSIT1 : Hid (sit (J + 1 + 1 + 1) J (J + 1) (J + 1 + 1) w1 ⟨A, B, p, n, c, l, pb, nb, cb, lb, qs, ls.length, es, ls, qm, lm.length, em, lm, qt, lt.length, et, lt, N, T⟩ ⟨dk, dw, dx, dy, da⟩) := by
    rw [HS0.out.1] at os om ot
    exact ⟨hx, bxd_ex HD0.out.1 he (by omega), ⟨_, _, _, _, _, _, _, _, _, bx9_ex HD0.out.2 he (by omega)⟩, ⟨os, om, ot, ap⟩, by omega, by omega, by omega⟩
  have HB1 : Hid (Below w.heap.size w w1) := HUP.out w1 he
  clear he hx os om ot ap hs1
  obtain ⟨z0, z1, z2, z3, z4, z5, z6, z7, z8⟩ := bx9_c9 HSIT1.out.x
  have HIX : Hid (Calls Try.prog 50 #[.slice qt lt.length et, .func (.func 51) #[] #[.pointer (some ⟨J + 1, 0, none⟩)]] w1 fun e w' => (∃ r, e = .returned (.int .i64 r) ∧ Hid (fst1 (fun t => t.i == dw) lt r)) ∧ Below w1.heap.size w1 w') :=
    IndexFunct_any Try.call51 _ qt lt.length et lt (fun t => t.i == dw) w1 (own_trow HSIT1.out.o.kt) rfl (by have h := HOK.out.1.nt; have e : (Wld.shp ⟨A, B, p, n, c, l, pb, nb, cb, lb, ps, ns, cs, ls, pm, nm, cm, lm, pt, nt, ct, lt, N, T⟩).lt.length = lt.length := rfl; omega)
      (fun t V2 _ hV2 => Who1_at t dw (J + 1) V2 (cell_call2 (bxd_cells HSIT1.out.d).2.1 hV2))
  clear HC1 HC2 HC3 HX0 HD0
  go_wp2_with fail
  refine Calls.mono HIX.out ?_
  rintro e w2 ⟨⟨r, rfl, hfr⟩, hb2⟩
  have HFR : Hid (fst1 (fun t => t.i == dw) lt r) := hfr.out
  have HSIT : Hid (sit (J + 1 + 1 + 1) J (J + 1) (J + 1 + 1) w2 ⟨A, B, p, n, c, l, pb, nb, cb, lb, qs, ls.length, es, ls, qm, lm.length, em, lm, qt, lt.length, et, lt, N, T⟩ ⟨dk, dw, dx, dy, da⟩) := sit_below HSIT1.out hb2
  have HB2 : Hid (Below w.heap.size w w2) := below_call HB1.out HB1.out.size hb2
  clear hfr hb2 HIX z0 z1 z2 z3 z4 z5 z6 z7 z8
  have e1 : dk = 1 := HK.out
  subst e1
  obtain ⟨q0, q1, q2, q3, q4⟩ := bxd_cells HSIT.out.d
  obtain ⟨z0, z1, z2, z3, z4, z5, z6, z7, z8⟩ := bx9_c9 HSIT.out.x
  rcases HFR.out with ⟨hr0, hno⟩ | ⟨k, hkl, rfl, hki⟩
  · have HNO : Hid (∀ (k : Nat) (t : Trp), lt[k]? = some t → ¬ t.i = dw) := fun k t hk e => by
      obtain ⟨hj, rfl⟩ := List.getElem?_eq_some_iff.1 hk
      have := hno k hj
      simp [e] at this
    have dr : decide (r < 0) = true := by simp [hr0]
    clear hno
    go_wp2_with fail
    go_quiet (fail)
    rename_i nq
    obtain ⟨w3, hw3⟩ : ∃ w3, w2.drewN nq = w3 := ⟨_, rfl⟩
    rw [hw3]
    have HSIT3 : Hid (sit (J + 1 + 1 + 1) J (J + 1) (J + 1 + 1) w3 ⟨A, B, p, n, c, l, pb, nb, cb, lb, qs, ls.length, es, ls, qm, lm.length, em, lm, qt, lt.length, et, lt, N, T⟩ ⟨1, dw, dx, dy, da⟩) := by unfold Hid; rw [← hw3]; exact sit_below HSIT.out (below_drewN (Below.refl _ _) _)
    have HB3 : Hid (Below w.heap.size w w3) := by unfold Hid; rw [← hw3]; exact below_drewN HB2.out _
    clear hw3 z0 z1 z2 z3 z4 z5 z6 z7 z8 q0 q1 q2 q3 q4
    obtain ⟨ra, rb, rc, rd, re, rf, rg, rh, ri, hrr⟩ := HSIT3.out.r
    obtain ⟨u9, hu9⟩ : ∃ u9, (((((((((w3.setCell ⟨J + 1 + 1, 0, none⟩ (.int .i64 A)).setCell ⟨J + 1 + 1, 1, none⟩ (.int .i64 B)).setCell ⟨J + 1 + 1, 2, none⟩ (.slice p n c)).setCell ⟨J + 1 + 1, 3, none⟩ (.slice pb nb cb)).setCell ⟨J + 1 + 1, 4, none⟩ (.slice qs ls.length es)).setCell ⟨J + 1 + 1, 5, none⟩ (.slice qm lm.length em)).setCell ⟨J + 1 + 1, 6, none⟩ (.slice qt lt.length et)).setCell ⟨J + 1 + 1, 7, none⟩ (.int .i64 N)).setCell ⟨J + 1 + 1, 8, none⟩ (.int .i64 T)) = u9 := ⟨_, rfl⟩
    obtain ⟨x9, e9⟩ := set9 hrr hu9.symm
    have HF9 : Hid (sown w.heap.size u9 ⟨A, B, p, n, c, l, pb, nb, cb, lb, qs, ls.length, es, ls, qm, lm.length, em, lm, qt, lt.length, et, lt, N, T⟩ ∧ Below w.heap.size w u9) := ⟨sown_mono (sown_ex HSIT3.out.o e9 (by intro g hg; omega)) (by have := HS0.out.2; omega), HB3.out.trans (e9.below HB3.out.size (by intro k hk; have := HS0.out.2; omega))⟩
    obtain ⟨y0, y1, y2, y3, y4, y5, y6, y7, y8⟩ := bx9_c9 x9
    obtain ⟨o0, o1, o2, o3, o4, o5, o6, o7, o8⟩ := bx9_c9 hrr
    have fr0 := bx9_free hrr 0
    have fr1 := bx9_free hrr 1
    have fr2 := bx9_free hrr 2
    have fr3 := bx9_free hrr 3
    have fr4 := bx9_free hrr 4
    have fr5 := bx9_free hrr 5
    have fr6 := bx9_free hrr 6
    have fr7 := bx9_free hrr 7
    have fr8 := bx9_free hrr 8
    obtain ⟨z0, z1, z2, z3, z4, z5, z6, z7, z8⟩ := bx9_c9 HSIT3.out.x
    clear hrr x9 e9
    go_wp2_with fail
    refine ⟨by simp, .tuple #[.agg #[.int .i64 A, .int .i64 B, .slice p n c, .slice pb nb cb, .slice qs ls.length es, .slice qm lm.length em, .slice qt lt.length et, .int .i64 N, .int .i64 T], .bool false], ?_, ⟨⟨A, B, p, n, c, l, pb, nb, cb, lb, qs, ls.length, es, ls, qm, lm.length, em, lm, qt, lt.length, et, lt, N, T⟩, false, rfl, ⟨rfl, rfl, rfl, rfl, rfl, rfl, rfl, rfl, rfl, rfl, rfl⟩, ?_, ds_mine rfl (.inr ⟨rfl, rfl, fun k t hk e => absurd e (HNO.out k t hk)⟩)⟩, ?_⟩
    · simp [results, Try.results38, go_sem, y0, y1, y2, y3, y4, y5, y6, y7, y8]
    · first | exact HF9.out.1 | (rw [← HS0.out.2]; exact HF9.out.1)
    · first | exact HF9.out.2 | (rw [← HS0.out.2]; exact HF9.out.2)
  · obtain ⟨t, ht⟩ : ∃ t, lt[k] = t := ⟨_, rfl⟩
    have hkt : lt[k]? = some t := by rw [List.getElem?_eq_getElem hkl, ht]
    rw [ht] at hki
    have hti : t.i = dw := by simpa using hki
    obtain ⟨gt, rfl, ⟨t0, t1, t2, t3, t4, t5, t6⟩, ft, hCt, hlt⟩ := own_tcell HSIT.out.o.kt hkt
    have hT1 := (tr_at HOK.out.1.tr hkt).2.2
    have hWH : W ≤ 40 ∧ H ≤ 40 := ⟨HOK.out.1.f.1.2, HOK.out.1.f.2.1.2⟩
    have HNR : Hid (near t.x t.y = true) := inb_near hWH.1 hWH.2 (opn_inb hT1.2.2.2.1)
    have hd0 : 0 ≤ t.d ∧ t.d ≤ 5 := ⟨hT1.2.2.2.2.2.2.1, by
      have h1 := hT1.2.2.2.2.2.2.2
      have h2 : loadOf t.k ≤ 5 := by unfold loadOf; split <;> omega
      omega⟩
    have HKT : Hid (lt[k]? = some t) := hkt
    have HTI : Hid (t.i = dw) := hti
    have HONE : Hid (∀ (k' : Nat) (t' : Trp), lt[k']? = some t' → t'.i = dw → t' = t) := fun k' t' h1 h2 => by
      have e := tr_one HOK.out.1.tr h1 hkt (by rw [h2, hti])
      subst e
      have h1' : lt[k']? = some t' := h1
      rw [hkt] at h1'; cases h1'; rfl
    obtain ⟨ti, to_, tk, tx, ty, tf, td⟩ := t
    simp only at t0 t1 t2 t3 t4 t5 t6 HNR hd0
    have hkn : (k : Int) < (lt.length : Int) := by omega
    have k0 : (0 : Int) ≤ k := by omega
    have dk0 : decide ((k : Int) < 0) = false := by simp
    have HTC : Hid (∀ U, Below w2.heap.size w2 U → U.cell? ⟨gt, k * 7 + 2, none⟩ = some (.int .i64 tk) ∧ U.cell? ⟨gt, k * 7 + 3, none⟩ = some (.int .i64 tx) ∧ U.cell? ⟨gt, k * 7 + 4, none⟩ = some (.int .i64 ty) ∧ U.cell? ⟨gt, k * 7 + 6, none⟩ = some (.int .i64 td) ∧ U.frozen? ⟨gt, k * 7 + 6, none⟩ = false) := fun U hU => ⟨cell_call2 t2 hU, cell_call2 t3 hU, cell_call2 t4 hU, cell_call2 t6 hU, (hU.frozen (p := ⟨gt, k * 7 + 6, none⟩) hlt).trans ft⟩
    clear hkt hti hki ht hT1 hCt hlt t0 t1 t5 ft
    by_cases hk1 : ¬ tk = 1
    · have dk1 : (tk != 1) = true := by simp [hk1]
      go_wp2_with fail
      go_quiet (fail)
      rename_i nq
      obtain ⟨w3, hw3⟩ : ∃ w3, w2.drewN nq = w3 := ⟨_, rfl⟩
      rw [hw3]
      have HSIT3 : Hid (sit (J + 1 + 1 + 1) J (J + 1) (J + 1 + 1) w3 ⟨A, B, p, n, c, l, pb, nb, cb, lb, qs, ls.length, es, ls, qm, lm.length, em, lm, (some ⟨gt, 0, none⟩), lt.length, et, lt, N, T⟩ ⟨1, dw, dx, dy, da⟩) := by unfold Hid; rw [← hw3]; exact sit_below HSIT.out (below_drewN (Below.refl _ _) _)
      have HB3 : Hid (Below w.heap.size w w3) := by unfold Hid; rw [← hw3]; exact below_drewN HB2.out _
      clear hw3 z0 z1 z2 z3 z4 z5 z6 z7 z8 q0 q1 q2 q3 q4 t2 t3 t4 t6
      obtain ⟨ra, rb, rc, rd, re, rf, rg, rh, ri, hrr⟩ := HSIT3.out.r
      obtain ⟨u9, hu9⟩ : ∃ u9, (((((((((w3.setCell ⟨J + 1 + 1, 0, none⟩ (.int .i64 A)).setCell ⟨J + 1 + 1, 1, none⟩ (.int .i64 B)).setCell ⟨J + 1 + 1, 2, none⟩ (.slice p n c)).setCell ⟨J + 1 + 1, 3, none⟩ (.slice pb nb cb)).setCell ⟨J + 1 + 1, 4, none⟩ (.slice qs ls.length es)).setCell ⟨J + 1 + 1, 5, none⟩ (.slice qm lm.length em)).setCell ⟨J + 1 + 1, 6, none⟩ (.slice (some ⟨gt, 0, none⟩) lt.length et)).setCell ⟨J + 1 + 1, 7, none⟩ (.int .i64 N)).setCell ⟨J + 1 + 1, 8, none⟩ (.int .i64 T)) = u9 := ⟨_, rfl⟩
      obtain ⟨x9, e9⟩ := set9 hrr hu9.symm
      have HF9 : Hid (sown w.heap.size u9 ⟨A, B, p, n, c, l, pb, nb, cb, lb, qs, ls.length, es, ls, qm, lm.length, em, lm, (some ⟨gt, 0, none⟩), lt.length, et, lt, N, T⟩ ∧ Below w.heap.size w u9) := ⟨sown_mono (sown_ex HSIT3.out.o e9 (by intro g hg; omega)) (by have := HS0.out.2; omega), HB3.out.trans (e9.below HB3.out.size (by intro k hk; have := HS0.out.2; omega))⟩
      obtain ⟨y0, y1, y2, y3, y4, y5, y6, y7, y8⟩ := bx9_c9 x9
      obtain ⟨o0, o1, o2, o3, o4, o5, o6, o7, o8⟩ := bx9_c9 hrr
      have fr0 := bx9_free hrr 0
      have fr1 := bx9_free hrr 1
      have fr2 := bx9_free hrr 2
      have fr3 := bx9_free hrr 3
      have fr4 := bx9_free hrr 4
      have fr5 := bx9_free hrr 5
      have fr6 := bx9_free hrr 6
      have fr7 := bx9_free hrr 7
      have fr8 := bx9_free hrr 8
      obtain ⟨z0, z1, z2, z3, z4, z5, z6, z7, z8⟩ := bx9_c9 HSIT3.out.x
      clear hrr x9 e9
      go_wp2_with fail
      refine ⟨by simp, .tuple #[.agg #[.int .i64 A, .int .i64 B, .slice p n c, .slice pb nb cb, .slice qs ls.length es, .slice qm lm.length em, .slice (some ⟨gt, 0, none⟩) lt.length et, .int .i64 N, .int .i64 T], .bool false], ?_, ⟨⟨A, B, p, n, c, l, pb, nb, cb, lb, qs, ls.length, es, ls, qm, lm.length, em, lm, (some ⟨gt, 0, none⟩), lt.length, et, lt, N, T⟩, false, rfl, ⟨rfl, rfl, rfl, rfl, rfl, rfl, rfl, rfl, rfl, rfl, rfl⟩, ?_, ds_mine rfl (.inr ⟨rfl, rfl, fun k t hk e hc => by have h1 := HONE.out k t hk e; have h2 := hc.2.2.1; rw [h1] at h2; exact hk1 h2⟩)⟩, ?_⟩
      · simp [results, Try.results38, go_sem, y0, y1, y2, y3, y4, y5, y6, y7, y8]
      · first | exact HF9.out.1 | (rw [← HS0.out.2]; exact HF9.out.1)
      · first | exact HF9.out.2 | (rw [← HS0.out.2]; exact HF9.out.2)
    have hk1 : tk = 1 := Classical.not_not.1 hk1
    subst hk1
    by_cases hd4 : 4 < td
    · have dd : decide (4 < td) = true := by simp [hd4]
      go_wp2_with fail
      go_quiet (fail)
      rename_i nq
      obtain ⟨w3, hw3⟩ : ∃ w3, w2.drewN nq = w3 := ⟨_, rfl⟩
      rw [hw3]
      have HSIT3 : Hid (sit (J + 1 + 1 + 1) J (J + 1) (J + 1 + 1) w3 ⟨A, B, p, n, c, l, pb, nb, cb, lb, qs, ls.length, es, ls, qm, lm.length, em, lm, (some ⟨gt, 0, none⟩), lt.length, et, lt, N, T⟩ ⟨1, dw, dx, dy, da⟩) := by unfold Hid; rw [← hw3]; exact sit_below HSIT.out (below_drewN (Below.refl _ _) _)
      have HB3 : Hid (Below w.heap.size w w3) := by unfold Hid; rw [← hw3]; exact below_drewN HB2.out _
      clear hw3 z0 z1 z2 z3 z4 z5 z6 z7 z8 q0 q1 q2 q3 q4 t2 t3 t4 t6
      obtain ⟨ra, rb, rc, rd, re, rf, rg, rh, ri, hrr⟩ := HSIT3.out.r
      obtain ⟨u9, hu9⟩ : ∃ u9, (((((((((w3.setCell ⟨J + 1 + 1, 0, none⟩ (.int .i64 A)).setCell ⟨J + 1 + 1, 1, none⟩ (.int .i64 B)).setCell ⟨J + 1 + 1, 2, none⟩ (.slice p n c)).setCell ⟨J + 1 + 1, 3, none⟩ (.slice pb nb cb)).setCell ⟨J + 1 + 1, 4, none⟩ (.slice qs ls.length es)).setCell ⟨J + 1 + 1, 5, none⟩ (.slice qm lm.length em)).setCell ⟨J + 1 + 1, 6, none⟩ (.slice (some ⟨gt, 0, none⟩) lt.length et)).setCell ⟨J + 1 + 1, 7, none⟩ (.int .i64 N)).setCell ⟨J + 1 + 1, 8, none⟩ (.int .i64 T)) = u9 := ⟨_, rfl⟩
      obtain ⟨x9, e9⟩ := set9 hrr hu9.symm
      have HF9 : Hid (sown w.heap.size u9 ⟨A, B, p, n, c, l, pb, nb, cb, lb, qs, ls.length, es, ls, qm, lm.length, em, lm, (some ⟨gt, 0, none⟩), lt.length, et, lt, N, T⟩ ∧ Below w.heap.size w u9) := ⟨sown_mono (sown_ex HSIT3.out.o e9 (by intro g hg; omega)) (by have := HS0.out.2; omega), HB3.out.trans (e9.below HB3.out.size (by intro k hk; have := HS0.out.2; omega))⟩
      obtain ⟨y0, y1, y2, y3, y4, y5, y6, y7, y8⟩ := bx9_c9 x9
      obtain ⟨o0, o1, o2, o3, o4, o5, o6, o7, o8⟩ := bx9_c9 hrr
      have fr0 := bx9_free hrr 0
      have fr1 := bx9_free hrr 1
      have fr2 := bx9_free hrr 2
      have fr3 := bx9_free hrr 3
      have fr4 := bx9_free hrr 4
      have fr5 := bx9_free hrr 5
      have fr6 := bx9_free hrr 6
      have fr7 := bx9_free hrr 7
      have fr8 := bx9_free hrr 8
      obtain ⟨z0, z1, z2, z3, z4, z5, z6, z7, z8⟩ := bx9_c9 HSIT3.out.x
      clear hrr x9 e9
      go_wp2_with fail
      refine ⟨by simp, .tuple #[.agg #[.int .i64 A, .int .i64 B, .slice p n c, .slice pb nb cb, .slice qs ls.length es, .slice qm lm.length em, .slice (some ⟨gt, 0, none⟩) lt.length et, .int .i64 N, .int .i64 T], .bool false], ?_, ⟨⟨A, B, p, n, c, l, pb, nb, cb, lb, qs, ls.length, es, ls, qm, lm.length, em, lm, (some ⟨gt, 0, none⟩), lt.length, et, lt, N, T⟩, false, rfl, ⟨rfl, rfl, rfl, rfl, rfl, rfl, rfl, rfl, rfl, rfl, rfl⟩, ?_, ds_mine rfl (.inr ⟨rfl, rfl, fun k t hk e hc => by have h1 := HONE.out k t hk e; have h2 := hc.2.2.2.1; rw [h1] at h2; simp only at h2; omega⟩)⟩, ?_⟩
      · simp [results, Try.results38, go_sem, y0, y1, y2, y3, y4, y5, y6, y7, y8]
      · first | exact HF9.out.1 | (rw [← HS0.out.2]; exact HF9.out.1)
      · first | exact HF9.out.2 | (rw [← HS0.out.2]; exact HF9.out.2)
    have dd : decide (4 < td) = false := by simp; omega
    obtain ⟨ib, hib⟩ : ∃ ib, inb W H dx dy = ib := ⟨_, rfl⟩
    have HIB : Hid (inb W H dx dy = ib) := hib
    have HIN : Hid (∀ U, Calls Try.prog 48 #[.agg #[.int .i64 A, .int .i64 B, .slice p n c], .agg #[.int .i64 dx, .int .i64 dy]] U fun e w' => e = .returned (.bool ib) ∧ Below U.heap.size U w') := fun U => by
      have hA : A = W := HOK.out.2.1
      have hB : B = H := HOK.out.2.2
      rw [hA, hB]
      exact In_in W H p n c dx dy ib U HOK.out.1.f.1 HOK.out.1.f.2.1 HIB.out
    obtain ⟨nr, hnr⟩ : ∃ nr, decide (kg tx ty dx dy ≤ 1) = nr := ⟨_, rfl⟩
    have HKB : Hid (decide (kg tx ty dx dy ≤ 1) = nr) := hnr
    have HKG : Hid (∀ U, Calls Try.prog 52 #[.agg #[.int .i64 tx, .int .i64 ty], .agg #[.int .i64 dx, .int .i64 dy]] U fun e w' => e = .returned (.bool nr) ∧ Below U.heap.size U w') := fun U => king_at tx ty dx dy nr U HNR.out HKB.out
    clear hib hnr
    cases ib with
    | false =>
      go_wp2_with fail
      refine wp_region_noPanic ?_
      refine wp_region_held_drew (S := (fun U => Below w2.heap.size w2 U ∧ U.cell? ⟨J, 0, none⟩ = some (.int .i64 A) ∧ U.cell? ⟨J, 1, none⟩ = some (.int .i64 B) ∧ U.cell? ⟨J, 2, none⟩ = some (.slice p n c) ∧ U.cell? ⟨J, 6, none⟩ = some (.slice (some ⟨gt, 0, none⟩) lt.length et) ∧ U.cell? ⟨J + 1, 2, none⟩ = some (.int .i64 dx) ∧ U.cell? ⟨J + 1, 3, none⟩ = some (.int .i64 dy) ∧ U.cell? ⟨gt, k * 7 + 2, none⟩ = some (.int .i64 1) ∧ U.cell? ⟨gt, k * 7 + 3, none⟩ = some (.int .i64 tx) ∧ U.cell? ⟨gt, k * 7 + 4, none⟩ = some (.int .i64 ty) ∧ U.cell? ⟨gt, k * 7 + 6, none⟩ = some (.int .i64 td))) (by kernel_rfl) ⟨Below.drew (Below.refl _ _), z0, z1, z2, z6, q2, q3, t2, t3, t4, t6⟩ (fun hHeld => ?_)
      refine wpAnyH_take (i := 0) (oi := ?o0) (v := .int .i64 (k : Int)) ?hi0 (by kernel_rfl) (by kernel_rfl) (by kernel_rfl) (fun _ _ _ h => h) ?hy0 hHeld ?rest0
      case hi0 => simp only [List.getElem?_toArray, List.getElem?_cons_zero]; first | done | rfl
      case hy0 => exact Or.inl ⟨by rfl, by intro V hV; obtain ⟨s0, s1, s2, s3, s4, s5, s6, s7, s8, s9, s10⟩ := hV; go_simp⟩
      try simp only [Act.put, List.setIfInBounds_toArray, List.set_cons_zero, List.set_cons_succ]
      refine wpAnyH_take (i := 1) (oi := ?o1) (v := .bool false) ?hi1 (by kernel_rfl) (by kernel_rfl) (by kernel_rfl) (fun _ _ _ h => h) ?hy1 hHeld ?rest1
      case hi1 => simp only [List.getElem?_toArray, List.getElem?_cons_zero, List.getElem?_cons_succ]; first | done | rfl
      case hy1 => exact Or.inl ⟨by rfl, by intro V hV; obtain ⟨s0, s1, s2, s3, s4, s5, s6, s7, s8, s9, s10⟩ := hV; go_simp⟩
      try simp only [Act.put, List.setIfInBounds_toArray, List.set_cons_zero, List.set_cons_succ]
      refine wpAnyH_take (i := 2) (oi := ?o2) (v := .bool false) ?hi2 (by kernel_rfl) (by kernel_rfl) (by kernel_rfl) (fun _ _ _ h => h) ?hy2 hHeld ?rest2
      case hi2 => simp only [List.getElem?_toArray, List.getElem?_cons_zero, List.getElem?_cons_succ]; first | done | rfl
      case hy2 => exact Or.inl ⟨by rfl, by intro V hV; obtain ⟨s0, s1, s2, s3, s4, s5, s6, s7, s8, s9, s10⟩ := hV; go_simp⟩
      try simp only [Act.put, List.setIfInBounds_toArray, List.set_cons_zero, List.set_cons_succ]
      refine wpAnyH_take (i := 3) (oi := ?o3) (v := .pointer (some ⟨J, 6, none⟩)) ?hi3 (by kernel_rfl) (by kernel_rfl) (by kernel_rfl) (fun _ _ _ h => h) ?hy3 hHeld ?rest3
      case hi3 => simp only [List.getElem?_toArray, List.getElem?_cons_zero, List.getElem?_cons_succ]; first | done | rfl
      case hy3 => exact Or.inl ⟨by rfl, by intro V hV; obtain ⟨s0, s1, s2, s3, s4, s5, s6, s7, s8, s9, s10⟩ := hV; go_simp⟩
      try simp only [Act.put, List.setIfInBounds_toArray, List.set_cons_zero, List.set_cons_succ]
      refine wpAnyH_take (i := 4) (oi := ?o4) (v := .slice (some ⟨gt, 0, none⟩) lt.length et) ?hi4 (by kernel_rfl) (by kernel_rfl) (by kernel_rfl) (fun _ _ _ h => h) ?hy4 hHeld ?rest4
      case hi4 => simp only [List.getElem?_toArray, List.getElem?_cons_zero, List.getElem?_cons_succ]; first | done | rfl
      case hy4 => exact Or.inl ⟨by rfl, by intro V hV; obtain ⟨s0, s1, s2, s3, s4, s5, s6, s7, s8, s9, s10⟩ := hV; go_simp⟩
      try simp only [Act.put, List.setIfInBounds_toArray, List.set_cons_zero, List.set_cons_succ]
      refine wpAnyH_take (i := 5) (oi := ?o5) (v := .int .i64 (k : Int)) ?hi5 (by kernel_rfl) (by kernel_rfl) (by kernel_rfl) (fun _ _ _ h => h) ?hy5 hHeld ?rest5
      case hi5 => simp only [List.getElem?_toArray, List.getElem?_cons_zero, List.getElem?_cons_succ]; first | done | rfl
      case hy5 => exact Or.inl ⟨by rfl, by intro V hV; obtain ⟨s0, s1, s2, s3, s4, s5, s6, s7, s8, s9, s10⟩ := hV; go_simp⟩
      try simp only [Act.put, List.setIfInBounds_toArray, List.set_cons_zero, List.set_cons_succ]
      refine wpAnyH_take (i := 6) (oi := ?o6) (v := .pointer (some ⟨gt, k * 7, none⟩)) ?hi6 (by kernel_rfl) (by kernel_rfl) (by kernel_rfl) (fun _ _ _ h => h) ?hy6 hHeld ?rest6
      case hi6 => simp only [List.getElem?_toArray, List.getElem?_cons_zero, List.getElem?_cons_succ]; first | done | rfl
      case hy6 => exact Or.inl ⟨by rfl, by intro V hV; obtain ⟨s0, s1, s2, s3, s4, s5, s6, s7, s8, s9, s10⟩ := hV; go_simp⟩
      try simp only [Act.put, List.setIfInBounds_toArray, List.set_cons_zero, List.set_cons_succ]
      refine wpAnyH_take (i := 7) (oi := ?o7) (v := .pointer (some ⟨gt, k * 7 + 2, none⟩)) ?hi7 (by kernel_rfl) (by kernel_rfl) (by kernel_rfl) (fun _ _ _ h => h) ?hy7 hHeld ?rest7
      case hi7 => simp only [List.getElem?_toArray, List.getElem?_cons_zero, List.getElem?_cons_succ]; first | done | rfl
      case hy7 => exact Or.inl ⟨by rfl, by intro V hV; obtain ⟨s0, s1, s2, s3, s4, s5, s6, s7, s8, s9, s10⟩ := hV; go_simp⟩
      try simp only [Act.put, List.setIfInBounds_toArray, List.set_cons_zero, List.set_cons_succ]
      refine wpAnyH_take (i := 8) (oi := ?o8) (v := .int .i64 1) ?hi8 (by kernel_rfl) (by kernel_rfl) (by kernel_rfl) (fun _ _ _ h => h) ?hy8 hHeld ?rest8
      case hi8 => simp only [List.getElem?_toArray, List.getElem?_cons_zero, List.getElem?_cons_succ]; first | done | rfl
      case hy8 => exact Or.inl ⟨by rfl, by intro V hV; obtain ⟨s0, s1, s2, s3, s4, s5, s6, s7, s8, s9, s10⟩ := hV; go_simp⟩
      try simp only [Act.put, List.setIfInBounds_toArray, List.set_cons_zero, List.set_cons_succ]
      refine wpAnyH_take (i := 9) (oi := ?o9) (v := .bool false) ?hi9 (by kernel_rfl) (by kernel_rfl) (by kernel_rfl) (fun _ _ _ h => h) ?hy9 hHeld ?rest9
      case hi9 => simp only [List.getElem?_toArray, List.getElem?_cons_zero, List.getElem?_cons_succ]; first | done | rfl
      case hy9 => exact Or.inl ⟨by rfl, by intro V hV; obtain ⟨s0, s1, s2, s3, s4, s5, s6, s7, s8, s9, s10⟩ := hV; go_simp⟩
      try simp only [Act.put, List.setIfInBounds_toArray, List.set_cons_zero, List.set_cons_succ]
      refine wpAnyH_take (i := 10) (oi := ?o10) (v := .bool false) ?hi10 (by kernel_rfl) (by kernel_rfl) (by kernel_rfl) (fun _ _ _ h => h) ?hy10 hHeld ?rest10
      case hi10 => simp only [List.getElem?_toArray, List.getElem?_cons_zero, List.getElem?_cons_succ]; first | done | rfl
      case hy10 => exact Or.inl ⟨by rfl, by intro V hV; obtain ⟨s0, s1, s2, s3, s4, s5, s6, s7, s8, s9, s10⟩ := hV; go_simp⟩
      try simp only [Act.put, List.setIfInBounds_toArray, List.set_cons_zero, List.set_cons_succ]
      refine wpAnyH_take (i := 11) (oi := ?o11) (v := .bool false) ?hi11 (by kernel_rfl) (by kernel_rfl) (by kernel_rfl) (fun _ _ _ h => h) ?hy11 hHeld ?rest11
      case hi11 => simp only [List.getElem?_toArray, List.getElem?_cons_zero, List.getElem?_cons_succ]; first | done | rfl
      case hy11 => exact Or.inl ⟨by rfl, by intro V hV; obtain ⟨s0, s1, s2, s3, s4, s5, s6, s7, s8, s9, s10⟩ := hV; go_simp⟩
      try simp only [Act.put, List.setIfInBounds_toArray, List.set_cons_zero, List.set_cons_succ]
      refine wpAnyH_take (i := 12) (oi := ?o12) (v := .pointer (some ⟨J, 6, none⟩)) ?hi12 (by kernel_rfl) (by kernel_rfl) (by kernel_rfl) (fun _ _ _ h => h) ?hy12 hHeld ?rest12
      case hi12 => simp only [List.getElem?_toArray, List.getElem?_cons_zero, List.getElem?_cons_succ]; first | done | rfl
      case hy12 => exact Or.inl ⟨by rfl, by intro V hV; obtain ⟨s0, s1, s2, s3, s4, s5, s6, s7, s8, s9, s10⟩ := hV; go_simp⟩
      try simp only [Act.put, List.setIfInBounds_toArray, List.set_cons_zero, List.set_cons_succ]
      refine wpAnyH_take (i := 13) (oi := ?o13) (v := .slice (some ⟨gt, 0, none⟩) lt.length et) ?hi13 (by kernel_rfl) (by kernel_rfl) (by kernel_rfl) (fun _ _ _ h => h) ?hy13 hHeld ?rest13
      case hi13 => simp only [List.getElem?_toArray, List.getElem?_cons_zero, List.getElem?_cons_succ]; first | done | rfl
      case hy13 => exact Or.inl ⟨by rfl, by intro V hV; obtain ⟨s0, s1, s2, s3, s4, s5, s6, s7, s8, s9, s10⟩ := hV; go_simp⟩
      try simp only [Act.put, List.setIfInBounds_toArray, List.set_cons_zero, List.set_cons_succ]
      refine wpAnyH_take (i := 14) (oi := ?o14) (v := .int .i64 (k : Int)) ?hi14 (by kernel_rfl) (by kernel_rfl) (by kernel_rfl) (fun _ _ _ h => h) ?hy14 hHeld ?rest14
      case hi14 => simp only [List.getElem?_toArray, List.getElem?_cons_zero, List.getElem?_cons_succ]; first | done | rfl
      case hy14 => exact Or.inl ⟨by rfl, by intro V hV; obtain ⟨s0, s1, s2, s3, s4, s5, s6, s7, s8, s9, s10⟩ := hV; go_simp⟩
      try simp only [Act.put, List.setIfInBounds_toArray, List.set_cons_zero, List.set_cons_succ]
      refine wpAnyH_take (i := 15) (oi := ?o15) (v := .pointer (some ⟨gt, k * 7, none⟩)) ?hi15 (by kernel_rfl) (by kernel_rfl) (by kernel_rfl) (fun _ _ _ h => h) ?hy15 hHeld ?rest15
      case hi15 => simp only [List.getElem?_toArray, List.getElem?_cons_zero, List.getElem?_cons_succ]; first | done | rfl
      case hy15 => exact Or.inl ⟨by rfl, by intro V hV; obtain ⟨s0, s1, s2, s3, s4, s5, s6, s7, s8, s9, s10⟩ := hV; go_simp⟩
      try simp only [Act.put, List.setIfInBounds_toArray, List.set_cons_zero, List.set_cons_succ]
      refine wpAnyH_take (i := 16) (oi := ?o16) (v := .pointer (some ⟨gt, k * 7 + 6, none⟩)) ?hi16 (by kernel_rfl) (by kernel_rfl) (by kernel_rfl) (fun _ _ _ h => h) ?hy16 hHeld ?rest16
      case hi16 => simp only [List.getElem?_toArray, List.getElem?_cons_zero, List.getElem?_cons_succ]; first | done | rfl
      case hy16 => exact Or.inl ⟨by rfl, by intro V hV; obtain ⟨s0, s1, s2, s3, s4, s5, s6, s7, s8, s9, s10⟩ := hV; go_simp⟩
      try simp only [Act.put, List.setIfInBounds_toArray, List.set_cons_zero, List.set_cons_succ]
      refine wpAnyH_take (i := 17) (oi := ?o17) (v := .int .i64 td) ?hi17 (by kernel_rfl) (by kernel_rfl) (by kernel_rfl) (fun _ _ _ h => h) ?hy17 hHeld ?rest17
      case hi17 => simp only [List.getElem?_toArray, List.getElem?_cons_zero, List.getElem?_cons_succ]; first | done | rfl
      case hy17 => exact Or.inl ⟨by rfl, by intro V hV; obtain ⟨s0, s1, s2, s3, s4, s5, s6, s7, s8, s9, s10⟩ := hV; go_simp⟩
      try simp only [Act.put, List.setIfInBounds_toArray, List.set_cons_zero, List.set_cons_succ]
      refine wpAnyH_take (i := 18) (oi := ?o18) (v := .bool false) ?hi18 (by kernel_rfl) (by kernel_rfl) (by kernel_rfl) (fun _ _ _ h => h) ?hy18 hHeld ?rest18
      case hi18 => simp only [List.getElem?_toArray, List.getElem?_cons_zero, List.getElem?_cons_succ]; first | done | rfl
      case hy18 => exact Or.inl ⟨by rfl, by intro V hV; obtain ⟨s0, s1, s2, s3, s4, s5, s6, s7, s8, s9, s10⟩ := hV; go_simp⟩
      try simp only [Act.put, List.setIfInBounds_toArray, List.set_cons_zero, List.set_cons_succ]
      refine wpAnyH_take (i := 19) (oi := ?o19) (v := .bool false) ?hi19 (by kernel_rfl) (by kernel_rfl) (by kernel_rfl) (fun _ _ _ h => h) ?hy19 hHeld ?rest19
      case hi19 => simp only [List.getElem?_toArray, List.getElem?_cons_zero, List.getElem?_cons_succ]; first | done | rfl
      case hy19 => exact Or.inl ⟨by rfl, by intro V hV; obtain ⟨s0, s1, s2, s3, s4, s5, s6, s7, s8, s9, s10⟩ := hV; go_simp⟩
      try simp only [Act.put, List.setIfInBounds_toArray, List.set_cons_zero, List.set_cons_succ]
      refine wpAnyH_take (i := 20) (oi := ?o20) (v := .bool false) ?hi20 (by kernel_rfl) (by kernel_rfl) (by kernel_rfl) (fun _ _ _ h => h) ?hy20 hHeld ?rest20
      case hi20 => simp only [List.getElem?_toArray, List.getElem?_cons_zero, List.getElem?_cons_succ]; first | done | rfl
      case hy20 => exact Or.inl ⟨by rfl, by intro V hV; obtain ⟨s0, s1, s2, s3, s4, s5, s6, s7, s8, s9, s10⟩ := hV; go_simp⟩
      try simp only [Act.put, List.setIfInBounds_toArray, List.set_cons_zero, List.set_cons_succ]
      refine wpAnyH_take (i := 21) (oi := ?o21) (v := .pointer (some ⟨J, 0, none⟩)) ?hi21 (by kernel_rfl) (by kernel_rfl) (by kernel_rfl) (fun _ _ _ h => h) ?hy21 hHeld ?rest21
      case hi21 => simp only [List.getElem?_toArray, List.getElem?_cons_zero, List.getElem?_cons_succ]; first | done | rfl
      case hy21 => exact Or.inl ⟨by rfl, by intro V hV; obtain ⟨s0, s1, s2, s3, s4, s5, s6, s7, s8, s9, s10⟩ := hV; go_simp⟩
      try simp only [Act.put, List.setIfInBounds_toArray, List.set_cons_zero, List.set_cons_succ]
      refine wpAnyH_take (i := 22) (oi := ?o22) (v := .agg #[.int .i64 A, .int .i64 B, .slice p n c]) ?hi22 (by kernel_rfl) (by kernel_rfl) (by kernel_rfl) (fun _ _ _ h => h) ?hy22 hHeld ?rest22
      case hi22 => simp only [List.getElem?_toArray, List.getElem?_cons_zero, List.getElem?_cons_succ]; first | done | rfl
      case hy22 => exact Or.inl ⟨by rfl, by intro V hV; obtain ⟨s0, s1, s2, s3, s4, s5, s6, s7, s8, s9, s10⟩ := hV; go_simp⟩
      try simp only [Act.put, List.setIfInBounds_toArray, List.set_cons_zero, List.set_cons_succ]
      refine wpAnyH_take (i := 23) (oi := ?o23) (v := .pointer (some ⟨J + 1, 2, none⟩)) ?hi23 (by kernel_rfl) (by kernel_rfl) (by kernel_rfl) (fun _ _ _ h => h) ?hy23 hHeld ?rest23
      case hi23 => simp only [List.getElem?_toArray, List.getElem?_cons_zero, List.getElem?_cons_succ]; first | done | rfl
      case hy23 => exact Or.inl ⟨by rfl, by intro V hV; obtain ⟨s0, s1, s2, s3, s4, s5, s6, s7, s8, s9, s10⟩ := hV; go_simp⟩
      try simp only [Act.put, List.setIfInBounds_toArray, List.set_cons_zero, List.set_cons_succ]
      refine wpAnyH_take (i := 24) (oi := ?o24) (v := .agg #[.int .i64 dx, .int .i64 dy]) ?hi24 (by kernel_rfl) (by kernel_rfl) (by kernel_rfl) (fun _ _ _ h => h) ?hy24 hHeld ?rest24
      case hi24 => simp only [List.getElem?_toArray, List.getElem?_cons_zero, List.getElem?_cons_succ]; first | done | rfl
      case hy24 => exact Or.inl ⟨by rfl, by intro V hV; obtain ⟨s0, s1, s2, s3, s4, s5, s6, s7, s8, s9, s10⟩ := hV; go_simp⟩
      try simp only [Act.put, List.setIfInBounds_toArray, List.set_cons_zero, List.set_cons_succ]
      refine wpAnyH_ready (rs := [25]) (by kernel_rfl) (by simp) ?_
      refine AllReadyH.cons (o := ?o25) ?hi25 (fun K hK => ?step25) AllReadyH.nil
      case hi25 => simp only [List.getElem?_toArray, List.getElem?_cons_zero, List.getElem?_cons_succ]; first | done | rfl
      go_simp
      go_at_call 48
      refine (HIN.out _).mono ?_
      rintro e w3 ⟨rfl, hb3⟩
      go_wp2_with fail
      refine hK.out _ _ (k10_call hHeld hb3) (fun hHeld2 => ?_)
      clear hK K
      try simp only [Act.put, List.setIfInBounds_toArray, List.set_cons_zero, List.set_cons_succ]
      refine wpAnyH_take (i := 26) (oi := ?o26) (v := .bool true) ?hi26 (by kernel_rfl) (by kernel_rfl) (by kernel_rfl) (fun _ _ _ h => h) ?hy26 hHeld2 ?rest26
      case hi26 => simp only [List.getElem?_toArray, List.getElem?_cons_zero, List.getElem?_cons_succ]; first | done | rfl
      case hy26 => exact Or.inl ⟨by rfl, by intro V hV; obtain ⟨s0, s1, s2, s3, s4, s5, s6, s7, s8, s9, s10⟩ := hV; go_simp⟩
      try simp only [Act.put, List.setIfInBounds_toArray, List.set_cons_zero, List.set_cons_succ]
      refine wpAnyH_take (i := 27) (oi := ?o27) (v := .bool true) ?hi27 (by kernel_rfl) (by kernel_rfl) (by kernel_rfl) (fun _ _ _ h => h) ?hy27 hHeld2 ?rest27
      case hi27 => simp only [List.getElem?_toArray, List.getElem?_cons_zero, List.getElem?_cons_succ]; first | done | rfl
      case hy27 => exact Or.inl ⟨by rfl, by intro V hV; obtain ⟨s0, s1, s2, s3, s4, s5, s6, s7, s8, s9, s10⟩ := hV; go_simp⟩
      try simp only [Act.put, List.setIfInBounds_toArray, List.set_cons_zero, List.set_cons_succ]
      refine wpAnyH_take (i := 28) (oi := ?o28) (v := .bool true) ?hi28 (by kernel_rfl) (by kernel_rfl) (by kernel_rfl) (fun _ _ _ h => h) ?hy28 hHeld2 ?rest28
      case hi28 => simp only [List.getElem?_toArray, List.getElem?_cons_zero, List.getElem?_cons_succ]; first | done | rfl
      case hy28 => exact Or.inl ⟨by rfl, by intro V hV; obtain ⟨s0, s1, s2, s3, s4, s5, s6, s7, s8, s9, s10⟩ := hV; go_simp⟩
      try simp only [Act.put, List.setIfInBounds_toArray, List.set_cons_zero, List.set_cons_succ]
      refine wpAnyH_take (i := 29) (oi := ?o29) (v := undef) ?hi29 (by kernel_rfl) (by kernel_rfl) (by kernel_rfl) (fun _ _ _ h => h) ?hy29 hHeld2 ?rest29
      case hi29 => simp only [List.getElem?_toArray, List.getElem?_cons_zero, List.getElem?_cons_succ]; first | done | rfl
      case hy29 => exact Or.inr ⟨by rfl, rfl⟩
      try simp only [Act.put, List.setIfInBounds_toArray, List.set_cons_zero, List.set_cons_succ]
      refine wpAnyH_take (i := 30) (oi := ?o30) (v := undef) ?hi30 (by kernel_rfl) (by kernel_rfl) (by kernel_rfl) (fun _ _ _ h => h) ?hy30 hHeld2 ?rest30
      case hi30 => simp only [List.getElem?_toArray, List.getElem?_cons_zero, List.getElem?_cons_succ]; first | done | rfl
      case hy30 => exact Or.inr ⟨by rfl, rfl⟩
      try simp only [Act.put, List.setIfInBounds_toArray, List.set_cons_zero, List.set_cons_succ]
      refine wpAnyH_take (i := 31) (oi := ?o31) (v := undef) ?hi31 (by kernel_rfl) (by kernel_rfl) (by kernel_rfl) (fun _ _ _ h => h) ?hy31 hHeld2 ?rest31
      case hi31 => simp only [List.getElem?_toArray, List.getElem?_cons_zero, List.getElem?_cons_succ]; first | done | rfl
      case hy31 => exact Or.inr ⟨by rfl, rfl⟩
      try simp only [Act.put, List.setIfInBounds_toArray, List.set_cons_zero, List.set_cons_succ]
      refine wpAnyH_take (i := 32) (oi := ?o32) (v := undef) ?hi32 (by kernel_rfl) (by kernel_rfl) (by kernel_rfl) (fun _ _ _ h => h) ?hy32 hHeld2 ?rest32
      case hi32 => simp only [List.getElem?_toArray, List.getElem?_cons_zero, List.getElem?_cons_succ]; first | done | rfl
      case hy32 => exact Or.inr ⟨by rfl, rfl⟩
      try simp only [Act.put, List.setIfInBounds_toArray, List.set_cons_zero, List.set_cons_succ]
      refine wpAnyH_take (i := 33) (oi := ?o33) (v := undef) ?hi33 (by kernel_rfl) (by kernel_rfl) (by kernel_rfl) (fun _ _ _ h => h) ?hy33 hHeld2 ?rest33
      case hi33 => simp only [List.getElem?_toArray, List.getElem?_cons_zero, List.getElem?_cons_succ]; first | done | rfl
      case hy33 => exact Or.inr ⟨by rfl, rfl⟩
      try simp only [Act.put, List.setIfInBounds_toArray, List.set_cons_zero, List.set_cons_succ]
      refine wpAnyH_take (i := 34) (oi := ?o34) (v := undef) ?hi34 (by kernel_rfl) (by kernel_rfl) (by kernel_rfl) (fun _ _ _ h => h) ?hy34 hHeld2 ?rest34
      case hi34 => simp only [List.getElem?_toArray, List.getElem?_cons_zero, List.getElem?_cons_succ]; first | done | rfl
      case hy34 => exact Or.inr ⟨by rfl, rfl⟩
      try simp only [Act.put, List.setIfInBounds_toArray, List.set_cons_zero, List.set_cons_succ]
      refine wpAnyH_take (i := 35) (oi := ?o35) (v := undef) ?hi35 (by kernel_rfl) (by kernel_rfl) (by kernel_rfl) (fun _ _ _ h => h) ?hy35 hHeld2 ?rest35
      case hi35 => simp only [List.getElem?_toArray, List.getElem?_cons_zero, List.getElem?_cons_succ]; first | done | rfl
      case hy35 => exact Or.inr ⟨by rfl, rfl⟩
      try simp only [Act.put, List.setIfInBounds_toArray, List.set_cons_zero, List.set_cons_succ]
      refine wpAnyH_take (i := 36) (oi := ?o36) (v := undef) ?hi36 (by kernel_rfl) (by kernel_rfl) (by kernel_rfl) (fun _ _ _ h => h) ?hy36 hHeld2 ?rest36
      case hi36 => simp only [List.getElem?_toArray, List.getElem?_cons_zero, List.getElem?_cons_succ]; first | done | rfl
      case hy36 => exact Or.inr ⟨by rfl, rfl⟩
      try simp only [Act.put, List.setIfInBounds_toArray, List.set_cons_zero, List.set_cons_succ]
      refine wpAnyH_take (i := 37) (oi := ?o37) (v := undef) ?hi37 (by kernel_rfl) (by kernel_rfl) (by kernel_rfl) (fun _ _ _ h => h) ?hy37 hHeld2 ?rest37
      case hi37 => simp only [List.getElem?_toArray, List.getElem?_cons_zero, List.getElem?_cons_succ]; first | done | rfl
      case hy37 => exact Or.inr ⟨by rfl, rfl⟩
      try simp only [Act.put, List.setIfInBounds_toArray, List.set_cons_zero, List.set_cons_succ]
      refine wpAnyH_take (i := 38) (oi := ?o38) (v := undef) ?hi38 (by kernel_rfl) (by kernel_rfl) (by kernel_rfl) (fun _ _ _ h => h) ?hy38 hHeld2 ?rest38
      case hi38 => simp only [List.getElem?_toArray, List.getElem?_cons_zero, List.getElem?_cons_succ]; first | done | rfl
      case hy38 => exact Or.inr ⟨by rfl, rfl⟩
      try simp only [Act.put, List.setIfInBounds_toArray, List.set_cons_zero, List.set_cons_succ]
      refine wpAnyH_take (i := 39) (oi := ?o39) (v := .bool true) ?hi39 (by kernel_rfl) (by kernel_rfl) (by kernel_rfl) (fun _ _ _ h => h) ?hy39 hHeld2 ?rest39
      case hi39 => simp only [List.getElem?_toArray, List.getElem?_cons_zero, List.getElem?_cons_succ]; first | done | rfl
      case hy39 => exact Or.inl ⟨by rfl, by intro V hV; obtain ⟨s0, s1, s2, s3, s4, s5, s6, s7, s8, s9, s10⟩ := hV; go_simp⟩
      try simp only [Act.put, List.setIfInBounds_toArray, List.set_cons_zero, List.set_cons_succ]
      refine wpAnyH_done (by kernel_rfl) ?_ _
      refine NoPanic.normal ?_
      have HSIT3 : Hid (sit (J + 1 + 1 + 1) J (J + 1) (J + 1 + 1) w3 ⟨A, B, p, n, c, l, pb, nb, cb, lb, qs, ls.length, es, ls, qm, lm.length, em, lm, (some ⟨gt, 0, none⟩), lt.length, et, lt, N, T⟩ ⟨1, dw, dx, dy, da⟩) := sit_below HSIT.out (hHeld2.1)
      have HB3 : Hid (Below w.heap.size w w3) := below_call HB2.out HB2.out.size (hHeld2.1)
      clear z0 z1 z2 z3 z4 z5 z6 z7 z8 q0 q1 q2 q3 q4 t2 t3 t4 t6
      obtain ⟨ra, rb, rc, rd, re, rf, rg, rh, ri, hrr⟩ := HSIT3.out.r
      obtain ⟨u9, hu9⟩ : ∃ u9, (((((((((w3.setCell ⟨J + 1 + 1, 0, none⟩ (.int .i64 A)).setCell ⟨J + 1 + 1, 1, none⟩ (.int .i64 B)).setCell ⟨J + 1 + 1, 2, none⟩ (.slice p n c)).setCell ⟨J + 1 + 1, 3, none⟩ (.slice pb nb cb)).setCell ⟨J + 1 + 1, 4, none⟩ (.slice qs ls.length es)).setCell ⟨J + 1 + 1, 5, none⟩ (.slice qm lm.length em)).setCell ⟨J + 1 + 1, 6, none⟩ (.slice (some ⟨gt, 0, none⟩) lt.length et)).setCell ⟨J + 1 + 1, 7, none⟩ (.int .i64 N)).setCell ⟨J + 1 + 1, 8, none⟩ (.int .i64 T)) = u9 := ⟨_, rfl⟩
      obtain ⟨x9, e9⟩ := set9 hrr hu9.symm
      have HF9 : Hid (sown w.heap.size u9 ⟨A, B, p, n, c, l, pb, nb, cb, lb, qs, ls.length, es, ls, qm, lm.length, em, lm, (some ⟨gt, 0, none⟩), lt.length, et, lt, N, T⟩ ∧ Below w.heap.size w u9) := ⟨sown_mono (sown_ex HSIT3.out.o e9 (by intro g hg; omega)) (by have := HS0.out.2; omega), HB3.out.trans (e9.below HB3.out.size (by intro k hk; have := HS0.out.2; omega))⟩
      obtain ⟨y0, y1, y2, y3, y4, y5, y6, y7, y8⟩ := bx9_c9 x9
      obtain ⟨o0, o1, o2, o3, o4, o5, o6, o7, o8⟩ := bx9_c9 hrr
      have fr0 := bx9_free hrr 0
      have fr1 := bx9_free hrr 1
      have fr2 := bx9_free hrr 2
      have fr3 := bx9_free hrr 3
      have fr4 := bx9_free hrr 4
      have fr5 := bx9_free hrr 5
      have fr6 := bx9_free hrr 6
      have fr7 := bx9_free hrr 7
      have fr8 := bx9_free hrr 8
      obtain ⟨z0, z1, z2, z3, z4, z5, z6, z7, z8⟩ := bx9_c9 HSIT3.out.x
      clear hrr x9 e9
      go_wp2_with fail
      refine ⟨by simp, .tuple #[.agg #[.int .i64 A, .int .i64 B, .slice p n c, .slice pb nb cb, .slice qs ls.length es, .slice qm lm.length em, .slice (some ⟨gt, 0, none⟩) lt.length et, .int .i64 N, .int .i64 T], .bool false], ?_, ⟨⟨A, B, p, n, c, l, pb, nb, cb, lb, qs, ls.length, es, ls, qm, lm.length, em, lm, (some ⟨gt, 0, none⟩), lt.length, et, lt, N, T⟩, false, rfl, ⟨rfl, rfl, rfl, rfl, rfl, rfl, rfl, rfl, rfl, rfl, rfl⟩, ?_, ds_mine rfl (.inr ⟨rfl, rfl, fun k t hk e hc => by have h1 := hc.1; rw [HIB.out] at h1; cases h1⟩)⟩, ?_⟩
      · simp [results, Try.results38, go_sem, y0, y1, y2, y3, y4, y5, y6, y7, y8]
      · first | exact HF9.out.1 | (rw [← HS0.out.2]; exact HF9.out.1)
      · first | exact HF9.out.2 | (rw [← HS0.out.2]; exact HF9.out.2)
    | true =>
      go_wp2_with fail
      go_region_held3 (fun U => Below w2.heap.size w2 U ∧ U.cell? ⟨J, 0, none⟩ = some (.int .i64 A) ∧ U.cell? ⟨J, 1, none⟩ = some (.int .i64 B) ∧ U.cell? ⟨J, 2, none⟩ = some (.slice p n c) ∧ U.cell? ⟨J, 6, none⟩ = some (.slice (some ⟨gt, 0, none⟩) lt.length et) ∧ U.cell? ⟨J + 1, 2, none⟩ = some (.int .i64 dx) ∧ U.cell? ⟨J + 1, 3, none⟩ = some (.int .i64 dy) ∧ U.cell? ⟨gt, k * 7 + 2, none⟩ = some (.int .i64 1) ∧ U.cell? ⟨gt, k * 7 + 3, none⟩ = some (.int .i64 tx) ∧ U.cell? ⟨gt, k * 7 + 4, none⟩ = some (.int .i64 ty) ∧ U.cell? ⟨gt, k * 7 + 6, none⟩ = some (.int .i64 td)) (first | with_reducible assumption | with_reducible exact k10_drew (by assumption) | with_reducible exact k10_call (by assumption) (by assumption) | exact ⟨Below.drew (Below.refl _ _), z0, z1, z2, z6, q2, q3, t2, t3, t4, t6⟩) (first | (go_at_call 48; with_reducible refine (HIN.out _).mono ?_; rintro e w4 ⟨rfl, hb4⟩) | (go_at_call 52; with_reducible refine (HKG.out _).mono ?_; rintro e w3 ⟨rfl, hb3⟩))
      have hb23 : Below w2.heap.size w2 w3 := below_step ((Below.refl _ _).drew.trans hb4) (((Below.refl _ _).drew.trans hb4)).size hb3
      have HSIT3 : Hid (sit (J + 1 + 1 + 1) J (J + 1) (J + 1 + 1) w3 ⟨A, B, p, n, c, l, pb, nb, cb, lb, qs, ls.length, es, ls, qm, lm.length, em, lm, (some ⟨gt, 0, none⟩), lt.length, et, lt, N, T⟩ ⟨1, dw, dx, dy, da⟩) := sit_below HSIT.out (hb23)
      have HB3 : Hid (Below w.heap.size w w3) := below_call HB2.out HB2.out.size (hb23)
      clear hb4 hb3 hb23 z0 z1 z2 z3 z4 z5 z6 z7 z8 q0 q1 q2 q3 q4 t2 t3 t4 t6
      cases nr with
      | false =>
        obtain ⟨ra, rb, rc, rd, re, rf, rg, rh, ri, hrr⟩ := HSIT3.out.r
        obtain ⟨u9, hu9⟩ : ∃ u9, (((((((((w3.setCell ⟨J + 1 + 1, 0, none⟩ (.int .i64 A)).setCell ⟨J + 1 + 1, 1, none⟩ (.int .i64 B)).setCell ⟨J + 1 + 1, 2, none⟩ (.slice p n c)).setCell ⟨J + 1 + 1, 3, none⟩ (.slice pb nb cb)).setCell ⟨J + 1 + 1, 4, none⟩ (.slice qs ls.length es)).setCell ⟨J + 1 + 1, 5, none⟩ (.slice qm lm.length em)).setCell ⟨J + 1 + 1, 6, none⟩ (.slice (some ⟨gt, 0, none⟩) lt.length et)).setCell ⟨J + 1 + 1, 7, none⟩ (.int .i64 N)).setCell ⟨J + 1 + 1, 8, none⟩ (.int .i64 T)) = u9 := ⟨_, rfl⟩
        obtain ⟨x9, e9⟩ := set9 hrr hu9.symm
        have HF9 : Hid (sown w.heap.size u9 ⟨A, B, p, n, c, l, pb, nb, cb, lb, qs, ls.length, es, ls, qm, lm.length, em, lm, (some ⟨gt, 0, none⟩), lt.length, et, lt, N, T⟩ ∧ Below w.heap.size w u9) := ⟨sown_mono (sown_ex HSIT3.out.o e9 (by intro g hg; omega)) (by have := HS0.out.2; omega), HB3.out.trans (e9.below HB3.out.size (by intro k hk; have := HS0.out.2; omega))⟩
        obtain ⟨y0, y1, y2, y3, y4, y5, y6, y7, y8⟩ := bx9_c9 x9
        obtain ⟨o0, o1, o2, o3, o4, o5, o6, o7, o8⟩ := bx9_c9 hrr
        have fr0 := bx9_free hrr 0
        have fr1 := bx9_free hrr 1
        have fr2 := bx9_free hrr 2
        have fr3 := bx9_free hrr 3
        have fr4 := bx9_free hrr 4
        have fr5 := bx9_free hrr 5
        have fr6 := bx9_free hrr 6
        have fr7 := bx9_free hrr 7
        have fr8 := bx9_free hrr 8
        obtain ⟨z0, z1, z2, z3, z4, z5, z6, z7, z8⟩ := bx9_c9 HSIT3.out.x
        clear hrr x9 e9
        go_wp2_with fail
        refine ⟨by simp, .tuple #[.agg #[.int .i64 A, .int .i64 B, .slice p n c, .slice pb nb cb, .slice qs ls.length es, .slice qm lm.length em, .slice (some ⟨gt, 0, none⟩) lt.length et, .int .i64 N, .int .i64 T], .bool false], ?_, ⟨⟨A, B, p, n, c, l, pb, nb, cb, lb, qs, ls.length, es, ls, qm, lm.length, em, lm, (some ⟨gt, 0, none⟩), lt.length, et, lt, N, T⟩, false, rfl, ⟨rfl, rfl, rfl, rfl, rfl, rfl, rfl, rfl, rfl, rfl, rfl⟩, ?_, ds_mine rfl (.inr ⟨rfl, rfl, fun k t hk e hc => by
          have h1 := HONE.out k t hk e
          have h2 := hc.2.2.2.2
          rw [h1] at h2
          have h3 := HKB.out
          simp only [decide_eq_false_iff_not] at h3
          exact h3 h2⟩)⟩, ?_⟩
        · simp [results, Try.results38, go_sem, y0, y1, y2, y3, y4, y5, y6, y7, y8]
        · first | exact HF9.out.1 | (rw [← HS0.out.2]; exact HF9.out.1)
        · first | exact HF9.out.2 | (rw [← HS0.out.2]; exact HF9.out.2)
      | true =>
        obtain ⟨X, Y, hdx, hdy, hX, hY⟩ := inb_nat HIB.out
        obtain ⟨YW, hYW⟩ : ∃ k : Nat, Y * W = k := ⟨_, rfl⟩
        have hWHb := wh_le HOK.out.1.f.1 HOK.out.1.f.2.1
        have hml : lm.length = W * H := by
          have h1 : lm.length = l.length := HOK.out.1.mn.1
          rw [h1]; exact HOK.out.1.f.2.2.1
        obtain ⟨I, hI⟩ : ∃ I, YW + X = I := ⟨_, rfl⟩
        have hIl : I < lm.length := by rw [hml, ← hI, ← hYW]; exact place_lt hX hY
        have hmul : dy * A = (YW : Int) := by
          have hA : A = W := HOK.out.2.1
          rw [hA, hdy, ← hYW]; simp
        have hadd : (YW : Int) + dx = (I : Int) := by omega
        have HIX2 : Hid (ixp W dx dy = I) := by unfold Hid ixp; rw [hdx, hdy, ← hI, ← hYW]; simp
        obtain ⟨gm, rfl, m1, m2, m3, m4⟩ := own_cell HSIT3.out.o.km hIl
        obtain ⟨M, hM⟩ : ∃ M, lm.getD I 0 = M := ⟨_, rfl⟩
        have hMb : 0 ≤ M ∧ M ≤ 1000000 := by rw [← hM]; exact am_at HOK.out.1.mn.2.1 I
        rw [hM] at m1
        have HMM : Hid (lm.getD I 0 = M) := hM
        obtain ⟨q0, q1, q2, q3, q4⟩ := bxd_cells HSIT3.out.d
        obtain ⟨z0, z1, z2, z3, z4, z5, z6, z7, z8⟩ := bx9_c9 HSIT3.out.x
        simp only at q0 q1 q2 q3 q4
        have iN : (I : Int) < (lm.length : Int) := by omega
        have i0 : (0 : Int) ≤ I := by omega
        have b1 : YW ≤ 1600 := by omega
        have b2 : I ≤ 1600 := by omega
        clear hYW hI hM m3 m4 hml hWHb hX hY hdx hdy
        by_cases hM0 : M = 0
        · have dM : decide (M < 1) = true := by simp; omega
          clear z0 z1 z2 z3 z4 z5 z6 z7 z8
          obtain ⟨ra, rb, rc, rd, re, rf, rg, rh, ri, hrr⟩ := HSIT3.out.r
          obtain ⟨u9, hu9⟩ : ∃ u9, (((((((((w3.setCell ⟨J + 1 + 1, 0, none⟩ (.int .i64 A)).setCell ⟨J + 1 + 1, 1, none⟩ (.int .i64 B)).setCell ⟨J + 1 + 1, 2, none⟩ (.slice p n c)).setCell ⟨J + 1 + 1, 3, none⟩ (.slice pb nb cb)).setCell ⟨J + 1 + 1, 4, none⟩ (.slice qs ls.length es)).setCell ⟨J + 1 + 1, 5, none⟩ (.slice (some ⟨gm, 0, none⟩) lm.length em)).setCell ⟨J + 1 + 1, 6, none⟩ (.slice (some ⟨gt, 0, none⟩) lt.length et)).setCell ⟨J + 1 + 1, 7, none⟩ (.int .i64 N)).setCell ⟨J + 1 + 1, 8, none⟩ (.int .i64 T)) = u9 := ⟨_, rfl⟩
          obtain ⟨x9, e9⟩ := set9 hrr hu9.symm
          have HF9 : Hid (sown w.heap.size u9 ⟨A, B, p, n, c, l, pb, nb, cb, lb, qs, ls.length, es, ls, (some ⟨gm, 0, none⟩), lm.length, em, lm, (some ⟨gt, 0, none⟩), lt.length, et, lt, N, T⟩ ∧ Below w.heap.size w u9) := ⟨sown_mono (sown_ex HSIT3.out.o e9 (by intro g hg; omega)) (by have := HS0.out.2; omega), HB3.out.trans (e9.below HB3.out.size (by intro k hk; have := HS0.out.2; omega))⟩
          obtain ⟨y0, y1, y2, y3, y4, y5, y6, y7, y8⟩ := bx9_c9 x9
          obtain ⟨o0, o1, o2, o3, o4, o5, o6, o7, o8⟩ := bx9_c9 hrr
          have fr0 := bx9_free hrr 0
          have fr1 := bx9_free hrr 1
          have fr2 := bx9_free hrr 2
          have fr3 := bx9_free hrr 3
          have fr4 := bx9_free hrr 4
          have fr5 := bx9_free hrr 5
          have fr6 := bx9_free hrr 6
          have fr7 := bx9_free hrr 7
          have fr8 := bx9_free hrr 8
          obtain ⟨z0, z1, z2, z3, z4, z5, z6, z7, z8⟩ := bx9_c9 HSIT3.out.x
          clear hrr x9 e9
          go_wp2_with fail
          refine ⟨by simp, .tuple #[.agg #[.int .i64 A, .int .i64 B, .slice p n c, .slice pb nb cb, .slice qs ls.length es, .slice (some ⟨gm, 0, none⟩) lm.length em, .slice (some ⟨gt, 0, none⟩) lt.length et, .int .i64 N, .int .i64 T], .bool false], ?_, ⟨⟨A, B, p, n, c, l, pb, nb, cb, lb, qs, ls.length, es, ls, (some ⟨gm, 0, none⟩), lm.length, em, lm, (some ⟨gt, 0, none⟩), lt.length, et, lt, N, T⟩, false, rfl, ⟨rfl, rfl, rfl, rfl, rfl, rfl, rfl, rfl, rfl, rfl, rfl⟩, ?_, ds_mine rfl (.inr ⟨rfl, rfl, fun k t hk e hc => hc.2.1 (by show lm.getD (ixp W dx dy) 0 = 0; rw [HIX2.out, HMM.out, hM0])⟩)⟩, ?_⟩
          · simp [results, Try.results38, go_sem, y0, y1, y2, y3, y4, y5, y6, y7, y8]
          · first | exact HF9.out.1 | (rw [← HS0.out.2]; exact HF9.out.1)
          · first | exact HF9.out.2 | (rw [← HS0.out.2]; exact HF9.out.2)
        · have dM : decide (M < 1) = false := by simp; omega
          obtain ⟨V1, hV1⟩ : ∃ V1, w3.setCell ⟨gm, I, none⟩ (.int .i64 (M - 1)) = V1 := ⟨_, rfl⟩
          have HS4 : Hid (sit (J + 1 + 1 + 1) J (J + 1) (J + 1 + 1) V1 ⟨A, B, p, n, c, l, pb, nb, cb, lb, qs, ls.length, es, ls, (some ⟨gm, 0, none⟩), lm.length, em, (lm.set I (M - 1)), (some ⟨gt, 0, none⟩), lt.length, et, lt, N, T⟩ ⟨1, dw, dx, dy, da⟩) := by unfold Hid; rw [← hV1]; exact sit_lm HSIT3.out rfl I (M - 1)
          obtain ⟨g1, hg1, ⟨u0, u1, u2, u3, u4, u5, u6⟩, uf, uC, ul⟩ := own_tcell HS4.out.o.kt HKT.out
          obtain rfl : gt = g1 := by simpa using hg1
          obtain ⟨V2, hV2⟩ : ∃ V2, V1.setCell ⟨gt, k * 7 + 6, none⟩ (.int .i64 (td + 1)) = V2 := ⟨_, rfl⟩
          have HS5 : Hid (sit (J + 1 + 1 + 1) J (J + 1) (J + 1 + 1) V2 ⟨A, B, p, n, c, l, pb, nb, cb, lb, qs, ls.length, es, ls, (some ⟨gm, 0, none⟩), lm.length, em, (lm.set I (M - 1)), (some ⟨gt, 0, none⟩), lt.length, et, (lt.set k (Trp.load ⟨ti, to_, 1, tx, ty, tf, td⟩ (td + 1))), N, T⟩ ⟨1, dw, dx, dy, da⟩) := by unfold Hid; rw [← hV2]; exact sit_load HS4.out rfl HKT.out (td + 1)
          have HB5 : Hid (Below w.heap.size w V2) := by
            unfold Hid
            rw [← hV2, ← hV1]
            have h1 := (own_cell HSIT3.out.o.km (j := I) hIl)
            obtain ⟨g2, hg2, _, _, hC2, _⟩ := h1
            obtain rfl : gm = g2 := by simpa using hg2
            have h2 := HS0.out.2
            have h3 := (own_tcell HSIT3.out.o.kt HKT.out)
            obtain ⟨g3, hg3, _, _, hC3, _⟩ := h3
            obtain rfl : gt = g3 := by simpa using hg3
            exact (HB3.out.setCell (p := ⟨gm, I, none⟩) (by show w.heap.size ≤ gm; omega) _).setCell (p := ⟨gt, k * 7 + 6, none⟩) (by show w.heap.size ≤ gt; omega) _
          obtain ⟨v0, v1, v2, v3, v4, v5, v6, v7, v8⟩ := bx9_c9 HS4.out.x
          simp only at u6
          clear hg1 u0 u1 u2 u3 u4 u5 uC ul
          obtain ⟨ra, rb, rc, rd, re, rf, rg, rh, ri, hrr⟩ := HS5.out.r
          obtain ⟨u9, hu9⟩ : ∃ u9, (((((((((V2.setCell ⟨J + 1 + 1, 0, none⟩ (.int .i64 A)).setCell ⟨J + 1 + 1, 1, none⟩ (.int .i64 B)).setCell ⟨J + 1 + 1, 2, none⟩ (.slice p n c)).setCell ⟨J + 1 + 1, 3, none⟩ (.slice pb nb cb)).setCell ⟨J + 1 + 1, 4, none⟩ (.slice qs ls.length es)).setCell ⟨J + 1 + 1, 5, none⟩ (.slice (some ⟨gm, 0, none⟩) lm.length em)).setCell ⟨J + 1 + 1, 6, none⟩ (.slice (some ⟨gt, 0, none⟩) lt.length et)).setCell ⟨J + 1 + 1, 7, none⟩ (.int .i64 N)).setCell ⟨J + 1 + 1, 8, none⟩ (.int .i64 T)) = u9 := ⟨_, rfl⟩
          obtain ⟨x9, e9⟩ := set9 hrr hu9.symm
          have HF9 : Hid (sown w.heap.size u9 ⟨A, B, p, n, c, l, pb, nb, cb, lb, qs, ls.length, es, ls, (some ⟨gm, 0, none⟩), lm.length, em, (lm.set I (M - 1)), (some ⟨gt, 0, none⟩), lt.length, et, (lt.set k (Trp.load ⟨ti, to_, 1, tx, ty, tf, td⟩ (td + 1))), N, T⟩ ∧ Below w.heap.size w u9) := ⟨sown_mono (sown_ex HS5.out.o e9 (by intro g hg; omega)) (by have := HS0.out.2; omega), HB5.out.trans (e9.below HB5.out.size (by intro k hk; have := HS0.out.2; omega))⟩
          obtain ⟨y0, y1, y2, y3, y4, y5, y6, y7, y8⟩ := bx9_c9 x9
          obtain ⟨o0, o1, o2, o3, o4, o5, o6, o7, o8⟩ := bx9_c9 hrr
          have fr0 := bx9_free hrr 0
          have fr1 := bx9_free hrr 1
          have fr2 := bx9_free hrr 2
          have fr3 := bx9_free hrr 3
          have fr4 := bx9_free hrr 4
          have fr5 := bx9_free hrr 5
          have fr6 := bx9_free hrr 6
          have fr7 := bx9_free hrr 7
          have fr8 := bx9_free hrr 8
          obtain ⟨s0, s1, s2, s3, s4, s5, s6, s7, s8⟩ := bx9_c9 HS5.out.x
          clear hrr x9 e9
          go_wp2_with fail
          refine ⟨by simp, .tuple #[.agg #[.int .i64 A, .int .i64 B, .slice p n c, .slice pb nb cb, .slice qs ls.length es, .slice (some ⟨gm, 0, none⟩) lm.length em, .slice (some ⟨gt, 0, none⟩) lt.length et, .int .i64 N, .int .i64 T], .bool true], ?_, ⟨⟨A, B, p, n, c, l, pb, nb, cb, lb, qs, ls.length, es, ls, (some ⟨gm, 0, none⟩), lm.length, em, (lm.set I (M - 1)), (some ⟨gt, 0, none⟩), lt.length, et, (lt.set k (Trp.load ⟨ti, to_, 1, tx, ty, tf, td⟩ (td + 1))), N, T⟩, true, rfl, ⟨rfl, rfl, rfl, rfl, rfl, rfl, rfl, rfl, rfl, rfl, rfl⟩, ?_, ds_mine rfl (.inl ⟨rfl, k, _, HKT.out, HTI.out, ⟨HIB.out, by show lm.getD (ixp W dx dy) 0 ≠ 0; rw [HIX2.out, HMM.out]; exact hM0, rfl, by show td < 5; omega, by have := HKB.out; simpa using this⟩, by show _ = mineS _ _ (ixp W dx dy) _ (lm.getD (ixp W dx dy) 0); rw [HIX2.out, HMM.out]; rfl⟩)⟩, ?_⟩
          · simp [results, Try.results38, go_sem, y0, y1, y2, y3, y4, y5, y6, y7, y8]
          · first | exact HF9.out.1 | (rw [← HS0.out.2]; exact HF9.out.1)
          · first | exact HF9.out.2 | (rw [← HS0.out.2]; exact HF9.out.2)
end Go.Proofs.Ytdcjjfipnilmpaa
