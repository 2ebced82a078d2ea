/- What Deeded tells of a Load that is brought in. -/
import Derived.Test.YtdcjjfipnilmpaaME
import Derived.Test.YtdcjjfipnilmpaaMR
import Derived.Deep.RegionHeld3
import Derived.Deep.DrawnRows
import Derived.RegionTactic
namespace Go.Proofs.Ytdcjjfipnilmpaa
open Go.RowKit Go.Maps
set_option linter.unusedVariables false

theorem kg_symm (x y u v : Int) : kg x y u v = kg u v x y := by
  have h : ∀ a b : Int, ds a b = ds b a := fun a b => by unfold ds; split <;> split <;> omega
  unfold kg
  rw [h x u, h y v]
theorem set_same' {α : Type} {L : List α} {k : Nat} {x : α} (h : L[k]? = some x) : L.set k x = L := by
  obtain ⟨hk, rfl⟩ := List.getElem?_eq_some_iff.1 h
  exact List.set_getElem_self hk
theorem getD_some {L : List Int} {k : Nat} (h : k < L.length) : L[k]? = some (L.getD k 0) := by
  rw [List.getD_eq_getElem?_getD, List.getElem?_eq_getElem h]; rfl
set_option maxRecDepth 40000 in
set_option maxHeartbeats 16000000 in
theorem Deeded_drop (s : Wld) (W H : Nat) (d : Ded) (w : World) (h : s.fit w) (hk : okw s W H) (hd : fitd d) (hk1 : d.k = 2) :
    Calls Try.prog 38 #[s.val, dv d] w fun e w' => dres w.heap.size s (fun s' r => Ds W H s.l s.lb s.shp d s' r) e w' ∧ Below w.heap.size w w' := by
  have HK : Hid (d.k = 2) := hk1
  clear hk1
  have HOK : Hid (oks W H s.l s.lb s.shp ∧ s.A = W ∧ s.B = H) := ⟨okw_oks hk h.hb h.ht, hk.a, hk.b⟩
  have HPB : Hid (row vi w s.p s.l ∧ s.l.length = s.n ∧ crow w s.pb s.lb ∧ s.lb.length = s.nb) := ⟨h.r, h.h, h.rb, h.hb⟩
  have HC1 : Hid (∀ V, Below w.heap.size w V → Calls Try.prog 24 #[.slice s.ps s.ns s.cs] V fun e w' => (∃ v, e = .returned v ∧ w'.ownsRow V.heap.size 3 1 v s.ls.length (s.ls.map vi)) ∧ Below V.heap.size V w') := fun V hV => by
    refine (Clonei_any s.ps s.ns s.cs s.ls V (row_below h.rs hV) h.hs (by have := HOK.out.1.pl.1; have := HOK.out.1.nb; have := h.hs; have e : s.shp.ls.length = s.ls.length := rfl; omega)).mono ?_
    rintro e w' ⟨⟨v, rfl, hv, _⟩, hb⟩
    exact ⟨⟨v, rfl, hv⟩, hb⟩
  have HC2 : Hid (∀ V, Below w.heap.size w V → Calls Try.prog 24 #[.slice s.pm s.nm s.cm] V fun e w' => (∃ v, e = .returned v ∧ w'.ownsRow V.heap.size 3 1 v s.lm.length (s.lm.map vi)) ∧ Below V.heap.size V w') := fun V hV => by
    refine (Clonei_any s.pm s.nm s.cm s.lm V (row_below h.rm hV) h.hm (by
      have h1 := HOK.out.1.mn.1
      have h2 := HOK.out.1.f.2.2.1
      have h3 := wh_le HOK.out.1.f.1 HOK.out.1.f.2.1
      have h4 := h.hm
      have e : s.shp.lm.length = s.lm.length := rfl
      omega)).mono ?_
    rintro e w' ⟨⟨v, rfl, hv, _⟩, hb⟩
    exact ⟨⟨v, rfl, hv⟩, hb⟩
  have HC3 : Hid (∀ V, Below w.heap.size w V → Calls Try.prog 23 #[.slice s.pt s.nt s.ct] V fun e w' => (∃ v, e = .returned v ∧ w'.ownsRow V.heap.size 47 7 v s.lt.length (flat7 s.lt)) ∧ Below V.heap.size V w') := fun V hV => by
    refine (Clonet_any s.pt s.nt s.ct s.lt V (trow_below h.rt hV) h.ht (by have := HOK.out.1.nt; have := h.ht; have e : s.shp.lt.length = s.lt.length := rfl; omega)).mono ?_
    rintro e w' ⟨⟨v, rfl, hv, _⟩, hb⟩
    exact ⟨⟨v, rfl, hv⟩, hb⟩
  have HFD : Hid (fitd d) := hd
  clear h hk hd
  obtain ⟨A, B, p, n, c, l, pb, nb, cb, lb, ps, ns, cs, ls, pm, nm, cm, lm, pt, nt, ct, lt, N, T⟩ := s
  obtain ⟨dk, dw, dx, dy, da⟩ := d
  unfold Wld.val dv
  dsimp only at *
  obtain ⟨J, hJ⟩ : ∃ J, w.heap.size = J := ⟨_, rfl⟩
  obtain ⟨w0, hw0⟩ : ∃ w0, ((w.alloc (.cells #[.int .i64 A, .int .i64 B, .slice p n c, .slice pb nb cb, .slice ps ns cs, .slice pm nm cm, .slice pt nt ct, .int .i64 N, .int .i64 T] 28)).alloc (.cells #[.int .i64 dk, .int .i64 dw, .int .i64 dx, .int .i64 dy, .int .i64 da] 52)).alloc (.cells #[.int .i64 0, .int .i64 0, .slice none 0 0, .slice none 0 0, .slice none 0 0, .slice none 0 0, .slice none 0 0, .int .i64 0, .int .i64 0] 28) = w0 := ⟨_, rfl⟩
  have hB0 : Below w.heap.size w w0 := by rw [← hw0]; exact ((alloc_below w _).alloc (by simp) _).alloc (by simp; omega) _
  have hx0 : bx9 w0 J (.int .i64 A) (.int .i64 B) (.slice p n c) (.slice pb nb cb) (.slice ps ns cs) (.slice pm nm cm) (.slice pt nt ct) (.int .i64 N) (.int .i64 T) := by
    rw [← hw0, ← hJ]
    exact bx9_below (bx9_below (box9_new w _ _ _ _ _ _ _ _ _) (alloc_below _ _)) (alloc_below _ _)
  have hd0 : bxd w0 (J + 1) ⟨dk, dw, dx, dy, da⟩ := by
    rw [← hw0, ← hJ]
    refine bxd_ex (S := fun _ => False) ?_ (Ex.of_below (alloc_below _ _)) (fun e => e)
    have := World.alloc_heap_new (w.alloc (.cells #[.int .i64 A, .int .i64 B, .slice p n c, .slice pb nb cb, .slice ps ns cs, .slice pm nm cm, .slice pt nt ct, .int .i64 N, .int .i64 T] 28)) (.cells #[.int .i64 dk, .int .i64 dw, .int .i64 dx, .int .i64 dy, .int .i64 da] 52)
    rw [World.size_alloc] at this
    exact this
  have hr0 : bx9 w0 (J + 1 + 1) (.int .i64 0) (.int .i64 0) (.slice none 0 0) (.slice none 0 0) (.slice none 0 0) (.slice none 0 0) (.slice none 0 0) (.int .i64 0) (.int .i64 0) := by
    rw [← hw0, ← hJ]
    have := box9_new ((w.alloc (.cells #[.int .i64 A, .int .i64 B, .slice p n c, .slice pb nb cb, .slice ps ns cs, .slice pm nm cm, .slice pt nt ct, .int .i64 N, .int .i64 T] 28)).alloc (.cells #[.int .i64 dk, .int .i64 dw, .int .i64 dx, .int .i64 dy, .int .i64 da] 52)) (.int .i64 0) (.int .i64 0) (.slice none 0 0) (.slice none 0 0) (.slice none 0 0) (.slice none 0 0) (.slice none 0 0) (.int .i64 0) (.int .i64 0)
    rw [World.size_alloc, World.size_alloc] at this
    exact this
  have hs0 : w0.heap.size = J + 1 + 1 + 1 := by rw [← hw0, World.size_alloc, World.size_alloc, World.size_alloc, hJ]
  have HB0 : Hid (Below w.heap.size w w0) := hB0
  have HS0 : Hid (w0.heap.size = J + 1 + 1 + 1 ∧ w.heap.size = J) := ⟨hs0, hJ⟩
  have HX0 : Hid (bx9 w0 J (.int .i64 A) (.int .i64 B) (.slice p n c) (.slice pb nb cb) (.slice ps ns cs) (.slice pm nm cm) (.slice pt nt ct) (.int .i64 N) (.int .i64 T)) := hx0
  have HD0 : Hid (bxd w0 (J + 1) ⟨dk, dw, dx, dy, da⟩ ∧ bx9 w0 (J + 1 + 1) (.int .i64 0) (.int .i64 0) (.slice none 0 0) (.slice none 0 0) (.slice none 0 0) (.slice none 0 0) (.slice none 0 0) (.int .i64 0) (.int .i64 0)) := ⟨hd0, hr0⟩
  have HUP : Hid (∀ V, Ex (fun g => g = J) w0 V → Below w.heap.size w V) := fun V hV => HB0.out.trans (hV.below HB0.out.size (fun k hk e => by have := HS0.out.2; omega))
  clear hB0 hx0 hd0 hr0 hs0
  go_enter Try.func38, Try.ntmps38
  go_wp2_with fail
  clear hw0
  refine regd1 J A B N T p pb ps pm pt n c nb cb ns cs nm cm nt ct ls lm lt w0 _ _ _ _ _ _ _ _ _ _ _ _ _ _ _ _ _ _ _ _ _ _ _ _ _ _ _ _ _ _ _ _ _ _ _ _ _ _ _ _ _ _ _ _ _ _ _ _ _ _ _ _ _ _ _ _ _ _ _ _ _ _ _ _ _ _ _ _ _ _ _ _ _ _ _ _ _ _ _ _ _ _ _ _ _ _ _ _ _ _ _ _ _ _ _ _ _ _ _ _ _ _ _ _ _ _ _ _ _ _ _ _ _ _ _ _ _ _ _ _ _ _ _ _ _ _ _ _ _ _ _ _ _ _ _ _ _ _ _ _ _ _ _ _ _ _ _ _ _ _ _ _ _ _ _ _ _ _ _ _ _ _ _ _ _ _ _ _ _ _ _ _ _ _ _ _ _ _ _ _ _ _ _ _ _ _ _ _ _ _ _ _ _ _ _ _ _ _ _ _ _ _ _ _ _ _ _ _ _ _ _ _ _ _ _ _ _ _ _ _ _ _ _ _ _ _ _ _ _ _ _ _ _ _ _ _ _ _ _ _ _ _ _ _ _ _ _ _ _ _ _ _ _ _ _ _ _ _ _ _ _ _ _ _ _ _ _ _ _ _ _ _ _ _ _ _ _ _ _ _ _ _ _ _ _ _ _ _ _ _ _ _ HX0.out (fun V hV => HC1.out V (HUP.out V hV)) (fun V hV => HC2.out V (HUP.out V hV)) (fun V hV => HC3.out V (HUP.out V hV)) ?_
  intro qs es qm em qt et w1 he hx os om ot ap
  obtain ⟨s1, hs1⟩ : ∃ s1 : Wld, s1 = ⟨A, B, p, n, c, l, pb, nb, cb, lb, qs, ls.length, es, ls, qm, lm.length, em, lm, qt, lt.length, et, lt, N, T⟩ := ⟨_, rfl⟩
  have HSIT1 : Hid (sit (J + 1 + 1 + 1) J (J + 1) (J + 1 + 1) w1 ⟨A, B, p, n, c, l, pb, nb, cb, lb, qs, ls.length, es, ls, qm, lm.length, em, lm, qt, lt.length, et, lt, N, T⟩ ⟨dk, dw, dx, dy, da⟩) := by
    rw [HS0.out.1] at os om ot
    exact ⟨hx, bxd_ex HD0.out.1 he (by omega), ⟨_, _, _, _, _, _, _, _, _, bx9_ex HD0.out.2 he (by omega)⟩, ⟨os, om, ot, ap⟩, by omega, by omega, by omega⟩
  have HB1 : Hid (Below w.heap.size w w1) := HUP.out w1 he
  clear he hx os om ot ap hs1
  obtain ⟨z0, z1, z2, z3, z4, z5, z6, z7, z8⟩ := bx9_c9 HSIT1.out.x
  have HIX : Hid (Calls Try.prog 50 #[.slice qt lt.length et, .func (.func 51) #[] #[.pointer (some ⟨J + 1, 0, none⟩)]] w1 fun e w' => (∃ r, e = .returned (.int .i64 r) ∧ Hid (fst1 (fun t => t.i == dw) lt r)) ∧ Below w1.heap.size w1 w') :=
    IndexFunct_any Try.call51 _ qt lt.length et lt (fun t => t.i == dw) w1 (own_trow HSIT1.out.o.kt) rfl (by have h := HOK.out.1.nt; have e : (Wld.shp ⟨A, B, p, n, c, l, pb, nb, cb, lb, ps, ns, cs, ls, pm, nm, cm, lm, pt, nt, ct, lt, N, T⟩).lt.length = lt.length := rfl; omega)
      (fun t V2 _ hV2 => Who1_at t dw (J + 1) V2 (cell_call2 (bxd_cells HSIT1.out.d).2.1 hV2))
  clear HC1 HC2 HC3 HX0 HD0
  go_wp2_with fail
  refine Calls.mono HIX.out ?_
  rintro e w2 ⟨⟨r, rfl, hfr⟩, hb2⟩
  have HFR : Hid (fst1 (fun t => t.i == dw) lt r) := hfr.out
  have HSIT : Hid (sit (J + 1 + 1 + 1) J (J + 1) (J + 1 + 1) w2 ⟨A, B, p, n, c, l, pb, nb, cb, lb, qs, ls.length, es, ls, qm, lm.length, em, lm, qt, lt.length, et, lt, N, T⟩ ⟨dk, dw, dx, dy, da⟩) := sit_below HSIT1.out hb2
  have HB2 : Hid (Below w.heap.size w w2) := below_call HB1.out HB1.out.size hb2
  clear hfr hb2 HIX z0 z1 z2 z3 z4 z5 z6 z7 z8
  have e1 : dk = 2 := HK.out
  subst e1
  obtain ⟨q0, q1, q2, q3, q4⟩ := bxd_cells HSIT.out.d
  obtain ⟨z0, z1, z2, z3, z4, z5, z6, z7, z8⟩ := bx9_c9 HSIT.out.x
  rcases HFR.out with ⟨hr0, hno⟩ | ⟨k, hkl, rfl, hki⟩
  · have HNO : Hid (∀ (k : Nat) (t : Trp), lt[k]? = some t → ¬ t.i = dw) := fun k t hk e => by
      obtain ⟨hj, rfl⟩ := List.getElem?_eq_some_iff.1 hk
      have := hno k hj
      simp [e] at this
    have dr : decide (r < 0) = true := by simp [hr0]
    clear hno
    go_wp2_with fail
    go_quiet (fail)
    rename_i nq
    obtain ⟨w3, hw3⟩ : ∃ w3, w2.drewN nq = w3 := ⟨_, rfl⟩
    rw [hw3]
    have HSIT3 : Hid (sit (J + 1 + 1 + 1) J (J + 1) (J + 1 + 1) w3 ⟨A, B, p, n, c, l, pb, nb, cb, lb, qs, ls.length, es, ls, qm, lm.length, em, lm, qt, lt.length, et, lt, N, T⟩ ⟨2, dw, dx, dy, da⟩) := by unfold Hid; rw [← hw3]; exact sit_below HSIT.out (below_drewN (Below.refl _ _) _)
    have HB3 : Hid (Below w.heap.size w w3) := by unfold Hid; rw [← hw3]; exact below_drewN HB2.out _
    clear hw3 z0 z1 z2 z3 z4 z5 z6 z7 z8 q0 q1 q2 q3 q4
    obtain ⟨ra, rb, rc, rd, re, rf, rg, rh, ri, hrr⟩ := HSIT3.out.r
    obtain ⟨u9, hu9⟩ : ∃ u9, (((((((((w3.setCell ⟨J + 1 + 1, 0, none⟩ (.int .i64 A)).setCell ⟨J + 1 + 1, 1, none⟩ (.int .i64 B)).setCell ⟨J + 1 + 1, 2, none⟩ (.slice p n c)).setCell ⟨J + 1 + 1, 3, none⟩ (.slice pb nb cb)).setCell ⟨J + 1 + 1, 4, none⟩ (.slice qs ls.length es)).setCell ⟨J + 1 + 1, 5, none⟩ (.slice qm lm.length em)).setCell ⟨J + 1 + 1, 6, none⟩ (.slice qt lt.length et)).setCell ⟨J + 1 + 1, 7, none⟩ (.int .i64 N)).setCell ⟨J + 1 + 1, 8, none⟩ (.int .i64 T)) = u9 := ⟨_, rfl⟩
    obtain ⟨x9, e9⟩ := set9 hrr hu9.symm
    have HF9 : Hid (sown w.heap.size u9 ⟨A, B, p, n, c, l, pb, nb, cb, lb, qs, ls.length, es, ls, qm, lm.length, em, lm, qt, lt.length, et, lt, N, T⟩ ∧ Below w.heap.size w u9) := ⟨sown_mono (sown_ex HSIT3.out.o e9 (by intro g hg; omega)) (by have := HS0.out.2; omega), HB3.out.trans (e9.below HB3.out.size (by intro k hk; have := HS0.out.2; omega))⟩
    obtain ⟨y0, y1, y2, y3, y4, y5, y6, y7, y8⟩ := bx9_c9 x9
    obtain ⟨o0, o1, o2, o3, o4, o5, o6, o7, o8⟩ := bx9_c9 hrr
    have fr0 := bx9_free hrr 0
    have fr1 := bx9_free hrr 1
    have fr2 := bx9_free hrr 2
    have fr3 := bx9_free hrr 3
    have fr4 := bx9_free hrr 4
    have fr5 := bx9_free hrr 5
    have fr6 := bx9_free hrr 6
    have fr7 := bx9_free hrr 7
    have fr8 := bx9_free hrr 8
    obtain ⟨z0, z1, z2, z3, z4, z5, z6, z7, z8⟩ := bx9_c9 HSIT3.out.x
    clear hrr x9 e9
    go_wp2_with fail
    refine ⟨by simp, .tuple #[.agg #[.int .i64 A, .int .i64 B, .slice p n c, .slice pb nb cb, .slice qs ls.length es, .slice qm lm.length em, .slice qt lt.length et, .int .i64 N, .int .i64 T], .bool false], ?_, ⟨⟨A, B, p, n, c, l, pb, nb, cb, lb, qs, ls.length, es, ls, qm, lm.length, em, lm, qt, lt.length, et, lt, N, T⟩, false, rfl, ⟨rfl, rfl, rfl, rfl, rfl, rfl, rfl, rfl, rfl, rfl, rfl⟩, ?_, ds_drop rfl (.inr ⟨rfl, rfl, fun k t hk e => absurd e (HNO.out k t hk)⟩)⟩, ?_⟩
    · simp [results, Try.results38, go_sem, y0, y1, y2, y3, y4, y5, y6, y7, y8]
    · first | exact HF9.out.1 | (rw [← HS0.out.2]; exact HF9.out.1)
    · first | exact HF9.out.2 | (rw [← HS0.out.2]; exact HF9.out.2)
  · obtain ⟨t, ht⟩ : ∃ t, lt[k] = t := ⟨_, rfl⟩
    have hkt : lt[k]? = some t := by rw [List.getElem?_eq_getElem hkl, ht]
    rw [ht] at hki
    have hti : t.i = dw := by simpa using hki
    obtain ⟨gt, rfl, ⟨t0, t1, t2, t3, t4, t5, t6⟩, ft, hCt, hlt⟩ := own_tcell HSIT.out.o.kt hkt
    have hT1 := (tr_at HOK.out.1.tr hkt).2.2
    have hbd := drop_bd HOK.out.1 hkt
    have hWH : W ≤ 40 ∧ H ≤ 40 := ⟨HOK.out.1.f.1.2, HOK.out.1.f.2.1.2⟩
    obtain ⟨O, hO⟩ : ∃ O : Nat, t.o = O := ⟨t.o.toNat, by have := hT1.2.1; omega⟩
    have hO2 : t.o.toNat = O := by rw [hO]; simp
    have hOl : O < lb.length := by have := hbd.2.2.2.2.2; rw [hO2] at this; exact this
    have hls : ls.length = lb.length := HOK.out.1.pl.1
    have hOs : O < ls.length := by omega
    obtain ⟨ab, rfl, hb1, hb2⟩ := crow_at (crow_below HPB.out.2.2.1 HB2.out) hOl
    have hb2' := cell_two hb2
    obtain ⟨c', hc⟩ : ∃ c, lb[O] = c := ⟨_, rfl⟩
    rw [hc] at hb1 hb2'
    have hcin : inb W H c'.x c'.y = true := by rw [← hc]; exact opn_inb (HOK.out.1.pl.2.2.1 O hOl)
    have hgd : lb.getD O ⟨0, 0⟩ = c' := by rw [List.getD_eq_getElem?_getD, List.getElem?_eq_getElem hOl, hc]; rfl
    have HNR : Hid (near c'.x c'.y = true) := inb_near hWH.1 hWH.2 hcin
    obtain ⟨Sv, hSv⟩ : ∃ Sv, ls.getD O 0 = Sv := ⟨_, rfl⟩
    obtain ⟨nn, hnn⟩ : ∃ nn : Nat, dropN (Wld.shp ⟨A, B, p, n, c, l, some ab, nb, cb, lb, ps, ns, cs, ls, pm, nm, cm, lm, pt, nt, ct, lt, N, T⟩) t = nn := ⟨(dropN (Wld.shp ⟨A, B, p, n, c, l, some ab, nb, cb, lb, ps, ns, cs, ls, pm, nm, cm, lm, pt, nt, ct, lt, N, T⟩) t).toNat, by have := hbd.1; omega⟩
    have hSv2 : (Wld.shp ⟨A, B, p, n, c, l, some ab, nb, cb, lb, ps, ns, cs, ls, pm, nm, cm, lm, pt, nt, ct, lt, N, T⟩).ls.getD t.o.toNat 0 = Sv := by rw [hO2]; exact hSv
    have HBD : Hid ((nn : Int) ≤ t.d ∧ Sv + nn ≤ 1000000 ∧ 0 ≤ Sv ∧ t.d ≤ 5 ∧ (t.d ≤ nn ∨ 1000000 ≤ Sv + nn)) := by
      rw [hnn, hSv2] at hbd
      refine ⟨hbd.2.1, hbd.2.2.1, hbd.2.2.2.1, hbd.2.2.2.2.1, ?_⟩
      rw [← hnn]
      unfold dropN mnd
      rw [hSv2]
      split <;> omega
    have HKT : Hid (lt[k]? = some t) := hkt
    have HTI : Hid (t.i = dw) := hti
    have HOO : Hid (t.o.toNat = O ∧ O < ls.length ∧ ls[O]? = some Sv) := ⟨hO2, hOs, by rw [getD_some hOs, hSv]⟩
    have HSS : Hid (ls.getD O 0 = Sv) := hSv
    have HDN : Hid (dropN (Wld.shp ⟨A, B, p, n, c, l, some ab, nb, cb, lb, ps, ns, cs, ls, pm, nm, cm, lm, pt, nt, ct, lt, N, T⟩) t = nn) := hnn
    have HONE : Hid (∀ (k' : Nat) (t' : Trp), lt[k']? = some t' → t'.i = dw → t' = t) := fun k' t' h1 h2 => by
      have e := tr_one HOK.out.1.tr h1 hkt (by rw [h2, hti])
      subst e
      have h1' : lt[k']? = some t' := h1
      rw [hkt] at h1'; cases h1'; rfl
    obtain ⟨nr, hnr⟩ : ∃ nr, decide (kg t.x t.y c'.x c'.y ≤ 1) = nr := ⟨_, rfl⟩
    have HKB : Hid (decide (kg t.x t.y c'.x c'.y ≤ 1) = nr) := hnr
    have HKG : Hid (∀ U, Calls Try.prog 52 #[.agg #[.int .i64 c'.x, .int .i64 c'.y], .agg #[.int .i64 t.x, .int .i64 t.y]] U fun e w' => e = .returned (.bool nr) ∧ Below U.heap.size U w') := fun U => king_at c'.x c'.y t.x t.y nr U HNR.out (by rw [kg_symm]; exact HKB.out)
    have HDC : Hid (dropC lb (Wld.shp ⟨A, B, p, n, c, l, some ab, nb, cb, lb, ps, ns, cs, ls, pm, nm, cm, lm, pt, nt, ct, lt, N, T⟩) t ↔ (nn ≠ 0 ∧ nr = true)) := by
      unfold Hid dropC
      rw [HDN.out, hO2, hgd, ← HKB.out]
      simp
    have HTO : Hid (t.o = (O : Int)) := hO
    obtain ⟨ti, to_, tk, tx, ty, tf, td⟩ := t
    obtain ⟨cx, cy⟩ := c'
    simp only at t0 t1 t2 t3 t4 t5 t6 HBD HKG hb1 hb2' hO
    rw [hO] at t1
    have hkn : (k : Int) < (lt.length : Int) := by omega
    have k0 : (0 : Int) ≤ k := by omega
    have dk0 : decide ((k : Int) < 0) = false := by simp
    have hbn : lb.length = nb := HPB.out.2.2.2
    have oB : (O : Int) < (nb : Int) := by omega
    have oS : (O : Int) < (ls.length : Int) := by omega
    have o0 : (0 : Int) ≤ O := by omega
    clear hkt hti hki ht hT1 hCt hlt t0 t2 t5 ft t6 hbd hO hO2 hOl hls hOs hb2 hc hcin hgd hSv hnn hSv2 hnr hWH hbn
    go_wp2_with fail
    go_region_held3 (fun U => Below w2.heap.size w2 U ∧ U.cell? ⟨J, 3, none⟩ = some (.slice (some ab) nb cb) ∧ U.cell? ⟨J, 6, none⟩ = some (.slice (some ⟨gt, 0, none⟩) lt.length et) ∧ U.cell? ⟨gt, k * 7 + 1, none⟩ = some (.int .i64 (O : Int)) ∧ U.cell? ⟨gt, k * 7 + 3, none⟩ = some (.int .i64 tx) ∧ U.cell? ⟨gt, k * 7 + 4, none⟩ = some (.int .i64 ty) ∧ U.cell? (ab.add (O * 2)) = some (.int .i64 cx) ∧ U.cell? ⟨(ab.add (O * 2)).block, (ab.add (O * 2)).off + 1, none⟩ = some (.int .i64 cy)) (first | with_reducible assumption | with_reducible exact k7_drew (by assumption) | with_reducible exact k7_call (by assumption) (by assumption) | exact ⟨Below.drew (Below.refl _ _), z3, z6, t1, t3, t4, hb1, hb2'⟩) (first | (go_at_call 52; with_reducible refine (HKG.out _).mono ?_; rintro e w3 ⟨rfl, hb3⟩))
    have hb23 : Below w2.heap.size w2 w3 := (Below.refl _ _).drew.trans hb3
    have HSIT3 : Hid (sit (J + 1 + 1 + 1) J (J + 1) (J + 1 + 1) w3 ⟨A, B, p, n, c, l, (some ab), nb, cb, lb, qs, ls.length, es, ls, qm, lm.length, em, lm, (some ⟨gt, 0, none⟩), lt.length, et, lt, N, T⟩ ⟨2, dw, dx, dy, da⟩) := sit_below HSIT.out (hb23)
    have HB3 : Hid (Below w.heap.size w w3) := below_call HB2.out HB2.out.size (hb23)
    clear hb3 hb23 z0 z1 z2 z3 z4 z5 z6 z7 z8 q0 q1 q2 q3 q4 t1 t3 t4 hb1 hb2'
    cases nr with
    | false =>
      obtain ⟨ra, rb, rc, rd, re, rf, rg, rh, ri, hrr⟩ := HSIT3.out.r
      obtain ⟨u9, hu9⟩ : ∃ u9, (((((((((w3.setCell ⟨J + 1 + 1, 0, none⟩ (.int .i64 A)).setCell ⟨J + 1 + 1, 1, none⟩ (.int .i64 B)).setCell ⟨J + 1 + 1, 2, none⟩ (.slice p n c)).setCell ⟨J + 1 + 1, 3, none⟩ (.slice (some ab) nb cb)).setCell ⟨J + 1 + 1, 4, none⟩ (.slice qs ls.length es)).setCell ⟨J + 1 + 1, 5, none⟩ (.slice qm lm.length em)).setCell ⟨J + 1 + 1, 6, none⟩ (.slice (some ⟨gt, 0, none⟩) lt.length et)).setCell ⟨J + 1 + 1, 7, none⟩ (.int .i64 N)).setCell ⟨J + 1 + 1, 8, none⟩ (.int .i64 T)) = u9 := ⟨_, rfl⟩
      obtain ⟨x9, e9⟩ := set9 hrr hu9.symm
      have HF9 : Hid (sown w.heap.size u9 ⟨A, B, p, n, c, l, (some ab), nb, cb, lb, qs, ls.length, es, ls, qm, lm.length, em, lm, (some ⟨gt, 0, none⟩), lt.length, et, lt, N, T⟩ ∧ Below w.heap.size w u9) := ⟨sown_mono (sown_ex HSIT3.out.o e9 (by intro g hg; omega)) (by have := HS0.out.2; omega), HB3.out.trans (e9.below HB3.out.size (by intro k hk; have := HS0.out.2; omega))⟩
      obtain ⟨y0, y1, y2, y3, y4, y5, y6, y7, y8⟩ := bx9_c9 x9
      obtain ⟨o0, o1, o2, o3, o4, o5, o6, o7, o8⟩ := bx9_c9 hrr
      have fr0 := bx9_free hrr 0
      have fr1 := bx9_free hrr 1
      have fr2 := bx9_free hrr 2
      have fr3 := bx9_free hrr 3
      have fr4 := bx9_free hrr 4
      have fr5 := bx9_free hrr 5
      have fr6 := bx9_free hrr 6
      have fr7 := bx9_free hrr 7
      have fr8 := bx9_free hrr 8
      obtain ⟨z0, z1, z2, z3, z4, z5, z6, z7, z8⟩ := bx9_c9 HSIT3.out.x
      clear hrr x9 e9
      go_wp2_with fail
      refine ⟨by simp, .tuple #[.agg #[.int .i64 A, .int .i64 B, .slice p n c, .slice (some ab) nb cb, .slice qs ls.length es, .slice qm lm.length em, .slice (some ⟨gt, 0, none⟩) lt.length et, .int .i64 N, .int .i64 T], .bool false], ?_, ⟨⟨A, B, p, n, c, l, (some ab), nb, cb, lb, qs, ls.length, es, ls, qm, lm.length, em, lm, (some ⟨gt, 0, none⟩), lt.length, et, lt, N, T⟩, false, rfl, ⟨rfl, rfl, rfl, rfl, rfl, rfl, rfl, rfl, rfl, rfl, rfl⟩, ?_, ds_drop rfl (.inr ⟨rfl, rfl, fun k t hk e hc => by have h1 := HONE.out k t hk e; rw [h1] at hc; have := (HDC.out.1 hc).2; cases this⟩)⟩, ?_⟩
      · simp [results, Try.results38, go_sem, y0, y1, y2, y3, y4, y5, y6, y7, y8]
      · first | exact HF9.out.1 | (rw [← HS0.out.2]; exact HF9.out.1)
      · first | exact HF9.out.2 | (rw [← HS0.out.2]; exact HF9.out.2)
    | true =>
      have HI0 : Hid (sit (J + 1 + 1 + 1) J (J + 1) (J + 1 + 1) w3 ⟨A, B, p, n, c, l, (some ab), nb, cb, lb, qs, ls.length, es, (ls.set O (Sv + (((0 : Nat) : Int)))), qm, lm.length, em, lm, (some ⟨gt, 0, none⟩), lt.length, et, (lt.set k (Trp.load ⟨ti, to_, tk, tx, ty, tf, td⟩ (td - (((0 : Nat) : Int))))), N, T⟩ ⟨2, dw, dx, dy, da⟩ ∧ Below w.heap.size w w3) := by
        refine ⟨?_, HB3.out⟩
        have e1 : ls.set O (Sv + ((0 : Nat) : Int)) = ls := by simp only [Int.natCast_zero, Int.add_zero]; exact set_same' HOO.out.2.2
        have e2 : lt.set k (Trp.load ⟨ti, to_, tk, tx, ty, tf, td⟩ (td - ((0 : Nat) : Int))) = lt := by simp only [Int.natCast_zero, Int.sub_zero]; exact set_same' HKT.out
        rw [e1, e2]
        exact HSIT3.out
      obtain ⟨q0, q1, q2, q3, q4⟩ := bxd_cells HSIT3.out.d
      go_wp2_with fail
      clear q0 q1 q2 q3 q4
      go_loopw [8] (fun i wr => ∃ j : Nat, i = .int .i64 (j : Int) ∧ j ≤ nn ∧ Hid (sit (J + 1 + 1 + 1) J (J + 1) (J + 1 + 1) wr ⟨A, B, p, n, c, l, (some ab), nb, cb, lb, qs, ls.length, es, (ls.set O (Sv + ((j : Int)))), qm, lm.length, em, lm, (some ⟨gt, 0, none⟩), lt.length, et, (lt.set k (Trp.load ⟨ti, to_, tk, tx, ty, tf, td⟩ (td - ((j : Int))))), N, T⟩ ⟨2, dw, dx, dy, da⟩ ∧ Below w.heap.size w wr)) (fun i _ => nn - (intOf i).toNat)
      case atStart => exact ⟨0, rfl, by omega, HI0.out⟩
      case round =>
        obtain ⟨j, rfl, hj, HS⟩ := hrel
        have hbd := HBD.out
        have g1 : (nn : Int) ≤ td := hbd.1
        have g2 : Sv + nn ≤ 1000000 := hbd.2.1
        have g3 : 0 ≤ Sv := hbd.2.2.1
        have g4 : td ≤ 5 := hbd.2.2.2.1
        have g5 := hbd.2.2.2.2
        have hHK : (lt.set k (Trp.load ⟨ti, to_, tk, tx, ty, tf, td⟩ (td - ((j : Int)))))[k]? = some (Trp.load ⟨ti, to_, tk, tx, ty, tf, td⟩ (td - (j : Int))) := by
          have := (List.getElem?_eq_some_iff.1 HKT.out).1
          rw [List.getElem?_set_self this]
        have hHO : O < (ls.set O (Sv + ((j : Int)))).length := by rw [List.length_set]; exact HOO.out.2.1
        have hHG : (ls.set O (Sv + ((j : Int)))).getD O 0 = Sv + (j : Int) := by
          rw [List.getD_eq_getElem?_getD, List.getElem?_set_self HOO.out.2.1]; rfl
        have HHK : Hid ((lt.set k (Trp.load ⟨ti, to_, tk, tx, ty, tf, td⟩ (td - ((j : Int)))))[k]? = some (Trp.load ⟨ti, to_, tk, tx, ty, tf, td⟩ (td - (j : Int)))) := hHK
        have HHO : Hid (O < (ls.set O (Sv + ((j : Int)))).length ∧ (ls.set O (Sv + ((j : Int)))).getD O 0 = Sv + (j : Int)) := ⟨hHO, hHG⟩
        have HTC : Hid (∀ U, Below wr.heap.size wr U → U.cell? ⟨gt, k * 7 + 1, none⟩ = some (.int .i64 (O : Int)) ∧ U.cell? ⟨gt, k * 7 + 6, none⟩ = some (.int .i64 (td - (j : Int))) ∧ U.frozen? ⟨gt, k * 7 + 6, none⟩ = false) := fun U hU => by
          obtain ⟨g', hg', ⟨t0, t1, t2, t3, t4, t5, t6⟩, ft, hCt, hlt⟩ := own_tcell (sit_below HS.out.1 hU).o.kt hHK
          obtain rfl : gt = g' := by simpa using hg'
          have h : to_ = (O : Int) := HTO.out
          simp only [Trp.load] at t1 t6
          rw [h] at t1
          exact ⟨t1, t6, ft⟩
        obtain ⟨gs, hgs, -, -, hCs, -⟩ := own_cell HS.out.1.o.ks hHO
        have HGS : Hid (qs = some ⟨gs, 0, none⟩ ∧ J + 1 + 1 + 1 ≤ gs) := ⟨hgs, hCs⟩
        have HSC : Hid (∀ U, Below wr.heap.size wr U → U.cell? ⟨gs, O, none⟩ = some (.int .i64 (Sv + (j : Int))) ∧ U.frozen? ⟨gs, O, none⟩ = false) := fun U hU => by
          obtain ⟨g', hg', h1, h2, _, _⟩ := own_cell (sit_below HS.out.1 hU).o.ks hHO
          obtain rfl : gs = g' := by have := hgs.symm.trans hg'; simpa using this
          rw [hHG] at h1
          exact ⟨h1, h2⟩
        have HJC : Hid (∀ U, Below wr.heap.size wr U → U.cell? ⟨J, 4, none⟩ = some (.slice (some ⟨gs, 0, none⟩) ls.length es) ∧ U.cell? ⟨J, 6, none⟩ = some (.slice (some ⟨gt, 0, none⟩) lt.length et)) := fun U hU => by
          have h := bx9_c9 (sit_below HS.out.1 hU).x
          exact ⟨by rw [h.2.2.2.2.1, hgs], h.2.2.2.2.2.2.1⟩
        clear hHK hHO hHG hgs hCs hbd
        obtain ⟨t1, t6, ft⟩ := HTC.out wr (Below.refl _ _)
        obtain ⟨z4, z6⟩ := HJC.out wr (Below.refl _ _)
        obtain ⟨s1, fs⟩ := HSC.out wr (Below.refl _ _)
        by_cases hlt : j < nn
        · have d1 : decide (0 < td - (j : Int)) = true := by simp; omega
          have dA : decide ((j : Int) < td) = true := by simp; omega
          have d2 : decide (Sv + (j : Int) < 1000000) = true := by simp; omega
          go_wp2_with fail
          go_quiet (fail)
          rename_i nq
          obtain ⟨w4, hw4⟩ : ∃ w4, wr.drewN nq = w4 := ⟨_, rfl⟩
          rw [hw4]
          have HB4 : Hid (Below wr.heap.size wr w4) := by unfold Hid; rw [← hw4]; exact below_drewN (Below.refl _ _) _
          clear hw4 t1 t6 ft z4 z6 s1 fs d1 d2
          have HS4 : Hid (sit (J + 1 + 1 + 1) J (J + 1) (J + 1 + 1) w4 ⟨A, B, p, n, c, l, (some ab), nb, cb, lb, qs, ls.length, es, (ls.set O (Sv + ((j : Int)))), qm, lm.length, em, lm, (some ⟨gt, 0, none⟩), lt.length, et, (lt.set k (Trp.load ⟨ti, to_, tk, tx, ty, tf, td⟩ (td - ((j : Int))))), N, T⟩ ⟨2, dw, dx, dy, da⟩) := sit_below HS.out.1 HB4.out
          obtain ⟨t1, t6, ft⟩ := HTC.out w4 HB4.out
          obtain ⟨z4, z6⟩ := HJC.out w4 HB4.out
          obtain ⟨V1, hV1⟩ : ∃ V1, w4.setCell ⟨gt, k * 7 + 6, none⟩ (.int .i64 (td - (j : Int) - 1)) = V1 := ⟨_, rfl⟩
          have e2 : (lt.set k (Trp.load ⟨ti, to_, tk, tx, ty, tf, td⟩ (td - ((j : Int))))).set k (Trp.load (Trp.load ⟨ti, to_, tk, tx, ty, tf, td⟩ (td - (j : Int))) (td - (j : Int) - 1)) = (lt.set k (Trp.load ⟨ti, to_, tk, tx, ty, tf, td⟩ (td - (((j + 1 : Nat) : Int))))) := by
            rw [List.set_set]
            have : td - (j : Int) - 1 = td - ((j + 1 : Nat) : Int) := by omega
            rw [this]; rfl
          have HS5 : Hid (sit (J + 1 + 1 + 1) J (J + 1) (J + 1 + 1) V1 ⟨A, B, p, n, c, l, (some ab), nb, cb, lb, qs, ls.length, es, (ls.set O (Sv + ((j : Int)))), qm, lm.length, em, lm, (some ⟨gt, 0, none⟩), lt.length, et, (lt.set k (Trp.load ⟨ti, to_, tk, tx, ty, tf, td⟩ (td - (((j + 1 : Nat) : Int))))), N, T⟩ ⟨2, dw, dx, dy, da⟩) := by
            unfold Hid
            rw [← hV1, ← e2]
            exact sit_load HS4.out rfl HHK.out (td - (j : Int) - 1)
          have hv := bx9_c9 HS5.out.x
          have v4 : V1.cell? ⟨J, 4, none⟩ = some (.slice (some ⟨gs, 0, none⟩) ls.length es) := by rw [hv.2.2.2.2.1, HGS.out.1]
          have v6 : V1.cell? ⟨J, 6, none⟩ = some (.slice (some ⟨gt, 0, none⟩) lt.length et) := hv.2.2.2.2.2.2.1
          obtain ⟨g', hg', ⟨u0, u1, u2, u3, u4, u5, u6⟩, uf, uC, ul⟩ := own_tcell HS5.out.o.kt (j := k) (t := Trp.load ⟨ti, to_, tk, tx, ty, tf, td⟩ (td - ((j + 1 : Nat) : Int))) (by
            have := (List.getElem?_eq_some_iff.1 HKT.out).1
            rw [List.getElem?_set_self this])
          obtain rfl : gt = g' := by simpa using hg'
          have hto : to_ = (O : Int) := HTO.out
          simp only [Trp.load] at u1
          rw [hto] at u1
          obtain ⟨g'', hg'', c1, c2, c3, c4⟩ := own_cell HS5.out.o.ks HHO.out.1
          obtain rfl : gs = g'' := by have := HGS.out.1.symm.trans hg''; simpa using this
          rw [HHO.out.2] at c1
          have nst : ¬ gs = gt := fun e => own_apart HS5.out.o.ks HS5.out.o.kt (by decide) gs (by rw [hg'']; rfl) (by rw [e]; rfl)
          have HBV : Hid (Below w.heap.size w V1) := by
            unfold Hid
            rw [← hV1]
            have h2 := HS0.out.2
            exact (below_call HS.out.2 HS.out.2.size HB4.out).setCell (p := ⟨gt, k * 7 + 6, none⟩) (by show w.heap.size ≤ gt; omega) _
          have e1 : (ls.set O (Sv + ((j : Int)))).set O (Sv + (j : Int) + 1) = (ls.set O (Sv + (((j + 1 : Nat) : Int)))) := by
            rw [List.set_set]
            have : Sv + (j : Int) + 1 = Sv + ((j + 1 : Nat) : Int) := by omega
            rw [this]
          have HNX : Hid (sit (J + 1 + 1 + 1) J (J + 1) (J + 1 + 1) (V1.setCell ⟨gs, O, none⟩ (.int .i64 (Sv + (j : Int) + 1))) ⟨A, B, p, n, c, l, (some ab), nb, cb, lb, qs, ls.length, es, (ls.set O (Sv + (((j + 1 : Nat) : Int)))), qm, lm.length, em, lm, (some ⟨gt, 0, none⟩), lt.length, et, (lt.set k (Trp.load ⟨ti, to_, tk, tx, ty, tf, td⟩ (td - (((j + 1 : Nat) : Int))))), N, T⟩ ⟨2, dw, dx, dy, da⟩ ∧ Below w.heap.size w (V1.setCell ⟨gs, O, none⟩ (.int .i64 (Sv + (j : Int) + 1)))) := by
            refine ⟨?_, ?_⟩
            · rw [← e1]
              exact sit_ls HS5.out HGS.out.1 O (Sv + (j : Int) + 1)
            · have h2 := HS0.out.2
              have h3 := HGS.out.2
              exact HBV.out.setCell (p := ⟨gs, O, none⟩) (by show w.heap.size ≤ gs; omega) _
          clear hg' u0 u2 u3 u4 u5 u6 uf uC ul hto hg'' c3 c4 e1 e2 hv
          go_wp2_with fail
          clear hV1
          go_region
          all_goals
            go_wp2_with fail
            go_roundw
            case rel => exact ⟨j + 1, by go_num, by omega, sit_below HNX.out.1 ((Below.refl _ _).drew), HNX.out.2.drew⟩
            case measure => simp [intOf]; omega
        · obtain rfl : j = nn := by omega
          have HBW : Hid (Below w.heap.size w wr ∧ (td ≤ j ∨ 1000000 ≤ Sv + j)) := ⟨HS.out.2, g5⟩
          have HRD : Hid (∀ U, Below wr.heap.size wr U → (U.cell? ⟨gt, k * 7 + 1, none⟩ = some (.int .i64 (O : Int)) ∧ U.cell? ⟨gt, k * 7 + 6, none⟩ = some (.int .i64 (td - (j : Int)))) ∧ (U.cell? ⟨J, 4, none⟩ = some (.slice (some ⟨gs, 0, none⟩) ls.length es) ∧ U.cell? ⟨J, 6, none⟩ = some (.slice (some ⟨gt, 0, none⟩) lt.length et)) ∧ U.cell? ⟨gs, O, none⟩ = some (.int .i64 (Sv + (j : Int)))) := fun U hU => ⟨⟨(HTC.out U hU).1, (HTC.out U hU).2.1⟩, HJC.out U hU, (HSC.out U hU).1⟩
          clear t1 t6 ft z4 z6 s1 fs
          by_cases hA : td ≤ (j : Int)
          · have dA : decide ((j : Int) < td) = false := by simp; omega
            have dB : decide (0 < td - (j : Int)) = false := by simp; omega
            by_cases hj0 : j = 0
            · have HJ0 : Hid (j = 0) := hj0
              clear hj0
              obtain ⟨⟨t1, t6⟩, ⟨z4, z6⟩, s1⟩ := HRD.out wr (Below.refl _ _)
              go_wp2_with fail
              go_quiet (fail)
              rename_i nq
              obtain ⟨w4, hw4⟩ : ∃ w4, wr.drewN nq = w4 := ⟨_, rfl⟩
              rw [hw4]
              have HB4 : Hid (Below w.heap.size w w4) := by unfold Hid; rw [← hw4]; exact below_drewN HBW.out.1 _
              have HS4 : Hid (sit (J + 1 + 1 + 1) J (J + 1) (J + 1 + 1) w4 ⟨A, B, p, n, c, l, (some ab), nb, cb, lb, qs, ls.length, es, ls, qm, lm.length, em, lm, (some ⟨gt, 0, none⟩), lt.length, et, lt, N, T⟩ ⟨2, dw, dx, dy, da⟩) := by
                have e1 : ls.set O (Sv + ((0 : Nat) : Int)) = ls := by simp only [Int.natCast_zero, Int.add_zero]; exact set_same' HOO.out.2.2
                have e2 : lt.set k (Trp.load ⟨ti, to_, tk, tx, ty, tf, td⟩ (td - ((0 : Nat) : Int))) = lt := by simp only [Int.natCast_zero, Int.sub_zero]; exact set_same' HKT.out
                have h := HS.out.1
                rw [HJ0.out, e1, e2] at h
                unfold Hid
                rw [← hw4]
                exact sit_below h (below_drewN (Below.refl _ _) _)
              have dj : decide (0 < (j : Int)) = false := by simp [HJ0.out]
              have dj2 : decide (0 < j) = false := by simp [HJ0.out]
              clear hw4 t1 t6 z4 z6 s1
              obtain ⟨ra, rb, rc, rd, re, rf, rg, rh, ri, hrr⟩ := HS4.out.r
              obtain ⟨u9, hu9⟩ : ∃ u9, (((((((((w4.setCell ⟨J + 1 + 1, 0, none⟩ (.int .i64 A)).setCell ⟨J + 1 + 1, 1, none⟩ (.int .i64 B)).setCell ⟨J + 1 + 1, 2, none⟩ (.slice p n c)).setCell ⟨J + 1 + 1, 3, none⟩ (.slice (some ab) nb cb)).setCell ⟨J + 1 + 1, 4, none⟩ (.slice qs ls.length es)).setCell ⟨J + 1 + 1, 5, none⟩ (.slice qm lm.length em)).setCell ⟨J + 1 + 1, 6, none⟩ (.slice (some ⟨gt, 0, none⟩) lt.length et)).setCell ⟨J + 1 + 1, 7, none⟩ (.int .i64 N)).setCell ⟨J + 1 + 1, 8, none⟩ (.int .i64 T)) = u9 := ⟨_, rfl⟩
              obtain ⟨x9, e9⟩ := set9 hrr hu9.symm
              have HF9 : Hid (sown w.heap.size u9 ⟨A, B, p, n, c, l, (some ab), nb, cb, lb, qs, ls.length, es, ls, qm, lm.length, em, lm, (some ⟨gt, 0, none⟩), lt.length, et, lt, N, T⟩ ∧ Below w.heap.size w u9) := ⟨sown_mono (sown_ex HS4.out.o e9 (by intro g hg; omega)) (by have := HS0.out.2; omega), HB4.out.trans (e9.below HB4.out.size (by intro k hk; have := HS0.out.2; omega))⟩
              obtain ⟨y0, y1, y2, y3, y4, y5, y6, y7, y8⟩ := bx9_c9 x9
              obtain ⟨o0, o1, o2, o3, o4, o5, o6, o7, o8⟩ := bx9_c9 hrr
              have fr0 := bx9_free hrr 0
              have fr1 := bx9_free hrr 1
              have fr2 := bx9_free hrr 2
              have fr3 := bx9_free hrr 3
              have fr4 := bx9_free hrr 4
              have fr5 := bx9_free hrr 5
              have fr6 := bx9_free hrr 6
              have fr7 := bx9_free hrr 7
              have fr8 := bx9_free hrr 8
              obtain ⟨z0, z1, z2, z3, z4, z5, z6, z7, z8⟩ := bx9_c9 HS4.out.x
              clear hrr x9 e9
              go_wp2_with fail
              refine ⟨by simp, .tuple #[.agg #[.int .i64 A, .int .i64 B, .slice p n c, .slice (some ab) nb cb, .slice qs ls.length es, .slice qm lm.length em, .slice (some ⟨gt, 0, none⟩) lt.length et, .int .i64 N, .int .i64 T], .bool false], ?_, ⟨⟨A, B, p, n, c, l, (some ab), nb, cb, lb, qs, ls.length, es, ls, qm, lm.length, em, lm, (some ⟨gt, 0, none⟩), lt.length, et, lt, N, T⟩, false, rfl, ⟨rfl, rfl, rfl, rfl, rfl, rfl, rfl, rfl, rfl, rfl, rfl⟩, ?_, ds_drop rfl (.inr ⟨rfl, rfl, fun k t hk e hc => by have h1 := HONE.out k t hk e; rw [h1] at hc; exact (HDC.out.1 hc).1 HJ0.out⟩)⟩, ?_⟩
              · simp [results, Try.results38, go_sem, y0, y1, y2, y3, y4, y5, y6, y7, y8]
              · first | exact HF9.out.1 | (rw [← HS0.out.2]; exact HF9.out.1)
              · first | exact HF9.out.2 | (rw [← HS0.out.2]; exact HF9.out.2)
            · obtain ⟨⟨t1, t6⟩, ⟨z4, z6⟩, s1⟩ := HRD.out wr (Below.refl _ _)
              go_wp2_with fail
              go_quiet (fail)
              rename_i nq
              obtain ⟨w4, hw4⟩ : ∃ w4, wr.drewN nq = w4 := ⟨_, rfl⟩
              rw [hw4]
              have HB4 : Hid (Below w.heap.size w w4) := by unfold Hid; rw [← hw4]; exact below_drewN HBW.out.1 _
              have HS4 : Hid (sit (J + 1 + 1 + 1) J (J + 1) (J + 1 + 1) w4 ⟨A, B, p, n, c, l, (some ab), nb, cb, lb, qs, ls.length, es, (ls.set O (Sv + ((j : Int)))), qm, lm.length, em, lm, (some ⟨gt, 0, none⟩), lt.length, et, (lt.set k (Trp.load ⟨ti, to_, tk, tx, ty, tf, td⟩ (td - ((j : Int))))), N, T⟩ ⟨2, dw, dx, dy, da⟩) := by
                unfold Hid
                rw [← hw4]
                exact sit_below HS.out.1 (below_drewN (Below.refl _ _) _)
              have dj : decide (0 < (j : Int)) = true := by simp; omega
              have dj2 : decide (0 < j) = true := by simp; omega
              clear hw4 t1 t6 z4 z6 s1
              obtain ⟨ra, rb, rc, rd, re, rf, rg, rh, ri, hrr⟩ := HS4.out.r
              obtain ⟨u9, hu9⟩ : ∃ u9, (((((((((w4.setCell ⟨J + 1 + 1, 0, none⟩ (.int .i64 A)).setCell ⟨J + 1 + 1, 1, none⟩ (.int .i64 B)).setCell ⟨J + 1 + 1, 2, none⟩ (.slice p n c)).setCell ⟨J + 1 + 1, 3, none⟩ (.slice (some ab) nb cb)).setCell ⟨J + 1 + 1, 4, none⟩ (.slice qs ls.length es)).setCell ⟨J + 1 + 1, 5, none⟩ (.slice qm lm.length em)).setCell ⟨J + 1 + 1, 6, none⟩ (.slice (some ⟨gt, 0, none⟩) lt.length et)).setCell ⟨J + 1 + 1, 7, none⟩ (.int .i64 N)).setCell ⟨J + 1 + 1, 8, none⟩ (.int .i64 T)) = u9 := ⟨_, rfl⟩
              obtain ⟨x9, e9⟩ := set9 hrr hu9.symm
              have HF9 : Hid (sown w.heap.size u9 ⟨A, B, p, n, c, l, (some ab), nb, cb, lb, qs, ls.length, es, (ls.set O (Sv + ((j : Int)))), qm, lm.length, em, lm, (some ⟨gt, 0, none⟩), lt.length, et, (lt.set k (Trp.load ⟨ti, to_, tk, tx, ty, tf, td⟩ (td - ((j : Int))))), N, T⟩ ∧ Below w.heap.size w u9) := ⟨sown_mono (sown_ex HS4.out.o e9 (by intro g hg; omega)) (by have := HS0.out.2; omega), HB4.out.trans (e9.below HB4.out.size (by intro k hk; have := HS0.out.2; omega))⟩
              obtain ⟨y0, y1, y2, y3, y4, y5, y6, y7, y8⟩ := bx9_c9 x9
              obtain ⟨o0, o1, o2, o3, o4, o5, o6, o7, o8⟩ := bx9_c9 hrr
              have fr0 := bx9_free hrr 0
              have fr1 := bx9_free hrr 1
              have fr2 := bx9_free hrr 2
              have fr3 := bx9_free hrr 3
              have fr4 := bx9_free hrr 4
              have fr5 := bx9_free hrr 5
              have fr6 := bx9_free hrr 6
              have fr7 := bx9_free hrr 7
              have fr8 := bx9_free hrr 8
              obtain ⟨z0, z1, z2, z3, z4, z5, z6, z7, z8⟩ := bx9_c9 HS4.out.x
              clear hrr x9 e9
              go_wp2_with fail
              refine ⟨by simp, .tuple #[.agg #[.int .i64 A, .int .i64 B, .slice p n c, .slice (some ab) nb cb, .slice qs ls.length es, .slice qm lm.length em, .slice (some ⟨gt, 0, none⟩) lt.length et, .int .i64 N, .int .i64 T], .bool true], ?_, ⟨⟨A, B, p, n, c, l, (some ab), nb, cb, lb, qs, ls.length, es, (ls.set O (Sv + ((j : Int)))), qm, lm.length, em, lm, (some ⟨gt, 0, none⟩), lt.length, et, (lt.set k (Trp.load ⟨ti, to_, tk, tx, ty, tf, td⟩ (td - ((j : Int))))), N, T⟩, true, rfl, ⟨rfl, rfl, rfl, rfl, rfl, rfl, rfl, rfl, rfl, rfl, rfl⟩, ?_, ds_drop rfl (.inl ⟨rfl, k, _, HKT.out, HTI.out, HDC.out.2 ⟨hj0, by first | rfl | trivial⟩, by rw [HDN.out]; unfold dropS Wld.shp; simp only; rw [HOO.out.1, HSS.out]⟩)⟩, ?_⟩
              · simp [results, Try.results38, go_sem, y0, y1, y2, y3, y4, y5, y6, y7, y8]
              · first | exact HF9.out.1 | (rw [← HS0.out.2]; exact HF9.out.1)
              · first | exact HF9.out.2 | (rw [← HS0.out.2]; exact HF9.out.2)
          · have dA : decide ((j : Int) < td) = true := by simp; omega
            have dB : decide (0 < td - (j : Int)) = true := by simp; omega
            have dC : decide (Sv + (j : Int) < 1000000) = false := by have := HBW.out.2; simp; omega
            by_cases hj0 : j = 0
            · have HJ0 : Hid (j = 0) := hj0
              clear hj0
              obtain ⟨⟨t1, t6⟩, ⟨z4, z6⟩, s1⟩ := HRD.out wr (Below.refl _ _)
              go_wp2_with fail
              go_quiet (fail)
              rename_i nq
              obtain ⟨w4, hw4⟩ : ∃ w4, wr.drewN nq = w4 := ⟨_, rfl⟩
              rw [hw4]
              have HB4 : Hid (Below w.heap.size w w4) := by unfold Hid; rw [← hw4]; exact below_drewN HBW.out.1 _
              have HS4 : Hid (sit (J + 1 + 1 + 1) J (J + 1) (J + 1 + 1) w4 ⟨A, B, p, n, c, l, (some ab), nb, cb, lb, qs, ls.length, es, ls, qm, lm.length, em, lm, (some ⟨gt, 0, none⟩), lt.length, et, lt, N, T⟩ ⟨2, dw, dx, dy, da⟩) := by
                have e1 : ls.set O (Sv + ((0 : Nat) : Int)) = ls := by simp only [Int.natCast_zero, Int.add_zero]; exact set_same' HOO.out.2.2
                have e2 : lt.set k (Trp.load ⟨ti, to_, tk, tx, ty, tf, td⟩ (td - ((0 : Nat) : Int))) = lt := by simp only [Int.natCast_zero, Int.sub_zero]; exact set_same' HKT.out
                have h := HS.out.1
                rw [HJ0.out, e1, e2] at h
                unfold Hid
                rw [← hw4]
                exact sit_below h (below_drewN (Below.refl _ _) _)
              have dj : decide (0 < (j : Int)) = false := by simp [HJ0.out]
              have dj2 : decide (0 < j) = false := by simp [HJ0.out]
              clear hw4 t1 t6 z4 z6 s1
              obtain ⟨ra, rb, rc, rd, re, rf, rg, rh, ri, hrr⟩ := HS4.out.r
              obtain ⟨u9, hu9⟩ : ∃ u9, (((((((((w4.setCell ⟨J + 1 + 1, 0, none⟩ (.int .i64 A)).setCell ⟨J + 1 + 1, 1, none⟩ (.int .i64 B)).setCell ⟨J + 1 + 1, 2, none⟩ (.slice p n c)).setCell ⟨J + 1 + 1, 3, none⟩ (.slice (some ab) nb cb)).setCell ⟨J + 1 + 1, 4, none⟩ (.slice qs ls.length es)).setCell ⟨J + 1 + 1, 5, none⟩ (.slice qm lm.length em)).setCell ⟨J + 1 + 1, 6, none⟩ (.slice (some ⟨gt, 0, none⟩) lt.length et)).setCell ⟨J + 1 + 1, 7, none⟩ (.int .i64 N)).setCell ⟨J + 1 + 1, 8, none⟩ (.int .i64 T)) = u9 := ⟨_, rfl⟩
              obtain ⟨x9, e9⟩ := set9 hrr hu9.symm
              have HF9 : Hid (sown w.heap.size u9 ⟨A, B, p, n, c, l, (some ab), nb, cb, lb, qs, ls.length, es, ls, qm, lm.length, em, lm, (some ⟨gt, 0, none⟩), lt.length, et, lt, N, T⟩ ∧ Below w.heap.size w u9) := ⟨sown_mono (sown_ex HS4.out.o e9 (by intro g hg; omega)) (by have := HS0.out.2; omega), HB4.out.trans (e9.below HB4.out.size (by intro k hk; have := HS0.out.2; omega))⟩
              obtain ⟨y0, y1, y2, y3, y4, y5, y6, y7, y8⟩ := bx9_c9 x9
              obtain ⟨o0, o1, o2, o3, o4, o5, o6, o7, o8⟩ := bx9_c9 hrr
              have fr0 := bx9_free hrr 0
              have fr1 := bx9_free hrr 1
              have fr2 := bx9_free hrr 2
              have fr3 := bx9_free hrr 3
              have fr4 := bx9_free hrr 4
              have fr5 := bx9_free hrr 5
              have fr6 := bx9_free hrr 6
              have fr7 := bx9_free hrr 7
              have fr8 := bx9_free hrr 8
              obtain ⟨z0, z1, z2, z3, z4, z5, z6, z7, z8⟩ := bx9_c9 HS4.out.x
              clear hrr x9 e9
              go_wp2_with fail
              refine ⟨by simp, .tuple #[.agg #[.int .i64 A, .int .i64 B, .slice p n c, .slice (some ab) nb cb, .slice qs ls.length es, .slice qm lm.length em, .slice (some ⟨gt, 0, none⟩) lt.length et, .int .i64 N, .int .i64 T], .bool false], ?_, ⟨⟨A, B, p, n, c, l, (some ab), nb, cb, lb, qs, ls.length, es, ls, qm, lm.length, em, lm, (some ⟨gt, 0, none⟩), lt.length, et, lt, N, T⟩, false, rfl, ⟨rfl, rfl, rfl, rfl, rfl, rfl, rfl, rfl, rfl, rfl, rfl⟩, ?_, ds_drop rfl (.inr ⟨rfl, rfl, fun k t hk e hc => by have h1 := HONE.out k t hk e; rw [h1] at hc; exact (HDC.out.1 hc).1 HJ0.out⟩)⟩, ?_⟩
              · simp [results, Try.results38, go_sem, y0, y1, y2, y3, y4, y5, y6, y7, y8]
              · first | exact HF9.out.1 | (rw [← HS0.out.2]; exact HF9.out.1)
              · first | exact HF9.out.2 | (rw [← HS0.out.2]; exact HF9.out.2)
            · obtain ⟨⟨t1, t6⟩, ⟨z4, z6⟩, s1⟩ := HRD.out wr (Below.refl _ _)
              go_wp2_with fail
              go_quiet (fail)
              rename_i nq
              obtain ⟨w4, hw4⟩ : ∃ w4, wr.drewN nq = w4 := ⟨_, rfl⟩
              rw [hw4]
              have HB4 : Hid (Below w.heap.size w w4) := by unfold Hid; rw [← hw4]; exact below_drewN HBW.out.1 _
              have HS4 : Hid (sit (J + 1 + 1 + 1) J (J + 1) (J + 1 + 1) w4 ⟨A, B, p, n, c, l, (some ab), nb, cb, lb, qs, ls.length, es, (ls.set O (Sv + ((j : Int)))), qm, lm.length, em, lm, (some ⟨gt, 0, none⟩), lt.length, et, (lt.set k (Trp.load ⟨ti, to_, tk, tx, ty, tf, td⟩ (td - ((j : Int))))), N, T⟩ ⟨2, dw, dx, dy, da⟩) := by
                unfold Hid
                rw [← hw4]
                exact sit_below HS.out.1 (below_drewN (Below.refl _ _) _)
              have dj : decide (0 < (j : Int)) = true := by simp; omega
              have dj2 : decide (0 < j) = true := by simp; omega
              clear hw4 t1 t6 z4 z6 s1
              obtain ⟨ra, rb, rc, rd, re, rf, rg, rh, ri, hrr⟩ := HS4.out.r
              obtain ⟨u9, hu9⟩ : ∃ u9, (((((((((w4.setCell ⟨J + 1 + 1, 0, none⟩ (.int .i64 A)).setCell ⟨J + 1 + 1, 1, none⟩ (.int .i64 B)).setCell ⟨J + 1 + 1, 2, none⟩ (.slice p n c)).setCell ⟨J + 1 + 1, 3, none⟩ (.slice (some ab) nb cb)).setCell ⟨J + 1 + 1, 4, none⟩ (.slice qs ls.length es)).setCell ⟨J + 1 + 1, 5, none⟩ (.slice qm lm.length em)).setCell ⟨J + 1 + 1, 6, none⟩ (.slice (some ⟨gt, 0, none⟩) lt.length et)).setCell ⟨J + 1 + 1, 7, none⟩ (.int .i64 N)).setCell ⟨J + 1 + 1, 8, none⟩ (.int .i64 T)) = u9 := ⟨_, rfl⟩
              obtain ⟨x9, e9⟩ := set9 hrr hu9.symm
              have HF9 : Hid (sown w.heap.size u9 ⟨A, B, p, n, c, l, (some ab), nb, cb, lb, qs, ls.length, es, (ls.set O (Sv + ((j : Int)))), qm, lm.length, em, lm, (some ⟨gt, 0, none⟩), lt.length, et, (lt.set k (Trp.load ⟨ti, to_, tk, tx, ty, tf, td⟩ (td - ((j : Int))))), N, T⟩ ∧ Below w.heap.size w u9) := ⟨sown_mono (sown_ex HS4.out.o e9 (by intro g hg; omega)) (by have := HS0.out.2; omega), HB4.out.trans (e9.below HB4.out.size (by intro k hk; have := HS0.out.2; omega))⟩
              obtain ⟨y0, y1, y2, y3, y4, y5, y6, y7, y8⟩ := bx9_c9 x9
              obtain ⟨o0, o1, o2, o3, o4, o5, o6, o7, o8⟩ := bx9_c9 hrr
              have fr0 := bx9_free hrr 0
              have fr1 := bx9_free hrr 1
              have fr2 := bx9_free hrr 2
              have fr3 := bx9_free hrr 3
              have fr4 := bx9_free hrr 4
              have fr5 := bx9_free hrr 5
              have fr6 := bx9_free hrr 6
              have fr7 := bx9_free hrr 7
              have fr8 := bx9_free hrr 8
              obtain ⟨z0, z1, z2, z3, z4, z5, z6, z7, z8⟩ := bx9_c9 HS4.out.x
              clear hrr x9 e9
              go_wp2_with fail
              refine ⟨by simp, .tuple #[.agg #[.int .i64 A, .int .i64 B, .slice p n c, .slice (some ab) nb cb, .slice qs ls.length es, .slice qm lm.length em, .slice (some ⟨gt, 0, none⟩) lt.length et, .int .i64 N, .int .i64 T], .bool true], ?_, ⟨⟨A, B, p, n, c, l, (some ab), nb, cb, lb, qs, ls.length, es, (ls.set O (Sv + ((j : Int)))), qm, lm.length, em, lm, (some ⟨gt, 0, none⟩), lt.length, et, (lt.set k (Trp.load ⟨ti, to_, tk, tx, ty, tf, td⟩ (td - ((j : Int))))), N, T⟩, true, rfl, ⟨rfl, rfl, rfl, rfl, rfl, rfl, rfl, rfl, rfl, rfl, rfl⟩, ?_, ds_drop rfl (.inl ⟨rfl, k, _, HKT.out, HTI.out, HDC.out.2 ⟨hj0, by first | rfl | trivial⟩, by rw [HDN.out]; unfold dropS Wld.shp; simp only; rw [HOO.out.1, HSS.out]⟩)⟩, ?_⟩
              · simp [results, Try.results38, go_sem, y0, y1, y2, y3, y4, y5, y6, y7, y8]
              · first | exact HF9.out.1 | (rw [← HS0.out.2]; exact HF9.out.1)
              · first | exact HF9.out.2 | (rw [← HS0.out.2]; exact HF9.out.2)
end Go.Proofs.Ytdcjjfipnilmpaa
