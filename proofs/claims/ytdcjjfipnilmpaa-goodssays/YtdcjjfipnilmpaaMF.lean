/- What Deeded and DeededAll tell, whatever the deeds are -/
import Derived.Test.YtdcjjfipnilmpaaME
import Derived.Test.YtdcjjfipnilmpaaD1
import Derived.Test.YtdcjjfipnilmpaaD2
import Derived.Test.YtdcjjfipnilmpaaCb
import Derived.Test.YtdcjjfipnilmpaaLv
import Derived.Test.YtdcjjfipnilmpaaD3
import Derived.Test.YtdcjjfipnilmpaaD4
/- What Deeded and DeededAll tell, whatever the deeds are. -/
namespace Go.Proofs.Ytdcjjfipnilmpaa
open Go.RowKit Go.Maps
set_option linter.unusedVariables false

/-- What Deeded tells of a troop that is made: proved in its own text. -/
def DeedMade : Prop := ∀ (s : Wld) (W H : Nat) (d : Ded) (w : World), s.fit w → okw s W H → fitd d → d.k = 3 →
    Calls Try.prog 38 #[s.val, dv d] w fun e w' => dres w.heap.size s (fun s' r => Ds W H s.l s.lb s.shp d s' r) e w' ∧ Below w.heap.size w w'
theorem Deeded_any (hm : DeedMade) (s : Wld) (W H : Nat) (d : Ded) (w : World) (h : s.fit w) (hk : okw s W H) (hd : fitd d) :
    Calls Try.prog 38 #[s.val, dv d] w fun e w' => dres w.heap.size s (fun s' r => Ds W H s.l s.lb s.shp d s' r) e w' ∧ Below w.heap.size w w' := by
  by_cases h1 : d.k = 1
  · exact Deeded_mine s W H d w h hk hd h1
  by_cases h2 : d.k = 2
  · exact Deeded_drop s W H d w h hk hd h2
  by_cases h3 : d.k = 3
  · exact hm s W H d w h hk hd h3
  · exact Deeded_none s W H d w h hk hd h1 h2 h3
/-- A world that is like a right one, but for rows of its own. -/
theorem fit_next {s s' : Wld} {W H B : Nat} {w V : World} (h : s.fit w) (hl : likes s s') (ho : sown B V s') (hk : oks W H s'.l s'.lb s'.shp) (hr : row vi V s.p s.l) (hc : crow V s.pb s.lb) (hT : fits s.T) : s'.fit V := by
  have hN : fits s'.N := by have h1 : 1 ≤ s'.N := hk.n1; have h2 : s'.N ≤ 1000000 := hk.n2; unfold fits; omega
  have xs : ∀ x ∈ s'.ls, fits x := fits_am hk.pl.2.1
  have xm : ∀ x ∈ s'.lm, fits x := fits_am hk.mn.2.1
  have xt := oks_fitt hk
  obtain ⟨A, B', p, n, c, l, pb, nb, cb, lb, ps, ns, cs, ls, pm, nm, cm, lm, pt, nt, ct, lt, N, T⟩ := s
  obtain ⟨A2, B2, p2, n2, c2, l2, pb2, nb2, cb2, lb2, ps2, ns2, cs2, ls2, pm2, nm2, cm2, lm2, pt2, nt2, ct2, lt2, N2, T2⟩ := s'
  obtain ⟨e1, e2, e3, e4, e5, e6, e7, e8, e9, e10, e11⟩ := hl
  simp only at e1 e2 e3 e4 e5 e6 e7 e8 e9 e10 e11
  subst e1 e2 e3 e4 e5 e6 e7 e8 e9 e10 e11
  exact { fA := h.fA, fB := h.fB, r := hr, x := h.x, h := h.h, m := h.m, z := h.z, k := h.k, rb := hc, xb := h.xb, hb := h.hb, mb := h.mb, zb := h.zb, kb := h.kb
          rs := own_row ho.ks, xs := xs, hs := (own_parts ho.ks).1, ms := (own_parts ho.ks).2.2.2
          rm := own_row ho.km, xm := xm, hm := (own_parts ho.km).1, mm := (own_parts ho.km).2.2.2
          rt := own_trow ho.kt, xt := xt, ht := (own_parts ho.kt).1, mt := (own_parts ho.kt).2.2.2, zt := (own_parts ho.kt).2.2.1, kt := (own_parts ho.kt).2.1
          fN := hN, fT := hT }
theorem okw_next {s s' : Wld} {W H : Nat} {V : World} (hk : okw s W H) (hl : likes s s') (ho : oks W H s'.l s'.lb s'.shp) (hf : s'.fit V) : okw s' W H :=
  oks_okw ho (by rw [hl.a]; exact hk.a) (by rw [hl.b]; exact hk.b) hf.hb hf.ht (by rw [hl.t]; exact okw_T hk)
/-- The loop's state: k deeds are told. -/
def dall (w : World) (C F n : Nat) (W H : Nat) (s : Wld) (gs : List Ded) (k : Nat) (v : Value) (wr : World) : Prop :=
  Below w.heap.size w wr ∧ C ≤ wr.heap.size ∧ ∃ (sk : Wld) (bs : List Bool), bx9 wr F (.int .i64 sk.A) (.int .i64 sk.B) (.slice sk.p sk.n sk.c) (.slice sk.pb sk.nb sk.cb) (.slice sk.ps sk.ns sk.cs) (.slice sk.pm sk.nm sk.cm) (.slice sk.pt sk.nt sk.ct) (.int .i64 sk.N) (.int .i64 sk.T) ∧ (∀ V, Ex (fun g => g = F ∨ g = F + 1) wr V → sk.fit V) ∧ okw sk W H ∧ likes s sk ∧ Dr W H s.l s.lb s.shp (gs.take k) sk.shp bs ∧ mine 4 vbl C wr v bs ∧ (sk = s ∨ sown C wr sk) ∧ ∃ a b c e f g h i j, bx9 wr (F + 1) a b c e f g h i j
/-- What DeededAll tells. -/
def dallres (B0 : Nat) (s : Wld) (W H : Nat) (gs : List Ded) (e : Ending) (V : World) : Prop := ∃ (s' : Wld) (p : Option Addr) (c : Nat) (bs : List Bool), e = .returned (.tuple #[s'.val, .slice p bs.length c]) ∧ row vbl V p bs ∧ s'.fit V ∧ likes s s' ∧ Dr W H s.l s.lb s.shp gs s'.shp bs ∧ (s' = s ∨ sown B0 V s')
set_option maxRecDepth 20000 in
set_option maxHeartbeats 8000000 in
theorem DeededAll_at (hm : DeedMade) (s : Wld) (W H : Nat) (pl : Option Addr) (nl cl : Nat) (gs : List Ded) (w : World) (h : s.fit w) (hk : okw s W H) (hg : dor w pl gs) (hx : ∀ t ∈ gs, fitd t) (hn : gs.length = nl) (h200 : nl ≤ 200) :
    Calls Try.prog 13 #[s.val, .slice pl nl cl] w fun e w' => dallres w.heap.size s W H gs e w' ∧ Below w.heap.size w w' := by
  obtain ⟨F, hF⟩ : ∃ F, w.heap.size = F := ⟨_, rfl⟩
  obtain ⟨s0, hs0⟩ : ∃ s0 : Wld, s0 = s := ⟨_, rfl⟩
  obtain ⟨A, B, p, n, c, l, pb, nb, cb, lb, ps, ns, cs, ls, pm, nm, cm, lm, pt, nt, ct, lt, N, T⟩ := s
  have HV0 : Hid (s0 = ⟨A, B, p, n, c, l, pb, nb, cb, lb, ps, ns, cs, ls, pm, nm, cm, lm, pt, nt, ct, lt, N, T⟩) := hs0
  rw [← hs0] at h hk
  obtain ⟨w0, hw0⟩ : ∃ w0, (w.alloc (.cells #[.int .i64 A, .int .i64 B, .slice p n c, .slice pb nb cb, .slice ps ns cs, .slice pm nm cm, .slice pt nt ct, .int .i64 N, .int .i64 T] 28)).alloc (.cells #[.int .i64 0, .int .i64 0, .slice none 0 0, .slice none 0 0, .slice none 0 0, .slice none 0 0, .slice none 0 0, .int .i64 0, .int .i64 0] 28) = w0 := ⟨_, rfl⟩
  have hB0 : Below w.heap.size w w0 := by rw [← hw0]; exact (alloc_below w _).alloc (by simp) _
  have hx0 : bx9 w0 F (.int .i64 A) (.int .i64 B) (.slice p n c) (.slice pb nb cb) (.slice ps ns cs) (.slice pm nm cm) (.slice pt nt ct) (.int .i64 N) (.int .i64 T) := by
    rw [← hw0, ← hF]
    exact bx9_below (box9_new w _ _ _ _ _ _ _ _ _) (alloc_below _ _)
  have hr0 : bx9 w0 (F + 1) (.int .i64 0) (.int .i64 0) (.slice none 0 0) (.slice none 0 0) (.slice none 0 0) (.slice none 0 0) (.slice none 0 0) (.int .i64 0) (.int .i64 0) := by
    rw [← hw0, ← hF]
    have := box9_new (w.alloc (.cells #[.int .i64 A, .int .i64 B, .slice p n c, .slice pb nb cb, .slice ps ns cs, .slice pm nm cm, .slice pt nt ct, .int .i64 N, .int .i64 T] 28)) (.int .i64 0) (.int .i64 0) (.slice none 0 0) (.slice none 0 0) (.slice none 0 0) (.slice none 0 0) (.slice none 0 0) (.int .i64 0) (.int .i64 0)
    rw [World.size_alloc] at this
    exact this
  have HSZ : Hid (w0.heap.size = F + 2 ∧ w.heap.size = F) := ⟨by rw [← hw0, World.size_alloc, World.size_alloc, hF], hF⟩
  have HI0 : Hid (dall w (F + 2) F nl W H s0 gs 0 (.slice none 0 0) w0) := by
    refine ⟨hB0, by rw [HSZ.out.1]; exact Nat.le_refl _, s0, [], ?_, fun V hV => Wld.fit_below h (hB0.trans (hV.below hB0.size (fun j hj e => by have := HSZ.out.2; omega))), hk, likes.refl s0, by simpa using Dr.zero, World.ownsRow_nil _ _ _ _, .inl rfl, _, _, _, _, _, _, _, _, _, hr0⟩
    rw [HV0.out]; exact hx0
  have HM : Hid DeedMade := hm
  have HFK : Hid (s0.fit w ∧ okw s0 W H) := ⟨h, hk⟩
  have HG : Hid (dor w pl gs ∧ (∀ t ∈ gs, fitd t) ∧ gs.length = nl) := ⟨hg, hx, hn⟩
  clear h hk hg hx hn hm hB0 hx0 hr0 hs0
  rw [← HV0.out]
  have e0 : s0.val = .agg #[.int .i64 A, .int .i64 B, .slice p n c, .slice pb nb cb, .slice ps ns cs, .slice pm nm cm, .slice pt nt ct, .int .i64 N, .int .i64 T] := by rw [HV0.out]; rfl
  rw [e0]
  clear e0
  go_enter Try.func13, Try.ntmps13
  go_wp2_with fail
  go_loopw [12, 6] (fun i v wr => ∃ k : Nat, i = .int .i64 (k : Int) ∧ k ≤ nl ∧ Hid (dall w (F + 2) F nl W H s0 gs k v wr)) (fun i _ _ => nl - (intOf i).toNat)
  case atStart => exact ⟨0, rfl, by omega, HI0.out⟩
  case round =>
    obtain ⟨k, rfl, hk, HS⟩ := hrel
    obtain ⟨hBr, hCr, sk, bs, hbx, hft, hok, hlk, hdr, hmb, hsw, hrr⟩ := HS.out
    by_cases hlt : k < nl
    · have hkg : k < gs.length := by rw [HG.out.2.2]; exact hlt
      obtain ⟨a, rfl, hc⟩ := dor_at (dor_below HG.out.1 hBr) hkg
      obtain ⟨t, ht⟩ : ∃ t, gs[k] = t := ⟨_, rfl⟩
      have hfd := HG.out.2.1 _ (List.getElem_mem hkg)
      have hsn := dor_take hkg
      rw [ht] at hc hfd hsn
      have HSN : Hid (gs.take (k + 1) = gs.take k ++ [t]) := hsn
      have hbl : bs.length ≤ 200 := by
        have h1 := dr_len hdr
        rw [List.length_take] at h1
        omega
      obtain ⟨S1, hS1⟩ : ∃ S1 : Wld, S1 = sk := ⟨_, rfl⟩
      have HSK : Hid (S1.fit wr ∧ okw S1 W H ∧ likes s0 S1 ∧ Dr W H s0.l s0.lb s0.shp (gs.take k) S1.shp bs) := by rw [hS1]; exact ⟨hft wr (Ex.refl _ _), hok, hlk, hdr⟩
      obtain ⟨A1, B1, p1, n1, c1, l1, pb1, nb1, cb1, lb1, ps1, ns1, cs1, ls1, pm1, nm1, cm1, lm1, pt1, nt1, ct1, lt1, N1, T1⟩ := sk
      have HV1 : Hid (S1.val = .agg #[.int .i64 A1, .int .i64 B1, .slice p1 n1 c1, .slice pb1 nb1 cb1, .slice ps1 ns1 cs1, .slice pm1 nm1 cm1, .slice pt1 nt1 ct1, .int .i64 N1, .int .i64 T1]) := by unfold Hid; rw [hS1]; rfl
      obtain ⟨dk, dw, dx, dy, da⟩ := t
      obtain ⟨w4, hw4⟩ : ∃ w4, wr.alloc (.cells #[.int .i64 dk, .int .i64 dw, .int .i64 dx, .int .i64 dy, .int .i64 da] 52) = w4 := ⟨_, rfl⟩
      have hb4 : Below wr.heap.size wr w4 := by rw [← hw4]; exact alloc_below _ _
      obtain ⟨D, hD⟩ : ∃ D, wr.heap.size = D := ⟨_, rfl⟩
      have e4 : w4.heap[D]? = some (.cells #[.int .i64 dk, .int .i64 dw, .int .i64 dx, .int .i64 dy, .int .i64 da] 52) := by rw [← hw4, ← hD]; exact World.alloc_heap_new wr _
      have q0 : w4.cell? ⟨D, 0, none⟩ = some (.int .i64 dk) := by simp [World.cell?, e4]
      have q1 : w4.cell? ⟨D, 1, none⟩ = some (.int .i64 dw) := by simp [World.cell?, e4]
      have q2 : w4.cell? ⟨D, 2, none⟩ = some (.int .i64 dx) := by simp [World.cell?, e4]
      have q3 : w4.cell? ⟨D, 3, none⟩ = some (.int .i64 dy) := by simp [World.cell?, e4]
      have q4 : w4.cell? ⟨D, 4, none⟩ = some (.int .i64 da) := by simp [World.cell?, e4]
      have hB4 : Below w.heap.size w w4 := below_step hBr hBr.size hb4
      have HDE : Hid (Calls Try.prog 38 #[.agg #[.int .i64 A1, .int .i64 B1, .slice p1 n1 c1, .slice pb1 nb1 cb1, .slice ps1 ns1 cs1, .slice pm1 nm1 cm1, .slice pt1 nt1 ct1, .int .i64 N1, .int .i64 T1], .agg #[.int .i64 dk, .int .i64 dw, .int .i64 dx, .int .i64 dy, .int .i64 da]] w4 fun e w' => dres w4.heap.size S1 (fun s' r => Ds W H S1.l S1.lb S1.shp ⟨dk, dw, dx, dy, da⟩ s' r) e w' ∧ Below w4.heap.size w4 w') := by
        have h := Deeded_any HM.out S1 W H ⟨dk, dw, dx, dy, da⟩ w4 (Wld.fit_below HSK.out.1 hb4) HSK.out.2.1 hfd
        rw [HV1.out] at h
        exact h
      have HX4 : Hid (bx9 w4 F (.int .i64 A1) (.int .i64 B1) (.slice p1 n1 c1) (.slice pb1 nb1 cb1) (.slice ps1 ns1 cs1) (.slice pm1 nm1 cm1) (.slice pt1 nt1 ct1) (.int .i64 N1) (.int .i64 T1)) := bx9_below hbx hb4
      have HMB4 : Hid (mine 4 vbl (F + 2) w4 u6 bs ∧ bs.length ≤ 200) := ⟨by rw [← hw4]; exact hmb.alloc _, hbl⟩
      have HRR : Hid (∃ a b c e f g h i j, bx9 w4 (F + 1) a b c e f g h i j) := by
        obtain ⟨a, b, c, e, f, g, h, i, j, hr⟩ := hrr
        exact ⟨a, b, c, e, f, g, h, i, j, bx9_below hr hb4⟩
      have HB4 : Hid (Below w.heap.size w w4 ∧ F + 2 ≤ w4.heap.size) := ⟨hB4, Nat.le_trans hCr hb4.size⟩
      obtain ⟨z0, z1, z2, z3, z4, z5, z6, z7, z8⟩ := bx9_c9 HX4.out
      obtain ⟨c0, c1', c2, c3, c4⟩ := hc
      simp only at c0 c1' c2 c3 c4
      have l1 : (k : Int) < nl := by omega
      have l2 : (0 : Int) ≤ k := by omega
      clear hBr hCr hbx hft hok hlk hdr hmb hsw hrr hfd hsn hbl hS1 hb4 hB4 ht HS
      go_wp2_with fail
      refine Calls.mono HDE.out ?_
      rintro e w5 ⟨hres, hb5⟩
      obtain ⟨s', r, rfl, hl', ho', hd'⟩ := hres
      have HB5 : Hid (Below w.heap.size w w5 ∧ w4.heap.size ≤ w5.heap.size) := ⟨below_step HB4.out.1 HB4.out.1.size hb5, hb5.size⟩
      obtain ⟨A2, B2, p2, n2, c2', l2', pb2, nb2, cb2, lb2, ps2, ns2, cs2, ls2, pm2, nm2, cm2, lm2, pt2, nt2, ct2, lt2, N2, T2⟩ := s'
      unfold Wld.val
      dsimp only
      have hx5 := bx9_below HX4.out hb5
      obtain ⟨u9, hu9⟩ : ∃ u9, ((((((((w5.setCell ⟨F, 0, none⟩ (.int .i64 A2)).setCell ⟨F, 1, none⟩ (.int .i64 B2)).setCell ⟨F, 2, none⟩ (.slice p2 n2 c2')).setCell ⟨F, 3, none⟩ (.slice pb2 nb2 cb2)).setCell ⟨F, 4, none⟩ (.slice ps2 ns2 cs2)).setCell ⟨F, 5, none⟩ (.slice pm2 nm2 cm2)).setCell ⟨F, 6, none⟩ (.slice pt2 nt2 ct2)).setCell ⟨F, 7, none⟩ (.int .i64 N2)).setCell ⟨F, 8, none⟩ (.int .i64 T2) = u9 := ⟨_, rfl⟩
      obtain ⟨x9, e9⟩ := set9 hx5 hu9.symm
      have hF := HSZ.out.2
      have hC4 := HB4.out.2
      have hB9 : Below w.heap.size w u9 := HB5.out.1.trans (e9.below HB5.out.1.size (by intro j hj; omega))
      have hs59 : w5.heap.size ≤ u9.heap.size := e9.size
      have hC9 : F + 2 ≤ u9.heap.size := by have := HB5.out.2; omega
      have ho9 := sown_ex ho' e9 (by intro g hg; omega)
      have hm9 : mine 4 vbl (F + 2) u9 u6 bs := own_stays (own_stays HMB4.out.1 (Ex.of_below (S := fun _ => False) hb5) (fun _ _ e => e)) e9 (fun g hg => by have := own_base HMB4.out.1 g hg; omega)
      obtain ⟨v7, w7, hrun7, hm7, hg7⟩ := run_moreb (R := [r]) (d := 1) (m := 1) (hm9.alloc (.cells #[.bool r] 4)) (row_heap (L := [r]) (World.alloc_heap_new u9 _)) rfl (by have := HMB4.out.2; omega) (by rw [World.size_alloc]; omega)
      have HRUN7 : Hid ((Builtin.append_ #[30, 30] 30 #[u6, .slice (some ⟨u9.heap.size, 0, none⟩) 1 1]).run Try.prog (u9.alloc (.cells #[.bool r] 4)) = .ok v7 w7) := hrun7
      have e97 : Ex (fun g => some g = u6.ownBlock) u9 w7 := (Ex.of_below (S := fun g => some g = u6.ownBlock) (alloc_below u9 _)).trans (Ex.of_grown hg7) (fun _ _ e => e)
      have hob := fun g hg => own_base hm9 g hg
      have hB7 : Below w.heap.size w w7 := hB9.trans (e97.below hB9.size (by intro j hj e; have := hob j e.symm; omega))
      have ho7 : sown w4.heap.size w7 ⟨A2, B2, p2, n2, c2', l2', pb2, nb2, cb2, lb2, ps2, ns2, cs2, ls2, pm2, nm2, cm2, lm2, pt2, nt2, ct2, lt2, N2, T2⟩ := ⟨own_stays ho9.ks e97 (own_apart ho9.ks hm9 (by decide)), own_stays ho9.km e97 (own_apart ho9.km hm9 (by decide)), own_stays ho9.kt e97 (own_apart ho9.kt hm9 (by decide)), ho9.ap⟩
      have hx7 := bx9_ex x9 e97 (by intro e; have := hob F e.symm; omega)
      have HNX : Hid (dall w (F + 2) F nl W H s0 gs (k + 1) v7 w7) := by
        have hl2 := HSK.out.2.2.1.trans hl'
        have ho := okw_oks HSK.out.2.1 HSK.out.1.hb HSK.out.1.ht
        have hoks := ds_oks ho hd'
        rw [← hl'.l, ← hl'.lb] at hoks
        have hfs : ∀ V, Ex (fun g => g = F ∨ g = F + 1) w7 V → Wld.fit V ⟨A2, B2, p2, n2, c2', l2', pb2, nb2, cb2, lb2, ps2, ns2, cs2, ls2, pm2, nm2, cm2, lm2, pt2, nt2, ct2, lt2, N2, T2⟩ := fun V hV => by
          have hb : Below w.heap.size w V := hB7.trans (hV.below hB7.size (by intro j hj; omega))
          exact fit_next HFK.out.1 hl2 (sown_ex ho7 hV (by intro g hg; omega)) hoks (row_below HFK.out.1.r hb) (crow_below HFK.out.1.rb hb) HFK.out.1.fT
        refine ⟨hB7, Nat.le_trans hC9 e97.size, _, _, hx7, hfs, okw_next HFK.out.2 hl2 hoks (hfs w7 (Ex.refl _ _)), hl2, ?_, hm7, .inr (sown_mono ho7 hC4), ?_⟩
        · rw [HSN.out]
          refine Dr.more HSK.out.2.2.2 ?_
          rw [← HSK.out.2.2.1.l, ← HSK.out.2.2.1.lb]
          exact hd'
        · obtain ⟨a, b, c, e, f, g, h, i, j, hr⟩ := HRR.out
          exact ⟨a, b, c, e, f, g, h, i, j, bx9_ex (bx9_ex (bx9_below hr hb5) e9 (by omega)) e97 (by intro e; have := hob (F + 1) e.symm; omega)⟩
      obtain ⟨y0, y1, y2, y3, y4, y5, y6, y7, y8⟩ := bx9_c9 hx5
      have fr0 := bx9_free hx5 0
      have fr1 := bx9_free hx5 1
      have fr2 := bx9_free hx5 2
      have fr3 := bx9_free hx5 3
      have fr4 := bx9_free hx5 4
      have fr5 := bx9_free hx5 5
      have fr6 := bx9_free hx5 6
      have fr7 := bx9_free hx5 7
      have fr8 := bx9_free hx5 8
      clear hl' ho' hd' hb5 hx5 x9 e9 hC4 hB9 hs59 hC9 ho9 hm9 hrun7 hm7 hg7 e97 hob hB7 ho7 hx7 z0 z1 z2 z3 z4 z5 z6 z7 z8 q0 q1 q2 q3 q4 hw4 e4 c0 c1' c2 c3 c4
      go_wp2_with (at_builtin; refine wpList_append_run rfl _ _ 30 rfl u6 (.slice (some ⟨u9.heap.size, 0, none⟩) 1 1) rfl rfl HRUN7.out ?_)
      go_wp2_with fail
      go_roundw
      case rel => exact ⟨k + 1, by go_num, by omega, HNX.out⟩
      case measure => simp [intOf]; omega
    · obtain rfl : k = nl := by omega
      have e1 : gs.take k = gs := List.take_of_length_le (by rw [HG.out.2.2]; exact Nat.le_refl _)
      rw [e1] at hdr
      obtain ⟨bp, bc, rfl, hbr, _⟩ := mineb_form hmb
      obtain ⟨ra, rb, rc, re, rf, rg, rh, ri, rj, hrr⟩ := hrr
      obtain ⟨A1, B1, p1, n1, c1, l1, pb1, nb1, cb1, lb1, ps1, ns1, cs1, ls1, pm1, nm1, cm1, lm1, pt1, nt1, ct1, lt1, N1, T1⟩ := sk
      obtain ⟨z0, z1, z2, z3, z4, z5, z6, z7, z8⟩ := bx9_c9 hbx
      simp only at z0 z1 z2 z3 z4 z5 z6 z7 z8
      obtain ⟨u9, hu9⟩ : ∃ u9, ((((((((wr.setCell ⟨F + 1, 0, none⟩ (.int .i64 A1)).setCell ⟨F + 1, 1, none⟩ (.int .i64 B1)).setCell ⟨F + 1, 2, none⟩ (.slice p1 n1 c1)).setCell ⟨F + 1, 3, none⟩ (.slice pb1 nb1 cb1)).setCell ⟨F + 1, 4, none⟩ (.slice ps1 ns1 cs1)).setCell ⟨F + 1, 5, none⟩ (.slice pm1 nm1 cm1)).setCell ⟨F + 1, 6, none⟩ (.slice pt1 nt1 ct1)).setCell ⟨F + 1, 7, none⟩ (.int .i64 N1)).setCell ⟨F + 1, 8, none⟩ (.int .i64 T1) = u9 := ⟨_, rfl⟩
      obtain ⟨x9, e9⟩ := set9 hrr hu9.symm
      have hF := HSZ.out.2
      have hbx9 : row vbl u9 bp bs := by
        obtain ⟨p', c', e, hr, _⟩ := mineb_form (own_stays hmb e9 (fun g hg => by have := own_base hmb g hg; omega))
        simp only [Value.slice.injEq] at e
        rw [e.1]; exact hr
      have HF9 : Hid (row vbl u9 bp bs ∧ Wld.fit u9 ⟨A1, B1, p1, n1, c1, l1, pb1, nb1, cb1, lb1, ps1, ns1, cs1, ls1, pm1, nm1, cm1, lm1, pt1, nt1, ct1, lt1, N1, T1⟩ ∧ Below w.heap.size w u9) := ⟨hbx9, hft u9 (e9.mono (fun _ _ e => .inr e)), hBr.trans (e9.below hBr.size (by intro j hj; omega))⟩
      have HSW : Hid ((⟨A1, B1, p1, n1, c1, l1, pb1, nb1, cb1, lb1, ps1, ns1, cs1, ls1, pm1, nm1, cm1, lm1, pt1, nt1, ct1, lt1, N1, T1⟩ : Wld) = s0 ∨ sown w.heap.size u9 ⟨A1, B1, p1, n1, c1, l1, pb1, nb1, cb1, lb1, ps1, ns1, cs1, ls1, pm1, nm1, cm1, lm1, pt1, nt1, ct1, lt1, N1, T1⟩) := by
        rcases hsw with h | h
        · exact .inl h
        · exact .inr (sown_mono (sown_ex h e9 (by intro g hg; omega)) (by omega))
      have HLK : Hid (likes s0 ⟨A1, B1, p1, n1, c1, l1, pb1, nb1, cb1, lb1, ps1, ns1, cs1, ls1, pm1, nm1, cm1, lm1, pt1, nt1, ct1, lt1, N1, T1⟩ ∧ Dr W H s0.l s0.lb s0.shp gs (Wld.shp ⟨A1, B1, p1, n1, c1, l1, pb1, nb1, cb1, lb1, ps1, ns1, cs1, ls1, pm1, nm1, cm1, lm1, pt1, nt1, ct1, lt1, N1, T1⟩) bs) := ⟨hlk, hdr⟩
      obtain ⟨y0, y1, y2, y3, y4, y5, y6, y7, y8⟩ := bx9_c9 x9
      obtain ⟨o0, o1, o2, o3, o4, o5, o6, o7, o8⟩ := bx9_c9 hrr
      have fr0 := bx9_free hrr 0
      have fr1 := bx9_free hrr 1
      have fr2 := bx9_free hrr 2
      have fr3 := bx9_free hrr 3
      have fr4 := bx9_free hrr 4
      have fr5 := bx9_free hrr 5
      have fr6 := bx9_free hrr 6
      have fr7 := bx9_free hrr 7
      have fr8 := bx9_free hrr 8
      clear hBr hCr hbx hft hok hlk hdr hmb hsw hrr x9 e9 hbx9 hbr e1 HS
      go_wp2_with fail
      refine ⟨by simp, .tuple #[.agg #[.int .i64 A1, .int .i64 B1, .slice p1 n1 c1, .slice pb1 nb1 cb1, .slice ps1 ns1 cs1, .slice pm1 nm1 cm1, .slice pt1 nt1 ct1, .int .i64 N1, .int .i64 T1], .slice bp bs.length bc], ?_, ⟨_, bp, bc, bs, rfl, HF9.out.1, HF9.out.2.1, HLK.out.1, HLK.out.2, by first | exact HSW.out | (rw [← HSZ.out.2]; exact HSW.out)⟩, ?_⟩
      · simp [results, Try.results13, go_sem, y0, y1, y2, y3, y4, y5, y6, y7, y8]
      · first | exact HF9.out.2.2 | (rw [← HSZ.out.2]; exact HF9.out.2.2)
end Go.Proofs.Ytdcjjfipnilmpaa
/- What Deeded tells of a troop that is made. -/
namespace Go.Proofs.Ytdcjjfipnilmpaa
open Go.RowKit Go.Maps
set_option linter.unusedVariables false

theorem Deeded_make : DeedMade := fun s W H d w h hk hd h3 => by
  by_cases hm : makeC s.lb s.shp d.w d.a
  · exact Deeded_make_yes s W H d w h hk hd h3 hm
  · exact Deeded_make_no s W H d w h hk hd h3 hm
end Go.Proofs.Ytdcjjfipnilmpaa
