/- What Deeded tells of a troop that can be made, if a cell is free. -/
import Derived.Test.YtdcjjfipnilmpaaRb
import Derived.Test.YtdcjjfipnilmpaaME
import Derived.Test.YtdcjjfipnilmpaaMR
import Derived.Deep.RegionHeld3
import Derived.Deep.DrawnRows
import Derived.RegionTactic
namespace Go.Proofs.Ytdcjjfipnilmpaa
open Go.RowKit Go.Maps
set_option linter.unusedVariables false

set_option maxRecDepth 40000 in
set_option maxHeartbeats 16000000 in
theorem Deeded_make_yes (s : Wld) (W H : Nat) (d : Ded) (w : World) (h : s.fit w) (hk : okw s W H) (hd : fitd d) (hk1 : d.k = 3) (hmc : makeC s.lb s.shp d.w d.a) :
    Calls Try.prog 38 #[s.val, dv d] w fun e w' => dres w.heap.size s (fun s' r => Ds W H s.l s.lb s.shp d s' r) e w' ∧ Below w.heap.size w w' := by
  have HK : Hid (d.k = 3) := hk1
  have HMC : Hid (makeC s.lb s.shp d.w d.a) := hmc
  clear hk1 hmc
  have HOK : Hid (oks W H s.l s.lb s.shp ∧ s.A = W ∧ s.B = H) := ⟨okw_oks hk h.hb h.ht, hk.a, hk.b⟩
  have HPB : Hid (row vi w s.p s.l ∧ s.l.length = s.n ∧ crow w s.pb s.lb ∧ s.lb.length = s.nb) := ⟨h.r, h.h, h.rb, h.hb⟩
  have HC1 : Hid (∀ V, Below w.heap.size w V → Calls Try.prog 24 #[.slice s.ps s.ns s.cs] V fun e w' => (∃ v, e = .returned v ∧ w'.ownsRow V.heap.size 3 1 v s.ls.length (s.ls.map vi)) ∧ Below V.heap.size V w') := fun V hV => by
    refine (Clonei_any s.ps s.ns s.cs s.ls V (row_below h.rs hV) h.hs (by have := HOK.out.1.pl.1; have := HOK.out.1.nb; have := h.hs; have e : s.shp.ls.length = s.ls.length := rfl; omega)).mono ?_
    rintro e w' ⟨⟨v, rfl, hv, _⟩, hb⟩
    exact ⟨⟨v, rfl, hv⟩, hb⟩
  have HC2 : Hid (∀ V, Below w.heap.size w V → Calls Try.prog 24 #[.slice s.pm s.nm s.cm] V fun e w' => (∃ v, e = .returned v ∧ w'.ownsRow V.heap.size 3 1 v s.lm.length (s.lm.map vi)) ∧ Below V.heap.size V w') := fun V hV => by
    refine (Clonei_any s.pm s.nm s.cm s.lm V (row_below h.rm hV) h.hm (by
      have h1 := HOK.out.1.mn.1
      have h2 := HOK.out.1.f.2.2.1
      have h3 := wh_le HOK.out.1.f.1 HOK.out.1.f.2.1
      have h4 := h.hm
      have e : s.shp.lm.length = s.lm.length := rfl
      omega)).mono ?_
    rintro e w' ⟨⟨v, rfl, hv, _⟩, hb⟩
    exact ⟨⟨v, rfl, hv⟩, hb⟩
  have HC3 : Hid (∀ V, Below w.heap.size w V → Calls Try.prog 23 #[.slice s.pt s.nt s.ct] V fun e w' => (∃ v, e = .returned v ∧ w'.ownsRow V.heap.size 47 7 v s.lt.length (flat7 s.lt)) ∧ Below V.heap.size V w') := fun V hV => by
    refine (Clonet_any s.pt s.nt s.ct s.lt V (trow_below h.rt hV) h.ht (by have := HOK.out.1.nt; have := h.ht; have e : s.shp.lt.length = s.lt.length := rfl; omega)).mono ?_
    rintro e w' ⟨⟨v, rfl, hv, _⟩, hb⟩
    exact ⟨⟨v, rfl, hv⟩, hb⟩
  have HFD : Hid (fitd d) := hd
  clear h hk hd
  obtain ⟨A, B, p, n, c, l, pb, nb, cb, lb, ps, ns, cs, ls, pm, nm, cm, lm, pt, nt, ct, lt, N, T⟩ := s
  obtain ⟨dk, dw, dx, dy, da⟩ := d
  unfold Wld.val dv
  dsimp only at *
  obtain ⟨J, hJ⟩ : ∃ J, w.heap.size = J := ⟨_, rfl⟩
  obtain ⟨w0, hw0⟩ : ∃ w0, ((w.alloc (.cells #[.int .i64 A, .int .i64 B, .slice p n c, .slice pb nb cb, .slice ps ns cs, .slice pm nm cm, .slice pt nt ct, .int .i64 N, .int .i64 T] 28)).alloc (.cells #[.int .i64 dk, .int .i64 dw, .int .i64 dx, .int .i64 dy, .int .i64 da] 52)).alloc (.cells #[.int .i64 0, .int .i64 0, .slice none 0 0, .slice none 0 0, .slice none 0 0, .slice none 0 0, .slice none 0 0, .int .i64 0, .int .i64 0] 28) = w0 := ⟨_, rfl⟩
  have hB0 : Below w.heap.size w w0 := by rw [← hw0]; exact ((alloc_below w _).alloc (by simp) _).alloc (by simp; omega) _
  have hx0 : bx9 w0 J (.int .i64 A) (.int .i64 B) (.slice p n c) (.slice pb nb cb) (.slice ps ns cs) (.slice pm nm cm) (.slice pt nt ct) (.int .i64 N) (.int .i64 T) := by
    rw [← hw0, ← hJ]
    exact bx9_below (bx9_below (box9_new w _ _ _ _ _ _ _ _ _) (alloc_below _ _)) (alloc_below _ _)
  have hd0 : bxd w0 (J + 1) ⟨dk, dw, dx, dy, da⟩ := by
    rw [← hw0, ← hJ]
    refine bxd_ex (S := fun _ => False) ?_ (Ex.of_below (alloc_below _ _)) (fun e => e)
    have := World.alloc_heap_new (w.alloc (.cells #[.int .i64 A, .int .i64 B, .slice p n c, .slice pb nb cb, .slice ps ns cs, .slice pm nm cm, .slice pt nt ct, .int .i64 N, .int .i64 T] 28)) (.cells #[.int .i64 dk, .int .i64 dw, .int .i64 dx, .int .i64 dy, .int .i64 da] 52)
    rw [World.size_alloc] at this
    exact this
  have hr0 : bx9 w0 (J + 1 + 1) (.int .i64 0) (.int .i64 0) (.slice none 0 0) (.slice none 0 0) (.slice none 0 0) (.slice none 0 0) (.slice none 0 0) (.int .i64 0) (.int .i64 0) := by
    rw [← hw0, ← hJ]
    have := box9_new ((w.alloc (.cells #[.int .i64 A, .int .i64 B, .slice p n c, .slice pb nb cb, .slice ps ns cs, .slice pm nm cm, .slice pt nt ct, .int .i64 N, .int .i64 T] 28)).alloc (.cells #[.int .i64 dk, .int .i64 dw, .int .i64 dx, .int .i64 dy, .int .i64 da] 52)) (.int .i64 0) (.int .i64 0) (.slice none 0 0) (.slice none 0 0) (.slice none 0 0) (.slice none 0 0) (.slice none 0 0) (.int .i64 0) (.int .i64 0)
    rw [World.size_alloc, World.size_alloc] at this
    exact this
  have hs0 : w0.heap.size = J + 1 + 1 + 1 := by rw [← hw0, World.size_alloc, World.size_alloc, World.size_alloc, hJ]
  have HB0 : Hid (Below w.heap.size w w0) := hB0
  have HS0 : Hid (w0.heap.size = J + 1 + 1 + 1 ∧ w.heap.size = J) := ⟨hs0, hJ⟩
  have HX0 : Hid (bx9 w0 J (.int .i64 A) (.int .i64 B) (.slice p n c) (.slice pb nb cb) (.slice ps ns cs) (.slice pm nm cm) (.slice pt nt ct) (.int .i64 N) (.int .i64 T)) := hx0
  have HD0 : Hid (bxd w0 (J + 1) ⟨dk, dw, dx, dy, da⟩ ∧ bx9 w0 (J + 1 + 1) (.int .i64 0) (.int .i64 0) (.slice none 0 0) (.slice none 0 0) (.slice none 0 0) (.slice none 0 0) (.slice none 0 0) (.int .i64 0) (.int .i64 0)) := ⟨hd0, hr0⟩
  have HUP : Hid (∀ V, Ex (fun g => g = J) w0 V → Below w.heap.size w V) := fun V hV => HB0.out.trans (hV.below HB0.out.size (fun k hk e => by have := HS0.out.2; omega))
  clear hB0 hx0 hd0 hr0 hs0
  go_enter Try.func38, Try.ntmps38
  go_wp2_with fail
  clear hw0
  refine regd1 J A B N T p pb ps pm pt n c nb cb ns cs nm cm nt ct ls lm lt w0 _ _ _ _ _ _ _ _ _ _ _ _ _ _ _ _ _ _ _ _ _ _ _ _ _ _ _ _ _ _ _ _ _ _ _ _ _ _ _ _ _ _ _ _ _ _ _ _ _ _ _ _ _ _ _ _ _ _ _ _ _ _ _ _ _ _ _ _ _ _ _ _ _ _ _ _ _ _ _ _ _ _ _ _ _ _ _ _ _ _ _ _ _ _ _ _ _ _ _ _ _ _ _ _ _ _ _ _ _ _ _ _ _ _ _ _ _ _ _ _ _ _ _ _ _ _ _ _ _ _ _ _ _ _ _ _ _ _ _ _ _ _ _ _ _ _ _ _ _ _ _ _ _ _ _ _ _ _ _ _ _ _ _ _ _ _ _ _ _ _ _ _ _ _ _ _ _ _ _ _ _ _ _ _ _ _ _ _ _ _ _ _ _ _ _ _ _ _ _ _ _ _ _ _ _ _ _ _ _ _ _ _ _ _ _ _ _ _ _ _ _ _ _ _ _ _ _ _ _ _ _ _ _ _ _ _ _ _ _ _ _ _ _ _ _ _ _ _ _ _ _ _ _ _ _ _ _ _ _ _ _ _ _ _ _ _ _ _ _ _ _ _ _ _ _ _ _ _ _ _ _ _ _ _ _ _ _ _ _ _ _ _ HX0.out (fun V hV => HC1.out V (HUP.out V hV)) (fun V hV => HC2.out V (HUP.out V hV)) (fun V hV => HC3.out V (HUP.out V hV)) ?_
  intro qs es qm em qt et w1 he hx os om ot ap
  obtain ⟨s1, hs1⟩ : ∃ s1 : Wld, s1 = ⟨A, B, p, n, c, l, pb, nb, cb, lb, qs, ls.length, es, ls, qm, lm.length, em, lm, qt, lt.length, et, lt, N, T⟩ := ⟨_, rfl⟩
  have HSIT1 : Hid (sit (J + 1 + 1 + 1) J (J + 1) (J + 1 + 1) w1 ⟨A, B, p, n, c, l, pb, nb, cb, lb, qs, ls.length, es, ls, qm, lm.length, em, lm, qt, lt.length, et, lt, N, T⟩ ⟨dk, dw, dx, dy, da⟩) := by
    rw [HS0.out.1] at os om ot
    exact ⟨hx, bxd_ex HD0.out.1 he (by omega), ⟨_, _, _, _, _, _, _, _, _, bx9_ex HD0.out.2 he (by omega)⟩, ⟨os, om, ot, ap⟩, by omega, by omega, by omega⟩
  have HB1 : Hid (Below w.heap.size w w1) := HUP.out w1 he
  clear he hx os om ot ap hs1
  obtain ⟨z0, z1, z2, z3, z4, z5, z6, z7, z8⟩ := bx9_c9 HSIT1.out.x
  have HIX : Hid (Calls Try.prog 50 #[.slice qt lt.length et, .func (.func 51) #[] #[.pointer (some ⟨J + 1, 0, none⟩)]] w1 fun e w' => (∃ r, e = .returned (.int .i64 r) ∧ Hid (fst1 (fun t => t.i == dw) lt r)) ∧ Below w1.heap.size w1 w') :=
    IndexFunct_any Try.call51 _ qt lt.length et lt (fun t => t.i == dw) w1 (own_trow HSIT1.out.o.kt) rfl (by have h := HOK.out.1.nt; have e : (Wld.shp ⟨A, B, p, n, c, l, pb, nb, cb, lb, ps, ns, cs, ls, pm, nm, cm, lm, pt, nt, ct, lt, N, T⟩).lt.length = lt.length := rfl; omega)
      (fun t V2 _ hV2 => Who1_at t dw (J + 1) V2 (cell_call2 (bxd_cells HSIT1.out.d).2.1 hV2))
  clear HC1 HC2 HC3 HX0 HD0
  go_wp2_with fail
  refine Calls.mono HIX.out ?_
  rintro e w2 ⟨⟨r, rfl, hfr⟩, hb2⟩
  have HFR : Hid (fst1 (fun t => t.i == dw) lt r) := hfr.out
  have HSIT : Hid (sit (J + 1 + 1 + 1) J (J + 1) (J + 1 + 1) w2 ⟨A, B, p, n, c, l, pb, nb, cb, lb, qs, ls.length, es, ls, qm, lm.length, em, lm, qt, lt.length, et, lt, N, T⟩ ⟨dk, dw, dx, dy, da⟩) := sit_below HSIT1.out hb2
  have HB2 : Hid (Below w.heap.size w w2) := below_call HB1.out HB1.out.size hb2
  clear hfr hb2 HIX z0 z1 z2 z3 z4 z5 z6 z7 z8
  have e1 : dk = 3 := HK.out
  subst e1
  have hA : 0 ≤ dw ∧ dw ≤ (nb : Int) - 1 := by have h1 := HMC.out.2.1; have h2 : dw < (lb.length : Int) := HMC.out.2.2.1; have h3 := HPB.out.2.2.2; omega
  have hB : 1 ≤ da ∧ da ≤ 2 := by have h1 : da = 1 ∨ da = 2 := HMC.out.1; omega
  obtain ⟨q0, q1, q2, q3, q4⟩ := bxd_cells HSIT.out.d
  obtain ⟨z0, z1, z2, z3, z4, z5, z6, z7, z8⟩ := bx9_c9 HSIT.out.x
  have hnb : lb.length = nb := HPB.out.2.2.2
  have hnb8 : nb ≤ 8 := by have h1 : lb.length ≤ 8 := HOK.out.1.nb; omega
  have eW : IntKind.i64.wrap ((nb : Int) - 1) = (nb : Int) - 1 := wrp (by omega) (by omega)
  obtain ⟨PI, hPI⟩ : ∃ PI : Nat, dw = PI := ⟨dw.toNat, by omega⟩
  subst hPI
  have HC1 : Hid ((decide ((0 : Int) ≤ (PI : Int)) && decide ((PI : Int) ≤ (nb : Int) - 1)) = true) := by unfold Hid; simp only [Bool.and_eq_true, decide_eq_true_eq]; exact hA
  have hPl : PI < lb.length := by omega
  have HPL : Hid (PI < lb.length) := hPl
  have hcb := crow_at (crow_below HPB.out.2.2.1 HB2.out) hPl
  obtain ⟨ab, rfl, hb1, hb2⟩ := hcb
  have hb2' := cell_two hb2
  obtain ⟨cB, hc⟩ : ∃ cB, lb[PI]'hPl = cB := ⟨_, rfl⟩
  have hcin : inb W H cB.x cB.y = true := by rw [← hc]; exact opn_inb (HOK.out.1.pl.2.2.1 PI hPl)
  obtain ⟨X, Y, hcx, hcy, hX, hY⟩ := inb_nat hcin
  have hcc : cB = ⟨X, Y⟩ := by cases cB; simp only at hcx hcy; rw [hcx, hcy]
  have hgd : lb.getD PI ⟨0, 0⟩ = ⟨X, Y⟩ := by rw [List.getD_eq_getElem?_getD, List.getElem?_eq_getElem hPl, hc, hcc]; rfl
  rw [hc, hcc] at hb1 hb2'
  simp only at hb1 hb2'
  have HBC : Hid (∀ U, Below w2.heap.size w2 U → U.cell? (ab.add (PI * 2)) = some (.int .i64 (X : Int)) ∧ U.cell? ⟨(ab.add (PI * 2)).block, (ab.add (PI * 2)).off + 1, none⟩ = some (.int .i64 (Y : Int))) := fun U hU => ⟨cell_call2 hb1 hU, cell_call2 hb2' hU⟩
  have HGD : Hid (lb.getD PI ⟨0, 0⟩ = ⟨X, Y⟩) := hgd
  have hX40 : X < 40 := by have := HOK.out.1.f.1.2; omega
  have hY40 : Y < 40 := by have := HOK.out.1.f.2.1.2; omega
  clear hb1 hb2 hb2' hc hcin hcx hcy hX hY hcc hgd
  have HC2 : Hid ((decide ((1 : Int) ≤ da) && decide (da ≤ 2)) = true) := by unfold Hid; simp only [Bool.and_eq_true, decide_eq_true_eq]; exact hB
  have hda : da = 1 ∨ da = 2 := by omega
  have HDA : Hid (da = 1 ∨ da = 2) := hda
  obtain ⟨L, hL⟩ : ∃ L, lifeOf da = L := ⟨_, rfl⟩
  obtain ⟨P, hP⟩ : ∃ P, priceOf da = P := ⟨_, rfl⟩
  obtain ⟨r0, hr0⟩ : ∃ r0 : Int, (if da = 2 then 2 else 1) = r0 := ⟨_, rfl⟩
  obtain ⟨g0, hg0⟩ : ∃ g0 : Int, (if da = 2 then 4 else 1) = g0 := ⟨_, rfl⟩
  have HKD : Hid (∀ U, Calls Try.prog 37 #[.int .i64 da] U fun e w' => e = .returned (.agg #[.int .i64 L, .int .i64 r0, .int .i64 g0, .int .i64 P]) ∧ Below U.heap.size U w') := fun U => by
    have h := kindOf_12 da hda U
    rw [hL, hP, hr0, hg0] at h
    exact h
  have HL : Hid (lifeOf da = L ∧ priceOf da = P) := ⟨hL, hP⟩
  have hPb : 0 ≤ P ∧ P ≤ 12 := by rw [← hP]; unfold priceOf; split <;> omega
  have hls : ls.length = lb.length := HOK.out.1.pl.1
  have hPs : PI < ls.length := by omega
  obtain ⟨gs, rfl, s1, fs, hCs, hls2⟩ := own_cell HSIT.out.o.ks hPs
  obtain ⟨Sv, hSv⟩ : ∃ Sv, ls.getD PI 0 = Sv := ⟨_, rfl⟩
  rw [hSv] at s1
  have HSV : Hid (ls.getD PI 0 = Sv) := hSv
  have hSb : 0 ≤ Sv ∧ Sv ≤ 1000000 := by rw [← hSv]; exact am_at HOK.out.1.pl.2.1 PI
  have pS : (PI : Int) < (ls.length : Int) := by omega
  have p0 : (0 : Int) ≤ PI := by omega
  have hlt : lt.length ≤ 100 := HOK.out.1.nt
  have hN1 : 1 ≤ N := HOK.out.1.n1
  have hN2 : N ≤ 1000000 := HOK.out.1.n2
  have kf := kfield3
  have HNB : Hid (lb.length = nb ∧ nb ≤ 8 ∧ ls.length = lb.length) := ⟨hnb, hnb8, hls⟩
  clear hL hP hr0 hg0 hSv hda hnb hls fs hCs hls2 hPl hPs
  have pB : (PI : Int) < (nb : Int) := by omega
  have d1 : decide (Sv < P) = false := by
    have h1 := HMC.out.2.2.2.1
    have h2 : ls.getD PI 0 = Sv := HSV.out
    rw [HL.out.2, Int.toNat_natCast] at h1
    have h3 : P ≤ ls.getD PI 0 := h1
    simp; omega
  have hPS : P ≤ Sv := by simpa using d1
  have hn99 : lt.length ≤ 99 := by have h1 : lt.length < 100 := HMC.out.2.2.2.2.1; omega
  have d2 : decide ((99 : Int) < (lt.length : Int)) = false := by simp; omega
  have d2b : decide (99 < lt.length) = false := by simp; omega
  have hN6 : N ≤ 999999 := by have h1 : N < 1000000 := HMC.out.2.2.2.2.2; omega
  have d3 : decide (999999 < N) = false := by simp; omega
  go_wp2_with fail
  refine wp_region_noPanic ?_
  refine wp_region_held_drew (S := (fun U => Below w2.heap.size w2 U ∧ U.cell? ⟨J + 1, 1, none⟩ = some (.int .i64 (PI : Int)) ∧ U.cell? ⟨J, 3, none⟩ = some (.slice (some ab) nb cb) ∧ U.cell? ⟨J + 1, 4, none⟩ = some (.int .i64 da) ∧ U.cell? ⟨J, 4, none⟩ = some (.slice (some ⟨gs, 0, none⟩) ls.length es) ∧ U.cell? ⟨J, 6, none⟩ = some (.slice qt lt.length et) ∧ U.cell? ⟨J, 7, none⟩ = some (.int .i64 N) ∧ U.cell? ⟨gs, PI, none⟩ = some (.int .i64 Sv))) (by kernel_rfl) ⟨Below.drew (Below.refl _ _), q1, z3, q4, z4, z6, z7, s1⟩ (fun hHeld => ?_)
  refine wpAnyH_take (i := 0) (oi := ?oF0) (v := .pointer (some ⟨J + 1, 1, none⟩)) ?hiF0 (by kernel_rfl) (by kernel_rfl) (by kernel_rfl) (fun _ _ _ h => h) ?hyF0 hHeld ?restF0
  case hiF0 => simp only [List.getElem?_toArray, List.getElem?_cons_zero]; first | done | rfl
  case hyF0 => exact Or.inl ⟨by rfl, by intro V hV; obtain ⟨s0, s1, s2, s3, s4, s5, s6, s7⟩ := hV; go_simp⟩
  try simp only [Act.put, List.setIfInBounds_toArray, List.set_cons_zero, List.set_cons_succ]
  refine wpAnyH_take (i := 1) (oi := ?oF1) (v := .int .i64 (PI : Int)) ?hiF1 (by kernel_rfl) (by kernel_rfl) (by kernel_rfl) (fun _ _ _ h => h) ?hyF1 hHeld ?restF1
  case hiF1 => simp only [List.getElem?_toArray, List.getElem?_cons_zero, List.getElem?_cons_succ]; first | done | rfl
  case hyF1 => exact Or.inl ⟨by rfl, by intro V hV; obtain ⟨s0, s1, s2, s3, s4, s5, s6, s7⟩ := hV; go_simp⟩
  try simp only [Act.put, List.setIfInBounds_toArray, List.set_cons_zero, List.set_cons_succ]
  refine wpAnyH_take (i := 2) (oi := ?oF2) (v := .pointer (some ⟨J, 3, none⟩)) ?hiF2 (by kernel_rfl) (by kernel_rfl) (by kernel_rfl) (fun _ _ _ h => h) ?hyF2 hHeld ?restF2
  case hiF2 => simp only [List.getElem?_toArray, List.getElem?_cons_zero, List.getElem?_cons_succ]; first | done | rfl
  case hyF2 => exact Or.inl ⟨by rfl, by intro V hV; obtain ⟨s0, s1, s2, s3, s4, s5, s6, s7⟩ := hV; go_simp⟩
  try simp only [Act.put, List.setIfInBounds_toArray, List.set_cons_zero, List.set_cons_succ]
  refine wpAnyH_take (i := 3) (oi := ?oF3) (v := .slice (some ab) nb cb) ?hiF3 (by kernel_rfl) (by kernel_rfl) (by kernel_rfl) (fun _ _ _ h => h) ?hyF3 hHeld ?restF3
  case hiF3 => simp only [List.getElem?_toArray, List.getElem?_cons_zero, List.getElem?_cons_succ]; first | done | rfl
  case hyF3 => exact Or.inl ⟨by rfl, by intro V hV; obtain ⟨s0, s1, s2, s3, s4, s5, s6, s7⟩ := hV; go_simp⟩
  try simp only [Act.put, List.setIfInBounds_toArray, List.set_cons_zero, List.set_cons_succ]
  refine wpAnyH_take (i := 4) (oi := ?oF4) (v := .int .i64 (nb : Int)) ?hiF4 (by kernel_rfl) (by kernel_rfl) (by kernel_rfl) (fun _ _ _ h => h) ?hyF4 hHeld ?restF4
  case hiF4 => simp only [List.getElem?_toArray, List.getElem?_cons_zero, List.getElem?_cons_succ]; first | done | rfl
  case hyF4 => exact Or.inl ⟨by rfl, by intro V hV; obtain ⟨s0, s1, s2, s3, s4, s5, s6, s7⟩ := hV; go_simp⟩
  try simp only [Act.put, List.setIfInBounds_toArray, List.set_cons_zero, List.set_cons_succ]
  refine wpAnyH_take (i := 5) (oi := ?oF5) (v := .int .i64 ((nb : Int) - 1)) ?hiF5 (by kernel_rfl) (by kernel_rfl) (by kernel_rfl) (fun _ _ _ h => h) ?hyF5 hHeld ?restF5
  case hiF5 => simp only [List.getElem?_toArray, List.getElem?_cons_zero, List.getElem?_cons_succ]; first | done | rfl
  case hyF5 => exact Or.inl ⟨by rfl, by intro V hV; obtain ⟨s0, s1, s2, s3, s4, s5, s6, s7⟩ := hV; go_simp⟩
  try simp only [Act.put, List.setIfInBounds_toArray, List.set_cons_zero, List.set_cons_succ]
  refine wpAnyH_ready (rs := [6]) (by kernel_rfl) (by simp) ?_
  refine AllReadyH.cons (o := ?oF6) ?hiF6 (fun K hK => ?stepF6) AllReadyH.nil
  case hiF6 => simp only [List.getElem?_toArray, List.getElem?_cons_zero, List.getElem?_cons_succ]; first | done | rfl
  go_simp
  go_at_call 35
  refine (Between_at (PI : Int) 0 ((nb : Int) - 1) true _ HC1).mono ?_
  rintro e w3 ⟨rfl, rfl⟩
  go_wp2_with fail
  refine hK.out _ _ hHeld (fun hHeldb => ?_)
  clear hK K
  try simp only [Act.put, List.setIfInBounds_toArray, List.set_cons_zero, List.set_cons_succ]
  refine wpAnyH_take (i := 7) (oi := ?oF7) (v := .bool false) ?hiF7 (by kernel_rfl) (by kernel_rfl) (by kernel_rfl) (fun _ _ _ h => h) ?hyF7 hHeldb ?restF7
  case hiF7 => simp only [List.getElem?_toArray, List.getElem?_cons_zero, List.getElem?_cons_succ]; first | done | rfl
  case hyF7 => exact Or.inl ⟨by rfl, by intro V hV; obtain ⟨s0, s1, s2, s3, s4, s5, s6, s7⟩ := hV; go_simp⟩
  try simp only [Act.put, List.setIfInBounds_toArray, List.set_cons_zero, List.set_cons_succ]
  refine wpAnyH_take (i := 8) (oi := ?oF8) (v := .bool false) ?hiF8 (by kernel_rfl) (by kernel_rfl) (by kernel_rfl) (fun _ _ _ h => h) ?hyF8 hHeldb ?restF8
  case hiF8 => simp only [List.getElem?_toArray, List.getElem?_cons_zero, List.getElem?_cons_succ]; first | done | rfl
  case hyF8 => exact Or.inl ⟨by rfl, by intro V hV; obtain ⟨s0, s1, s2, s3, s4, s5, s6, s7⟩ := hV; go_simp⟩
  try simp only [Act.put, List.setIfInBounds_toArray, List.set_cons_zero, List.set_cons_succ]
  refine wpAnyH_take (i := 9) (oi := ?oF9) (v := .pointer (some ⟨J + 1, 4, none⟩)) ?hiF9 (by kernel_rfl) (by kernel_rfl) (by kernel_rfl) (fun _ _ _ h => h) ?hyF9 hHeldb ?restF9
  case hiF9 => simp only [List.getElem?_toArray, List.getElem?_cons_zero, List.getElem?_cons_succ]; first | done | rfl
  case hyF9 => exact Or.inl ⟨by rfl, by intro V hV; obtain ⟨s0, s1, s2, s3, s4, s5, s6, s7⟩ := hV; go_simp⟩
  try simp only [Act.put, List.setIfInBounds_toArray, List.set_cons_zero, List.set_cons_succ]
  refine wpAnyH_take (i := 10) (oi := ?oF10) (v := .int .i64 da) ?hiF10 (by kernel_rfl) (by kernel_rfl) (by kernel_rfl) (fun _ _ _ h => h) ?hyF10 hHeldb ?restF10
  case hiF10 => simp only [List.getElem?_toArray, List.getElem?_cons_zero, List.getElem?_cons_succ]; first | done | rfl
  case hyF10 => exact Or.inl ⟨by rfl, by intro V hV; obtain ⟨s0, s1, s2, s3, s4, s5, s6, s7⟩ := hV; go_simp⟩
  try simp only [Act.put, List.setIfInBounds_toArray, List.set_cons_zero, List.set_cons_succ]
  refine wpAnyH_ready (rs := [11]) (by kernel_rfl) (by simp) ?_
  refine AllReadyH.cons (o := ?oF11) ?hiF11 (fun K hK => ?stepF11) AllReadyH.nil
  case hiF11 => simp only [List.getElem?_toArray, List.getElem?_cons_zero, List.getElem?_cons_succ]; first | done | rfl
  go_simp
  go_at_call 35
  refine (Between_at da 1 2 true _ HC2).mono ?_
  rintro e w3 ⟨rfl, rfl⟩
  go_wp2_with fail
  refine hK.out _ _ hHeldb (fun hHeldc => ?_)
  clear hK K
  try simp only [Act.put, List.setIfInBounds_toArray, List.set_cons_zero, List.set_cons_succ]
  refine wpAnyH_take (i := 12) (oi := ?oF12) (v := .bool false) ?hiF12 (by kernel_rfl) (by kernel_rfl) (by kernel_rfl) (fun _ _ _ h => h) ?hyF12 hHeldc ?restF12
  case hiF12 => simp only [List.getElem?_toArray, List.getElem?_cons_zero, List.getElem?_cons_succ]; first | done | rfl
  case hyF12 => exact Or.inl ⟨by rfl, by intro V hV; obtain ⟨s0, s1, s2, s3, s4, s5, s6, s7⟩ := hV; go_simp⟩
  try simp only [Act.put, List.setIfInBounds_toArray, List.set_cons_zero, List.set_cons_succ]
  refine wpAnyH_take (i := 13) (oi := ?oF13) (v := .bool false) ?hiF13 (by kernel_rfl) (by kernel_rfl) (by kernel_rfl) (fun _ _ _ h => h) ?hyF13 hHeldc ?restF13
  case hiF13 => simp only [List.getElem?_toArray, List.getElem?_cons_zero, List.getElem?_cons_succ]; first | done | rfl
  case hyF13 => exact Or.inl ⟨by rfl, by intro V hV; obtain ⟨s0, s1, s2, s3, s4, s5, s6, s7⟩ := hV; go_simp⟩
  try simp only [Act.put, List.setIfInBounds_toArray, List.set_cons_zero, List.set_cons_succ]
  refine wpAnyH_take (i := 14) (oi := ?oF14) (v := .bool false) ?hiF14 (by kernel_rfl) (by kernel_rfl) (by kernel_rfl) (fun _ _ _ h => h) ?hyF14 hHeldc ?restF14
  case hiF14 => simp only [List.getElem?_toArray, List.getElem?_cons_zero, List.getElem?_cons_succ]; first | done | rfl
  case hyF14 => exact Or.inl ⟨by rfl, by intro V hV; obtain ⟨s0, s1, s2, s3, s4, s5, s6, s7⟩ := hV; go_simp⟩
  try simp only [Act.put, List.setIfInBounds_toArray, List.set_cons_zero, List.set_cons_succ]
  refine wpAnyH_take (i := 15) (oi := ?oF15) (v := .pointer (some ⟨J, 4, none⟩)) ?hiF15 (by kernel_rfl) (by kernel_rfl) (by kernel_rfl) (fun _ _ _ h => h) ?hyF15 hHeldc ?restF15
  case hiF15 => simp only [List.getElem?_toArray, List.getElem?_cons_zero, List.getElem?_cons_succ]; first | done | rfl
  case hyF15 => exact Or.inl ⟨by rfl, by intro V hV; obtain ⟨s0, s1, s2, s3, s4, s5, s6, s7⟩ := hV; go_simp⟩
  try simp only [Act.put, List.setIfInBounds_toArray, List.set_cons_zero, List.set_cons_succ]
  refine wpAnyH_take (i := 16) (oi := ?oF16) (v := .slice (some ⟨gs, 0, none⟩) ls.length es) ?hiF16 (by kernel_rfl) (by kernel_rfl) (by kernel_rfl) (fun _ _ _ h => h) ?hyF16 hHeldc ?restF16
  case hiF16 => simp only [List.getElem?_toArray, List.getElem?_cons_zero, List.getElem?_cons_succ]; first | done | rfl
  case hyF16 => exact Or.inl ⟨by rfl, by intro V hV; obtain ⟨s0, s1, s2, s3, s4, s5, s6, s7⟩ := hV; go_simp⟩
  try simp only [Act.put, List.setIfInBounds_toArray, List.set_cons_zero, List.set_cons_succ]
  refine wpAnyH_take (i := 17) (oi := ?oF17) (v := .pointer (some ⟨J + 1, 1, none⟩)) ?hiF17 (by kernel_rfl) (by kernel_rfl) (by kernel_rfl) (fun _ _ _ h => h) ?hyF17 hHeldc ?restF17
  case hiF17 => simp only [List.getElem?_toArray, List.getElem?_cons_zero, List.getElem?_cons_succ]; first | done | rfl
  case hyF17 => exact Or.inl ⟨by rfl, by intro V hV; obtain ⟨s0, s1, s2, s3, s4, s5, s6, s7⟩ := hV; go_simp⟩
  try simp only [Act.put, List.setIfInBounds_toArray, List.set_cons_zero, List.set_cons_succ]
  refine wpAnyH_take (i := 18) (oi := ?oF18) (v := .int .i64 (PI : Int)) ?hiF18 (by kernel_rfl) (by kernel_rfl) (by kernel_rfl) (fun _ _ _ h => h) ?hyF18 hHeldc ?restF18
  case hiF18 => simp only [List.getElem?_toArray, List.getElem?_cons_zero, List.getElem?_cons_succ]; first | done | rfl
  case hyF18 => exact Or.inl ⟨by rfl, by intro V hV; obtain ⟨s0, s1, s2, s3, s4, s5, s6, s7⟩ := hV; go_simp⟩
  try simp only [Act.put, List.setIfInBounds_toArray, List.set_cons_zero, List.set_cons_succ]
  refine wpAnyH_take (i := 19) (oi := ?oF19) (v := .pointer (some ⟨gs, PI, none⟩)) ?hiF19 (by kernel_rfl) (by kernel_rfl) (by kernel_rfl) (fun _ _ _ h => h) ?hyF19 hHeldc ?restF19
  case hiF19 => simp only [List.getElem?_toArray, List.getElem?_cons_zero, List.getElem?_cons_succ]; first | done | rfl
  case hyF19 => exact Or.inl ⟨by rfl, by intro V hV; obtain ⟨s0, s1, s2, s3, s4, s5, s6, s7⟩ := hV; go_simp⟩
  try simp only [Act.put, List.setIfInBounds_toArray, List.set_cons_zero, List.set_cons_succ]
  refine wpAnyH_take (i := 20) (oi := ?oF20) (v := .int .i64 Sv) ?hiF20 (by kernel_rfl) (by kernel_rfl) (by kernel_rfl) (fun _ _ _ h => h) ?hyF20 hHeldc ?restF20
  case hiF20 => simp only [List.getElem?_toArray, List.getElem?_cons_zero, List.getElem?_cons_succ]; first | done | rfl
  case hyF20 => exact Or.inl ⟨by rfl, by intro V hV; obtain ⟨s0, s1, s2, s3, s4, s5, s6, s7⟩ := hV; go_simp⟩
  try simp only [Act.put, List.setIfInBounds_toArray, List.set_cons_zero, List.set_cons_succ]
  refine wpAnyH_take (i := 21) (oi := ?oF21) (v := .pointer (some ⟨J + 1, 4, none⟩)) ?hiF21 (by kernel_rfl) (by kernel_rfl) (by kernel_rfl) (fun _ _ _ h => h) ?hyF21 hHeldc ?restF21
  case hiF21 => simp only [List.getElem?_toArray, List.getElem?_cons_zero, List.getElem?_cons_succ]; first | done | rfl
  case hyF21 => exact Or.inl ⟨by rfl, by intro V hV; obtain ⟨s0, s1, s2, s3, s4, s5, s6, s7⟩ := hV; go_simp⟩
  try simp only [Act.put, List.setIfInBounds_toArray, List.set_cons_zero, List.set_cons_succ]
  refine wpAnyH_take (i := 22) (oi := ?oF22) (v := .int .i64 da) ?hiF22 (by kernel_rfl) (by kernel_rfl) (by kernel_rfl) (fun _ _ _ h => h) ?hyF22 hHeldc ?restF22
  case hiF22 => simp only [List.getElem?_toArray, List.getElem?_cons_zero, List.getElem?_cons_succ]; first | done | rfl
  case hyF22 => exact Or.inl ⟨by rfl, by intro V hV; obtain ⟨s0, s1, s2, s3, s4, s5, s6, s7⟩ := hV; go_simp⟩
  try simp only [Act.put, List.setIfInBounds_toArray, List.set_cons_zero, List.set_cons_succ]
  refine wpAnyH_ready (rs := [23]) (by kernel_rfl) (by simp) ?_
  refine AllReadyH.cons (o := ?oF23) ?hiF23 (fun K hK => ?stepF23) AllReadyH.nil
  case hiF23 => simp only [List.getElem?_toArray, List.getElem?_cons_zero, List.getElem?_cons_succ]; first | done | rfl
  go_simp
  go_at_call 37
  refine (HKD.out _).mono ?_
  rintro e w3 ⟨rfl, hb3⟩
  go_wp2_with fail
  refine hK.out _ _ (k7_call hHeldc hb3) (fun hHeld2 => ?_)
  clear hK K
  try simp only [Act.put, List.setIfInBounds_toArray, List.set_cons_zero, List.set_cons_succ]
  refine wpAnyH_take (i := 24) (oi := ?oF24) (v := .int .i64 P) ?hiF24 (by kernel_rfl) (by kernel_rfl) (by kernel_rfl) (fun _ _ _ h => h) ?hyF24 hHeld2 ?restF24
  case hiF24 => simp only [List.getElem?_toArray, List.getElem?_cons_zero, List.getElem?_cons_succ]; first | done | rfl
  case hyF24 => exact Or.inl ⟨by rfl, by intro V hV; obtain ⟨s0, s1, s2, s3, s4, s5, s6, s7⟩ := hV; go_simp⟩
  try simp only [Act.put, List.setIfInBounds_toArray, List.set_cons_zero, List.set_cons_succ]
  refine wpAnyH_take (i := 25) (oi := ?oF25) (v := .bool false) ?hiF25 (by kernel_rfl) (by kernel_rfl) (by kernel_rfl) (fun _ _ _ h => h) ?hyF25 hHeld2 ?restF25
  case hiF25 => simp only [List.getElem?_toArray, List.getElem?_cons_zero, List.getElem?_cons_succ]; first | done | rfl
  case hyF25 => exact Or.inl ⟨by rfl, by intro V hV; obtain ⟨s0, s1, s2, s3, s4, s5, s6, s7⟩ := hV; go_simp⟩
  try simp only [Act.put, List.setIfInBounds_toArray, List.set_cons_zero, List.set_cons_succ]
  refine wpAnyH_take (i := 26) (oi := ?oF26) (v := .bool false) ?hiF26 (by kernel_rfl) (by kernel_rfl) (by kernel_rfl) (fun _ _ _ h => h) ?hyF26 hHeld2 ?restF26
  case hiF26 => simp only [List.getElem?_toArray, List.getElem?_cons_zero, List.getElem?_cons_succ]; first | done | rfl
  case hyF26 => exact Or.inl ⟨by rfl, by intro V hV; obtain ⟨s0, s1, s2, s3, s4, s5, s6, s7⟩ := hV; go_simp⟩
  try simp only [Act.put, List.setIfInBounds_toArray, List.set_cons_zero, List.set_cons_succ]
  refine wpAnyH_take (i := 27) (oi := ?oF27) (v := .bool false) ?hiF27 (by kernel_rfl) (by kernel_rfl) (by kernel_rfl) (fun _ _ _ h => h) ?hyF27 hHeld2 ?restF27
  case hiF27 => simp only [List.getElem?_toArray, List.getElem?_cons_zero, List.getElem?_cons_succ]; first | done | rfl
  case hyF27 => exact Or.inl ⟨by rfl, by intro V hV; obtain ⟨s0, s1, s2, s3, s4, s5, s6, s7⟩ := hV; go_simp⟩
  try simp only [Act.put, List.setIfInBounds_toArray, List.set_cons_zero, List.set_cons_succ]
  refine wpAnyH_take (i := 28) (oi := ?oF28) (v := .pointer (some ⟨J, 6, none⟩)) ?hiF28 (by kernel_rfl) (by kernel_rfl) (by kernel_rfl) (fun _ _ _ h => h) ?hyF28 hHeld2 ?restF28
  case hiF28 => simp only [List.getElem?_toArray, List.getElem?_cons_zero, List.getElem?_cons_succ]; first | done | rfl
  case hyF28 => exact Or.inl ⟨by rfl, by intro V hV; obtain ⟨s0, s1, s2, s3, s4, s5, s6, s7⟩ := hV; go_simp⟩
  try simp only [Act.put, List.setIfInBounds_toArray, List.set_cons_zero, List.set_cons_succ]
  refine wpAnyH_take (i := 29) (oi := ?oF29) (v := .slice qt lt.length et) ?hiF29 (by kernel_rfl) (by kernel_rfl) (by kernel_rfl) (fun _ _ _ h => h) ?hyF29 hHeld2 ?restF29
  case hiF29 => simp only [List.getElem?_toArray, List.getElem?_cons_zero, List.getElem?_cons_succ]; first | done | rfl
  case hyF29 => exact Or.inl ⟨by rfl, by intro V hV; obtain ⟨s0, s1, s2, s3, s4, s5, s6, s7⟩ := hV; go_simp⟩
  try simp only [Act.put, List.setIfInBounds_toArray, List.set_cons_zero, List.set_cons_succ]
  refine wpAnyH_take (i := 30) (oi := ?oF30) (v := .int .i64 (lt.length : Int)) ?hiF30 (by kernel_rfl) (by kernel_rfl) (by kernel_rfl) (fun _ _ _ h => h) ?hyF30 hHeld2 ?restF30
  case hiF30 => simp only [List.getElem?_toArray, List.getElem?_cons_zero, List.getElem?_cons_succ]; first | done | rfl
  case hyF30 => exact Or.inl ⟨by rfl, by intro V hV; obtain ⟨s0, s1, s2, s3, s4, s5, s6, s7⟩ := hV; go_simp⟩
  try simp only [Act.put, List.setIfInBounds_toArray, List.set_cons_zero, List.set_cons_succ]
  refine wpAnyH_take (i := 31) (oi := ?oF31) (v := .bool false) ?hiF31 (by kernel_rfl) (by kernel_rfl) (by kernel_rfl) (fun _ _ _ h => h) ?hyF31 hHeld2 ?restF31
  case hiF31 => simp only [List.getElem?_toArray, List.getElem?_cons_zero, List.getElem?_cons_succ]; first | done | rfl
  case hyF31 => exact Or.inl ⟨by rfl, by intro V hV; obtain ⟨s0, s1, s2, s3, s4, s5, s6, s7⟩ := hV; go_simp⟩
  try simp only [Act.put, List.setIfInBounds_toArray, List.set_cons_zero, List.set_cons_succ]
  refine wpAnyH_take (i := 32) (oi := ?oF32) (v := .bool false) ?hiF32 (by kernel_rfl) (by kernel_rfl) (by kernel_rfl) (fun _ _ _ h => h) ?hyF32 hHeld2 ?restF32
  case hiF32 => simp only [List.getElem?_toArray, List.getElem?_cons_zero, List.getElem?_cons_succ]; first | done | rfl
  case hyF32 => exact Or.inl ⟨by rfl, by intro V hV; obtain ⟨s0, s1, s2, s3, s4, s5, s6, s7⟩ := hV; go_simp⟩
  try simp only [Act.put, List.setIfInBounds_toArray, List.set_cons_zero, List.set_cons_succ]
  refine wpAnyH_take (i := 33) (oi := ?oF33) (v := .bool false) ?hiF33 (by kernel_rfl) (by kernel_rfl) (by kernel_rfl) (fun _ _ _ h => h) ?hyF33 hHeld2 ?restF33
  case hiF33 => simp only [List.getElem?_toArray, List.getElem?_cons_zero, List.getElem?_cons_succ]; first | done | rfl
  case hyF33 => exact Or.inl ⟨by rfl, by intro V hV; obtain ⟨s0, s1, s2, s3, s4, s5, s6, s7⟩ := hV; go_simp⟩
  try simp only [Act.put, List.setIfInBounds_toArray, List.set_cons_zero, List.set_cons_succ]
  refine wpAnyH_take (i := 34) (oi := ?oF34) (v := .pointer (some ⟨J, 7, none⟩)) ?hiF34 (by kernel_rfl) (by kernel_rfl) (by kernel_rfl) (fun _ _ _ h => h) ?hyF34 hHeld2 ?restF34
  case hiF34 => simp only [List.getElem?_toArray, List.getElem?_cons_zero, List.getElem?_cons_succ]; first | done | rfl
  case hyF34 => exact Or.inl ⟨by rfl, by intro V hV; obtain ⟨s0, s1, s2, s3, s4, s5, s6, s7⟩ := hV; go_simp⟩
  try simp only [Act.put, List.setIfInBounds_toArray, List.set_cons_zero, List.set_cons_succ]
  refine wpAnyH_take (i := 35) (oi := ?oF35) (v := .int .i64 N) ?hiF35 (by kernel_rfl) (by kernel_rfl) (by kernel_rfl) (fun _ _ _ h => h) ?hyF35 hHeld2 ?restF35
  case hiF35 => simp only [List.getElem?_toArray, List.getElem?_cons_zero, List.getElem?_cons_succ]; first | done | rfl
  case hyF35 => exact Or.inl ⟨by rfl, by intro V hV; obtain ⟨s0, s1, s2, s3, s4, s5, s6, s7⟩ := hV; go_simp⟩
  try simp only [Act.put, List.setIfInBounds_toArray, List.set_cons_zero, List.set_cons_succ]
  refine wpAnyH_take (i := 36) (oi := ?oF36) (v := .bool false) ?hiF36 (by kernel_rfl) (by kernel_rfl) (by kernel_rfl) (fun _ _ _ h => h) ?hyF36 hHeld2 ?restF36
  case hiF36 => simp only [List.getElem?_toArray, List.getElem?_cons_zero, List.getElem?_cons_succ]; first | done | rfl
  case hyF36 => exact Or.inl ⟨by rfl, by intro V hV; obtain ⟨s0, s1, s2, s3, s4, s5, s6, s7⟩ := hV; go_simp⟩
  try simp only [Act.put, List.setIfInBounds_toArray, List.set_cons_zero, List.set_cons_succ]
  refine wpAnyH_take (i := 37) (oi := ?oF37) (v := .bool false) ?hiF37 (by kernel_rfl) (by kernel_rfl) (by kernel_rfl) (fun _ _ _ h => h) ?hyF37 hHeld2 ?restF37
  case hiF37 => simp only [List.getElem?_toArray, List.getElem?_cons_zero, List.getElem?_cons_succ]; first | done | rfl
  case hyF37 => exact Or.inl ⟨by rfl, by intro V hV; obtain ⟨s0, s1, s2, s3, s4, s5, s6, s7⟩ := hV; go_simp⟩
  try simp only [Act.put, List.setIfInBounds_toArray, List.set_cons_zero, List.set_cons_succ]
  refine wpAnyH_done (by kernel_rfl) ?_ _
  refine NoPanic.normal ?_
  have hb3 : Below w2.heap.size w2 w3 := hHeld2.1
  have hb30 : Below w2.heap.size w2 w3 := hb3
  have HSIT3 : Hid (sit (J + 1 + 1 + 1) J (J + 1) (J + 1 + 1) w3 ⟨A, B, p, n, c, l, (some ab), nb, cb, lb, (some ⟨gs, 0, none⟩), ls.length, es, ls, qm, lm.length, em, lm, qt, lt.length, et, lt, N, T⟩ ⟨3, (PI : Int), dx, dy, da⟩) := sit_below HSIT.out (hb3)
  have HB3 : Hid (Below w.heap.size w w3) := below_call HB2.out HB2.out.size (hb3)
  clear z0 z1 z2 z3 z4 z5 z6 z7 z8 q0 q1 q2 q3 q4
  clear hb3
  have HB23 : Hid (Below w2.heap.size w2 w3) := hb30
  clear hb30 s1 kf d1 d2 d2b d3 eW hA hB
  obtain ⟨b1, b2⟩ := HBC.out w3 HB23.out
  obtain ⟨z0, z1, z2, z3, z4, z5, z6, z7, z8⟩ := bx9_c9 HSIT3.out.x
  obtain ⟨q0, q1, q2, q3, q4⟩ := bxd_cells HSIT3.out.d
  simp only at q0 q1 q2 q3 q4 z0 z1 z2 z3 z4 z5 z6 z7 z8
  obtain ⟨K, hK⟩ : ∃ K, w3.heap.size = K := ⟨_, rfl⟩
  obtain ⟨w4, hw4⟩ : ∃ w4, w3.alloc (.cells #[.int .i64 (X : Int), .int .i64 (Y : Int)] 45) = w4 := ⟨_, rfl⟩
  have hk4 : w4.heap[K]? = some (.cells #[.int .i64 (X : Int), .int .i64 (Y : Int)] 45) := by rw [← hw4, ← hK]; exact World.alloc_heap_new w3 _
  have hb34 : Below w3.heap.size w3 w4 := by rw [← hw4]; exact alloc_below _ _
  have HS4 : Hid (sit (J + 1 + 1 + 1) J (J + 1) (J + 1 + 1) w4 ⟨A, B, p, n, c, l, (some ab), nb, cb, lb, (some ⟨gs, 0, none⟩), ls.length, es, ls, qm, lm.length, em, lm, qt, lt.length, et, lt, N, T⟩ ⟨3, (PI : Int), dx, dy, da⟩) := sit_below HSIT3.out hb34
  have HB4 : Hid (Below w.heap.size w w4) := below_call HB3.out HB3.out.size hb34
  have HK4 : Hid (w4.heap[K]? = some (.cells #[.int .i64 (X : Int), .int .i64 (Y : Int)] 45)) := hk4
  have HFL : Hid (row vi w p l ∧ l.length = n ∧ n = W * H) := ⟨HPB.out.1, HPB.out.2.1, by have h1 := HPB.out.2.1; have h2 : l.length = W * H := HOK.out.1.f.2.2.1; omega⟩
  have hAW : A = W := HOK.out.2.1
  have hBH : B = H := HOK.out.2.2
  have HGR : Hid (∀ U x y o, opn W H l x y = o → Below w.heap.size w U → Calls Try.prog 36 #[.agg #[.int .i64 A, .int .i64 B, .slice p n c], .agg #[.int .i64 x, .int .i64 y]] U fun e w' => e = .returned (.bool o) ∧ Below U.heap.size U w') := fun U x y o ho hU => by
    rw [hAW, hBH]
    exact Ground_at W H p n c l x y o U (row_below HFL.out.1 hU) HOK.out.1.f.1 HOK.out.1.f.2.1 HFL.out.2.1 HFL.out.2.2 ho
  clear hk4 hb34 hAW hBH
  go_wp2_with fail
  clear b1 b2 z0 z1 z2 z3 z4 z5 z6 z7 z8 q0 q1 q2 q3 q4 hw4
  go_loopw [10] (fun v wr => ∃ (k : Nat) (t : Int), v = .int .i64 t ∧ k ≤ 10 ∧ Hid (t = (k : Int) - 1 ∧ sit (J + 1 + 1 + 1) J (J + 1) (J + 1 + 1) wr ⟨A, B, p, n, c, l, (some ab), nb, cb, lb, (some ⟨gs, 0, none⟩), ls.length, es, ls, qm, lm.length, em, lm, qt, lt.length, et, lt, N, T⟩ ⟨3, (PI : Int), dx, dy, da⟩ ∧ Below w.heap.size w wr ∧ Below w4.heap.size w4 wr ∧ ∀ j, j < k → freq W H l lt (bcl ⟨(X : Int), (Y : Int)⟩ j) = false)) (fun v _ => (10 - intOf v).toNat)
  case atStart => exact ⟨0, _, rfl, by omega, by simp, HS4.out, HB4.out, Below.refl _ _, fun j hj => by omega⟩
  case round =>
    obtain ⟨k, t, rfl, hk, HS⟩ := hrel
    have hkb : wr.heap[K]? = some (.cells #[.int .i64 (X : Int), .int .i64 (Y : Int)] 45) := (HS.out.2.2.2.1.block K (heap_lt HK4.out)).trans HK4.out
    have HKB : Hid (wr.heap[K]? = some (.cells #[.int .i64 (X : Int), .int .i64 (Y : Int)] 45)) := hkb
    obtain ⟨k0, k1, -, -⟩ := free2 hkb
    clear hkb
    by_cases hk10 : k = 10
    · subst hk10
      obtain rfl : t = 9 := by have := HS.out.1; omega
      have HSE : Hid (sit (J + 1 + 1 + 1) J (J + 1) (J + 1 + 1) wr ⟨A, B, p, n, c, l, (some ab), nb, cb, lb, (some ⟨gs, 0, none⟩), ls.length, es, ls, qm, lm.length, em, lm, qt, lt.length, et, lt, N, T⟩ ⟨3, (PI : Int), dx, dy, da⟩) := HS.out.2.1
      have HBE : Hid (Below w.heap.size w wr) := HS.out.2.2.1
      have HNF : Hid (∀ c9, ¬ makeF W H l lb (Wld.shp ⟨A, B, p, n, c, l, some ab, nb, cb, lb, ps, ns, cs, ls, pm, nm, cm, lm, pt, nt, ct, lt, N, T⟩) (PI : Int) = some c9) := fun c9 h => by
        unfold makeF at h
        rw [Int.toNat_natCast, HGD.out] at h
        have h2 := bcl_none HS.out.2.2.2.2
        have h3 : (⟨(X : Int), (Y : Int)⟩ :: nineN ⟨(X : Int), (Y : Int)⟩).find? (freq W H l lt) = some c9 := h
        rw [h2] at h3
        cases h3
      clear k0 k1
      obtain ⟨ra, rb, rc, rd, re, rf, rg, rh, ri, hrr⟩ := HSE.out.r
      obtain ⟨u9, hu9⟩ : ∃ u9, (((((((((wr.setCell ⟨J + 1 + 1, 0, none⟩ (.int .i64 A)).setCell ⟨J + 1 + 1, 1, none⟩ (.int .i64 B)).setCell ⟨J + 1 + 1, 2, none⟩ (.slice p n c)).setCell ⟨J + 1 + 1, 3, none⟩ (.slice (some ab) nb cb)).setCell ⟨J + 1 + 1, 4, none⟩ (.slice (some ⟨gs, 0, none⟩) ls.length es)).setCell ⟨J + 1 + 1, 5, none⟩ (.slice qm lm.length em)).setCell ⟨J + 1 + 1, 6, none⟩ (.slice qt lt.length et)).setCell ⟨J + 1 + 1, 7, none⟩ (.int .i64 N)).setCell ⟨J + 1 + 1, 8, none⟩ (.int .i64 T)) = u9 := ⟨_, rfl⟩
      obtain ⟨x9, e9⟩ := set9 hrr hu9.symm
      have HF9 : Hid (sown w.heap.size u9 ⟨A, B, p, n, c, l, (some ab), nb, cb, lb, (some ⟨gs, 0, none⟩), ls.length, es, ls, qm, lm.length, em, lm, qt, lt.length, et, lt, N, T⟩ ∧ Below w.heap.size w u9) := ⟨sown_mono (sown_ex HSE.out.o e9 (by intro g hg; omega)) (by have := HS0.out.2; omega), HBE.out.trans (e9.below HBE.out.size (by intro k hk; have := HS0.out.2; omega))⟩
      obtain ⟨y0, y1, y2, y3, y4, y5, y6, y7, y8⟩ := bx9_c9 x9
      obtain ⟨o0, o1, o2, o3, o4, o5, o6, o7, o8⟩ := bx9_c9 hrr
      have fr0 := bx9_free hrr 0
      have fr1 := bx9_free hrr 1
      have fr2 := bx9_free hrr 2
      have fr3 := bx9_free hrr 3
      have fr4 := bx9_free hrr 4
      have fr5 := bx9_free hrr 5
      have fr6 := bx9_free hrr 6
      have fr7 := bx9_free hrr 7
      have fr8 := bx9_free hrr 8
      obtain ⟨z0, z1, z2, z3, z4, z5, z6, z7, z8⟩ := bx9_c9 HSE.out.x
      clear hrr x9 e9
      go_wp2_with fail
      refine ⟨by simp, .tuple #[.agg #[.int .i64 A, .int .i64 B, .slice p n c, .slice (some ab) nb cb, .slice (some ⟨gs, 0, none⟩) ls.length es, .slice qm lm.length em, .slice qt lt.length et, .int .i64 N, .int .i64 T], .bool false], ?_, ⟨⟨A, B, p, n, c, l, (some ab), nb, cb, lb, (some ⟨gs, 0, none⟩), ls.length, es, ls, qm, lm.length, em, lm, qt, lt.length, et, lt, N, T⟩, false, rfl, ⟨rfl, rfl, rfl, rfl, rfl, rfl, rfl, rfl, rfl, rfl, rfl⟩, ?_, ds_make rfl (.inr ⟨rfl, rfl, fun c _ h => HNF.out c h⟩)⟩, ?_⟩
      · simp [results, Try.results38, go_sem, y0, y1, y2, y3, y4, y5, y6, y7, y8]
      · first | exact HF9.out.1 | (rw [← HS0.out.2]; exact HF9.out.1)
      · first | exact HF9.out.2 | (rw [← HS0.out.2]; exact HF9.out.2)
    by_cases hk0 : k = 0
    · obtain ⟨G, hG⟩ : ∃ G, wr.heap.size = G := ⟨_, rfl⟩
      obtain ⟨w5, hw5⟩ : ∃ w5, wr.alloc (.cells #[.int .i64 (X : Int), .int .i64 (Y : Int)] 45) = w5 := ⟨_, rfl⟩
      have hg5 : w5.heap[G]? = some (.cells #[.int .i64 (X : Int), .int .i64 (Y : Int)] 45) := by rw [← hw5, ← hG]; exact World.alloc_heap_new wr _
      have hb5 : Below wr.heap.size wr w5 := by rw [← hw5]; exact alloc_below _ _
      have HS5 : Hid (sit (J + 1 + 1 + 1) J (J + 1) (J + 1 + 1) w5 ⟨A, B, p, n, c, l, (some ab), nb, cb, lb, (some ⟨gs, 0, none⟩), ls.length, es, ls, qm, lm.length, em, lm, qt, lt.length, et, lt, N, T⟩ ⟨3, (PI : Int), dx, dy, da⟩) := sit_below HS.out.2.1 hb5
      have HB5 : Hid (Below w.heap.size w w5) := below_call HS.out.2.2.1 HS.out.2.2.1.size hb5
      have HB45 : Hid (Below w4.heap.size w4 w5) := below_step HS.out.2.2.2.1 HS.out.2.2.2.1.size hb5
      have HNJ : Hid (J + 1 + 1 + 1 ≤ G ∧ w4.heap.size ≤ G) := by
        obtain ⟨a, b, c_, e, f, g, h', i, j, hr⟩ := HS.out.2.1.r
        have h1 := bx9_lt hr
        have h2 := HS.out.2.2.2.1.size
        exact ⟨by omega, by omega⟩
      subst hk0
      obtain rfl : t = -1 := by have := HS.out.1; simp at this; omega
      obtain ⟨z0, z1, z2, z3, z4, z5, z6, z7, z8⟩ := bx9_c9 HS5.out.x
      simp only at z0 z1 z2 z3 z4 z5 z6 z7 z8
      obtain ⟨g0, g1, -, -⟩ := free2 hg5
      have HG : Hid (w5.heap[G]? = some (.cells #[.int .i64 (X : Int), .int .i64 (Y : Int)] 45)) := hg5
      have HCE : Hid (bcl ⟨(X : Int), (Y : Int)⟩ 0 = ⟨(X : Int), (Y : Int)⟩) := rfl
      clear hg5 hb5 z3 z4 z5 z7 z8
      obtain ⟨o1, ho1⟩ : ∃ o1, opn W H l (X : Int) (Y : Int) = o1 := ⟨_, rfl⟩
      obtain ⟨o2, ho2⟩ : ∃ o2, lt.any (onb (X : Int) (Y : Int)) = o2 := ⟨_, rfl⟩
      have HFQ : Hid (freq W H l lt (bcl ⟨(X : Int), (Y : Int)⟩ 0) = (o1 && !o2)) := by
        unfold Hid
        rw [HCE.out]
        unfold freq onq
        rw [ho1, ho2]
      have HGC : Hid (Calls Try.prog 36 #[.agg #[.int .i64 A, .int .i64 B, .slice p n c], .agg #[.int .i64 (X : Int), .int .i64 (Y : Int)]] w5 fun e w' => e = .returned (.bool o1) ∧ Below w5.heap.size w5 w') := HGR.out w5 (X : Int) (Y : Int) o1 ho1 HB5.out
      have HGX : Hid (∀ U, Below w5.heap.size w5 U → U.heap[G]? = some (.cells #[.int .i64 (X : Int), .int .i64 (Y : Int)] 45)) := fun U hU => (hU.block G (heap_lt HG.out)).trans HG.out
      have HCF : Hid (∀ U, Below w5.heap.size w5 U → Calls Try.prog 53 #[.slice qt lt.length et, .func (.func 54) #[] #[.pointer (some ⟨G, 0, none⟩)]] U fun e w' => e = .returned (.bool o2) ∧ Below U.heap.size U w') := fun U hU =>
        ContainsFunct_any Try.call54 _ qt lt.length et lt (onb (X : Int) (Y : Int)) o2 U (own_trow (sit_below HS5.out hU).o.kt) rfl (by omega) ho2 (fun t V2 _ hV2 => Free2_at t (X : Int) (Y : Int) G V2 (cell_call2 (free2 (HGX.out U hU)).1 hV2) (cell_call2 (free2 (HGX.out U hU)).2.1 hV2))
      clear ho1 ho2
      cases o1 with
      | false =>
        have HNX : Hid (∀ j_, j_ < 0 + 1 → freq W H l lt (bcl ⟨(X : Int), (Y : Int)⟩ j_) = false) := fun j_ hj_ => by
          by_cases e : j_ = 0
          · rw [e, HFQ.out]; rfl
          · exact HS.out.2.2.2.2 j_ (by omega)
        go_wp2_with fail
        refine Calls.mono HGC.out ?_
        rintro e w7 ⟨rfl, hb7⟩
        have HS7 : Hid (sit (J + 1 + 1 + 1) J (J + 1) (J + 1 + 1) w7 ⟨A, B, p, n, c, l, (some ab), nb, cb, lb, (some ⟨gs, 0, none⟩), ls.length, es, ls, qm, lm.length, em, lm, qt, lt.length, et, lt, N, T⟩ ⟨3, (PI : Int), dx, dy, da⟩) := sit_below HS5.out hb7
        have HB7 : Hid (Below w.heap.size w w7) := below_call HB5.out HB5.out.size hb7
        have HB47 : Hid (Below w4.heap.size w4 w7) := below_step HB45.out HB45.out.size hb7
        have HBV7 : Hid (Below w5.heap.size w5 w7) := hb7
        clear hb7 z0 z1 z2 z6 g0 g1 k0 k1 hw5
        go_wp2_with fail
        go_roundw
        case rel => exact ⟨0 + 1, _, rfl, by omega, by first | omega | (simp; done) | (simp; omega), HS7.out, HB7.out, HB47.out, HNX.out⟩
        case measure => first | (simp [intOf]; done) | (simp [intOf]; omega)
      | true =>
        cases o2 with
        | true =>
          have HNX : Hid (∀ j_, j_ < 0 + 1 → freq W H l lt (bcl ⟨(X : Int), (Y : Int)⟩ j_) = false) := fun j_ hj_ => by
            by_cases e : j_ = 0
            · rw [e, HFQ.out]; rfl
            · exact HS.out.2.2.2.2 j_ (by omega)
          go_wp2_with fail
          refine Calls.mono HGC.out ?_
          rintro e w7 ⟨rfl, hb7⟩
          have HS7 : Hid (sit (J + 1 + 1 + 1) J (J + 1) (J + 1 + 1) w7 ⟨A, B, p, n, c, l, (some ab), nb, cb, lb, (some ⟨gs, 0, none⟩), ls.length, es, ls, qm, lm.length, em, lm, qt, lt.length, et, lt, N, T⟩ ⟨3, (PI : Int), dx, dy, da⟩) := sit_below HS5.out hb7
          have HB7 : Hid (Below w.heap.size w w7) := below_call HB5.out HB5.out.size hb7
          have HB47 : Hid (Below w4.heap.size w4 w7) := below_step HB45.out HB45.out.size hb7
          have HBV7 : Hid (Below w5.heap.size w5 w7) := hb7
          clear hb7 z0 z1 z2 z6 g0 g1 k0 k1 hw5
          obtain ⟨z0, z1, z2, z3, z4, z5, z6, z7, z8⟩ := bx9_c9 HS7.out.x
          simp only at z6
          clear z0 z1 z2 z3 z4 z5 z7 z8
          go_wp2_with fail
          refine Calls.mono (HCF.out w7 HBV7.out) ?_
          rintro e w8 ⟨rfl, hb8⟩
          have HS8 : Hid (sit (J + 1 + 1 + 1) J (J + 1) (J + 1 + 1) w8 ⟨A, B, p, n, c, l, (some ab), nb, cb, lb, (some ⟨gs, 0, none⟩), ls.length, es, ls, qm, lm.length, em, lm, qt, lt.length, et, lt, N, T⟩ ⟨3, (PI : Int), dx, dy, da⟩) := sit_below HS7.out hb8
          have HB8 : Hid (Below w.heap.size w w8) := below_call HB7.out HB7.out.size hb8
          have HB48 : Hid (Below w4.heap.size w4 w8) := below_step HB47.out HB47.out.size hb8
          have HG8 : Hid (w8.heap[G]? = some (.cells #[.int .i64 (X : Int), .int .i64 (Y : Int)] 45)) := HGX.out w8 (below_step HBV7.out HBV7.out.size hb8)
          clear hb8 z6
          go_wp2_with fail
          go_roundw
          case rel => exact ⟨0 + 1, _, rfl, by omega, by first | omega | (simp; done) | (simp; omega), HS8.out, HB8.out, HB48.out, HNX.out⟩
          case measure => first | (simp [intOf]; done) | (simp [intOf]; omega)
        | false =>
          go_wp2_with fail
          refine Calls.mono HGC.out ?_
          rintro e w7 ⟨rfl, hb7⟩
          have HS7 : Hid (sit (J + 1 + 1 + 1) J (J + 1) (J + 1 + 1) w7 ⟨A, B, p, n, c, l, (some ab), nb, cb, lb, (some ⟨gs, 0, none⟩), ls.length, es, ls, qm, lm.length, em, lm, qt, lt.length, et, lt, N, T⟩ ⟨3, (PI : Int), dx, dy, da⟩) := sit_below HS5.out hb7
          have HB7 : Hid (Below w.heap.size w w7) := below_call HB5.out HB5.out.size hb7
          have HB47 : Hid (Below w4.heap.size w4 w7) := below_step HB45.out HB45.out.size hb7
          have HBV7 : Hid (Below w5.heap.size w5 w7) := hb7
          clear hb7 z0 z1 z2 z6 g0 g1 k0 k1 hw5
          obtain ⟨z0, z1, z2, z3, z4, z5, z6, z7, z8⟩ := bx9_c9 HS7.out.x
          simp only at z6
          clear z0 z1 z2 z3 z4 z5 z7 z8
          go_wp2_with fail
          refine Calls.mono (HCF.out w7 HBV7.out) ?_
          rintro e w8 ⟨rfl, hb8⟩
          have HS8 : Hid (sit (J + 1 + 1 + 1) J (J + 1) (J + 1 + 1) w8 ⟨A, B, p, n, c, l, (some ab), nb, cb, lb, (some ⟨gs, 0, none⟩), ls.length, es, ls, qm, lm.length, em, lm, qt, lt.length, et, lt, N, T⟩ ⟨3, (PI : Int), dx, dy, da⟩) := sit_below HS7.out hb8
          have HB8 : Hid (Below w.heap.size w w8) := below_call HB7.out HB7.out.size hb8
          have HB48 : Hid (Below w4.heap.size w4 w8) := below_step HB47.out HB47.out.size hb8
          have HG8 : Hid (w8.heap[G]? = some (.cells #[.int .i64 (X : Int), .int .i64 (Y : Int)] 45)) := HGX.out w8 (below_step HBV7.out HBV7.out.size hb8)
          clear hb8 z6
          have HMF : Hid (makeF W H l lb (Wld.shp ⟨A, B, p, n, c, l, some ab, nb, cb, lb, ps, ns, cs, ls, pm, nm, cm, lm, pt, nt, ct, lt, N, T⟩) (PI : Int) = some ⟨(X : Int), (Y : Int)⟩) := by
            unfold Hid makeF
            rw [Int.toNat_natCast, HGD.out]
            have h := bcl_some (P := freq W H l lt) (b := ⟨(X : Int), (Y : Int)⟩) (k := 0) (by omega) HS.out.2.2.2.2 (by rw [HFQ.out]; rfl)
            rw [HCE.out] at h
            exact h
          have hGJ : ¬ G = J := by have := HNJ.out.1; omega
          have HSJ8 : Hid (∀ V, Below w8.heap.size w8 V → (V.cell? ⟨J, 7, none⟩ = some (.int .i64 N) ∧ V.cell? ⟨J + 1, 1, none⟩ = some (.int .i64 (PI : Int)) ∧ V.cell? ⟨J + 1, 4, none⟩ = some (.int .i64 da) ∧ V.cell? ⟨G, 0, none⟩ = some (.int .i64 (X : Int)) ∧ V.cell? ⟨G, 1, none⟩ = some (.int .i64 (Y : Int))) ∧ V.cell? ⟨J, 6, none⟩ = some (.slice qt lt.length et)) := fun V hV => by
            have h := bx9_c9 (sit_below HS8.out hV).x
            have hd := bxd_cells (sit_below HS8.out hV).d
            have hg := free2 ((hV.block G (heap_lt HG8.out)).trans HG8.out)
            exact ⟨⟨h.2.2.2.2.2.2.2.1, hd.2.1, hd.2.2.2.2, hg.1, hg.2.1⟩, h.2.2.2.2.2.2.1⟩
          have HAP8 : Hid (∀ V, Below w8.heap.size w8 V → ∃ p9 c9 V9 v9, (Builtin.append_ #[26, 26] 26 #[.slice qt lt.length et, .slice (some ⟨V.heap.size, 0, none⟩) 1 1]).run Try.prog (V.alloc (.cells #[.int .i64 N, .int .i64 (PI : Int), .int .i64 da, .int .i64 (X : Int), .int .i64 (Y : Int), .int .i64 L, .int .i64 0] 47)) = .ok (.slice p9 (lt.length + 1) c9) V9 ∧ (V9.cell? ⟨J, 7, none⟩ = some (.int .i64 N) ∧ V9.cell? ⟨J + 1, 1, none⟩ = some (.int .i64 (PI : Int)) ∧ V9.cell? ⟨J + 1, 4, none⟩ = some (.int .i64 da) ∧ V9.cell? ⟨G, 0, none⟩ = some (.int .i64 (X : Int)) ∧ V9.cell? ⟨G, 1, none⟩ = some (.int .i64 (Y : Int))) ∧ (V9.cell? ⟨J, 6, none⟩ = some v9 ∧ V9.frozen? ⟨J, 6, none⟩ = false) ∧ ((V9.setCell ⟨J, 6, none⟩ (.slice p9 (lt.length + 1) c9)).cell? ⟨J, 7, none⟩ = some (.int .i64 N) ∧ (V9.setCell ⟨J, 6, none⟩ (.slice p9 (lt.length + 1) c9)).cell? ⟨J + 1, 1, none⟩ = some (.int .i64 (PI : Int)) ∧ (V9.setCell ⟨J, 6, none⟩ (.slice p9 (lt.length + 1) c9)).cell? ⟨J + 1, 4, none⟩ = some (.int .i64 da) ∧ (V9.setCell ⟨J, 6, none⟩ (.slice p9 (lt.length + 1) c9)).cell? ⟨G, 0, none⟩ = some (.int .i64 (X : Int)) ∧ (V9.setCell ⟨J, 6, none⟩ (.slice p9 (lt.length + 1) c9)).cell? ⟨G, 1, none⟩ = some (.int .i64 (Y : Int))) ∧ (sit (J + 1 + 1 + 1) J (J + 1) (J + 1 + 1) (V9.setCell ⟨J, 6, none⟩ (.slice p9 (lt.length + 1) c9)) ⟨A, B, p, n, c, l, some ab, nb, cb, lb, some ⟨gs, 0, none⟩, ls.length, es, ls, qm, lm.length, em, lm, p9, lt.length + 1, c9, lt ++ [⟨N, (PI : Int), da, (X : Int), (Y : Int), L, 0⟩], N, T⟩ ⟨3, (PI : Int), dx, dy, da⟩ ∧ Below w.heap.size w (V9.setCell ⟨J, 6, none⟩ (.slice p9 (lt.length + 1) c9)))) := fun V hV => by
            have hs := sit_below HS8.out hV
            have hgV := (hV.block G (heap_lt HG8.out)).trans HG8.out
            have hCV : J + 1 + 1 + 1 ≤ V.heap.size := by have := heap_lt hgV; have := HNJ.out.1; omega
            obtain ⟨p9, c9, V9, hrun, hex, hx9, hs10⟩ := sit_append hs ⟨N, (PI : Int), da, (X : Int), (Y : Int), L, 0⟩ (by show lt.length ≤ 100; omega) hCV
            have hGt : ¬ some G = (Value.slice qt lt.length et).ownBlock := fun e => own_not hs.o.kt hgV (by decide) G e.symm rfl
            have hDt : ¬ some (J + 1) = (Value.slice qt lt.length et).ownBlock := fun e => own_not hs.o.kt hs.d (by decide) _ e.symm rfl
            have hg9 := (hex.block G (heap_lt hgV) hGt).trans hgV
            have hd9 := bxd_ex hs.d hex hDt
            have e2 : Ex (fun g => g = J) V9 (V9.setCell ⟨J, 6, none⟩ (.slice p9 (lt.length + 1) c9)) := Ex.set (S := fun g => g = J) V9 ⟨J, 6, none⟩ rfl _
            have hg10 := (e2.block G (heap_lt hg9) hGJ).trans hg9
            have h9 := bx9_c9 hx9
            have h10 := bx9_c9 hs10.x
            have b8 := below_call HB8.out HB8.out.size hV
            have b9 : Below w.heap.size w V9 := b8.trans (hex.below b8.size (fun k_ hk_ e => by have h1 := (World.ownsRow.lt hs.o.kt k_ e.symm).1; have h2 := HS0.out.2; omega))
            have b10 := b9.trans (e2.below b9.size (fun k_ hk_ e => by have h2 := HS0.out.2; omega))
            exact ⟨p9, c9, V9, _, hrun, ⟨h9.2.2.2.2.2.2.2.1, (bxd_cells hd9).2.1, (bxd_cells hd9).2.2.2.2, (free2 hg9).1, (free2 hg9).2.1⟩, ⟨h9.2.2.2.2.2.2.1, bx9_free hx9 6⟩, ⟨h10.2.2.2.2.2.2.2.1, (bxd_cells hs10.d).2.1, (bxd_cells hs10.d).2.2.2.2, (free2 hg10).1, (free2 hg10).2.1⟩, hs10, b10⟩
          go_wp2_with fail
          refine regd33 J (J + 1) G lt.length (lt.length + 1) et PI N da (X : Int) (Y : Int) L r0 g0 P qt w8 _ _ _ _ _ _ _ _ _ _ _ _ _ _ _ _ _ _ _ _ _ _ _ _ _ _ _ _ _ _ _ _ _ _ _ _ _ _ _ _ _ _ _ _ _ _ _ _ _ _ _ _ _ _ _ _ _ _ _ _ _ _ _ _ _ _ _ _ _ _ _ _ _ _ _ _ _ _ _ _ _ _ _ _ _ _ _ _ _ _ _ _ _ _ _ _ _ _ _ _ _ _ _ _ _ _ _ _ _ _ _ _ _ _ _ _ _ _ _ _ _ _ _ _ _ _ _ _ _ _ _ _ _ _ _ _ _ _ _ _ _ _ _ _ _ _ _ _ _ _ _ _ _ _ _ _ _ _ _ _ _ _ _ _ _ _ _ _ _ _ _ _ _ _ _ _ _ _ _ _ _ _ _ _ _ _ _ _ _ _ _ _ _ _ _ _ _ _ _ _ _ _ _ _ _ _ _ _ _ _ _ _ _ _ _ _ _ _ _ _ _ _ _ _ _ _ _ _ _ _ _ _ _ _ _ _ _ _ _ _ _ _ _ _ _ _ _ _ _ _ _ _ _ _ _ _ _ _ _ _ _ _ _ _ _ _ _ _ _ _ _ _ _ _ _ _ _ _ _ _ _ _ _ _ _ _ _ _ _ (fun p9 c9 V => sit (J + 1 + 1 + 1) J (J + 1) (J + 1 + 1) V ⟨A, B, p, n, c, l, some ab, nb, cb, lb, some ⟨gs, 0, none⟩, ls.length, es, ls, qm, lm.length, em, lm, p9, lt.length + 1, c9, lt ++ [⟨N, (PI : Int), da, (X : Int), (Y : Int), L, 0⟩], N, T⟩ ⟨3, (PI : Int), dx, dy, da⟩ ∧ Below w.heap.size w V) _ HSJ8 HKD HAP8 ?_
          intro p9 c9 g9 V10 hp10
          have HS10 : Hid (sit (J + 1 + 1 + 1) J (J + 1) (J + 1 + 1) V10 ⟨A, B, p, n, c, l, some ab, nb, cb, lb, some ⟨gs, 0, none⟩, ls.length, es, ls, qm, lm.length, em, lm, p9, lt.length + 1, c9, lt ++ [⟨N, (PI : Int), da, (X : Int), (Y : Int), L, 0⟩], N, T⟩ ⟨3, (PI : Int), dx, dy, da⟩) := hp10.1
          have HB10 : Hid (Below w.heap.size w V10) := hp10.2
          have HAPZ : Hid True := trivial
          clear hp10 HSJ8 HAP8
          obtain ⟨V11, hV11⟩ : ∃ V11, V10.setCell ⟨J, 7, none⟩ (.int .i64 (N + 1)) = V11 := ⟨_, rfl⟩
          have HS11 : Hid (sit (J + 1 + 1 + 1) J (J + 1) (J + 1 + 1) V11 ⟨A, B, p, n, c, l, some ab, nb, cb, lb, some ⟨gs, 0, none⟩, ls.length, es, ls, qm, lm.length, em, lm, p9, lt.length + 1, c9, lt ++ [⟨N, (PI : Int), da, (X : Int), (Y : Int), L, 0⟩], N + 1, T⟩ ⟨3, (PI : Int), dx, dy, da⟩) := by unfold Hid; rw [← hV11]; exact sit_N HS10.out (N + 1)
          have HB11 : Hid (Below w.heap.size w V11) := by unfold Hid; rw [← hV11]; exact HB10.out.setCell (p := ⟨J, 7, none⟩) (by show w.heap.size ≤ J; have := HS0.out.2; omega) _
          obtain ⟨z0, z1, z2, z3, z4, z5, z6, z7, z8⟩ := bx9_c9 HS10.out.x
          have f7 := bx9_free HS10.out.x 7
          simp only at z7
          have HPSL : Hid (PI < ls.length) := by unfold Hid; omega
          have HSJ11 : Hid (∀ V, Below V11.heap.size V11 V → (V.cell? ⟨J, 4, none⟩ = some (.slice (some ⟨gs, 0, none⟩) ls.length es) ∧ V.cell? ⟨J + 1, 1, none⟩ = some (.int .i64 (PI : Int)) ∧ V.cell? ⟨J + 1, 4, none⟩ = some (.int .i64 da)) ∧ V.cell? ⟨gs, PI, none⟩ = some (.int .i64 Sv) ∧ V.frozen? ⟨gs, PI, none⟩ = false ∧ ((V.setCell ⟨gs, PI, none⟩ (.int .i64 (Sv - P))).cell? ⟨J, 4, none⟩ = some (.slice (some ⟨gs, 0, none⟩) ls.length es) ∧ (V.setCell ⟨gs, PI, none⟩ (.int .i64 (Sv - P))).cell? ⟨J + 1, 1, none⟩ = some (.int .i64 (PI : Int)) ∧ (V.setCell ⟨gs, PI, none⟩ (.int .i64 (Sv - P))).cell? ⟨J + 1, 4, none⟩ = some (.int .i64 da))) := fun V hV => by
            have hs := sit_below HS11.out hV
            obtain ⟨g_, hg_, h1, h2, h3, h4⟩ := own_cell hs.o.ks (j := PI) HPSL.out
            obtain rfl : gs = g_ := by simpa using hg_
            have h1' : V.cell? ⟨gs, PI, none⟩ = some (.int .i64 Sv) := by rw [← HSV.out]; exact h1
            have hs2 := sit_ls hs rfl PI (Sv - P)
            have c1 := bx9_c9 hs.x
            have c2 := bx9_c9 hs2.x
            have d1 := bxd_cells hs.d
            have d2 := bxd_cells hs2.d
            exact ⟨⟨c1.2.2.2.2.1, d1.2.1, d1.2.2.2.2⟩, h1', h2, ⟨c2.2.2.2.2.1, d2.2.1, d2.2.2.2.2⟩⟩
          have eP : IntKind.i64.wrap (Sv - P) = Sv - P := wrp (by omega) (by omega)
          have HEP : Hid (IntKind.i64.wrap (Sv - P) = Sv - P) := eP
          clear z0 z1 z2 z3 z4 z5 z6 z8 eP
          go_wp2_with fail
          clear z7 f7 hV11
          refine regd35 J (J + 1) gs ls.length es PI da Sv L r0 g0 P V11 _ _ _ _ _ _ _ _ _ _ _ _ _ _ _ _ _ _ _ _ _ _ _ _ _ _ _ _ _ _ _ _ _ _ _ _ _ _ _ _ _ _ _ _ _ _ _ _ _ _ _ _ _ _ _ _ _ _ _ _ _ _ _ _ _ _ _ _ _ _ _ _ _ _ _ _ _ _ _ _ _ _ _ _ _ _ _ _ _ _ _ _ _ _ _ _ _ _ _ _ _ _ _ _ _ _ _ _ _ _ _ _ _ _ _ _ _ _ _ _ _ _ _ _ _ _ _ _ _ _ _ _ _ _ _ _ _ _ _ _ _ _ _ _ _ _ _ _ _ _ _ _ _ _ _ _ _ _ _ _ _ _ _ _ _ _ _ _ _ _ _ _ _ _ _ _ _ _ _ _ _ _ _ _ _ _ _ _ _ _ _ _ _ _ _ _ _ _ _ _ _ _ _ _ _ _ _ _ _ _ _ _ _ _ _ _ _ _ _ _ _ _ _ _ _ _ _ _ _ _ _ _ _ _ _ _ _ _ _ _ _ _ _ _ _ _ _ _ _ _ _ _ _ _ _ _ _ _ _ _ _ _ _ _ _ _ _ _ _ _ _ _ _ _ _ _ _ _ _ _ _ _ _ _ _ _ _ _ _ _ _ pS HEP.out HSJ11 HKD ?_
          intro V hV
          obtain ⟨V12, hV12⟩ : ∃ V12, V.setCell ⟨gs, PI, none⟩ (.int .i64 (Sv - P)) = V12 := ⟨_, rfl⟩
          rw [hV12]
          have HS12 : Hid (sit (J + 1 + 1 + 1) J (J + 1) (J + 1 + 1) V12 ⟨A, B, p, n, c, l, some ab, nb, cb, lb, some ⟨gs, 0, none⟩, ls.length, es, ls.set PI (Sv - P), qm, lm.length, em, lm, p9, lt.length + 1, c9, lt ++ [⟨N, (PI : Int), da, (X : Int), (Y : Int), L, 0⟩], N + 1, T⟩ ⟨3, (PI : Int), dx, dy, da⟩) := by unfold Hid; rw [← hV12]; exact sit_ls (sit_below HS11.out hV) rfl PI (Sv - P)
          have HB12 : Hid (Below w.heap.size w V12) := by
            unfold Hid
            rw [← hV12]
            have hs := sit_below HS11.out hV
            obtain ⟨g_, hg_, h1, h2, h3, h4⟩ := own_cell hs.o.ks (j := PI) HPSL.out
            obtain rfl : gs = g_ := by simpa using hg_
            exact (below_call HB11.out HB11.out.size hV).setCell (p := ⟨gs, PI, none⟩) (by show w.heap.size ≤ gs; have := HS0.out.2; omega) _
          clear hV hV12 HSJ11
          obtain ⟨ra, rb, rc, rd, re, rf, rg, rh, ri, hrr⟩ := HS12.out.r
          obtain ⟨u9, hu9⟩ : ∃ u9, (((((((((V12.setCell ⟨J + 1 + 1, 0, none⟩ (.int .i64 A)).setCell ⟨J + 1 + 1, 1, none⟩ (.int .i64 B)).setCell ⟨J + 1 + 1, 2, none⟩ (.slice p n c)).setCell ⟨J + 1 + 1, 3, none⟩ (.slice (some ab) nb cb)).setCell ⟨J + 1 + 1, 4, none⟩ (.slice (some ⟨gs, 0, none⟩) ls.length es)).setCell ⟨J + 1 + 1, 5, none⟩ (.slice qm lm.length em)).setCell ⟨J + 1 + 1, 6, none⟩ (.slice p9 (lt.length + 1) c9)).setCell ⟨J + 1 + 1, 7, none⟩ (.int .i64 (N + 1))).setCell ⟨J + 1 + 1, 8, none⟩ (.int .i64 T)) = u9 := ⟨_, rfl⟩
          obtain ⟨x9, e9⟩ := set9 hrr hu9.symm
          have HF9 : Hid (sown w.heap.size u9 ⟨A, B, p, n, c, l, some ab, nb, cb, lb, some ⟨gs, 0, none⟩, ls.length, es, ls.set PI (Sv - P), qm, lm.length, em, lm, p9, lt.length + 1, c9, lt ++ [⟨N, (PI : Int), da, (X : Int), (Y : Int), L, 0⟩], N + 1, T⟩ ∧ Below w.heap.size w u9) := ⟨sown_mono (sown_ex HS12.out.o e9 (by intro g hg; omega)) (by have := HS0.out.2; omega), HB12.out.trans (e9.below HB12.out.size (by intro k hk; have := HS0.out.2; omega))⟩
          obtain ⟨y0, y1, y2, y3, y4, y5, y6, y7, y8⟩ := bx9_c9 x9
          obtain ⟨o0, o1, o2, o3, o4, o5, o6, o7, o8⟩ := bx9_c9 hrr
          have fr0 := bx9_free hrr 0
          have fr1 := bx9_free hrr 1
          have fr2 := bx9_free hrr 2
          have fr3 := bx9_free hrr 3
          have fr4 := bx9_free hrr 4
          have fr5 := bx9_free hrr 5
          have fr6 := bx9_free hrr 6
          have fr7 := bx9_free hrr 7
          have fr8 := bx9_free hrr 8
          obtain ⟨z0, z1, z2, z3, z4, z5, z6, z7, z8⟩ := bx9_c9 HS12.out.x
          clear hrr x9 e9
          go_wp2_with fail
          refine ⟨by simp, .tuple #[.agg #[.int .i64 A, .int .i64 B, .slice p n c, .slice (some ab) nb cb, .slice (some ⟨gs, 0, none⟩) ls.length es, .slice qm lm.length em, .slice p9 (lt.length + 1) c9, .int .i64 (N + 1), .int .i64 T], .bool true], ?_, ⟨⟨A, B, p, n, c, l, some ab, nb, cb, lb, some ⟨gs, 0, none⟩, ls.length, es, ls.set PI (Sv - P), qm, lm.length, em, lm, p9, lt.length + 1, c9, lt ++ [⟨N, (PI : Int), da, (X : Int), (Y : Int), L, 0⟩], N + 1, T⟩, true, rfl, ⟨rfl, rfl, rfl, rfl, rfl, rfl, rfl, rfl, rfl, rfl, rfl⟩, ?_, ds_make rfl (.inl ⟨rfl, HMC.out, ⟨(X : Int), (Y : Int)⟩, HMF.out, by unfold makeS makeT Wld.shp; simp only; rw [HL.out.1, HL.out.2, Int.toNat_natCast, HSV.out]⟩)⟩, ?_⟩
          · simp [results, Try.results38, go_sem, y0, y1, y2, y3, y4, y5, y6, y7, y8]
          · first | exact HF9.out.1 | (rw [← HS0.out.2]; exact HF9.out.1)
          · first | exact HF9.out.2 | (rw [← HS0.out.2]; exact HF9.out.2)
    · obtain ⟨G, hG⟩ : ∃ G, wr.heap.size = G := ⟨_, rfl⟩
      obtain ⟨w5, hw5⟩ : ∃ w5, wr.alloc (.cells #[.int .i64 (X : Int), .int .i64 (Y : Int)] 45) = w5 := ⟨_, rfl⟩
      have hg5 : w5.heap[G]? = some (.cells #[.int .i64 (X : Int), .int .i64 (Y : Int)] 45) := by rw [← hw5, ← hG]; exact World.alloc_heap_new wr _
      have hb5 : Below wr.heap.size wr w5 := by rw [← hw5]; exact alloc_below _ _
      have HS5 : Hid (sit (J + 1 + 1 + 1) J (J + 1) (J + 1 + 1) w5 ⟨A, B, p, n, c, l, (some ab), nb, cb, lb, (some ⟨gs, 0, none⟩), ls.length, es, ls, qm, lm.length, em, lm, qt, lt.length, et, lt, N, T⟩ ⟨3, (PI : Int), dx, dy, da⟩) := sit_below HS.out.2.1 hb5
      have HB5 : Hid (Below w.heap.size w w5) := below_call HS.out.2.2.1 HS.out.2.2.1.size hb5
      have HB45 : Hid (Below w4.heap.size w4 w5) := below_step HS.out.2.2.2.1 HS.out.2.2.2.1.size hb5
      have HNJ : Hid (J + 1 + 1 + 1 ≤ G ∧ w4.heap.size ≤ G) := by
        obtain ⟨a, b, c_, e, f, g, h', i, j, hr⟩ := HS.out.2.1.r
        have h1 := bx9_lt hr
        have h2 := HS.out.2.2.2.1.size
        exact ⟨by omega, by omega⟩
      obtain ⟨j, rfl⟩ : ∃ j, k = j + 1 := ⟨k - 1, by omega⟩
      obtain rfl : t = (j : Int) := by have := HS.out.1; omega
      have hj9 : j < 9 := by omega
      obtain ⟨x, hx⟩ : ∃ x : Int, (X : Int) - 1 + ((j % 3 : Nat) : Int) = x := ⟨_, rfl⟩
      obtain ⟨y, hy⟩ : ∃ y : Int, (Y : Int) - 1 + ((j / 3 : Nat) : Int) = y := ⟨_, rfl⟩
      have HCE : Hid (bcl ⟨(X : Int), (Y : Int)⟩ (j + 1) = ⟨x, y⟩) := by rw [← hx, ← hy]; rfl
      obtain ⟨MJ, hMJ⟩ : ∃ MJ, j % 3 = MJ := ⟨_, rfl⟩
      obtain ⟨DJ, hDJ⟩ : ∃ DJ, j / 3 = DJ := ⟨_, rfl⟩
      rw [hMJ] at hx
      rw [hDJ] at hy
      have e1 : Int.tmod (j : Int) 3 = (MJ : Int) := by rw [← hMJ]; simp [Int.tmod_eq_emod]
      have e2 : Int.tdiv (j : Int) 3 = (DJ : Int) := by rw [← hDJ]; simp [Int.tdiv_eq_ediv]
      have e3 : (X : Int) + (MJ : Int) - 1 = x := by omega
      have e4 : (Y : Int) + (DJ : Int) - 1 = y := by omega
      have m3 : MJ < 3 := by omega
      have d3 : DJ < 3 := by omega
      clear hx hy hMJ hDJ
      obtain ⟨w6, hw6⟩ : ∃ w6, (w5.setCell ⟨G, 0, none⟩ (.int .i64 x)).setCell ⟨G, 1, none⟩ (.int .i64 y) = w6 := ⟨_, rfl⟩
      have HG : Hid (w6.heap[G]? = some (.cells #[.int .i64 x, .int .i64 y] 45)) := by
        unfold Hid
        rw [← hw6, heap_setCell_same _ G 1 _ _ _ (heap_setCell_same w5 G 0 _ _ _ hg5)]; rfl
      have he6 : Ex (fun g => g = G) w5 w6 := (set2 hg5 hw6.symm).2
      have HS6 : Hid (sit (J + 1 + 1 + 1) J (J + 1) (J + 1 + 1) w6 ⟨A, B, p, n, c, l, (some ab), nb, cb, lb, (some ⟨gs, 0, none⟩), ls.length, es, ls, qm, lm.length, em, lm, qt, lt.length, et, lt, N, T⟩ ⟨3, (PI : Int), dx, dy, da⟩) := sit_cell HS5.out he6 HNJ.out.1 hg5
      have HB6 : Hid (Below w.heap.size w w6) := HB5.out.trans (he6.below HB5.out.size (fun k hk e => by have := HS0.out.2; have := HNJ.out.1; omega))
      have HB46 : Hid (Below w4.heap.size w4 w6) := HB45.out.trans (he6.below HB45.out.size (fun k hk e => by have := HNJ.out.2; omega))
      obtain ⟨z0, z1, z2, z3, z4, z5, z6, z7, z8⟩ := bx9_c9 HS6.out.x
      simp only at z0 z1 z2 z3 z4 z5 z6 z7 z8
      obtain ⟨g0, g1, f0, f1⟩ := free2 hg5
      obtain ⟨g2, g3, -, -⟩ := free2 HG.out
      obtain ⟨l0, l1, -, -⟩ := free2 ((hb5.block K (heap_lt HKB.out)).trans HKB.out)
      clear hg5 hb5 z3 z4 z5 z7 z8 he6
      obtain ⟨o1, ho1⟩ : ∃ o1, opn W H l x y = o1 := ⟨_, rfl⟩
      obtain ⟨o2, ho2⟩ : ∃ o2, lt.any (onb x y) = o2 := ⟨_, rfl⟩
      have HFQ : Hid (freq W H l lt (bcl ⟨(X : Int), (Y : Int)⟩ (j + 1)) = (o1 && !o2)) := by
        unfold Hid
        rw [HCE.out]
        unfold freq onq
        rw [ho1, ho2]
      have HGC : Hid (Calls Try.prog 36 #[.agg #[.int .i64 A, .int .i64 B, .slice p n c], .agg #[.int .i64 x, .int .i64 y]] w6 fun e w' => e = .returned (.bool o1) ∧ Below w6.heap.size w6 w') := HGR.out w6 x y o1 ho1 HB6.out
      have HGX : Hid (∀ U, Below w6.heap.size w6 U → U.heap[G]? = some (.cells #[.int .i64 x, .int .i64 y] 45)) := fun U hU => (hU.block G (heap_lt HG.out)).trans HG.out
      have HCF : Hid (∀ U, Below w6.heap.size w6 U → Calls Try.prog 53 #[.slice qt lt.length et, .func (.func 54) #[] #[.pointer (some ⟨G, 0, none⟩)]] U fun e w' => e = .returned (.bool o2) ∧ Below U.heap.size U w') := fun U hU =>
        ContainsFunct_any Try.call54 _ qt lt.length et lt (onb x y) o2 U (own_trow (sit_below HS6.out hU).o.kt) rfl (by omega) ho2 (fun t V2 _ hV2 => Free2_at t x y G V2 (cell_call2 (free2 (HGX.out U hU)).1 hV2) (cell_call2 (free2 (HGX.out U hU)).2.1 hV2))
      clear ho1 ho2
      cases o1 with
      | false =>
        have HNX : Hid (∀ j_, j_ < (j + 1) + 1 → freq W H l lt (bcl ⟨(X : Int), (Y : Int)⟩ j_) = false) := fun j_ hj_ => by
          by_cases e : j_ = (j + 1)
          · rw [e, HFQ.out]; rfl
          · exact HS.out.2.2.2.2 j_ (by omega)
        go_wp2_with fail
        refine Calls.mono HGC.out ?_
        rintro e w7 ⟨rfl, hb7⟩
        have HS7 : Hid (sit (J + 1 + 1 + 1) J (J + 1) (J + 1 + 1) w7 ⟨A, B, p, n, c, l, (some ab), nb, cb, lb, (some ⟨gs, 0, none⟩), ls.length, es, ls, qm, lm.length, em, lm, qt, lt.length, et, lt, N, T⟩ ⟨3, (PI : Int), dx, dy, da⟩) := sit_below HS6.out hb7
        have HB7 : Hid (Below w.heap.size w w7) := below_call HB6.out HB6.out.size hb7
        have HB47 : Hid (Below w4.heap.size w4 w7) := below_step HB46.out HB46.out.size hb7
        have HBV7 : Hid (Below w6.heap.size w6 w7) := hb7
        clear hb7 z0 z1 z2 z6 g0 g1 g2 g3 f0 f1 k0 k1 l0 l1 e1 e2 e3 e4 m3 d3 hw5 hw6
        go_wp2_with fail
        go_roundw
        case rel => exact ⟨(j + 1) + 1, _, rfl, by omega, by first | omega | (simp; done) | (simp; omega), HS7.out, HB7.out, HB47.out, HNX.out⟩
        case measure => first | (simp [intOf]; done) | (simp [intOf]; omega)
      | true =>
        cases o2 with
        | true =>
          have HNX : Hid (∀ j_, j_ < (j + 1) + 1 → freq W H l lt (bcl ⟨(X : Int), (Y : Int)⟩ j_) = false) := fun j_ hj_ => by
            by_cases e : j_ = (j + 1)
            · rw [e, HFQ.out]; rfl
            · exact HS.out.2.2.2.2 j_ (by omega)
          go_wp2_with fail
          refine Calls.mono HGC.out ?_
          rintro e w7 ⟨rfl, hb7⟩
          have HS7 : Hid (sit (J + 1 + 1 + 1) J (J + 1) (J + 1 + 1) w7 ⟨A, B, p, n, c, l, (some ab), nb, cb, lb, (some ⟨gs, 0, none⟩), ls.length, es, ls, qm, lm.length, em, lm, qt, lt.length, et, lt, N, T⟩ ⟨3, (PI : Int), dx, dy, da⟩) := sit_below HS6.out hb7
          have HB7 : Hid (Below w.heap.size w w7) := below_call HB6.out HB6.out.size hb7
          have HB47 : Hid (Below w4.heap.size w4 w7) := below_step HB46.out HB46.out.size hb7
          have HBV7 : Hid (Below w6.heap.size w6 w7) := hb7
          clear hb7 z0 z1 z2 z6 g0 g1 g2 g3 f0 f1 k0 k1 l0 l1 e1 e2 e3 e4 m3 d3 hw5 hw6
          obtain ⟨z0, z1, z2, z3, z4, z5, z6, z7, z8⟩ := bx9_c9 HS7.out.x
          simp only at z6
          clear z0 z1 z2 z3 z4 z5 z7 z8
          go_wp2_with fail
          refine Calls.mono (HCF.out w7 HBV7.out) ?_
          rintro e w8 ⟨rfl, hb8⟩
          have HS8 : Hid (sit (J + 1 + 1 + 1) J (J + 1) (J + 1 + 1) w8 ⟨A, B, p, n, c, l, (some ab), nb, cb, lb, (some ⟨gs, 0, none⟩), ls.length, es, ls, qm, lm.length, em, lm, qt, lt.length, et, lt, N, T⟩ ⟨3, (PI : Int), dx, dy, da⟩) := sit_below HS7.out hb8
          have HB8 : Hid (Below w.heap.size w w8) := below_call HB7.out HB7.out.size hb8
          have HB48 : Hid (Below w4.heap.size w4 w8) := below_step HB47.out HB47.out.size hb8
          have HG8 : Hid (w8.heap[G]? = some (.cells #[.int .i64 x, .int .i64 y] 45)) := HGX.out w8 (below_step HBV7.out HBV7.out.size hb8)
          clear hb8 z6
          go_wp2_with fail
          go_roundw
          case rel => exact ⟨(j + 1) + 1, _, rfl, by omega, by first | omega | (simp; done) | (simp; omega), HS8.out, HB8.out, HB48.out, HNX.out⟩
          case measure => first | (simp [intOf]; done) | (simp [intOf]; omega)
        | false =>
          go_wp2_with fail
          refine Calls.mono HGC.out ?_
          rintro e w7 ⟨rfl, hb7⟩
          have HS7 : Hid (sit (J + 1 + 1 + 1) J (J + 1) (J + 1 + 1) w7 ⟨A, B, p, n, c, l, (some ab), nb, cb, lb, (some ⟨gs, 0, none⟩), ls.length, es, ls, qm, lm.length, em, lm, qt, lt.length, et, lt, N, T⟩ ⟨3, (PI : Int), dx, dy, da⟩) := sit_below HS6.out hb7
          have HB7 : Hid (Below w.heap.size w w7) := below_call HB6.out HB6.out.size hb7
          have HB47 : Hid (Below w4.heap.size w4 w7) := below_step HB46.out HB46.out.size hb7
          have HBV7 : Hid (Below w6.heap.size w6 w7) := hb7
          clear hb7 z0 z1 z2 z6 g0 g1 g2 g3 f0 f1 k0 k1 l0 l1 e1 e2 e3 e4 m3 d3 hw5 hw6
          obtain ⟨z0, z1, z2, z3, z4, z5, z6, z7, z8⟩ := bx9_c9 HS7.out.x
          simp only at z6
          clear z0 z1 z2 z3 z4 z5 z7 z8
          go_wp2_with fail
          refine Calls.mono (HCF.out w7 HBV7.out) ?_
          rintro e w8 ⟨rfl, hb8⟩
          have HS8 : Hid (sit (J + 1 + 1 + 1) J (J + 1) (J + 1 + 1) w8 ⟨A, B, p, n, c, l, (some ab), nb, cb, lb, (some ⟨gs, 0, none⟩), ls.length, es, ls, qm, lm.length, em, lm, qt, lt.length, et, lt, N, T⟩ ⟨3, (PI : Int), dx, dy, da⟩) := sit_below HS7.out hb8
          have HB8 : Hid (Below w.heap.size w w8) := below_call HB7.out HB7.out.size hb8
          have HB48 : Hid (Below w4.heap.size w4 w8) := below_step HB47.out HB47.out.size hb8
          have HG8 : Hid (w8.heap[G]? = some (.cells #[.int .i64 x, .int .i64 y] 45)) := HGX.out w8 (below_step HBV7.out HBV7.out.size hb8)
          clear hb8 z6
          have HMF : Hid (makeF W H l lb (Wld.shp ⟨A, B, p, n, c, l, some ab, nb, cb, lb, ps, ns, cs, ls, pm, nm, cm, lm, pt, nt, ct, lt, N, T⟩) (PI : Int) = some ⟨x, y⟩) := by
            unfold Hid makeF
            rw [Int.toNat_natCast, HGD.out]
            have h := bcl_some (P := freq W H l lt) (b := ⟨(X : Int), (Y : Int)⟩) (k := (j + 1)) (by omega) HS.out.2.2.2.2 (by rw [HFQ.out]; rfl)
            rw [HCE.out] at h
            exact h
          have hGJ : ¬ G = J := by have := HNJ.out.1; omega
          have HSJ8 : Hid (∀ V, Below w8.heap.size w8 V → (V.cell? ⟨J, 7, none⟩ = some (.int .i64 N) ∧ V.cell? ⟨J + 1, 1, none⟩ = some (.int .i64 (PI : Int)) ∧ V.cell? ⟨J + 1, 4, none⟩ = some (.int .i64 da) ∧ V.cell? ⟨G, 0, none⟩ = some (.int .i64 x) ∧ V.cell? ⟨G, 1, none⟩ = some (.int .i64 y)) ∧ V.cell? ⟨J, 6, none⟩ = some (.slice qt lt.length et)) := fun V hV => by
            have h := bx9_c9 (sit_below HS8.out hV).x
            have hd := bxd_cells (sit_below HS8.out hV).d
            have hg := free2 ((hV.block G (heap_lt HG8.out)).trans HG8.out)
            exact ⟨⟨h.2.2.2.2.2.2.2.1, hd.2.1, hd.2.2.2.2, hg.1, hg.2.1⟩, h.2.2.2.2.2.2.1⟩
          have HAP8 : Hid (∀ V, Below w8.heap.size w8 V → ∃ p9 c9 V9 v9, (Builtin.append_ #[26, 26] 26 #[.slice qt lt.length et, .slice (some ⟨V.heap.size, 0, none⟩) 1 1]).run Try.prog (V.alloc (.cells #[.int .i64 N, .int .i64 (PI : Int), .int .i64 da, .int .i64 x, .int .i64 y, .int .i64 L, .int .i64 0] 47)) = .ok (.slice p9 (lt.length + 1) c9) V9 ∧ (V9.cell? ⟨J, 7, none⟩ = some (.int .i64 N) ∧ V9.cell? ⟨J + 1, 1, none⟩ = some (.int .i64 (PI : Int)) ∧ V9.cell? ⟨J + 1, 4, none⟩ = some (.int .i64 da) ∧ V9.cell? ⟨G, 0, none⟩ = some (.int .i64 x) ∧ V9.cell? ⟨G, 1, none⟩ = some (.int .i64 y)) ∧ (V9.cell? ⟨J, 6, none⟩ = some v9 ∧ V9.frozen? ⟨J, 6, none⟩ = false) ∧ ((V9.setCell ⟨J, 6, none⟩ (.slice p9 (lt.length + 1) c9)).cell? ⟨J, 7, none⟩ = some (.int .i64 N) ∧ (V9.setCell ⟨J, 6, none⟩ (.slice p9 (lt.length + 1) c9)).cell? ⟨J + 1, 1, none⟩ = some (.int .i64 (PI : Int)) ∧ (V9.setCell ⟨J, 6, none⟩ (.slice p9 (lt.length + 1) c9)).cell? ⟨J + 1, 4, none⟩ = some (.int .i64 da) ∧ (V9.setCell ⟨J, 6, none⟩ (.slice p9 (lt.length + 1) c9)).cell? ⟨G, 0, none⟩ = some (.int .i64 x) ∧ (V9.setCell ⟨J, 6, none⟩ (.slice p9 (lt.length + 1) c9)).cell? ⟨G, 1, none⟩ = some (.int .i64 y)) ∧ (sit (J + 1 + 1 + 1) J (J + 1) (J + 1 + 1) (V9.setCell ⟨J, 6, none⟩ (.slice p9 (lt.length + 1) c9)) ⟨A, B, p, n, c, l, some ab, nb, cb, lb, some ⟨gs, 0, none⟩, ls.length, es, ls, qm, lm.length, em, lm, p9, lt.length + 1, c9, lt ++ [⟨N, (PI : Int), da, x, y, L, 0⟩], N, T⟩ ⟨3, (PI : Int), dx, dy, da⟩ ∧ Below w.heap.size w (V9.setCell ⟨J, 6, none⟩ (.slice p9 (lt.length + 1) c9)))) := fun V hV => by
            have hs := sit_below HS8.out hV
            have hgV := (hV.block G (heap_lt HG8.out)).trans HG8.out
            have hCV : J + 1 + 1 + 1 ≤ V.heap.size := by have := heap_lt hgV; have := HNJ.out.1; omega
            obtain ⟨p9, c9, V9, hrun, hex, hx9, hs10⟩ := sit_append hs ⟨N, (PI : Int), da, x, y, L, 0⟩ (by show lt.length ≤ 100; omega) hCV
            have hGt : ¬ some G = (Value.slice qt lt.length et).ownBlock := fun e => own_not hs.o.kt hgV (by decide) G e.symm rfl
            have hDt : ¬ some (J + 1) = (Value.slice qt lt.length et).ownBlock := fun e => own_not hs.o.kt hs.d (by decide) _ e.symm rfl
            have hg9 := (hex.block G (heap_lt hgV) hGt).trans hgV
            have hd9 := bxd_ex hs.d hex hDt
            have e2 : Ex (fun g => g = J) V9 (V9.setCell ⟨J, 6, none⟩ (.slice p9 (lt.length + 1) c9)) := Ex.set (S := fun g => g = J) V9 ⟨J, 6, none⟩ rfl _
            have hg10 := (e2.block G (heap_lt hg9) hGJ).trans hg9
            have h9 := bx9_c9 hx9
            have h10 := bx9_c9 hs10.x
            have b8 := below_call HB8.out HB8.out.size hV
            have b9 : Below w.heap.size w V9 := b8.trans (hex.below b8.size (fun k_ hk_ e => by have h1 := (World.ownsRow.lt hs.o.kt k_ e.symm).1; have h2 := HS0.out.2; omega))
            have b10 := b9.trans (e2.below b9.size (fun k_ hk_ e => by have h2 := HS0.out.2; omega))
            exact ⟨p9, c9, V9, _, hrun, ⟨h9.2.2.2.2.2.2.2.1, (bxd_cells hd9).2.1, (bxd_cells hd9).2.2.2.2, (free2 hg9).1, (free2 hg9).2.1⟩, ⟨h9.2.2.2.2.2.2.1, bx9_free hx9 6⟩, ⟨h10.2.2.2.2.2.2.2.1, (bxd_cells hs10.d).2.1, (bxd_cells hs10.d).2.2.2.2, (free2 hg10).1, (free2 hg10).2.1⟩, hs10, b10⟩
          go_wp2_with fail
          refine regd33 J (J + 1) G lt.length (lt.length + 1) et PI N da x y L r0 g0 P qt w8 _ _ _ _ _ _ _ _ _ _ _ _ _ _ _ _ _ _ _ _ _ _ _ _ _ _ _ _ _ _ _ _ _ _ _ _ _ _ _ _ _ _ _ _ _ _ _ _ _ _ _ _ _ _ _ _ _ _ _ _ _ _ _ _ _ _ _ _ _ _ _ _ _ _ _ _ _ _ _ _ _ _ _ _ _ _ _ _ _ _ _ _ _ _ _ _ _ _ _ _ _ _ _ _ _ _ _ _ _ _ _ _ _ _ _ _ _ _ _ _ _ _ _ _ _ _ _ _ _ _ _ _ _ _ _ _ _ _ _ _ _ _ _ _ _ _ _ _ _ _ _ _ _ _ _ _ _ _ _ _ _ _ _ _ _ _ _ _ _ _ _ _ _ _ _ _ _ _ _ _ _ _ _ _ _ _ _ _ _ _ _ _ _ _ _ _ _ _ _ _ _ _ _ _ _ _ _ _ _ _ _ _ _ _ _ _ _ _ _ _ _ _ _ _ _ _ _ _ _ _ _ _ _ _ _ _ _ _ _ _ _ _ _ _ _ _ _ _ _ _ _ _ _ _ _ _ _ _ _ _ _ _ _ _ _ _ _ _ _ _ _ _ _ _ _ _ _ _ _ _ _ _ _ _ _ _ _ _ _ (fun p9 c9 V => sit (J + 1 + 1 + 1) J (J + 1) (J + 1 + 1) V ⟨A, B, p, n, c, l, some ab, nb, cb, lb, some ⟨gs, 0, none⟩, ls.length, es, ls, qm, lm.length, em, lm, p9, lt.length + 1, c9, lt ++ [⟨N, (PI : Int), da, x, y, L, 0⟩], N, T⟩ ⟨3, (PI : Int), dx, dy, da⟩ ∧ Below w.heap.size w V) _ HSJ8 HKD HAP8 ?_
          intro p9 c9 g9 V10 hp10
          have HS10 : Hid (sit (J + 1 + 1 + 1) J (J + 1) (J + 1 + 1) V10 ⟨A, B, p, n, c, l, some ab, nb, cb, lb, some ⟨gs, 0, none⟩, ls.length, es, ls, qm, lm.length, em, lm, p9, lt.length + 1, c9, lt ++ [⟨N, (PI : Int), da, x, y, L, 0⟩], N, T⟩ ⟨3, (PI : Int), dx, dy, da⟩) := hp10.1
          have HB10 : Hid (Below w.heap.size w V10) := hp10.2
          have HAPZ : Hid True := trivial
          clear hp10 HSJ8 HAP8
          obtain ⟨V11, hV11⟩ : ∃ V11, V10.setCell ⟨J, 7, none⟩ (.int .i64 (N + 1)) = V11 := ⟨_, rfl⟩
          have HS11 : Hid (sit (J + 1 + 1 + 1) J (J + 1) (J + 1 + 1) V11 ⟨A, B, p, n, c, l, some ab, nb, cb, lb, some ⟨gs, 0, none⟩, ls.length, es, ls, qm, lm.length, em, lm, p9, lt.length + 1, c9, lt ++ [⟨N, (PI : Int), da, x, y, L, 0⟩], N + 1, T⟩ ⟨3, (PI : Int), dx, dy, da⟩) := by unfold Hid; rw [← hV11]; exact sit_N HS10.out (N + 1)
          have HB11 : Hid (Below w.heap.size w V11) := by unfold Hid; rw [← hV11]; exact HB10.out.setCell (p := ⟨J, 7, none⟩) (by show w.heap.size ≤ J; have := HS0.out.2; omega) _
          obtain ⟨z0, z1, z2, z3, z4, z5, z6, z7, z8⟩ := bx9_c9 HS10.out.x
          have f7 := bx9_free HS10.out.x 7
          simp only at z7
          have HPSL : Hid (PI < ls.length) := by unfold Hid; omega
          have HSJ11 : Hid (∀ V, Below V11.heap.size V11 V → (V.cell? ⟨J, 4, none⟩ = some (.slice (some ⟨gs, 0, none⟩) ls.length es) ∧ V.cell? ⟨J + 1, 1, none⟩ = some (.int .i64 (PI : Int)) ∧ V.cell? ⟨J + 1, 4, none⟩ = some (.int .i64 da)) ∧ V.cell? ⟨gs, PI, none⟩ = some (.int .i64 Sv) ∧ V.frozen? ⟨gs, PI, none⟩ = false ∧ ((V.setCell ⟨gs, PI, none⟩ (.int .i64 (Sv - P))).cell? ⟨J, 4, none⟩ = some (.slice (some ⟨gs, 0, none⟩) ls.length es) ∧ (V.setCell ⟨gs, PI, none⟩ (.int .i64 (Sv - P))).cell? ⟨J + 1, 1, none⟩ = some (.int .i64 (PI : Int)) ∧ (V.setCell ⟨gs, PI, none⟩ (.int .i64 (Sv - P))).cell? ⟨J + 1, 4, none⟩ = some (.int .i64 da))) := fun V hV => by
            have hs := sit_below HS11.out hV
            obtain ⟨g_, hg_, h1, h2, h3, h4⟩ := own_cell hs.o.ks (j := PI) HPSL.out
            obtain rfl : gs = g_ := by simpa using hg_
            have h1' : V.cell? ⟨gs, PI, none⟩ = some (.int .i64 Sv) := by rw [← HSV.out]; exact h1
            have hs2 := sit_ls hs rfl PI (Sv - P)
            have c1 := bx9_c9 hs.x
            have c2 := bx9_c9 hs2.x
            have d1 := bxd_cells hs.d
            have d2 := bxd_cells hs2.d
            exact ⟨⟨c1.2.2.2.2.1, d1.2.1, d1.2.2.2.2⟩, h1', h2, ⟨c2.2.2.2.2.1, d2.2.1, d2.2.2.2.2⟩⟩
          have eP : IntKind.i64.wrap (Sv - P) = Sv - P := wrp (by omega) (by omega)
          have HEP : Hid (IntKind.i64.wrap (Sv - P) = Sv - P) := eP
          clear z0 z1 z2 z3 z4 z5 z6 z8 eP
          go_wp2_with fail
          clear z7 f7 hV11
          refine regd35 J (J + 1) gs ls.length es PI da Sv L r0 g0 P V11 _ _ _ _ _ _ _ _ _ _ _ _ _ _ _ _ _ _ _ _ _ _ _ _ _ _ _ _ _ _ _ _ _ _ _ _ _ _ _ _ _ _ _ _ _ _ _ _ _ _ _ _ _ _ _ _ _ _ _ _ _ _ _ _ _ _ _ _ _ _ _ _ _ _ _ _ _ _ _ _ _ _ _ _ _ _ _ _ _ _ _ _ _ _ _ _ _ _ _ _ _ _ _ _ _ _ _ _ _ _ _ _ _ _ _ _ _ _ _ _ _ _ _ _ _ _ _ _ _ _ _ _ _ _ _ _ _ _ _ _ _ _ _ _ _ _ _ _ _ _ _ _ _ _ _ _ _ _ _ _ _ _ _ _ _ _ _ _ _ _ _ _ _ _ _ _ _ _ _ _ _ _ _ _ _ _ _ _ _ _ _ _ _ _ _ _ _ _ _ _ _ _ _ _ _ _ _ _ _ _ _ _ _ _ _ _ _ _ _ _ _ _ _ _ _ _ _ _ _ _ _ _ _ _ _ _ _ _ _ _ _ _ _ _ _ _ _ _ _ _ _ _ _ _ _ _ _ _ _ _ _ _ _ _ _ _ _ _ _ _ _ _ _ _ _ _ _ _ _ _ _ _ _ _ _ _ _ _ _ _ _ pS HEP.out HSJ11 HKD ?_
          intro V hV
          obtain ⟨V12, hV12⟩ : ∃ V12, V.setCell ⟨gs, PI, none⟩ (.int .i64 (Sv - P)) = V12 := ⟨_, rfl⟩
          rw [hV12]
          have HS12 : Hid (sit (J + 1 + 1 + 1) J (J + 1) (J + 1 + 1) V12 ⟨A, B, p, n, c, l, some ab, nb, cb, lb, some ⟨gs, 0, none⟩, ls.length, es, ls.set PI (Sv - P), qm, lm.length, em, lm, p9, lt.length + 1, c9, lt ++ [⟨N, (PI : Int), da, x, y, L, 0⟩], N + 1, T⟩ ⟨3, (PI : Int), dx, dy, da⟩) := by unfold Hid; rw [← hV12]; exact sit_ls (sit_below HS11.out hV) rfl PI (Sv - P)
          have HB12 : Hid (Below w.heap.size w V12) := by
            unfold Hid
            rw [← hV12]
            have hs := sit_below HS11.out hV
            obtain ⟨g_, hg_, h1, h2, h3, h4⟩ := own_cell hs.o.ks (j := PI) HPSL.out
            obtain rfl : gs = g_ := by simpa using hg_
            exact (below_call HB11.out HB11.out.size hV).setCell (p := ⟨gs, PI, none⟩) (by show w.heap.size ≤ gs; have := HS0.out.2; omega) _
          clear hV hV12 HSJ11
          obtain ⟨ra, rb, rc, rd, re, rf, rg, rh, ri, hrr⟩ := HS12.out.r
          obtain ⟨u9, hu9⟩ : ∃ u9, (((((((((V12.setCell ⟨J + 1 + 1, 0, none⟩ (.int .i64 A)).setCell ⟨J + 1 + 1, 1, none⟩ (.int .i64 B)).setCell ⟨J + 1 + 1, 2, none⟩ (.slice p n c)).setCell ⟨J + 1 + 1, 3, none⟩ (.slice (some ab) nb cb)).setCell ⟨J + 1 + 1, 4, none⟩ (.slice (some ⟨gs, 0, none⟩) ls.length es)).setCell ⟨J + 1 + 1, 5, none⟩ (.slice qm lm.length em)).setCell ⟨J + 1 + 1, 6, none⟩ (.slice p9 (lt.length + 1) c9)).setCell ⟨J + 1 + 1, 7, none⟩ (.int .i64 (N + 1))).setCell ⟨J + 1 + 1, 8, none⟩ (.int .i64 T)) = u9 := ⟨_, rfl⟩
          obtain ⟨x9, e9⟩ := set9 hrr hu9.symm
          have HF9 : Hid (sown w.heap.size u9 ⟨A, B, p, n, c, l, some ab, nb, cb, lb, some ⟨gs, 0, none⟩, ls.length, es, ls.set PI (Sv - P), qm, lm.length, em, lm, p9, lt.length + 1, c9, lt ++ [⟨N, (PI : Int), da, x, y, L, 0⟩], N + 1, T⟩ ∧ Below w.heap.size w u9) := ⟨sown_mono (sown_ex HS12.out.o e9 (by intro g hg; omega)) (by have := HS0.out.2; omega), HB12.out.trans (e9.below HB12.out.size (by intro k hk; have := HS0.out.2; omega))⟩
          obtain ⟨y0, y1, y2, y3, y4, y5, y6, y7, y8⟩ := bx9_c9 x9
          obtain ⟨o0, o1, o2, o3, o4, o5, o6, o7, o8⟩ := bx9_c9 hrr
          have fr0 := bx9_free hrr 0
          have fr1 := bx9_free hrr 1
          have fr2 := bx9_free hrr 2
          have fr3 := bx9_free hrr 3
          have fr4 := bx9_free hrr 4
          have fr5 := bx9_free hrr 5
          have fr6 := bx9_free hrr 6
          have fr7 := bx9_free hrr 7
          have fr8 := bx9_free hrr 8
          obtain ⟨z0, z1, z2, z3, z4, z5, z6, z7, z8⟩ := bx9_c9 HS12.out.x
          clear hrr x9 e9
          go_wp2_with fail
          refine ⟨by simp, .tuple #[.agg #[.int .i64 A, .int .i64 B, .slice p n c, .slice (some ab) nb cb, .slice (some ⟨gs, 0, none⟩) ls.length es, .slice qm lm.length em, .slice p9 (lt.length + 1) c9, .int .i64 (N + 1), .int .i64 T], .bool true], ?_, ⟨⟨A, B, p, n, c, l, some ab, nb, cb, lb, some ⟨gs, 0, none⟩, ls.length, es, ls.set PI (Sv - P), qm, lm.length, em, lm, p9, lt.length + 1, c9, lt ++ [⟨N, (PI : Int), da, x, y, L, 0⟩], N + 1, T⟩, true, rfl, ⟨rfl, rfl, rfl, rfl, rfl, rfl, rfl, rfl, rfl, rfl, rfl⟩, ?_, ds_make rfl (.inl ⟨rfl, HMC.out, ⟨x, y⟩, HMF.out, by unfold makeS makeT Wld.shp; simp only; rw [HL.out.1, HL.out.2, Int.toNat_natCast, HSV.out]⟩)⟩, ?_⟩
          · simp [results, Try.results38, go_sem, y0, y1, y2, y3, y4, y5, y6, y7, y8]
          · first | exact HF9.out.1 | (rw [← HS0.out.2]; exact HF9.out.1)
          · first | exact HF9.out.2 | (rw [← HS0.out.2]; exact HF9.out.2)
end Go.Proofs.Ytdcjjfipnilmpaa
