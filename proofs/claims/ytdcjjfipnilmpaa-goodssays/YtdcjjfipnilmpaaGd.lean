/- What goods.drop does. -/
import Derived.Test.YtdcjjfipnilmpaaGi
namespace Go.Proofs.Ytdcjjfipnilmpaa
open Go.RowKit Go.Maps
set_option linter.unusedVariables false

/-- What is told of a Load that is brought in, or not. -/
def dropO (lb : List Cel) (s s' : Shp) (i : Int) (r : Bool) : Prop :=
  (r = true ∧ ∃ (k : Nat) (t : Trp), s.lt[k]? = some t ∧ t.i = i ∧ dropC lb s t ∧ s' = dropS s k t (dropN s t)) ∨ (r = false ∧ s' = s ∧ ∀ (k : Nat) (t : Trp), s.lt[k]? = some t → t.i = i → ¬ dropC lb s t)
set_option maxRecDepth 20000 in
set_option maxHeartbeats 8000000 in
theorem drop_at (B J b W H : Nat) (s : Wld) (i : Int) (V : World) (h : shop B J b V s) (ho : oks W H s.l s.lb s.shp) (hA : s.A = W) (hB : s.B = H) (fi : fits i) :
    Calls Try.prog 46 #[.pointer (some ⟨J, 0, none⟩), .int .i64 i] V fun e w' => (∃ (r : Bool) (s' : Wld), e = .returned (.bool r) ∧ shop B J b w' s' ∧ likes s s' ∧ dropO s.lb s.shp s'.shp i r) ∧ Ex (shS J b s) V w' := by
  have HS : Hid (∀ U, Below V.heap.size V U → shop B J b U s) := fun U hU => shop_below h hU
  have HO : Hid (oks W H s.l s.lb s.shp) := ho
  obtain ⟨v, r, hlk, hcase⟩ := shop_find h fi (ids_nodup ho.tr)
  obtain ⟨-, -, -, -, -, -, -, -, -, j9⟩ := bx10_c10 h.1.x
  have hWH : W ≤ 40 ∧ H ≤ 40 := ⟨ho.f.1.2, ho.f.2.1.2⟩
  clear h ho hA hB
  rcases hcase with ⟨rfl, hno⟩ | ⟨rfl, k, t, rfl, hkt, hti⟩
  · have HN : Hid (∀ (k : Nat) (t : Trp), s.lt[k]? = some t → ¬ t.i = i) := hno
    clear hno
    go_enter Try.func46, Try.ntmps46
    go_wp2_with fail
    go_ret
    refine ⟨⟨false, s, rfl, HS.out V (Below.refl _ _), likes.refl s, .inr ⟨rfl, rfl, fun k t hk e => absurd e (HN.out k t hk)⟩⟩, Ex.refl _ _⟩
  have hbd := drop_bd HO.out hkt
  have hT1 := (tr_at HO.out.tr hkt).2.2
  have ho := (HS.out V (Below.refl _ _)).1.o
  have hx := (HS.out V (Below.refl _ _)).1.x
  obtain ⟨O, hO⟩ : ∃ O : Nat, t.o = O := ⟨t.o.toNat, by have := hT1.2.1; omega⟩
  have hO2 : t.o.toNat = O := by rw [hO]; simp
  have hOl : O < s.lb.length := by have := hbd.2.2.2.2.2; rw [hO2] at this; exact this
  have hls : s.ls.length = s.lb.length := HO.out.pl.1
  obtain ⟨gs, hgs, hs1, hs2, hs3, hs4⟩ := own_cell ho.ks (j := O) (by rw [hls]; exact hOl)
  obtain ⟨gt, hgt, ht1, ht2, ht3, ht4⟩ := own_tcell ho.kt hkt
  obtain ⟨ab, hab, hb1, hb2⟩ := crow_at (own_crow ho.kb) hOl
  have hb2' := cell_two hb2
  obtain ⟨Sv, hSv⟩ : ∃ Sv, s.ls.getD O 0 = Sv := ⟨_, rfl⟩
  obtain ⟨c, hc⟩ : ∃ c, s.lb[O] = c := ⟨_, rfl⟩
  have hcin : inb W H c.x c.y = true := by rw [← hc]; exact opn_inb (HO.out.pl.2.2.1 O hOl)
  have hgd : s.lb.getD O ⟨0, 0⟩ = c := by rw [List.getD_eq_getElem?_getD, List.getElem?_eq_getElem hOl, hc]; rfl
  have HNR : Hid (near t.x t.y = true ∧ near c.x c.y = true) := ⟨inb_near hWH.1 hWH.2 (opn_inb hT1.2.2.2.1), inb_near hWH.1 hWH.2 hcin⟩
  obtain ⟨n, hn⟩ : ∃ n, dropN s.shp t = n := ⟨_, rfl⟩
  have hSv2 : s.shp.ls.getD t.o.toNat 0 = Sv := by rw [hO2]; exact hSv
  have HBD : Hid (0 ≤ n ∧ n ≤ t.d ∧ Sv + n ≤ 1000000 ∧ 0 ≤ Sv ∧ t.d ≤ 5) := by
    rw [hn, hSv2] at hbd
    exact ⟨hbd.1, hbd.2.1, hbd.2.2.1, hbd.2.2.2.1, hbd.2.2.2.2.1⟩
  obtain ⟨q, hq⟩ : ∃ q, (1000000 - Sv : Int) = q := ⟨_, rfl⟩
  have hmn : (if q < t.d then q else t.d) = n := by
    rw [← hn, ← hq]; unfold dropN mnd; rw [hSv2]
  have hwr : IntKind.i64.wrap (1000000 - Sv) = q := by rw [← hq]; exact wrp (by have := HBD.out; omega) (by have := HBD.out; omega)
  have HDN : Hid (dropN s.shp t = n) := hn
  have nJs : ¬ J = gs := fun e => own_not ho.ks hx (by decide) gs (by rw [hgs]; rfl) e.symm
  have nJt : ¬ J = gt := fun e => own_not ho.kt hx (by decide) gt (by rw [hgt]; rfl) e.symm
  have nst : ¬ gs = gt := fun e => own_apart ho.ks ho.kt (by decide) gs (by rw [hgs]; rfl) (by rw [hgt, e]; rfl)
  have nls := (own_parts ho.ks).1
  have nlt := (own_parts ho.kt).1
  have nlb := (own_parts ho.kb).1
  rw [hSv] at hs1
  rw [hc] at hb1 hb2'
  have HSC : Hid (∀ U, Below V.heap.size V U → U.cell? ⟨gs, O, none⟩ = some (.int .i64 Sv) ∧ U.frozen? ⟨gs, O, none⟩ = false) := fun U hU => ⟨cell_call2 hs1 hU, (hU.frozen (p := ⟨gs, O, none⟩) hs4).trans hs2⟩
  have HBC : Hid (∀ U, Below V.heap.size V U → U.cell? (ab.add (O * 2)) = some (.int .i64 c.x) ∧ U.cell? ⟨(ab.add (O * 2)).block, (ab.add (O * 2)).off + 1, none⟩ = some (.int .i64 c.y)) := fun U hU => ⟨cell_call2 hb1 hU, cell_call2 hb2' hU⟩
  have HTC : Hid (∀ U, Below V.heap.size V U → (U.cell? ⟨gt, k * 7 + 1, none⟩ = some (.int .i64 (O : Int)) ∧ U.cell? ⟨gt, k * 7 + 3, none⟩ = some (.int .i64 t.x) ∧ U.cell? ⟨gt, k * 7 + 4, none⟩ = some (.int .i64 t.y) ∧ U.cell? ⟨gt, k * 7 + 6, none⟩ = some (.int .i64 t.d)) ∧ U.frozen? ⟨gt, k * 7 + 6, none⟩ = false) := fun U hU => ⟨⟨by rw [← hO]; exact cell_call2 ht1.2.1 hU, cell_call2 ht1.2.2.2.1 hU, cell_call2 ht1.2.2.2.2.1 hU, cell_call2 ht1.2.2.2.2.2.2 hU⟩, (hU.frozen (p := ⟨gt, k * 7 + 6, none⟩) ht4).trans ht2⟩
  have HJC : Hid (∀ U, Below V.heap.size V U → U.cell? ⟨J, 3, none⟩ = some (.slice (some ab) s.nb s.cb) ∧ U.cell? ⟨J, 4, none⟩ = some (.slice (some ⟨gs, 0, none⟩) s.ns s.cs) ∧ U.cell? ⟨J, 6, none⟩ = some (.slice (some ⟨gt, 0, none⟩) s.nt s.ct)) := fun U hU => by
    have := bx10_c10 (HS.out U hU).1.x
    exact ⟨by rw [this.2.2.2.1, hab], by rw [this.2.2.2.2.1, hgs], by rw [this.2.2.2.2.2.2.1, hgt]⟩
  have HGS : Hid (s.ps = some ⟨gs, 0, none⟩) := hgs
  have HGT : Hid (s.pt = some ⟨gt, 0, none⟩) := hgt
  have HSS : Hid (s.ls.getD O 0 = Sv) := hSv
  have HKT : Hid (s.lt[k]? = some t) := hkt
  have HTI : Hid (t.i = i) := hti
  have HOO : Hid (t.o.toNat = O) := hO2
  have HGD : Hid (s.lb.getD O ⟨0, 0⟩ = c) := hgd
  have HNS : Hid (s.ls.length = s.ns) := nls
  have HONE : Hid (∀ (k' : Nat) (t' : Trp), s.lt[k']? = some t' → t'.i = i → t' = t) := fun k' t' h1 h2 => by
    have e := tr_one HO.out.tr h1 hkt (by rw [h2, hti])
    subst e
    have h1' : s.lt[k']? = some t' := h1
    rw [hkt] at h1'; cases h1'; rfl
  have hkl := (List.getElem?_eq_some_iff.1 hkt).1
  have oN : (O : Int) < (s.ns : Int) := by omega
  have oB : (O : Int) < (s.nb : Int) := by omega
  have kN : (k : Int) < (s.nt : Int) := by omega
  have o0 : (0 : Int) ≤ O := by omega
  have k0 : (0 : Int) ≤ k := by omega
  obtain ⟨ns, hns⟩ : ∃ ns, s.ns = ns := ⟨_, rfl⟩
  obtain ⟨cs, hcs⟩ : ∃ cs, s.cs = cs := ⟨_, rfl⟩
  obtain ⟨nt, hnt⟩ : ∃ nt, s.nt = nt := ⟨_, rfl⟩
  obtain ⟨ct, hct⟩ : ∃ ct, s.ct = ct := ⟨_, rfl⟩
  obtain ⟨nb, hnb⟩ : ∃ nb, s.nb = nb := ⟨_, rfl⟩
  obtain ⟨cb, hcb⟩ : ∃ cb, s.cb = cb := ⟨_, rfl⟩
  rw [hns, hcs, hnt, hct, hnb, hcb] at HJC
  rw [hns] at oN
  rw [hnt] at kN
  rw [hnb] at oB
  obtain ⟨nr, hnr⟩ : ∃ nr, decide (kg t.x t.y c.x c.y ≤ 1) = nr := ⟨_, rfl⟩
  have HBS : Hid (∀ U, Calls Try.prog 64 #[.agg #[.int .i64 t.x, .int .i64 t.y], .agg #[.int .i64 c.x, .int .i64 c.y]] U fun e w' => e = .returned (.bool nr) ∧ Below U.heap.size U w') := fun U => isBeside_at t.x t.y c.x c.y nr U HNR.out.1 HNR.out.2 hnr
  have HK : Hid (decide (kg t.x t.y c.x c.y ≤ 1) = nr) := hnr
  have HDC : Hid (dropC s.lb s.shp t ↔ (n ≠ 0 ∧ nr = true)) := by
    unfold Hid dropC
    rw [HDN.out, HOO.out, HGD.out, ← HK.out]
    simp
  obtain ⟨ti, to_, tk, tx, ty, tf, td⟩ := t
  obtain ⟨cx, cy⟩ := c
  simp only at HTC hmn HBS HBC HBD
  clear hkt hti hSv hgs hs1 hs2 hs3 hs4 hgt ht1 ht2 ht3 ht4 hbd hT1 hx ho nls nlt nlb hns hcs hnt hct hnb hcb hnr hn hSv2 hq hO hO2 hOl hls hab hb1 hb2 hb2' hc hcin hgd hkl
  obtain ⟨j3, j4, j6⟩ := HJC.out V (Below.refl _ _)
  obtain ⟨s1, s2⟩ := HSC.out V (Below.refl _ _)
  obtain ⟨b1, b2⟩ := HBC.out V (Below.refl _ _)
  obtain ⟨⟨t1, t3, t4, t6⟩, f6⟩ := HTC.out V (Below.refl _ _)
  by_cases hn0 : n = 0
  · subst hn0
    go_enter Try.func46, Try.ntmps46
    go_wp2_with fail
    go_quiet (fail)
    go_wp2_with fail
    go_quiet (fail)
    go_wp2_with fail
    go_ret
    refine ⟨⟨false, s, rfl, HS.out _ ?_, likes.refl s, .inr ⟨rfl, rfl, fun k t hk e hc => by have h1 := HONE.out k t hk e; rw [h1] at hc; exact (HDC.out.1 hc).1 rfl⟩⟩, Ex.of_below ?_⟩
    all_goals exact below_drewN (below_drewN (Below.refl _ _) _) _
  have dn : (n == 0) = false := by simp [hn0]
  go_enter Try.func46, Try.ntmps46
  go_wp2_with fail
  go_quiet (fail)
  rename_i nq
  clear hmn hwr
  obtain ⟨w1, hw1⟩ : ∃ w1, V.drewN nq = w1 := ⟨_, rfl⟩
  rw [hw1]
  have HB1 : Hid (Below V.heap.size V w1) := by unfold Hid; rw [← hw1]; exact below_drewN (Below.refl _ _) _
  clear hw1 j3 j4 j6 s1 s2 b1 b2 t1 t3 t4 t6 f6 hlk j9
  obtain ⟨j3, j4, j6⟩ := HJC.out w1 HB1.out
  obtain ⟨b1, b2⟩ := HBC.out w1 HB1.out
  obtain ⟨⟨t1, t3, t4, t6⟩, f6⟩ := HTC.out w1 HB1.out
  go_wp2_with fail
  go_region_held3 (fun U => Below w1.heap.size w1 U ∧ U.cell? ⟨J, 3, none⟩ = some (.slice (some ab) nb cb) ∧ U.cell? ⟨gt, k * 7 + 1, none⟩ = some (.int .i64 (O : Int)) ∧ U.cell? ⟨gt, k * 7 + 3, none⟩ = some (.int .i64 tx) ∧ U.cell? ⟨gt, k * 7 + 4, none⟩ = some (.int .i64 ty) ∧ U.cell? (ab.add (O * 2)) = some (.int .i64 cx) ∧ U.cell? ⟨(ab.add (O * 2)).block, (ab.add (O * 2)).off + 1, none⟩ = some (.int .i64 cy)) (first | with_reducible assumption | with_reducible exact k6_drew (by assumption) | with_reducible exact k6_call (by assumption) (by assumption) | exact ⟨Below.drew (Below.refl _ _), j3, t1, t3, t4, b1, b2⟩) (first
            | (go_at_call 64; with_reducible refine (HBS.out _).mono ?_; rintro e w2 ⟨rfl, hb2⟩))
  have HB2 : Hid (Below V.heap.size V w2) := below_step HB1.out HB1.out.size ((Below.refl _ _).drew.trans hb2)
  clear hb2 j3 j4 j6 b1 b2 t1 t3 t4 t6 f6
  cases nr with
  | false =>
    go_wp2_with fail
    go_ret
    refine ⟨⟨false, s, rfl, HS.out w2 HB2.out, likes.refl s, .inr ⟨rfl, rfl, fun k t hk e hc => by have h1 := HONE.out k t hk e; rw [h1] at hc; have := (HDC.out.1 hc).2; cases this⟩⟩, Ex.of_below HB2.out⟩
  | true =>
    obtain ⟨j3, j4, j6⟩ := HJC.out w2 HB2.out
    obtain ⟨s1, s2⟩ := HSC.out w2 HB2.out
    obtain ⟨⟨t1, t3, t4, t6⟩, f6⟩ := HTC.out w2 HB2.out
    have hbd := HBD.out
    have g1 : 0 ≤ n := hbd.1
    have g2 : n ≤ td := hbd.2.1
    have g3 : Sv + n ≤ 1000000 := hbd.2.2.1
    have g4 : 0 ≤ Sv := hbd.2.2.2.1
    have g5 : td ≤ 5 := hbd.2.2.2.2
    clear hbd
    go_wp2_with fail
    go_region
    all_goals
      go_wp2_with fail
      go_ret
      have h1 := shop_load (HS.out w2 HB2.out) HGT.out HKT.out (td - n)
      have h2 := shop_ls h1 (g := gs) HGS.out HNS.out O (Sv + n)
      refine ⟨⟨true, _, rfl, shop_below h2 ?_, ⟨rfl, rfl, rfl, rfl, rfl, rfl, rfl, rfl, rfl, rfl, rfl⟩, .inl ⟨rfl, k, _, HKT.out, HTI.out, HDC.out.2 ⟨hn0, (by first | rfl | trivial)⟩, ?_⟩⟩, ?_⟩
      · exact (Below.refl _ _).drew
      · rw [HDN.out]
        unfold dropS Wld.shp
        simp only
        rw [HOO.out, HSS.out]
      · exact Ex.drew (ex_set (ex_set (Ex.of_below HB2.out) ⟨gt, k * 7 + 6, none⟩ (.inr (.inr (.inr (.inr (by rw [HGT.out]; rfl))))) _) ⟨gs, O, none⟩ (.inr (.inr (.inl (by rw [HGS.out]; rfl)))) _)
end Go.Proofs.Ytdcjjfipnilmpaa
