/- What goods.mine does. -/
import Derived.Test.YtdcjjfipnilmpaaGb
import Derived.Deep.RegionHeld3
import Derived.Deep.DrawnRows
namespace Go.Proofs.Ytdcjjfipnilmpaa
open Go.RowKit Go.Maps
set_option linter.unusedVariables false

/-- A shop's world that is like another one, but for what deeds change. -/
structure likes (s s' : Wld) : Prop where
  a : s'.A = s.A
  b : s'.B = s.B
  p : s'.p = s.p
  n : s'.n = s.n
  c : s'.c = s.c
  l : s'.l = s.l
  pb : s'.pb = s.pb
  nb : s'.nb = s.nb
  cb : s'.cb = s.cb
  lb : s'.lb = s.lb
  t : s'.T = s.T
theorem likes.refl (s : Wld) : likes s s := ⟨rfl, rfl, rfl, rfl, rfl, rfl, rfl, rfl, rfl, rfl, rfl⟩
theorem likes.trans {s s1 s2 : Wld} (h : likes s s1) (g : likes s1 s2) : likes s s2 :=
  ⟨g.a.trans h.a, g.b.trans h.b, g.p.trans h.p, g.n.trans h.n, g.c.trans h.c, g.l.trans h.l, g.pb.trans h.pb, g.nb.trans h.nb, g.cb.trans h.cb, g.lb.trans h.lb, g.t.trans h.t⟩
theorem ids_nodup {W H nb : Nat} {l : List Int} {N : Int} {lt : List Trp} (h : TRr W H l nb N lt) : (lt.map Trp.i).Nodup := by
  have := h.2.1
  rw [← List.pairwise_map (f := Trp.i) (R := fun a b => a < b)] at this
  exact this.imp (fun h e => by omega)
/-- What a map of places tells of a number, of a list of troops. -/
theorem shop_find {B J b : Nat} {V : World} {s : Wld} {i : Int} (h : shop B J b V s) (fi : fits i) (hd : (s.lt.map Trp.i).Nodup) :
    ∃ (v : Int) (r : Bool), (Instr.lookup 66 (.map (some b)) (.int .i64 i) true).run Try.prog V = .ok (.tuple #[.int .i64 v, .bool r]) V ∧ ((r = false ∧ ∀ (k : Nat) (t : Trp), s.lt[k]? = some t → ¬ t.i = i) ∨ (r = true ∧ ∃ (k : Nat) (t : Trp), v = (k : Int) ∧ s.lt[k]? = some t ∧ t.i = i)) := by
  obtain ⟨v, r, h1, h2⟩ := mapi_find h.2 fi hd
  refine ⟨v, r, h1, ?_⟩
  rcases h2 with ⟨h2, h3⟩ | ⟨h2, k, hk, h3, h4⟩
  · exact .inl ⟨h3, fun k t hk e => h2 (List.mem_map.2 ⟨t, List.mem_of_getElem? hk, e⟩)⟩
  · have hk2 : k < s.lt.length := by simpa using hk
    exact .inr ⟨h2, k, s.lt[k], h3, List.getElem?_eq_getElem hk2, by simpa using h4⟩
theorem inb_near {W H : Nat} {x y : Int} (hW : W ≤ 40) (hH : H ≤ 40) (h : inb W H x y = true) : near x y = true := by
  obtain ⟨a, b, rfl, rfl, ha, hb⟩ := inb_nat h
  exact near_mk ⟨by omega, by omega, by omega, by omega⟩
/-- What is told of a mine that is dug, or not. -/
def mineO (W H : Nat) (s s' : Shp) (i x y : Int) (r : Bool) : Prop :=
  (r = true ∧ ∃ (k : Nat) (t : Trp), s.lt[k]? = some t ∧ t.i = i ∧ mineC W H s t x y ∧ s' = mineS s k (ixp W x y) t (s.lm.getD (ixp W x y) 0)) ∨ (r = false ∧ s' = s ∧ ∀ (k : Nat) (t : Trp), s.lt[k]? = some t → t.i = i → ¬ mineC W H s t x y)
set_option maxRecDepth 20000 in
set_option maxHeartbeats 8000000 in
theorem mine_at (B J b W H : Nat) (s : Wld) (i x y : Int) (V : World) (h : shop B J b V s) (ho : oks W H s.l s.lb s.shp) (hA : s.A = W) (hB : s.B = H) (fi : fits i) :
    Calls Try.prog 45 #[.pointer (some ⟨J, 0, none⟩), .int .i64 i, .agg #[.int .i64 x, .int .i64 y]] V fun e w' => (∃ (r : Bool) (s' : Wld), e = .returned (.bool r) ∧ shop B J b w' s' ∧ likes s s' ∧ mineO W H s.shp s'.shp i x y r) ∧ Ex (shS J b s) V w' := by
  obtain ⟨F, hF⟩ : ∃ F, V.heap.size = F := ⟨_, rfl⟩
  obtain ⟨w0, hw0⟩ : ∃ w0, V.alloc (.cells #[.int .i64 x, .int .i64 y] 45) = w0 := ⟨_, rfl⟩
  have hb0 : Below V.heap.size V w0 := by rw [← hw0]; exact alloc_below _ _
  have e0 : w0.cell? ⟨F, 0, none⟩ = some (.int .i64 x) := by rw [← hw0, ← hF]; simp [go_sem]
  have e1 : w0.cell? ⟨F, 1, none⟩ = some (.int .i64 y) := by rw [← hw0, ← hF]; simp [go_sem]
  have HE : Hid (∀ U, Below w0.heap.size w0 U → U.cell? ⟨F, 0, none⟩ = some (.int .i64 x) ∧ U.cell? ⟨F, 1, none⟩ = some (.int .i64 y)) := fun U hU => ⟨cell_call2 e0 hU, cell_call2 e1 hU⟩
  have HS : Hid (∀ U, Below V.heap.size V U → shop B J b U s) := fun U hU => shop_below h hU
  have HO : Hid (oks W H s.l s.lb s.shp) := ho
  obtain ⟨v, r, hlk, hcase⟩ := shop_find (HS.out w0 hb0) fi (ids_nodup ho.tr)
  have hc := bx10_c10 (HS.out w0 hb0).1.x
  have hWH : W ≤ 40 ∧ H ≤ 40 := ⟨ho.f.1.2, ho.f.2.1.2⟩
  obtain ⟨ib, hib⟩ : ∃ ib, inb W H x y = ib := ⟨_, rfl⟩
  have HP : Hid (Calls Try.prog 63 #[.pointer (some ⟨J, 0, none⟩), .agg #[.int .i64 x, .int .i64 y]] w0 fun e w' => e = .returned (.tuple #[.int .i64 (if ib then (ixp W x y : Int) else 0), .bool ib]) ∧ Below w0.heap.size w0 w') := placeOf_at J W H x y ib w0 (by rw [hc.1, hA]) (by rw [hc.2.1, hB]) hWH.1 hWH.2 hib
  have HIB : Hid (inb W H x y = ib) := hib
  have HB0 : Hid (Below V.heap.size V w0) := hb0
  have HML : Hid (s.lm.length = W * H) := by show s.shp.lm.length = W * H; rw [ho.mn.1]; exact ho.f.2.2.1
  obtain ⟨-, -, -, -, -, -, -, -, -, j9⟩ := hc
  clear h ho hA hB hb0 hib
  rcases hcase with ⟨rfl, hno⟩ | ⟨rfl, k, t, rfl, hkt, hti⟩
  · have HN : Hid (∀ (k : Nat) (t : Trp), s.lt[k]? = some t → ¬ t.i = i) := hno
    clear hno
    obtain ⟨q, hq⟩ : ∃ q : Int, (if ib then (ixp W x y : Int) else 0) = q := ⟨_, rfl⟩
    rw [hq] at HP
    clear hq
    go_enter Try.func45, Try.ntmps45
    go_wp2_with fail
    refine Calls.mono HP.out ?_
    rintro e w1 ⟨rfl, hb1⟩
    have HB1 : Hid (Below V.heap.size V w1) := below_step HB0.out HB0.out.size hb1
    clear hb1 e0 e1 j9 hlk hw0
    go_wp2_with fail
    go_ret
    refine ⟨⟨false, s, rfl, HS.out w1 HB1.out, likes.refl s, .inr ⟨rfl, rfl, fun k t hk e => absurd e (HN.out k t hk)⟩⟩, Ex.of_below HB1.out⟩
  cases ib with
  | false =>
    go_enter Try.func45, Try.ntmps45
    go_wp2_with fail
    refine Calls.mono HP.out ?_
    rintro e w1 ⟨rfl, hb1⟩
    have HB1 : Hid (Below V.heap.size V w1) := below_step HB0.out HB0.out.size hb1
    clear hb1 e0 e1 j9 hlk hw0
    go_wp2_with fail
    go_ret
    refine ⟨⟨false, s, rfl, HS.out w1 HB1.out, likes.refl s, .inr ⟨rfl, rfl, fun k t hk e hc => by have := hc.1; rw [HIB.out] at this; cases this⟩⟩, Ex.of_below HB1.out⟩
  | true =>
    have hil := ixp_lt HIB.out
    obtain ⟨I, hI⟩ : ∃ I, ixp W x y = I := ⟨_, rfl⟩
    rw [hI] at hil HP
    simp only [if_true] at HP
    have HI : Hid (ixp W x y = I) := hI
    obtain ⟨gm, hgm, hm1, hm2, hm3, hm4⟩ := own_cell (HS.out V (Below.refl _ _)).1.o.km (j := I) (by rw [HML.out]; exact hil)
    obtain ⟨gt, hgt, ht1, ht2, ht3, ht4⟩ := own_tcell (HS.out V (Below.refl _ _)).1.o.kt hkt
    obtain ⟨M, hM⟩ : ∃ M, s.lm.getD I 0 = M := ⟨_, rfl⟩
    have hMb := am_at HO.out.mn.2.1 I
    have hMb2 : 0 ≤ M ∧ M ≤ 1000000 := by rw [← hM]; exact hMb
    have hT1 := (tr_at HO.out.tr hkt).2.2
    have HNR : Hid (near t.x t.y = true ∧ near x y = true) := ⟨inb_near hWH.1 hWH.2 (opn_inb hT1.2.2.2.1), inb_near hWH.1 hWH.2 HIB.out⟩
    have hd0 : 0 ≤ t.d := hT1.2.2.2.2.2.2.1
    have hx := (HS.out V (Below.refl _ _)).1.x
    have ho := (HS.out V (Below.refl _ _)).1.o
    have nJm : ¬ J = gm := fun e => own_not ho.km hx (by decide) gm (by rw [hgm]; rfl) e.symm
    have nJt : ¬ J = gt := fun e => own_not ho.kt hx (by decide) gt (by rw [hgt]; rfl) e.symm
    have nmt : ¬ gm = gt := fun e => own_apart ho.km ho.kt (by decide) gm (by rw [hgm]; rfl) (by rw [hgt, e]; rfl)
    have nlm := (own_parts ho.km).1
    have nlt := (own_parts ho.kt).1
    have HIL : Hid (I < s.nm) := by unfold Hid; rw [← nlm, HML.out]; exact hil
    have HKL : Hid (k < s.nt) := by unfold Hid; rw [← nlt]; exact (List.getElem?_eq_some_iff.1 hkt).1
    rw [hM] at hm1
    have HMC : Hid (∀ U, Below V.heap.size V U → U.cell? ⟨gm, I, none⟩ = some (.int .i64 M) ∧ U.frozen? ⟨gm, I, none⟩ = false) := fun U hU => ⟨cell_call2 hm1 hU, (hU.frozen (p := ⟨gm, I, none⟩) hm4).trans hm2⟩
    have HTC : Hid (∀ U, Below V.heap.size V U → (U.cell? ⟨gt, k * 7 + 2, none⟩ = some (.int .i64 t.k) ∧ U.cell? ⟨gt, k * 7 + 3, none⟩ = some (.int .i64 t.x) ∧ U.cell? ⟨gt, k * 7 + 4, none⟩ = some (.int .i64 t.y) ∧ U.cell? ⟨gt, k * 7 + 6, none⟩ = some (.int .i64 t.d)) ∧ U.frozen? ⟨gt, k * 7 + 6, none⟩ = false) := fun U hU => ⟨⟨cell_call2 ht1.2.2.1 hU, cell_call2 ht1.2.2.2.1 hU, cell_call2 ht1.2.2.2.2.1 hU, cell_call2 ht1.2.2.2.2.2.2 hU⟩, (hU.frozen (p := ⟨gt, k * 7 + 6, none⟩) ht4).trans ht2⟩
    have HJC : Hid (∀ U, Below V.heap.size V U → U.cell? ⟨J, 5, none⟩ = some (.slice (some ⟨gm, 0, none⟩) s.nm s.cm) ∧ U.cell? ⟨J, 6, none⟩ = some (.slice (some ⟨gt, 0, none⟩) s.nt s.ct)) := fun U hU => by
      have := bx10_c10 (HS.out U hU).1.x
      exact ⟨by rw [this.2.2.2.2.2.1, hgm], by rw [this.2.2.2.2.2.2.1, hgt]⟩
    have HGM : Hid (s.pm = some ⟨gm, 0, none⟩) := hgm
    have HGT : Hid (s.pt = some ⟨gt, 0, none⟩) := hgt
    have HMM : Hid (s.lm.getD I 0 = M) := hM
    have HKT : Hid (s.lt[k]? = some t) := hkt
    have HTI : Hid (t.i = i) := hti
    have HNM : Hid (s.lm.length = s.nm) := nlm
    have HONE : Hid (∀ (k' : Nat) (t' : Trp), s.lt[k']? = some t' → t'.i = i → t' = t) := fun k' t' h1 h2 => by
      have e := tr_one HO.out.tr h1 hkt (by rw [h2, hti])
      subst e
      have h1' : s.lt[k']? = some t' := h1
      rw [hkt] at h1'; cases h1'; rfl
    have iN : (I : Int) < (s.nm : Int) := by have := HIL.out; omega
    have kN : (k : Int) < (s.nt : Int) := by have := HKL.out; omega
    have i0 : (0 : Int) ≤ I := by omega
    have k0 : (0 : Int) ≤ k := by omega
    obtain ⟨nm, hnm⟩ : ∃ nm, s.nm = nm := ⟨_, rfl⟩
    obtain ⟨cm, hcm⟩ : ∃ cm, s.cm = cm := ⟨_, rfl⟩
    obtain ⟨nt, hnt⟩ : ∃ nt, s.nt = nt := ⟨_, rfl⟩
    obtain ⟨ct, hct⟩ : ∃ ct, s.ct = ct := ⟨_, rfl⟩
    obtain ⟨ti, to_, tk, tx, ty, tf, td⟩ := t
    simp only at HTC HNR hd0
    rw [hnm, hcm, hnt, hct] at HJC
    rw [hnm] at iN
    rw [hnt] at kN
    clear hkt hti hI hil hgm hm1 hm2 hm3 hm4 hgt ht1 ht2 ht3 ht4 hM hMb hT1 hx ho nlm nlt hnm hcm hnt hct
    by_cases hM0 : M = 0
    · subst hM0
      go_enter Try.func45, Try.ntmps45
      go_wp2_with fail
      refine Calls.mono HP.out ?_
      rintro e w1 ⟨rfl, hb1⟩
      have HB1 : Hid (Below V.heap.size V w1) := below_step HB0.out HB0.out.size hb1
      clear hb1 e0 e1 j9 hlk hw0
      obtain ⟨m1, m2⟩ := HMC.out w1 HB1.out
      obtain ⟨j5, j6⟩ := HJC.out w1 HB1.out
      go_wp2_with fail
      go_ret
      refine ⟨⟨false, s, rfl, HS.out w1 HB1.out, likes.refl s, .inr ⟨rfl, rfl, fun k t hk e hc => hc.2.1 (by rw [HI.out]; exact HMM.out)⟩⟩, Ex.of_below HB1.out⟩
    have dM : (M == 0) = false := by simp [hM0]
    by_cases hk1 : ¬ tk = 1
    · have dk : (tk != 1) = true := by simp [hk1]
      go_enter Try.func45, Try.ntmps45
      go_wp2_with fail
      refine Calls.mono HP.out ?_
      rintro e w1 ⟨rfl, hb1⟩
      have HB1 : Hid (Below V.heap.size V w1) := below_step HB0.out HB0.out.size hb1
      clear hb1 e0 e1 j9 hlk hw0
      obtain ⟨m1, m2⟩ := HMC.out w1 HB1.out
      obtain ⟨j5, j6⟩ := HJC.out w1 HB1.out
      obtain ⟨⟨t2, t3, t4, t6⟩, f6⟩ := HTC.out w1 HB1.out
      go_wp2_with fail
      go_quiet (fail)
      go_wp2_with fail
      go_ret
      refine ⟨⟨false, s, rfl, HS.out _ (below_drewN HB1.out _), likes.refl s, .inr ⟨rfl, rfl, fun k t hk e hc => by have h1 := HONE.out k t hk e; have h2 := hc.2.2.1; rw [h1] at h2; exact hk1 h2⟩⟩, Ex.of_below (below_drewN HB1.out _)⟩
    have hk1 : tk = 1 := Classical.not_not.1 hk1
    subst hk1
    by_cases hd5 : 5 ≤ td
    · have dd : decide (5 ≤ td) = true := by simp [hd5]
      go_enter Try.func45, Try.ntmps45
      go_wp2_with fail
      refine Calls.mono HP.out ?_
      rintro e w1 ⟨rfl, hb1⟩
      have HB1 : Hid (Below V.heap.size V w1) := below_step HB0.out HB0.out.size hb1
      clear hb1 e0 e1 j9 hlk hw0
      obtain ⟨m1, m2⟩ := HMC.out w1 HB1.out
      obtain ⟨j5, j6⟩ := HJC.out w1 HB1.out
      obtain ⟨⟨t2, t3, t4, t6⟩, f6⟩ := HTC.out w1 HB1.out
      go_wp2_with fail
      go_quiet (fail)
      go_wp2_with fail
      go_ret
      refine ⟨⟨false, s, rfl, HS.out _ (below_drewN HB1.out _), likes.refl s, .inr ⟨rfl, rfl, fun k t hk e hc => by have h1 := HONE.out k t hk e; have h2 := hc.2.2.2.1; rw [h1] at h2; simp only at h2; omega⟩⟩, Ex.of_below (below_drewN HB1.out _)⟩
    have dd : decide (5 ≤ td) = false := by simp; omega
    obtain ⟨nr, hnr⟩ : ∃ nr, decide (kg tx ty x y ≤ 1) = nr := ⟨_, rfl⟩
    have HBS : Hid (∀ U, Calls Try.prog 64 #[.agg #[.int .i64 tx, .int .i64 ty], .agg #[.int .i64 x, .int .i64 y]] U fun e w' => e = .returned (.bool nr) ∧ Below U.heap.size U w') := fun U => isBeside_at tx ty x y nr U HNR.out.1 HNR.out.2 hnr
    have HK : Hid (decide (kg tx ty x y ≤ 1) = nr) := hnr
    clear hnr
    go_enter Try.func45, Try.ntmps45
    go_wp2_with fail
    refine Calls.mono HP.out ?_
    rintro e w1 ⟨rfl, hb1⟩
    have HB1 : Hid (Below V.heap.size V w1) := below_step HB0.out HB0.out.size hb1
    obtain ⟨x0, x1⟩ := HE.out w1 hb1
    clear hb1 e0 e1 j9 hlk hw0
    obtain ⟨m1, m2⟩ := HMC.out w1 HB1.out
    obtain ⟨j5, j6⟩ := HJC.out w1 HB1.out
    obtain ⟨⟨t2, t3, t4, t6⟩, f6⟩ := HTC.out w1 HB1.out
    go_wp2_with fail
    go_region_held3 (fun U => Below w1.heap.size w1 U ∧ U.cell? ⟨gt, k * 7 + 2, none⟩ = some (.int .i64 1) ∧ U.cell? ⟨gt, k * 7 + 3, none⟩ = some (.int .i64 tx) ∧ U.cell? ⟨gt, k * 7 + 4, none⟩ = some (.int .i64 ty) ∧ U.cell? ⟨gt, k * 7 + 6, none⟩ = some (.int .i64 td) ∧ U.cell? ⟨F, 0, none⟩ = some (.int .i64 x) ∧ U.cell? ⟨F, 1, none⟩ = some (.int .i64 y)) (first | with_reducible assumption | with_reducible exact k6_drew (by assumption) | with_reducible exact k6_call (by assumption) (by assumption) | exact ⟨Below.drew (Below.refl _ _), t2, t3, t4, t6, x0, x1⟩) (first
            | (go_at_call 64; with_reducible refine (HBS.out _).mono ?_; rintro e w2 ⟨rfl, hb2⟩))
    have HB2 : Hid (Below V.heap.size V w2) := below_step HB1.out HB1.out.size ((Below.refl _ _).drew.trans hb2)
    clear hb2 m1 m2 j5 j6 t2 t3 t4 t6 f6 x0 x1
    cases nr with
    | false =>
      go_wp2_with fail
      go_ret
      refine ⟨⟨false, s, rfl, HS.out w2 HB2.out, likes.refl s, .inr ⟨rfl, rfl, fun k t hk e hc => by
        have h1 := HONE.out k t hk e
        have h2 := hc.2.2.2.2
        rw [h1] at h2
        have h3 := HK.out
        simp only [decide_eq_false_iff_not] at h3
        exact h3 h2⟩⟩, Ex.of_below HB2.out⟩
    | true =>
      obtain ⟨m1, m2⟩ := HMC.out w2 HB2.out
      obtain ⟨j5, j6⟩ := HJC.out w2 HB2.out
      obtain ⟨⟨t2, t3, t4, t6⟩, f6⟩ := HTC.out w2 HB2.out
      go_wp2_with fail
      go_ret
      have h1 := shop_load (HS.out w2 HB2.out) HGT.out HKT.out (td + 1)
      have h2 := shop_lm h1 (g := gm) HGM.out HNM.out I (M - 1)
      refine ⟨⟨true, _, rfl, h2, ⟨rfl, rfl, rfl, rfl, rfl, rfl, rfl, rfl, rfl, rfl, rfl⟩, .inl ⟨rfl, k, _, HKT.out, HTI.out, ⟨HIB.out, by rw [HI.out]; show s.lm.getD I 0 ≠ 0; rw [HMM.out]; exact hM0, rfl, by show td < 5; omega, by have := HK.out; simpa using this⟩, ?_⟩⟩, ?_⟩
      · rw [HI.out]
        have e : s.shp.lm.getD I 0 = M := HMM.out
        rw [e]
        rfl
      · exact ex_set (ex_set (Ex.of_below HB2.out) ⟨gt, k * 7 + 6, none⟩ (.inr (.inr (.inr (.inr (by rw [HGT.out]; rfl))))) _) ⟨gm, I, none⟩ (.inr (.inr (.inr (.inl (by rw [HGM.out]; rfl))))) _
end Go.Proofs.Ytdcjjfipnilmpaa
