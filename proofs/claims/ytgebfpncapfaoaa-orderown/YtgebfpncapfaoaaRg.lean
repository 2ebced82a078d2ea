/- What order.rightful returns: of orders those that their players may give. -/
import Derived.Test.YtgebfpncapfaoaaOw
import Derived.Test.YtgebfpncapfaoaaWc
import Derived.Test.YtgebfpncapfaoaaWst
import Derived.RangeFuncRecord
namespace Go.Proofs.Ytgebfpncapfaoaa
open Go.RowKit Go.Maps
set_option linter.unusedVariables false
attribute [local go_sem ↓] Go.wp_at_zero Go.wp_at_succ

theorem lawi : Keyed Try.prog 3 := int_keyed Try.underlying3
/-- What a number reads as among a map's keys. -/
def kil (c : Int) : Lit := .int .i64 c
theorem key_int {x : Int} (hx : fits x) : keyOf Try.prog 3 (.int .i64 x) = some (kil x) := keyOf_int_mk Try.underlying3 (wf_of hx)
theorem kil_key {c : Int} (h : fits c) : WideAt.IsKeyLit (kil c) := lawi.key (key_int h)
theorem kil_inj {c d : Int} (hc : fits c) (hd : fits d) (h : kil c = kil d) : c = d := by unfold kil at h; injection h
def ndat (x : Int) : DataW Unit := .lit (.int .i64 x)
/-- The map D tells what f tells. -/
structure Mpn (D : DataW Unit) (f : Int → Option Int) : Prop where
  tidy : Tidy D
  no : ∀ c, fits c → f c = none → Maps.has D (kil c) = false
  yes : ∀ c d, fits c → f c = some d → Maps.has D (kil c) = true ∧ ∀ z, D.atKey (kil c) z = ndat d
set_option maxRecDepth 100000 in
theorem mpn_empty : Mpn (.map []) (fun _ => none) := ⟨tidy_empty, fun c _ _ => by simp [Maps.has], fun c d _ h => by cases h⟩
set_option maxRecDepth 100000 in
theorem mpn_put {D : DataW Unit} {f f' : Int → Option Int} {c x : Int} (h : Mpn D f) (fc : fits c) (hs : f' c = some x) (ho : ∀ d, d ≠ c → f' d = f d) : Mpn (D.put (kil c) (ndat x)) f' := by
  have hk := kil_key fc
  refine ⟨h.tidy.put hk _, ?_, ?_⟩
  · intro d fd hd
    by_cases e : d = c
    · subst e; rw [hs] at hd; cases hd
    · rw [ho d e] at hd
      rw [has_put_other (fun e2 => e (kil_inj fd fc e2))]; exact h.no d fd hd
  · intro d u fd hd
    by_cases e : d = c
    · subst e
      rw [hs] at hd
      cases hd
      exact ⟨has_put_same h.tidy.isMap hk _, fun z => atKey_put_same h.tidy.isMap hk _ _⟩
    · rw [ho d e] at hd
      rw [has_put_other (fun e2 => e (kil_inj fd fc e2)), (h.yes d u fd hd).1]
      exact ⟨rfl, fun z => by rw [atKey_put_other (fun e2 => e (kil_inj fd fc e2))]; exact (h.yes d u fd hd).2 z⟩
/-- The map that lies in block b. -/
def mapn (w : World) (b n : Nat) (f : Int → Option Int) : Prop := ∃ D, w.ownsMap Try.prog 3 (plainElem (H := Unit) Try.prog 3) b n D ∧ Mpn D f
theorem mapn_below {w w' : World} {b n : Nat} {f : Int → Option Int} (h : mapn w b n f) (hb : Below w.heap.size w w') : mapn w' b n f := by
  obtain ⟨D, ⟨es, clock, h1, h2⟩, h3⟩ := h
  refine ⟨D, ⟨es, clock, ?_, h2⟩, h3⟩
  have : b < w.heap.size := by
    rcases Nat.lt_or_ge b w.heap.size with hlt | hge
    · exact hlt
    · rw [Array.getElem?_eq_none hge] at h1; cases h1
  rw [hb.block b this]; exact h1
set_option maxRecDepth 100000 in
/-- What stands in the map at a number. -/
theorem mapn_look {w : World} {b n : Nat} {f : Int → Option Int} {c : Int} (h : mapn w b n f) (fc : fits c) : (Instr.lookup 106 (.map (some b)) (.int .i64 c) true).run Try.prog w = .ok (.tuple #[.int .i64 ((f c).getD 0), .bool (f c).isSome]) w := by
  obtain ⟨D, h1, h2⟩ := h
  obtain ⟨v, ps, hrun, hv⟩ := h1.look_ok lawi Try.underlying106 (zero3 w) (plainElem_int Try.underlying3 (by decide)) (key_int fc)
  obtain ⟨a, rfl, ha, _⟩ := plainElem_int_inv Try.underlying3 hv
  have ha1 : D.atKey (kil c) (.lit (.int .i64 0)) = .lit (.int .i64 a) := congrArg Prod.fst ha
  rw [hrun]
  cases hh : f c with
  | none =>
    have h0 := h2.no c fc hh
    rw [atKey_of_not_has h0] at ha1
    injection ha1 with ha1
    injection ha1 with _ ha1
    have h0' : Maps.has D (Lit.int .i64 c) = false := h0
    rw [← ha1]
    show Result.ok (Value.tuple #[.int .i64 0, .bool (Maps.has D (kil c))]) w = _
    rw [h0]; rfl
  | some d =>
    have h1 := h2.yes c d fc hh
    rw [h1.2] at ha1
    injection ha1 with ha1
    injection ha1 with _ ha1
    rw [← ha1]
    show Result.ok (Value.tuple #[.int .i64 d, .bool (Maps.has D (kil c))]) w = _
    rw [h1.1]; rfl
theorem run_makeMapn_hint (w : World) (n : Int) : (Instr.makeMap 106 (some (.int .i64 n))).run Try.prog w = .ok (.map (some w.heap.size)) (w.alloc (.map #[] 0)) := by
  simp [Instr.makeMap, run_underlying Try.underlying106, asInt, go_sem]

/-- The owner of the last troop of a number. -/
def lown (lt : List Trp) (i : Int) : Option Int := lt.foldl (fun acc t => if t.i = i then some t.o else acc) none
theorem lown_snoc (lt : List Trp) (t : Trp) (i : Int) : lown (lt ++ [t]) i = if t.i = i then some t.o else lown lt i := by
  unfold lown; rw [List.foldl_append]; rfl
/-- The owner of the first troop of a number. -/
def fown (lt : List Trp) (i : Int) : Option Int := (lt.find? fun t => t.i == i).map (fun t => t.o)
theorem fold_none {l : List Trp} {i : Int} : ∀ (acc : Option Int), (∀ t ∈ l, t.i ≠ i) → l.foldl (fun acc t => if t.i = i then some t.o else acc) acc = acc := by
  induction l with
  | nil => intro acc _; rfl
  | cons t l ih =>
    intro acc h
    rw [List.foldl_cons, if_neg (h t (by simp))]
    exact ih acc (fun u hu => h u (List.mem_cons_of_mem _ hu))
theorem fold_first {l : List Trp} {i : Int} (hp : l.Pairwise (fun a b => a.i < b.i)) : ∀ (acc : Option Int), l.foldl (fun acc t => if t.i = i then some t.o else acc) acc = ((l.find? fun t => t.i == i).map (fun t => t.o)).or acc := by
  induction l with
  | nil => intro acc; rfl
  | cons t l ih =>
    intro acc
    obtain ⟨h1, h2⟩ := List.pairwise_cons.1 hp
    rw [List.foldl_cons]
    by_cases e : t.i = i
    · rw [if_pos e, fold_none _ (fun u hu => by have := h1 u hu; omega)]
      simp [e]
    · have : (t.i == i) = false := by simp [e]
      rw [if_neg e, ih h2, List.find?_cons, this]
theorem lown_first {lt : List Trp} (hp : lt.Pairwise (fun a b => a.i < b.i)) (i : Int) : lown lt i = fown lt i := by
  unfold lown fown
  rw [fold_first hp]
  cases (lt.find? fun t => t.i == i).map (fun t => t.o) <;> rfl
/-- Whether an order may be given. -/
def alw (f : Int → Option Int) (nb : Nat) (o : Ord) : Bool := if o.k = 5 then decide (o.b < nb) else decide (f o.w = some o.b)
theorem filter_snoc (P : Ord → Bool) (l : List Ord) {k : Nat} (h : k < l.length) : (l.take (k + 1)).filter P = (l.take k).filter P ++ (if P l[k] = true then [l[k]] else []) := by
  rw [List.take_succ_eq_append_getElem h, List.filter_append]
  congr 1
  by_cases e : P l[k] = true <;> simp [e]
theorem take_ts_snoc {lt : List Trp} {k : Nat} (hk : k < lt.length) : lt.take (k + 1) = lt.take k ++ [lt[k]] := List.take_succ_eq_append_getElem hk
/-- What a round of rightful keeps. -/
def ginv (W : World) (P : Ord → Bool) (l : List Ord) (k : Nat) (v : Value) (wr : World) : Prop := Below W.heap.size W wr ∧ minef 25 6 to6 W.heap.size wr v ((l.take k).filter P)
theorem ginv_len {P : Ord → Bool} {l : List Ord} {k : Nat} (hl : l.length ≤ 100) : ((l.take k).filter P).length ≤ 1000000 := by
  have h1 := List.length_filter_le P (l.take k)
  have h2 : (l.take k).length ≤ l.length := List.length_take_le' _ _
  omega

set_option maxRecDepth 20000 in
set_option maxHeartbeats 8000000 in
theorem rightful_any (p : Option Addr) (n c : Nat) (l : List Ord) (s : Wld) (w : World) (hr : rowf to6 w p l) (hn : l.length = n) (hm : n ≤ 100) (hf : ∀ o ∈ l, fito o) (h : s.fit w) (hnt : s.nt ≤ 100) (hnb : s.nb ≤ 8) :
    Calls Try.prog 49 #[.slice p n c, s.val] w fun e w' => (∃ v, e = .returned v ∧ minef 25 6 to6 w.heap.size w' v (l.filter (alw (lown s.lt) s.nb))) ∧ Below w.heap.size w w' := by
  have HR : Hid (rowf to6 w p l) := hr
  have HN : Hid (l.length = n) := hn
  have HFO : Hid (∀ o ∈ l, fito o) := hf
  have HT : Hid (trow w s.pt s.lt) := h.rt
  have HTN : Hid (s.lt.length = s.nt) := h.ht
  have HTX : Hid (∀ t ∈ s.lt, fitt t) := h.xt
  clear hr hn hf h
  have hmm := run_makeMapn_hint
  obtain ⟨A, B, pf, nf, cf, lf, pb, nb, cb, lb, ps, ns, cs, ls, pm, nm, cm, lm, pt, nt, ct, lt, N, T⟩ := s
  unfold Wld.val
  dsimp only at *
  obtain ⟨F, hF⟩ : ∃ F, w.heap.size = F := ⟨_, rfl⟩
  obtain ⟨w0, hw0⟩ : ∃ w0, w.alloc (.cells #[.int .i64 A, .int .i64 B, .slice pf nf cf, .slice pb nb cb, .slice ps ns cs, .slice pm nm cm, .slice pt nt ct, .int .i64 N, .int .i64 T] 41) = w0 := ⟨_, rfl⟩
  have HBX : Hid (∀ V, Below w0.heap.size w0 V → c9 V F (.int .i64 A) (.int .i64 B) (.slice pf nf cf) (.slice pb nb cb) (.slice ps ns cs) (.slice pm nm cm) (.slice pt nt ct) (.int .i64 N) (.int .i64 T)) := fun V hV => boxw hF hw0 hV
  have hB0 : Below w.heap.size w w0 := by rw [← hw0]; exact alloc_below _ _
  have HB0 : Hid (Below w.heap.size w w0) := hB0
  have HUP : Hid (∀ V, Below w0.heap.size w0 V → Below w.heap.size w V) := fun V hV => HB0.out.trans (hV.mono HB0.out.size)
  obtain ⟨z0, z1, z2, z3, z4, z5, z6, z7, z8⟩ := HBX.out w0 (Below.refl _ _)
  clear hB0
  obtain ⟨M, hM⟩ : ∃ M, w0.heap.size = M := ⟨_, rfl⟩
  have HM : Hid (w0.heap.size = M) := hM
  have hb1 : Below w0.heap.size w0 (w0.alloc (.map #[] 0)) := alloc_below _ _
  have HM0 : Hid (Below w0.heap.size w0 (w0.alloc (.map #[] 0)) ∧ mapn (w0.alloc (.map #[] 0)) M 0 (lown (lt.take 0))) := ⟨hb1, _, by rw [← hM]; exact World.ownsMap_made _ _ _ _, mpn_empty⟩
  obtain ⟨-, -, -, -, -, -, x6, -, -⟩ := HBX.out _ hb1
  obtain ⟨w1, hw1⟩ : ∃ w1, w0.alloc (.map #[] 0) = w1 := ⟨_, rfl⟩
  rw [hw1] at HM0 x6
  clear hb1
  go_enter Try.func49, Try.ntmps49
  go_wp2_with fail
  clear z0 z1 z2 z3 z4 z5 z6 z7 z8 hw0 hw1 x6
  go_loopw [20] (fun i wr => ∃ k : Nat, i = .int .i64 (k : Int) ∧ k ≤ nt ∧ Hid (Below w0.heap.size w0 wr ∧ ∃ m, m ≤ k ∧ mapn wr M m (lown (lt.take k)))) (fun i _ => nt - (intOf i).toNat)
  case atStart => exact ⟨0, rfl, by omega, HM0.out.1, 0, Nat.le_refl _, HM0.out.2⟩
  case round =>
    obtain ⟨k, rfl, hk, HS⟩ := hrel
    by_cases hlt : k < nt
    · have hkl : k < lt.length := by rw [HTN.out]; exact hlt
      obtain ⟨a, rfl, hc⟩ := trow_at (trow_below HT.out (HUP.out _ HS.out.1)) hkl
      obtain ⟨t, ht⟩ : ∃ t, lt[k] = t := ⟨_, rfl⟩
      have hft := HTX.out _ (List.getElem_mem hkl)
      have hsn := take_ts_snoc hkl
      rw [ht] at hc hft hsn
      obtain ⟨ti, to_, tk, tx, ty, tf, td⟩ := t
      obtain ⟨c0, c1, c2, c3, c4, c5, c6⟩ := hc
      simp only at c0 c1 c2 c3 c4 c5 c6
      obtain ⟨w4, hw4⟩ : ∃ w4, wr.alloc (.cells #[.int .i64 ti, .int .i64 to_, .int .i64 tk, .int .i64 tx, .int .i64 ty, .int .i64 tf, .int .i64 td] 71) = w4 := ⟨_, rfl⟩
      obtain ⟨G, hG⟩ : ∃ G, wr.heap.size = G := ⟨_, rfl⟩
      obtain ⟨g0, g1, -, -, -, -, -⟩ := boxt hG hw4 (Below.refl _ _)
      obtain ⟨m, hml, hMM⟩ := HS.out.2
      obtain ⟨D, ho4, hD⟩ := mapn_below (w' := w4) hMM (by rw [← hw4]; exact alloc_below _ _)
      have hB4 : Below w0.heap.size w0 w4 := by rw [← hw4]; exact HS.out.1.alloc HS.out.1.size _
      have hgs := lown_snoc (lt.take k) ⟨ti, to_, tk, tx, ty, tf, td⟩
      rw [← hsn] at hgs
      have HGS : Hid (∀ i, lown (lt.take (k + 1)) i = if ti = i then some to_ else lown (lt.take k) i) := hgs
      have HD : Hid (Mpn D (lown (lt.take k))) := hD
      have HB4 : Hid (Below w0.heap.size w0 w4) := hB4
      have HFC : Hid (fits ti) := hft.1
      have HML : Hid (m ≤ k) := hml
      have hkey := key_int (x := ti) HFC.out
      have hm1 : m < maxLen := by unfold maxLen; omega
      have wfk : (Lit.int .i64 to_).wf = true := wf_of hft.2.1
      have l1 : (k : Int) < nt := by omega
      have l2 : (0 : Int) ≤ k := by omega
      clear ht hft hsn hB4 HS hMM hgs hml hD
      go_wp2_with (at_mapUpdate; refine wpList_mapUpdate_own _ rfl _ _ _ 106 rfl 3 3 lawi Try.underlying106 _ M m D rfl ho4 hm1 _ _ _ rfl rfl hkey _ [] (plainElem_int Try.underlying3 wfk) ?_; intro w5 hown5 hgrow5)
      have HS5 : Hid (Below w0.heap.size w0 w5 ∧ ∃ m, m ≤ k + 1 ∧ mapn w5 M m (lown (lt.take (k + 1)))) := by
        refine ⟨HB4.out.grown hgrow5 HB4.out.size (fun j hj => by cases hj; exact Nat.le_of_eq HM.out), m + 1, by have := HML.out; omega, _, hown5, mpn_put HD.out HFC.out ?_ ?_⟩
        · rw [HGS.out, if_pos rfl]
        · intro d hd
          rw [HGS.out, if_neg (fun e => hd e.symm)]
      clear hown5 hgrow5
      go_wp2_with fail
      go_roundw
      case rel => exact ⟨k + 1, by go_num, by omega, HS5.out⟩
      case measure => simp [intOf]; omega
    · have hkn : k = nt := by omega
      subst hkn
      have e : lt.take k = lt := List.take_of_length_le (by rw [HTN.out]; exact Nat.le_refl _)
      obtain ⟨W1, hW1⟩ : ∃ W1 : World, W1 = wr := ⟨_, rfl⟩
      subst hW1
      obtain ⟨m, hml, hMM⟩ := HS.out.2
      rw [e] at hMM
      obtain ⟨f, hf⟩ : ∃ f, lown lt = f := ⟨_, rfl⟩
      rw [hf] at hMM
      have HMM : Hid (mapn W1 M m f) := hMM
      have HB1 : Hid (Below w0.heap.size w0 W1) := HS.out.1
      obtain ⟨P, hP⟩ : ∃ P, alw (lown lt) nb = P := ⟨_, rfl⟩
      have HP : Hid (∀ o, P o = if o.k = 5 then decide (o.b < nb) else decide (f o.w = some o.b)) := fun o => by rw [← hP, ← hf]; rfl
      have HGO : Hid (∀ v V, ginv W1 P l n v V → minef 25 6 to6 w.heap.size V v (l.filter (alw (lown lt) nb)) ∧ Below w.heap.size w V) := fun v V hg => by
        rw [hP]
        refine ⟨?_, HUP.out V (HB1.out.trans (hg.1.mono HB1.out.size))⟩
        have := hg.2
        rw [List.take_of_length_le (by rw [HN.out]; exact Nat.le_refl _)] at this
        exact minef_mono this (Nat.le_trans HB0.out.size HB1.out.size)
      have HG0 : Hid (ginv W1 P l 0 (.slice none 0 0) W1) := ⟨Below.refl _ _, minef_nil _ _ _ _ _⟩
      have HROW : Hid (∀ V, Below W1.heap.size W1 V → rowf to6 V p l) := fun V hV => rowf_below HR.out (HUP.out V (HB1.out.trans (hV.mono HB1.out.size)))
      have HBY : Hid (∀ V, Below W1.heap.size W1 V → c9 V F (.int .i64 A) (.int .i64 B) (.slice pf nf cf) (.slice pb nb cb) (.slice ps ns cs) (.slice pm nm cm) (.slice pt k ct) (.int .i64 N) (.int .i64 T)) := fun V hV => HBX.out V (HB1.out.trans (hV.mono HB1.out.size))
      clear HS e hMM hf hP hmm hM
      go_wp2_with fail
      go_loopw [8, 32] (fun v i wr => ∃ q : Nat, i = .int .i64 (q : Int) ∧ q ≤ n ∧ Hid (ginv W1 P l q v wr)) (fun _ i _ => n - (intOf i).toNat)
      case atStart => exact ⟨0, rfl, by omega, HG0.out⟩
      case round =>
        obtain ⟨q, rfl, hq, HI⟩ := hrel
        by_cases hqt : q < n
        · have hql : q < l.length := by rw [HN.out]; exact hqt
          obtain ⟨a, rfl, ha⟩ := oat (HROW.out _ HI.out.1) hql
          have HSN := filter_snoc P l hql
          have HFX := HFO.out _ (List.getElem_mem hql)
          obtain ⟨X, hX⟩ : ∃ X, l[q] = X := ⟨_, rfl⟩
          rw [hX] at ha HSN HFX
          have HSN : Hid ((l.take (q + 1)).filter P = (l.take q).filter P ++ (if P X = true then [X] else [])) := HSN
          have HPX := HP.out X
          have HLN : Hid (((l.take q).filter P).length ≤ 1000000) := ginv_len (by have := HN.out; omega)
          obtain ⟨ob, ok, ow, ox, oy, oa⟩ := X
          obtain ⟨z0, z1, z2, z3, z4, z5⟩ := ha
          dsimp only at z0 z1 z2 z3 z4 z5 HPX
          have HFW : Hid (fits ow) := HFX.2.2.1
          obtain ⟨w4, hw4⟩ : ∃ w4, wr.alloc (.cells #[.int .i64 ob, .int .i64 ok, .int .i64 ow, .int .i64 ox, .int .i64 oy, .int .i64 oa] 25) = w4 := ⟨_, rfl⟩
          have hb4 : Below wr.heap.size wr w4 := by rw [← hw4]; exact alloc_below _ _
          have hB14 : Below W1.heap.size W1 w4 := below_step HI.out.1 HI.out.1.size hb4
          have HB14 : Hid (Below W1.heap.size W1 w4) := hB14
          have HB4 : Hid (Below wr.heap.size wr w4) := hb4
          obtain ⟨G, hG⟩ : ∃ G, wr.heap.size = G := ⟨_, rfl⟩
          obtain ⟨g0, g1, g2, g3, g4, g5⟩ := box6 (w := wr) (V := w4) (t := 25) (v0 := .int .i64 ob) (v1 := .int .i64 ok) (v2 := .int .i64 ow) (v3 := .int .i64 ox) (v4 := .int .i64 oy) (v5 := .int .i64 oa) (by rw [hw4]; exact Below.refl _ _)
          rw [hG] at g0 g1 g2 g3 g4 g5
          have hlook := mapn_look (mapn_below HMM.out hB14) HFW.out
          obtain ⟨x0, x1, x2, x3, x4, x5, x6, x7, x8⟩ := HBY.out w4 hB14
          have HI4 : Hid (ginv W1 P l q u8 w4) := ⟨hB14, minef_below HI.out.2 hb4⟩
          unfold ginv at HI4
          obtain ⟨Q, hQ⟩ : ∃ Q, (l.take q).filter P = Q := ⟨_, rfl⟩
          rw [hQ] at HI4 HSN HLN
          clear hQ HI
          have l1 : (q : Int) < n := by omega
          have l2 : (0 : Int) ≤ q := by omega
          clear hX HFX hb4 hB14 hql HFW HB14 HB4
          by_cases hk5 : ok = 5
          · subst hk5
            rw [if_pos rfl] at HPX
            obtain ⟨VV, hVV⟩ : ∃ VV, (f ow).getD 0 = VV := ⟨_, rfl⟩
            obtain ⟨RR, hRR⟩ : ∃ RR, (f ow).isSome = RR := ⟨_, rfl⟩
            rw [hVV, hRR] at hlook
            clear hVV hRR
            by_cases hbn : ob < nb
            · rw [decide_eq_true hbn] at HPX
              have HS2 : Hid ((l.take (q + 1)).filter P = Q ++ [⟨ob, 5, ow, ox, oy, oa⟩]) := by unfold Hid; rw [HSN.out, HPX, if_pos rfl]
              clear HSN HPX
              go_wp2_with fail
              go_quiet (fail)
              obtain ⟨w5, hw5⟩ : ∃ w5, w4.drewN nq = w5 := ⟨_, rfl⟩
              have HI5 : Hid (Below W1.heap.size W1 w5 ∧ minef 25 6 to6 W1.heap.size w5 u8 Q) := by rw [← hw5]; exact ⟨below_drewN HI4.out.1 nq, HI4.out.2⟩
              have g0 : w5.cell? ⟨G, 0, none⟩ = some (.int .i64 ob) := by rw [← hw5]; exact g0
              have g1 : w5.cell? ⟨G, 1, none⟩ = some (.int .i64 5) := by rw [← hw5]; exact g1
              have g2 : w5.cell? ⟨G, 2, none⟩ = some (.int .i64 ow) := by rw [← hw5]; exact g2
              have g3 : w5.cell? ⟨G, 3, none⟩ = some (.int .i64 ox) := by rw [← hw5]; exact g3
              have g4 : w5.cell? ⟨G, 4, none⟩ = some (.int .i64 oy) := by rw [← hw5]; exact g4
              have g5 : w5.cell? ⟨G, 5, none⟩ = some (.int .i64 oa) := by rw [← hw5]; exact g5
              rw [hw5]
              clear hw5 x0 x1 x2 x3 x4 x5 x6 x7 x8 hlook
              have H8 : Hid (minef 25 6 to6 W1.heap.size (w5.alloc (.cells #[.int .i64 ob, .int .i64 5, .int .i64 ow, .int .i64 ox, .int .i64 oy, .int .i64 oa] 25)) u8 Q ∧ Below W1.heap.size W1 (w5.alloc (.cells #[.int .i64 ob, .int .i64 5, .int .i64 ow, .int .i64 ox, .int .i64 oy, .int .i64 oa] 25))) := ⟨minef_below HI5.out.2 (alloc_below _ _), below_step HI5.out.1 HI5.out.1.size (alloc_below _ _)⟩
              have HX : Hid (∀ j u, (to6 ⟨ob, 5, ow, ox, oy, oa⟩)[j]? = some u → (w5.alloc (.cells #[.int .i64 ob, .int .i64 5, .int .i64 ow, .int .i64 ox, .int .i64 oy, .int .i64 oa] 25)).cell? ((⟨w5.heap.size, 0, none⟩ : Addr).add j) = some u) := fun j u hj => by
                rw [add_zero_at, World.cell?_alloc_mark]
                unfold to6 at hj
                simpa using hj
              go_wp2_with (at_builtin; refine list_onef k6 _ rfl _ _ rfl W1.heap.size u8 Q rfl H8.out.1 ⟨_, 0, none⟩ 1 _ rfl HX.out HLN.out H8.out.2.size ?_)
              intro g cap w9 m1 m2
              have H9 : Hid (ginv W1 P l (q + 1) (.slice (some ⟨g, 0, none⟩) (Q.length + 1) cap) w9) := ⟨minef_grown H8.out.1 H8.out.2 H8.out.2.size m2, by rw [HS2.out]; exact m1⟩
              clear m1 m2 g0 g1 g2 g3 g4 g5
              go_wp2_with fail
              go_roundw
              case rel => exact ⟨q + 1, by go_num, by omega, H9.out⟩
              case measure => simp [intOf]; omega
            · rw [decide_eq_false hbn] at HPX
              have HS2 : Hid ((l.take (q + 1)).filter P = Q) := by unfold Hid; rw [HSN.out, HPX]; simp
              clear HSN HPX
              go_wp2_with fail
              go_quiet (fail)
              obtain ⟨w5, hw5⟩ : ∃ w5, w4.drewN nq = w5 := ⟨_, rfl⟩
              have HI5 : Hid (Below W1.heap.size W1 w5 ∧ minef 25 6 to6 W1.heap.size w5 u8 Q) := by rw [← hw5]; exact ⟨below_drewN HI4.out.1 nq, HI4.out.2⟩
              have g0 : w5.cell? ⟨G, 0, none⟩ = some (.int .i64 ob) := by rw [← hw5]; exact g0
              have g1 : w5.cell? ⟨G, 1, none⟩ = some (.int .i64 5) := by rw [← hw5]; exact g1
              have g2 : w5.cell? ⟨G, 2, none⟩ = some (.int .i64 ow) := by rw [← hw5]; exact g2
              have g3 : w5.cell? ⟨G, 3, none⟩ = some (.int .i64 ox) := by rw [← hw5]; exact g3
              have g4 : w5.cell? ⟨G, 4, none⟩ = some (.int .i64 oy) := by rw [← hw5]; exact g4
              have g5 : w5.cell? ⟨G, 5, none⟩ = some (.int .i64 oa) := by rw [← hw5]; exact g5
              rw [hw5]
              clear hw5 x0 x1 x2 x3 x4 x5 x6 x7 x8 hlook
              have H9 : Hid (ginv W1 P l (q + 1) u8 w5) := ⟨HI5.out.1, by rw [HS2.out]; exact HI5.out.2⟩
              go_wp2_with fail
              go_roundw
              case rel => exact ⟨q + 1, by go_num, by omega, H9.out⟩
              case measure => simp [intOf]; omega
          · rw [if_neg hk5] at HPX
            cases hfo : f ow with
            | none =>
              rw [hfo] at hlook HPX
              simp only [Option.getD_none, Option.isSome_none] at hlook
              have HPX : P ⟨ob, ok, ow, ox, oy, oa⟩ = false := by rw [HPX]; simp
              have HS2 : Hid ((l.take (q + 1)).filter P = Q) := by unfold Hid; rw [HSN.out, HPX]; simp
              clear HSN HPX x0 x1 x2 x3 x4 x5 x6 x7 x8
              have HI5 : Hid (Below W1.heap.size W1 w4 ∧ minef 25 6 to6 W1.heap.size w4 u8 Q) := HI4.out
              have H9 : Hid (ginv W1 P l (q + 1) u8 w4) := ⟨HI5.out.1, by rw [HS2.out]; exact HI5.out.2⟩
              go_wp2_with fail
              go_roundw
              case rel => exact ⟨q + 1, by go_num, by omega, H9.out⟩
              case measure => simp [intOf]; omega
            | some d =>
              rw [hfo] at hlook HPX
              simp only [Option.getD_some, Option.isSome_some] at hlook
              by_cases hd : d = ob
              · subst hd
                have HPX : P ⟨d, ok, ow, ox, oy, oa⟩ = true := by rw [HPX]; simp
                have HS2 : Hid ((l.take (q + 1)).filter P = Q ++ [⟨d, ok, ow, ox, oy, oa⟩]) := by unfold Hid; rw [HSN.out, HPX, if_pos rfl]
                clear HSN HPX x0 x1 x2 x3 x4 x5 x6 x7 x8
                have HI5 : Hid (Below W1.heap.size W1 w4 ∧ minef 25 6 to6 W1.heap.size w4 u8 Q) := HI4.out
                have H8 : Hid (minef 25 6 to6 W1.heap.size (w4.alloc (.cells #[.int .i64 d, .int .i64 ok, .int .i64 ow, .int .i64 ox, .int .i64 oy, .int .i64 oa] 25)) u8 Q ∧ Below W1.heap.size W1 (w4.alloc (.cells #[.int .i64 d, .int .i64 ok, .int .i64 ow, .int .i64 ox, .int .i64 oy, .int .i64 oa] 25))) := ⟨minef_below HI5.out.2 (alloc_below _ _), below_step HI5.out.1 HI5.out.1.size (alloc_below _ _)⟩
                have HX : Hid (∀ j u, (to6 ⟨d, ok, ow, ox, oy, oa⟩)[j]? = some u → (w4.alloc (.cells #[.int .i64 d, .int .i64 ok, .int .i64 ow, .int .i64 ox, .int .i64 oy, .int .i64 oa] 25)).cell? ((⟨w4.heap.size, 0, none⟩ : Addr).add j) = some u) := fun j u hj => by
                  rw [add_zero_at, World.cell?_alloc_mark]
                  unfold to6 at hj
                  simpa using hj
                go_wp2_with (at_builtin; refine list_onef k6 _ rfl _ _ rfl W1.heap.size u8 Q rfl H8.out.1 ⟨_, 0, none⟩ 1 _ rfl HX.out HLN.out H8.out.2.size ?_)
                intro g cap w9 m1 m2
                have H9 : Hid (ginv W1 P l (q + 1) (.slice (some ⟨g, 0, none⟩) (Q.length + 1) cap) w9) := ⟨minef_grown H8.out.1 H8.out.2 H8.out.2.size m2, by rw [HS2.out]; exact m1⟩
                clear m1 m2 g0 g1 g2 g3 g4 g5
                go_wp2_with fail
                go_roundw
                case rel => exact ⟨q + 1, by go_num, by omega, H9.out⟩
                case measure => simp [intOf]; omega
              · have HPX : P ⟨ob, ok, ow, ox, oy, oa⟩ = false := by rw [HPX]; simp [hd]
                have HS2 : Hid ((l.take (q + 1)).filter P = Q) := by unfold Hid; rw [HSN.out, HPX]; simp
                clear HSN HPX x0 x1 x2 x3 x4 x5 x6 x7 x8
                have HI5 : Hid (Below W1.heap.size W1 w4 ∧ minef 25 6 to6 W1.heap.size w4 u8 Q) := HI4.out
                have H9 : Hid (ginv W1 P l (q + 1) u8 w4) := ⟨HI5.out.1, by rw [HS2.out]; exact HI5.out.2⟩
                go_wp2_with fail
                go_roundw
                case rel => exact ⟨q + 1, by go_num, by omega, H9.out⟩
                case measure => simp [intOf]; omega
        · obtain rfl : q = n := by omega
          have HGG := HGO.out _ _ HI.out
          have HGG : Hid (minef 25 6 to6 w.heap.size wr u8 (l.filter (alw (lown lt) nb)) ∧ Below w.heap.size w wr) := HGG
          go_wp2_with fail
          go_ret
          exact ⟨⟨_, rfl, HGG.out.1⟩, HGG.out.2⟩
end Go.Proofs.Ytgebfpncapfaoaa
