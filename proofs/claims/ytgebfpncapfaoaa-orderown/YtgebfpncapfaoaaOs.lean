/- What order.Split returns: of orders the blows, goes and deeds that they are. -/
import Derived.Test.YtgebfpncapfaoaaRg
namespace Go.Proofs.Ytgebfpncapfaoaa
open Go.RowKit
set_option linter.unusedVariables false

/-- What an order is. -/
def blw (o : Ord) : Blw := ⟨o.w, o.a⟩
def goe (o : Ord) : Goe := ⟨o.w, o.x, o.y⟩
def ded (o : Ord) : Ded := if o.k = 3 then ⟨1, o.w, o.x, o.y, 0⟩ else if o.k = 4 then ⟨2, o.w, 0, 0, 0⟩ else ⟨3, o.b, 0, 0, o.a⟩
def isb (o : Ord) : Bool := decide (o.k = 1)
def isg (o : Ord) : Bool := decide (o.k = 2)
def isd (o : Ord) : Bool := decide (2 < o.k)
def spb (l : List Ord) : List Blw := (l.filter isb).map blw
def spg (l : List Ord) : List Goe := (l.filter isg).map goe
def spd (l : List Ord) : List Ded := (l.filter isd).map ded
theorem sp_snoc {α : Type} (P : Ord → Bool) (f : Ord → α) (l : List Ord) {k : Nat} (h : k < l.length) : ((l.take (k + 1)).filter P).map f = ((l.take k).filter P).map f ++ (if P l[k] = true then [f l[k]] else []) := by
  rw [filter_snoc P l h, List.map_append]
  congr 1
  by_cases e : P l[k] = true <;> simp [e]
theorem sp_len {α : Type} (P : Ord → Bool) (f : Ord → α) (l : List Ord) (k : Nat) : (((l.take k).filter P).map f).length ≤ l.length := by
  rw [List.length_map]
  have h1 := List.length_filter_le P (l.take k)
  have h2 : (l.take k).length ≤ l.length := List.length_take_le' _ _
  omega
/-- A row is as it was where one of another kind has grown. -/
theorem minef_apart {α β : Type} {E E' n n' : Nat} {f : α → List Value} {f' : β → List Value} {B B' : Nat} {w w' : World} {v v' : Value} {Q : List α} {Q' : List β} (h : minef E n f B w v Q) (h' : minef E' n' f' B' w v' Q') (hE : E ≠ E') (hg : w.grownBy w' v'.ownBlock) : minef E n f B w' v Q := by
  refine ⟨h.1, ?_⟩
  rcases h.2 with h0 | ⟨g, cap, cur, hv, hB, hblk, hr⟩
  · exact .inl h0
  · refine .inr ⟨g, cap, cur, hv, hB, ?_, hr⟩
    have hlt : g < w.heap.size := by
      rcases Nat.lt_or_ge g w.heap.size with hlt | hge
      · exact hlt
      · rw [Array.getElem?_eq_none hge] at hblk; cases hblk
    rw [hg.block g hlt (fun e => ?_)]
    · exact hblk
    · rcases h'.2 with ⟨h0, _⟩ | ⟨g', cap', cur', hv', _, hblk', _⟩
      · rw [h0] at e; simp [Value.ownBlock] at e
      · rw [hv'] at e
        have e' : g = g' := by simpa only [Value.ownBlock, Option.some.injEq] using e
        subst e'
        rw [hblk] at hblk'
        injection hblk' with hblk'
        injection hblk' with _ e2 _
        exact hE e2
/-- Which error is told. -/
def spe (l : List Ord) (E : Int) : Int := if oes l = 0 then E else oes l
/-- The orders that are split. -/
def spl (l : List Ord) (s : Wld) (E : Int) : List Ord := if spe l E = 0 then l.filter (alw (lown s.lt) s.nb) else []
theorem spl_ok {l : List Ord} {s : Wld} {E : Int} (h : spe l E = 0) : spl l s E = l.filter (alw (lown s.lt) s.nb) := if_pos h
theorem spl_no {l : List Ord} {s : Wld} {E : Int} (h : ¬ spe l E = 0) : spl l s E = [] := if_neg h
/-- What a round of Split keeps. -/
def sinv (W : World) (L : List Ord) (q : Nat) (v1 v2 v3 : Value) (V : World) : Prop :=
  Below W.heap.size W V ∧ minef 51 2 to2 W.heap.size V v1 (spb (L.take q)) ∧ minef 55 3 to3 W.heap.size V v2 (spg (L.take q)) ∧ minef 59 5 to5 W.heap.size V v3 (spd (L.take q))
theorem sinv_below {W V V' : World} {L : List Ord} {q : Nat} {v1 v2 v3 : Value} (h : sinv W L q v1 v2 v3 V) (hb : Below V.heap.size V V') : sinv W L q v1 v2 v3 V' :=
  ⟨below_step h.1 h.1.size hb, minef_below h.2.1 hb, minef_below h.2.2.1 hb, minef_below h.2.2.2 hb⟩
theorem sinv_b {W V V' : World} {L : List Ord} {q : Nat} {v1 v2 v3 v' : Value} {X : Ord} (h : sinv W L q v1 v2 v3 V) (hX : L[q]? = some X) (hk : X.k = 1) (hm : minef 51 2 to2 W.heap.size V' v' (spb (L.take q) ++ [blw X])) (hg : V.grownBy V' v1.ownBlock) : sinv W L (q + 1) v' v2 v3 V' := by
  obtain ⟨hql, hx⟩ := List.getElem?_eq_some_iff.1 hX
  have e1 : spb (L.take (q + 1)) = spb (L.take q) ++ [blw X] := by unfold spb; rw [sp_snoc _ _ _ hql, hx]; simp [isb, hk]
  have e2 : spg (L.take (q + 1)) = spg (L.take q) := by unfold spg; rw [sp_snoc _ _ _ hql, hx]; simp [isg, hk]
  have e3 : spd (L.take (q + 1)) = spd (L.take q) := by unfold spd; rw [sp_snoc _ _ _ hql, hx]; simp [isd, hk]
  exact ⟨minef_grown h.2.1 h.1 h.1.size hg, by rw [e1]; exact hm, by rw [e2]; exact minef_apart h.2.2.1 h.2.1 (by decide) hg, by rw [e3]; exact minef_apart h.2.2.2 h.2.1 (by decide) hg⟩
theorem sinv_g {W V V' : World} {L : List Ord} {q : Nat} {v1 v2 v3 v' : Value} {X : Ord} (h : sinv W L q v1 v2 v3 V) (hX : L[q]? = some X) (hk : X.k = 2) (hm : minef 55 3 to3 W.heap.size V' v' (spg (L.take q) ++ [goe X])) (hg : V.grownBy V' v2.ownBlock) : sinv W L (q + 1) v1 v' v3 V' := by
  obtain ⟨hql, hx⟩ := List.getElem?_eq_some_iff.1 hX
  have e1 : spb (L.take (q + 1)) = spb (L.take q) := by unfold spb; rw [sp_snoc _ _ _ hql, hx]; simp [isb, hk]
  have e2 : spg (L.take (q + 1)) = spg (L.take q) ++ [goe X] := by unfold spg; rw [sp_snoc _ _ _ hql, hx]; simp [isg, hk]
  have e3 : spd (L.take (q + 1)) = spd (L.take q) := by unfold spd; rw [sp_snoc _ _ _ hql, hx]; simp [isd, hk]
  exact ⟨minef_grown h.2.2.1 h.1 h.1.size hg, by rw [e1]; exact minef_apart h.2.1 h.2.2.1 (by decide) hg, by rw [e2]; exact hm, by rw [e3]; exact minef_apart h.2.2.2 h.2.2.1 (by decide) hg⟩
theorem sinv_d {W V V' : World} {L : List Ord} {q : Nat} {v1 v2 v3 v' : Value} {X : Ord} (h : sinv W L q v1 v2 v3 V) (hX : L[q]? = some X) (hk : 2 < X.k) (hm : minef 59 5 to5 W.heap.size V' v' (spd (L.take q) ++ [ded X])) (hg : V.grownBy V' v3.ownBlock) : sinv W L (q + 1) v1 v2 v' V' := by
  obtain ⟨hql, hx⟩ := List.getElem?_eq_some_iff.1 hX
  have n1 : ¬ X.k = 1 := by omega
  have n2 : ¬ X.k = 2 := by omega
  have e1 : spb (L.take (q + 1)) = spb (L.take q) := by unfold spb; rw [sp_snoc _ _ _ hql, hx]; simp [isb, n1]
  have e2 : spg (L.take (q + 1)) = spg (L.take q) := by unfold spg; rw [sp_snoc _ _ _ hql, hx]; simp [isg, n2]
  have e3 : spd (L.take (q + 1)) = spd (L.take q) ++ [ded X] := by unfold spd; rw [sp_snoc _ _ _ hql, hx]; simp [isd, hk]
  exact ⟨minef_grown h.2.2.2 h.1 h.1.size hg, by rw [e1]; exact minef_apart h.2.1 h.2.2.2 (by decide) hg, by rw [e2]; exact minef_apart h.2.2.1 h.2.2.2 (by decide) hg, by rw [e3]; exact hm⟩
theorem results_tmp4 {fn : Func} {t u v x : Tmp} (h : fn.results = #[.tmp t, .tmp u, .tmp v, .tmp x]) (tmps : Array Value) (P : Program) (w : World) :
    (results fn tmps).run P w = .ok (.tuple #[tmps.getD t undef, tmps.getD u undef, tmps.getD v undef, tmps.getD x undef]) w := by
  simp [results, h]
theorem ret_four {v1 v2 v3 : Value} {c c' : Int} (h : c = c') : Ending.returned (.tuple #[v1, v2, v3, .int .i64 c]) = .returned (.tuple #[v1, v2, v3, .int .i64 c']) := by rw [h]
/-- What Split tells. -/
def spt (w : World) (l : List Ord) (s : Wld) (E : Int) (e : Ending) (w' : World) : Prop :=
  (∃ v1 v2 v3, e = .returned (.tuple #[v1, v2, v3, .int .i64 (spe l E)]) ∧ minef 51 2 to2 w.heap.size w' v1 (spb (spl l s E)) ∧ minef 55 3 to3 w.heap.size w' v2 (spg (spl l s E)) ∧ minef 59 5 to5 w.heap.size w' v3 (spd (spl l s E))) ∧ Below w.heap.size w w'
theorem spt_no {w w' : World} {l : List Ord} {s : Wld} {E F : Int} (h : spe l E = F) (hF : ¬ F = 0) (hb : Below w.heap.size w w') : spt w l s E (.returned (.tuple #[.slice none 0 0, .slice none 0 0, .slice none 0 0, .int .i64 F])) w' := by
  subst h
  refine ⟨⟨_, _, _, rfl, ?_, ?_, ?_⟩, hb⟩
  all_goals rw [spl_no hF]; exact minef_nil _ _ _ _ _

set_option maxRecDepth 20000 in
set_option maxHeartbeats 8000000 in
theorem Split_any (p : Option Addr) (n c : Nat) (l : List Ord) (s : Wld) (E : Int) (w : World) (hr : rowf to6 w p l) (hn : l.length = n) (hm : n ≤ 9223372036854775807) (hf : ∀ o ∈ l, fito o) (h : s.fit w) (hE : Hid (wre s E)) :
    Calls Try.prog 16 #[.slice p n c, s.val] w (spt w l s E) := by
  have HC : Hid (∀ V, Below w.heap.size w V → Calls Try.prog 34 #[.slice p n c] V fun e w' => e = .returned (.int .i64 (oes l)) ∧ Below V.heap.size V w') := fun V hV => checkAll_any p n c l V (rowf_below hr hV) hn hm
  have HW : Hid (∀ V, Below w.heap.size w V → Calls Try.prog 48 #[s.val] V fun e w' => e = .returned (.int .i64 E) ∧ Below V.heap.size V w') := fun V hV => Check_world s E V (Wld.fit_below h hV) hE
  have HG : Hid (oes l = 0 → E = 0 → ∀ V, Below w.heap.size w V → Calls Try.prog 49 #[.slice p n c, s.val] V fun e w' => (∃ v, e = .returned v ∧ minef 25 6 to6 V.heap.size w' v (spl l s 0)) ∧ Below V.heap.size V w') := fun h0 h1 V hV => by
    have h2 := hE.out
    rw [h1] at h2
    obtain ⟨W, H, hk⟩ := wre_ok h2
    have e : spl l s 0 = l.filter (alw (lown s.lt) s.nb) := spl_ok (by unfold spe; rw [if_pos h0])
    rw [e]
    exact rightful_any p n c l s V (rowf_below hr hV) hn (by rw [← hn]; exact (oes_zero h0).1) hf (Wld.fit_below h hV) hk.nt hk.nb
  have HLO : Hid (oes l = 0 → ∀ o ∈ spl l s 0, oe o = 0) := fun h0 o ho => by
    have e : spl l s 0 = l.filter (alw (lown s.lt) s.nb) := spl_ok (by unfold spe; rw [if_pos h0])
    rw [e] at ho
    exact (oes_zero h0).2 o (List.mem_filter.1 ho).1
  have HLL : Hid (oes l = 0 → (spl l s 0).length ≤ 100) := fun h0 => by
    have e : spl l s 0 = l.filter (alw (lown s.lt) s.nb) := spl_ok (by unfold spe; rw [if_pos h0])
    rw [e]
    exact Nat.le_trans (List.length_filter_le _ _) (oes_zero h0).1
  have HNO : Hid (∀ F w', spe l E = F → ¬ F = 0 → Below w.heap.size w w' → spt w l s E (.returned (.tuple #[.slice none 0 0, .slice none 0 0, .slice none 0 0, .int .i64 F])) w') := fun F w' h1 h2 h3 => spt_no h1 h2 h3
  have HYES : Hid (∀ L, spl l s 0 = L → oes l = 0 → E = 0 → ∀ (W V : World) v1 v2 v3, Below w.heap.size w W → sinv W L L.length v1 v2 v3 V → spt w l s E (.returned (.tuple #[v1, v2, v3, .int .i64 0])) V) := fun L hL h0 h1 W V v1 v2 v3 hW hi => by
    subst h1
    have e : spe l 0 = 0 := by unfold spe; rw [if_pos h0]
    obtain ⟨i1, i2, i3, i4⟩ := hi
    rw [List.take_length] at i2 i3 i4
    refine ⟨⟨v1, v2, v3, by rw [e], ?_, ?_, ?_⟩, hW.trans (i1.mono hW.size)⟩
    · rw [hL]; exact minef_mono i2 hW.size
    · rw [hL]; exact minef_mono i3 hW.size
    · rw [hL]; exact minef_mono i4 hW.size
  obtain ⟨PO, hPO⟩ : ∃ PO, spt w l s E = PO := ⟨_, rfl⟩
  simp only [hPO] at HNO HYES ⊢
  obtain ⟨L, hL⟩ : ∃ L, spl l s 0 = L := ⟨_, rfl⟩
  rw [hL] at HLO HLL
  simp only [hL] at HG HYES
  have HYES : Hid (oes l = 0 → E = 0 → ∀ (W V : World) v1 v2 v3, Below w.heap.size w W → sinv W L L.length v1 v2 v3 V → PO (.returned (.tuple #[v1, v2, v3, .int .i64 0])) V) := HYES.out L rfl
  have HSE : Hid (spe l E = if oes l = 0 then E else oes l) := rfl
  obtain ⟨SE, hSE⟩ : ∃ SE, spe l E = SE := ⟨_, rfl⟩
  rw [hSE] at HSE
  simp only [hSE] at HNO
  obtain ⟨Z, hZ⟩ : ∃ Z, oes l = Z := ⟨_, rfl⟩
  simp only [hZ] at HC HG HLO HLL HYES HSE
  clear hr hn hf h hE hPO hL hSE hZ
  obtain ⟨A, B, pf, nf, cf, lf, pb, nb, cb, lb, ps, ns, cs, ls, pm, nm, cm, lm, pt, nt, ct, lt, N, T⟩ := s
  unfold Wld.val at *
  dsimp only at *
  obtain ⟨F, hF⟩ : ∃ F, w.heap.size = F := ⟨_, rfl⟩
  obtain ⟨w0, hw0⟩ : ∃ w0, w.alloc (.cells #[.int .i64 A, .int .i64 B, .slice pf nf cf, .slice pb nb cb, .slice ps ns cs, .slice pm nm cm, .slice pt nt ct, .int .i64 N, .int .i64 T] 41) = w0 := ⟨_, rfl⟩
  have HBX : Hid (∀ V, Below w0.heap.size w0 V → c9 V F (.int .i64 A) (.int .i64 B) (.slice pf nf cf) (.slice pb nb cb) (.slice ps ns cs) (.slice pm nm cm) (.slice pt nt ct) (.int .i64 N) (.int .i64 T)) := fun V hV => boxw hF hw0 hV
  have hB0 : Below w.heap.size w w0 := by rw [← hw0]; exact alloc_below _ _
  have HB0 : Hid (Below w.heap.size w w0) := hB0
  have HUP : Hid (∀ V, Below w0.heap.size w0 V → Below w.heap.size w V) := fun V hV => HB0.out.trans (hV.mono HB0.out.size)
  clear hB0
  go_enter Try.func16, Try.ntmps16
  go_wp2_with fail
  clear hw0
  refine (HC.out w0 HB0.out).mono ?_
  rintro e w1 ⟨rfl, hb1⟩
  have HB1 : Hid (Below w0.heap.size w0 w1) := hb1
  clear hb1 HC
  by_cases hz : Z = 0
  rotate_left
  · have HE1 : Hid (SE = Z) := by have := HSE.out; rw [if_neg hz] at this; exact this
    have HR : Hid (PO (.returned (.tuple #[.slice none 0 0, .slice none 0 0, .slice none 0 0, .int .i64 Z])) w1) := HNO.out Z w1 HE1.out hz (HUP.out w1 HB1.out)
    go_wp2_with fail
    (try simp only [Exit.inBlock, Exit.then]); refine bodyPost_ret (results_tmp4 rfl _ _ _) rfl ?_
    exact HR.out
  obtain ⟨z0, z1, z2, z3, z4, z5, z6, z7, z8⟩ := HBX.out w1 HB1.out
  have HZ : Hid (Z = 0) := hz
  clear hz
  rw [HZ.out]
  go_wp2_with fail
  refine (HW.out w1 (HUP.out w1 HB1.out)).mono ?_
  rintro e w2 ⟨rfl, hb2⟩
  have HB2 : Hid (Below w0.heap.size w0 w2) := below_step HB1.out HB1.out.size hb2
  clear hb2 HW z0 z1 z2 z3 z4 z5 z6 z7 z8
  by_cases hE0 : E = 0
  rotate_left
  · have HE1 : Hid (SE = E) := by have := HSE.out; rw [if_pos HZ.out] at this; exact this
    have HR : Hid (PO (.returned (.tuple #[.slice none 0 0, .slice none 0 0, .slice none 0 0, .int .i64 E])) w2) := HNO.out E w2 HE1.out hE0 (HUP.out w2 HB2.out)
    go_wp2_with fail
    (try simp only [Exit.inBlock, Exit.then]); refine bodyPost_ret (results_tmp4 rfl _ _ _) rfl ?_
    exact HR.out
  subst hE0
  obtain ⟨z0, z1, z2, z3, z4, z5, z6, z7, z8⟩ := HBX.out w2 HB2.out
  go_wp2_with fail
  refine (HG.out HZ.out (by first | rfl | trivial) w2 (HUP.out w2 HB2.out)).mono ?_
  rintro e w3 ⟨⟨v, rfl, hv⟩, hb3⟩
  have HB3 : Hid (Below w0.heap.size w0 w3) := below_step HB2.out HB2.out.size hb3
  obtain ⟨m, hm⟩ : ∃ m, L.length = m := ⟨_, rfl⟩
  have HMM : Hid (L.length = m) := hm
  have hm1 : m ≤ 100 := by have := HLL.out HZ.out; omega
  obtain ⟨pv, cv, rfl, hrv⟩ := minef_form flt6 hv hm
  have HRV : Hid (∀ V, Below w3.heap.size w3 V → rowf to6 V pv L) := fun V hV => rowf_below hrv hV
  have HLO : Hid (∀ o ∈ L, oe o = 0) := HLO.out HZ.out
  have HYES : Hid (∀ V v1 v2 v3, sinv w3 L m v1 v2 v3 V → PO (.returned (.tuple #[v1, v2, v3, .int .i64 0])) V) := fun V v1 v2 v3 hi => HYES.out HZ.out (by first | rfl | trivial) w3 V v1 v2 v3 (HUP.out w3 HB3.out) (by rw [HMM.out]; exact hi)
  have H0 : Hid (sinv w3 L 0 (.slice none 0 0) (.slice none 0 0) (.slice none 0 0) w3) := ⟨Below.refl _ _, minef_nil _ _ _ _ _, minef_nil _ _ _ _ _, minef_nil _ _ _ _ _⟩
  clear hb3 hm hv hrv HG HLL z0 z1 z2 z3 z4 z5 z6 z7 z8 HNO HSE
  go_wp2_with fail
  go_loopw [10, 11, 12, 29] (fun v1 v2 v3 i wr => ∃ q : Nat, i = .int .i64 (q : Int) ∧ q ≤ m ∧ Hid (sinv w3 L q v1 v2 v3 wr)) (fun _ _ _ i _ => m - (intOf i).toNat)
  case atStart => exact ⟨0, rfl, by omega, H0.out⟩
  case round =>
    obtain ⟨q, rfl, hq, HI⟩ := hrel
    by_cases hqt : q < m
    · have hql : q < L.length := by rw [HMM.out]; exact hqt
      obtain ⟨a, rfl, ha⟩ := oat (HRV.out _ HI.out.1) hql
      have HXE := List.getElem?_eq_getElem hql
      have hoe := (oe_zero (HLO.out _ (List.getElem_mem hql))).1
      obtain ⟨X, hX⟩ : ∃ X, L[q] = X := ⟨_, rfl⟩
      rw [hX] at ha HXE hoe
      have HXE : Hid (L[q]? = some X) := HXE
      have hk := (wn_nums hoe).2.1
      have HLB : Hid ((spb (L.take q)).length ≤ 1000000 ∧ (spg (L.take q)).length ≤ 1000000 ∧ (spd (L.take q)).length ≤ 1000000) := by
        have h1 := sp_len isb blw L q
        have h2 := sp_len isg goe L q
        have h3 := sp_len isd ded L q
        have := HMM.out
        unfold spb spg spd
        exact ⟨by omega, by omega, by omega⟩
      obtain ⟨ob, ok, ow, ox, oy, oa⟩ := X
      obtain ⟨z0, z1, z2, z3, z4, z5⟩ := ha
      dsimp only at z0 z1 z2 z3 z4 z5 hk
      obtain ⟨w4, hw4⟩ : ∃ w4, wr.alloc (.cells #[.int .i64 ob, .int .i64 ok, .int .i64 ow, .int .i64 ox, .int .i64 oy, .int .i64 oa] 25) = w4 := ⟨_, rfl⟩
      have hb4 : Below wr.heap.size wr w4 := by rw [← hw4]; exact alloc_below _ _
      obtain ⟨G, hG⟩ : ∃ G, wr.heap.size = G := ⟨_, rfl⟩
      obtain ⟨g0, g1, g2, g3, g4, g5⟩ := box6 (w := wr) (V := w4) (t := 25) (v0 := .int .i64 ob) (v1 := .int .i64 ok) (v2 := .int .i64 ow) (v3 := .int .i64 ox) (v4 := .int .i64 oy) (v5 := .int .i64 oa) (by rw [hw4]; exact Below.refl _ _)
      rw [hG] at g0 g1 g2 g3 g4 g5
      have HI4 : Hid (sinv w3 L q u10 u11 u12 w4) := sinv_below HI.out hb4
      have l1 : (q : Int) < m := by omega
      have l2 : (0 : Int) ≤ q := by omega
      have hc : ok = 1 ∨ ok = 2 ∨ ok = 3 ∨ ok = 4 ∨ ok = 5 := by omega
      clear hX hoe hb4 hql hk HI
      rcases hc with rfl | rfl | rfl | rfl | rfl
      · obtain ⟨Q, hQ⟩ : ∃ Q, spb (L.take q) = Q := ⟨_, rfl⟩
        have H8 : Hid (minef 51 2 to2 w3.heap.size (w4.alloc (.cells #[.int .i64 ow, .int .i64 oa] 51)) u10 Q ∧ sinv w3 L q u10 u11 u12 (w4.alloc (.cells #[.int .i64 ow, .int .i64 oa] 51))) := ⟨by rw [← hQ]; exact minef_below HI4.out.2.1 (alloc_below _ _), sinv_below HI4.out (alloc_below _ _)⟩
        have HX : Hid (∀ j u, (to2 (blw ⟨ob, 1, ow, ox, oy, oa⟩))[j]? = some u → (w4.alloc (.cells #[.int .i64 ow, .int .i64 oa] 51)).cell? ((⟨w4.heap.size, 0, none⟩ : Addr).add j) = some u) := fun j u hj => by
          rw [add_zero_at, World.cell?_alloc_mark]
          unfold to2 blw at hj
          simpa using hj
        have HLQ : Hid (Q.length ≤ 1000000) := by rw [← hQ]; exact HLB.out.1
        have HNX : Hid (∀ V' v', minef 51 2 to2 w3.heap.size V' v' (Q ++ [blw ⟨ob, 1, ow, ox, oy, oa⟩]) → (w4.alloc (.cells #[.int .i64 ow, .int .i64 oa] 51)).grownBy V' (u10).ownBlock → sinv w3 L (q + 1) v' u11 u12 V') := fun V' v' h1 h2 => sinv_b H8.out.2 HXE.out rfl (by rw [hQ]; exact h1) h2
        clear hQ HLB
        go_wp2_with (at_builtin; refine list_onef k2 _ rfl _ _ rfl w3.heap.size u10 Q rfl H8.out.1 ⟨_, 0, none⟩ 1 _ rfl HX.out HLQ.out H8.out.2.1.size ?_)
        intro g cap w9 m1 m2
        have H9 := HNX.out w9 _ m1 m2
        have H9 : Hid (sinv w3 L (q + 1) (.slice (some ⟨g, 0, none⟩) (Q.length + 1) cap) u11 u12 w9) := H9
        clear m1 m2 HNX
        go_wp2_with fail
        go_roundw
        case rel => exact ⟨q + 1, by go_num, by omega, H9.out⟩
        case measure => simp [intOf]; omega
      · obtain ⟨Q, hQ⟩ : ∃ Q, spg (L.take q) = Q := ⟨_, rfl⟩
        have H8 : Hid (minef 55 3 to3 w3.heap.size (w4.alloc (.cells #[.int .i64 ow, .int .i64 ox, .int .i64 oy] 55)) u11 Q ∧ sinv w3 L q u10 u11 u12 (w4.alloc (.cells #[.int .i64 ow, .int .i64 ox, .int .i64 oy] 55))) := ⟨by rw [← hQ]; exact minef_below HI4.out.2.2.1 (alloc_below _ _), sinv_below HI4.out (alloc_below _ _)⟩
        have HX : Hid (∀ j u, (to3 (goe ⟨ob, 2, ow, ox, oy, oa⟩))[j]? = some u → (w4.alloc (.cells #[.int .i64 ow, .int .i64 ox, .int .i64 oy] 55)).cell? ((⟨w4.heap.size, 0, none⟩ : Addr).add j) = some u) := fun j u hj => by
          rw [add_zero_at, World.cell?_alloc_mark]
          unfold to3 goe at hj
          simpa using hj
        have HLQ : Hid (Q.length ≤ 1000000) := by rw [← hQ]; exact HLB.out.2.1
        have HNX : Hid (∀ V' v', minef 55 3 to3 w3.heap.size V' v' (Q ++ [goe ⟨ob, 2, ow, ox, oy, oa⟩]) → (w4.alloc (.cells #[.int .i64 ow, .int .i64 ox, .int .i64 oy] 55)).grownBy V' (u11).ownBlock → sinv w3 L (q + 1) u10 v' u12 V') := fun V' v' h1 h2 => sinv_g H8.out.2 HXE.out rfl (by rw [hQ]; exact h1) h2
        clear hQ HLB
        go_wp2_with (at_builtin; refine list_onef k3 _ rfl _ _ rfl w3.heap.size u11 Q rfl H8.out.1 ⟨_, 0, none⟩ 1 _ rfl HX.out HLQ.out H8.out.2.1.size ?_)
        intro g cap w9 m1 m2
        have H9 := HNX.out w9 _ m1 m2
        have H9 : Hid (sinv w3 L (q + 1) u10 (.slice (some ⟨g, 0, none⟩) (Q.length + 1) cap) u12 w9) := H9
        clear m1 m2 HNX
        go_wp2_with fail
        go_roundw
        case rel => exact ⟨q + 1, by go_num, by omega, H9.out⟩
        case measure => simp [intOf]; omega
      · obtain ⟨Q, hQ⟩ : ∃ Q, spd (L.take q) = Q := ⟨_, rfl⟩
        have H8 : Hid (minef 59 5 to5 w3.heap.size (w4.alloc (.cells #[.int .i64 1, .int .i64 ow, .int .i64 ox, .int .i64 oy, .int .i64 0] 59)) u12 Q ∧ sinv w3 L q u10 u11 u12 (w4.alloc (.cells #[.int .i64 1, .int .i64 ow, .int .i64 ox, .int .i64 oy, .int .i64 0] 59))) := ⟨by rw [← hQ]; exact minef_below HI4.out.2.2.2 (alloc_below _ _), sinv_below HI4.out (alloc_below _ _)⟩
        have HX : Hid (∀ j u, (to5 (ded ⟨ob, 3, ow, ox, oy, oa⟩))[j]? = some u → (w4.alloc (.cells #[.int .i64 1, .int .i64 ow, .int .i64 ox, .int .i64 oy, .int .i64 0] 59)).cell? ((⟨w4.heap.size, 0, none⟩ : Addr).add j) = some u) := fun j u hj => by
          rw [add_zero_at, World.cell?_alloc_mark]
          unfold to5 ded at hj
          simpa using hj
        have HLQ : Hid (Q.length ≤ 1000000) := by rw [← hQ]; exact HLB.out.2.2
        have HNX : Hid (∀ V' v', minef 59 5 to5 w3.heap.size V' v' (Q ++ [ded ⟨ob, 3, ow, ox, oy, oa⟩]) → (w4.alloc (.cells #[.int .i64 1, .int .i64 ow, .int .i64 ox, .int .i64 oy, .int .i64 0] 59)).grownBy V' (u12).ownBlock → sinv w3 L (q + 1) u10 u11 v' V') := fun V' v' h1 h2 => sinv_d H8.out.2 HXE.out (by show (2 : Int) < 3; decide) (by rw [hQ]; exact h1) h2
        clear hQ HLB
        go_wp2_with (at_builtin; refine list_onef k5 _ rfl _ _ rfl w3.heap.size u12 Q rfl H8.out.1 ⟨_, 0, none⟩ 1 _ rfl HX.out HLQ.out H8.out.2.1.size ?_)
        intro g cap w9 m1 m2
        have H9 := HNX.out w9 _ m1 m2
        have H9 : Hid (sinv w3 L (q + 1) u10 u11 (.slice (some ⟨g, 0, none⟩) (Q.length + 1) cap) w9) := H9
        clear m1 m2 HNX
        go_wp2_with fail
        go_roundw
        case rel => exact ⟨q + 1, by go_num, by omega, H9.out⟩
        case measure => simp [intOf]; omega
      · obtain ⟨Q, hQ⟩ : ∃ Q, spd (L.take q) = Q := ⟨_, rfl⟩
        have H8 : Hid (minef 59 5 to5 w3.heap.size (w4.alloc (.cells #[.int .i64 2, .int .i64 ow, .int .i64 0, .int .i64 0, .int .i64 0] 59)) u12 Q ∧ sinv w3 L q u10 u11 u12 (w4.alloc (.cells #[.int .i64 2, .int .i64 ow, .int .i64 0, .int .i64 0, .int .i64 0] 59))) := ⟨by rw [← hQ]; exact minef_below HI4.out.2.2.2 (alloc_below _ _), sinv_below HI4.out (alloc_below _ _)⟩
        have HX : Hid (∀ j u, (to5 (ded ⟨ob, 4, ow, ox, oy, oa⟩))[j]? = some u → (w4.alloc (.cells #[.int .i64 2, .int .i64 ow, .int .i64 0, .int .i64 0, .int .i64 0] 59)).cell? ((⟨w4.heap.size, 0, none⟩ : Addr).add j) = some u) := fun j u hj => by
          rw [add_zero_at, World.cell?_alloc_mark]
          unfold to5 ded at hj
          simpa using hj
        have HLQ : Hid (Q.length ≤ 1000000) := by rw [← hQ]; exact HLB.out.2.2
        have HNX : Hid (∀ V' v', minef 59 5 to5 w3.heap.size V' v' (Q ++ [ded ⟨ob, 4, ow, ox, oy, oa⟩]) → (w4.alloc (.cells #[.int .i64 2, .int .i64 ow, .int .i64 0, .int .i64 0, .int .i64 0] 59)).grownBy V' (u12).ownBlock → sinv w3 L (q + 1) u10 u11 v' V') := fun V' v' h1 h2 => sinv_d H8.out.2 HXE.out (by show (2 : Int) < 4; decide) (by rw [hQ]; exact h1) h2
        clear hQ HLB
        go_wp2_with (at_builtin; refine list_onef k5 _ rfl _ _ rfl w3.heap.size u12 Q rfl H8.out.1 ⟨_, 0, none⟩ 1 _ rfl HX.out HLQ.out H8.out.2.1.size ?_)
        intro g cap w9 m1 m2
        have H9 := HNX.out w9 _ m1 m2
        have H9 : Hid (sinv w3 L (q + 1) u10 u11 (.slice (some ⟨g, 0, none⟩) (Q.length + 1) cap) w9) := H9
        clear m1 m2 HNX
        go_wp2_with fail
        go_roundw
        case rel => exact ⟨q + 1, by go_num, by omega, H9.out⟩
        case measure => simp [intOf]; omega
      · obtain ⟨Q, hQ⟩ : ∃ Q, spd (L.take q) = Q := ⟨_, rfl⟩
        have H8 : Hid (minef 59 5 to5 w3.heap.size (w4.alloc (.cells #[.int .i64 3, .int .i64 ob, .int .i64 0, .int .i64 0, .int .i64 oa] 59)) u12 Q ∧ sinv w3 L q u10 u11 u12 (w4.alloc (.cells #[.int .i64 3, .int .i64 ob, .int .i64 0, .int .i64 0, .int .i64 oa] 59))) := ⟨by rw [← hQ]; exact minef_below HI4.out.2.2.2 (alloc_below _ _), sinv_below HI4.out (alloc_below _ _)⟩
        have HX : Hid (∀ j u, (to5 (ded ⟨ob, 5, ow, ox, oy, oa⟩))[j]? = some u → (w4.alloc (.cells #[.int .i64 3, .int .i64 ob, .int .i64 0, .int .i64 0, .int .i64 oa] 59)).cell? ((⟨w4.heap.size, 0, none⟩ : Addr).add j) = some u) := fun j u hj => by
          rw [add_zero_at, World.cell?_alloc_mark]
          unfold to5 ded at hj
          simpa using hj
        have HLQ : Hid (Q.length ≤ 1000000) := by rw [← hQ]; exact HLB.out.2.2
        have HNX : Hid (∀ V' v', minef 59 5 to5 w3.heap.size V' v' (Q ++ [ded ⟨ob, 5, ow, ox, oy, oa⟩]) → (w4.alloc (.cells #[.int .i64 3, .int .i64 ob, .int .i64 0, .int .i64 0, .int .i64 oa] 59)).grownBy V' (u12).ownBlock → sinv w3 L (q + 1) u10 u11 v' V') := fun V' v' h1 h2 => sinv_d H8.out.2 HXE.out (by show (2 : Int) < 5; decide) (by rw [hQ]; exact h1) h2
        clear hQ HLB
        go_wp2_with (at_builtin; refine list_onef k5 _ rfl _ _ rfl w3.heap.size u12 Q rfl H8.out.1 ⟨_, 0, none⟩ 1 _ rfl HX.out HLQ.out H8.out.2.1.size ?_)
        intro g cap w9 m1 m2
        have H9 := HNX.out w9 _ m1 m2
        have H9 : Hid (sinv w3 L (q + 1) u10 u11 (.slice (some ⟨g, 0, none⟩) (Q.length + 1) cap) w9) := H9
        clear m1 m2 HNX
        go_wp2_with fail
        go_roundw
        case rel => exact ⟨q + 1, by go_num, by omega, H9.out⟩
        case measure => simp [intOf]; omega
    · obtain rfl : q = m := by omega
      have HGG : Hid (PO (.returned (.tuple #[u10, u11, u12, .int .i64 0])) wr) := HYES.out _ _ _ _ HI.out
      go_wp2_with fail
      (try simp only [Exit.inBlock, Exit.then]); refine bodyPost_ret (results_tmp4 rfl _ _ _) rfl ?_
      exact HGG.out
end Go.Proofs.Ytgebfpncapfaoaa
