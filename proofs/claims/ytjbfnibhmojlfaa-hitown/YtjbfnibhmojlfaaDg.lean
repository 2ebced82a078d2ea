/- What DeleteFunc returns of a row of troops of one's own: those that are left, in the same room. -/
import Derived.Test.YtjbfnibhmojlfaaDf
namespace Go.Proofs.Ytjbfnibhmojlfaa
open Go.RowKit
set_option linter.unusedVariables false

/-- Who is left. -/
def kp (t : Trp) : Bool := decide (0 < t.f)
theorem filter_all {ts : List Trp} (h : ∀ t ∈ ts, 0 < t.f) : ts.filter kp = ts := List.filter_eq_self.2 fun t ht => by unfold kp; simpa using h t ht
theorem filter_yes {ts : List Trp} {m : Nat} (hm : m < ts.length) (h : 0 < ts[m].f) : (ts.take (m + 1)).filter kp = (ts.take m).filter kp ++ [ts[m]] := by
  rw [List.take_succ_eq_append_getElem hm, List.filter_append]
  simp [List.filter, kp, h]
theorem filter_no {ts : List Trp} {m : Nat} (hm : m < ts.length) (h : ts[m].f ≤ 0) : (ts.take (m + 1)).filter kp = (ts.take m).filter kp := by
  rw [List.take_succ_eq_append_getElem hm, List.filter_append]
  have : decide (0 < ts[m].f) = false := by simp; omega
  simp [List.filter, kp, this]
theorem flat7_take7 (Q : List Trp) (k : Nat) (hk : k ≤ Q.length) : (flat7 Q).take (k * 7) = flat7 (Q.take k) := by
  have e : flat7 Q = flat7 (Q.take k) ++ flat7 (Q.drop k) := by rw [← flat7_app, List.take_append_drop]
  have l : (flat7 (Q.take k)).length = k * 7 := by rw [flat7_len, List.length_take]; omega
  rw [e, ← l, List.take_left]
/-- The loop's state: k are kept of the first m. -/
def dinv (w : World) (B g n cap : Nat) (ts : List Trp) (k m : Nat) (Z : List Trp) (wr : World) : Prop :=
  Z.length = n ∧ minet B wr (.slice (some ⟨g, 0, none⟩) n cap) Z ∧ Z.take k = (ts.take m).filter kp ∧ Z.drop m = ts.drop m ∧ Ex (fun g' => g' = g) w wr ∧ alli wr (.slice (some ⟨g, 0, none⟩) n cap)
theorem minet_kept {B : Nat} {w w' : World} {v : Value} {Q : List Trp} (h : minet B w v Q) (hb : Below w.heap.size w w') : minet B w' v Q := by
  refine ⟨h.1, ?_⟩
  rcases h.2 with h0 | ⟨g', cap, cur, hv, hB, hblk, hr⟩
  · exact .inl h0
  · refine .inr ⟨g', cap, cur, hv, hB, ?_, hr⟩
    have : g' < w.heap.size := by
      rcases Nat.lt_or_ge g' w.heap.size with hlt | hge
      · exact hlt
      · rw [Array.getElem?_eq_none hge] at hblk; cases hblk
    rw [hb.block g' this]; exact hblk
theorem dinv_below {w V V' : World} {B g n cap k m : Nat} {ts Z : List Trp} (h : dinv w B g n cap ts k m Z V) (hb : Below V.heap.size V V') : dinv w B g n cap ts k m Z V' :=
  ⟨h.1, minet_kept h.2.1 hb, h.2.2.1, h.2.2.2.1, ex_call h.2.2.2.2.1 hb, alli_below h.2.2.2.2.2 hb⟩
theorem dinv_at {w V : World} {B g n cap k m : Nat} {ts Z : List Trp} (h : dinv w B g n cap ts k m Z V) (hn : ts.length = n) (hm : m < n) : ∃ h1 : m < Z.length, ∃ h2 : m < ts.length, Z[m] = ts[m] := by
  have h1 : m < Z.length := by rw [h.1]; exact hm
  have h2 : m < ts.length := by omega
  refine ⟨h1, h2, ?_⟩
  have e := h.2.2.2.1
  rw [List.drop_eq_getElem_cons h1, List.drop_eq_getElem_cons h2] at e
  exact (List.cons.inj e).1
theorem dinv_no {w V : World} {B g n cap k m : Nat} {ts Z : List Trp} (h : dinv w B g n cap ts k m Z V) (hn : ts.length = n) (hm : m < ts.length) (hf : ts[m].f ≤ 0) : dinv w B g n cap ts k (m + 1) Z V := by
  refine ⟨h.1, h.2.1, by rw [filter_no hm hf]; exact h.2.2.1, ?_, h.2.2.2.2⟩
  have := congrArg (List.drop 1) h.2.2.2.1
  rw [List.drop_drop, List.drop_drop] at this
  exact this
theorem dinv_yes {w V : World} {B g n cap k m : Nat} {ts Z : List Trp} (h : dinv w B g n cap ts k m Z V) (hn : ts.length = n) (hm : m < ts.length) (hk : k < m) (hf : 0 < ts[m].f) {t : Trp} (ht : ts[m] = t) :
    dinv w B g n cap ts (k + 1) (m + 1) (Z.set k t) (((((((V.setCell ⟨g, k * 7, none⟩ (.int .i64 t.i)).setCell ⟨g, k * 7 + 1, none⟩ (.int .i64 t.o)).setCell ⟨g, k * 7 + 2, none⟩ (.int .i64 t.k)).setCell ⟨g, k * 7 + 3, none⟩ (.int .i64 t.x)).setCell ⟨g, k * 7 + 4, none⟩ (.int .i64 t.y)).setCell ⟨g, k * 7 + 5, none⟩ (.int .i64 t.f)).setCell ⟨g, k * 7 + 6, none⟩ (.int .i64 t.d)) := by
  subst ht
  have hkn : k < n := by omega
  refine ⟨by rw [List.length_set]; exact h.1, minet_put h.2.1 h.1 hkn _, ?_, ?_, ?_, ?_⟩
  · rw [filter_yes hm hf, ← h.2.2.1]
    have hkl : k < (Z.set k ts[m]).length := by rw [List.length_set, h.1]; exact hkn
    rw [List.take_succ_eq_append_getElem hkl, List.getElem_set_self, List.take_set_of_le (Nat.le_refl _)]
  · have := congrArg (List.drop 1) h.2.2.2.1
    rw [List.drop_drop, List.drop_drop] at this
    rw [List.drop_set_of_lt (by omega)]; exact this
  · exact ex_set (ex_set (ex_set (ex_set (ex_set (ex_set (ex_set h.2.2.2.2.1 ⟨g, _, none⟩ rfl _) ⟨g, _, none⟩ rfl _) ⟨g, _, none⟩ rfl _) ⟨g, _, none⟩ rfl _) ⟨g, _, none⟩ rfl _) ⟨g, _, none⟩ rfl _) ⟨g, _, none⟩ rfl _
  · exact alli_set (alli_set (alli_set (alli_set (alli_set (alli_set (alli_set h.2.2.2.2.2 _ _ _) _ _ _) _ _ _) _ _ _) _ _ _) _ _ _) _ _ _
set_option maxRecDepth 20000 in
set_option maxHeartbeats 4000000 in
theorem DeleteFunct_any (B n cap : Nat) (p : Option Addr) (ts : List Trp) (w : World) (h : minet B w (.slice p n cap) ts) (hn : ts.length = n) (ha : alli w (.slice p n cap)) (hm : n ≤ 100) :
    Calls Try.prog 38 #[.slice p n cap, .func (.func 37) #[] #[]] w fun e w' => (∃ m, e = .returned (.slice p m cap) ∧ (ts.filter kp).length = m ∧ minet B w' (.slice p m cap) (ts.filter kp) ∧ alli w' (.slice p m cap)) ∧ Ex (fun k => some k = (Value.slice p n cap).ownBlock) w w' := by
  have hrow : trow w p ts := by
    rcases h.2 with ⟨h0, h1⟩ | ⟨g, cap', cur, hv, hB, hblk, hr⟩
    · have : ts = [] := List.eq_nil_of_length_eq_zero h1
      subst this; exact trow_nil _ _
    · simp only [Value.slice.injEq] at hv
      obtain ⟨rfl, _, _⟩ := hv
      exact minet_row h hn
  have HIX : Hid (Calls Try.prog 57 #[.slice p n cap, .func (.func 37) #[] #[]] w fun e w' => (∃ r : Int, e = .returned (.int .i64 r) ∧ fgone ts r) ∧ Below w.heap.size w w') := IndexFunct_any p n cap ts w hrow hn hm
  have hen := Try.call37
  have HN : Hid (ts.length = n) := hn
  have HM : Hid (minet B w (.slice p n cap) ts) := h
  have HA : Hid (alli w (.slice p n cap)) := ha
  clear h hn ha hrow
  go_enter Try.func38, Try.ntmps38
  go_wp2_with fail
  refine Calls.mono HIX.out ?_
  rintro e w1 ⟨⟨r, rfl, hr⟩, hb1⟩
  have HB1 : Hid (Below w.heap.size w w1) := hb1
  clear hb1
  rcases hr with ⟨rfl, hall⟩ | ⟨i, hi, rfl, hlt, hg⟩
  · have HF : Hid (ts.filter kp = ts) := filter_all hall
    clear hall
    go_wp2_with fail
    go_ret
    refine ⟨⟨n, rfl, by rw [HF.out]; exact HN.out, by rw [HF.out]; exact minet_kept HM.out HB1.out, alli_below HA.out HB1.out⟩, Ex.of_below HB1.out⟩
  · have hin : i < n := by have := HN.out; omega
    obtain ⟨g, rfl, hg1, hg2⟩ : ∃ g, p = some ⟨g, 0, none⟩ ∧ B ≤ g ∧ n ≤ cap := by
      rcases HM.out.2 with ⟨h0, h1⟩ | ⟨g, cap', cur, hv, hB, hblk, hc, hr⟩
      · have := HN.out; omega
      · simp only [Value.slice.injEq] at hv
        obtain ⟨rfl, h2, rfl⟩ := hv
        exact ⟨g, rfl, hB, by omega⟩
    have HD0 : Hid (dinv w B g n cap ts i (i + 1) ts w1) := by
      refine ⟨HN.out, minet_kept HM.out HB1.out, ?_, rfl, Ex.of_below HB1.out, alli_below HA.out HB1.out⟩
      rw [filter_no hi hg, filter_all hlt]
    have d1 : ((i : Int) == -1) = false := by simp
    have hcm : cap ≤ 9223372036854775807 := by
      rcases HM.out.2 with ⟨h0, h1⟩ | ⟨g, cap', cur, hv, hB, hblk, hc, hmx, hr⟩
      · have := HN.out; omega
      · simp only [Value.slice.injEq] at hv
        obtain ⟨_, _, rfl⟩ := hv
        unfold maxLen at hmx; omega
    have HGB : Hid (B ≤ g) := hg1
    clear hlt hg hi hg1
    go_wp2_with fail
    go_loopw [5, 6] (fun a b wr => ∃ (k m : Nat) (Z : List Trp), a = .int .i64 (k : Int) ∧ b = .int .i64 (m : Int) ∧ k < m ∧ m ≤ n ∧ Hid (dinv w B g n cap ts k m Z wr)) (fun _ b _ => n - (intOf b).toNat)
    case atStart => exact ⟨i, i + 1, ts, rfl, by go_num, by omega, by omega, HD0.out⟩
    case round =>
      obtain ⟨k, m, Z, rfl, rfl, hkm, hmn, HD⟩ := hrel
      by_cases hlt : m < n
      · obtain ⟨h1, h2, e12⟩ := dinv_at HD.out HN.out hlt
        obtain ⟨t, ht⟩ : ∃ t, ts[m] = t := ⟨_, rfl⟩
        obtain ⟨c0, c1, c2, c3, c4, c5, c6⟩ := minet_cell HD.out.2.1 HD.out.1 h1 (e12.trans ht)
        have HNO : Hid (∀ V, Below wr.heap.size wr V → t.f ≤ 0 → dinv w B g n cap ts k (m + 1) Z V) := fun V hV hf => dinv_no (dinv_below HD.out hV) HN.out h2 (by rw [ht]; exact hf)
        have HYES : Hid (∀ V, Below wr.heap.size wr V → 0 < t.f → dinv w B g n cap ts (k + 1) (m + 1) (Z.set k t) (((((((V.setCell ⟨g, k * 7, none⟩ (.int .i64 t.i)).setCell ⟨g, k * 7 + 1, none⟩ (.int .i64 t.o)).setCell ⟨g, k * 7 + 2, none⟩ (.int .i64 t.k)).setCell ⟨g, k * 7 + 3, none⟩ (.int .i64 t.x)).setCell ⟨g, k * 7 + 4, none⟩ (.int .i64 t.y)).setCell ⟨g, k * 7 + 5, none⟩ (.int .i64 t.f)).setCell ⟨g, k * 7 + 6, none⟩ (.int .i64 t.d))) := fun V hV hf => dinv_yes (dinv_below HD.out hV) HN.out h2 hkm (by rw [ht]; exact hf) ht
        have hkl : k < Z.length := by rw [HD.out.1]; omega
        have HOC : Hid (∀ V, Below wr.heap.size wr V → ∃ x0 x1 x2 x3 x4 x5 x6 : Int, V.cell? ⟨g, k * 7, none⟩ = some (.int .i64 x0) ∧ V.cell? ⟨g, k * 7 + 1, none⟩ = some (.int .i64 x1) ∧ V.cell? ⟨g, k * 7 + 2, none⟩ = some (.int .i64 x2) ∧ V.cell? ⟨g, k * 7 + 3, none⟩ = some (.int .i64 x3) ∧ V.cell? ⟨g, k * 7 + 4, none⟩ = some (.int .i64 x4) ∧ V.cell? ⟨g, k * 7 + 5, none⟩ = some (.int .i64 x5) ∧ V.cell? ⟨g, k * 7 + 6, none⟩ = some (.int .i64 x6)) := fun V hV => ⟨_, _, _, _, _, _, _, minet_cell (minet_kept HD.out.2.1 hV) HD.out.1 hkl rfl⟩
        have HFR : Hid (∀ V, Below wr.heap.size wr V → ∀ j, V.frozen? ⟨g, j, none⟩ = false) := fun V hV j => minet_free (minet_kept HD.out.2.1 hV) HD.out.1 j
        have HG := fun V => isGone_any t V
        obtain ⟨ti, to_, tk, tx, ty, tf, td⟩ := t
        unfold tv at HG
        simp only at c0 c1 c2 c3 c4 c5 c6 HG HNO HYES
        have HG2 : Hid (∀ V, Calls Try.prog 37 #[.agg #[.int .i64 ti, .int .i64 to_, .int .i64 tk, .int .i64 tx, .int .i64 ty, .int .i64 tf, .int .i64 td]] V fun e w' => e = .returned (.bool (decide (tf ≤ 0))) ∧ Below V.heap.size V w') := HG
        clear HG ht e12 h1 h2 hkl
        obtain ⟨w4, hw4⟩ : ∃ w4, wr.alloc (.cells #[.int .i64 ti, .int .i64 to_, .int .i64 tk, .int .i64 tx, .int .i64 ty, .int .i64 tf, .int .i64 td] 42) = w4 := ⟨_, rfl⟩
        obtain ⟨G, hG⟩ : ∃ G, wr.heap.size = G := ⟨_, rfl⟩
        have hb4 : Below wr.heap.size wr w4 := by rw [← hw4]; exact alloc_below _ _
        have HBT : Hid (∀ V, Below w4.heap.size w4 V → _) := fun V hV => boxt hG hw4 hV
        obtain ⟨g0, g1, g2, g3, g4, g5, g6⟩ := HBT.out w4 (Below.refl _ _)
        have HB4 : Hid (Below wr.heap.size wr w4) := hb4
        have l1 : (m : Int) < n := by omega
        have l2 : (0 : Int) ≤ m := by omega
        have l3 : (k : Int) < n := by omega
        have l4 : (0 : Int) ≤ k := by omega
        clear hb4
        go_wp2_with fail
        refine (HG2.out w4).mono ?_
        rintro e w5 ⟨rfl, hb5⟩
        have hB5 : Below wr.heap.size wr w5 := below_call HB4.out HB4.out.size hb5
        have HB5 : Hid (Below wr.heap.size wr w5) := hB5
        have HB45 : Hid (Below w4.heap.size w4 w5) := hb5
        clear hb5 hB5 g0 g1 g2 g3 g4 g5 g6 c0 c1 c2 c3 c4 c5 c6 hw4 hG
        by_cases hf : tf ≤ 0
        · have HNX : Hid (dinv w B g n cap ts k (m + 1) Z w5) := HNO.out w5 HB5.out hf
          rw [decide_eq_true hf]
          clear hf
          go_wp2_with fail
          go_roundw
          case rel => exact ⟨k, m + 1, Z, rfl, by go_num, by omega, by omega, HNX.out⟩
          case measure => simp [intOf]; omega
        · have HNX := HYES.out w5 HB5.out (by omega)
          have HNX2 : Hid (_) := HNX
          rw [decide_eq_false hf]
          obtain ⟨g0, g1, g2, g3, g4, g5, g6⟩ := HBT.out w5 HB45.out
          obtain ⟨x0, x1, x2, x3, x4, x5, x6, c0, c1, c2, c3, c4, c5, c6⟩ := HOC.out w5 HB5.out
          have f0 := HFR.out w5 HB5.out (k * 7)
          have f1 := HFR.out w5 HB5.out (k * 7 + 1)
          have f2 := HFR.out w5 HB5.out (k * 7 + 2)
          have f3 := HFR.out w5 HB5.out (k * 7 + 3)
          have f4 := HFR.out w5 HB5.out (k * 7 + 4)
          have f5 := HFR.out w5 HB5.out (k * 7 + 5)
          have f6 := HFR.out w5 HB5.out (k * 7 + 6)
          clear hf HNX
          go_wp2_with fail
          go_roundw
          case rel => exact ⟨k + 1, m + 1, _, by go_num, by go_num, by omega, by omega, HNX2.out⟩
          case measure => simp [intOf]; omega
      · have hmn2 : m = n := by omega
        subst hmn2
        have hkf : Z.take k = ts.filter kp := by
          have := HD.out.2.2.1
          rw [List.take_of_length_le (l := ts) (by rw [HN.out]; exact Nat.le_refl _)] at this; exact this
        have hlen : (ts.filter kp).length = k := by rw [← hkf, List.length_take, HD.out.1]; omega
        have hcl := fun ty => clear_many wr ty g (k * 7) (cap - k) (m - k) (by omega) (fun j hj => by
          have hl : k * 7 + j < (flat7 Z).length := by rw [flat7_len, HD.out.1]; omega
          obtain ⟨a, ha, hc⟩ := minet_row HD.out.2.1 HD.out.1 (k * 7 + j) _ (List.getElem?_eq_getElem hl)
          cases ha
          rw [add_zero_at] at hc
          rw [hc]; rfl) (fun j _ => minet_free HD.out.2.1 HD.out.1 _)
        have hown : wr.ownsRow B 42 7 (.slice (some ⟨g, 0, none⟩) m cap) m (flat7 Z) := by
          have := HD.out.2.1
          unfold minet at this
          rwa [HD.out.1] at this
        obtain ⟨ys, o1, o2⟩ := own_sets (List.replicate ((m - k) * 7) (.int .i64 0)) (k * 7) wr _ hown
        have o3 := own_cut o1 (m := k) (by omega)
        rw [o2, flat7_take7 Z k (by rw [HD.out.1]; omega), hkf] at o3
        have HA2 := alli_sets (v := .slice (some ⟨g, 0, none⟩) m cap) (g := g) (List.replicate ((m - k) * 7) (.int .i64 0)) (k * 7) wr (fun u hu => ⟨0, List.eq_of_mem_replicate hu⟩) HD.out.2.2.2.2.2
        have HE2 := ex_sets (g := g) (List.replicate ((m - k) * 7) (.int .i64 0)) (k * 7) wr HD.out.2.2.2.2.1
        obtain ⟨W2, hW2⟩ : ∃ W2, wr.setCells g (k * 7) (List.replicate ((m - k) * 7) (.int .i64 0)) = W2 := ⟨_, rfl⟩
        rw [hW2] at hcl o3 HA2 HE2
        have HO3 : Hid (minet B W2 (.slice (some ⟨g, 0, none⟩) k cap) (ts.filter kp)) := by
          unfold Hid minet
          rw [hlen]; exact o3
        have HA3 : Hid (alli W2 (.slice (some ⟨g, 0, none⟩) k cap)) := fun g' hg' => HA2 g' hg'
        have HE3 : Hid (Ex (fun g' => g' = g) w W2) := HE2
        have HLEN : Hid ((ts.filter kp).length = k) := hlen
        have b1 : k ≤ cap := by omega
        have b2 : k ≤ m := by omega
        have b3 : ¬ cap = k := by omega
        have b4 : (k : Int) ≤ m := by omega
        have b5 : (0 : Int) ≤ k := by omega
        clear hkf hlen hown o1 o2 o3 HA2 HE2 hW2
        go_wp2_with fail
        go_ret
        exact ⟨⟨k, rfl, HLEN.out, HO3.out, HA3.out⟩, HE3.out.mono (fun g' _ e => by rw [e]; rfl)⟩
end Go.Proofs.Ytjbfnibhmojlfaa
