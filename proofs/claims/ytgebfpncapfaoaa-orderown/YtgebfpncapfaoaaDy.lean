/- What DeleteFunc returns of a row of orders of one's own: those of one player, in the same room. -/
import Derived.Test.YtgebfpncapfaoaaDx
namespace Go.Proofs.Ytgebfpncapfaoaa
open Go.RowKit
set_option linter.unusedVariables false

/-- Whose order it is. -/
def kpo (y : Int) (t : Ord) : Bool := decide (t.b = y)
theorem kept_all {y : Int} {ts : List Ord} (h : ∀ t ∈ ts, t.b = y) : ts.filter (kpo y) = ts := List.filter_eq_self.2 fun t ht => by unfold kpo; simpa using h t ht
theorem kept_yes {y : Int} {ts : List Ord} {m : Nat} (hm : m < ts.length) (h : ts[m].b = y) : (ts.take (m + 1)).filter (kpo y) = (ts.take m).filter (kpo y) ++ [ts[m]] := by
  rw [List.take_succ_eq_append_getElem hm, List.filter_append]
  simp [List.filter, kpo, h]
theorem kept_no {y : Int} {ts : List Ord} {m : Nat} (hm : m < ts.length) (h : ts[m].b ≠ y) : (ts.take (m + 1)).filter (kpo y) = (ts.take m).filter (kpo y) := by
  rw [List.take_succ_eq_append_getElem hm, List.filter_append]
  simp [List.filter, kpo, h]
theorem fl6_take (Q : List Ord) (k : Nat) (hk : k ≤ Q.length) : (fl to6 Q).take (k * 6) = fl to6 (Q.take k) := by
  have e : fl to6 Q = fl to6 (Q.take k) ++ fl to6 (Q.drop k) := by rw [← fl_app, List.take_append_drop]
  have l : (fl to6 (Q.take k)).length = k * 6 := by rw [fl_len flt6, List.length_take]; omega
  rw [e, ← l, List.take_left]
/-- The loop's state: k are kept of the first m. -/
def oinv (w : World) (B g n cap : Nat) (y : Int) (ts : List Ord) (k m : Nat) (Z : List Ord) (wr : World) : Prop :=
  Z.length = n ∧ minef 25 6 to6 B wr (.slice (some ⟨g, 0, none⟩) n cap) Z ∧ Z.take k = (ts.take m).filter (kpo y) ∧ Z.drop m = ts.drop m ∧ Ex (fun g' => g' = g) w wr
theorem oinv_below {w V V' : World} {B g n cap k m : Nat} {y : Int} {ts Z : List Ord} (h : oinv w B g n cap y ts k m Z V) (hb : Below V.heap.size V V') : oinv w B g n cap y ts k m Z V' :=
  ⟨h.1, minef_below h.2.1 hb, h.2.2.1, h.2.2.2.1, h.2.2.2.2.trans (Ex.of_below (S := fun _ => False) hb) (fun _ _ e => e.elim)⟩
theorem oinv_at {w V : World} {B g n cap k m : Nat} {y : Int} {ts Z : List Ord} (h : oinv w B g n cap y ts k m Z V) (hn : ts.length = n) (hm : m < n) : ∃ h1 : m < Z.length, ∃ h2 : m < ts.length, Z[m] = ts[m] := by
  have h1 : m < Z.length := by rw [h.1]; exact hm
  have h2 : m < ts.length := by omega
  refine ⟨h1, h2, ?_⟩
  have e := h.2.2.2.1
  rw [List.drop_eq_getElem_cons h1, List.drop_eq_getElem_cons h2] at e
  exact (List.cons.inj e).1
theorem oinv_no {w V : World} {B g n cap k m : Nat} {y : Int} {ts Z : List Ord} (h : oinv w B g n cap y ts k m Z V) (hn : ts.length = n) (hm : m < ts.length) (hf : ts[m].b ≠ y) : oinv w B g n cap y ts k (m + 1) Z V := by
  refine ⟨h.1, h.2.1, by rw [kept_no hm hf]; exact h.2.2.1, ?_, h.2.2.2.2⟩
  have := congrArg (List.drop 1) h.2.2.2.1
  rw [List.drop_drop, List.drop_drop] at this
  exact this
theorem oinv_yes {w V : World} {B g n cap k m : Nat} {y : Int} {ts Z : List Ord} (h : oinv w B g n cap y ts k m Z V) (hn : ts.length = n) (hm : m < ts.length) (hk : k < m) (hf : ts[m].b = y) {t : Ord} (ht : ts[m] = t) :
    oinv w B g n cap y ts (k + 1) (m + 1) (Z.set k t) ((((((V.setCell ⟨g, k * 6, none⟩ (.int .i64 t.b)).setCell ⟨g, k * 6 + 1, none⟩ (.int .i64 t.k)).setCell ⟨g, k * 6 + 2, none⟩ (.int .i64 t.w)).setCell ⟨g, k * 6 + 3, none⟩ (.int .i64 t.x)).setCell ⟨g, k * 6 + 4, none⟩ (.int .i64 t.y)).setCell ⟨g, k * 6 + 5, none⟩ (.int .i64 t.a)) := by
  subst ht
  have hkn : k < n := by omega
  refine ⟨by rw [List.length_set]; exact h.1, mineo_put h.2.1 h.1 hkn _, ?_, ?_, ?_⟩
  · rw [kept_yes hm hf, ← h.2.2.1]
    have hkl : k < (Z.set k ts[m]).length := by rw [List.length_set, h.1]; exact hkn
    rw [List.take_succ_eq_append_getElem hkl, List.getElem_set_self, List.take_set_of_le (Nat.le_refl _)]
  · have := congrArg (List.drop 1) h.2.2.2.1
    rw [List.drop_drop, List.drop_drop] at this
    rw [List.drop_set_of_lt (by omega)]; exact this
  · exact ex_set (ex_set (ex_set (ex_set (ex_set (ex_set h.2.2.2.2 ⟨g, _, none⟩ rfl _) ⟨g, _, none⟩ rfl _) ⟨g, _, none⟩ rfl _) ⟨g, _, none⟩ rfl _) ⟨g, _, none⟩ rfl _) ⟨g, _, none⟩ rfl _
set_option maxRecDepth 20000 in
set_option maxHeartbeats 4000000 in
theorem DeleteFunco_any (B n cap : Nat) (p : Option Addr) (ts : List Ord) (y : Int) (Bb : Nat) (w : World) (h : minef 25 6 to6 B w (.slice p n cap) ts) (hn : ts.length = n) (hm : n ≤ 4000000000000) (hc : w.cell? ⟨Bb, 0, none⟩ = some (.int .i64 y)) (hB : Bb < B) :
    Calls Try.prog 26 #[.slice p n cap, .func (.func 28) #[] #[.pointer (some ⟨Bb, 0, none⟩)]] w fun e w' => (∃ m, e = .returned (.slice p m cap) ∧ (ts.filter (kpo y)).length = m ∧ minef 25 6 to6 B w' (.slice p m cap) (ts.filter (kpo y))) ∧ Ex (fun k => some k = (Value.slice p n cap).ownBlock) w w' := by
  have hrow : rowf to6 w p ts := by
    rcases h.2 with ⟨h0, h1⟩ | ⟨g, cap', cur, hv, hB, hblk, hr⟩
    · have : ts = [] := List.eq_nil_of_length_eq_zero h1
      subst this; exact rowf_nil _ _ _
    · simp only [Value.slice.injEq] at hv
      obtain ⟨rfl, _, _⟩ := hv
      exact mineo_row h hn
  have HIX : Hid (Calls Try.prog 54 #[.slice p n cap, .func (.func 28) #[] #[.pointer (some ⟨Bb, 0, none⟩)]] w fun e w' => (∃ r : Int, e = .returned (.int .i64 r) ∧ fdel y ts r) ∧ Below w.heap.size w w') := IndexFunco_any p n cap ts y Bb w hrow hn hm hc
  have HN : Hid (ts.length = n) := hn
  have HM : Hid (minef 25 6 to6 B w (.slice p n cap) ts) := h
  have HC : Hid (w.cell? ⟨Bb, 0, none⟩ = some (.int .i64 y)) := hc
  clear h hn hrow hc
  go_enter Try.func26, Try.ntmps26
  go_wp2_with fail
  refine Calls.mono HIX.out ?_
  rintro e w1 ⟨⟨r, rfl, hr⟩, hb1⟩
  have HB1 : Hid (Below w.heap.size w w1) := hb1
  clear hb1
  rcases hr with ⟨rfl, hall⟩ | ⟨i, hi, rfl, hlt, hg⟩
  · have HF : Hid (ts.filter (kpo y) = ts) := kept_all hall
    clear hall
    go_wp2_with fail
    go_ret
    refine ⟨⟨n, rfl, by rw [HF.out]; exact HN.out, by rw [HF.out]; exact minef_below HM.out HB1.out⟩, Ex.of_below HB1.out⟩
  · have hin : i < n := by have := HN.out; omega
    obtain ⟨g, rfl, hg1, hg2⟩ : ∃ g, p = some ⟨g, 0, none⟩ ∧ B ≤ g ∧ n ≤ cap := by
      rcases HM.out.2 with ⟨h0, h1⟩ | ⟨g, cap', cur, hv, hB, hblk, hc, hr⟩
      · have := HN.out; omega
      · simp only [Value.slice.injEq] at hv
        obtain ⟨rfl, h2, rfl⟩ := hv
        exact ⟨g, rfl, hB, by omega⟩
    have HD0 : Hid (oinv w B g n cap y ts i (i + 1) ts w1) := by
      refine ⟨HN.out, minef_below HM.out HB1.out, ?_, rfl, Ex.of_below HB1.out⟩
      rw [kept_no hi hg, kept_all hlt]
    have d1 : ((i : Int) == -1) = false := by simp
    have hcm : cap ≤ 9223372036854775807 := by
      rcases HM.out.2 with ⟨h0, h1⟩ | ⟨g, cap', cur, hv, hB, hblk, hc, hmx, hr⟩
      · have := HN.out; omega
      · simp only [Value.slice.injEq] at hv
        obtain ⟨_, _, rfl⟩ := hv
        unfold maxLen at hmx; omega
    have HG : Hid (∀ o V, Ex (fun k => k = g) w V → Calls Try.prog 28 #[ov o, .pointer (some ⟨Bb, 0, none⟩)] V fun e w' => e = .returned (.bool (!decide (o.b = y))) ∧ Below V.heap.size V w') := fun o V hV => other_any o y Bb V ((hV.cell (p := ⟨Bb, 0, none⟩) (cell_there HC.out) (fun e => by have e2 : Bb = g := e; omega)).trans HC.out)
    clear hlt hg hi hg1 hB
    go_wp2_with fail
    go_loopw [5, 6] (fun a b wr => ∃ (k m : Nat) (Z : List Ord), a = .int .i64 (k : Int) ∧ b = .int .i64 (m : Int) ∧ k < m ∧ m ≤ n ∧ Hid (oinv w B g n cap y ts k m Z wr)) (fun _ b _ => n - (intOf b).toNat)
    case atStart => exact ⟨i, i + 1, ts, rfl, by go_num, by omega, by omega, HD0.out⟩
    case round =>
      obtain ⟨k, m, Z, rfl, rfl, hkm, hmn, HD⟩ := hrel
      by_cases hlt : m < n
      · obtain ⟨h1, h2, e12⟩ := oinv_at HD.out HN.out hlt
        obtain ⟨t, ht⟩ : ∃ t, ts[m] = t := ⟨_, rfl⟩
        obtain ⟨c0, c1, c2, c3, c4, c5⟩ := mineo_cell HD.out.2.1 HD.out.1 h1 (e12.trans ht)
        have HNO : Hid (∀ V, Below wr.heap.size wr V → t.b ≠ y → oinv w B g n cap y ts k (m + 1) Z V) := fun V hV hf => oinv_no (oinv_below HD.out hV) HN.out h2 (by rw [ht]; exact hf)
        have HYES : Hid (∀ V, Below wr.heap.size wr V → t.b = y → oinv w B g n cap y ts (k + 1) (m + 1) (Z.set k t) ((((((V.setCell ⟨g, k * 6, none⟩ (.int .i64 t.b)).setCell ⟨g, k * 6 + 1, none⟩ (.int .i64 t.k)).setCell ⟨g, k * 6 + 2, none⟩ (.int .i64 t.w)).setCell ⟨g, k * 6 + 3, none⟩ (.int .i64 t.x)).setCell ⟨g, k * 6 + 4, none⟩ (.int .i64 t.y)).setCell ⟨g, k * 6 + 5, none⟩ (.int .i64 t.a))) := fun V hV hf => oinv_yes (oinv_below HD.out hV) HN.out h2 hkm (by rw [ht]; exact hf) ht
        have hkl : k < Z.length := by rw [HD.out.1]; omega
        have HOC : Hid (∀ V, Below wr.heap.size wr V → ∃ x0 x1 x2 x3 x4 x5 : Int, V.cell? ⟨g, k * 6, none⟩ = some (.int .i64 x0) ∧ V.cell? ⟨g, k * 6 + 1, none⟩ = some (.int .i64 x1) ∧ V.cell? ⟨g, k * 6 + 2, none⟩ = some (.int .i64 x2) ∧ V.cell? ⟨g, k * 6 + 3, none⟩ = some (.int .i64 x3) ∧ V.cell? ⟨g, k * 6 + 4, none⟩ = some (.int .i64 x4) ∧ V.cell? ⟨g, k * 6 + 5, none⟩ = some (.int .i64 x5)) := fun V hV => ⟨_, _, _, _, _, _, mineo_cell (minef_below HD.out.2.1 hV) HD.out.1 hkl rfl⟩
        have HFR : Hid (∀ V, Below wr.heap.size wr V → ∀ j, V.frozen? ⟨g, j, none⟩ = false) := fun V hV j => mineo_free (minef_below HD.out.2.1 hV) HD.out.1 j
        have HG := HG.out t
        obtain ⟨ob, ok, ow, ox, oy, oa⟩ := t
        unfold ov at HG
        simp only at c0 c1 c2 c3 c4 c5 HG HNO HYES
        have HG2 : Hid (∀ V, Ex (fun k => k = g) w V → Calls Try.prog 28 #[.agg #[.int .i64 ob, .int .i64 ok, .int .i64 ow, .int .i64 ox, .int .i64 oy, .int .i64 oa], .pointer (some ⟨Bb, 0, none⟩)] V fun e w' => e = .returned (.bool (!decide (ob = y))) ∧ Below V.heap.size V w') := HG
        clear HG ht e12 h1 h2 hkl
        obtain ⟨w4, hw4⟩ : ∃ w4, wr.alloc (.cells #[.int .i64 ob, .int .i64 ok, .int .i64 ow, .int .i64 ox, .int .i64 oy, .int .i64 oa] 25) = w4 := ⟨_, rfl⟩
        obtain ⟨G, hG⟩ : ∃ G, wr.heap.size = G := ⟨_, rfl⟩
        have hb4 : Below wr.heap.size wr w4 := by rw [← hw4]; exact alloc_below _ _
        have HBT : Hid (∀ V, Below w4.heap.size w4 V → V.cell? ⟨G, 0, none⟩ = some (.int .i64 ob) ∧ V.cell? ⟨G, 1, none⟩ = some (.int .i64 ok) ∧ V.cell? ⟨G, 2, none⟩ = some (.int .i64 ow) ∧ V.cell? ⟨G, 3, none⟩ = some (.int .i64 ox) ∧ V.cell? ⟨G, 4, none⟩ = some (.int .i64 oy) ∧ V.cell? ⟨G, 5, none⟩ = some (.int .i64 oa)) := fun V hV => by
          rw [← hw4] at hV
          rw [← hG]
          exact box6 hV
        obtain ⟨g0, g1, g2, g3, g4, g5⟩ := HBT.out w4 (Below.refl _ _)
        have HB4 : Hid (Below wr.heap.size wr w4) := hb4
        have HX4 : Hid (Ex (fun k => k = g) w w4) := HD.out.2.2.2.2.trans (Ex.of_below (S := fun _ => False) hb4) (fun _ _ e => e.elim)
        have l1 : (m : Int) < n := by omega
        have l2 : (0 : Int) ≤ m := by omega
        have l3 : (k : Int) < n := by omega
        have l4 : (0 : Int) ≤ k := by omega
        clear hb4
        go_wp2_with fail
        refine (HG2.out w4 HX4.out).mono ?_
        rintro e w5 ⟨rfl, hb5⟩
        have hB5 : Below wr.heap.size wr w5 := below_step HB4.out HB4.out.size hb5
        have HB5 : Hid (Below wr.heap.size wr w5) := hB5
        have HB45 : Hid (Below w4.heap.size w4 w5) := hb5
        clear hb5 hB5 g0 g1 g2 g3 g4 g5 c0 c1 c2 c3 c4 c5 hw4 hG
        by_cases hf : ob = y
        · have HNX := HYES.out w5 HB5.out hf
          have HNX2 : Hid (_) := HNX
          have hd : (!decide (ob = y)) = false := by simp [hf]
          rw [hd]
          obtain ⟨g0, g1, g2, g3, g4, g5⟩ := HBT.out w5 HB45.out
          obtain ⟨x0, x1, x2, x3, x4, x5, c0, c1, c2, c3, c4, c5⟩ := HOC.out w5 HB5.out
          have f0 := HFR.out w5 HB5.out (k * 6)
          have f1 := HFR.out w5 HB5.out (k * 6 + 1)
          have f2 := HFR.out w5 HB5.out (k * 6 + 2)
          have f3 := HFR.out w5 HB5.out (k * 6 + 3)
          have f4 := HFR.out w5 HB5.out (k * 6 + 4)
          have f5 := HFR.out w5 HB5.out (k * 6 + 5)
          clear hf hd HNX
          go_wp2_with fail
          go_roundw
          case rel => exact ⟨k + 1, m + 1, _, by go_num, by go_num, by omega, by omega, HNX2.out⟩
          case measure => simp [intOf]; omega
        · have HNX : Hid (oinv w B g n cap y ts k (m + 1) Z w5) := HNO.out w5 HB5.out hf
          have hd : (!decide (ob = y)) = true := by simp [hf]
          rw [hd]
          clear hf hd
          go_wp2_with fail
          go_roundw
          case rel => exact ⟨k, m + 1, Z, rfl, by go_num, by omega, by omega, HNX.out⟩
          case measure => simp [intOf]; omega
      · have hmn2 : m = n := by omega
        subst hmn2
        have hkf : Z.take k = ts.filter (kpo y) := by
          have := HD.out.2.2.1
          rw [List.take_of_length_le (l := ts) (by rw [HN.out]; exact Nat.le_refl _)] at this; exact this
        have hlen : (ts.filter (kpo y)).length = k := by rw [← hkf, List.length_take, HD.out.1]; omega
        have hcl := fun ty => clear_many wr ty g (k * 6) (cap - k) (m - k) (by omega) (fun j hj => by
          have hl : k * 6 + j < (fl to6 Z).length := by rw [fl_len flt6, HD.out.1]; omega
          obtain ⟨a, ha, hc⟩ := mineo_row HD.out.2.1 HD.out.1 (k * 6 + j) _ (List.getElem?_eq_getElem hl)
          cases ha
          rw [add_zero_at] at hc
          simp only [id] at hc
          rw [hc]; rfl) (fun j _ => mineo_free HD.out.2.1 HD.out.1 _)
        have hown : wr.ownsRow B 25 6 (.slice (some ⟨g, 0, none⟩) m cap) m (fl to6 Z) := by
          have := HD.out.2.1
          unfold minef at this
          rwa [HD.out.1] at this
        obtain ⟨ys, o1, o2⟩ := own_sets (List.replicate ((m - k) * 6) (.int .i64 0)) (k * 6) wr _ hown
        have o3 := own_cut o1 (m := k) (by omega)
        rw [o2, fl6_take Z k (by rw [HD.out.1]; omega), hkf] at o3
        have HE2 := ex_sets (g := g) (List.replicate ((m - k) * 6) (.int .i64 0)) (k * 6) wr HD.out.2.2.2.2
        obtain ⟨W2, hW2⟩ : ∃ W2, wr.setCells g (k * 6) (List.replicate ((m - k) * 6) (.int .i64 0)) = W2 := ⟨_, rfl⟩
        rw [hW2] at hcl o3 HE2
        have HO3 : Hid (minef 25 6 to6 B W2 (.slice (some ⟨g, 0, none⟩) k cap) (ts.filter (kpo y))) := by
          unfold Hid minef
          rw [hlen]; exact o3
        have HE3 : Hid (Ex (fun g' => g' = g) w W2) := HE2
        have HLEN : Hid ((ts.filter (kpo y)).length = k) := hlen
        have b1 : k ≤ cap := by omega
        have b2 : k ≤ m := by omega
        have b3 : ¬ cap = k := by omega
        have b4 : (k : Int) ≤ m := by omega
        have b5 : (0 : Int) ≤ k := by omega
        clear hkf hlen hown o1 o2 o3 HE2 hW2
        go_wp2_with fail
        go_ret
        exact ⟨⟨k, rfl, HLEN.out, HO3.out⟩, HE3.out.mono (fun g' _ e => by rw [e]; rfl)⟩
end Go.Proofs.Ytgebfpncapfaoaa
