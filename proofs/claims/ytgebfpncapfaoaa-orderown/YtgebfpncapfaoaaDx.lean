/- Rows of orders of one's own: written, cut short, cleared; what OrderOwn's first closure and IndexFunc return. -/
import Derived.Test.YtgebfpncapfaoaaOe
import Derived.Test.YtgebfpncapfaoaaTo
import Derived.Deep.RegionLaw
namespace Go.Proofs.Ytgebfpncapfaoaa
open Go.RowKit
set_option linter.unusedVariables false

theorem cell_there {w : World} {a : Addr} {v : Value} (h : w.cell? a = some v) : a.block < w.heap.size := by
  rcases Nat.lt_or_ge a.block w.heap.size with hlt | hge
  · exact hlt
  · unfold World.cell? at h
    rw [Array.getElem?_eq_none hge] at h
    split at h <;> simp_all
theorem cell_kept {w w' : World} {a : Addr} {v : Value} (h : w.cell? a = some v) (hb : Below w.heap.size w w') : w'.cell? a = some v := (hb.cell (cell_there h)).trans h
set_option maxRecDepth 20000 in
set_option maxHeartbeats 1000000 in
/-- Whether an order is another one's. -/
theorem other_any (o : Ord) (y : Int) (Bb : Nat) (w : World) (hc : w.cell? ⟨Bb, 0, none⟩ = some (.int .i64 y)) :
    Calls Try.prog 28 #[ov o, .pointer (some ⟨Bb, 0, none⟩)] w fun e w' => e = .returned (.bool (!decide (o.b = y))) ∧ Below w.heap.size w w' := by
  obtain ⟨ob, ok, ow, ox, oy, oa⟩ := o
  unfold ov
  dsimp only
  obtain ⟨F, hF⟩ : ∃ F, w.heap.size = F := ⟨_, rfl⟩
  obtain ⟨w0, hw0⟩ : ∃ w0, w.alloc (.cells #[.int .i64 ob, .int .i64 ok, .int .i64 ow, .int .i64 ox, .int .i64 oy, .int .i64 oa] 25) = w0 := ⟨_, rfl⟩
  have hb0 : Below w.heap.size w w0 := by rw [← hw0]; exact alloc_below _ _
  have HB0 : Hid (Below w.heap.size w w0) := hb0
  have hz : w0.cell? ⟨F, 0, none⟩ = some (.int .i64 ob) := by
    have h1 : Below (w.alloc (.cells #[.int .i64 ob, .int .i64 ok, .int .i64 ow, .int .i64 ox, .int .i64 oy, .int .i64 oa] 25)).heap.size (w.alloc (.cells #[.int .i64 ob, .int .i64 ok, .int .i64 ow, .int .i64 ox, .int .i64 oy, .int .i64 oa] 25)) w0 := by rw [hw0]; exact Below.refl _ _
    rw [← hF]
    exact (box6 h1).1
  have hc0 := cell_kept hc hb0
  clear hb0 hc
  go_enter Try.func28, Try.ntmps28
  go_wp2_with fail
  go_ret
  exact ⟨rfl, HB0.out⟩

/-- The first one that is another one's. -/
def fdel (y : Int) (ts : List Ord) (r : Int) : Prop := (r = -1 ∧ ∀ t ∈ ts, t.b = y) ∨ ∃ i, ∃ hi : i < ts.length, r = (i : Int) ∧ (∀ t ∈ ts.take i, t.b = y) ∧ ts[i].b ≠ y
set_option maxRecDepth 20000 in
set_option maxHeartbeats 1000000 in
theorem IndexFunco_any (p : Option Addr) (n c : Nat) (ts : List Ord) (y : Int) (Bb : Nat) (w : World) (h : rowf to6 w p ts) (hn : ts.length = n) (hm : n ≤ 4000000000000) (hc : w.cell? ⟨Bb, 0, none⟩ = some (.int .i64 y)) :
    Calls Try.prog 54 #[.slice p n c, .func (.func 28) #[] #[.pointer (some ⟨Bb, 0, none⟩)]] w fun e w' => (∃ r : Int, e = .returned (.int .i64 r) ∧ fdel y ts r) ∧ Below w.heap.size w w' := by
  have H1 : Hid (rowf to6 w p ts) := h
  have HN : Hid (ts.length = n) := hn
  have HG : Hid (∀ o V, Below w.heap.size w V → Calls Try.prog 28 #[ov o, .pointer (some ⟨Bb, 0, none⟩)] V fun e w' => e = .returned (.bool (!decide (o.b = y))) ∧ Below V.heap.size V w') := fun o V hV => other_any o y Bb V (cell_kept hc hV)
  clear h hn hc
  go_enter Try.func54, Try.ntmps54
  go_wp2_with fail
  go_loopw [8] (fun i wr => ∃ k : Nat, i = .int .i64 k ∧ k ≤ n ∧ Hid (Below w.heap.size w wr ∧ ∀ t ∈ ts.take k, t.b = y)) (fun i _ => n - (intOf i).toNat)
  case atStart => exact ⟨0, rfl, by omega, Below.refl _ _, by simp⟩
  case round =>
    obtain ⟨k, rfl, hk, HK⟩ := hrel
    by_cases hlt : k < n
    · have hkl : k < ts.length := by rw [HN.out]; exact hlt
      obtain ⟨a, rfl, hc⟩ := oat (rowf_below H1.out HK.out.1) hkl
      have HG := HG.out ts[k]
      have HT : Hid (∀ t ∈ ts.take (k + 1), t ∈ ts.take k ∨ t = ts[k]) := fun t ht => by
        rw [List.take_succ_eq_append_getElem hkl, List.mem_append, List.mem_singleton] at ht
        exact ht
      have HF : Hid (ts[k].b ≠ y → fdel y ts k) := fun hf => .inr ⟨k, hkl, rfl, HK.out.2, hf⟩
      obtain ⟨t, ht⟩ : ∃ t, ts[k] = t := ⟨_, rfl⟩
      rw [ht] at hc HG HT HF
      obtain ⟨ob, ok, ow, ox, oy, oa⟩ := t
      unfold ov at HG
      obtain ⟨c0, c1, c2, c3, c4, c5⟩ := hc
      simp only at c0 c1 c2 c3 c4 c5 HG HF
      have HG2 : Hid (∀ V, Below w.heap.size w V → Calls Try.prog 28 #[.agg #[.int .i64 ob, .int .i64 ok, .int .i64 ow, .int .i64 ox, .int .i64 oy, .int .i64 oa], .pointer (some ⟨Bb, 0, none⟩)] V fun e w' => e = .returned (.bool (!decide (ob = y))) ∧ Below V.heap.size V w') := HG
      clear HG ht
      have l1 : (k : Int) < n := by omega
      have l2 : (0 : Int) ≤ k := by omega
      go_wp2_with fail
      refine (HG2.out wr HK.out.1).mono ?_
      rintro e w2 ⟨rfl, hb2⟩
      have HB2 : Hid (Below w.heap.size w w2) := below_step HK.out.1 HK.out.1.size hb2
      clear hb2 c0 c1 c2 c3 c4 c5
      by_cases hf : ob = y
      · have HR : Hid (∀ t ∈ ts.take (k + 1), t.b = y) := fun t ht => by
          rcases HT.out t ht with h | h
          · exact HK.out.2 t h
          · rw [h]; exact hf
        have hd : (!decide (ob = y)) = false := by simp [hf]
        rw [hd]
        clear hf hd
        go_wp2_with fail
        go_roundw
        case rel => exact ⟨k + 1, by go_num, by omega, HB2.out, HR.out⟩
        case measure => simp [intOf]; omega
      · have HR : Hid (fdel y ts k) := HF.out hf
        have hd : (!decide (ob = y)) = true := by simp [hf]
        rw [hd]
        clear hf hd
        go_wp2_with fail
        go_ret
        exact ⟨⟨_, rfl, HR.out⟩, HB2.out⟩
    · have HE : Hid (fdel y ts (-1)) := by
        refine .inl ⟨rfl, fun t ht => HK.out.2 t ?_⟩
        rw [List.take_of_length_le (by rw [HN.out]; omega)]; exact ht
      go_wp2_with fail
      go_ret
      exact ⟨⟨_, rfl, HE.out⟩, HK.out.1⟩

theorem fl6_setk (t : Ord) : ∀ (Q : List Ord) (k : Nat), k < Q.length → fl to6 (Q.set k t) = ((((((fl to6 Q).set (k * 6) (.int .i64 t.b)).set (k * 6 + 1) (.int .i64 t.k)).set (k * 6 + 2) (.int .i64 t.w)).set (k * 6 + 3) (.int .i64 t.x)).set (k * 6 + 4) (.int .i64 t.y)).set (k * 6 + 5) (.int .i64 t.a) := by
  intro Q
  induction Q with
  | nil => intro k h; simp at h
  | cons s Q ih =>
    intro k h
    cases k with
    | zero => rfl
    | succ k =>
      have := ih k (by simpa using h)
      have e : (k + 1) * 6 = k * 6 + 6 := by omega
      rw [e, List.set_cons_succ, fl_cons, fl_cons, this]; rfl
section
variable {B g n cap : Nat} {w : World} {Q : List Ord}
/-- An order written into a row of one's own. -/
theorem mineo_put (h : minef 25 6 to6 B w (.slice (some ⟨g, 0, none⟩) n cap) Q) (hn : Q.length = n) {k : Nat} (hk : k < n) (t : Ord) :
    minef 25 6 to6 B ((((((w.setCell ⟨g, k * 6, none⟩ (.int .i64 t.b)).setCell ⟨g, k * 6 + 1, none⟩ (.int .i64 t.k)).setCell ⟨g, k * 6 + 2, none⟩ (.int .i64 t.w)).setCell ⟨g, k * 6 + 3, none⟩ (.int .i64 t.x)).setCell ⟨g, k * 6 + 4, none⟩ (.int .i64 t.y)).setCell ⟨g, k * 6 + 5, none⟩ (.int .i64 t.a)) (.slice (some ⟨g, 0, none⟩) n cap) (Q.set k t) := by
  subst hn
  unfold minef at h ⊢
  rw [fl6_setk t Q k hk, List.length_set]
  exact (World.ownsRow.stored (World.ownsRow.stored (World.ownsRow.stored (World.ownsRow.stored (World.ownsRow.stored (World.ownsRow.stored h _ _).1 _ _).1 _ _).1 _ _).1 _ _).1 _ _).1
theorem mineo_cell (h : minef 25 6 to6 B w (.slice (some ⟨g, 0, none⟩) n cap) Q) (hn : Q.length = n) {k : Nat} (hk : k < Q.length) {t : Ord} (ht : Q[k] = t) :
    w.cell? ⟨g, k * 6, none⟩ = some (.int .i64 t.b) ∧ w.cell? ⟨g, k * 6 + 1, none⟩ = some (.int .i64 t.k) ∧ w.cell? ⟨g, k * 6 + 2, none⟩ = some (.int .i64 t.w) ∧ w.cell? ⟨g, k * 6 + 3, none⟩ = some (.int .i64 t.x) ∧ w.cell? ⟨g, k * 6 + 4, none⟩ = some (.int .i64 t.y) ∧ w.cell? ⟨g, k * 6 + 5, none⟩ = some (.int .i64 t.a) := by
  subst hn ht
  have f : ∀ i u, i < 6 → (to6 Q[k])[i]? = some u → w.cell? ⟨g, k * 6 + i, none⟩ = some u := fun i u hi hu => by
    rw [World.ownsRow.cellAt h _ (by omega), fl_at flt6 Q k hk i hi]; exact hu
  exact ⟨f 0 _ (by omega) rfl, f 1 _ (by omega) rfl, f 2 _ (by omega) rfl, f 3 _ (by omega) rfl, f 4 _ (by omega) rfl, f 5 _ (by omega) rfl⟩
theorem mineo_free (h : minef 25 6 to6 B w (.slice (some ⟨g, 0, none⟩) n cap) Q) (hn : Q.length = n) (k : Nat) : w.frozen? ⟨g, k, none⟩ = false := by
  subst hn; exact World.ownsRow.frozenAt h k
theorem mineo_row (h : minef 25 6 to6 B w (.slice (some ⟨g, 0, none⟩) n cap) Q) (hn : Q.length = n) : rowf to6 w (some ⟨g, 0, none⟩) Q := by
  subst hn
  intro j u hj
  have hjl : j < Q.length * 6 := by have := (List.getElem?_eq_some_iff.1 hj).1; rwa [fl_len flt6] at this
  exact ⟨_, rfl, by rw [add_zero_at, World.ownsRow.cellAt h _ hjl]; exact hj⟩
/-- A row of one's own cut short. -/
theorem own_cut {e : TypeId} {size m : Nat} {xs : List Value} (h : w.ownsRow B e size (.slice (some ⟨g, 0, none⟩) n cap) n xs) (hm : m ≤ n) : w.ownsRow B e size (.slice (some ⟨g, 0, none⟩) m cap) m (xs.take (m * size)) := by
  have hl : m * size ≤ n * size := Nat.mul_le_mul_right _ hm
  refine ⟨by rw [List.length_take, h.1]; omega, ?_⟩
  rcases h.2 with ⟨hbad, _⟩ | ⟨g', cap', cur, hv, hB, hblk, hc, hmx, hs, htk⟩
  · cases hbad
  · simp only [Value.slice.injEq, Option.some.injEq, Addr.mk.injEq, and_true, true_and] at hv
    obtain ⟨rfl, rfl⟩ := hv
    exact .inr ⟨g, cap, cur, rfl, hB, hblk, Nat.le_trans hm hc, hmx, hs, by rw [← htk, List.take_take, Nat.min_eq_left hl]⟩
end
/-- Numbers written in a row leave what lies ahead of them. -/
theorem own_sets {B g n cap : Nat} {e : TypeId} {size : Nat} : ∀ (vs : List Value) (o : Nat) (w : World) (xs : List Value), w.ownsRow B e size (.slice (some ⟨g, 0, none⟩) n cap) n xs → ∃ ys, (w.setCells g o vs).ownsRow B e size (.slice (some ⟨g, 0, none⟩) n cap) n ys ∧ ys.take o = xs.take o
  | [], o, w, xs, h => ⟨xs, h, rfl⟩
  | v :: r, o, w, xs, h => by
    obtain ⟨ys, h1, h2⟩ := own_sets r (o + 1) _ _ (World.ownsRow.stored h o v).1
    refine ⟨ys, h1, ?_⟩
    have := congrArg (List.take o) h2
    rw [List.take_take, List.take_take, Nat.min_eq_left (by omega)] at this
    rw [this, List.take_set]
    refine List.ext_getElem (by simp) fun j h1 h2 => ?_
    rw [List.getElem_set]
    rw [if_neg]
    simp at h1; omega
theorem ex_sets {g : Nat} {a : World} : ∀ (vs : List Value) (o : Nat) (w : World), Ex (fun k => k = g) a w → Ex (fun k => k = g) a (w.setCells g o vs)
  | [], _, _, h => h
  | v :: r, o, w, h => ex_sets r (o + 1) _ (ex_set h ⟨g, o, none⟩ rfl v)
theorem clear_many (w : World) (ty : TypeId) (b o c n : Nat) (hn : 0 < n) (hc : ∀ j, j < n * 6 → (w.cell? ⟨b, o + j, none⟩).isSome = true) (hf : ∀ j, j < n * 6 → w.frozen? ⟨b, o + j, none⟩ = false) :
    (Builtin.clear_ #[26] ty #[.slice (some ⟨b, o, none⟩) n c]).run Try.prog w = .ok (.tuple #[]) (w.setCells b o (List.replicate (n * 6) (.int .i64 0))) := by
  have hv : ∀ w, (zeroValue 25).run Try.prog w = .ok (.agg #[.int .i64 0, .int .i64 0, .int .i64 0, .int .i64 0, .int .i64 0, .int .i64 0]) w := fun w => by kernel_rfl
  have hzc : (Builtin.zeroCells (Value.agg #[.int .i64 0, .int .i64 0, .int .i64 0, .int .i64 0, .int .i64 0, .int .i64 0]).cells n).toList = List.replicate (n * 6) (.int .i64 0) := by
    rw [List.eq_replicate_iff]
    refine ⟨by simp [Builtin.zeroCells, Value.cells], fun u hu => ?_⟩
    unfold Builtin.zeroCells at hu
    rw [Array.toList_map] at hu
    obtain ⟨i, _, rfl⟩ := List.mem_map.1 hu
    have hm : i % 6 < 6 := Nat.mod_lt _ (by omega)
    have h7 : (Value.agg #[.int .i64 0, .int .i64 0, .int .i64 0, .int .i64 0, .int .i64 0, .int .i64 0]).cells.size = 6 := rfl
    rw [h7]
    generalize i % 6 = q at hm
    match q, hm with
    | 0, _ => rfl
    | 1, _ => rfl
    | 2, _ => rfl
    | 3, _ => rfl
    | 4, _ => rfl
    | 5, _ => rfl
  obtain ⟨m, rfl⟩ : ∃ m, n = m + 1 := ⟨n - 1, by omega⟩
  have hst := run_storeCells_cells (P := Try.prog) b o (List.replicate ((m + 1) * 6) (.int .i64 0)) 0 w (by simpa using hc) (by simpa using hf) (by intro v hv'; rw [List.eq_of_mem_replicate hv']; rfl)
  simp only [Nat.add_zero] at hst
  obtain ⟨L, hL⟩ : ∃ L, List.replicate ((m + 1) * 6) (Value.int .i64 0) = L := ⟨_, rfl⟩
  rw [hL] at hzc hst ⊢
  simp only [Builtin.clear_]
  simp [run_underlying Try.underlying26, hv, hzc, hst]
end Go.Proofs.Ytgebfpncapfaoaa
