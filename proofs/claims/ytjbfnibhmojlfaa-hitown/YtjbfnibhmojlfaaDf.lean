/- What DeleteFunc returns of a row of troops of one's own: those that are left, in the same room. -/
import Derived.Test.YtjbfnibhmojlfaaCp
import Derived.Deep.RegionLaw
namespace Go.Proofs.Ytjbfnibhmojlfaa
open Go.RowKit
set_option linter.unusedVariables false

/-- The first one that is gone. -/
def fgone (ts : List Trp) (r : Int) : Prop := (r = -1 ∧ ∀ t ∈ ts, 0 < t.f) ∨ ∃ i, ∃ hi : i < ts.length, r = (i : Int) ∧ (∀ t ∈ ts.take i, 0 < t.f) ∧ ts[i].f ≤ 0
set_option maxRecDepth 20000 in
set_option maxHeartbeats 1000000 in
theorem IndexFunct_any (p : Option Addr) (n c : Nat) (ts : List Trp) (w : World) (h : trow w p ts) (hn : ts.length = n) (hm : n ≤ 100) :
    Calls Try.prog 57 #[.slice p n c, .func (.func 37) #[] #[]] w fun e w' => (∃ r : Int, e = .returned (.int .i64 r) ∧ fgone ts r) ∧ Below w.heap.size w w' := by
  have H1 : Hid (trow w p ts) := h
  have HN : Hid (ts.length = n) := hn
  have hen := Try.call37
  clear h hn
  go_enter Try.func57, Try.ntmps57
  go_wp2_with fail
  go_loopw [8] (fun i wr => ∃ k : Nat, i = .int .i64 k ∧ k ≤ n ∧ Hid (Below w.heap.size w wr ∧ ∀ t ∈ ts.take k, 0 < t.f)) (fun i _ => n - (intOf i).toNat)
  case atStart => exact ⟨0, rfl, by omega, Below.refl _ _, by simp⟩
  case round =>
    obtain ⟨k, rfl, hk, HK⟩ := hrel
    by_cases hlt : k < n
    · have hkl : k < ts.length := by rw [HN.out]; exact hlt
      obtain ⟨a, rfl, hc⟩ := trow_at (trow_below H1.out HK.out.1) hkl
      have HG := fun V => isGone_any ts[k] V
      have HT : Hid (∀ t ∈ ts.take (k + 1), t ∈ ts.take k ∨ t = ts[k]) := fun t ht => by
        rw [List.take_succ_eq_append_getElem hkl, List.mem_append, List.mem_singleton] at ht
        exact ht
      have HF : Hid (ts[k].f ≤ 0 → fgone ts k) := fun hf => .inr ⟨k, hkl, rfl, HK.out.2, hf⟩
      obtain ⟨t, ht⟩ : ∃ t, ts[k] = t := ⟨_, rfl⟩
      rw [ht] at hc HG HT HF
      obtain ⟨ti, to_, tk, tx, ty, tf, td⟩ := t
      unfold tv at HG
      obtain ⟨c0, c1, c2, c3, c4, c5, c6⟩ := hc
      simp only at c0 c1 c2 c3 c4 c5 c6 HG HF
      have HG2 : Hid (∀ V, Calls Try.prog 37 #[.agg #[.int .i64 ti, .int .i64 to_, .int .i64 tk, .int .i64 tx, .int .i64 ty, .int .i64 tf, .int .i64 td]] V fun e w' => e = .returned (.bool (decide (tf ≤ 0))) ∧ Below V.heap.size V w') := HG
      clear HG ht
      have l1 : (k : Int) < n := by omega
      have l2 : (0 : Int) ≤ k := by omega
      go_wp2_with fail
      refine (HG2.out wr).mono ?_
      rintro e w2 ⟨rfl, hb2⟩
      have HB2 : Hid (Below w.heap.size w w2) := below_call HK.out.1 HK.out.1.size hb2
      clear hb2 c0 c1 c2 c3 c4 c5 c6
      by_cases hf : tf ≤ 0
      · have HR : Hid (fgone ts k) := HF.out hf
        rw [decide_eq_true hf]
        go_wp2_with fail
        go_ret
        exact ⟨⟨_, rfl, HR.out⟩, HB2.out⟩
      · have HR : Hid (∀ t ∈ ts.take (k + 1), 0 < t.f) := fun t ht => by
          rcases HT.out t ht with h | h
          · exact HK.out.2 t h
          · rw [h]; show 0 < tf; omega
        rw [decide_eq_false hf]
        clear hf
        go_wp2_with fail
        go_roundw
        case rel => exact ⟨k + 1, by go_num, by omega, HB2.out, HR.out⟩
        case measure => simp [intOf]; omega
    · have HE : Hid (fgone ts (-1)) := by
        refine .inl ⟨rfl, fun t ht => HK.out.2 t ?_⟩
        rw [List.take_of_length_le (by rw [HN.out]; omega)]; exact ht
      go_wp2_with fail
      go_ret
      exact ⟨⟨_, rfl, HE.out⟩, HK.out.1⟩

theorem flat7_setk (t : Trp) : ∀ (Q : List Trp) (k : Nat), k < Q.length → flat7 (Q.set k t) = (((((((flat7 Q).set (k * 7) (.int .i64 t.i)).set (k * 7 + 1) (.int .i64 t.o)).set (k * 7 + 2) (.int .i64 t.k)).set (k * 7 + 3) (.int .i64 t.x)).set (k * 7 + 4) (.int .i64 t.y)).set (k * 7 + 5) (.int .i64 t.f)).set (k * 7 + 6) (.int .i64 t.d) := by
  intro Q
  induction Q with
  | nil => intro k h; simp at h
  | cons s Q ih =>
    intro k h
    cases k with
    | zero => rfl
    | succ k =>
      have := ih k (by simpa using h)
      have e : (k + 1) * 7 = k * 7 + 7 := by omega
      rw [e, List.set_cons_succ, flat7_cons, flat7_cons, this]; rfl
theorem alli_set {w : World} {v : Value} (h : alli w v) (b o : Nat) (x : Int) : alli (w.setCell ⟨b, o, none⟩ (.int .i64 x)) v := fun g hg => by
  obtain ⟨cur, e, hb, hi⟩ := h g hg
  by_cases hgb : g = b
  · subst hgb
    refine ⟨_, e, heap_setCell_same w g o cur e _ hb, ?_⟩
    intro u hu
    rw [Array.toList_setIfInBounds] at hu
    rcases List.mem_or_eq_of_mem_set hu with h | h
    · exact hi u h
    · exact ⟨x, h⟩
  · exact ⟨cur, e, by rw [(Ex.set (S := fun k => k = b) w ⟨b, o, none⟩ rfl _).block g (alli_lt h g hg) hgb]; exact hb, hi⟩
section
variable {B g n cap : Nat} {w : World} {Q : List Trp}
/-- A troop written into a row of one's own. -/
theorem minet_put (h : minet B w (.slice (some ⟨g, 0, none⟩) n cap) Q) (hn : Q.length = n) {k : Nat} (hk : k < n) (t : Trp) :
    minet B (((((((w.setCell ⟨g, k * 7, none⟩ (.int .i64 t.i)).setCell ⟨g, k * 7 + 1, none⟩ (.int .i64 t.o)).setCell ⟨g, k * 7 + 2, none⟩ (.int .i64 t.k)).setCell ⟨g, k * 7 + 3, none⟩ (.int .i64 t.x)).setCell ⟨g, k * 7 + 4, none⟩ (.int .i64 t.y)).setCell ⟨g, k * 7 + 5, none⟩ (.int .i64 t.f)).setCell ⟨g, k * 7 + 6, none⟩ (.int .i64 t.d)) (.slice (some ⟨g, 0, none⟩) n cap) (Q.set k t) := by
  subst hn
  unfold minet at h ⊢
  rw [flat7_setk t Q k hk, List.length_set]
  exact (World.ownsRow.stored (World.ownsRow.stored (World.ownsRow.stored (World.ownsRow.stored (World.ownsRow.stored (World.ownsRow.stored (World.ownsRow.stored h _ _).1 _ _).1 _ _).1 _ _).1 _ _).1 _ _).1 _ _).1
theorem minet_cell (h : minet B w (.slice (some ⟨g, 0, none⟩) n cap) Q) (hn : Q.length = n) {k : Nat} (hk : k < Q.length) {t : Trp} (ht : Q[k] = t) :
    w.cell? ⟨g, k * 7, none⟩ = some (.int .i64 t.i) ∧ w.cell? ⟨g, k * 7 + 1, none⟩ = some (.int .i64 t.o) ∧ w.cell? ⟨g, k * 7 + 2, none⟩ = some (.int .i64 t.k) ∧ w.cell? ⟨g, k * 7 + 3, none⟩ = some (.int .i64 t.x) ∧ w.cell? ⟨g, k * 7 + 4, none⟩ = some (.int .i64 t.y) ∧ w.cell? ⟨g, k * 7 + 5, none⟩ = some (.int .i64 t.f) ∧ w.cell? ⟨g, k * 7 + 6, none⟩ = some (.int .i64 t.d) := by
  subst hn ht
  have f : ∀ i u, i < 7 → (tl7 Q[k])[i]? = some u → w.cell? ⟨g, k * 7 + i, none⟩ = some u := fun i u hi hu => by
    rw [World.ownsRow.cellAt h _ (by omega), flat7_at Q k hk i hi]; exact hu
  exact ⟨f 0 _ (by omega) rfl, f 1 _ (by omega) rfl, f 2 _ (by omega) rfl, f 3 _ (by omega) rfl, f 4 _ (by omega) rfl, f 5 _ (by omega) rfl, f 6 _ (by omega) rfl⟩
theorem minet_free (h : minet B w (.slice (some ⟨g, 0, none⟩) n cap) Q) (hn : Q.length = n) (k : Nat) : w.frozen? ⟨g, k, none⟩ = false := by
  subst hn; exact World.ownsRow.frozenAt h k
theorem minet_row (h : minet B w (.slice (some ⟨g, 0, none⟩) n cap) Q) (hn : Q.length = n) : trow w (some ⟨g, 0, none⟩) Q := by
  subst hn
  intro j u hj
  have hjl : j < Q.length * 7 := by have := (List.getElem?_eq_some_iff.1 hj).1; rwa [flat7_len] at this
  exact ⟨_, rfl, by rw [add_zero_at, World.ownsRow.cellAt h _ hjl]; exact hj⟩
/-- A row of one's own cut short. -/
theorem own_cut {e : TypeId} {size m : Nat} {xs : List Value} (h : w.ownsRow B e size (.slice (some ⟨g, 0, none⟩) n cap) n xs) (hm : m ≤ n) : w.ownsRow B e size (.slice (some ⟨g, 0, none⟩) m cap) m (xs.take (m * size)) := by
  have hl : m * size ≤ n * size := Nat.mul_le_mul_right _ hm
  refine ⟨by rw [List.length_take, h.1]; omega, ?_⟩
  rcases h.2 with ⟨hbad, _⟩ | ⟨g', cap', cur, hv, hB, hblk, hc, hmx, hs, htk⟩
  · cases hbad
  · simp only [Value.slice.injEq, Option.some.injEq, Addr.mk.injEq, and_true, true_and] at hv
    obtain ⟨rfl, rfl⟩ := hv
    exact .inr ⟨g, cap, cur, rfl, hB, hblk, Nat.le_trans hm hc, hmx, hs, by rw [← htk, List.take_take, Nat.min_eq_left hl]⟩
end
/-- Numbers written in a row leave what lies ahead of them. -/
theorem own_sets {B g n cap : Nat} {e : TypeId} {size : Nat} : ∀ (vs : List Value) (o : Nat) (w : World) (xs : List Value), w.ownsRow B e size (.slice (some ⟨g, 0, none⟩) n cap) n xs → ∃ ys, (w.setCells g o vs).ownsRow B e size (.slice (some ⟨g, 0, none⟩) n cap) n ys ∧ ys.take o = xs.take o
  | [], o, w, xs, h => ⟨xs, h, rfl⟩
  | v :: r, o, w, xs, h => by
    obtain ⟨ys, h1, h2⟩ := own_sets r (o + 1) _ _ (World.ownsRow.stored h o v).1
    refine ⟨ys, h1, ?_⟩
    have := congrArg (List.take o) h2
    rw [List.take_take, List.take_take, Nat.min_eq_left (by omega)] at this
    rw [this, List.take_set]
    refine List.ext_getElem (by simp) fun j h1 h2 => ?_
    rw [List.getElem_set]
    rw [if_neg]
    simp at h1; omega
theorem alli_sets {v : Value} {g : Nat} : ∀ (vs : List Value) (o : Nat) (w : World), ints vs → alli w v → alli (w.setCells g o vs) v
  | [], _, _, _, h => h
  | u :: r, o, w, hi, h => by
    obtain ⟨x, rfl⟩ := hi u (by simp)
    exact alli_sets r (o + 1) _ (fun y hy => hi y (by simp [hy])) (alli_set h g o x)
theorem ex_sets {g : Nat} {a : World} : ∀ (vs : List Value) (o : Nat) (w : World), Ex (fun k => k = g) a w → Ex (fun k => k = g) a (w.setCells g o vs)
  | [], _, _, h => h
  | v :: r, o, w, h => ex_sets r (o + 1) _ (ex_set h ⟨g, o, none⟩ rfl v)
theorem clear_many (w : World) (ty : TypeId) (b o c n : Nat) (hn : 0 < n) (hc : ∀ j, j < n * 7 → (w.cell? ⟨b, o + j, none⟩).isSome = true) (hf : ∀ j, j < n * 7 → w.frozen? ⟨b, o + j, none⟩ = false) :
    (Builtin.clear_ #[26] ty #[.slice (some ⟨b, o, none⟩) n c]).run Try.prog w = .ok (.tuple #[]) (w.setCells b o (List.replicate (n * 7) (.int .i64 0))) := by
  have hv : ∀ w, (zeroValue 42).run Try.prog w = .ok (.agg #[.int .i64 0, .int .i64 0, .int .i64 0, .int .i64 0, .int .i64 0, .int .i64 0, .int .i64 0]) w := fun w => by kernel_rfl
  have hzc : (Builtin.zeroCells (Value.agg #[.int .i64 0, .int .i64 0, .int .i64 0, .int .i64 0, .int .i64 0, .int .i64 0, .int .i64 0]).cells n).toList = List.replicate (n * 7) (.int .i64 0) := by
    rw [List.eq_replicate_iff]
    refine ⟨by simp [Builtin.zeroCells, Value.cells], fun u hu => ?_⟩
    unfold Builtin.zeroCells at hu
    rw [Array.toList_map] at hu
    obtain ⟨i, _, rfl⟩ := List.mem_map.1 hu
    have hm : i % 7 < 7 := Nat.mod_lt _ (by omega)
    have h7 : (Value.agg #[.int .i64 0, .int .i64 0, .int .i64 0, .int .i64 0, .int .i64 0, .int .i64 0, .int .i64 0]).cells.size = 7 := rfl
    rw [h7]
    generalize i % 7 = q at hm
    match q, hm with
    | 0, _ => rfl
    | 1, _ => rfl
    | 2, _ => rfl
    | 3, _ => rfl
    | 4, _ => rfl
    | 5, _ => rfl
    | 6, _ => rfl
  obtain ⟨m, rfl⟩ : ∃ m, n = m + 1 := ⟨n - 1, by omega⟩
  have hst := run_storeCells_cells (P := Try.prog) b o (List.replicate ((m + 1) * 7) (.int .i64 0)) 0 w (by simpa using hc) (by simpa using hf) (by intro v hv'; rw [List.eq_of_mem_replicate hv']; rfl)
  simp only [Nat.add_zero] at hst
  obtain ⟨L, hL⟩ : ∃ L, List.replicate ((m + 1) * 7) (Value.int .i64 0) = L := ⟨_, rfl⟩
  rw [hL] at hzc hst ⊢
  simp only [Builtin.clear_]
  simp [run_underlying Try.underlying26, hv, hzc, hst]
end Go.Proofs.Ytjbfnibhmojlfaa
