/- Rows of whatever takes so many cells of whole numbers: handed in, of one's own, how they grow; orders, blows, goes and deeds; how a list of orders that is handed in is opened. -/
import Derived.Test.YtgebfpncapfaoaaOpc
import Derived.Test.YtgebfpncapfaoaaEx
import Derived.Laws.AppendOwnNone
namespace Go.Proofs.Ytgebfpncapfaoaa
open Go.ChangeShapes Go.WideShapes Go.RowKit
set_option linter.unusedVariables false
variable {α : Type}

/-- Whole numbers. -/
def ints (l : List Value) : Prop := ∀ u ∈ l, ∃ x : Int, u = .int .i64 x
/-- Each element takes n cells, whole numbers all. -/
structure Flt (n : Nat) (f : α → List Value) : Prop where
  len : ∀ x, (f x).length = n
  int : ∀ x, ints (f x)
  pos : 0 < n
def fl (f : α → List Value) (l : List α) : List Value := l.flatMap f
theorem fl_cons (f : α → List Value) (t : α) (Q : List α) : fl f (t :: Q) = f t ++ fl f Q := rfl
theorem fl_app (f : α → List Value) (Q R : List α) : fl f (Q ++ R) = fl f Q ++ fl f R := by unfold fl; rw [List.flatMap_append]
theorem fl_one (f : α → List Value) (x : α) : fl f [x] = f x := by simp [fl]
theorem fl_len {n : Nat} {f : α → List Value} (h : Flt n f) (Q : List α) : (fl f Q).length = Q.length * n := by
  induction Q with
  | nil => simp [fl]
  | cons s Q ih => rw [fl_cons, List.length_append, ih, h.len, List.length_cons, Nat.succ_mul]; omega
theorem fl_at {n : Nat} {f : α → List Value} (h : Flt n f) (Q : List α) : ∀ k, (hk : k < Q.length) → ∀ i, i < n → (fl f Q)[k * n + i]? = (f Q[k])[i]? := by
  induction Q with
  | nil => intro k hk; simp at hk
  | cons s Q ih =>
    intro k hk i hi
    rw [fl_cons]
    have hl := h.len s
    cases k with
    | zero => rw [List.getElem?_append_left (by rw [hl]; omega)]; simp
    | succ k =>
      rw [List.getElem?_append_right (by rw [hl, Nat.succ_mul]; omega), hl, show (k + 1) * n + i - n = k * n + i by rw [Nat.succ_mul]; omega]
      exact ih k (by simpa using hk) i hi
theorem fl_ints {n : Nat} {f : α → List Value} (h : Flt n f) (Q : List α) : ints (fl f Q) := by
  intro u hu
  unfold fl at hu
  obtain ⟨c, _, h2⟩ := List.mem_flatMap.1 hu
  exact h.int c u h2
theorem ints_one {l : List Value} (h : ints l) : ∀ u ∈ l, u.oneCell' = true := fun u hu => by obtain ⟨x, rfl⟩ := h u hu; rfl
/-- The elements l lie at p. -/
def rowf (f : α → List Value) (w : World) (p : Option Addr) (l : List α) : Prop := row id w p (fl f l)
theorem rowf_nil (f : α → List Value) (w : World) (p : Option Addr) : rowf f w p [] := row_nil _ _ _
theorem rowf_below {f : α → List Value} {w w' : World} {p : Option Addr} {l : List α} (h : rowf f w p l) (hb : Below w.heap.size w w') : rowf f w' p l := row_below h hb
theorem rowf_at {n : Nat} {f : α → List Value} (hf : Flt n f) {w : World} {p : Option Addr} {l : List α} (h : rowf f w p l) {k : Nat} (hk : k < l.length) :
    ∃ a, p = some a ∧ ∀ i u, (f l[k])[i]? = some u → w.cell? ((a.add (k * n)).add i) = some u := by
  have g : ∀ i u, (f l[k])[i]? = some u → ∃ a, p = some a ∧ w.cell? ((a.add (k * n)).add i) = some u := by
    intro i u hu
    have hi : i < n := by have := (List.getElem?_eq_some_iff.1 hu).1; rwa [hf.len] at this
    obtain ⟨a, ha, hc⟩ := h (k * n + i) u (by rw [fl_at hf l k hk i hi]; exact hu)
    exact ⟨a, ha, by rw [add_add]; exact hc⟩
  have h0 : 0 < (f l[k]).length := by rw [hf.len]; exact hf.pos
  obtain ⟨a, rfl, _⟩ := g 0 _ (List.getElem?_eq_getElem h0)
  refine ⟨a, rfl, fun i u hu => ?_⟩
  obtain ⟨b, hb, hc⟩ := g i u hu
  cases hb; exact hc
theorem rowf_some {n : Nat} {f : α → List Value} (hf : Flt n f) {w : World} {p : Option Addr} {l : List α} (h : rowf f w p l) (hl : 0 < l.length) : ∃ a, p = some a := by
  obtain ⟨a, ha, _⟩ := rowf_at hf h hl
  exact ⟨a, ha⟩
theorem rowf_none {n : Nat} {f : α → List Value} (hf : Flt n f) {w : World} {l : List α} (h : rowf f w none l) : l = [] := by
  rcases Nat.eq_zero_or_pos l.length with h0 | h0
  · exact List.eq_nil_of_length_eq_zero h0
  · obtain ⟨a, ha⟩ := rowf_some hf h h0
    cases ha

/-- v is a row of one's own, or nil. -/
def minef (E n : Nat) (f : α → List Value) (B : Nat) (w : World) (v : Value) (Q : List α) : Prop := w.ownsRow B E n v Q.length (fl f Q)
theorem minef_nil (E n : Nat) (f : α → List Value) (B : Nat) (w : World) : minef E n f B w (.slice none 0 0) [] := World.ownsRow_nil _ _ _ _
theorem minef_full {E n : Nat} {f : α → List Value} (hf : Flt n f) {B : Nat} {w : World} {v : Value} {Q : List α} (h : minef E n f B w v Q) : ∃ p c, v = .slice p Q.length c ∧ rowf f w p Q ∧ Q.length ≤ c ∧ (p = none → c = 0) := by
  rcases h.2 with ⟨h0, hn⟩ | ⟨g, cap, cur, hv, hB, hblk, hr⟩
  · have : Q = [] := List.eq_nil_of_length_eq_zero hn
    subst this
    exact ⟨none, 0, h0, rowf_nil _ _ _, Nat.le_refl _, fun _ => rfl⟩
  · subst hv
    refine ⟨_, _, rfl, fun j x hj => ⟨_, rfl, ?_⟩, hr.1, fun h => by cases h⟩
    have hjl : j < Q.length * n := by have := (List.getElem?_eq_some_iff.1 hj).1; rwa [fl_len hf] at this
    rw [add_zero_at, World.ownsRow.cellAt h j (by simpa using hjl), hj]; rfl
theorem minef_form {E n : Nat} {f : α → List Value} (hf : Flt n f) {B m : Nat} {w : World} {v : Value} {Q : List α} (h : minef E n f B w v Q) (hm : Q.length = m) : ∃ p c, v = .slice p m c ∧ rowf f w p Q := by
  obtain ⟨p, c, e, hr, _⟩ := minef_full hf h
  exact ⟨p, c, by rw [e, hm], hr⟩
theorem minef_below {E n : Nat} {f : α → List Value} {B : Nat} {w w' : World} {v : Value} {Q : List α} (h : minef E n f B w v Q) (hb : Below w.heap.size w w') : minef E n f B w' v Q := by
  refine ⟨h.1, ?_⟩
  rcases h.2 with h0 | ⟨g', cap, cur, hv, hB, hblk, hr⟩
  · exact .inl h0
  · refine .inr ⟨g', cap, cur, hv, hB, ?_, hr⟩
    have : g' < w.heap.size := by
      rcases Nat.lt_or_ge g' w.heap.size with hlt | hge
      · exact hlt
      · rw [Array.getElem?_eq_none hge] at hblk; cases hblk
    rw [hb.block g' this]; exact hblk
theorem minef_mono {E n : Nat} {f : α → List Value} {B B' : Nat} {w : World} {v : Value} {Q : List α} (h : minef E n f B w v Q) (hB : B' ≤ B) : minef E n f B' w v Q := ⟨h.1, by
  rcases h.2 with h0 | ⟨g', cap, cur, hv, hb, hr⟩
  · exact .inl h0
  · exact .inr ⟨g', cap, cur, hv, Nat.le_trans hB hb, hr⟩⟩
theorem minef_grown {E n : Nat} {f : α → List Value} {B : Nat} {w w1 w2 : World} {v : Value} {Q : List α} (h : minef E n f B w1 v Q) (hw : Below B w w1) (hB : B ≤ w1.heap.size) (hg : w1.grownBy w2 v.ownBlock) : Below B w w2 :=
  hw.grown hg hB (fun k hk => (World.ownsRow.lt h k hk).1)
/-- What is told of a kind of elements: its list's type, its own, its cells, its zero, its bytes. -/
structure Kf (T E n : Nat) (f : α → List Value) (z : Value) (by_ : Nat) : Prop where
  flt : Flt n f
  ht : Try.prog.underlying T = some (.slice E)
  hi : (Try.prog.info? E).map (fun i => (i.zero, i.size, i.bytes)) = some (some z, n, by_)
  hz : z.cells.size = n
  hzi : ints z.cells.toList
  hb : by_ ≤ 64
theorem list_onef {T E n : Nat} {f : α → List Value} {z : Value} {by_ : Nat} (hk : Kf T E n f z by_) {ops : Array Oper} {rest : List Oper} {o : Oper} {a : Act} {Q : Exit → Act → World → Prop} (w : World) (hgd : o.guard = none) (s x : Operand)
    (ho : o.op = .call { callee := .builtin .append, args := #[s, x], argTypes := #[T, T] })
    (B : Nat) (v : Value) (L : List α) (hs : a.eval s = v) (hown : minef E n f B w v L) (ad : Addr) (c : Nat) (X : α) (hx : a.eval x = .slice (some ad) 1 c) (hcell : ∀ j u, (f X)[j]? = some u → w.cell? (ad.add j) = some u) (hl : L.length ≤ 1000000) (hB : B ≤ w.heap.size)
    (h : ∀ g cap w', minef E n f B w' (.slice (some ⟨g, 0, none⟩) (L.length + 1) cap) (L ++ [X]) → w.grownBy w' v.ownBlock → wpList Try.prog ops Q rest (a.put o.dst (.slice (some ⟨g, 0, none⟩) (L.length + 1) cap)) w') :
    wpList Try.prog ops Q (o :: rest) a w := by
  obtain ⟨i0, hi, hz0, hz1, hz2⟩ := info_parts hk.hi
  have hby := hk.hb
  refine wpList_append_lies w hgd s x T ho B E i0 z n by_ hk.ht hi hz0 hz1 hz2 hk.hz hk.flt.pos v L.length (fl f L) hs hown ad 1 c (f X) hx (by rw [hk.flt.len]; omega) hcell (ints_one (hk.flt.int X)) (by decide) (by unfold maxLen; omega) ?_ hB _ rfl ?_
  · have : (L.length + 1) * by_ ≤ (L.length + 1) * 64 := Nat.mul_le_mul_left _ hby
    omega
  intro g cap w' h1 h2 h3 h4
  refine h g cap w' ?_ h2
  unfold minef
  rw [fl_app, fl_one, List.length_append]; exact h1
/-- Whatever list is laid behind a row of one's own. -/
theorem run_moref {T E n : Nat} {f : α → List Value} {z : Value} {by_ : Nat} (hk : Kf T E n f z by_) {B : Nat} {w : World} {v : Value} {Q R : List α} {q : Option Addr} {d m : Nat} (h : minef E n f B w v Q) (hq : rowf f w q R) (hm : R.length = m) (hl : Q.length + m ≤ 1000000) (hB : B ≤ w.heap.size) :
    ∃ v' w', (Builtin.append_ #[T, T] T #[v, .slice q m d]).run Try.prog w = .ok v' w' ∧ minef E n f B w' v' (Q ++ R) ∧ w.grownBy w' v.ownBlock := by
  obtain ⟨i0, hi, hz0, hz1, hz2⟩ := info_parts hk.hi
  cases q with
  | some a =>
    have hby : (Q.length + m) * by_ ≤ (Q.length + m) * 64 := Nat.mul_le_mul_left _ hk.hb
    obtain ⟨v', w', h1, h2, h3, _⟩ := run_append_own (P := Try.prog) w B T T E i0 _ n by_ hk.ht hi hz0 hz1 hz2 hk.hz hk.flt.pos v Q.length (fl f Q) h a m d (fl f R) (by rw [fl_len hk.flt, hm]) (fun j u hj => by obtain ⟨b, hb, hc⟩ := hq j u hj; cases hb; exact hc) (ints_one (fl_ints hk.flt R)) (by unfold maxLen; omega) (by omega) hB
    refine ⟨v', w', h1, ?_, h3⟩
    unfold minef
    rw [fl_app, List.length_append, hm]; exact h2
  | none =>
    have hR := rowf_none hk.flt hq
    subst hR
    have hm0 : m = 0 := by simpa using hm.symm
    subst hm0
    obtain ⟨p, c, rfl, _, hc, _⟩ := minef_full hk.flt h
    refine ⟨.slice p Q.length c, w, ?_, by simpa using h, ⟨rfl, rfl, rfl, Nat.le_refl _, fun _ _ _ => rfl⟩⟩
    have hu := hk.ht
    cases p with
    | none => simp [Builtin.append_, run_underlying hu, sizeOf, typeInfo, hi, Builtin.lenOf, Builtin.firstCells, hc]
    | some a => simp [Builtin.append_, run_underlying hu, sizeOf, typeInfo, hi, Builtin.lenOf, Builtin.firstCells, hc, storeCells]

/-- An order: By, Kind, Who, the cell, What. -/
structure Ord where
  b : Int
  k : Int
  w : Int
  x : Int
  y : Int
  a : Int
def Ord.nums (o : Ord) : List Int := [o.b, o.k, o.w, o.x, o.y, o.a]
theorem nums_inj {o p : Ord} (h : o.nums = p.nums) : o = p := by
  cases o; cases p
  simp [Ord.nums] at h
  simp [h]
def to6 (o : Ord) : List Value := [.int .i64 o.b, .int .i64 o.k, .int .i64 o.w, .int .i64 o.x, .int .i64 o.y, .int .i64 o.a]
/-- An order as a value. -/
def ov (o : Ord) : Value := .agg #[.int .i64 o.b, .int .i64 o.k, .int .i64 o.w, .int .i64 o.x, .int .i64 o.y, .int .i64 o.a]
def fito (o : Ord) : Prop := fits o.b ∧ fits o.k ∧ fits o.w ∧ fits o.x ∧ fits o.y ∧ fits o.a
theorem flt6 : Flt 6 to6 := ⟨fun _ => rfl, fun x u hu => by simp [to6] at hu; rcases hu with rfl | rfl | rfl | rfl | rfl | rfl <;> exact ⟨_, rfl⟩, by decide⟩
/-- A blow: By, At. -/
structure Blw where
  b : Int
  a : Int
def to2 (o : Blw) : List Value := [.int .i64 o.b, .int .i64 o.a]
theorem flt2 : Flt 2 to2 := ⟨fun _ => rfl, fun x u hu => by simp [to2] at hu; rcases hu with rfl | rfl <;> exact ⟨_, rfl⟩, by decide⟩
/-- A go: Id, the cell. -/
structure Goe where
  i : Int
  x : Int
  y : Int
def to3 (o : Goe) : List Value := [.int .i64 o.i, .int .i64 o.x, .int .i64 o.y]
theorem flt3 : Flt 3 to3 := ⟨fun _ => rfl, fun x u hu => by simp [to3] at hu; rcases hu with rfl | rfl | rfl <;> exact ⟨_, rfl⟩, by decide⟩
/-- A deed: Kind, Who, the cell, What. -/
structure Ded where
  k : Int
  w : Int
  x : Int
  y : Int
  a : Int
def to5 (o : Ded) : List Value := [.int .i64 o.k, .int .i64 o.w, .int .i64 o.x, .int .i64 o.y, .int .i64 o.a]
theorem flt5 : Flt 5 to5 := ⟨fun _ => rfl, fun x u hu => by simp [to5] at hu; rcases hu with rfl | rfl | rfl | rfl | rfl <;> exact ⟨_, rfl⟩, by decide⟩
theorem k6 : Kf 26 25 6 to6 (.agg #[.int .i64 0, .int .i64 0, .int .i64 0, .int .i64 0, .int .i64 0, .int .i64 0]) 48 := ⟨flt6, Try.underlying26, by kernel_rfl, rfl, fun u hu => by simp [Value.cells] at hu; exact ⟨0, hu⟩, by decide⟩
theorem k2 : Kf 42 51 2 to2 (.agg #[.int .i64 0, .int .i64 0]) 16 := ⟨flt2, Try.underlying42, by kernel_rfl, rfl, fun u hu => by simp [Value.cells] at hu; exact ⟨0, hu⟩, by decide⟩
theorem k3 : Kf 43 55 3 to3 (.agg #[.int .i64 0, .int .i64 0, .int .i64 0]) 24 := ⟨flt3, Try.underlying43, by kernel_rfl, rfl, fun u hu => by simp [Value.cells] at hu; exact ⟨0, hu⟩, by decide⟩
theorem k5 : Kf 44 59 5 to5 (.agg #[.int .i64 0, .int .i64 0, .int .i64 0, .int .i64 0, .int .i64 0]) 40 := ⟨flt5, Try.underlying44, by kernel_rfl, rfl, fun u hu => by simp [Value.cells] at hu; exact ⟨0, hu⟩, by decide⟩
/-- The order t lies at b. -/
def ocl (w : World) (b : Addr) (t : Ord) : Prop := w.cell? b = some (.int .i64 t.b) ∧ w.cell? ⟨b.block, b.off + 1, none⟩ = some (.int .i64 t.k) ∧ w.cell? ⟨b.block, b.off + 2, none⟩ = some (.int .i64 t.w) ∧ w.cell? ⟨b.block, b.off + 3, none⟩ = some (.int .i64 t.x) ∧ w.cell? ⟨b.block, b.off + 4, none⟩ = some (.int .i64 t.y) ∧ w.cell? ⟨b.block, b.off + 5, none⟩ = some (.int .i64 t.a)
theorem oat {w : World} {p : Option Addr} {ts : List Ord} (h : rowf to6 w p ts) {k : Nat} (hk : k < ts.length) : ∃ a, p = some a ∧ ocl w (a.add (k * 6)) ts[k] := by
  obtain ⟨a, rfl, f⟩ := rowf_at flt6 h hk
  exact ⟨a, rfl, by simpa [Addr.add] using f 0 _ rfl, f 1 _ rfl, f 2 _ rfl, f 3 _ rfl, f 4 _ rfl, f 5 _ rfl⟩

variable {H : Type} {enc : TypeId × Value → H}
set_option maxRecDepth 20000 in
theorem tr_ord {W : World} {base : Nat} {sp : Nat → Bool} {held : Bool} {fuel : Nat} {cs : List Value} {x : DataW H × List MemPlace} (h : DataW.trod enc Try.prog W base sp held fuel 25 cs = some x) : ∃ t : Ord, cs = to6 t ∧ fito t := by
  obtain ⟨xs, n, _, _, hc, hxl, hfs⟩ := DataW.trod_struct Try.underlying25 h
  have c3 : Try.prog.cellsOf 3 = 1 := by kernel_rfl
  have c2 : Try.prog.cellsOf 23 = 2 := by kernel_rfl
  have c7 : Try.prog.cellsOf 25 = 6 := by kernel_rfl
  rw [c7] at hc
  match xs, hxl, cs, hc with
  | [z0, z1, z2, z3, z4], _, [u0, u1, u2, u3, u4, u5], _ =>
    have e0 := hfs 0 _ rfl
    have e1 := hfs 1 _ rfl
    have e2 := hfs 2 _ rfl
    have e3 := hfs 3 _ rfl
    have e4 := hfs 4 _ rfl
    simp [c3, c2] at e0 e1 e2 e3 e4
    obtain ⟨a0, k0, w0⟩ := tr_int e0
    obtain ⟨a1, k1, w1⟩ := tr_int e1
    obtain ⟨a2, k2, w2⟩ := tr_int e2
    obtain ⟨a3, a4, k3, k4, w3, w4⟩ := tr_cell e3
    obtain ⟨a5, k5, w5⟩ := tr_int e4
    simp at k0 k1 k2 k5
    subst k0 k1 k2 k3 k4 k5
    exact ⟨⟨a0, a1, a2, a3, a4, a5⟩, rfl, w0, w1, w2, w3, w4, w5⟩
set_option maxRecDepth 20000 in
theorem tr_ords {W : World} {base : Nat} {sp : Nat → Bool} {held : Bool} {fuel : Nat} {cs : List Value} {x : DataW H × List MemPlace} (h : DataW.trod enc Try.prog W base sp held fuel 26 cs = some x) :
    ∃ p n c l, cs = [.slice p n c] ∧ rowf to6 W p l ∧ (∀ t ∈ l, fito t) ∧ l.length = n ∧ n ≤ 9223372036854775807 ∧ (p = none → c = 0) ∧ n ≤ c := by
  have c7 : Try.prog.cellsOf 25 = 6 := by kernel_rfl
  rcases Go.Deep.open_slice Try.underlying26 h with ⟨hcs, _⟩ | ⟨a, len, cap, m, n, D, Pl, hcs, _, hl, hm, hmm, _, hi⟩
  · exact ⟨none, 0, 0, [], hcs, rowf_nil _ _ _, (fun x hx => by cases hx), rfl, by omega, fun _ => rfl, Nat.le_refl _⟩
  · have hlm : len ≤ m := by rw [hmm]; split <;> omega
    have each : ∀ i, i < len → ∃ t : Ord, (∀ j u, j < 6 → (to6 t)[j]? = some u → W.cell? (a.add (i * 6 + j)) = some u) ∧ fito t := by
      intro i hi'
      obtain ⟨cs', h1, h2⟩ := hi i (by omega)
      rw [c7] at h1
      obtain ⟨_, hlen, hcell⟩ := World.cells?_some h1
      obtain ⟨t, rfl, hf⟩ := tr_ord h2
      refine ⟨t, fun j u hj hu => ?_, hf⟩
      have := hcell j hj
      rw [add_add, hu] at this
      exact this
    haveI : Inhabited Ord := ⟨⟨0, 0, 0, 0, 0, 0⟩⟩
    obtain ⟨q, hq⟩ := Go.Deep.choose_lt each
    have hll : ((List.range len).map q).length = len := by simp
    refine ⟨some a, len, cap, (List.range len).map q, hcs, ?_, ?_, hll, by unfold maxLen at hm; omega, (fun h => (by cases h)), hl⟩
    · intro j u hj
      have hj' : j < len * 6 := by have := (List.getElem?_eq_some_iff.1 hj).1; rwa [fl_len flt6, hll] at this
      have e : j = j / 6 * 6 + j % 6 := by omega
      rw [e, fl_at flt6 _ (j / 6) (by rw [hll]; omega) (j % 6) (by omega)] at hj
      refine ⟨a, rfl, ?_⟩
      have hg : ((List.range len).map q)[j / 6]'(by rw [hll]; omega) = q (j / 6) := by simp
      rw [hg] at hj
      rw [e]
      exact (hq (j / 6) (by omega)).1 (j % 6) u (by omega) hj
    · intro t ht
      obtain ⟨i, hi2, rfl⟩ := List.mem_map.1 ht
      exact (hq i (by simpa using hi2)).2
/-- A list of orders that is handed in: where it lies, its room, its orders. -/
structure Ost where
  p : Option Addr
  c : Nat
  l : List Ord
def Ost.val (s : Ost) : Value := .slice s.p s.l.length s.c
def Ost.fit (w : World) (s : Ost) : Prop := rowf to6 w s.p s.l ∧ (∀ t ∈ s.l, fito t) ∧ s.l.length ≤ 9223372036854775807 ∧ (s.p = none → s.c = 0) ∧ s.l.length ≤ s.c
set_option maxRecDepth 20000 in
theorem open_ost {W : World} {r : Reach} {b0 base : Nat} {sp : Nat → Bool} {held : Bool} {v : Value} {d : DataW H} {ps : List MemPlace}
    (hval : Value.okWide Try.prog W r b0 26 v) (hd : DataW.Trod enc Try.prog W base sp held 26 v d ps) : ∃ s : Ost, v = s.val ∧ s.fit W ∧ told d s.l.length := by
  obtain ⟨a0, len, cap, rfl⟩ := okWide_slice Try.underlying26 hval
  obtain ⟨fuel, hf⟩ := hd
  have ht := told_of Try.underlying26 hf
  obtain ⟨p, n, c, l, hcs, h1, h2, h3, h4, h5, h6⟩ := tr_ords hf
  simp [Value.cells] at hcs
  obtain ⟨rfl, rfl, rfl⟩ := hcs
  subst h3
  exact ⟨⟨a0, cap, l⟩, rfl, ⟨h1, h2, h4, h5, h6⟩, ht⟩
set_option maxRecDepth 20000 in
/-- An order that is handed in. -/
theorem open_ord {W : World} {r : Reach} {b0 base : Nat} {sp : Nat → Bool} {held : Bool} {v : Value} {d : DataW H} {ps : List MemPlace}
    (hval : Value.okWide Try.prog W r b0 25 v) (hd : DataW.Trod enc Try.prog W base sp held 25 v d ps) : ∃ o : Ord, v = ov o ∧ fito o := by
  obtain ⟨cs, rfl, hs⟩ := okWide_struct Try.underlying25 hval
  obtain ⟨fuel, hf⟩ := hd
  obtain ⟨t, ht, hf⟩ := tr_ord hf
  refine ⟨t, ?_, hf⟩
  simp only [Value.cells] at ht
  obtain ⟨l⟩ := cs
  simp at ht
  subst ht
  rfl
end Go.Proofs.Ytgebfpncapfaoaa
