/- Deeds in memory: a row of them that is handed in, one of one's own, how they are opened. -/
import Derived.Test.YtdcjjfipnilmpaaOpc
namespace Go.Proofs.Ytdcjjfipnilmpaa
open Go.ChangeShapes Go.WideShapes Go.RowKit
set_option linter.unusedVariables false

/-- A deed: Kind, Who, the cell, What. -/
structure Ded where
  k : Int
  w : Int
  x : Int
  y : Int
  a : Int
def tl5 (t : Ded) : List Value := [.int .i64 t.k, .int .i64 t.w, .int .i64 t.x, .int .i64 t.y, .int .i64 t.a]
def flatd (Q : List Ded) : List Value := Q.flatMap tl5
theorem flatd_cons (t : Ded) (Q : List Ded) : flatd (t :: Q) = tl5 t ++ flatd Q := rfl
theorem flatd_len (Q : List Ded) : (flatd Q).length = Q.length * 5 := by
  induction Q with
  | nil => rfl
  | cons s Q ih => rw [flatd_cons, List.length_append, ih]; simp [tl5]; omega
theorem flatd_app (Q R : List Ded) : flatd (Q ++ R) = flatd Q ++ flatd R := by unfold flatd; rw [List.flatMap_append]
theorem flatd_at (Q : List Ded) : ∀ k, (h : k < Q.length) → ∀ i, i < 5 → (flatd Q)[k * 5 + i]? = (tl5 Q[k])[i]? := by
  induction Q with
  | nil => intro k h; simp at h
  | cons s Q ih =>
    intro k h i hi
    rw [flatd_cons]
    have hl : (tl5 s).length = 5 := rfl
    cases k with
    | zero => rw [List.getElem?_append_left (by omega)]; simp
    | succ k =>
      rw [List.getElem?_append_right (by omega), hl, show (k + 1) * 5 + i - 5 = k * 5 + i by omega]
      exact ih k (by simpa using h) i hi
/-- The deed t lies at b. -/
def dcl (w : World) (b : Addr) (t : Ded) : Prop := w.cell? b = some (.int .i64 t.k) ∧ w.cell? ⟨b.block, b.off + 1, none⟩ = some (.int .i64 t.w) ∧ w.cell? ⟨b.block, b.off + 2, none⟩ = some (.int .i64 t.x) ∧ w.cell? ⟨b.block, b.off + 3, none⟩ = some (.int .i64 t.y) ∧ w.cell? ⟨b.block, b.off + 4, none⟩ = some (.int .i64 t.a)
/-- The deeds ts lie at p. -/
def dor (w : World) (p : Option Addr) (ts : List Ded) : Prop := row id w p (flatd ts)
theorem dor_at {w : World} {p : Option Addr} {ts : List Ded} (h : dor w p ts) {k : Nat} (hk : k < ts.length) : ∃ a, p = some a ∧ dcl w (a.add (k * 5)) ts[k] := by
  have g : ∀ i u, i < 5 → (tl5 ts[k])[i]? = some u → ∃ a, p = some a ∧ w.cell? ((a.add (k * 5)).add i) = some u := by
    intro i u hi hu
    obtain ⟨a, ha, hc⟩ := h (k * 5 + i) u (by rw [flatd_at ts k hk i hi]; exact hu)
    exact ⟨a, ha, by rw [add_add]; exact hc⟩
  obtain ⟨a, rfl, h0⟩ := g 0 _ (by omega) rfl
  refine ⟨a, rfl, ?_⟩
  have f : ∀ i u, i < 5 → (tl5 ts[k])[i]? = some u → w.cell? ((a.add (k * 5)).add i) = some u := by
    intro i u hi hu
    obtain ⟨b, hb, hc⟩ := g i u hi hu
    cases hb; exact hc
  exact ⟨by simpa [Addr.add] using f 0 _ (by omega) rfl, f 1 _ (by omega) rfl, f 2 _ (by omega) rfl, f 3 _ (by omega) rfl, f 4 _ (by omega) rfl⟩
theorem dor_below {w w' : World} {p : Option Addr} {ts : List Ded} (h : dor w p ts) (hb : Below w.heap.size w w') : dor w' p ts := row_below h hb
theorem dor_nil (w : World) (p : Option Addr) : dor w p [] := row_nil _ _ _
theorem dor_heap {V : World} {b : Nat} {Q : List Ded} {t : TypeId} (h : V.heap[b]? = some (.cells (flatd Q).toArray t)) : dor V (some ⟨b, 0, none⟩) Q := by
  intro j u hj
  refine ⟨_, rfl, ?_⟩
  rw [add_zero_at]
  simp [World.cell?, h, hj]
def fitd (t : Ded) : Prop := fits t.k ∧ fits t.w ∧ fits t.x ∧ fits t.y ∧ fits t.a
/-- v is a row of deeds of one's own, or nil. -/
def mined (B : Nat) (w : World) (v : Value) (Q : List Ded) : Prop := w.ownsRow B 52 5 v Q.length (flatd Q)

variable {H : Type} {enc : TypeId × Value → H}
set_option maxRecDepth 20000 in
theorem tr_ded {W : World} {base : Nat} {sp : Nat → Bool} {held : Bool} {fuel : Nat} {cs : List Value} {x : DataW H × List MemPlace} (h : DataW.trod enc Try.prog W base sp held fuel 52 cs = some x) : ∃ t : Ded, cs = tl5 t ∧ fitd t := by
  obtain ⟨xs, n, _, _, hc, hxl, hfs⟩ := DataW.trod_struct Try.underlying52 h
  have c3 : Try.prog.cellsOf 3 = 1 := by kernel_rfl
  have c2 : Try.prog.cellsOf 45 = 2 := by kernel_rfl
  have c7 : Try.prog.cellsOf 52 = 5 := by kernel_rfl
  rw [c7] at hc
  match xs, hxl, cs, hc with
  | [z0, z1, z2, z3], _, [u0, u1, u2, u3, u4], _ =>
    have e0 := hfs 0 _ rfl
    have e1 := hfs 1 _ rfl
    have e2 := hfs 2 _ rfl
    have e3 := hfs 3 _ rfl
    simp [c3, c2] at e0 e1 e2 e3
    obtain ⟨a0, k0, w0⟩ := tr_int e0
    obtain ⟨a1, k1, w1⟩ := tr_int e1
    obtain ⟨a3, a4, k3, k4, w3, w4⟩ := tr_cell e2
    obtain ⟨a5, k5, w5⟩ := tr_int e3
    simp at k0 k1 k5
    subst k0 k1 k3 k4 k5
    exact ⟨⟨a0, a1, a3, a4, a5⟩, rfl, w0, w1, w3, w4, w5⟩
theorem tr_deds {W : World} {base : Nat} {sp : Nat → Bool} {held : Bool} {fuel : Nat} {cs : List Value} {x : DataW H × List MemPlace} (h : DataW.trod enc Try.prog W base sp held fuel 29 cs = some x) :
    ∃ p n c l, cs = [.slice p n c] ∧ dor W p l ∧ (∀ t ∈ l, fitd t) ∧ l.length = n ∧ n ≤ 9223372036854775807 ∧ (p = none → c = 0) ∧ n ≤ c := by
  have c7 : Try.prog.cellsOf 52 = 5 := by kernel_rfl
  rcases Go.Deep.open_slice Try.underlying29 h with ⟨hcs, _⟩ | ⟨a, len, cap, m, n, D, Pl, hcs, _, hl, hm, hmm, _, hi⟩
  · exact ⟨none, 0, 0, [], hcs, dor_nil _ _, (fun x hx => by cases hx), rfl, by omega, fun _ => rfl, Nat.le_refl _⟩
  · have hlm : len ≤ m := by rw [hmm]; split <;> omega
    have each : ∀ i, i < len → ∃ t : Ded, (∀ j u, j < 5 → (tl5 t)[j]? = some u → W.cell? (a.add (i * 5 + j)) = some u) ∧ fitd t := by
      intro i hi'
      obtain ⟨cs', h1, h2⟩ := hi i (by omega)
      rw [c7] at h1
      obtain ⟨_, hlen, hcell⟩ := World.cells?_some h1
      obtain ⟨t, rfl, hf⟩ := tr_ded h2
      refine ⟨t, fun j u hj hu => ?_, hf⟩
      have := hcell j hj
      rw [add_add, hu] at this
      exact this
    haveI : Inhabited Ded := ⟨⟨0, 0, 0, 0, 0⟩⟩
    obtain ⟨q, hq⟩ := Go.Deep.choose_lt each
    have hll : ((List.range len).map q).length = len := by simp
    refine ⟨some a, len, cap, (List.range len).map q, hcs, ?_, ?_, hll, by unfold maxLen at hm; omega, (fun h => (by cases h)), hl⟩
    · intro j u hj
      have hj' : j < len * 5 := by have := (List.getElem?_eq_some_iff.1 hj).1; rwa [flatd_len, hll] at this
      have e : j = j / 5 * 5 + j % 5 := by omega
      rw [e, flatd_at _ (j / 5) (by rw [hll]; omega) (j % 5) (by omega)] at hj
      refine ⟨a, rfl, ?_⟩
      have hg : ((List.range len).map q)[j / 5]'(by rw [hll]; omega) = q (j / 5) := by simp
      rw [hg] at hj
      rw [e]
      exact (hq (j / 5) (by omega)).1 (j % 5) u (by omega) hj
    · intro t ht
      obtain ⟨i, hi2, rfl⟩ := List.mem_map.1 ht
      exact (hq i (by simpa using hi2)).2
/-- A list of deeds that is handed in: where it lies, its room, its deeds. -/
structure Dst where
  p : Option Addr
  c : Nat
  l : List Ded
def Dst.val (s : Dst) : Value := .slice s.p s.l.length s.c
def Dst.fit (w : World) (s : Dst) : Prop := dor w s.p s.l ∧ (∀ t ∈ s.l, fitd t) ∧ s.l.length ≤ 9223372036854775807 ∧ (s.p = none → s.c = 0) ∧ s.l.length ≤ s.c
set_option maxRecDepth 20000 in
theorem open_dst {W : World} {r : Reach} {b0 base : Nat} {sp : Nat → Bool} {held : Bool} {v : Value} {d : DataW H} {ps : List MemPlace}
    (hval : Value.okWide Try.prog W r b0 29 v) (hd : DataW.Trod enc Try.prog W base sp held 29 v d ps) : ∃ s : Dst, v = s.val ∧ s.fit W ∧ told d s.l.length := by
  obtain ⟨a0, len, cap, rfl⟩ := okWide_slice Try.underlying29 hval
  obtain ⟨fuel, hf⟩ := hd
  have ht := told_of Try.underlying29 hf
  obtain ⟨p, n, c, l, hcs, h1, h2, h3, h4, h5, h6⟩ := tr_deds hf
  simp [Value.cells] at hcs
  obtain ⟨rfl, rfl, rfl⟩ := hcs
  subst h3
  exact ⟨⟨a0, cap, l⟩, rfl, ⟨h1, h2, h4, h5, h6⟩, ht⟩
end Go.Proofs.Ytdcjjfipnilmpaa
