/- Goes in memory: a row of them that is handed in, one of one's own, how they are opened. -/
import Derived.Test.YtnbbfnlfcncgnaaOpc
namespace Go.Proofs.Ytnbbfnlfcncgnaa
open Go.ChangeShapes Go.WideShapes Go.RowKit
set_option linter.unusedVariables false

/-- A go: Id, the cell. -/
structure Goe where
  i : Int
  x : Int
  y : Int
def tl3 (t : Goe) : List Value := [.int .i64 t.i, .int .i64 t.x, .int .i64 t.y]
def flatg (Q : List Goe) : List Value := Q.flatMap tl3
theorem flatg_cons (t : Goe) (Q : List Goe) : flatg (t :: Q) = tl3 t ++ flatg Q := rfl
theorem flatg_len (Q : List Goe) : (flatg Q).length = Q.length * 3 := by
  induction Q with
  | nil => rfl
  | cons s Q ih => rw [flatg_cons, List.length_append, ih]; simp [tl3]; omega
theorem flatg_app (Q R : List Goe) : flatg (Q ++ R) = flatg Q ++ flatg R := by unfold flatg; rw [List.flatMap_append]
theorem flatg_at (Q : List Goe) : ∀ k, (h : k < Q.length) → ∀ i, i < 3 → (flatg Q)[k * 3 + i]? = (tl3 Q[k])[i]? := by
  induction Q with
  | nil => intro k h; simp at h
  | cons s Q ih =>
    intro k h i hi
    rw [flatg_cons]
    have hl : (tl3 s).length = 3 := rfl
    cases k with
    | zero => rw [List.getElem?_append_left (by omega)]; simp
    | succ k =>
      rw [List.getElem?_append_right (by omega), hl, show (k + 1) * 3 + i - 3 = k * 3 + i by omega]
      exact ih k (by simpa using h) i hi
/-- The go t lies at b. -/
def gcl (w : World) (b : Addr) (t : Goe) : Prop := w.cell? b = some (.int .i64 t.i) ∧ w.cell? ⟨b.block, b.off + 1, none⟩ = some (.int .i64 t.x) ∧ w.cell? ⟨b.block, b.off + 2, none⟩ = some (.int .i64 t.y)
/-- The goes ts lie at p. -/
def gor (w : World) (p : Option Addr) (ts : List Goe) : Prop := row id w p (flatg ts)
theorem gor_at {w : World} {p : Option Addr} {ts : List Goe} (h : gor w p ts) {k : Nat} (hk : k < ts.length) : ∃ a, p = some a ∧ gcl w (a.add (k * 3)) ts[k] := by
  have g : ∀ i u, i < 3 → (tl3 ts[k])[i]? = some u → ∃ a, p = some a ∧ w.cell? ((a.add (k * 3)).add i) = some u := by
    intro i u hi hu
    obtain ⟨a, ha, hc⟩ := h (k * 3 + i) u (by rw [flatg_at ts k hk i hi]; exact hu)
    exact ⟨a, ha, by rw [add_add]; exact hc⟩
  obtain ⟨a, rfl, h0⟩ := g 0 _ (by omega) rfl
  refine ⟨a, rfl, ?_⟩
  have f : ∀ i u, i < 3 → (tl3 ts[k])[i]? = some u → w.cell? ((a.add (k * 3)).add i) = some u := by
    intro i u hi hu
    obtain ⟨b, hb, hc⟩ := g i u hi hu
    cases hb; exact hc
  exact ⟨by simpa [Addr.add] using f 0 _ (by omega) rfl, f 1 _ (by omega) rfl, f 2 _ (by omega) rfl⟩
theorem gor_below {w w' : World} {p : Option Addr} {ts : List Goe} (h : gor w p ts) (hb : Below w.heap.size w w') : gor w' p ts := row_below h hb
theorem gor_nil (w : World) (p : Option Addr) : gor w p [] := row_nil _ _ _
theorem gor_one (w : World) (i x y : Int) : gor (w.alloc (.cells #[.int .i64 i, .int .i64 x, .int .i64 y] 55)) (some ⟨w.heap.size, 0, none⟩) [⟨i, x, y⟩] := by
  intro j c hj
  refine ⟨_, rfl, ?_⟩
  rw [add_zero_at]
  match j, hj with
  | 0, hj => simp [flatg, tl3] at hj; rw [← hj]; simp [go_sem]
  | 1, hj => simp [flatg, tl3] at hj; rw [← hj]; simp [go_sem]
  | 2, hj => simp [flatg, tl3] at hj; rw [← hj]; simp [go_sem]
  | (k + 3), hj => simp [flatg, tl3] at hj
def fitg (t : Goe) : Prop := fits t.i ∧ fits t.x ∧ fits t.y
/-- v is a row of goes of one's own, or nil. -/
def mineg (B : Nat) (w : World) (v : Value) (Q : List Goe) : Prop := w.ownsRow B 55 3 v Q.length (flatg Q)

variable {H : Type} {enc : TypeId × Value → H}
set_option maxRecDepth 20000 in
theorem tr_goe {W : World} {base : Nat} {sp : Nat → Bool} {held : Bool} {fuel : Nat} {cs : List Value} {x : DataW H × List MemPlace} (h : DataW.trod enc Try.prog W base sp held fuel 55 cs = some x) : ∃ t : Goe, cs = tl3 t ∧ fitg t := by
  obtain ⟨xs, n, _, _, hc, hxl, hfs⟩ := DataW.trod_struct Try.underlying55 h
  have c3 : Try.prog.cellsOf 3 = 1 := by kernel_rfl
  have c2 : Try.prog.cellsOf 31 = 2 := by kernel_rfl
  have c7 : Try.prog.cellsOf 55 = 3 := by kernel_rfl
  rw [c7] at hc
  match xs, hxl, cs, hc with
  | [z0, z1], _, [u0, u1, u2], _ =>
    have e0 := hfs 0 _ rfl
    have e1 := hfs 1 _ rfl
    simp [c3, c2] at e0 e1
    obtain ⟨a0, k0, w0⟩ := tr_int e0
    obtain ⟨a3, a4, k3, k4, w3, w4⟩ := tr_cell e1
    simp at k0
    subst k0 k3 k4
    exact ⟨⟨a0, a3, a4⟩, rfl, w0, w3, w4⟩
theorem tr_goes {W : World} {base : Nat} {sp : Nat → Bool} {held : Bool} {fuel : Nat} {cs : List Value} {x : DataW H × List MemPlace} (h : DataW.trod enc Try.prog W base sp held fuel 29 cs = some x) :
    ∃ p n c l, cs = [.slice p n c] ∧ gor W p l ∧ (∀ t ∈ l, fitg t) ∧ l.length = n ∧ n ≤ 9223372036854775807 ∧ (p = none → c = 0) ∧ n ≤ c := by
  have c7 : Try.prog.cellsOf 55 = 3 := by kernel_rfl
  rcases Go.Deep.open_slice Try.underlying29 h with ⟨hcs, _⟩ | ⟨a, len, cap, m, n, D, Pl, hcs, _, hl, hm, hmm, _, hi⟩
  · exact ⟨none, 0, 0, [], hcs, gor_nil _ _, (fun x hx => by cases hx), rfl, by omega, fun _ => rfl, Nat.le_refl _⟩
  · have hlm : len ≤ m := by rw [hmm]; split <;> omega
    have each : ∀ i, i < len → ∃ t : Goe, (∀ j u, j < 3 → (tl3 t)[j]? = some u → W.cell? (a.add (i * 3 + j)) = some u) ∧ fitg t := by
      intro i hi'
      obtain ⟨cs', h1, h2⟩ := hi i (by omega)
      rw [c7] at h1
      obtain ⟨_, hlen, hcell⟩ := World.cells?_some h1
      obtain ⟨t, rfl, hf⟩ := tr_goe h2
      refine ⟨t, fun j u hj hu => ?_, hf⟩
      have := hcell j hj
      rw [add_add, hu] at this
      exact this
    haveI : Inhabited Goe := ⟨⟨0, 0, 0⟩⟩
    obtain ⟨q, hq⟩ := Go.Deep.choose_lt each
    have hll : ((List.range len).map q).length = len := by simp
    refine ⟨some a, len, cap, (List.range len).map q, hcs, ?_, ?_, hll, by unfold maxLen at hm; omega, (fun h => (by cases h)), hl⟩
    · intro j u hj
      have hj' : j < len * 3 := by have := (List.getElem?_eq_some_iff.1 hj).1; rwa [flatg_len, hll] at this
      have e : j = j / 3 * 3 + j % 3 := by omega
      rw [e, flatg_at _ (j / 3) (by rw [hll]; omega) (j % 3) (by omega)] at hj
      refine ⟨a, rfl, ?_⟩
      have hg : ((List.range len).map q)[j / 3]'(by rw [hll]; omega) = q (j / 3) := by simp
      rw [hg] at hj
      rw [e]
      exact (hq (j / 3) (by omega)).1 (j % 3) u (by omega) hj
    · intro t ht
      obtain ⟨i, hi2, rfl⟩ := List.mem_map.1 ht
      exact (hq i (by simpa using hi2)).2
/-- A list of goes that is handed in: where it lies, its room, its goes. -/
structure Gst where
  p : Option Addr
  c : Nat
  l : List Goe
def Gst.val (s : Gst) : Value := .slice s.p s.l.length s.c
def Gst.fit (w : World) (s : Gst) : Prop := gor w s.p s.l ∧ (∀ t ∈ s.l, fitg t) ∧ s.l.length ≤ 9223372036854775807 ∧ (s.p = none → s.c = 0) ∧ s.l.length ≤ s.c
set_option maxRecDepth 20000 in
theorem open_gst {W : World} {r : Reach} {b0 base : Nat} {sp : Nat → Bool} {held : Bool} {v : Value} {d : DataW H} {ps : List MemPlace}
    (hval : Value.okWide Try.prog W r b0 29 v) (hd : DataW.Trod enc Try.prog W base sp held 29 v d ps) : ∃ s : Gst, v = s.val ∧ s.fit W ∧ told d s.l.length := by
  obtain ⟨a0, len, cap, rfl⟩ := okWide_slice Try.underlying29 hval
  obtain ⟨fuel, hf⟩ := hd
  have ht := told_of Try.underlying29 hf
  obtain ⟨p, n, c, l, hcs, h1, h2, h3, h4, h5, h6⟩ := tr_goes hf
  simp [Value.cells] at hcs
  obtain ⟨rfl, rfl, rfl⟩ := hcs
  subst h3
  exact ⟨⟨a0, cap, l⟩, rfl, ⟨h1, h2, h4, h5, h6⟩, ht⟩
end Go.Proofs.Ytnbbfnlfcncgnaa
