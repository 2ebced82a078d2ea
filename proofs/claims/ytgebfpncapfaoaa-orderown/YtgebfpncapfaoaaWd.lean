/- A world in memory: its troops, all that is known of one that is handed in, and how it is opened. -/
import Derived.Test.YtgebfpncapfaoaaCr
import Derived.Deep.SlicePairs
import Derived.OpenShut
namespace Go.Proofs.Ytgebfpncapfaoaa
open Go.ChangeShapes Go.WideShapes Go.RowKit
set_option linter.unusedVariables false

/-- A troop: Id, Owner, Kind, the cell, Life, Load. -/
structure Trp where
  i : Int
  o : Int
  k : Int
  x : Int
  y : Int
  f : Int
  d : Int
def tl7 (t : Trp) : List Value := [.int .i64 t.i, .int .i64 t.o, .int .i64 t.k, .int .i64 t.x, .int .i64 t.y, .int .i64 t.f, .int .i64 t.d]
def flat7 (Q : List Trp) : List Value := Q.flatMap tl7
theorem flat7_cons (t : Trp) (Q : List Trp) : flat7 (t :: Q) = tl7 t ++ flat7 Q := rfl
theorem flat7_len (Q : List Trp) : (flat7 Q).length = Q.length * 7 := by
  induction Q with
  | nil => rfl
  | cons s Q ih => rw [flat7_cons, List.length_append, ih]; simp [tl7]; omega
theorem flat7_app (Q R : List Trp) : flat7 (Q ++ R) = flat7 Q ++ flat7 R := by unfold flat7; rw [List.flatMap_append]
theorem flat7_at (Q : List Trp) : ∀ k, (h : k < Q.length) → ∀ i, i < 7 → (flat7 Q)[k * 7 + i]? = (tl7 Q[k])[i]? := by
  induction Q with
  | nil => intro k h; simp at h
  | cons s Q ih =>
    intro k h i hi
    rw [flat7_cons]
    have hl : (tl7 s).length = 7 := rfl
    cases k with
    | zero => rw [List.getElem?_append_left (by omega)]; simp
    | succ k =>
      rw [List.getElem?_append_right (by omega), hl, show (k + 1) * 7 + i - 7 = k * 7 + i by omega]
      exact ih k (by simpa using h) i hi
theorem flat7_one (Q : List Trp) : ∀ u ∈ flat7 Q, u.oneCell' = true := by
  intro u hu
  unfold flat7 at hu
  obtain ⟨c, _, h⟩ := List.mem_flatMap.1 hu
  simp [tl7] at h
  rcases h with rfl | rfl | rfl | rfl | rfl | rfl | rfl <;> rfl
/-- The troop t lies at b. -/
def tcl (w : World) (b : Addr) (t : Trp) : Prop := w.cell? b = some (.int .i64 t.i) ∧ w.cell? ⟨b.block, b.off + 1, none⟩ = some (.int .i64 t.o) ∧ w.cell? ⟨b.block, b.off + 2, none⟩ = some (.int .i64 t.k) ∧ w.cell? ⟨b.block, b.off + 3, none⟩ = some (.int .i64 t.x) ∧ w.cell? ⟨b.block, b.off + 4, none⟩ = some (.int .i64 t.y) ∧ w.cell? ⟨b.block, b.off + 5, none⟩ = some (.int .i64 t.f) ∧ w.cell? ⟨b.block, b.off + 6, none⟩ = some (.int .i64 t.d)
/-- The troops ts lie at p. -/
def trow (w : World) (p : Option Addr) (ts : List Trp) : Prop := row id w p (flat7 ts)
theorem trow_at {w : World} {p : Option Addr} {ts : List Trp} (h : trow w p ts) {k : Nat} (hk : k < ts.length) : ∃ a, p = some a ∧ tcl w (a.add (k * 7)) ts[k] := by
  have g : ∀ i u, i < 7 → (tl7 ts[k])[i]? = some u → ∃ a, p = some a ∧ w.cell? ((a.add (k * 7)).add i) = some u := by
    intro i u hi hu
    obtain ⟨a, ha, hc⟩ := h (k * 7 + i) u (by rw [flat7_at ts k hk i hi]; exact hu)
    exact ⟨a, ha, by rw [add_add]; exact hc⟩
  obtain ⟨a, rfl, h0⟩ := g 0 _ (by omega) rfl
  refine ⟨a, rfl, ?_⟩
  have f : ∀ i u, i < 7 → (tl7 ts[k])[i]? = some u → w.cell? ((a.add (k * 7)).add i) = some u := by
    intro i u hi hu
    obtain ⟨b, hb, hc⟩ := g i u hi hu
    cases hb; exact hc
  exact ⟨by simpa [Addr.add] using f 0 _ (by omega) rfl, f 1 _ (by omega) rfl, f 2 _ (by omega) rfl, f 3 _ (by omega) rfl, f 4 _ (by omega) rfl, f 5 _ (by omega) rfl, f 6 _ (by omega) rfl⟩
theorem trow_below {w w' : World} {p : Option Addr} {ts : List Trp} (h : trow w p ts) (hb : Below w.heap.size w w') : trow w' p ts := row_below h hb
theorem trow_nil (w : World) (p : Option Addr) : trow w p [] := row_nil _ _ _

/-- A world: its field, its players' bases and stocks, its mines, its troops, NextId and Now. -/
structure Wld where
  A : Int
  B : Int
  p : Option Addr
  n : Nat
  c : Nat
  l : List Int
  pb : Option Addr
  nb : Nat
  cb : Nat
  lb : List Cel
  ps : Option Addr
  ns : Nat
  cs : Nat
  ls : List Int
  pm : Option Addr
  nm : Nat
  cm : Nat
  lm : List Int
  pt : Option Addr
  nt : Nat
  ct : Nat
  lt : List Trp
  N : Int
  T : Int
def Wld.val (s : Wld) : Value := .agg #[.int .i64 s.A, .int .i64 s.B, .slice s.p s.n s.c, .slice s.pb s.nb s.cb, .slice s.ps s.ns s.cs, .slice s.pm s.nm s.cm, .slice s.pt s.nt s.ct, .int .i64 s.N, .int .i64 s.T]
structure Wld.fit (w : World) (s : Wld) : Prop where
  fA : fits s.A
  fB : fits s.B
  r : row vi w s.p s.l
  x : ∀ x ∈ s.l, fits x
  h : s.l.length = s.n
  m : s.n ≤ 9223372036854775807
  z : s.p = none → s.c = 0
  k : s.n ≤ s.c
  rb : crow w s.pb s.lb
  xb : ∀ c ∈ s.lb, fits c.x ∧ fits c.y
  hb : s.lb.length = s.nb
  mb : s.nb ≤ 9223372036854775807
  zb : s.pb = none → s.cb = 0
  kb : s.nb ≤ s.cb
  rs : row vi w s.ps s.ls
  xs : ∀ x ∈ s.ls, fits x
  hs : s.ls.length = s.ns
  ms : s.ns ≤ 9223372036854775807
  rm : row vi w s.pm s.lm
  xm : ∀ x ∈ s.lm, fits x
  hm : s.lm.length = s.nm
  mm : s.nm ≤ 9223372036854775807
  rt : trow w s.pt s.lt
  xt : ∀ t ∈ s.lt, fits t.i ∧ fits t.o ∧ fits t.k ∧ fits t.x ∧ fits t.y ∧ fits t.f ∧ fits t.d
  ht : s.lt.length = s.nt
  mt : s.nt ≤ 9223372036854775807
  zt : s.pt = none → s.ct = 0
  kt : s.nt ≤ s.ct
  fN : fits s.N
  fT : fits s.T
theorem Wld.fit_below {w w' : World} {s : Wld} (h : s.fit w) (hb : Below w.heap.size w w') : s.fit w' :=
  { h with r := row_below h.r hb, rb := crow_below h.rb hb, rs := row_below h.rs hb, rm := row_below h.rm hb, rt := trow_below h.rt hb }

variable {H : Type} {enc : TypeId × Value → H}
theorem int_of {a : Int} (h : (Lit.int .i64 a).wf = true) : fits a := by
  unfold fits
  simpa [Lit.wf, IntKind.min, IntKind.max, IntKind.bits, IntKind.signed] using h
theorem tr_int {W : World} {base : Nat} {sp : Nat → Bool} {held : Bool} {fuel : Nat} {cs : List Value} {x : DataW H × List MemPlace} (h : DataW.trod enc Try.prog W base sp held fuel 3 cs = some x) : ∃ a, cs = [.int .i64 a] ∧ fits a := by
  obtain ⟨a, ea, _, wa⟩ := DataW.trod_int Try.underlying3 h
  exact ⟨a, ea, int_of wa⟩
theorem tr_ints {W : World} {base : Nat} {sp : Nat → Bool} {held : Bool} {fuel : Nat} {cs : List Value} {x : DataW H × List MemPlace} (h : DataW.trod enc Try.prog W base sp held fuel 35 cs = some x) :
    ∃ p n c l, cs = [.slice p n c] ∧ row vi W p l ∧ (∀ x ∈ l, fits x) ∧ l.length = n ∧ n ≤ 9223372036854775807 ∧ (p = none → c = 0) ∧ n ≤ c := by
  rcases open_ints Try.underlying35 Try.underlying3 (by kernel_rfl) h with ⟨hcs, _⟩ | ⟨a, len, cap, zs, hcs, _, hl, hm, hz, _, hcell, hwz⟩
  · exact ⟨none, 0, 0, [], hcs, row_nil _ _ _, (fun x hx => by cases hx), rfl, by omega, fun _ => rfl, Nat.le_refl _⟩
  · have hlz : len ≤ zs.length := by rw [hz]; split <;> omega
    have hlen : (zs.take len).length = len := by simp; omega
    refine ⟨some a, len, cap, zs.take len, hcs, ?_, ?_, hlen, by unfold maxLen at hm; omega, (fun h => (by cases h)), hl⟩
    · intro j x hj
      have hj' : j < len := by have := (List.getElem?_eq_some_iff.1 hj).1; rwa [hlen] at this
      refine ⟨a, rfl, ?_⟩
      rw [hcell j (by omega)]
      have : zs.getD j 0 = x := by
        rw [List.getElem?_take, if_pos hj'] at hj
        rw [List.getD_eq_getElem?_getD, hj]; rfl
      rw [this]; rfl
    · intro x hx2
      exact int_of (hwz x (List.mem_of_mem_take hx2))
def numV : Value → Int | .int _ q => q | _ => 0
theorem tr_cells {W : World} {base : Nat} {sp : Nat → Bool} {held : Bool} {fuel : Nat} {cs : List Value} {x : DataW H × List MemPlace} (h : DataW.trod enc Try.prog W base sp held fuel 38 cs = some x) :
    ∃ p n c l, cs = [.slice p n c] ∧ crow W p l ∧ (∀ c ∈ l, fits c.x ∧ fits c.y) ∧ l.length = n ∧ n ≤ 9223372036854775807 ∧ (p = none → c = 0) ∧ n ≤ c := by
  rcases Go.Deep.open_slice_pairs Try.underlying38 Try.underlying23 (by kernel_rfl) rfl rfl (by kernel_rfl) (by kernel_rfl) h with ⟨hcs, hx⟩ | ⟨a, len, cap, m, n, V0, V1, D0, D1, P0, P1, hcs, _, hl, hm, hmm, hx, hi⟩
  · exact ⟨none, 0, 0, [], hcs, crow_nil _ _, (fun x hx => by cases hx), rfl, by omega, fun _ => rfl, Nat.le_refl _⟩
  · have hlm : len ≤ m := by rw [hmm]; split <;> omega
    have key : ∀ i, i < len → V0 i = .int .i64 (numV (V0 i)) ∧ V1 i = .int .i64 (numV (V1 i)) ∧ fits (numV (V0 i)) ∧ fits (numV (V1 i)) := by
      intro i hi'
      obtain ⟨_, _, t0, t1⟩ := hi i (by omega)
      obtain ⟨A, ea, wa⟩ := tr_int t0
      obtain ⟨B, eb, wb⟩ := tr_int t1
      simp at ea eb
      rw [ea, eb]
      exact ⟨rfl, rfl, wa, wb⟩
    have hll : ((List.range len).map fun i => (⟨numV (V0 i), numV (V1 i)⟩ : Cel)).length = len := by simp
    refine ⟨some a, len, cap, (List.range len).map fun i => ⟨numV (V0 i), numV (V1 i)⟩, hcs, ?_, ?_, hll, by unfold maxLen at hm; omega, (fun h => (by cases h)), hl⟩
    · intro j x hj
      have hj' : j < len := by have := (List.getElem?_eq_some_iff.1 hj).1; rwa [hll] at this
      obtain ⟨k0, k1, _, _⟩ := hi j (by omega)
      have hk := key j hj'
      simp [hj'] at hj
      rw [← hj]
      exact ⟨a, rfl, by rw [k0]; exact congrArg some hk.1, by rw [k1]; exact congrArg some hk.2.1⟩
    · intro x hx2
      obtain ⟨i, hi2, rfl⟩ := List.mem_map.1 hx2
      have := key i (by simpa using hi2)
      exact this.2.2
theorem tr_cell {W : World} {base : Nat} {sp : Nat → Bool} {held : Bool} {fuel : Nat} {u0 u1 : Value} {x : DataW H × List MemPlace} (h : DataW.trod enc Try.prog W base sp held fuel 23 [u0, u1] = some x) : ∃ a b, u0 = .int .i64 a ∧ u1 = .int .i64 b ∧ fits a ∧ fits b := by
  obtain ⟨xs, n, _, _, _, hxl, hfs⟩ := DataW.trod_struct Try.underlying23 h
  have c3 : Try.prog.cellsOf 3 = 1 := by kernel_rfl
  match xs, hxl with
  | [z0, z1], _ =>
    have e0 := hfs 0 _ rfl
    have e1 := hfs 1 _ rfl
    simp [c3] at e0 e1
    obtain ⟨a, ea, wa⟩ := tr_int e0
    obtain ⟨b, eb, wb⟩ := tr_int e1
    simp at ea eb
    exact ⟨a, b, ea, eb, wa, wb⟩
set_option maxRecDepth 20000 in
theorem tr_trp {W : World} {base : Nat} {sp : Nat → Bool} {held : Bool} {fuel : Nat} {cs : List Value} {x : DataW H × List MemPlace} (h : DataW.trod enc Try.prog W base sp held fuel 71 cs = some x) : ∃ t : Trp, cs = tl7 t ∧ fits t.i ∧ fits t.o ∧ fits t.k ∧ fits t.x ∧ fits t.y ∧ fits t.f ∧ fits t.d := by
  obtain ⟨xs, n, _, _, hc, hxl, hfs⟩ := DataW.trod_struct Try.underlying71 h
  have c3 : Try.prog.cellsOf 3 = 1 := by kernel_rfl
  have c2 : Try.prog.cellsOf 23 = 2 := by kernel_rfl
  have c7 : Try.prog.cellsOf 71 = 7 := by kernel_rfl
  rw [c7] at hc
  match xs, hxl, cs, hc with
  | [z0, z1, z2, z3, z4, z5], _, [u0, u1, u2, u3, u4, u5, u6], _ =>
    have e0 := hfs 0 _ rfl
    have e1 := hfs 1 _ rfl
    have e2 := hfs 2 _ rfl
    have e3 := hfs 3 _ rfl
    have e4 := hfs 4 _ rfl
    have e5 := hfs 5 _ rfl
    simp [c3, c2] at e0 e1 e2 e3 e4 e5
    obtain ⟨a0, k0, w0⟩ := tr_int e0
    obtain ⟨a1, k1, w1⟩ := tr_int e1
    obtain ⟨a2, k2, w2⟩ := tr_int e2
    obtain ⟨a3, a4, k3, k4, w3, w4⟩ := tr_cell e3
    obtain ⟨a5, k5, w5⟩ := tr_int e4
    obtain ⟨a6, k6, w6⟩ := tr_int e5
    simp at k0 k1 k2 k5 k6
    subst k0 k1 k2 k3 k4 k5 k6
    exact ⟨⟨a0, a1, a2, a3, a4, a5, a6⟩, rfl, w0, w1, w2, w3, w4, w5, w6⟩
theorem tr_trps {W : World} {base : Nat} {sp : Nat → Bool} {held : Bool} {fuel : Nat} {cs : List Value} {x : DataW H × List MemPlace} (h : DataW.trod enc Try.prog W base sp held fuel 39 cs = some x) :
    ∃ p n c l, cs = [.slice p n c] ∧ trow W p l ∧ (∀ t ∈ l, fits t.i ∧ fits t.o ∧ fits t.k ∧ fits t.x ∧ fits t.y ∧ fits t.f ∧ fits t.d) ∧ l.length = n ∧ n ≤ 9223372036854775807 ∧ (p = none → c = 0) ∧ n ≤ c := by
  have c7 : Try.prog.cellsOf 71 = 7 := by kernel_rfl
  rcases Go.Deep.open_slice Try.underlying39 h with ⟨hcs, _⟩ | ⟨a, len, cap, m, n, D, Pl, hcs, _, hl, hm, hmm, _, hi⟩
  · exact ⟨none, 0, 0, [], hcs, trow_nil _ _, (fun x hx => by cases hx), rfl, by omega, fun _ => rfl, Nat.le_refl _⟩
  · have hlm : len ≤ m := by rw [hmm]; split <;> omega
    have each : ∀ i, i < len → ∃ t : Trp, (∀ j u, j < 7 → (tl7 t)[j]? = some u → W.cell? (a.add (i * 7 + j)) = some u) ∧ fits t.i ∧ fits t.o ∧ fits t.k ∧ fits t.x ∧ fits t.y ∧ fits t.f ∧ fits t.d := by
      intro i hi'
      obtain ⟨cs', h1, h2⟩ := hi i (by omega)
      rw [c7] at h1
      obtain ⟨_, hlen, hcell⟩ := World.cells?_some h1
      obtain ⟨t, rfl, hf⟩ := tr_trp h2
      refine ⟨t, fun j u hj hu => ?_, hf⟩
      have := hcell j hj
      rw [add_add, hu] at this
      exact this
    haveI : Inhabited Trp := ⟨⟨0, 0, 0, 0, 0, 0, 0⟩⟩
    obtain ⟨q, hq⟩ := Go.Deep.choose_lt each
    have hll : ((List.range len).map q).length = len := by simp
    refine ⟨some a, len, cap, (List.range len).map q, hcs, ?_, ?_, hll, by unfold maxLen at hm; omega, (fun h => (by cases h)), hl⟩
    · intro j u hj
      have hj' : j < len * 7 := by have := (List.getElem?_eq_some_iff.1 hj).1; rwa [flat7_len, hll] at this
      have e : j = j / 7 * 7 + j % 7 := by omega
      rw [e, flat7_at _ (j / 7) (by rw [hll]; omega) (j % 7) (by omega)] at hj
      refine ⟨a, rfl, ?_⟩
      have hg : ((List.range len).map q)[j / 7]'(by rw [hll]; omega) = q (j / 7) := by simp
      rw [hg] at hj
      rw [e]
      exact (hq (j / 7) (by omega)).1 (j % 7) u (by omega) hj
    · intro t ht
      obtain ⟨i, hi2, rfl⟩ := List.mem_map.1 ht
      exact (hq i (by simpa using hi2)).2
theorem tr_fld {W : World} {base : Nat} {sp : Nat → Bool} {held : Bool} {fuel : Nat} {u0 u1 u2 : Value} {x : DataW H × List MemPlace} (h : DataW.trod enc Try.prog W base sp held fuel 37 [u0, u1, u2] = some x) :
    ∃ A B p n c l, u0 = .int .i64 A ∧ u1 = .int .i64 B ∧ u2 = .slice p n c ∧ fits A ∧ fits B ∧ row vi W p l ∧ (∀ x ∈ l, fits x) ∧ l.length = n ∧ n ≤ 9223372036854775807 ∧ (p = none → c = 0) ∧ n ≤ c := by
  obtain ⟨xs, n, _, _, _, hxl, hfs⟩ := DataW.trod_struct Try.underlying37 h
  have c3 : Try.prog.cellsOf 3 = 1 := by kernel_rfl
  have c22 : Try.prog.cellsOf 35 = 1 := by kernel_rfl
  match xs, hxl with
  | [z0, z1, z2], _ =>
    have e0 := hfs 0 _ rfl
    have e1 := hfs 1 _ rfl
    have e2 := hfs 2 _ rfl
    simp [c3, c22] at e0 e1 e2
    obtain ⟨a, ea, wa⟩ := tr_int e0
    obtain ⟨b, eb, wb⟩ := tr_int e1
    obtain ⟨p, n, c, l, ec, h1⟩ := tr_ints e2
    simp at ea eb ec
    exact ⟨a, b, p, n, c, l, ea, eb, ec, wa, wb, h1⟩
set_option maxRecDepth 20000 in
theorem open_wld {W : World} {r : Reach} {b0 base : Nat} {sp : Nat → Bool} {held : Bool} {v : Value} {d : DataW H} {pl : List MemPlace} (hval : Value.okWide Try.prog W r b0 41 v) (hd : DataW.Trod enc Try.prog W base sp held 41 v d pl) : ∃ s : Wld, v = s.val ∧ s.fit W := by
  obtain ⟨cs, rfl, hs⟩ := okWide_struct Try.underlying41 hval
  have c3 : Try.prog.cellsOf 3 = 1 := by kernel_rfl
  have c22 : Try.prog.cellsOf 35 = 1 := by kernel_rfl
  have c24 : Try.prog.cellsOf 37 = 3 := by kernel_rfl
  have c25 : Try.prog.cellsOf 38 = 1 := by kernel_rfl
  have c26 : Try.prog.cellsOf 39 = 1 := by kernel_rfl
  have c28 : Try.prog.cellsOf 41 = 9 := by kernel_rfl
  rw [c28] at hs
  obtain ⟨fuel, hf⟩ := hd
  obtain ⟨xs, n, _, _, _, hxl, hfs⟩ := DataW.trod_struct Try.underlying41 hf
  obtain ⟨l⟩ := cs
  match l, hs with
  | [u0, u1, u2, u3, u4, u5, u6, u7, u8], _ =>
    match xs, hxl with
    | [z0, z1, z2, z3, z4, z5, z6], _ =>
      have e0 := hfs 0 _ rfl
      have e1 := hfs 1 _ rfl
      have e2 := hfs 2 _ rfl
      have e3 := hfs 3 _ rfl
      have e4 := hfs 4 _ rfl
      have e5 := hfs 5 _ rfl
      have e6 := hfs 6 _ rfl
      simp [c3, c22, c24, c25, c26, Value.cells] at e0 e1 e2 e3 e4 e5 e6
      obtain ⟨A, B, p, n, c, l, g0, g1, g2, fA, fB, r, fx, hh, fm, z, k⟩ := tr_fld e0
      obtain ⟨pb, nb, cb, lb, g3, rb, xb, hb, mb, zb, kb⟩ := tr_cells e1
      obtain ⟨ps, ns, cs, ls, g4, rs, xs, hs, ms, _, _⟩ := tr_ints e2
      obtain ⟨pm, nm, cm, lm, g5, rm, xm, hm, mm, _, _⟩ := tr_ints e3
      obtain ⟨pt, nt, ct, lt, g6, rt, xt, ht, mt, zt, kt⟩ := tr_trps e4
      obtain ⟨N, g7, fN⟩ := tr_int e5
      obtain ⟨T, g8, fT⟩ := tr_int e6
      simp at g3 g4 g5 g6 g7 g8
      subst g0 g1 g2 g3 g4 g5 g6 g7 g8
      exact ⟨⟨A, B, p, n, c, l, pb, nb, cb, lb, ps, ns, cs, ls, pm, nm, cm, lm, pt, nt, ct, lt, N, T⟩, rfl, ⟨fA, fB, r, fx, hh, fm, z, k, rb, xb, hb, mb, zb, kb, rs, xs, hs, ms, rm, xm, hm, mm, rt, xt, ht, mt, zt, kt, fN, fT⟩⟩
end Go.Proofs.Ytgebfpncapfaoaa
