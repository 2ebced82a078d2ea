/- How a list of blows that is handed in is opened; how great the lists of a world that is handed in can be. -/
import Derived.Test.YtgebfpncapfaoaaWd
import Derived.Test.YtgebfpncapfaoaaRows
import Derived.SizedLaws
import Derived.Deep.SlicePairs
namespace Go.Proofs.Ytgebfpncapfaoaa
open Go.ChangeShapes Go.WideShapes Go.RowKit
set_option linter.unusedVariables false
variable {H : Type} {enc : TypeId × Value → H} {P : Program}
/-- What a list's reading tells of its length. -/
def told (d : DataW H) (n : Nat) : Prop := (d = .nil ∧ n = 0) ∨ ∃ elems spare, d = .slice elems spare ∧ elems.length = n
/-- A list of cells that is handed in: where it lies, its room, its cells. -/
structure Cst where
  p : Option Addr
  c : Nat
  l : List Cel
def Cst.val (s : Cst) : Value := .slice s.p s.l.length s.c
def Cst.fit (w : World) (s : Cst) : Prop := crow w s.p s.l ∧ (∀ c ∈ s.l, fits c.x ∧ fits c.y) ∧ s.l.length ≤ 9223372036854775807 ∧ (s.p = none → s.c = 0) ∧ s.l.length ≤ s.c
theorem open_cst {t e : TypeId} {f0 f1 : Field} (ht : P.underlying t = some (.slice e)) (he : P.underlying e = some (.struct #[f0, f1])) (h0 : P.underlying f0.type = some (.int .i64)) (h1 : P.underlying f1.type = some (.int .i64)) (o0 : f0.offset = 0) (o1 : f1.offset = 1) (c0 : P.cellsOf f0.type = 1) (c1 : P.cellsOf f1.type = 1) (ce : P.cellsOf e = 2) {W : World} {r : Reach} {b0 base : Nat} {sp : Nat → Bool} {held : Bool} {v : Value} {d : DataW H} {ps : List MemPlace}
    (hval : Value.okWide P W r b0 t v) (hd : DataW.Trod enc P W base sp held t v d ps) : ∃ s : Cst, v = s.val ∧ s.fit W ∧ told d s.l.length := by
  obtain ⟨a0, len, cap, rfl⟩ := okWide_slice ht hval
  obtain ⟨fuel, hf⟩ := hd
  rcases Go.Deep.open_slice_pairs ht he ce o0 o1 c0 c1 hf with ⟨hcs, hx⟩ | ⟨a, len', cap', m, n, V0, V1, D0, D1, P0, P1, hcs, _, hl, hm, hmm, hx, hi⟩
  · simp [Value.cells] at hcs hx
    obtain ⟨rfl, rfl, rfl⟩ := hcs
    exact ⟨⟨none, 0, []⟩, rfl, ⟨crow_nil _ _, (fun x hx => by cases hx), by simp, fun _ => rfl, Nat.le_refl _⟩, .inl ⟨hx.1, rfl⟩⟩
  · simp [Value.cells] at hcs hx
    obtain ⟨rfl, rfl, rfl⟩ := hcs
    have hlm : len ≤ m := by rw [hmm]; split <;> omega
    have key : ∀ i, i < len → V0 i = .int .i64 (numV (V0 i)) ∧ V1 i = .int .i64 (numV (V1 i)) ∧ fits (numV (V0 i)) ∧ fits (numV (V1 i)) := by
      intro i hi'
      obtain ⟨_, _, t0, t1⟩ := hi i (by omega)
      obtain ⟨A, ea, _, wa⟩ := DataW.trod_int h0 t0
      obtain ⟨B, eb, _, wb⟩ := DataW.trod_int h1 t1
      simp at ea eb
      rw [ea, eb]
      exact ⟨rfl, rfl, int_of wa, int_of wb⟩
    have hll : ((List.range len).map fun i => (⟨numV (V0 i), numV (V1 i)⟩ : Cel)).length = len := by simp
    refine ⟨⟨some a, cap, (List.range len).map fun i => ⟨numV (V0 i), numV (V1 i)⟩⟩, ?_, ⟨?_, ?_, ?_, fun h => (by cases h), ?_⟩, .inr ⟨_, _, hx.1, ?_⟩⟩
    · unfold Cst.val; rw [hll]
    · intro j x hj
      have hj' : j < len := by have := (List.getElem?_eq_some_iff.1 hj).1; rwa [hll] at this
      obtain ⟨k0, k1, _, _⟩ := hi j (by omega)
      have hk := key j hj'
      simp [hj'] at hj
      rw [← hj]
      exact ⟨a, rfl, by rw [k0]; exact congrArg some hk.1, by rw [k1]; exact congrArg some hk.2.1⟩
    · intro x hx2
      obtain ⟨i, hi2, rfl⟩ := List.mem_map.1 hx2
      have := key i (by simpa using hi2)
      exact this.2.2
    · rw [hll]; unfold maxLen at hm; omega
    · show ((List.range len).map fun i => (⟨numV (V0 i), numV (V1 i)⟩ : Cel)).length ≤ cap
      rw [hll]; exact hl
    · simp
theorem told_sized {ts : List TypeId} {ds : List (DataW H)} (h : (DataW.weightsEach P ts ds).all (· ≤ reachBytes) = true) {j b : Nat} {t e : TypeId} {d : DataW H} {n : Nat} (ht : ts[j]? = some t) (hd : ds[j]? = some d) (hu : P.underlying t = some (.slice e))
    (hb : P.bytesOf e = b) (hn : told d n) : n * b ≤ 140737488351232 := by
  rcases hn with ⟨_, rfl⟩ | ⟨elems, spare, rfl, rfl⟩
  · omega
  · have := sized_slice h ht hd hu
    rw [hb, Nat.add_mul] at this; unfold reachBytes at this; omega
theorem told_of {t e : TypeId} {W : World} {base : Nat} {sp : Nat → Bool} {held : Bool} {fuel : Nat} {p : Option Addr} {n c : Nat} {x : DataW H × List MemPlace} (ht : P.underlying t = some (.slice e)) (h : DataW.trod enc P W base sp held fuel t [.slice p n c] = some x) : told x.1 n := by
  rcases Go.Deep.open_slice ht h with ⟨hcs, rfl⟩ | ⟨a, len, cap, m, k, D, Pl, hcs, _, _, _, _, rfl, _⟩
  · simp at hcs
    exact .inl ⟨rfl, hcs.2.1⟩
  · simp at hcs
    exact .inr ⟨_, _, rfl, by simp [hcs.2.1]⟩
/-- What a world that is handed in reads as. -/
def wtold (d : DataW H) (s : Wld) : Prop := ∃ dA dB d2 db ds dm dt dN dT : DataW H, d = .agg [.agg [dA, dB, d2], db, ds, dm, dt, dN, dT] ∧ told d2 s.n ∧ told db s.nb ∧ told ds s.ns ∧ told dm s.nm ∧ told dt s.nt
set_option maxRecDepth 20000 in
theorem open_wld2 {W : World} {r : Reach} {b0 base : Nat} {sp : Nat → Bool} {held : Bool} {v : Value} {d : DataW H} {pl : List MemPlace} (hval : Value.okWide Try.prog W r b0 41 v) (hd : DataW.Trod enc Try.prog W base sp held 41 v d pl) : ∃ s : Wld, v = s.val ∧ s.fit W ∧ wtold d s := by
  obtain ⟨s, rfl, hf⟩ := open_wld hval hd
  refine ⟨s, rfl, hf, ?_⟩
  clear hf hval
  obtain ⟨A, B, p, n, c, l, pb, nb, cb, lb, ps, ns, cs, ls, pm, nm, cm, lm, pt, nt, ct, lt, N, T⟩ := s
  unfold Wld.val at hd
  dsimp only at hd
  have c22 : Try.prog.cellsOf 35 = 1 := by kernel_rfl
  have c24 : Try.prog.cellsOf 37 = 3 := by kernel_rfl
  have c25 : Try.prog.cellsOf 38 = 1 := by kernel_rfl
  have c26 : Try.prog.cellsOf 39 = 1 := by kernel_rfl
  obtain ⟨fuel, hf⟩ := hd
  obtain ⟨xs, k, _, hx, _, hxl, hfs⟩ := DataW.trod_struct Try.underlying41 hf
  match xs, hxl with
  | [z0, z1, z2, z3, z4, z5, z6], _ =>
    have e0 := hfs 0 _ rfl
    have e1 := hfs 1 _ rfl
    have e2 := hfs 2 _ rfl
    have e3 := hfs 3 _ rfl
    have e4 := hfs 4 _ rfl
    simp [c22, c24, c25, c26, Value.cells] at e0 e1 e2 e3 e4
    obtain ⟨ys, k2, _, hy, _, hyl, hgs⟩ := DataW.trod_struct Try.underlying37 e0
    match ys, hyl with
    | [y0, y1, y2], _ =>
      have i2 := hgs 2 _ rfl
      simp [c22] at i2
      have hd := congrArg Prod.fst hx
      subst hy
      exact ⟨y0.1, y1.1, y2.1, z1.1, z2.1, z3.1, z4.1, z5.1, z6.1, hd, told_of Try.underlying35 i2, told_of Try.underlying38 e1, told_of Try.underlying35 e2, told_of Try.underlying35 e3, told_of Try.underlying39 e4⟩
/-- How great the lists of a world that is handed in can be. -/
def wsz (s : Wld) : Prop := s.n * 8 ≤ 140737488351232 ∧ s.nb * 16 ≤ 140737488351232 ∧ s.ns * 8 ≤ 140737488351232 ∧ s.nm * 8 ≤ 140737488351232 ∧ s.nt * 56 ≤ 140737488351232
theorem told_weight {d : DataW H} {n b : Nat} {t e : TypeId} (hn : told d n) (hu : P.underlying t = some (.slice e)) (hb : P.bytesOf e = b) (h : ∀ m ∈ d.weights P t, m ≤ reachBytes) : n * b ≤ 140737488351232 := by
  rcases hn with ⟨_, rfl⟩ | ⟨elems, spare, rfl, rfl⟩
  · omega
  · have := h ((elems.length + spare.length) * P.bytesOf e) (by simp [DataW.weights, hu])
    rw [hb, Nat.add_mul] at this; unfold reachBytes at this; omega
theorem wld_sized {ts : List TypeId} {ds : List (DataW H)} (h : (DataW.weightsEach Try.prog ts ds).all (· ≤ reachBytes) = true) {j : Nat} {d : DataW H} {s : Wld} (ht : ts[j]? = some 41) (hd : ds[j]? = some d) (hw : wtold d s) : wsz s := by
  obtain ⟨dA, dB, d2, db, ds', dm, dt, dN, dT, rfl, h2, hb, hs, hm, ht'⟩ := hw
  have hall : ∀ m ∈ (DataW.agg [.agg [dA, dB, d2], db, ds', dm, dt, dN, dT] : DataW H).weights Try.prog 41, m ≤ reachBytes := fun m hm => by
    have := List.all_eq_true.1 h _ (DataW.weights_mem_each ht hd _ hm)
    simpa using this
  have hw : (DataW.agg [.agg [dA, dB, d2], db, ds', dm, dt, dN, dT] : DataW H).weights Try.prog 41 = (dA.weights Try.prog 3 ++ (dB.weights Try.prog 3 ++ (d2.weights Try.prog 35 ++ []))) ++ (db.weights Try.prog 38 ++ (ds'.weights Try.prog 35 ++ (dm.weights Try.prog 35 ++ (dt.weights Try.prog 39 ++ (dN.weights Try.prog 3 ++ (dT.weights Try.prog 3 ++ [])))))) := by
    simp [DataW.weights, Try.underlying41, Try.underlying37, DataW.weightsEach]
  rw [hw] at hall
  simp only [List.mem_append] at hall
  refine ⟨told_weight h2 Try.underlying35 (by kernel_rfl) (fun m hm => hall m (by simp [hm])), told_weight hb Try.underlying38 (by kernel_rfl) (fun m hm => hall m (by simp [hm])), told_weight hs Try.underlying35 (by kernel_rfl) (fun m hm => hall m (by simp [hm])), told_weight hm Try.underlying35 (by kernel_rfl) (fun m hm => hall m (by simp [hm])), told_weight ht' Try.underlying39 (by kernel_rfl) (fun m hm => hall m (by simp [hm]))⟩
end Go.Proofs.Ytgebfpncapfaoaa
