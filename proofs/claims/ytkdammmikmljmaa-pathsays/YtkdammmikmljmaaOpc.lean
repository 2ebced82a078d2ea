/- How a list of cells that is handed in is opened. -/
import Derived.Test.YtkdammmikmljmaaCk
import Derived.Test.YtkdammmikmljmaaOpen
import Derived.Deep.SlicePairs
namespace Go.Proofs.Ytkdammmikmljmaa
open Go.ChangeShapes Go.WideShapes Go.RowKit
set_option linter.unusedVariables false
variable {H : Type} {enc : TypeId × Value → H} {P : Program}
/-- A list of cells that is handed in: where it lies, its room, its cells. -/
structure Cst where
  p : Option Addr
  c : Nat
  l : List Cel
def Cst.val (s : Cst) : Value := .slice s.p s.l.length s.c
def Cst.fit (w : World) (s : Cst) : Prop := crow w s.p s.l ∧ (∀ c ∈ s.l, fits c.x ∧ fits c.y) ∧ s.l.length ≤ 9223372036854775807 ∧ (s.p = none → s.c = 0) ∧ s.l.length ≤ s.c
def numV : Value → Int | .int _ q => q | _ => 0
theorem open_cst {t e : TypeId} {f0 f1 : Field} (ht : P.underlying t = some (.slice e)) (he : P.underlying e = some (.struct #[f0, f1])) (h0 : P.underlying f0.type = some (.int .i64)) (h1 : P.underlying f1.type = some (.int .i64)) (o0 : f0.offset = 0) (o1 : f1.offset = 1) (c0 : P.cellsOf f0.type = 1) (c1 : P.cellsOf f1.type = 1) (ce : P.cellsOf e = 2) {W : World} {r : Reach} {b0 base : Nat} {sp : Nat → Bool} {held : Bool} {v : Value} {d : DataW H} {ps : List MemPlace}
    (hval : Value.okWide P W r b0 t v) (hd : DataW.Trod enc P W base sp held t v d ps) : ∃ s : Cst, v = s.val ∧ s.fit W ∧ told d s.l.length := by
  obtain ⟨a0, len, cap, rfl⟩ := okWide_slice ht hval
  obtain ⟨fuel, hf⟩ := hd
  rcases Go.Deep.open_slice_pairs ht he ce o0 o1 c0 c1 hf with ⟨hcs, hx⟩ | ⟨a, len', cap', m, n, V0, V1, D0, D1, P0, P1, hcs, _, hl, hm, hmm, hx, hi⟩
  · simp [Value.cells] at hcs hx
    obtain ⟨rfl, rfl, rfl⟩ := hcs
    exact ⟨⟨none, 0, []⟩, rfl, ⟨crow_nil _ _, (fun x hx => by cases hx), by simp, fun _ => rfl, Nat.le_refl _⟩, .inl ⟨hx.1, rfl⟩⟩
  · simp [Value.cells] at hcs hx
    obtain ⟨rfl, rfl, rfl⟩ := hcs
    have hlm : len ≤ m := by rw [hmm]; split <;> omega
    have key : ∀ i, i < len → V0 i = .int .i64 (numV (V0 i)) ∧ V1 i = .int .i64 (numV (V1 i)) ∧ fits (numV (V0 i)) ∧ fits (numV (V1 i)) := by
      intro i hi'
      obtain ⟨_, _, t0, t1⟩ := hi i (by omega)
      obtain ⟨A, ea, _, wa⟩ := DataW.trod_int h0 t0
      obtain ⟨B, eb, _, wb⟩ := DataW.trod_int h1 t1
      simp at ea eb
      rw [ea, eb]
      exact ⟨rfl, rfl, int_of wa, int_of wb⟩
    have hll : ((List.range len).map fun i => (⟨numV (V0 i), numV (V1 i)⟩ : Cel)).length = len := by simp
    refine ⟨⟨some a, cap, (List.range len).map fun i => ⟨numV (V0 i), numV (V1 i)⟩⟩, ?_, ⟨?_, ?_, ?_, fun h => (by cases h), ?_⟩, .inr ⟨_, _, hx.1, ?_⟩⟩
    · unfold Cst.val; rw [hll]
    · intro j x hj
      have hj' : j < len := by have := (List.getElem?_eq_some_iff.1 hj).1; rwa [hll] at this
      obtain ⟨k0, k1, _, _⟩ := hi j (by omega)
      have hk := key j hj'
      simp [hj'] at hj
      rw [← hj]
      exact ⟨a, rfl, by rw [k0]; exact congrArg some hk.1, by rw [k1]; exact congrArg some hk.2.1⟩
    · intro x hx2
      obtain ⟨i, hi2, rfl⟩ := List.mem_map.1 hx2
      have := key i (by simpa using hi2)
      exact this.2.2
    · rw [hll]; unfold maxLen at hm; omega
    · show ((List.range len).map fun i => (⟨numV (V0 i), numV (V1 i)⟩ : Cel)).length ≤ cap
      rw [hll]; exact hl
    · simp
theorem told_sized {ts : List TypeId} {ds : List (DataW H)} (h : (DataW.weightsEach P ts ds).all (· ≤ reachBytes) = true) {j b : Nat} {t e : TypeId} {d : DataW H} {n : Nat} (ht : ts[j]? = some t) (hd : ds[j]? = some d) (hu : P.underlying t = some (.slice e))
    (hb : P.bytesOf e = b) (hn : told d n) : n * b ≤ 140737488351232 := by
  rcases hn with ⟨_, rfl⟩ | ⟨elems, spare, rfl, rfl⟩
  · omega
  · have := sized_slice h ht hd hu
    rw [hb, Nat.add_mul] at this; unfold reachBytes at this; omega
theorem bulk_pos (d : DataW H) : 1 ≤ Rows.uptoBulk d := by
  cases d with
  | lit l => cases l <;> simp [Rows.uptoBulk]
  | _ => simp [Rows.uptoBulk]
theorem bulk_all : ∀ l : List (DataW H), l.length ≤ Rows.uptoBulkAll l
  | [] => Nat.zero_le _
  | d :: r => by
    have h1 := bulk_pos d
    have h2 := bulk_all r
    simp only [Rows.uptoBulkAll, List.length_cons]; omega
theorem told_bulk {d : DataW H} {n : Nat} (h : told d n) : n ≤ Rows.uptoBulk d := by
  rcases h with ⟨_, rfl⟩ | ⟨elems, spare, rfl, rfl⟩
  · omega
  · have := bulk_all elems
    simp only [Rows.uptoBulk]; omega
end Go.Proofs.Ytkdammmikmljmaa
