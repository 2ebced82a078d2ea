/- Rows of numbers of 64 bits in memory: one that is read where it lies. -/
import Derived.WalkKit
import Derived.Carry
import Derived.Laws.World
import Derived.Deep.QuietTactic
namespace Go.Proofs.Yteedlbdjbffheaa
open Go.RowKit
set_option linter.unusedVariables false

/-- The numbers l lie at p, one a cell. -/
def row (w : World) (p : Option Addr) (l : List Nat) : Prop := ∀ j, j < l.length → ∃ a, p = some a ∧ w.cell? (a.add j) = some (.int .u64 ((l.getD j 0 : Nat) : Int))
def small (l : List Nat) : Prop := ∀ x ∈ l, x < 18446744073709551616
theorem small_at {l : List Nat} (h : small l) (j : Nat) : l.getD j 0 < 18446744073709551616 := by
  rw [List.getD_eq_getElem?_getD]
  by_cases hj : j < l.length
  · rw [List.getElem?_eq_getElem hj]; exact h _ (List.getElem_mem hj)
  · rw [List.getElem?_eq_none (by omega)]; decide
theorem row_nil (w : World) (p : Option Addr) : row w p [] := fun j h => absurd h (Nat.not_lt_zero _)
theorem row_cell {w : World} {a : Addr} {l : List Nat} (h : row w (some a) l) (j : Nat) (hj : j < l.length) : w.cell? (a.add j) = some (.int .u64 ((l.getD j 0 : Nat) : Int)) := by
  obtain ⟨b, hb, hc⟩ := h j hj
  cases hb; exact hc
theorem row_some {w : World} {p : Option Addr} {l : List Nat} (h : row w p l) (hl : 0 < l.length) : ∃ a, p = some a := by
  obtain ⟨b, hb, _⟩ := h 0 hl
  exact ⟨b, hb⟩
theorem add_block (a : Addr) (j : Nat) : (a.add j).block = a.block := by unfold Addr.add; split <;> rfl
theorem cell_lt {w : World} {a : Addr} {v : Value} (h : w.cell? a = some v) : a.block < w.heap.size := by
  unfold World.cell? at h
  apply Classical.byContradiction
  intro hn
  rw [Array.getElem?_eq_none (by omega)] at h
  simp at h
theorem row_below {w w' : World} {p : Option Addr} {l : List Nat} (h : row w p l) (hb : Below w.heap.size w w') : row w' p l := by
  intro j hj
  obtain ⟨a, ha, hc⟩ := h j hj
  refine ⟨a, ha, ?_⟩
  rw [hb.cell (cell_lt hc)]; exact hc
theorem row_lt {w : World} {p : Option Addr} {l : List Nat} (h : row w p l) (a : Addr) (ha : p = some a) (hl : 0 < l.length) : a.block < w.heap.size := by
  subst ha
  have := cell_lt (row_cell h 0 hl)
  rwa [add_block] at this
theorem row_drewN {w : World} {p : Option Addr} {l : List Nat} (h : row w p l) (n : Nat) : row (w.drewN n) p l := h
end Go.Proofs.Yteedlbdjbffheaa
