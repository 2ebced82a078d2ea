/- Rows of texts in memory: one that is read where it lies; its parts. -/
import Derived.Test.YteedlbdjbffheaaMem
namespace Go.Proofs.Yteedlbdjbffheaa
open Go.RowKit
set_option linter.unusedVariables false

/-- The texts l lie at p, one a cell. -/
def txt (w : World) (p : Option Addr) (l : List ByteArray) : Prop := ∀ j, j < l.length → ∃ a, p = some a ∧ w.cell? (a.add j) = some (.string (l.getD j ⟨#[]⟩))
/-- No text is longer than an int tells. -/
def tsm (l : List ByteArray) : Prop := ∀ s ∈ l, s.size ≤ 9223372036854775807
theorem tsm_at {l : List ByteArray} (h : tsm l) (j : Nat) : (l.getD j ⟨#[]⟩).size ≤ 9223372036854775807 := by
  rw [List.getD_eq_getElem?_getD]
  by_cases hj : j < l.length
  · rw [List.getElem?_eq_getElem hj]; exact h _ (List.getElem_mem hj)
  · rw [List.getElem?_eq_none (by omega)]; exact Nat.zero_le _
theorem tsm_take {l : List ByteArray} (h : tsm l) (m : Nat) : tsm (l.take m) := fun s hs => h s (List.mem_of_mem_take hs)
theorem tsm_drop {l : List ByteArray} (h : tsm l) (m : Nat) : tsm (l.drop m) := fun s hs => h s (List.mem_of_mem_drop hs)
theorem txt_nil (w : World) (p : Option Addr) : txt w p [] := fun j h => absurd h (Nat.not_lt_zero _)
theorem txt_cell {w : World} {a : Addr} {l : List ByteArray} (h : txt w (some a) l) (j : Nat) (hj : j < l.length) : w.cell? (a.add j) = some (.string (l.getD j ⟨#[]⟩)) := by
  obtain ⟨b, hb, hc⟩ := h j hj
  cases hb; exact hc
theorem txt_some {w : World} {p : Option Addr} {l : List ByteArray} (h : txt w p l) (hl : 0 < l.length) : ∃ a, p = some a := by
  obtain ⟨b, hb, _⟩ := h 0 hl
  exact ⟨b, hb⟩
theorem txt_below {w w' : World} {p : Option Addr} {l : List ByteArray} (h : txt w p l) (hb : Below w.heap.size w w') : txt w' p l := by
  intro j hj
  obtain ⟨a, ha, hc⟩ := h j hj
  refine ⟨a, ha, ?_⟩
  rw [hb.cell (cell_lt hc)]; exact hc
theorem txt_drewN {w : World} {p : Option Addr} {l : List ByteArray} (h : txt w p l) (n : Nat) : txt (w.drewN n) p l := h
theorem add_add (a : Addr) (m j : Nat) : (a.add m).add j = a.add (m + j) := by
  unfold Addr.add
  by_cases hm : m = 0
  · subst hm; simp
  · by_cases hj : j = 0
    · subst hj; simp [hm]
    · rw [if_neg hj, if_neg hm, if_neg (by omega)]; simp; omega
theorem txt_take {w : World} {p : Option Addr} {l : List ByteArray} (h : txt w p l) (m : Nat) : txt w p (l.take m) := by
  intro j hj
  rw [List.length_take] at hj
  obtain ⟨a, ha, hc⟩ := h j (by omega)
  refine ⟨a, ha, ?_⟩
  rw [hc]; simp [List.getD_eq_getElem?_getD, show j < m by omega]
theorem txt_drop {w : World} {a : Addr} {l : List ByteArray} (h : txt w (some a) l) (m : Nat) : txt w (some (a.add m)) (l.drop m) := by
  intro j hj
  rw [List.length_drop] at hj
  have hc := txt_cell h (m + j) (by omega)
  refine ⟨_, rfl, ?_⟩
  rw [add_add, hc]; simp [List.getD_eq_getElem?_getD]
end Go.Proofs.Yteedlbdjbffheaa
