/- A row of bytes in memory, and how it is filled from the front. -/
import Derived.WalkKit
import Derived.Carry
import Derived.Laws.World
import Derived.Laws.IdiomStrings
import Derived.Deep.OwnRows
import Derived.Deep.QuietTactic
namespace Go.Proofs.Ytgebfpncapfaoaa.cr
open Go.RowKit
variable {P : Program}

/-- Block b holds the bytes l from its front, none of them frozen. -/
def brow (w : World) (b : Nat) (l : List UInt8) : Prop := ∀ j (h : j < l.length), w.cell? ⟨b, j, none⟩ = some (.int .u8 (l[j].toNat : Int)) ∧ w.frozen? ⟨b, j, none⟩ = false

theorem brow_cell {w : World} {b : Nat} {l : List UInt8} (h : brow w b l) (j : Nat) (hj : j < l.length) : w.cell? ⟨b, j, none⟩ = some (.int .u8 (l[j].toNat : Int)) := (h j hj).1
theorem brow_free {w : World} {b : Nat} {l : List UInt8} (h : brow w b l) (j : Nat) (hj : j < l.length) : w.frozen? ⟨b, j, none⟩ = false := (h j hj).2
theorem brow_set {w : World} {b : Nat} {l : List UInt8} (h : brow w b l) (i : Nat) (hi : i < l.length) (x : UInt8) : brow (w.setCell ⟨b, i, none⟩ (.int .u8 (x.toNat : Int))) b (l.set i x) := by
  intro j hj
  have hj' : j < l.length := by simpa using hj
  refine ⟨?_, by rw [World.frozen?_setCell]; exact (h j hj').2⟩
  by_cases e : i = j
  · subst e
    rw [World.cell?_setCell_same (h := (h i hi).1)]
    simp
  · rw [World.cell?_setCell_other (h := fun q => e (by injection q)), (h j hj').1]
    simp [e]
theorem brow_drewN {w : World} {b : Nat} {l : List UInt8} (h : brow w b l) (n : Nat) : brow (w.drewN n) b l := h
theorem brow_below {w w' : World} {b B : Nat} {l : List UInt8} (h : brow w b l) (hb : Below B w w') (hB : b < B) : brow w' b l := fun j hj =>
  ⟨(hb.cell (p := ⟨b, j, none⟩) hB).trans (h j hj).1, (hb.frozen (p := ⟨b, j, none⟩) hB).trans (h j hj).2⟩
theorem brow_made (w : World) (n : Nat) (t : TypeId) : brow (w.alloc (.cells (madeCells #[.int .u8 0] n) t)) w.heap.size (List.replicate n 0) := by
  intro j hj
  have hj' : j < n := by simpa using hj
  have h := World.rowIs_made w (.int .u8 0) n t
  refine ⟨?_, h.frozen j⟩
  rw [h.cell hj']
  simp
theorem brow_bytes (w : World) (s : ByteArray) (c : Nat) (t : TypeId) : brow (w.alloc (.cells (bytesRow s c) t ((bytesRow s c).size, (bytesRow s c).size + 1))) w.heap.size s.data.toList := by
  intro j hj
  have hj' : j < s.data.size := by simpa using hj
  refine ⟨?_, ?_⟩
  · rw [World.cell?_alloc_mark, bytesRow_at s c j hj']
    simp
  · rw [World.frozen?_alloc_mark]
    have : j < (bytesRow s c).size := by unfold bytesRow; rw [Array.size_append, Array.size_map]; omega
    simp; omega
theorem brow_string {w : World} {b : Nat} {l : List UInt8} (h : brow w b l) (src dst e : TypeId) (cap : Nat) (hs : P.underlying src = some (.slice e)) (he : P.underlying e = some (.int .u8)) (hd : P.underlying dst = some .string) :
    (convert src dst (.slice (some ⟨b, 0, none⟩) l.length cap)).run P w = .ok (.string ⟨l.toArray⟩) w := by
  refine run_convert_bytes_back w src dst e ⟨b, 0, none⟩ cap l hs he hd ?_
  intro j hj
  have hadd : (⟨b, 0, none⟩ : Addr).add j = ⟨b, j, none⟩ := by unfold Addr.add; split <;> simp_all
  rw [hadd, (h j hj).1]

/-- A row that is filled from the front: so far k. -/
def filled (l : List UInt8) (k : Nat) : List UInt8 := l.take k ++ List.replicate (l.length - k) 0
theorem filled_zero (l : List UInt8) : filled l 0 = List.replicate l.length 0 := by simp [filled]
theorem filled_all (l : List UInt8) : filled l l.length = l := by simp [filled]
theorem filled_length (l : List UInt8) (k : Nat) (h : k ≤ l.length) : (filled l k).length = l.length := by simp [filled]; omega
theorem filled_next (l : List UInt8) (k : Nat) (h : k < l.length) : (filled l k).set k l[k] = filled l (k + 1) := by
  apply List.ext_getElem
  · rw [List.length_set, filled_length _ _ (by omega), filled_length _ _ (by omega)]
  · intro j h1 h2
    rw [List.getElem_set]
    simp only [filled]
    have h3 : j < l.length := by rwa [filled_length _ _ (by omega)] at h2
    by_cases e : k = j
    · subst e
      rw [if_pos rfl, List.getElem_append_left (by simp; omega)]
      simp
    · rw [if_neg e]
      by_cases g : j < k
      · rw [List.getElem_append_left (by simp; omega), List.getElem_append_left (by simp; omega)]; simp
      · rw [List.getElem_append_right (by simp; omega), List.getElem_append_right (by simp; omega)]; simp
end Go.Proofs.Ytgebfpncapfaoaa.cr
