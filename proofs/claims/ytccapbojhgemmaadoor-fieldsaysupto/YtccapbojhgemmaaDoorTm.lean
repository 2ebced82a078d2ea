/- A field turned by a quarter: its places, as they come to be set. -/
import Derived.Test.YtccapbojhgemmaaDoorWr
namespace Go.Proofs.YtccapbojhgemmaaDoor
open Go.RowKit
set_option linter.unusedVariables false

/-- The place that comes to place j of the turned field; and the turned field. -/
def src (W H j : Nat) : Nat := (H - 1 - j % H) * W + j / H
def pl (W H : Nat) (l : List Int) (p : Nat → Nat → Bool) : List Int := (List.range (W * H)).map fun j => if p (H - 1 - j % H) (j / H) = true then l.getD (src W H j) 0 else 0
def tn (W H : Nat) (l : List Int) : List Int := (List.range (W * H)).map fun j => l.getD (src W H j) 0
theorem pl_len (W H : Nat) (l : List Int) (p : Nat → Nat → Bool) : (pl W H l p).length = W * H := by simp [pl]
theorem tn_len (W H : Nat) (l : List Int) : (tn W H l).length = W * H := by simp [tn]
theorem pl_none (W H : Nat) (l : List Int) : pl W H l (fun _ _ => false) = List.replicate (W * H) 0 := by
  unfold pl; apply List.ext_getElem <;> simp
theorem pl_all (W H : Nat) (l : List Int) (p : Nat → Nat → Bool) (h : ∀ y x, y < H → p y x = true) (hH : 1 ≤ H) : pl W H l p = tn W H l := by
  unfold pl tn
  apply List.map_congr_left
  intro j _
  rw [if_pos (h _ _ (by omega))]
theorem pl_congr (W H : Nat) (l : List Int) (p q : Nat → Nat → Bool) (h : ∀ y x, y < H → x < W → p y x = q y x) (hH : 1 ≤ H) : pl W H l p = pl W H l q := by
  unfold pl
  apply List.map_congr_left
  intro j hj
  rw [h _ _ (by omega) (by rw [Nat.div_lt_iff_lt_mul (by omega)]; simpa using hj)]
theorem ix_lt {W H y k : Nat} (hy : y < H) (hk : k < W) : k * H + (H - 1 - y) < W * H := by
  have : (k + 1) * H ≤ W * H := Nat.mul_le_mul_right _ hk
  rw [Nat.add_mul] at this; omega
theorem pl_set {W H : Nat} {l : List Int} {p : Nat → Nat → Bool} {y k : Nat} (hy : y < H) (hk : k < W) :
    (pl W H l p).set (k * H + (H - 1 - y)) (l.getD (y * W + k) 0) = pl W H l (fun y' x' => p y' x' || (decide (y' = y) && decide (x' = k))) := by
  apply List.ext_getElem
  · simp [pl]
  intro j h1 h2
  have hj : j < W * H := by simpa [pl] using h2
  rw [List.getElem_set]
  by_cases e : k * H + (H - 1 - y) = j
  · rw [if_pos e]
    have hd : j / H = k := by rw [← e, Nat.mul_comm, Nat.mul_add_div (by omega), Nat.div_eq_of_lt (by omega)]; omega
    have hm : j % H = H - 1 - y := by rw [← e, Nat.mul_comm, Nat.mul_add_mod, Nat.mod_eq_of_lt (by omega)]
    have hs : H - 1 - (H - 1 - y) = y := by omega
    simp [pl, src, hd, hm, hs]
  · rw [if_neg e]
    have hne : ¬ (H - 1 - j % H = y ∧ j / H = k) := by
      rintro ⟨e1, e2⟩
      apply e
      have h3 := Nat.div_add_mod j H
      have h4 := Nat.mod_lt j (show 0 < H by omega)
      rw [e2, Nat.mul_comm] at h3; omega
    simp [pl, hne]
/-- Which rows have come. -/
def inn {H : Nat} (ys : List (Rw H)) (y x : Nat) : Bool := ys.any fun r => decide (r.1 = y)
theorem inn_upto {H : Nat} : ∀ {k : Nat}, k ≤ H → ∀ {y x : Nat}, y < k → inn (upto H k) y x = true
  | 0, _, _, _, h => by omega
  | k + 1, hk, y, x, h => by
    rw [upto_succ (by omega)]
    unfold inn; rw [List.any_append]
    by_cases e : y < k
    · have := inn_upto (k := k) (H := H) (by omega) (x := x) e
      unfold inn at this; rw [this]; rfl
    · have : k = y := by omega
      simp [this]
theorem inn_snoc {H : Nat} (ys : List (Rw H)) (r : Rw H) (y x : Nat) : inn (ys ++ [r]) y x = (inn ys y x || decide (y = r.1)) := by
  unfold inn; rw [List.any_append]; simp [eq_comm]
theorem tn_good {W H : Nat} {l : List Int} (hg : l.any bad = false) : (tn W H l).any bad = false := by
  rw [List.any_eq_false]
  intro x hx
  obtain ⟨j, _, rfl⟩ := List.mem_map.1 hx
  rw [List.getD_eq_getElem?_getD]
  by_cases h : src W H j < l.length
  · rw [List.getElem?_eq_getElem h]
    have := good_at hg h
    unfold bad; simp; omega
  · rw [List.getElem?_eq_none (by omega)]; decide
end Go.Proofs.YtccapbojhgemmaaDoor
