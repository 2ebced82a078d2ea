/- The text of a field: its rows, one behind the other. -/
import Derived.Test.YteemcighpoomhaaTx
namespace Go.Proofs.Yteemcighpoomhaa
open Go.RowKit
set_option linter.unusedVariables false
/-- The sign of a place. -/
def sg (x : Int) : UInt8 := if x = 0 then 46 else if x = 1 then 35 else if x = 2 then 116 else 111
/-- Row y of a field that is so wide, and its text. -/
def rl (W : Nat) (l : List Int) (y : Nat) : List Int := (l.drop (y * W)).take W
def rt (W : Nat) (l : List Int) (y : Nat) : List UInt8 := (rl W l y).map sg ++ [10]
def tx {H : Nat} (W : Nat) (l : List Int) (ys : List (Rw H)) : List UInt8 := ys.flatMap fun y => rt W l y.1
def txt (W H : Nat) (l : List Int) : List UInt8 := (List.range H).flatMap (rt W l)
theorem tx_upto {H : Nat} (W : Nat) (l : List Int) : ∀ {k : Nat}, k ≤ H → tx W l (upto H k) = (List.range k).flatMap (rt W l)
  | 0, _ => rfl
  | k + 1, h => by
    have ih := tx_upto W l (k := k) (H := H) (by omega)
    rw [upto_succ (by omega), List.range_succ, List.flatMap_append, ← ih]; simp [tx]
theorem tx_all {H : Nat} (W : Nat) (l : List Int) : tx W l (upto H H) = txt W H l := tx_upto W l (Nat.le_refl _)
theorem rl_len {W H : Nat} {l : List Int} (hl : l.length = W * H) {y : Nat} (hy : y < H) : (rl W l y).length = W := by
  have : (y + 1) * W ≤ H * W := Nat.mul_le_mul_right _ hy
  rw [Nat.mul_comm H W, Nat.add_mul] at this
  unfold rl; simp; omega
theorem rl_at {W H : Nat} {l : List Int} (hl : l.length = W * H) {y k : Nat} (hy : y < H) (hk : k < W) : ∃ h : y * W + k < l.length, ∃ h' : k < (rl W l y).length, (rl W l y)[k] = l[y * W + k] := by
  have : (y + 1) * W ≤ H * W := Nat.mul_le_mul_right _ hy
  rw [Nat.mul_comm H W, Nat.add_mul] at this
  refine ⟨by omega, by rw [rl_len hl hy]; exact hk, ?_⟩
  unfold rl; simp
theorem rt_len {W H : Nat} {l : List Int} (hl : l.length = W * H) {y : Nat} (hy : y < H) : (rt W l y).length = W + 1 := by
  unfold rt; simp [rl_len hl hy]
theorem tx_len {W H : Nat} {l : List Int} (hl : l.length = W * H) : ∀ (ys : List (Rw H)), (tx W l ys).length = (W + 1) * ys.length
  | [] => by simp [tx]
  | y :: ys => by
    have ih := tx_len hl ys
    simp only [tx, List.flatMap_cons, List.length_append] at ih ⊢
    rw [ih, rt_len hl y.2, List.length_cons, Nat.mul_add]; omega
theorem txt_len {W H : Nat} {l : List Int} (hl : l.length = W * H) : (txt W H l).length = (W + 1) * H := by
  rw [← tx_all, tx_len hl, upto_length (Nat.le_refl _)]
theorem good_at {l : List Int} (h : l.any bad = false) {k : Nat} (hk : k < l.length) : 0 ≤ l[k] ∧ l[k] < 4 := by
  have := List.any_eq_false.1 h l[k] (List.getElem_mem _)
  unfold bad at this; simp at this; omega
theorem add_add (a : Addr) (i j : Nat) : (a.add i).add j = a.add (i + j) := by
  unfold Addr.add; split <;> split <;> simp_all <;> omega
end Go.Proofs.Yteemcighpoomhaa
