/- A line that is moved, turned over or mirrored. -/
import Derived.Test.YtbedniajkcgaeaaMath
namespace Go.Proofs.Ytbedniajkcgaeaa

theorem ds_move (a b c : Int) : ds (a + c) (b + c) = ds a b := by unfold ds; omega
theorem ds_neg (a b : Int) : ds (-a) (-b) = ds a b := by unfold ds; omega
theorem bt_move (f t k n c : Int) : bt (f + c) (t + c) k n = bt f t k n + c := by
  unfold bt
  rw [ds_move]
  by_cases h : n = 0
  · rw [if_pos h, if_pos h]
  · rw [if_neg h, if_neg h]
    by_cases g : t < f
    · rw [if_pos g, if_pos (by omega)]; omega
    · rw [if_neg g, if_neg (by omega)]; omega
theorem ds_self (a : Int) : ds a a = 0 := by unfold ds; omega
theorem bt_same (f k n : Int) (hn : 0 ≤ n) : bt f f k n = f := by
  unfold bt
  by_cases h : n = 0
  · rw [if_pos h]
  · rw [if_neg h, if_neg (by omega), ds_self]
    have : gn k 0 n = 0 := gn_uniq (by omega) (by simp; omega) (by simp; omega)
    omega
theorem bt_neg (f t k n : Int) (hn : 0 ≤ n) : bt (-f) (-t) k n = -bt f t k n := by
  by_cases e : f = t
  · subst e; rw [bt_same _ _ _ hn, bt_same _ _ _ hn]
  · unfold bt
    rw [ds_neg]
    by_cases h : n = 0
    · rw [if_pos h, if_pos h]
    · rw [if_neg h, if_neg h]
      by_cases g : t < f
      · rw [if_pos g, if_neg (by omega)]; omega
      · rw [if_neg g, if_pos (by omega)]; omega
theorem kg_move (x y u v c d : Int) : kg (x + c) (y + d) (u + c) (v + d) = kg x y u v := by unfold kg; rw [ds_move, ds_move]
theorem kg_neg (x y u v : Int) : kg (-x) y (-u) v = kg x y u v := by unfold kg; rw [ds_neg]
theorem kg_turn (x y u v : Int) : kg y x v u = kg x y u v := by unfold kg mx; omega
end Go.Proofs.Ytbedniajkcgaeaa
