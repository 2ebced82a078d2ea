/- Small facts on fields and rows. -/
import Derived.Test.YtgebfpncapfaoaaCon
namespace Go.Proofs.Ytgebfpncapfaoaa
open Go.RowKit
set_option linter.unusedVariables false
theorem mine_some {n : Nat} {B : Nat} {w : World} {v : Value} {l : List Int} (h : mine 3 vi B w v l) (hl : l.length = n) (hn : 1 ≤ n) : ∃ a c, v = .slice (some a) n c ∧ row vi w (some a) l ∧ n ≤ c := by
  obtain ⟨p, c, rfl, hr, hc, _⟩ := mine_full h
  obtain ⟨a, rfl⟩ := row_some hr (by omega)
  subst hl
  exact ⟨a, c, rfl, hr, hc⟩
theorem add_add (b : Addr) (i j : Nat) : (b.add i).add j = b.add (i + j) := by
  unfold Addr.add
  by_cases hi : i = 0 <;> by_cases hj : j = 0 <;> simp_all [Nat.add_assoc]
end Go.Proofs.Ytgebfpncapfaoaa
