/- What is told of a way, from its beginning on. -/
import Derived.Test.YtkdammmikmljmaaLv
namespace Go.Proofs.Ytkdammmikmljmaa
set_option linter.unusedVariables false
section
variable {W H : Nat} {l far : List Int} {a b : Cel} {R : List Cel}
theorem fst_cel (ha : inf W H a) (i : Nat) : fst_ W [a] i ↔ i = ixc W a := by
  obtain ⟨x, y, rfl, _, _⟩ := ha
  rw [ixc_nat]; exact fst_one
theorem way_first (hs : Sol W H l (fst_ W [a]) far) (ha : inf W H a) (h : Trl W H l far b R) : (R.reverse)[0]? = some a := by
  have hp := trl_pos h
  rw [List.getElem?_reverse hp]
  have h1 : R.length - 1 - 0 < R.length := by omega
  rw [List.getElem?_eq_getElem h1]
  have h2 := trl_end hs (fun i _ => fst_cel ha i) h (k := R.length - 1 - 0) (by omega)
  rw [ixc_inj (trl_at h h1).1 ha h2]
theorem way_last (h : Trl W H l far b R) {M : Nat} (hM : R.length = M + 1) : (R.reverse)[M]? = some b := by
  rw [List.getElem?_reverse (by omega)]
  have : R.length - 1 - M = 0 := by omega
  rw [this]; exact trl_head h
theorem way_at {S : Nat → Prop} (hs : Sol W H l S far) (h : Trl W H l far b R) {j : Nat} {c : Cel} (hj : (R.reverse)[j]? = some c) : inf W H c ∧ 0 ≤ pa far (ixc W c) ∧ pa l (ixc W c) ≠ 1 := by
  have hl : j < R.length := by have := (List.getElem?_eq_some_iff.1 hj).1; simpa using this
  rw [List.getElem?_reverse hl, List.getElem?_eq_getElem (by omega)] at hj
  have e := Option.some.inj hj
  have h1 := trl_at h (k := R.length - 1 - j) (by omega)
  rw [e] at h1
  exact ⟨h1.1, h1.2, fun er => by have := hs.rock _ (inf_lt h1.1) er; omega⟩
theorem way_next {S : Nat → Prop} (hs : Sol W H l S far) (h : Trl W H l far b R) {j : Nat} {c d : Cel} (hc : (R.reverse)[j]? = some c) (hd : (R.reverse)[j + 1]? = some d) : adj W H (ixc W c) (ixc W d) ∧ pa far (ixc W d) = pa far (ixc W c) + kc (pa l (ixc W d)) := by
  have hl : j + 1 < R.length := by have := (List.getElem?_eq_some_iff.1 hd).1; simpa using this
  rw [List.getElem?_reverse (by omega), List.getElem?_eq_getElem (by omega)] at hc hd
  have ec := Option.some.inj hc
  have ed := Option.some.inj hd
  have h1 := trl_step hs h (k := R.length - 1 - (j + 1)) (by omega)
  have e : R.length - 1 - (j + 1) + 1 = R.length - 1 - j := by omega
  simp only [e] at h1
  rw [ec, ed] at h1
  exact h1
theorem adj_near {c d : Cel} (hc : inf W H c) (hd : inf W H d) (h : adj W H (ixc W c) (ixc W d)) : (d.x - c.x = 0 ∧ (d.y - c.y = 1 ∨ d.y - c.y = -1)) ∨ (d.y - c.y = 0 ∧ (d.x - c.x = 1 ∨ d.x - c.x = -1)) := by
  obtain ⟨X, Y, rfl, hX, hY⟩ := hc
  obtain ⟨X', Y', rfl, hX', hY'⟩ := hd
  rw [ixc_nat, ixc_nat] at h
  obtain ⟨x, y, x', y', h1, h2, h3, h4, h5, h6, h7⟩ := h
  obtain ⟨rfl, rfl⟩ := pl_inj hX h3 h1
  obtain ⟨rfl, rfl⟩ := pl_inj hX' h4 h2
  simp only
  omega
theorem near_sq {dx dy : Int} (h : (dx = 0 ∧ (dy = 1 ∨ dy = -1)) ∨ (dy = 0 ∧ (dx = 1 ∨ dx = -1))) : ∃ P Q : Int, dx * dx = P ∧ dy * dy = Q ∧ P + Q = 1 ∧ 0 ≤ P ∧ P ≤ 1 ∧ 0 ≤ Q ∧ Q ≤ 1 ∧ -1 ≤ dx ∧ dx ≤ 1 ∧ -1 ≤ dy ∧ dy ≤ 1 := by
  rcases h with ⟨rfl, rfl | rfl⟩ | ⟨rfl, rfl | rfl⟩
  all_goals exact ⟨_, _, rfl, rfl, by decide, by decide, by decide, by decide, by decide, by decide, by decide, by decide, by decide⟩
end
end Go.Proofs.Ytkdammmikmljmaa
