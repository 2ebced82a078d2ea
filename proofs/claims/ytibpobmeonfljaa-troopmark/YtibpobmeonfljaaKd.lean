/- A list's mark is that of the numbers that stand an odd number of times in it. -/
import Derived.Test.YtibpobmeonfljaaKa
namespace Go.Proofs.Ytibpobmeonfljaa
set_option linter.unusedVariables false

def od (l : List Nat) (x : Nat) : Bool := l.count x % 2 == 1
theorem tn_flip (p q : Nat → Bool) (x : Nat) (hx : q x = !p x) (h : ∀ y, y ≠ x → q y = p y) : ∀ D : List Nat, D.Nodup → x ∈ D → ∀ m, tn m (D.filter q) = tn (m ^^^ mx x) (D.filter p)
  | [], _, hm, m => by cases hm
  | y :: D, hn, hm, m => by
    rw [List.nodup_cons] at hn
    by_cases e : y = x
    · subst e
      have hD : D.filter q = D.filter p := List.filter_congr fun z hz => h z (fun e => hn.1 (e ▸ hz))
      rw [List.filter_cons, List.filter_cons, hD, hx]
      cases hp : p y
      · simp [tn_cons]
      · simp [tn_cons, Nat.xor_assoc]
    · have hm' : x ∈ D := by rcases List.mem_cons.1 hm with h1 | h1; exact absurd h1.symm e; exact h1
      have ih := tn_flip p q x hx h D hn.2 hm'
      rw [List.filter_cons, List.filter_cons, h y e]
      cases hp : p y
      · simp [ih]
      · simp [tn_cons, ih]
        rw [Nat.xor_assoc, Nat.xor_comm (mx y), ← Nat.xor_assoc]
theorem tn_odd : ∀ (l D : List Nat), D.Nodup → (∀ x ∈ l, x ∈ D) → ∀ m, tn m l = tn m (D.filter (od l))
  | [], D, _, _, m => by
    have : D.filter (od []) = [] := List.filter_eq_nil_iff.2 fun x _ => by simp [od]
    rw [this]
  | x :: l, D, hn, hD, m => by
    rw [tn_cons, tn_odd l D hn (fun y hy => hD y (List.mem_cons_of_mem _ hy))]
    refine (tn_flip (od l) (od (x :: l)) x ?_ ?_ D hn (hD x List.mem_cons_self) m).symm
    · simp only [od, List.count_cons_self]
      have : List.count x l % 2 = 0 ∨ List.count x l % 2 = 1 := by omega
      rcases this with h | h
      · rw [h, show (List.count x l + 1) % 2 = 1 by omega]; rfl
      · rw [h, show (List.count x l + 1) % 2 = 0 by omega]; rfl
    · intro y hy
      simp only [od, List.count_cons_of_ne (Ne.symm hy)]

/-- The numbers of a list's first k places, each once. -/
def fo (l : List Nat) : Nat → List Nat
  | 0 => []
  | k + 1 => if (l.take k).contains (l.getD k 0) then fo l k else fo l k ++ [l.getD k 0]
theorem takeu_snoc (l : List Nat) (k : Nat) (h : k < l.length) : l.take (k + 1) = l.take k ++ [l.getD k 0] := by
  rw [List.take_succ_eq_append_getElem h, List.getD_eq_getElem?_getD, List.getElem?_eq_getElem h]; rfl
theorem fo_mem (l : List Nat) : ∀ k, k ≤ l.length → ∀ x, x ∈ fo l k ↔ x ∈ l.take k
  | 0, _, x => by simp [fo]
  | k + 1, h, x => by
    have ih := fo_mem l k (by omega)
    rw [takeu_snoc l k (by omega)]
    unfold fo
    split
    · rename_i hc
      rw [ih x]
      simp only [List.contains_iff_mem] at hc
      constructor
      · intro hx; exact List.mem_append_left _ hx
      · intro hx
        rcases List.mem_append.1 hx with h1 | h1
        · exact h1
        · simp at h1; rw [h1]; simpa using hc
    · rw [List.mem_append, List.mem_append, ih x]
theorem fo_nodup (l : List Nat) : ∀ k, k ≤ l.length → (fo l k).Nodup
  | 0, _ => List.nodup_nil
  | k + 1, h => by
    have ih := fo_nodup l k (by omega)
    unfold fo
    split
    · exact ih
    · rename_i hc
      rw [List.nodup_append]
      refine ⟨ih, by simp, ?_⟩
      intro a ha b hb e
      have hb' : b = l.getD k 0 := by simpa using hb
      rw [e, hb'] at ha
      rw [fo_mem l k (by omega)] at ha
      exact hc (List.contains_iff_mem.2 ha)
/-- What the reference has behind k places. -/
def mo (l : List Nat) (k : Nat) : Nat := tn 0 ((fo l k).filter (od l))
theorem mo_end (l : List Nat) : mo l l.length = tn 0 l := by
  unfold mo
  refine (tn_odd l (fo l l.length) (fo_nodup l _ (Nat.le_refl _)) (fun x hx => ?_) 0).symm
  rw [fo_mem l _ (Nat.le_refl _), List.take_length]; exact hx
theorem mo_zero (l : List Nat) : mo l 0 = 0 := rfl
theorem mo_yes {l : List Nat} {k : Nat} (h1 : (l.take k).contains (l.getD k 0) = false) (h2 : l.count (l.getD k 0) % 2 = 1) : mo l (k + 1) = mo l k ^^^ mx (l.getD k 0) := by
  unfold mo
  rw [fo, h1, if_neg (by decide), List.filter_append, tn_append]
  have : od l (l.getD k 0) = true := by simp only [od]; rw [h2]; rfl
  rw [List.filter_cons, this]; rfl
theorem mo_seen {l : List Nat} {k : Nat} (h1 : (l.take k).contains (l.getD k 0) = true) : mo l (k + 1) = mo l k := by
  unfold mo
  rw [fo, h1, if_pos rfl]
theorem mo_even {l : List Nat} {k : Nat} (h2 : ¬ l.count (l.getD k 0) % 2 = 1) : mo l (k + 1) = mo l k := by
  cases h1 : (l.take k).contains (l.getD k 0)
  · unfold mo
    rw [fo, h1, if_neg (by decide), List.filter_append, tn_append]
    have : od l (l.getD k 0) = false := by simp only [od]; exact beq_eq_false_iff_ne.2 h2
    rw [List.filter_cons, this]; rfl
  · exact mo_seen h1
theorem mo_lt (l : List Nat) (k : Nat) : mo l k < 18446744073709551616 := tn_lt (by decide) _

/-- What the inner round has behind j places: how often x stood, and whether none of them was ahead of i. -/
def ct (l : List Nat) (x j : Nat) : Nat := (l.take j).count x
def ft (l : List Nat) (x i j : Nat) : Bool := !(l.take (min i j)).contains x
theorem ct_yes {l : List Nat} {x j : Nat} (hj : j < l.length) (h : l.getD j 0 = x) : ct l x (j + 1) = ct l x j + 1 := by
  unfold ct; rw [takeu_snoc l j hj, List.count_append, h]; simp
theorem ct_no {l : List Nat} {x j : Nat} (hj : j < l.length) (h : ¬ l.getD j 0 = x) : ct l x (j + 1) = ct l x j := by
  unfold ct; rw [takeu_snoc l j hj, List.count_append, List.count_singleton, beq_eq_false_iff_ne.2 h]; simp
theorem ct_le (l : List Nat) (x j : Nat) : ct l x j ≤ l.length := Nat.le_trans List.count_le_length (by simp; omega)
theorem ft_yes {l : List Nat} {x i j : Nat} (hj : j < l.length) (h : l.getD j 0 = x) : ft l x i (j + 1) = (ft l x i j && decide (i ≤ j)) := by
  unfold ft
  by_cases c : i ≤ j
  · rw [show min i (j + 1) = i by omega, show min i j = i by omega, decide_eq_true c, Bool.and_true]
  · rw [show min i (j + 1) = j + 1 by omega, takeu_snoc l j hj, h, decide_eq_false c, Bool.and_false]
    simp
theorem ft_no {l : List Nat} {x i j : Nat} (hj : j < l.length) (h : ¬ l.getD j 0 = x) : ft l x i (j + 1) = ft l x i j := by
  unfold ft
  by_cases c : i ≤ j
  · rw [show min i (j + 1) = i by omega, show min i j = i by omega]
  · rw [show min i (j + 1) = j + 1 by omega, show min i j = j by omega, takeu_snoc l j hj]
    congr 1
    rw [Bool.eq_iff_iff]
    simp only [List.contains_iff_mem, List.mem_append, List.mem_singleton]
    constructor
    · intro g
      rcases g with g | g
      · exact g
      · exact absurd g.symm h
    · exact Or.inl
theorem ct_end (l : List Nat) (x : Nat) : ct l x l.length = l.count x := by unfold ct; rw [List.take_length]
theorem ft_end {l : List Nat} {x i : Nat} (hi : i < l.length) : ft l x i l.length = !(l.take i).contains x := by unfold ft; rw [show min i l.length = i by omega]
end Go.Proofs.Ytibpobmeonfljaa
