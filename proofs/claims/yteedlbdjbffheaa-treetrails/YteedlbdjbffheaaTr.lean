/- The mathematics of the tree: how a list is parted, its root, trails, going up by a trail, level by level and from the top; pieces of powers of two. -/
import Derived.Laws.BitsAllLaws
namespace Go.Proofs.Yteedlbdjbffheaa
set_option linter.unusedVariables false

/-- The greatest power of two that is at most n. -/
def pw (n : Nat) : Nat := 2 ^ Nat.log2 n
/-- How many of n are in the first part. -/
def sp (n : Nat) : Nat := pw (n - 1)
theorem pw_pos (n : Nat) : 0 < pw n := Nat.two_pow_pos _
theorem pw_le {n : Nat} (h : 0 < n) : pw n ≤ n := Nat.log2_self_le (by omega)
theorem pw_gt (n : Nat) : n < 2 * pw n := by
  unfold pw
  have := @Nat.lt_log2_self n
  rw [Nat.pow_succ] at this; omega
theorem pow_two_lt {a b : Nat} (h : 2 ^ a < 2 ^ b) : a < b := (Nat.pow_lt_pow_iff_right (by omega)).1 h
theorem pw_of {m n k : Nat} (hm : m = 2 ^ k) (h1 : m ≤ n) (h2 : n < 2 * m) : pw n = m := by
  have a := pw_gt n
  have b : pw n ≤ n := pw_le (by have := Nat.two_pow_pos k; omega)
  unfold pw at *
  subst hm
  have e1 : 2 ^ Nat.log2 n < 2 ^ (k + 1) := by rw [Nat.pow_succ]; omega
  have e2 : 2 ^ k < 2 ^ (Nat.log2 n + 1) := by rw [Nat.pow_succ]; omega
  have e3 := pow_two_lt e1
  have e4 := pow_two_lt e2
  rw [show Nat.log2 n = k by omega]
theorem sp_pos (n : Nat) : 0 < sp n := pw_pos _
theorem sp_lt {n : Nat} (h : 2 ≤ n) : sp n < n := by have := pw_le (n := n - 1) (by omega); unfold sp; omega
theorem sp_half {n : Nat} (h : 2 ≤ n) : n ≤ 2 * sp n := by have := pw_gt (n - 1); unfold sp; omega
theorem sp_of {m n k : Nat} (hm : m = 2 ^ k) (h1 : m < n) (h2 : n ≤ 2 * m) : sp n = m := pw_of hm (by omega) (by omega)
theorem sp_two : sp 2 = 1 := sp_of (k := 0) rfl (by omega) (by omega)
theorem sp_level {n : Nat} (h : 3 ≤ n) : sp n = 2 * sp ((n + 1) / 2) := by
  have a := sp_lt (n := n) (by omega)
  have b := sp_half (n := n) (by omega)
  obtain ⟨k, hk⟩ : ∃ k, sp n = 2 ^ k := ⟨_, rfl⟩
  cases k with
  | zero => simp at hk; omega
  | succ k =>
    rw [Nat.pow_succ] at hk
    have : sp ((n + 1) / 2) = 2 ^ k := sp_of (k := k) rfl (by omega) (by omega)
    omega
theorem sp_le_pow {n j : Nat} (h2 : 2 ≤ n) (h : n ≤ 2 ^ (j + 1)) : sp n ≤ 2 ^ j := by
  have a := sp_lt h2
  have e : 2 ^ Nat.log2 (n - 1) < 2 ^ (j + 1) := by unfold sp pw at a; omega
  have := pow_two_lt e
  unfold sp pw
  exact Nat.pow_le_pow_right (by omega) (by omega)
theorem pw_sp {n : Nat} (h : 0 < n) (hne : pw n ≠ n) : pw n = sp n := by
  have a := pw_gt n
  have b := pw_le h
  exact (sp_of (k := Nat.log2 n) rfl (by unfold pw at *; omega) (by unfold pw at *; omega)).symm

theorem xor_one (i : Nat) : i ^^^ 1 = if i % 2 = 0 then i + 1 else i - 1 := by
  have h := Nat.xor_div_two (a := i) (b := 1)
  have h2 := Nat.xor_mod_two_eq_one (a := i) (b := 1)
  simp at h
  split <;> rename_i hi
  · have : (i ^^^ 1) % 2 = 1 := by rw [h2]; simp; omega
    omega
  · have : ¬ (i ^^^ 1) % 2 = 1 := by rw [h2]; simp; omega
    omega

variable (f : Nat → Nat → Nat)

/-- The root of a list of marks. -/
def rt (l : List Nat) : Nat :=
  if h : l.length ≤ 1 then l.getD 0 0 else f (rt (l.take (sp l.length))) (rt (l.drop (sp l.length)))
termination_by l.length
decreasing_by
  · have := sp_lt (n := l.length) (by omega); rw [List.length_take]; omega
  · have := sp_pos l.length; rw [List.length_drop]; omega
theorem rt_nil : rt f [] = 0 := by rw [rt]; simp
theorem rt_one (x : Nat) : rt f [x] = x := by rw [rt]; simp
theorem rt_short {l : List Nat} (h : l.length ≤ 1) : rt f l = l.getD 0 0 := by rw [rt, dif_pos h]
theorem rt_step {l : List Nat} (h : 2 ≤ l.length) : rt f l = f (rt f (l.take (sp l.length))) (rt f (l.drop (sp l.length))) := by
  rw [rt, dif_neg (by omega)]

/-- One level up. -/
def up : List Nat → List Nat
  | [] => []
  | [x] => [x]
  | x :: y :: r => f x y :: up r
theorem up_length : ∀ l : List Nat, (up f l).length = (l.length + 1) / 2
  | [] => by simp [up]
  | [x] => by simp [up]
  | x :: y :: r => by simp only [up, List.length_cons]; rw [up_length r]; omega
theorem up_append : ∀ l r : List Nat, l.length % 2 = 0 → up f (l ++ r) = up f l ++ up f r
  | [], r, _ => rfl
  | [x], r, h => by simp at h
  | x :: y :: l, r, h => by
    simp only [List.cons_append, up]
    rw [up_append l r (by simp at h; omega)]
theorem up_take_drop (l : List Nat) (m : Nat) (hm : m ≤ l.length) : (up f (l.take (2 * m))) ++ up f (l.drop (2 * m)) = up f l ∨ l.length < 2 * m := by
  rcases Nat.lt_or_ge l.length (2 * m) with h | h
  · exact .inr h
  · left
    rw [← up_append _ _ _ (by rw [List.length_take]; omega), List.take_append_drop]
/-- A level's parts are the parts' levels. -/
theorem up_parts (l : List Nat) (h : 3 ≤ l.length) : (up f l).take (sp (up f l).length) = up f (l.take (sp l.length)) ∧ (up f l).drop (sp (up f l).length) = up f (l.drop (sp l.length)) := by
  have hl := up_length f l
  have hs := sp_level h
  have hlt := sp_lt (n := l.length) (by omega)
  rw [hl]
  have e : up f l = up f (l.take (sp l.length)) ++ up f (l.drop (sp l.length)) := by
    rw [← up_append _ _ _ (by rw [List.length_take]; omega), List.take_append_drop]
  have el : (up f (l.take (sp l.length))).length = sp ((l.length + 1) / 2) := by rw [up_length, List.length_take]; omega
  constructor
  · rw [e, ← el]; simp
  · rw [e, ← el]; simp
theorem rt_up : ∀ (n : Nat) (l : List Nat), l.length = n → rt f (up f l) = rt f l := by
  intro n
  induction n using Nat.strongRecOn with
  | _ n ih =>
    intro l hl
    rcases Nat.lt_or_ge n 3 with h | h
    · match l, hl with
      | [], _ => rfl
      | [x], _ => rfl
      | [x, y], _ =>
        have e := rt_step f (l := [x, y]) (by simp)
        rw [e]
        simp only [List.length_cons, List.length_nil, up]
        rw [sp_two]
        simp [rt_one]
      | x :: y :: z :: r, hl => simp at hl; omega
    · have h3 : 3 ≤ l.length := by omega
      have hp := sp_pos l.length
      have hlt := sp_lt (n := l.length) (by omega)
      rw [rt_step f (l := up f l) (by rw [up_length]; omega), (up_parts f l h3).1, (up_parts f l h3).2, rt_step f (l := l) (by omega),
        ih (l.take (sp l.length)).length (by rw [List.length_take]; omega) _ rfl, ih (l.drop (sp l.length)).length (by rw [List.length_drop]; omega) _ rfl]

/-- The trail of place i. -/
def tr (l : List Nat) (i : Nat) : List Nat :=
  if h : l.length ≤ 1 then [] else
    if i < sp l.length then tr (l.take (sp l.length)) i ++ [rt f (l.drop (sp l.length))] else tr (l.drop (sp l.length)) (i - sp l.length) ++ [rt f (l.take (sp l.length))]
termination_by l.length
decreasing_by
  · have := sp_lt (n := l.length) (by omega); rw [List.length_take]; omega
  · have := sp_pos l.length; rw [List.length_drop]; omega
theorem tr_short {l : List Nat} (h : l.length ≤ 1) (i : Nat) : tr f l i = [] := by rw [tr, dif_pos h]
theorem tr_left {l : List Nat} (h : 2 ≤ l.length) {i : Nat} (hi : i < sp l.length) : tr f l i = tr f (l.take (sp l.length)) i ++ [rt f (l.drop (sp l.length))] := by rw [tr, dif_neg (by omega), if_pos hi]
theorem tr_right {l : List Nat} (h : 2 ≤ l.length) {i : Nat} (hi : ¬ i < sp l.length) : tr f l i = tr f (l.drop (sp l.length)) (i - sp l.length) ++ [rt f (l.take (sp l.length))] := by rw [tr, dif_neg (by omega), if_neg hi]

/-- What stands beside i. -/
def be (l : List Nat) (i : Nat) : List Nat := if i ^^^ 1 < l.length then [l.getD (i ^^^ 1) 0] else []
theorem be_take {l : List Nat} {m i : Nat} (hm : m ≤ l.length) (h2 : m % 2 = 0) (hi : i < m) : be (l.take m) i = be l i := by
  unfold be
  have e := xor_one i
  have : i ^^^ 1 < m := by split at e <;> omega
  rw [if_pos (by rw [List.length_take]; omega), if_pos (by omega)]
  simp [List.getD_eq_getElem?_getD, this]
theorem xor_sub {m i : Nat} (h2 : m % 2 = 0) (hi : m ≤ i) : (i - m) ^^^ 1 = (i ^^^ 1) - m ∧ m ≤ i ^^^ 1 := by
  rw [xor_one, xor_one]
  by_cases h : i % 2 = 0
  · rw [if_pos h, if_pos (by omega)]; omega
  · rw [if_neg h, if_neg (by omega)]; omega
theorem be_drop {l : List Nat} {m i : Nat} (hm : m ≤ l.length) (h2 : m % 2 = 0) (hi : m ≤ i) : be (l.drop m) (i - m) = be l i := by
  unfold be
  obtain ⟨e, hle⟩ := xor_sub h2 hi
  rw [e, List.length_drop]
  by_cases h : i ^^^ 1 < l.length
  · rw [if_pos (by omega), if_pos h]
    simp [List.getD_eq_getElem?_getD, show m + ((i ^^^ 1) - m) = i ^^^ 1 by omega]
  · rw [if_neg (by omega), if_neg h]
theorem tr_up : ∀ (n : Nat) (l : List Nat) (i : Nat), l.length = n → i < n → tr f l i = be l i ++ tr f (up f l) (i / 2) := by
  intro n
  induction n using Nat.strongRecOn with
  | _ n ih =>
    intro l i hl hi
    rcases Nat.lt_or_ge n 3 with h | h
    · match l, hl with
      | [], hl => simp at hl; omega
      | [x], hl =>
        have : i = 0 := by simp at hl; omega
        subst this
        rw [tr_short f (by simp), tr_short f (by rw [up_length]; simp)]
        rfl
      | [x, y], hl =>
        have : i = 0 ∨ i = 1 := by simp at hl; omega
        rcases this with rfl | rfl
        · rw [tr_left f (by simp) (by simp [sp_two])]
          simp only [List.length_cons, List.length_nil]
          rw [sp_two, tr_short f (by simp), tr_short f (by rw [up_length]; simp)]
          simp [rt_one, be]
        · rw [tr_right f (by simp) (by simp [sp_two])]
          simp only [List.length_cons, List.length_nil]
          rw [sp_two, tr_short f (by simp), tr_short f (by rw [up_length]; simp)]
          simp [rt_one, be]
      | x :: y :: z :: r, hl => simp at hl; omega
    · have h3 : 3 ≤ l.length := by omega
      have hp := sp_pos l.length
      have hlt := sp_lt (n := l.length) (by omega)
      have hs := sp_level h3
      have hup := up_length f l
      obtain ⟨p1, p2⟩ := up_parts f l h3
      by_cases hi2 : i < sp l.length
      · rw [tr_left f (by omega) hi2, tr_left f (l := up f l) (by omega) (by rw [hup]; omega), p1, p2, rt_up f _ _ rfl,
          ih _ (by rw [← hl]; exact hlt) (l.take (sp l.length)) i (by rw [List.length_take]; omega) hi2, be_take (by omega) (by omega) hi2, List.append_assoc]
      · rw [tr_right f (by omega) hi2, tr_right f (l := up f l) (by omega) (by rw [hup]; omega), p1, p2, rt_up f _ _ rfl,
          ih (l.length - sp l.length) (by omega) (l.drop (sp l.length)) (i - sp l.length) (by rw [List.length_drop]) (by omega), be_drop (by omega) (by omega) (by omega), List.append_assoc]
        rw [show (i - sp l.length) / 2 = i / 2 - sp (up f l).length by rw [hup]; omega]
end Go.Proofs.Yteedlbdjbffheaa
