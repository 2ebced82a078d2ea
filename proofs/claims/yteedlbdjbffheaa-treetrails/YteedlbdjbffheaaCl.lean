/- The mathematics of going up by a trail, from the top and level by level; on which side each mark stands; the pieces of powers of two. -/
import Derived.Test.YteedlbdjbffheaaTr
namespace Go.Proofs.Yteedlbdjbffheaa
set_option linter.unusedVariables false
variable (f : Nat → Nat → Nat)

/-- What x, at i of n, comes to by the marks t, if these are as many as it needs. -/
def cl (x i n : Nat) (t : List Nat) : Option Nat :=
  if h : n ≤ 1 then (if t = [] then some x else none) else
    if t = [] then none else
      if i < sp n then (cl x i (sp n) t.dropLast).map (fun y => f y (t.getLastD 0)) else (cl x (i - sp n) (n - sp n) t.dropLast).map (fun y => f (t.getLastD 0) y)
termination_by n
decreasing_by
  · exact sp_lt (by omega)
  · have := sp_pos n; omega
theorem cl_one (x i : Nat) (t : List Nat) : cl f x i 1 t = if t = [] then some x else none := by rw [cl, dif_pos (by omega)]
theorem cl_nil (x i : Nat) {n : Nat} (h : 2 ≤ n) : cl f x i n [] = none := by rw [cl, dif_neg (by omega), if_pos rfl]
theorem cl_left (x : Nat) {i n : Nat} (h : 2 ≤ n) (hi : i < sp n) (b : List Nat) (o : Nat) : cl f x i n (b ++ [o]) = (cl f x i (sp n) b).map (fun y => f y o) := by
  rw [cl, dif_neg (by omega), if_neg (by simp), if_pos hi]; simp
theorem cl_right (x : Nat) {i n : Nat} (h : 2 ≤ n) (hi : ¬ i < sp n) (b : List Nat) (o : Nat) : cl f x i n (b ++ [o]) = (cl f x (i - sp n) (n - sp n) b).map (fun y => f o y) := by
  rw [cl, dif_neg (by omega), if_neg (by simp), if_neg hi]; simp

theorem snoc_cases (t : List Nat) : t = [] ∨ ∃ b o, t = b ++ [o] := by
  rcases List.eq_nil_or_concat t with h | ⟨b, o, h⟩
  · exact .inl h
  · exact .inr ⟨b, o, by simpa using h⟩

/-- Level by level: one level. -/
def lv (x i n : Nat) (t : List Nat) : Option Nat :=
  if i ^^^ 1 < n then (match t with | [] => none | o :: t' => cl f (if i % 2 = 0 then f x o else f o x) (i / 2) ((n + 1) / 2) t') else cl f x (i / 2) ((n + 1) / 2) t
theorem cl_level : ∀ (n x i : Nat) (t : List Nat), 2 ≤ n → i < n → cl f x i n t = lv f x i n t := by
  intro n
  induction n using Nat.strongRecOn with
  | _ n ih =>
    intro x i t h2 hi
    unfold lv
    rcases Nat.lt_or_ge n 3 with h | h
    · obtain rfl : n = 2 := by omega
      have : i = 0 ∨ i = 1 := by omega
      rcases snoc_cases t with rfl | ⟨b, o, rfl⟩
      · rw [cl_nil f _ _ (by omega)]
        rcases this with rfl | rfl <;> simp
      · rcases this with rfl | rfl
        · rw [cl_left f _ (by omega) (by simp [sp_two])]
          rw [sp_two, cl_one]
          cases b with
          | nil => simp [cl_one]
          | cons c b => simp [cl_one]
        · rw [cl_right f _ (by omega) (by simp [sp_two])]
          rw [sp_two, cl_one]
          cases b with
          | nil => simp [cl_one]
          | cons c b => simp [cl_one]
    · have hp := sp_pos n
      have hlt := sp_lt (n := n) (by omega)
      have hh := sp_half (n := n) (by omega)
      have hs := sp_level h
      have hx := xor_one i
      have hs' : sp n / 2 = sp ((n + 1) / 2) := by omega
      rcases snoc_cases t with rfl | ⟨b, o, rfl⟩
      · rw [cl_nil f _ _ (by omega), cl_nil f _ _ (by omega)]
        split <;> rfl
      · by_cases hi2 : i < sp n
        · have hi1 : i ^^^ 1 < sp n := by split at hx <;> omega
          rw [cl_left f _ (by omega) hi2, ih _ hlt _ _ _ (by omega) hi2, if_pos (show i ^^^ 1 < n by omega)]
          unfold lv
          rw [if_pos hi1]
          cases b with
          | nil => rw [List.nil_append]; simp only; rw [cl_nil f _ _ (by omega)]; rfl
          | cons c b =>
            rw [List.cons_append]; simp only
            rw [cl_left f _ (by omega) (by omega), show (sp n + 1) / 2 = sp ((n + 1) / 2) by omega]
        · rw [cl_right f _ (by omega) hi2]
          obtain ⟨e, hle⟩ := xor_sub (m := sp n) (i := i) (by omega) (by omega)
          have ei : (i - sp n) / 2 = i / 2 - sp ((n + 1) / 2) := by omega
          have en : (n - sp n + 1) / 2 = (n + 1) / 2 - sp ((n + 1) / 2) := by omega
          rcases Nat.lt_or_ge (n - sp n) 2 with h1 | h1
          · have hn : n - sp n = 1 := by omega
            have hii : i = sp n := by omega
            have : ¬ i ^^^ 1 < n := by split at hx <;> omega
            rw [if_neg this, cl_right f _ (by omega) (by omega), hn, show i - sp n = 0 by omega, ← ei, ← en, show (i - sp n) / 2 = 0 by omega, show (n - sp n + 1) / 2 = 1 by omega]
          · rw [ih (n - sp n) (by omega) _ _ _ h1 (by omega)]
            unfold lv
            rw [e]
            by_cases hb : i ^^^ 1 < n
            · rw [if_pos hb, if_pos (by omega)]
              cases b with
              | nil => rw [List.nil_append]; simp only; rw [cl_nil f _ _ (by omega)]; rfl
              | cons c b =>
                rw [List.cons_append]; simp only
                rw [cl_right f _ (by omega) (by omega), ei, en, show (i - sp n) % 2 = i % 2 by omega]
            · rw [if_neg hb, if_neg (by omega), cl_right f _ (by omega) (by omega), ei, en]

/-- On which side each mark stands, from the lowest on. -/
def sd (i n : Nat) : List Bool :=
  if h : n ≤ 1 then [] else if i < sp n then sd i (sp n) ++ [false] else sd (i - sp n) (n - sp n) ++ [true]
termination_by n
decreasing_by
  · exact sp_lt (by omega)
  · have := sp_pos n; omega
theorem sd_one (i : Nat) {n : Nat} (h : n ≤ 1) : sd i n = [] := by rw [sd, dif_pos h]
theorem sd_left {i n : Nat} (h : 2 ≤ n) (hi : i < sp n) : sd i n = sd i (sp n) ++ [false] := by rw [sd, dif_neg (by omega), if_pos hi]
theorem sd_right {i n : Nat} (h : 2 ≤ n) (hi : ¬ i < sp n) : sd i n = sd (i - sp n) (n - sp n) ++ [true] := by rw [sd, dif_neg (by omega), if_neg hi]

/-- One step up. -/
def stp (a : Nat) (q : Bool × Nat) : Nat := if q.1 then f q.2 a else f a q.2
/-- All steps up. -/
def gu (x : Nat) (s : List Bool) (t : List Nat) : Nat := (s.zip t).foldl (stp f) x
theorem gu_snoc (x : Nat) (s : List Bool) (t : List Nat) (h : s.length = t.length) (c : Bool) (o : Nat) : gu f x (s ++ [c]) (t ++ [o]) = if c then f o (gu f x s t) else f (gu f x s t) o := by
  unfold gu
  rw [List.zip_append h]
  simp [stp]
theorem cl_fold : ∀ (n x i : Nat) (t : List Nat), 1 ≤ n → i < n → cl f x i n t = if t.length = (sd i n).length then some (gu f x (sd i n) t) else none := by
  intro n
  induction n using Nat.strongRecOn with
  | _ n ih =>
    intro x i t h1 hi
    rcases Nat.lt_or_ge n 2 with h | h
    · obtain rfl : n = 1 := by omega
      rw [cl_one, sd_one _ (by omega)]
      cases t with
      | nil => simp [gu]
      | cons a b => simp
    · have hp := sp_pos n
      have hlt := sp_lt (n := n) h
      rcases snoc_cases t with rfl | ⟨b, o, rfl⟩
      · rw [cl_nil f _ _ h]
        by_cases hi2 : i < sp n
        · rw [sd_left h hi2]; simp
        · rw [sd_right h hi2]; simp
      · by_cases hi2 : i < sp n
        · rw [cl_left f _ h hi2, ih _ hlt _ _ _ (by omega) hi2, sd_left h hi2]
          by_cases e : b.length = (sd i (sp n)).length
          · rw [if_pos e, if_pos (by simp [e]), gu_snoc f _ _ _ e.symm]; rfl
          · rw [if_neg e, if_neg (by simpa using e)]; rfl
        · rw [cl_right f _ h hi2, ih _ (by omega) _ _ _ (by omega) (by omega), sd_right h hi2]
          by_cases e : b.length = (sd (i - sp n) (n - sp n)).length
          · rw [if_pos e, if_pos (by simp [e]), gu_snoc f _ _ _ e.symm]; rfl
          · rw [if_neg e, if_neg (by simpa using e)]; rfl
theorem cl_tr : ∀ (n : Nat) (l : List Nat) (i : Nat), l.length = n → i < n → cl f (l.getD i 0) i n (tr f l i) = some (rt f l) := by
  intro n
  induction n using Nat.strongRecOn with
  | _ n ih =>
    intro l i hl hi
    rcases Nat.lt_or_ge n 2 with h | h
    · obtain rfl : n = 1 := by omega
      rw [cl_one, tr_short f (by omega), if_pos rfl, rt_short f (by omega), show i = 0 by omega]
    · have hp := sp_pos l.length
      have hlt := sp_lt (n := l.length) (by omega)
      have hln : l.length = n := hl
      by_cases hi2 : i < sp l.length
      · rw [tr_left f (by omega) hi2, cl_left f _ h (by rw [← hl]; exact hi2), rt_step f (l := l) (by omega)]
        have := ih (sp l.length) (by omega) (l.take (sp l.length)) i (by rw [List.length_take]; omega) hi2
        rw [show (l.take (sp l.length)).getD i 0 = l.getD i 0 by simp [List.getD_eq_getElem?_getD, hi2]] at this
        rw [← hln, this]; rfl
      · rw [tr_right f (by omega) hi2, cl_right f _ h (by rw [← hl]; exact hi2), rt_step f (l := l) (by omega)]
        have := ih (l.length - sp l.length) (by omega) (l.drop (sp l.length)) (i - sp l.length) (by rw [List.length_drop]) (by omega)
        rw [show (l.drop (sp l.length)).getD (i - sp l.length) 0 = l.getD i 0 by simp [List.getD_eq_getElem?_getD, show sp l.length + (i - sp l.length) = i by omega]] at this
        rw [← hln, this]; rfl
theorem tr_length {l : List Nat} {i : Nat} (hi : i < l.length) : (tr f l i).length = (sd i l.length).length := by
  have := cl_tr f _ l i rfl hi
  rw [cl_fold f _ _ _ _ (by omega) hi] at this
  split at this
  · assumption
  · cases this
theorem sd_le : ∀ (j n i : Nat), n ≤ 2 ^ j → i < n → (sd i n).length ≤ j := by
  intro j
  induction j with
  | zero => intro n i h hi; rw [sd_one _ (by simpa using h)]; simp
  | succ j ih =>
    intro n i h hi
    rcases Nat.lt_or_ge n 2 with h2 | h2
    · rw [sd_one _ (by omega)]; simp
    · have a := sp_le_pow h2 h
      have b := sp_half h2
      have c := sp_lt h2
      by_cases hi2 : i < sp n
      · rw [sd_left h2 hi2]; have := ih (sp n) i a hi2; simp; omega
      · rw [sd_right h2 hi2]; have := ih (n - sp n) (i - sp n) (by omega) (by omega); simp; omega
theorem cl_more {l : List Nat} {i : Nat} (hi : i < l.length) (x o : Nat) : cl f x i l.length (tr f l i ++ [o]) = none := by
  rw [cl_fold f _ _ _ _ (by omega) hi, if_neg]
  have := tr_length f hi
  simp; omega

/-- The marks of the pieces. -/
def gr (l : List Nat) : List Nat := if h : l = [] then [] else rt f (l.take (pw l.length)) :: gr (l.drop (pw l.length))
termination_by l.length
decreasing_by
  have := pw_pos l.length
  have : 0 < l.length := by rcases Nat.eq_zero_or_pos l.length with e | e
                            · exact absurd (List.eq_nil_of_length_eq_zero e) h
                            · exact e
  rw [List.length_drop]; omega
theorem gr_nil : gr f [] = [] := by rw [gr, dif_pos rfl]
theorem gr_step {l : List Nat} (h : 0 < l.length) : gr f l = rt f (l.take (pw l.length)) :: gr f (l.drop (pw l.length)) := by
  rw [gr, dif_neg (by intro e; subst e; simp at h)]
/-- From the last on. -/
def fb : List Nat → Nat
  | [] => 0
  | [x] => x
  | x :: y :: r => f x (fb (y :: r))
theorem fb_step {l : List Nat} {i : Nat} (h : i + 1 < l.length) : fb f (l.drop i) = f (l.getD i 0) (fb f (l.drop (i + 1))) := by
  rw [List.drop_eq_getElem_cons (by omega : i < l.length), List.drop_eq_getElem_cons h]
  simp only [fb]
  rw [List.getD_eq_getElem?_getD, List.getElem?_eq_getElem (by omega)]; rfl
theorem fb_last {l : List Nat} (h : 0 < l.length) : fb f (l.drop (l.length - 1)) = l.getD (l.length - 1) 0 := by
  rw [List.drop_eq_getElem_cons (by omega), List.drop_of_length_le (by omega)]
  simp only [fb]
  rw [List.getD_eq_getElem?_getD, List.getElem?_eq_getElem (by omega)]; rfl
theorem gr_pos {l : List Nat} (h : 0 < l.length) : 0 < (gr f l).length := by rw [gr_step f h]; simp
theorem gr_le : ∀ (n : Nat) (l : List Nat), l.length = n → (gr f l).length ≤ n := by
  intro n
  induction n using Nat.strongRecOn with
  | _ n ih =>
    intro l hl
    rcases Nat.eq_zero_or_pos l.length with h | h
    · rw [List.eq_nil_of_length_eq_zero h, gr_nil]; simp
    · have := pw_pos l.length
      have hd := ih (l.length - pw l.length) (by omega) (l.drop (pw l.length)) (by rw [List.length_drop])
      rw [gr_step f h]; simp; omega
theorem fb_gr : ∀ (n : Nat) (l : List Nat), l.length = n → 0 < n → fb f (gr f l) = rt f l := by
  intro n
  induction n using Nat.strongRecOn with
  | _ n ih =>
    intro l hl h0
    have hp := pw_pos l.length
    have hle := pw_le (n := l.length) (by omega)
    rw [gr_step f (by omega)]
    by_cases he : pw l.length = l.length
    · rw [he, List.take_length, List.drop_length, gr_nil]; rfl
    · have hd := ih (l.length - pw l.length) (by omega) (l.drop (pw l.length)) (by rw [List.length_drop]) (by omega)
      have h2 : 2 ≤ l.length := by omega
      have hg := gr_pos f (l := l.drop (pw l.length)) (by rw [List.length_drop]; omega)
      have hs := pw_sp (n := l.length) (by omega) he
      rw [rt_step f h2, ← hs, ← hd]
      generalize gr f (l.drop (pw l.length)) = g at hg ⊢
      cases g with
      | nil => simp at hg
      | cons a g => simp only [fb]
end Go.Proofs.Yteedlbdjbffheaa
