/- The mathematics of pack: digits of base 128, what is got of bytes, numbers folded, lists. -/
import Derived.Test.YtgebfpncapfaoaaOwn
namespace Go.Proofs.Ytgebfpncapfaoaa.pk

/-- What Put writes of n. -/
def pk (n : Nat) : List UInt8 := if n < 128 then [UInt8.ofNat n] else UInt8.ofNat (128 + n % 128) :: pk (n / 128)
termination_by n
decreasing_by omega
theorem pk_small {n : Nat} (h : n < 128) : pk n = [UInt8.ofNat n] := by rw [pk]; simp [h]
theorem pk_great {n : Nat} (h : ¬ n < 128) : pk n = UInt8.ofNat (128 + n % 128) :: pk (n / 128) := by rw [pk]; simp [h]
theorem pk_ind {P : Nat → Prop} (h0 : ∀ n, n < 128 → P n) (h1 : ∀ n, ¬ n < 128 → P (n / 128) → P n) (n : Nat) : P n := by
  induction n using Nat.strongRecOn with
  | _ n ih =>
    by_cases h : n < 128
    · exact h0 n h
    · exact h1 n h (ih _ (by omega))
theorem of_small {n : Nat} (h : n < 256) : (UInt8.ofNat n).toNat = n := by
  rw [UInt8.toNat_ofNat']; omega
theorem pk_pos (n : Nat) : 0 < (pk n).length := by
  by_cases h : n < 128
  · rw [pk_small h]; simp
  · rw [pk_great h]; simp
theorem pk_len : ∀ (k n : Nat), n < 128 ^ (k + 1) → (pk n).length ≤ k + 1
  | 0, n, h => by rw [pk_small (by simpa using h)]; simp
  | k + 1, n, h => by
    by_cases h2 : n < 128
    · rw [pk_small h2]; simp
    · rw [pk_great h2, List.length_cons]
      have := pk_len k (n / 128) (by rw [Nat.pow_succ] at h; exact Nat.div_lt_of_lt_mul (by omega))
      omega
theorem pow_ten : (128 : Nat) ^ (9 + 1) = 1180591620717411303424 := by decide
theorem pk_ten {n : Nat} (h : n < 18446744073709551616) : (pk n).length ≤ 10 := pk_len 9 n (by rw [pow_ten]; omega)
theorem pk_mono (a : Nat) : ∀ b, a ≤ b → (pk a).length ≤ (pk b).length := by
  induction a using pk_ind with
  | h0 n h => intro b _; rw [pk_small h]; exact pk_pos b
  | h1 n h ih =>
    intro b hb
    rw [pk_great h, pk_great (n := b) (by omega), List.length_cons, List.length_cons]
    have := ih (b / 128) (Nat.div_le_div_right hb)
    omega

/-- Where the first byte below 128 is. -/
def lw (b : UInt8) : Bool := decide (b.toNat < 128)
def ix (l : List UInt8) : Nat := l.findIdx lw
theorem ix_pk (r : List UInt8) (n : Nat) : ix (pk n ++ r) + 1 = (pk n).length := by
  induction n using pk_ind with
  | h0 n h =>
    rw [pk_small h]
    have : lw (UInt8.ofNat n) = true := by unfold lw; rw [of_small (by omega)]; simpa using h
    simp [ix, List.findIdx_cons, this]
  | h1 n h ih =>
    rw [pk_great h, List.cons_append, List.length_cons, ← ih]
    have : lw (UInt8.ofNat (128 + n % 128)) = false := by unfold lw; rw [of_small (by omega)]; simp
    generalize UInt8.ofNat (128 + n % 128) = b at this
    simp [ix, List.findIdx_cons, this]
theorem pk_front (n : Nat) : ∀ c, c < (pk n).length → ∀ b ∈ (pk n).take c, lw b = false := by
  induction n using pk_ind with
  | h0 n h =>
    intro c hc b hb
    rw [pk_small h] at hc hb
    have : c = 0 := by simpa using hc
    subst this
    simp at hb
  | h1 n h ih =>
    intro c hc b hb
    rw [pk_great h] at hc hb
    cases c with
    | zero => simp at hb
    | succ c =>
      rw [List.take_succ_cons] at hb
      rcases List.mem_cons.1 hb with rfl | hb
      · unfold lw; rw [of_small (by omega)]; simp
      · exact ih c (by simpa using hc) b hb

/-- What digits come to, in 64 bits. -/
def nx (b : UInt8) (n : Nat) : Nat := (n * 128 + b.toNat % 128) % 18446744073709551616
def nm (l : List UInt8) : Nat := l.foldr nx 0
theorem nx_lt (b : UInt8) (n : Nat) : nx b n < 18446744073709551616 := Nat.mod_lt _ (by decide)
theorem nm_lt (l : List UInt8) : nm l < 18446744073709551616 := by
  cases l with
  | nil => decide
  | cons b l => exact nx_lt _ _
theorem nm_pk (n : Nat) : n < 18446744073709551616 → nm (pk n) = n := by
  induction n using pk_ind with
  | h0 n h =>
    intro _
    rw [pk_small h]
    show nx (UInt8.ofNat n) 0 = n
    unfold nx; rw [of_small (by omega)]; omega
  | h1 n h ih =>
    intro hn
    rw [pk_great h]
    show nx (UInt8.ofNat (128 + n % 128)) (nm (pk (n / 128))) = n
    rw [ih (by omega)]
    unfold nx; rw [of_small (by omega)]; omega

/-- What is got of bytes: the number, the rest, the error. -/
def gl (l : List UInt8) : Nat × List UInt8 × Nat :=
  if ix l < 10 ∧ ix l < l.length then
    (if pk (nm (l.take (ix l + 1))) = l.take (ix l + 1) then (nm (l.take (ix l + 1)), l.drop (ix l + 1), 0) else (0, [], 4))
  else if l.length < 10 then (0, [], 3) else (0, [], 4)
theorem gl_short {l : List UInt8} (h : ¬ ix l < l.length) (h10 : l.length < 10) : gl l = (0, [], 3) := by
  unfold gl; rw [if_neg (fun q => h q.2), if_pos h10]
theorem gl_long {l : List UInt8} (h : ¬ (ix l < 10 ∧ ix l < l.length)) (h10 : ¬ l.length < 10) : gl l = (0, [], 4) := by
  unfold gl; rw [if_neg h, if_neg h10]
theorem gl_form {l : List UInt8} (h : ix l < 10) (h2 : ix l < l.length) (h3 : pk (nm (l.take (ix l + 1))) ≠ l.take (ix l + 1)) : gl l = (0, [], 4) := by
  unfold gl; rw [if_pos ⟨h, h2⟩, if_neg h3]
theorem gl_good {l : List UInt8} (h : ix l < 10) (h2 : ix l < l.length) (h3 : pk (nm (l.take (ix l + 1))) = l.take (ix l + 1)) : gl l = (nm (l.take (ix l + 1)), l.drop (ix l + 1), 0) := by
  unfold gl; rw [if_pos ⟨h, h2⟩, if_pos h3]
theorem gl_pk {n : Nat} (h : n < 18446744073709551616) (r : List UInt8) : gl (pk n ++ r) = (n, r, 0) := by
  have h1 := ix_pk r n
  have h2 := pk_ten h
  have h3 := nm_pk n h
  have ht : (pk n ++ r).take (ix (pk n ++ r) + 1) = pk n := by rw [h1, List.take_left']; rfl
  have hd : (pk n ++ r).drop (ix (pk n ++ r) + 1) = r := by rw [h1, List.drop_left']; rfl
  rw [gl_good (by omega) (by rw [List.length_append]; omega) (by rw [ht, h3]), ht, hd, h3]
theorem gl_ok {l : List UInt8} (h : (gl l).2.2 = 0) : pk (gl l).1 ++ (gl l).2.1 = l ∧ (gl l).1 < 18446744073709551616 := by
  by_cases h1 : ix l < 10 ∧ ix l < l.length
  · by_cases h3 : pk (nm (l.take (ix l + 1))) = l.take (ix l + 1)
    · rw [gl_good h1.1 h1.2 h3]
      exact ⟨by show pk _ ++ _ = l; rw [h3, List.take_append_drop], nm_lt _⟩
    · rw [gl_form h1.1 h1.2 h3] at h; cases h
  · by_cases h10 : l.length < 10
    · unfold gl at h; rw [if_neg h1, if_pos h10] at h; cases h
    · rw [gl_long h1 h10] at h; cases h
theorem gl_lt (l : List UInt8) : (gl l).1 < 18446744073709551616 := by
  unfold gl; split
  · split
    · exact nm_lt _
    · decide
  · split <;> decide
theorem gl_err (l : List UInt8) : (gl l).2.2 = 0 ∨ (gl l).1 = 0 ∧ (gl l).2.1 = [] ∧ ((gl l).2.2 = 3 ∨ (gl l).2.2 = 4) := by
  unfold gl; split
  · split
    · exact .inl rfl
    · exact .inr ⟨rfl, rfl, .inr rfl⟩
  · split
    · exact .inr ⟨rfl, rfl, .inl rfl⟩
    · exact .inr ⟨rfl, rfl, .inr rfl⟩
theorem gl_rest (l : List UInt8) : (gl l).2.1.length ≤ l.length := by
  rcases gl_err l with h | ⟨_, h, _⟩
  · have := (gl_ok h).1
    have := congrArg List.length this
    rw [List.length_append] at this; omega
  · rw [h]; exact Nat.zero_le _
theorem pk_apart {n m : Nat} (hn : n < 18446744073709551616) (hm : m < 18446744073709551616) {t : List UInt8} (h : pk n = pk m ++ t) : n = m := by
  have h1 := gl_pk hn []
  have h2 := gl_pk hm t
  rw [List.append_nil, h, h2] at h1
  exact (congrArg (fun x => x.1) h1).symm
theorem gl_cut {n c : Nat} (hn : n < 18446744073709551616) (hc : c < (pk n).length) : gl ((pk n).take c) = (0, [], 3) := by
  have h1 := pk_ten hn
  have h2 : ((pk n).take c).length = c := by rw [List.length_take]; omega
  have h3 : ix ((pk n).take c) = ((pk n).take c).length := by
    unfold ix
    exact List.findIdx_eq_length.2 (pk_front n c hc)
  exact gl_short (by omega) (by omega)

/-- Folded and unfolded. -/
def fd (k : Int) : Nat := if 0 ≤ k then (2 * k).toNat else (2 * (-(k + 1)) + 1).toNat
def uf (n : Nat) : Int := if n % 2 = 0 then (n / 2 : Nat) else -((n / 2 : Nat) : Int) - 1
theorem fd_lt {k : Int} (h : fits k) : fd k < 18446744073709551616 := by unfold fits at h; unfold fd; split <;> omega
theorem uf_fits {n : Nat} (h : n < 18446744073709551616) : fits (uf n) := by unfold fits uf; split <;> omega
theorem uf_fd (k : Int) : uf (fd k) = k := by unfold uf fd; split <;> split <;> omega
theorem fd_uf (n : Nat) : fd (uf n) = n := by unfold uf fd; split <;> split <;> omega

/-- Lists of numbers. -/
def fs (l : List Int) : List UInt8 := l.flatMap fun x => pk (fd x)
def pa (l : List Int) : List UInt8 := pk l.length ++ fs l
theorem fs_cons (x : Int) (l : List Int) : fs (x :: l) = pk (fd x) ++ fs l := rfl
theorem fs_append (a b : List Int) : fs (a ++ b) = fs a ++ fs b := List.flatMap_append
theorem fs_snoc (a : List Int) (x : Int) : fs (a ++ [x]) = fs a ++ pk (fd x) := by rw [fs_append]; simp [fs]
theorem fs_len (l : List Int) (h : ∀ x ∈ l, fits x) : (fs l).length ≤ 10 * l.length := by
  induction l with
  | nil => exact Nat.le_refl _
  | cons x l ih =>
    rw [fs_cons, List.length_append, List.length_cons]
    have := ih fun y hy => h y (List.mem_cons_of_mem _ hy)
    have := pk_ten (fd_lt (h x (List.mem_cons_self ..)))
    omega
def gs : Nat → List UInt8 → List Int → List Int × Nat
  | 0, r, acc => if r = [] then (acc, 0) else ([], 4)
  | c + 1, r, acc => if (gl r).2.2 = 0 then gs c (gl r).2.1 (acc ++ [uf (gl r).1]) else ([], (gl r).2.2)
def ga (l : List UInt8) : List Int × Nat :=
  if (gl l).2.2 = 0 then (if (gl l).1 ≤ 1000 then gs (gl l).1 (gl l).2.1 [] else ([], 2)) else ([], (gl l).2.2)
theorem gs_nil (acc : List Int) : gs 0 [] acc = (acc, 0) := rfl
theorem gs_left {r : List UInt8} (h : r ≠ []) (acc : List Int) : gs 0 r acc = ([], 4) := by unfold gs; rw [if_neg h]
theorem gs_next {r : List UInt8} (h : (gl r).2.2 = 0) (c : Nat) (acc : List Int) : gs (c + 1) r acc = gs c (gl r).2.1 (acc ++ [uf (gl r).1]) := by rw [gs]; rw [if_pos h]
theorem gs_err {r : List UInt8} (h : (gl r).2.2 ≠ 0) (c : Nat) (acc : List Int) : gs (c + 1) r acc = ([], (gl r).2.2) := by rw [gs]; rw [if_neg h]
theorem ga_err {l : List UInt8} (h : (gl l).2.2 ≠ 0) : ga l = ([], (gl l).2.2) := by unfold ga; rw [if_neg h]
theorem ga_large {l : List UInt8} (h : (gl l).2.2 = 0) (h2 : ¬ (gl l).1 ≤ 1000) : ga l = ([], 2) := by unfold ga; rw [if_pos h, if_neg h2]
theorem ga_go {l : List UInt8} (h : (gl l).2.2 = 0) (h2 : (gl l).1 ≤ 1000) : ga l = gs (gl l).1 (gl l).2.1 [] := by unfold ga; rw [if_pos h, if_pos h2]
theorem gs_put (l : List Int) : (∀ x ∈ l, fits x) → ∀ acc, gs l.length (fs l) acc = (acc ++ l, 0) := by
  induction l with
  | nil => intro _ acc; simp [fs, gs]
  | cons x l ih =>
    intro h acc
    have hg := gl_pk (fd_lt (h x (List.mem_cons_self ..))) (fs l)
    rw [fs_cons, List.length_cons, gs_next (by rw [hg]), hg]
    show gs l.length (fs l) (acc ++ [uf (fd x)]) = _
    rw [uf_fd, ih (fun y hy => h y (List.mem_cons_of_mem _ hy))]
    simp
theorem ga_pa {l : List Int} (h : ∀ x ∈ l, fits x) (hl : l.length ≤ 1000) : ga (pa l) = (l, 0) := by
  have hg := gl_pk (n := l.length) (by omega) (fs l)
  unfold pa
  rw [ga_go (by rw [hg]) (by rw [hg]; exact hl), hg]
  exact gs_put l h []
theorem gs_ok (c : Nat) : ∀ (r : List UInt8) (acc : List Int), (gs c r acc).2 = 0 → ∃ q, (gs c r acc).1 = acc ++ q ∧ q.length = c ∧ fs q = r ∧ ∀ x ∈ q, fits x := by
  induction c with
  | zero =>
    intro r acc h
    by_cases hr : r = []
    · subst hr; exact ⟨[], by simp [gs], rfl, rfl, fun x hx => by cases hx⟩
    · rw [gs_left hr] at h; cases h
  | succ c ih =>
    intro r acc h
    by_cases hr : (gl r).2.2 = 0
    · rw [gs_next hr] at h ⊢
      obtain ⟨q, h1, h2, h3, h4⟩ := ih _ _ h
      obtain ⟨g1, g2⟩ := gl_ok hr
      refine ⟨uf (gl r).1 :: q, by rw [h1]; simp, by rw [List.length_cons, h2], by rw [fs_cons, fd_uf, h3, g1], ?_⟩
      intro x hx
      rcases List.mem_cons.1 hx with rfl | hx
      · exact uf_fits g2
      · exact h4 x hx
    · rw [gs_err hr] at h
      exact absurd h hr
theorem ga_ok {l : List UInt8} (h : (ga l).2 = 0) : pa (ga l).1 = l ∧ (ga l).1.length ≤ 1000 ∧ ∀ x ∈ (ga l).1, fits x := by
  by_cases h1 : (gl l).2.2 = 0
  · by_cases h2 : (gl l).1 ≤ 1000
    · rw [ga_go h1 h2] at h ⊢
      obtain ⟨q, q1, q2, q3, q4⟩ := gs_ok _ _ _ h
      rw [List.nil_append] at q1
      obtain ⟨g1, g2⟩ := gl_ok h1
      rw [q1]
      exact ⟨by unfold pa; rw [q2, q3, g1], by omega, q4⟩
    · rw [ga_large h1 h2] at h; cases h
  · rw [ga_err h1] at h; exact absurd h h1
theorem gs_len (c : Nat) : ∀ (r : List UInt8) (acc : List Int), (gs c r acc).1.length ≤ acc.length + c := by
  induction c with
  | zero =>
    intro r acc
    by_cases hr : r = []
    · subst hr; simp [gs]
    · rw [gs_left hr]; simp
  | succ c ih =>
    intro r acc
    by_cases hr : (gl r).2.2 = 0
    · rw [gs_next hr]
      have := ih (gl r).2.1 (acc ++ [uf (gl r).1])
      rw [List.length_append] at this
      simp at this; omega
    · rw [gs_err hr]; simp
theorem ga_len (l : List UInt8) : (ga l).1.length ≤ 1000 := by
  by_cases h1 : (gl l).2.2 = 0
  · by_cases h2 : (gl l).1 ≤ 1000
    · rw [ga_go h1 h2]; have := gs_len (gl l).1 (gl l).2.1 []; simp at this; omega
    · rw [ga_large h1 h2]; simp
  · rw [ga_err h1]; simp

/-- Two numbers, the one nearer to 0 first: its folded one is not above the other's and one more. -/
theorem fd_near {a b : Int} (h : max a (-a) ≤ max b (-b)) : fd a ≤ fd b + 1 := by unfold fd; split <;> split <;> omega
end Go.Proofs.Ytgebfpncapfaoaa.pk
