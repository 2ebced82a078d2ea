/- Ways on lists: the cell ahead of one, and the row of cells from a place back to the first one. No word of the program. -/
import Derived.Test.YtkdammmikmljmaaCk
namespace Go.Proofs.Ytkdammmikmljmaa
set_option linter.unusedVariables false

/-- Where a cell lies. -/
def ixc (W : Nat) (c : Cel) : Nat := c.y.toNat * W + c.x.toNat
theorem ixc_nat (W x y : Nat) : ixc W ⟨x, y⟩ = y * W + x := by simp [ixc]
/-- The k-th beside a cell. -/
def bc (c : Cel) (k : Nat) : Cel := ⟨bX c.x k, bY c.y k⟩
/-- c is a cell of the field. -/
def inf (W H : Nat) (c : Cel) : Prop := ∃ x y : Nat, c = ⟨x, y⟩ ∧ x < W ∧ y < H
theorem inf_inb {W H : Nat} {c : Cel} : inb W H c.x c.y = true ↔ inf W H c := by
  constructor
  · intro h
    obtain ⟨x, y, h1, h2, h3, h4⟩ := inb_nat h
    obtain ⟨a, b⟩ := c
    exact ⟨x, y, by simp at h1 h2; rw [h1, h2], h3, h4⟩
  · rintro ⟨x, y, rfl, h3, h4⟩
    unfold inb; simp; omega
theorem inf_lt {W H : Nat} {c : Cel} (h : inf W H c) : ixc W c < W * H := by
  obtain ⟨x, y, rfl, h3, h4⟩ := h
  rw [ixc_nat]; exact pl_lt h3 h4
theorem ixc_inj {W H : Nat} {c d : Cel} (h : inf W H c) (h' : inf W H d) (e : ixc W c = ixc W d) : c = d := by
  obtain ⟨x, y, rfl, h3, h4⟩ := h
  obtain ⟨x', y', rfl, h3', h4'⟩ := h'
  rw [ixc_nat, ixc_nat] at e
  obtain ⟨rfl, rfl⟩ := pl_inj h3 h3' e
  rfl
/-- Whether the k-th cell beside c is one from which c is come to so cheaply. -/
def hit (W H : Nat) (l far : List Int) (c : Cel) (k : Nat) : Bool := inb W H (bc c k).x (bc c k).y && decide (pa far (ixc W (bc c k)) = pa far (ixc W c) - kc (pa l (ixc W c)))
/-- d stands ahead of c. -/
def ahd (W H : Nat) (l far : List Int) (c d : Cel) : Prop := ∃ k, k < 4 ∧ (∀ j, j < k → hit W H l far c j = false) ∧ hit W H l far c k = true ∧ d = bc c k
/-- None stands ahead of c. -/
def nah (W H : Nat) (l far : List Int) (c : Cel) : Prop := ∀ k, k < 4 → hit W H l far c k = false
section
variable {W H : Nat} {l far : List Int} {c d : Cel} {S : Nat → Prop} {p : Nat}
theorem ahd_one {d' : Cel} (h : ahd W H l far c d) (h' : ahd W H l far c d') : d = d' := by
  obtain ⟨k, h1, h2, h3, rfl⟩ := h
  obtain ⟨k', h1', h2', h3', rfl⟩ := h'
  rcases Nat.lt_trichotomy k k' with e | e | e
  · rw [h2' k e] at h3; cases h3
  · rw [e]
  · rw [h2 k' e] at h3'; cases h3'
theorem ahd_nah (h : ahd W H l far c d) (h' : nah W H l far c) : False := by
  obtain ⟨k, h1, h2, h3, rfl⟩ := h
  rw [h' k h1] at h3; cases h3
theorem hit_adj {k : Nat} (hc : inf W H c) (hk : k < 4) (h : hit W H l far c k = true) : inf W H (bc c k) ∧ adj W H (ixc W (bc c k)) (ixc W c) ∧ pa far (ixc W (bc c k)) = pa far (ixc W c) - kc (pa l (ixc W c)) := by
  unfold hit at h
  rw [Bool.and_eq_true, decide_eq_true_eq] at h
  have hi := inf_inb.1 h.1
  refine ⟨hi, ?_, h.2⟩
  obtain ⟨X, Y, rfl, hX, hY⟩ := hc
  obtain ⟨x, y, e, hx, hy⟩ := hi
  have e' := e
  unfold bc at e'
  simp only [Cel.mk.injEq] at e'
  rw [e, ixc_nat, ixc_nat]
  exact adj_symm (adj_bes hk hX hY e'.1 e'.2 hx hy)
theorem adj_hit {n : Nat} (hc : inf W H c) (ha : adj W H n (ixc W c)) (h : pa far n = pa far (ixc W c) - kc (pa l (ixc W c))) : ∃ k, k < 4 ∧ hit W H l far c k = true := by
  obtain ⟨X, Y, rfl, hX, hY⟩ := hc
  rw [ixc_nat] at ha
  obtain ⟨k, x, y, hk, ex, ey, hx, hy, rfl⟩ := bes_adj hX (adj_symm ha)
  refine ⟨k, hk, ?_⟩
  have e : bc ⟨X, Y⟩ k = ⟨x, y⟩ := by unfold bc; rw [ex, ey]
  unfold hit
  rw [e, Bool.and_eq_true, decide_eq_true_eq, ixc_nat W x y]
  exact ⟨inf_inb.2 ⟨x, y, rfl, hx, hy⟩, h⟩
theorem least_four (f : Nat → Bool) (h : ∃ k, k < 4 ∧ f k = true) : ∃ k, k < 4 ∧ (∀ j, j < k → f j = false) ∧ f k = true := by
  by_cases h0 : f 0 = true
  · exact ⟨0, by omega, fun j hj => by omega, h0⟩
  by_cases h1 : f 1 = true
  · refine ⟨1, by omega, fun j hj => ?_, h1⟩
    obtain rfl : j = 0 := by omega
    simpa using h0
  by_cases h2 : f 2 = true
  · refine ⟨2, by omega, fun j hj => ?_, h2⟩
    have : j = 0 ∨ j = 1 := by omega
    rcases this with rfl | rfl
    · simpa using h0
    · simpa using h1
  · obtain ⟨k, hk, hf⟩ := h
    refine ⟨3, by omega, fun j hj => ?_, ?_⟩
    · have : j = 0 ∨ j = 1 ∨ j = 2 := by omega
      rcases this with rfl | rfl | rfl
      · simpa using h0
      · simpa using h1
      · simpa using h2
    · have : k = 0 ∨ k = 1 ∨ k = 2 ∨ k = 3 := by omega
      rcases this with rfl | rfl | rfl | rfl
      · exact absurd hf h0
      · exact absurd hf h1
      · exact absurd hf h2
      · exact hf
theorem sol_nah (hs : Sol W H l S far) (hc : inf W H c) (h0 : pa far (ixc W c) = 0) : nah W H l far c := by
  intro k hk
  cases hh : hit W H l far c k with
  | false => rfl
  | true =>
    obtain ⟨h1, h2, h3⟩ := hit_adj hc hk hh
    have := kc_bd (pa l (ixc W c))
    rcases hs.low _ (inf_lt h1) with e | e <;> omega
theorem sol_ahd (hs : Sol W H l S far) (hc : inf W H c) (h0 : 0 < pa far (ixc W c)) : ∃ d, ahd W H l far c d := by
  obtain ⟨n, h1, h2, h3⟩ := hs.just _ (inf_lt hc) h0
  obtain ⟨k, k1, k2, k3⟩ := least_four _ (adj_hit (l := l) (far := far) hc h1 (by omega))
  exact ⟨_, k, k1, k2, k3, rfl⟩
theorem ahd_far (hs : Sol W H l S far) (hc : inf W H c) (h0 : 0 < pa far (ixc W c)) (h : ahd W H l far c d) : inf W H d ∧ adj W H (ixc W d) (ixc W c) ∧ 0 ≤ pa far (ixc W d) ∧ pa far (ixc W c) = pa far (ixc W d) + kc (pa l (ixc W c)) := by
  obtain ⟨k, k1, k2, k3, rfl⟩ := h
  obtain ⟨h1, h2, h3⟩ := hit_adj hc k1 k3
  obtain ⟨n, n1, n2, n3⟩ := hs.just _ (inf_lt hc) h0
  exact ⟨h1, h2, by omega, by omega⟩

/-- The row of cells from c back to a first one. -/
inductive Trl (W H : Nat) (l far : List Int) : Cel → List Cel → Prop
  | one {c : Cel} : inf W H c → pa far (ixc W c) = 0 → Trl W H l far c [c]
  | more {c d : Cel} {R : List Cel} : inf W H c → 0 < pa far (ixc W c) → ahd W H l far c d → Trl W H l far d R → Trl W H l far c (c :: R)
theorem trl_ex (hs : Sol W H l S far) : ∀ (n : Nat) (c : Cel), inf W H c → pa far (ixc W c) = n → ∃ R, Trl W H l far c R ∧ 2 * R.length ≤ n + 2 := by
  intro n
  induction n using Nat.strongRecOn with
  | ind n ih =>
    intro c hc he
    rcases Nat.eq_zero_or_pos n with h0 | h0
    · exact ⟨[c], .one hc (by omega), by simp⟩
    · obtain ⟨d, hd⟩ := sol_ahd hs hc (by omega)
      obtain ⟨d1, d2, d3, d4⟩ := ahd_far hs hc (by omega) hd
      have hk := kc_bd (pa l (ixc W c))
      obtain ⟨R, r1, r2⟩ := ih (pa far (ixc W d)).toNat (by omega) d d1 (by omega)
      exact ⟨c :: R, .more hc (by omega) hd r1, by simp; omega⟩
theorem trl_one {R R' : List Cel} (h : Trl W H l far c R) (h' : Trl W H l far c R') : R = R' := by
  induction h generalizing R' with
  | one h1 h2 => cases h' with
    | one => rfl
    | more h3 h4 => omega
  | more h1 h2 h3 h4 ih => cases h' with
    | one h5 h6 => omega
    | more h5 h6 h7 h8 =>
      obtain rfl := ahd_one h3 h7
      rw [ih h8]
theorem trl_inf {R : List Cel} (h : Trl W H l far c R) : inf W H c := by cases h <;> assumption
theorem trl_low {R : List Cel} (h : Trl W H l far c R) : 0 ≤ pa far (ixc W c) := by cases h <;> omega
theorem trl_head {R : List Cel} (h : Trl W H l far c R) : R[0]? = some c := by cases h <;> rfl
theorem trl_pos {R : List Cel} (h : Trl W H l far c R) : 0 < R.length := by cases h <;> simp
theorem trl_drop {R : List Cel} (h : Trl W H l far c R) : ∀ k, (hk : k < R.length) → Trl W H l far R[k] (R.drop k) := by
  induction h with
  | one h1 h2 =>
    intro k hk
    obtain rfl : k = 0 := by simpa using hk
    exact .one h1 h2
  | more h1 h2 h3 h4 ih =>
    intro k hk
    cases k with
    | zero => exact .more h1 h2 h3 h4
    | succ k => exact ih k (by simpa using hk)
theorem trl_last {R : List Cel} (h : Trl W H l far c R) {k : Nat} (hk : k + 1 = R.length) : pa far (ixc W R[k]) = 0 := by
  have h1 := trl_drop h k (by omega)
  generalize e1 : R[k] = x at h1 ⊢
  generalize e2 : R.drop k = T at h1
  have hl : T.length = 1 := by rw [← e2]; simp; omega
  cases h1 with
  | one => assumption
  | more h2 h3 h4 h5 =>
    have := trl_pos h5
    rw [List.length_cons] at hl
    omega
theorem trl_next {R : List Cel} (h : Trl W H l far c R) {k : Nat} (hk : k + 1 < R.length) : 0 < pa far (ixc W R[k]) ∧ ahd W H l far R[k] R[k + 1] := by
  have h1 := trl_drop h k (by omega)
  have h6 : (R.drop k)[1]? = some R[k + 1] := by rw [List.getElem?_drop, List.getElem?_eq_getElem hk]
  generalize e1 : R[k] = x at h1 ⊢
  generalize e2 : R.drop k = T at h1 h6
  cases h1 with
  | one => simp at h6
  | more h2 h3 h4 h5 =>
    refine ⟨h3, ?_⟩
    have h7 := trl_head h5
    rw [List.getElem?_cons_succ] at h6
    rw [h6] at h7
    rw [Option.some.inj h7]; exact h4
theorem trl_at {R : List Cel} (h : Trl W H l far c R) {k : Nat} (hk : k < R.length) : inf W H R[k] ∧ 0 ≤ pa far (ixc W R[k]) := ⟨trl_inf (trl_drop h k hk), trl_low (trl_drop h k hk)⟩
theorem trl_step (hs : Sol W H l S far) {R : List Cel} (h : Trl W H l far c R) {k : Nat} (hk : k + 1 < R.length) : adj W H (ixc W R[k + 1]) (ixc W R[k]) ∧ pa far (ixc W R[k]) = pa far (ixc W R[k + 1]) + kc (pa l (ixc W R[k])) := by
  obtain ⟨h1, h2⟩ := trl_next h hk
  obtain ⟨d1, d2, d3, d4⟩ := ahd_far hs (trl_at h (by omega)).1 h1 h2
  exact ⟨d2, d4⟩
theorem trl_less (hs : Sol W H l S far) {R : List Cel} (h : Trl W H l far c R) : ∀ (m k : Nat) (hk : k + m + 1 < R.length), pa far (ixc W R[k + m + 1]) < pa far (ixc W R[k]) := by
  intro m
  induction m with
  | zero =>
    intro k hk
    have := (trl_step hs h hk).2
    have := kc_bd (pa l (ixc W R[k]))
    simp only [Nat.add_zero]; omega
  | succ m ih =>
    intro k hk
    have h1 := ih k (by omega)
    have h2 := (trl_step hs h (k := k + m + 1) (by omega)).2
    have := kc_bd (pa l (ixc W (R[k + m + 1]'(by omega))))
    show pa far (ixc W R[k + m + 1 + 1]) < _
    omega
theorem trl_ne (hs : Sol W H l S far) {R : List Cel} (h : Trl W H l far c R) {i j : Nat} (hi : i < j) (hj : j < R.length) : R[i]'(by omega) ≠ R[j] := by
  intro e
  have := trl_less hs h (j - i - 1) i (by omega)
  have e2 : i + (j - i - 1) + 1 = j := by omega
  simp only [e2] at this
  rw [e] at this
  omega
theorem trl_end (hs : Sol W H l S far) (hS : ∀ i, i < W * H → (S i ↔ i = p)) {R : List Cel} (h : Trl W H l far c R) {k : Nat} (hk : k + 1 = R.length) : ixc W R[k] = p := by
  have h1 := trl_at h (k := k) (by omega)
  exact (hS _ (inf_lt h1.1)).1 ((hs.zero _ (inf_lt h1.1)).1 (trl_last h hk))
end
theorem nodup_le : ∀ (n : Nat) (L : List Nat), (∀ x ∈ L, x < n) → L.Nodup → L.length ≤ n := by
  intro n
  induction n with
  | zero =>
    intro L h _
    cases L with
    | nil => simp
    | cons x L => exact absurd (h x (by simp)) (by omega)
  | succ n ih =>
    intro L h hn
    have h1 := ih (L.erase n) (fun x hx => by
      have := h x (List.mem_of_mem_erase hx)
      have : x ≠ n := fun e => by subst e; exact (List.Nodup.not_mem_erase hn) hx
      omega) (hn.erase n)
    rw [List.length_erase] at h1
    split at h1 <;> omega
end Go.Proofs.Ytkdammmikmljmaa
