/- A heap of stops, on lists: to lift the last one, to sink the first one. No word of the program. -/
namespace Go.Proofs.Ytkdammmikmljmaa
/-- A cell, and what it costs to come there. -/
structure Stop where
  x : Int
  y : Int
  c : Int
def ky (Q : List Stop) (k : Nat) : Int := (Q.getD k ⟨0, 0, 0⟩).c
/-- Two places' stops change. -/
def swp (Q : List Stop) (i j : Nat) : List Stop := (Q.set i (Q.getD j ⟨0, 0, 0⟩)).set j (Q.getD i ⟨0, 0, 0⟩)
theorem getD_at {Q : List Stop} {k : Nat} (h : k < Q.length) : Q.getD k ⟨0, 0, 0⟩ = Q[k] := by rw [List.getD_eq_getElem?_getD, List.getElem?_eq_getElem h]; rfl
theorem swp_len (Q : List Stop) (i j : Nat) : (swp Q i j).length = Q.length := by simp [swp]
theorem swp_perm (L : List Stop) {i j : Nat} (hi : i < L.length) (hj : j < L.length) : (swp L i j).Perm L := by
  have h := Array.swap_perm (xs := L.toArray) (i := i) (j := j) (by simpa using hi) (by simpa using hj)
  have e : (L.toArray.swap i j (by simpa using hi) (by simpa using hj)).toList = swp L i j := by
    rw [Array.toList_swap]
    unfold swp
    simp [List.getD_eq_getElem?_getD, List.getElem?_eq_getElem hi, List.getElem?_eq_getElem hj]
  have h2 := h.toList
  rw [e] at h2; simpa using h2
theorem swp_get (Q : List Stop) {i j : Nat} (hi : i < Q.length) (hj : j < Q.length) (k : Nat) : (swp Q i j).getD k ⟨0, 0, 0⟩ = if k = j then Q.getD i ⟨0, 0, 0⟩ else if k = i then Q.getD j ⟨0, 0, 0⟩ else Q.getD k ⟨0, 0, 0⟩ := by
  unfold swp
  rw [List.getD_eq_getElem?_getD, List.getElem?_set]
  by_cases h1 : j = k
  · subst h1
    rw [if_pos rfl, if_pos (by simpa using hj), if_pos rfl]; rfl
  · rw [if_neg h1, if_neg (fun e => h1 e.symm), List.getElem?_set]
    by_cases h2 : i = k
    · subst h2
      rw [if_pos rfl, if_pos hi, if_pos rfl]; rfl
    · rw [if_neg h2, if_neg (fun e => h2 e.symm), List.getD_eq_getElem?_getD]
theorem swp_ky (Q : List Stop) {i j : Nat} (hi : i < Q.length) (hj : j < Q.length) (k : Nat) : ky (swp Q i j) k = if k = j then ky Q i else if k = i then ky Q j else ky Q k := by
  unfold ky
  rw [swp_get Q hi hj]
  by_cases h1 : k = j
  · rw [if_pos h1, if_pos h1]
  · by_cases h2 : k = i
    · rw [if_neg h1, if_neg h1, if_pos h2, if_pos h2]
    · rw [if_neg h1, if_neg h1, if_neg h2, if_neg h2]

/-- Of the first n no one costs less than who is above it. -/
def hp (n : Nat) (Q : List Stop) : Prop := ∀ k, 0 < k → k < n → ky Q ((k - 1) / 2) ≤ ky Q k
theorem hp_first {n : Nat} {Q : List Stop} (h : hp n Q) : ∀ k, k < n → ky Q 0 ≤ ky Q k := by
  intro k
  induction k using Nat.strongRecOn with
  | ind k ih =>
    intro hk
    rcases Nat.eq_zero_or_pos k with rfl | h0
    · exact Int.le_refl _
    · have h1 := ih ((k - 1) / 2) (by omega) (by omega)
      have h2 := h k h0 hk
      omega
/-- A heap but for place j, which may cost too little. -/
def hup (j : Nat) (Q : List Stop) : Prop := (∀ k, 0 < k → k < Q.length → k ≠ j → ky Q ((k - 1) / 2) ≤ ky Q k) ∧ (∀ k, 0 < k → k < Q.length → (k - 1) / 2 = j → 0 < j → ky Q ((j - 1) / 2) ≤ ky Q k)
theorem hup_swap {j : Nat} {Q : List Stop} (h : hup j Q) (h0 : 0 < j) (hj : j < Q.length) (hl : ky Q j < ky Q ((j - 1) / 2)) : hup ((j - 1) / 2) (swp Q ((j - 1) / 2) j) := by
  obtain ⟨h1, h2⟩ := h
  obtain ⟨i, hi⟩ : ∃ i, (j - 1) / 2 = i := ⟨_, rfl⟩
  rw [hi] at hl ⊢
  have hil : i < Q.length := by omega
  have hij : i < j := by omega
  constructor
  · intro k hk hkl hki
    rw [swp_len] at hkl
    rw [swp_ky Q hil hj, swp_ky Q hil hj]
    have a1 := h1 k hk hkl
    have a2 := h2 k hk hkl
    by_cases e1 : k = j
    · subst e1
      rw [if_neg (by omega), if_pos hi, if_pos rfl]; omega
    · by_cases e2 : (k - 1) / 2 = j
      · rw [if_pos e2, if_neg e1, if_neg hki]
        have := a2 e2 h0; rw [hi] at this; exact this
      · by_cases e3 : (k - 1) / 2 = i
        · rw [if_neg e2, if_pos e3, if_neg e1, if_neg hki]
          have := a1 e1; rw [e3] at this; omega
        · rw [if_neg e2, if_neg e3, if_neg e1, if_neg hki]; exact a1 e1
  · intro k hk hkl hki hi0
    rw [swp_len] at hkl
    rw [swp_ky Q hil hj, swp_ky Q hil hj]
    have a3 := h1 i hi0 hil (by omega)
    rw [if_neg (by omega), if_neg (by omega)]
    by_cases e1 : k = j
    · rw [if_pos e1]; exact a3
    · rw [if_neg e1, if_neg (by omega)]
      have := h1 k hk hkl e1; rw [hki] at this; omega
theorem hup_end {j : Nat} {Q : List Stop} (h : hup j Q) (he : j = 0 ∨ ky Q ((j - 1) / 2) ≤ ky Q j) : hp Q.length Q := by
  intro k hk hkl
  by_cases e : k = j
  · subst e; rcases he with he | he
    · omega
    · exact he
  · exact h.1 k hk hkl e
theorem hup_new {Q : List Stop} {s : Stop} (h : hp Q.length Q) : hup Q.length (Q ++ [s]) := by
  have e : ∀ k, k < Q.length → ky (Q ++ [s]) k = ky Q k := by
    intro k hk; unfold ky; rw [List.getD_eq_getElem?_getD, List.getD_eq_getElem?_getD, List.getElem?_append_left hk]
  refine ⟨fun k hk hkl hne => ?_, fun k hk hkl he h0 => ?_⟩
  · simp at hkl
    rw [e _ (by omega), e _ (by omega)]; exact h k hk (by omega)
  · simp at hkl; omega

/-- A heap of the first n but for place i, which may cost too much. -/
def hdn (n i : Nat) (Q : List Stop) : Prop := (∀ k, 0 < k → k < n → (k - 1) / 2 ≠ i → ky Q ((k - 1) / 2) ≤ ky Q k) ∧ (∀ k, 0 < k → k < n → (k - 1) / 2 = i → 0 < i → ky Q ((i - 1) / 2) ≤ ky Q k)
theorem hdn_swap {n i j : Nat} {Q : List Stop} (h : hdn n i Q) (hn : n ≤ Q.length) (hj : j < n) (h0 : 0 < j) (hp : (j - 1) / 2 = i) (hl : ky Q j < ky Q i) (hs : ∀ k, 0 < k → k < n → (k - 1) / 2 = i → ky Q j ≤ ky Q k) : hdn n j (swp Q i j) := by
  obtain ⟨h1, h2⟩ := h
  have hil : i < Q.length := by omega
  have hjl : j < Q.length := by omega
  constructor
  · intro k hk hkl hkj
    rw [swp_ky Q hil hjl, swp_ky Q hil hjl, if_neg hkj]
    by_cases e3 : (k - 1) / 2 = i
    · rw [if_pos e3]
      by_cases e1 : k = j
      · rw [if_pos e1]; omega
      · rw [if_neg e1, if_neg (by omega)]; exact hs k hk hkl e3
    · rw [if_neg e3, if_neg (fun e => e3 (by rw [e]; exact hp))]
      by_cases e2 : k = i
      · rw [if_pos e2]
        subst e2
        exact h2 j h0 hj hp hk
      · rw [if_neg e2]; exact h1 k hk hkl e3
  · intro k hk hkl hkj hj0
    rw [swp_ky Q hil hjl, swp_ky Q hil hjl, hp, if_neg (by omega), if_pos rfl, if_neg (by omega), if_neg (by omega)]
    have := h1 k hk hkl (by omega); rw [hkj] at this; exact this
theorem hdn_end {n i : Nat} {Q : List Stop} (h : hdn n i Q) (he : ∀ k, 0 < k → k < n → (k - 1) / 2 = i → ky Q i ≤ ky Q k) : hp n Q := by
  intro k hk hkl
  by_cases e : (k - 1) / 2 = i
  · rw [e]; exact he k hk hkl e
  · exact h.1 k hk hkl e
theorem hdn_pop {n : Nat} {Q : List Stop} (h : hp (n + 1) Q) (hn : Q.length = n + 1) : hdn n 0 (swp Q 0 n) := by
  refine ⟨fun k hk hkl hne => ?_, fun k hk hkl he h0 => by omega⟩
  rw [swp_ky Q (by omega) (by omega), swp_ky Q (by omega) (by omega), if_neg (by omega), if_neg hne, if_neg (by omega), if_neg (by omega)]
  exact h k hk (by omega)
/-- What is left behind a pop. -/
theorem take_hp {n : Nat} {Q : List Stop} (h : hp n Q) (hn : n ≤ Q.length) : hp (Q.take n).length (Q.take n) := by
  have e : ∀ k, k < n → ky (Q.take n) k = ky Q k := by
    intro k hk; unfold ky; rw [List.getD_eq_getElem?_getD, List.getD_eq_getElem?_getD, List.getElem?_take, if_pos hk]
  intro k hk hkl
  have hkn : k < n := by simp at hkl; omega
  rw [e _ (by omega), e _ hkn]; exact h k hk hkn
theorem ky_of {Q : List Stop} {k : Nat} {s : Stop} (h : Q.getD k ⟨0, 0, 0⟩ = s) : ky Q k = s.c := by unfold ky; rw [h]
theorem mem_ky {Q : List Stop} {s : Stop} (h : s ∈ Q) : ∃ k, k < Q.length ∧ ky Q k = s.c := by
  obtain ⟨k, hk, rfl⟩ := List.mem_iff_getElem.1 h
  exact ⟨k, hk, by unfold ky; rw [getD_at hk]⟩
theorem split_last {n : Nat} {Q : List Stop} (hn : Q.length = n + 1) : Q.Perm (Q.getD n ⟨0, 0, 0⟩ :: Q.take n) := by
  have e : Q = Q.take n ++ [Q.getD n ⟨0, 0, 0⟩] := by
    rw [getD_at (by omega)]
    have := (List.take_succ_eq_append_getElem (l := Q) (i := n) (by omega)).symm
    rw [this, ← hn, List.take_length]
  have h2 : (Q.take n ++ [Q.getD n ⟨0, 0, 0⟩]).Perm (Q.getD n ⟨0, 0, 0⟩ :: Q.take n) := List.perm_append_comm (l₁ := Q.take n) (l₂ := [Q.getD n ⟨0, 0, 0⟩])
  rw [← e] at h2
  exact h2
end Go.Proofs.Ytkdammmikmljmaa
