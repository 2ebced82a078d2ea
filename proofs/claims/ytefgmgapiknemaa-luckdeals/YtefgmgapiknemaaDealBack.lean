/- The deal undone: which cards there are behind so many steps; that each is there once; what sorting and copying a row gives. -/
import Derived.Test.YtefgmgapiknemaaDealt
import Derived.Test.YtefgmgapiknemaaShelf
import Derived.Sort.OwnSortedInts
namespace Go.Proofs.Ytefgmgapiknemaa
open Go.RowKit
set_option linter.unusedVariables false

/-- The cards behind i steps of the deal of n. -/
def dd (s n : Nat) : Nat → List Nat
  | 0 => List.range n
  | i + 1 => swp (dd s n i) (n - 1 - i) (pk (sk s i) (n - i))
theorem dd_succ (s n i : Nat) : dd s n (i + 1) = swp (dd s n i) (n - 1 - i) (pk (sk s i) (n - i)) := rfl
theorem dd_len (s n : Nat) : ∀ i, (dd s n i).length = n
  | 0 => by simp [dd]
  | i + 1 => by rw [dd_succ, swp_length]; exact dd_len s n i

theorem dl_dd (s n : Nat) : ∀ i, i ≤ n - 1 → dl (sk s i) (n - 1 - i) (dd s n i) = dl s (n - 1) (List.range n)
  | 0, _ => rfl
  | i + 1, h => by
    have ih := dl_dd s n i (by omega)
    rw [show n - 1 - i = (n - 1 - (i + 1)) + 1 by omega, dl_succ] at ih
    rw [dd_succ, ← ih]
    rw [show n - 1 - (i + 1) + 1 = n - 1 - i by omega, show n - 1 - (i + 1) + 2 = n - i by omega]
    rfl
theorem dl_end (s n : Nat) : dl s (n - 1) (List.range n) = (sk s (n - 1), dd s n (n - 1)) := by
  rw [← dl_dd s n (n - 1) (Nat.le_refl _), Nat.sub_self, dl_zero]

theorem swp_get (L : List Nat) {i j : Nat} (hi : i < L.length) (hj : j < L.length) (k : Nat) : (swp L i j)[k]? = if j = k then L[i]? else if i = k then L[j]? else L[k]? := by
  unfold swp
  rw [List.getElem?_set, List.getElem?_set, List.length_set, if_pos hi, if_pos hj]
  simp [List.getD_eq_getElem?_getD, List.getElem?_eq_getElem hi, List.getElem?_eq_getElem hj]
theorem swp_swp (L : List Nat) {i j : Nat} (hi : i < L.length) (hj : j < L.length) : swp (swp L i j) i j = L := by
  apply List.ext_getElem?
  intro k
  rw [swp_get _ (by rw [swp_length]; exact hi) (by rw [swp_length]; exact hj), swp_get L hi hj, swp_get L hi hj, swp_get L hi hj]
  by_cases c1 : j = k
  · rw [if_pos c1]
    by_cases c2 : j = i
    · rw [if_pos c2, ← c2, c1]
    · rw [if_neg c2, if_pos rfl, c1]
  · rw [if_neg c1, if_pos rfl]
    by_cases c2 : i = k
    · rw [if_pos c2, c2]
    · rw [if_neg c2, if_neg c1, if_neg c2]

theorem swp_perm (L : List Nat) {i j : Nat} (hi : i < L.length) (hj : j < L.length) : (swp L i j).Perm L := by
  have h := Array.swap_perm (xs := L.toArray) (i := i) (j := j) (by simpa using hi) (by simpa using hj)
  have e : (L.toArray.swap i j (by simpa using hi) (by simpa using hj)).toList = swp L i j := by
    rw [Array.toList_swap]
    unfold swp
    simp [List.getD_eq_getElem?_getD, List.getElem?_eq_getElem hi, List.getElem?_eq_getElem hj]
  have h2 := h.toList
  rw [e] at h2; simpa using h2

theorem dd_pick {s n i : Nat} (h : i < n - 1) : n - 1 - i < n ∧ pk (sk s i) (n - i) < n := by
  have := pk_lt (s := sk s i) (n := n - i) (by omega)
  omega
theorem dd_perm (s n : Nat) : ∀ i, i ≤ n - 1 → (dd s n i).Perm (List.range n)
  | 0, _ => List.Perm.refl _
  | i + 1, h => by
    have hp := dd_pick (s := s) (n := n) (i := i) (by omega)
    rw [dd_succ]
    exact (swp_perm _ (by rw [dd_len]; exact hp.1) (by rw [dd_len]; exact hp.2)).trans (dd_perm s n i (by omega))
theorem dd_back {s n k : Nat} (h1 : 1 ≤ k) (h2 : k < n) : swp (dd s n (n - k)) k (pk (sk s (n - 1 - k)) (k + 1)) = dd s n (n - (k + 1)) := by
  have e := dd_succ s n (n - (k + 1))
  rw [show n - (k + 1) + 1 = n - k by omega, show n - 1 - (n - (k + 1)) = k by omega, show n - (n - (k + 1)) = k + 1 by omega, show n - (k + 1) = n - 1 - k by omega] at e
  rw [show n - (k + 1) = n - 1 - k by omega, e]
  have hp := pk_lt (s := sk s (n - 1 - k)) (n := k + 1) (by omega)
  exact swp_swp _ (by rw [dd_len]; omega) (by rw [dd_len]; omega)

theorem sort_perm {L : List Nat} {n : Nat} (h : L.Perm (List.range n)) : (L.map fun x : Nat => (x : Int)).mergeSort (fun x y => decide (x ≤ y)) = (List.range n).map fun x : Nat => (x : Int) := by
  apply List.Perm.eq_of_pairwise (le := fun x y : Int => x ≤ y)
  · intro a b _ _ h1 h2; omega
  · have := List.pairwise_mergeSort (le := fun x y : Int => decide (x ≤ y)) (by simp; omega) (by simp; omega) (L.map fun x : Nat => (x : Int))
    simpa using this
  · rw [List.pairwise_map]
    exact (List.pairwise_lt_range).imp (fun h => by omega)
  · exact (List.mergeSort_perm _ _).trans (h.map _)

theorem ints_map (L : List Nat) : ints L = (L.map fun x : Nat => (x : Int)).map (Value.int .i64) := by unfold ints; rw [List.map_map]; rfl

theorem Sort_any (B g n c : Nat) (L : List Nat) (w : World) (hn : n ≤ 52) (ho : owns B w g n c L) (hp : L.Perm (List.range n)) :
    Calls Try.prog 22 #[.slice (some ⟨g, 0, none⟩) n c] w fun e w' => e = .returned (.tuple #[]) ∧ owns B w' g n c (List.range n) ∧ w.grownBy w' (some g) := by
  have hl := owns_len ho
  rcases ho.2 with ⟨h0, _⟩ | ⟨g', cap, cur, hv, hg, hb, h1, h2, h3, h4⟩
  · cases h0
  · cases hv
    rw [Nat.mul_one, ints_map, ← hl] at h4
    have hl2 : (L.map fun x : Nat => (x : Int)).length = n := by rw [List.length_map]; exact hl
    have hH := holds_of_blockI hb (by rw [List.length_map]; exact h4)
    have hc := Try.slices_Sort_int g 0 c _ w hH (Array.getElem?_eq_some_iff.1 hb).1 (by rw [hl2]; omega)
    rw [hl2] at hc
    refine hc.mono ?_
    rintro e w' ⟨rfl, m, os, rfl⟩
    refine ⟨rfl, ?_, grownBy_sortedI _⟩
    rw [sort_perm hp]
    have := ownsRow_sortedI (n := m) (os := os) (ss := L.map fun x : Nat => (x : Int)) (ts := (List.range n).map fun x : Nat => (x : Int)) (by simp [hl]) hg hb (by rw [hl2]; exact h1) h2 h3
    rw [hl2, ← ints_map] at this
    exact this

theorem Clone_any (g n c : Nat) (L : List Nat) (w : World) (hn : n ≤ 52) (hl : L.length = n) (hc : ∀ j, j < n → w.cell? ⟨g, j, none⟩ = some (.int .i64 ((L.getD j 0 : Nat) : Int))) :
    Calls Try.prog 21 #[.slice (some ⟨g, 0, none⟩) n c] w fun e w' => ∃ g' c', e = .returned (.slice (some ⟨g', 0, none⟩) n c') ∧ n ≤ c' ∧ w.heap.size ≤ g' ∧ owns w.heap.size w' g' n c' L ∧ Below w.heap.size w w' := by
  have hl2 : (L.map fun x : Nat => (x : Int)).length = n := by rw [List.length_map]; exact hl
  refine (Try.slices_Clone_int g 0 n c (L.map fun x : Nat => (x : Int)) w (by omega) (by omega) (fun j hj => ?_)).mono ?_
  · rw [Nat.zero_add, hc j (by omega)]
    have hj' : j < L.length := by omega
    simp [List.getD_eq_getElem?_getD, List.getElem?_eq_getElem hj']
  · rintro e w' ⟨v, rfl, ho, hne, hb⟩
    rw [List.take_of_length_le (by omega), ← ints_map] at ho
    rcases ho.2 with ⟨h0, _⟩ | ⟨g', cap, cur, rfl, hg, _, hcap, _⟩
    · exact absurd h0 hne
    · exact ⟨g', cap, rfl, hcap, hg, ho, hb⟩
end Go.Proofs.Ytefgmgapiknemaa
