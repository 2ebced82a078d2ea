/- A field turned: as many places of each sort as before; turned by two quarters its places are the other way round. -/
import Derived.Test.YtccapbojhgemmaaTm
namespace Go.Proofs.Ytccapbojhgemmaa
open Go.RowKit
set_option linter.unusedVariables false

def bak (W H i : Nat) : Nat := (i % W) * H + (H - 1 - i / W)
theorem lt_parts {W H j : Nat} (hj : j < W * H) : 0 < W ∧ 0 < H ∧ j % H < H ∧ j / H < W := by
  have hW : 0 < W := Nat.pos_of_ne_zero fun h => by rw [h] at hj; simp at hj
  have hH : 0 < H := Nat.pos_of_ne_zero fun h => by rw [h] at hj; simp at hj
  exact ⟨hW, hH, Nat.mod_lt _ hH, by rw [Nat.div_lt_iff_lt_mul hH]; exact hj⟩
theorem two_div {a b c : Nat} (hb : b < c) : (a * c + b) / c = a := by rw [Nat.mul_comm, Nat.mul_add_div (by omega), Nat.div_eq_of_lt hb]; omega
theorem two_mod {a b c : Nat} (hb : b < c) : (a * c + b) % c = b := by rw [Nat.mul_comm, Nat.mul_add_mod, Nat.mod_eq_of_lt hb]
theorem src_lt {W H j : Nat} (hj : j < W * H) : src W H j < W * H := by
  obtain ⟨hW, hH, h1, h2⟩ := lt_parts hj
  unfold src
  have : (H - 1 - j % H + 1) * W ≤ H * W := Nat.mul_le_mul_right _ (by omega)
  rw [Nat.add_mul, Nat.mul_comm H W] at this; omega
theorem bak_src {W H j : Nat} (hj : j < W * H) : bak W H (src W H j) = j := by
  obtain ⟨hW, hH, h1, h2⟩ := lt_parts hj
  unfold bak src
  rw [two_mod h2, two_div h2, show H - 1 - (H - 1 - j % H) = j % H by omega]
  have := Nat.div_add_mod j H
  rw [Nat.mul_comm] at this; omega
theorem bak_lt {W H i : Nat} (hi : i < W * H) : bak W H i < W * H := by
  obtain ⟨hH, hW, h1, h2⟩ := lt_parts (W := H) (H := W) (j := i) (by rw [Nat.mul_comm]; exact hi)
  unfold bak
  have : (i % W + 1) * H ≤ W * H := Nat.mul_le_mul_right _ (by omega)
  rw [Nat.add_mul] at this
  generalize i / W = q at *
  generalize (i % W) * H = r at *
  omega
theorem src_bak {W H i : Nat} (hi : i < W * H) : src W H (bak W H i) = i := by
  obtain ⟨hH, hW, h1, h2⟩ := lt_parts (W := H) (H := W) (j := i) (by rw [Nat.mul_comm]; exact hi)
  have h3 := Nat.div_add_mod i W
  rw [Nat.mul_comm] at h3
  unfold bak src
  generalize i / W = q at *
  rw [two_mod (show H - 1 - q < H by omega), two_div (show H - 1 - q < H by omega), show H - 1 - (H - 1 - q) = q by omega]
  exact h3
theorem src_nodup (W H : Nat) : ((List.range (W * H)).map (src W H)).Nodup := by
  unfold List.Nodup
  rw [List.pairwise_map]
  refine List.Pairwise.imp_of_mem ?_ (List.nodup_range (n := W * H))
  intro a b ha hb hne e
  apply hne
  rw [← bak_src (List.mem_range.1 ha), ← bak_src (List.mem_range.1 hb), e]
theorem src_perm (W H : Nat) : ((List.range (W * H)).map (src W H)).Perm (List.range (W * H)) := by
  rw [List.perm_iff_count]
  intro i
  rw [(src_nodup W H).count, (List.nodup_range (n := W * H)).count]
  by_cases hi : i < W * H
  · rw [if_pos (List.mem_map.2 ⟨bak W H i, List.mem_range.2 (bak_lt hi), src_bak hi⟩), if_pos (List.mem_range.2 hi)]
  · rw [if_neg, if_neg]
    · intro h; exact hi (List.mem_range.1 h)
    · intro h
      obtain ⟨j, hj, rfl⟩ := List.mem_map.1 h
      exact hi (src_lt (List.mem_range.1 hj))
theorem list_range (l : List Int) : l = (List.range l.length).map fun i => l.getD i 0 := by
  apply List.ext_getElem
  · simp
  · intro i h1 h2
    simp [List.getElem?_eq_getElem h1]
theorem tn_perm {W H : Nat} {l : List Int} (hl : l.length = W * H) : (tn W H l).Perm l := by
  have h1 : tn W H l = ((List.range (W * H)).map (src W H)).map fun i => l.getD i 0 := by unfold tn; rw [List.map_map]; rfl
  rw [h1]
  refine ((src_perm W H).map _).trans ?_
  rw [← hl, ← list_range]
theorem tn_at {W H : Nat} {l : List Int} {j : Nat} (hj : j < W * H) : (tn W H l).getD j 0 = l.getD (src W H j) 0 := by
  unfold tn
  rw [List.getD_eq_getElem?_getD, List.getElem?_map, List.getElem?_range hj]; rfl
theorem src_two {W H j : Nat} (hj : j < H * W) : src W H (src H W j) = W * H - 1 - j := by
  obtain ⟨hH, hW, h1, h2⟩ := lt_parts hj
  have e1 : src H W j % H = j / W := by unfold src; exact two_mod h2
  have e2 : src H W j / H = W - 1 - j % W := by unfold src; exact two_div h2
  have h3 := Nat.div_add_mod j W
  have h4 : (H - 1 - j / W) * W + (j / W) * W + W = H * W := by
    rw [← Nat.add_mul, show H - 1 - j / W + j / W = H - 1 by omega, Nat.sub_mul]
    have : 1 * W ≤ H * W := Nat.mul_le_mul_right _ hH
    omega
  have h5 : src W H (src H W j) = (H - 1 - src H W j % H) * W + src H W j / H := rfl
  rw [h5, e1, e2, Nat.mul_comm W H]
  rw [Nat.mul_comm] at h3
  omega
theorem tn_two {W H : Nat} {l : List Int} (hl : l.length = W * H) : tn H W (tn W H l) = l.reverse := by
  apply List.ext_getElem
  · rw [tn_len, List.length_reverse, hl, Nat.mul_comm]
  intro j h1 h2
  rw [tn_len] at h1
  have e1 : (tn H W (tn W H l))[j]'(by rw [tn_len]; exact h1) = (tn H W (tn W H l)).getD j 0 := by rw [List.getD_eq_getElem?_getD, List.getElem?_eq_getElem]; rfl
  rw [e1, tn_at h1, tn_at (by have := src_lt h1; rw [Nat.mul_comm]; exact this), src_two h1, List.getElem_reverse, ← hl, List.getD_eq_getElem?_getD, List.getElem?_eq_getElem (by rw [hl]; rw [Nat.mul_comm] at h1; omega)]
  rfl
theorem tn_four {W H : Nat} {l : List Int} (hl : l.length = W * H) : tn H W (tn W H (tn H W (tn W H l))) = l := by
  rw [tn_two (l := tn H W (tn W H l)) (by rw [tn_len, Nat.mul_comm]), tn_two hl, List.reverse_reverse]
/-- What stood in the first corner stands in the next one. -/
theorem tn_corner {W H : Nat} {l : List Int} (hW : 1 ≤ W) (hH : 1 ≤ H) : (tn W H l).getD (H - 1) 0 = l.getD 0 0 := by
  have hlt : H - 1 < W * H := by have : 1 * H ≤ W * H := Nat.mul_le_mul_right _ hW; omega
  rw [tn_at hlt]
  unfold src
  rw [Nat.mod_eq_of_lt (by omega), Nat.div_eq_of_lt (by omega)]; simp
theorem sort_same {l m : List Int} (h : l.Perm m) : l.mergeSort (fun x y => decide (x ≤ y)) = m.mergeSort (fun x y => decide (x ≤ y)) := by
  apply List.Perm.eq_of_pairwise (le := fun x y : Int => x ≤ y)
  · intro a b _ _ h1 h2; omega
  · have := List.pairwise_mergeSort (le := fun x y : Int => decide (x ≤ y)) (by simp; omega) (by simp; omega) l
    simpa using this
  · have := List.pairwise_mergeSort (le := fun x y : Int => decide (x ≤ y)) (by simp; omega) (by simp; omega) m
    simpa using this
  · exact (List.mergeSort_perm _ _).trans (h.trans (List.mergeSort_perm _ _).symm)
end Go.Proofs.Ytccapbojhgemmaa
