/- The pieces of a text, and when they are the rows of a field. -/
import Derived.Test.YtccapbojhgemmaaDoorSpl
namespace Go.Proofs.YtccapbojhgemmaaDoor
open Go.RowKit
set_option linter.unusedVariables false

theorem pcs_app : ∀ {A : List UInt8} (B : List UInt8), (∀ b ∈ A, b ≠ 10) → pcs (A ++ 10 :: B) = A :: pcs B
  | [], B, _ => pcs_end B
  | a :: A, B, h => by
    have ih := pcs_app (A := A) B (fun b hb => h b (by simp [hb]))
    rw [List.cons_append, pcs_more (h a (by simp)), ih]; rfl
/-- The text out of its pieces. -/
theorem pcs_join : ∀ L : List UInt8, ((pcs L).take (gh L)).flatMap (fun q => q ++ [10]) ++ (pcs L).getD (gh L) [] = L
  | [] => rfl
  | b :: r => by
    have ih := pcs_join r
    by_cases hb : b = 10
    · subst hb
      rw [gh_cons, if_pos rfl, pcs_end, List.take_succ_cons, List.flatMap_cons, List.getD_cons_succ, List.append_assoc, ih]; rfl
    · rw [gh_cons, if_neg hb, pcs_more hb, Nat.add_zero]
      have hh := pcs_head r
      cases hg : gh r with
      | zero =>
        have h1 := pcs_none hg
        rw [h1]; simp
      | succ k =>
        rw [hg] at ih
        rw [← hh] at ih
        rw [List.take_succ_cons, List.flatMap_cons, List.getD_cons_succ] at ih ⊢
        rw [List.append_assoc] at ih ⊢
        conv => rhs; rw [← ih]
        simp
/-- The rows of a field among the pieces. -/
theorem pcs_rows {W : Nat} {l : List Int} : ∀ (n k : Nat) (B : List UInt8), pcs (((List.range n).map (· + k)).flatMap (rt W l) ++ B) = ((List.range n).map (· + k)).map (fun y => (rl W l y).map sg) ++ pcs B
  | 0, k, B => by simp
  | n + 1, k, B => by
    have ih := pcs_rows (W := W) (l := l) n (k + 1) B
    have e : (List.range (n + 1)).map (· + k) = k :: (List.range n).map (· + (k + 1)) := by
      rw [List.range_succ_eq_map, List.map_cons, List.map_map]
      simp only [Nat.zero_add]
      congr 1
      apply List.map_congr_left
      intro a _
      simp [Function.comp]; omega
    rw [e, List.flatMap_cons, List.map_cons, List.cons_append, ← ih]
    unfold rt
    rw [List.append_assoc, List.append_assoc]
    exact pcs_app _ (by intro b hb; obtain ⟨x, _, rfl⟩ := List.mem_map.1 hb; exact sg_ne x)
theorem pcs_txt {W H : Nat} {l : List Int} : pcs (txt W H l) = (List.range H).map (fun y => (rl W l y).map sg) ++ [[]] := by
  have := pcs_rows (W := W) (l := l) H 0 []
  simpa [txt, pcs] using this

theorem sg_ix {b : UInt8} (h : 0 ≤ ix b) : sg (ix b) = b ∧ ix b < 4 := by
  unfold ix at h ⊢
  by_cases h1 : b = 46
  · subst h1; decide
  by_cases h2 : b = 35
  · subst h2; decide
  by_cases h3 : b = 116
  · subst h3; decide
  by_cases h4 : b = 111
  · subst h4; decide
  exfalso
  have : Lib.indexByte [46, 35, 116, 111] b = -1 := by
    simp [Lib.indexByte, Ne.symm h1, Ne.symm h2, Ne.symm h3, Ne.symm h4]
  omega
theorem ix_good (x : Int) (h : 0 ≤ x ∧ x < 4) : 0 ≤ ix (sg x) := by rw [ix_sg h]; exact h.1

/-- Blocks of one length, one behind the other: the y-th one. -/
theorem rl_blocks {W : Nat} : ∀ (Q : List (List Int)) (y : Nat), (∀ q ∈ Q, q.length = W) → y < Q.length → rl W Q.flatten y = Q.getD y []
  | [], y, _, h => by simp at h
  | q :: Q, 0, hq, _ => by
    have h1 := hq q (by simp)
    unfold rl; rw [Nat.zero_mul, List.drop_zero, List.flatten_cons, List.take_append_of_le_length (by omega), List.take_of_length_le (by omega)]; rfl
  | q :: Q, y + 1, hq, hy => by
    have h1 := hq q (by simp)
    have ih := rl_blocks Q y (fun q' h => hq q' (by simp [h])) (by simpa using hy)
    unfold rl at ih ⊢
    rw [List.flatten_cons, Nat.add_mul, Nat.one_mul, List.getD_cons_succ, ← ih]
    congr 1
    have h2 : q.drop W = [] := List.drop_of_length_le (by omega)
    rw [Nat.add_comm, ← List.drop_drop, List.drop_append_of_le_length (by omega), h2, List.nil_append]
theorem flat_len {W : Nat} : ∀ (Q : List (List Int)), (∀ q ∈ Q, q.length = W) → Q.flatten.length = W * Q.length
  | [], _ => by simp
  | q :: Q, h => by
    rw [List.flatten_cons, List.length_append, h q (by simp), flat_len Q (fun q' hq => h q' (by simp [hq])), List.length_cons, Nat.mul_add]; omega

/-- The pieces are a field's rows, and nothing behind. -/
def gd (Q : List (List UInt8)) (n W : Nat) : Prop := Q.length = n + 1 ∧ (1 ≤ n ∧ n ≤ 40) ∧ Q.getD n [] = [] ∧ (1 ≤ W ∧ W ≤ 40) ∧ ∀ i, i < n → (Q.getD i []).length = W ∧ ∀ b ∈ Q.getD i [], 0 ≤ ix b
/-- The places of the first k pieces. -/
def pcl (Q : List (List UInt8)) (k : Nat) : List Int := ((Q.take k).map fun q => q.map ix).flatten

theorem gd_yes {s : ByteArray} {n W : Nat} (h : gd (pcs (bs s)) n W) : rok s ∧ gw (bs s) = W ∧ gh (bs s) = n ∧ gl (bs s) = pcl (pcs (bs s)) n := by
  obtain ⟨h1, hn, h2, hW, h3⟩ := h
  have hgh : gh (bs s) = n := by have := pcs_len (bs s); omega
  obtain ⟨Q, hQ⟩ : ∃ Q, pcs (bs s) = Q := ⟨_, rfl⟩
  have hj := pcs_join (bs s)
  rw [hgh, hQ] at hj
  rw [hQ] at h1 h2 h3 ⊢
  rw [h2, List.append_nil] at hj
  have hmem : ∀ q ∈ (Q.take n).map (fun q => q.map ix), q.length = W := by
    intro q hq
    obtain ⟨q0, hq0, rfl⟩ := List.mem_map.1 hq
    obtain ⟨i, hi, rfl⟩ := List.mem_take_iff_getElem.1 hq0
    have hin : i < n := by omega
    have := (h3 i hin).1
    rw [List.getD_eq_getElem?_getD, List.getElem?_eq_getElem (by omega)] at this
    simpa using this
  have hlen : ((Q.take n).map fun q => q.map ix).length = n := by simp; omega
  have hpl : (pcl Q n).length = W * n := by unfold pcl; rw [flat_len _ hmem, hlen]
  have hrl : ∀ y, y < n → rl W (pcl Q n) y = (Q.getD y []).map ix := by
    intro y hy
    unfold pcl
    rw [rl_blocks _ y hmem (by omega)]
    have hyQ : y < Q.length := by omega
    simp [List.getD_eq_getElem?_getD, hy, List.getElem?_eq_getElem hyQ]
  have hgood : (pcl Q n).any bad = false := by
    rw [List.any_eq_false]
    intro x hx
    unfold pcl at hx
    obtain ⟨q, hq, hxq⟩ := List.mem_flatten.1 hx
    obtain ⟨q0, hq0, rfl⟩ := List.mem_map.1 hq
    obtain ⟨b, hb, rfl⟩ := List.mem_map.1 hxq
    obtain ⟨i, hi, rfl⟩ := List.mem_take_iff_getElem.1 hq0
    have hin : i < n := by omega
    have h4 := (h3 i hin).2 b (by rw [List.getD_eq_getElem?_getD, List.getElem?_eq_getElem (by omega)]; exact hb)
    have h5 := sg_ix h4
    unfold bad; simp; omega
  have hrt : ∀ y, y < n → rt W (pcl Q n) y = Q.getD y [] ++ [10] := by
    intro y hy
    unfold rt
    rw [hrl y hy, List.map_map]
    congr 1
    conv => rhs; rw [← List.map_id (Q.getD y [])]
    apply List.map_congr_left
    intro b hb
    exact (sg_ix ((h3 y hy).2 b hb)).1
  have hrows : ∀ k, k ≤ n → (List.range k).flatMap (rt W (pcl Q n)) = (Q.take k).flatMap (fun q => q ++ [10]) := by
    intro k
    induction k with
    | zero => intro _; simp
    | succ k ih =>
      intro hk
      have hkQ : k < Q.length := by omega
      rw [List.range_succ, List.flatMap_append, ih (by omega), List.take_succ_eq_append_getElem hkQ, List.flatMap_append]
      simp only [List.flatMap_cons, List.flatMap_nil, List.append_nil]
      rw [hrt k (by omega), List.getD_eq_getElem?_getD, List.getElem?_eq_getElem hkQ]; rfl
  have htx : txt W n (pcl Q n) = bs s := by unfold txt; rw [hrows n (Nat.le_refl _), hj]
  have hts : ts W n (pcl Q n) = s := of_bs (by rw [bs_ts, htx])
  have hro := rok_ts hW hn hpl hgood
  rw [hts] at hro
  refine ⟨hro, ?_, hgh, ?_⟩
  · rw [← htx]; exact gw_txt hpl hn.1
  · rw [← htx]; exact gl_txt hpl hgood
theorem gd_of {s : ByteArray} (h : rok s) : ∃ n W, gd (pcs (bs s)) n W ∧ gh (bs s) = n ∧ gw (bs s) = W := by
  obtain ⟨W, H, e1, e2, hW, hH, hl, hg, hts⟩ := rok_yes h
  refine ⟨H, W, ?_, e2, e1⟩
  have e : bs s = txt W H (gl (bs s)) := by have := congrArg bs hts; rw [bs_ts] at this; exact this.symm
  generalize gl (bs s) = l at *
  rw [e, pcs_txt]
  refine ⟨by simp, hH, ?_, hW, ?_⟩
  · rw [List.getD_eq_getElem?_getD, List.getElem?_append_right (by simp)]; simp
  · intro i hi
    have e2 : ((List.range H).map (fun y => (rl W l y).map sg) ++ [[]]).getD i [] = (rl W l i).map sg := by
      rw [List.getD_eq_getElem?_getD, List.getElem?_append_left (by simpa using hi), List.getElem?_map, List.getElem?_range hi]; rfl
    rw [e2]
    refine ⟨by rw [List.length_map, rl_len hl hi], ?_⟩
    intro b hb
    obtain ⟨x, hx, rfl⟩ := List.mem_map.1 hb
    have := List.any_eq_false.1 hg x (rl_mem hx)
    unfold bad at this; simp at this
    exact ix_good x ⟨by omega, by omega⟩
end Go.Proofs.YtccapbojhgemmaaDoor
