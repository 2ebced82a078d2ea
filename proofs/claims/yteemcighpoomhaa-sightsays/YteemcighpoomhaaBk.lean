/- A field's text, read, is the field. -/
import Derived.Test.YteemcighpoomhaaRd
namespace Go.Proofs.Yteemcighpoomhaa
open Go.RowKit
set_option linter.unusedVariables false

theorem sg_ne (x : Int) : sg x ≠ 10 := by unfold sg; split; decide; split; decide; split <;> decide
theorem ix_sg {x : Int} (h : 0 ≤ x ∧ x < 4) : ix (sg x) = x := by
  obtain rfl | rfl | rfl | rfl : x = 0 ∨ x = 1 ∨ x = 2 ∨ x = 3 := by omega
  all_goals decide
theorem index_front : ∀ {A : List UInt8} (B : List UInt8), (∀ b ∈ A, b ≠ 10) → Lib.indexByte (A ++ 10 :: B) 10 = (A.length : Int)
  | [], B, _ => by simp [Lib.indexByte]
  | a :: A, B, h => by
    have ih := index_front (A := A) B (fun b hb => h b (by simp [hb]))
    have ha : (a == 10) = false := by simpa using h a (by simp)
    rw [List.cons_append, Lib.indexByte, ih, ha]
    have : (((A.length : Int) == -1) = false) := by simp
    rw [this]; simp
theorem rows_join {W : Nat} {l : List Int} : ∀ k : Nat, (List.range k).flatMap (rl W l) = l.take (k * W)
  | 0 => by simp
  | k + 1 => by
    rw [List.range_succ, List.flatMap_append, rows_join k, Nat.add_mul, Nat.one_mul, List.take_add]; simp [rl]
theorem rl_mem {W : Nat} {l : List Int} {y : Nat} {x : Int} (h : x ∈ rl W l y) : x ∈ l := List.mem_of_mem_drop (List.mem_of_mem_take h)
theorem gl_app (A B : List UInt8) : gl (A ++ B) = gl A ++ gl B := by simp [gl]
theorem gl_rt {W : Nat} {l : List Int} {y : Nat} (hg : l.any bad = false) : gl (rt W l y) = rl W l y := by
  unfold rt; rw [gl_app]
  have h1 : gl [10] = [] := by decide
  rw [h1, List.append_nil]
  unfold gl
  rw [List.filter_eq_self.2 (by intro b hb; obtain ⟨x, _, rfl⟩ := List.mem_map.1 hb; simpa using sg_ne x), List.map_map]
  conv => rhs; rw [← List.map_id (rl W l y)]
  apply List.map_congr_left
  intro x hx
  have := List.any_eq_false.1 hg x (rl_mem hx)
  unfold bad at this; simp at this
  exact ix_sg ⟨by omega, by omega⟩
theorem gl_rows {W : Nat} {l : List Int} (hg : l.any bad = false) : ∀ k, gl ((List.range k).flatMap (rt W l)) = (List.range k).flatMap (rl W l)
  | 0 => by simp [gl]
  | k + 1 => by
    rw [List.range_succ, List.flatMap_append, List.flatMap_append, gl_app, gl_rows hg k]; simp [gl_rt hg]
theorem gl_txt {W H : Nat} {l : List Int} (hl : l.length = W * H) (hg : l.any bad = false) : gl (txt W H l) = l := by
  unfold txt; rw [gl_rows hg, rows_join, List.take_of_length_le (by rw [hl, Nat.mul_comm]; exact Nat.le_refl _)]
theorem gh_rt {W : Nat} {l : List Int} {y : Nat} : gh (rt W l y) = 1 := by
  unfold gh rt Lib.countByte
  rw [List.count_append, List.count_eq_zero_of_not_mem (by intro h; obtain ⟨x, _, hx⟩ := List.mem_map.1 h; exact sg_ne x hx)]; rfl
theorem gh_txt {W H : Nat} {l : List Int} : gh (txt W H l) = H := by
  unfold txt
  induction H with
  | zero => rfl
  | succ k ih =>
    have := gh_rt (W := W) (l := l) (y := k)
    unfold gh Lib.countByte at ih this ⊢
    rw [List.range_succ, List.flatMap_append, List.count_append, ih]; simpa using this
theorem gw_txt {W H : Nat} {l : List Int} (hl : l.length = W * H) (hH : 1 ≤ H) : gw (txt W H l) = W := by
  obtain ⟨k, rfl⟩ : ∃ k, H = k + 1 := ⟨H - 1, by omega⟩
  unfold gw txt
  rw [List.range_succ_eq_map, List.flatMap_cons]
  unfold rt
  rw [List.append_assoc]
  have := index_front (A := (rl W l 0).map sg) ((List.map Nat.succ (List.range k)).flatMap fun y => (rl W l y).map sg ++ [10]) (by intro b hb; obtain ⟨x, _, rfl⟩ := List.mem_map.1 hb; exact sg_ne x)
  rw [List.length_map, rl_len hl (by omega)] at this
  simpa [rt] using this
/-- A field's text as a value. -/
def ts (W H : Nat) (l : List Int) : ByteArray := ⟨(txt W H l).toArray⟩
theorem bs_ts (W H : Nat) (l : List Int) : bs (ts W H l) = txt W H l := by simp [bs, ts]
theorem rok_ts {W H : Nat} {l : List Int} (hW : 1 ≤ W ∧ W ≤ 40) (hH : 1 ≤ H ∧ H ≤ 40) (hl : l.length = W * H) (hg : l.any bad = false) : rok (ts W H l) := by
  have h1 := txt_len hl
  refine ⟨?_, ?_, ?_⟩
  · rw [← bs_len, bs_ts, h1]
    have := Nat.mul_le_mul (show W + 1 ≤ 41 by omega) hH.2; omega
  · rw [bs_ts, gw_txt hl hH.1, gh_txt, gl_txt hl hg]; exact ck_ok hW hH hl hg
  · rw [bs_ts, gw_txt hl hH.1, gh_txt, gl_txt hl hg]; rfl
/-- What is read is a right field, and is written so. -/
theorem rok_yes {s : ByteArray} (h : rok s) : ∃ W H : Nat, gw (bs s) = W ∧ gh (bs s) = H ∧ (1 ≤ W ∧ W ≤ 40) ∧ (1 ≤ H ∧ H ≤ 40) ∧ (gl (bs s)).length = W * H ∧ (gl (bs s)).any bad = false ∧ ts W H (gl (bs s)) = s := by
  obtain ⟨W, H, e1, e2, hW, hH, hl, hg⟩ := ck_yes h.2.1
  have e3 : gh (bs s) = H := by omega
  refine ⟨W, H, e1, e3, hW, hH, hl, hg, of_bs ?_⟩
  rw [bs_ts]
  have := h.2.2
  rw [e1, e3] at this
  simpa using this
end Go.Proofs.Yteemcighpoomhaa
