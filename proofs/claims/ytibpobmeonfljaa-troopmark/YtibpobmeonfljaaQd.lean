/- What PutAll returns. -/
import Derived.Test.YtibpobmeonfljaaQc
namespace Go.Proofs.Ytibpobmeonfljaa
open Go.RowKit
set_option linter.unusedVariables false
attribute [local go_sem ↓] Go.wp_at_zero Go.wp_at_succ

theorem take_next {l : List Int} {k : Nat} (h : k < l.length) : l.take (k + 1) = l.take k ++ [l[k]] := List.take_succ_eq_append_getElem h
/-- What PutAll tells: the text, the error. -/
def qa (l : List Int) : ByteArray := if l.length ≤ 1000 then ⟨(pa l).toArray⟩ else ⟨#[]⟩
def qe (l : List Int) : Nat := if l.length ≤ 1000 then 0 else 2
theorem bs_qa {l : List Int} (h : l.length ≤ 1000) : bs (qa l) = pa l := by unfold qa; rw [if_pos h]; simp [bs]
theorem ret_two {b b' : ByteArray} {c c' : Nat} (h2 : b = b') (h3 : c = c') : Ending.returned (.tuple #[.string b, .int .i64 c]) = .returned (.tuple #[.string b', .int .i64 c']) := by rw [h2, h3]
/-- What a round of PutAll keeps. -/
def ainv (w : World) (p : Option Addr) (l : List Int) (k : Nat) (v : Value) (wr : World) : Prop := mine 5 vb w.heap.size wr v (pk l.length ++ fs (l.take k)) ∧ Below w.heap.size w wr ∧ row vi wr p l
theorem ainv_len {w wr : World} {p : Option Addr} {l : List Int} {k : Nat} {v : Value} (h : ainv w p l k v wr) (hf : ∀ x ∈ l, fits x) (hl : l.length ≤ 1000) : (pk l.length ++ fs (l.take k)).length ≤ 900000 := by
  have h1 := pk_ten (n := l.length) (by omega)
  have h2 := fs_len (l.take k) (fun x hx => hf x (List.mem_of_mem_take hx))
  have h3 : (l.take k).length ≤ l.length := List.length_take_le' _ _
  rw [List.length_append]; omega

set_option maxRecDepth 20000 in
set_option maxHeartbeats 1000000 in
theorem PutAll_ok (p : Option Addr) (l : List Int) (n c : Nat) (w : World) (hn : l.length = n) (hl : n ≤ 1000) (hr : row vi w p l) (hf : ∀ x ∈ l, fits x) :
    Calls Try.prog 52 #[.slice p n c] w fun e w' => e = .returned (.tuple #[.string (qa l), .int .i64 (qe l)]) ∧ Below w.heap.size w w' := by
  have HQ : Hid (qa l = ⟨(pk l.length ++ fs l).toArray⟩ ∧ qe l = 0) := by unfold Hid qa qe; rw [if_pos (by omega), if_pos (by omega)]; exact ⟨rfl, rfl⟩
  have HP : Hid (Calls Try.prog 68 #[.slice none 0 0, .int .u64 n] w fun e w' => ∃ v', e = .returned v' ∧ mine 5 vb w.heap.size w' v' ([] ++ pk n) ∧ Below w.heap.size w w') := putBehind_any n w.heap.size _ [] w (by omega) (mine_nil _ _ _ _) (Nat.le_refl _) (by simp)
  have HF : Hid (∀ k (h : k < l.length) (w : World), Calls Try.prog 69 #[.int .i64 l[k]] w fun e w' => e = .returned (.int .u64 (fd l[k])) ∧ w' = w) := fun k h w => Fold_any _ w (hf _ (List.getElem_mem h))
  have HB : Hid (∀ k (h : k < l.length) (v : Value) (wr : World), ainv w p l k v wr → Calls Try.prog 68 #[v, .int .u64 (fd l[k])] wr fun e w' => ∃ v', e = .returned v' ∧ ainv w p l (k + 1) v' w') := by
    intro k h v wr hi
    refine (putBehind_any _ w.heap.size v _ wr (fd_lt (hf _ (List.getElem_mem h))) hi.1 hi.2.1.size (ainv_len hi hf (by omega))).mono ?_
    rintro e w' ⟨v', rfl, h1, h2⟩
    refine ⟨v', rfl, ?_, hi.2.1.trans h2, ?_⟩
    · rw [take_next h, fs_snoc, ← List.append_assoc]; exact h1
    · exact row_below hr (hi.2.1.trans h2)
  have HR : Hid (row vi w p l) := hr
  have HN : Hid (l.length = n) := hn
  have HX : Hid (0 < (pk l.length ++ fs l).length) := by have := pk_pos l.length; unfold Hid; rw [List.length_append]; omega
  have e1 : ¬ (1000 : Int) < n := by omega
  clear hn hr hf
  go_enter Try.func52, Try.ntmps52
  go_wp2_with fail
  refine HP.out.mono ?_
  rintro e w1 ⟨v, rfl, hv, hb⟩
  have H1 : Hid (ainv w p l 0 v w1) := ⟨by rw [HN.out]; simpa [fs] using hv, hb, row_below HR.out hb⟩
  clear hv hb HP
  go_wp2_with fail
  go_loopw [4, 16] (fun a i wr => ∃ k : Nat, k ≤ n ∧ i = .int .i64 k ∧ ainv w p l k a wr) (fun _ i _ => n - (intOf i).toNat)
  case atStart => exact ⟨0, Nat.zero_le _, rfl, H1.out⟩
  case round =>
    obtain ⟨k, hk, rfl, hi⟩ := hrel
    have HI : Hid (ainv w p l k u4 wr) := hi
    clear H1
    by_cases hlt : k < n
    · obtain ⟨a, rfl, hc⟩ := row_at hi.2.2 (j := k) (by rw [HN.out]; exact hlt)
      have HF' := HF.out k (by rw [HN.out]; exact hlt)
      have HB' := HB.out k (by rw [HN.out]; exact hlt) u4 wr hi
      obtain ⟨X, hX⟩ : ∃ X, l[k]'(by rw [HN.out]; exact hlt) = X := ⟨_, rfl⟩
      rw [hX] at HF' HB' hc
      obtain ⟨F, hF⟩ : ∃ F, fd X = F := ⟨_, rfl⟩
      rw [hF] at HF' HB'
      have HF' : Hid (∀ (w : World), Calls Try.prog 69 #[.int .i64 X] w fun e w' => e = .returned (.int .u64 F) ∧ w' = w) := HF'
      have HB' : Hid (Calls Try.prog 68 #[u4, .int .u64 F] wr fun e w' => ∃ v', e = .returned v' ∧ ainv w (some a) l (k + 1) v' w') := HB'
      have hc : wr.cell? (a.add k) = some (.int .i64 X) := hc
      clear hX hF hi
      have l1 : (k : Int) < n := by omega
      have l2 : (0 : Int) ≤ k := by omega
      go_wp2_with fail
      refine (HF'.out _).mono ?_
      rintro e w' ⟨rfl, hw⟩; subst w'
      go_wp2_with fail
      refine HB'.out.mono ?_
      rintro e w3 ⟨v3, rfl, h3⟩
      have H3 : Hid (ainv w (some a) l (k + 1) v3 w3) := h3
      clear h3
      go_wp2_with fail
      go_roundw
      case rel => exact ⟨k + 1, by omega, by go_num, H3.out⟩
      case measure => simp [intOf]; omega
    · have hm : mine 5 vb w.heap.size wr u4 (pk l.length ++ fs l) := by have := hi.1; rw [List.take_of_length_le (by rw [HN.out]; omega)] at this; exact this
      have hcv := mine_string hm HX.out
      clear hm hi
      go_wp2_with fail
      go_ret2
      exact ⟨ret_two HQ.out.1.symm HQ.out.2.symm, HI.out.2.1⟩
set_option maxRecDepth 20000 in
theorem PutAll_large (p : Option Addr) (l : List Int) (n c : Nat) (w : World) (hn : l.length = n) (hl : ¬ n ≤ 1000) :
    Calls Try.prog 52 #[.slice p n c] w fun e w' => e = .returned (.tuple #[.string (qa l), .int .i64 (qe l)]) ∧ Below w.heap.size w w' := by
  have HQ : Hid (qa l = ⟨#[]⟩ ∧ qe l = 2) := by unfold Hid qa qe; rw [if_neg (by omega), if_neg (by omega)]; exact ⟨rfl, rfl⟩
  have e1 : (1000 : Int) < n := by omega
  clear hn hl
  go_enter Try.func52, Try.ntmps52
  go_wp2_with fail
  go_ret2
  exact ⟨ret_two HQ.out.1.symm HQ.out.2.symm, Below.refl _ _⟩
theorem PutAll_any (p : Option Addr) (l : List Int) (c : Nat) (w : World) (hr : row vi w p l) (hf : ∀ x ∈ l, fits x) :
    Calls Try.prog 52 #[.slice p l.length c] w fun e w' => e = .returned (.tuple #[.string (qa l), .int .i64 (qe l)]) ∧ Below w.heap.size w w' := by
  by_cases h : l.length ≤ 1000
  · exact PutAll_ok p l _ c w rfl h hr hf
  · exact PutAll_large p l _ c w rfl h

end Go.Proofs.Ytibpobmeonfljaa
