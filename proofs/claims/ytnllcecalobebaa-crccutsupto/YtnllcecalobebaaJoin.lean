/- What Join and the functions under it return: one contract a function. -/
import Derived.Test.YtnllcecalobebaaCon
import Derived.Test.YtnllcecalobebaaPost
import Derived.Laws.Rows
import Derived.Laws.Tables
import Derived.Deep.OwnRows
namespace Go.Proofs.Ytnllcecalobebaa
open Go.RowKit Go.Deep
set_option linter.unusedVariables false

/-- What a change does with each bit, as the program lays it. -/
def tab (f : Nat → Nat) : Array Value := ((List.range 32).map fun i => Value.int .u32 (f (2 ^ i) : Nat)).toArray
/-- So far k of them; the others are 0. -/
def ptab (f : Nat → Nat) (k : Nat) : Array Value := ((List.range 32).map fun i => Value.int .u32 ((if i < k then f (2 ^ i) else 0 : Nat) : Int)).toArray
theorem tab_size (f : Nat → Nat) : (tab f).size = 32 := by simp [tab]
theorem ptab_size (f : Nat → Nat) (k : Nat) : (ptab f k).size = 32 := by simp [ptab]
theorem tab_at (f : Nat → Nat) (k : Nat) (h : k < 32) : (tab f)[k]? = some (.int .u32 (f (2 ^ k) : Nat)) := by
  simp [tab, h]
theorem ptab_at (f : Nat → Nat) (k j : Nat) (h : j < 32) : (ptab f k)[j]? = some (.int .u32 ((if j < k then f (2 ^ j) else 0 : Nat) : Int)) := by
  unfold ptab
  rw [List.getElem?_toArray, List.getElem?_map, List.getElem?_range h]; rfl
theorem ptab_next (f : Nat → Nat) (k : Nat) (h : k < 32) : (ptab f k).setIfInBounds k (.int .u32 (f (2 ^ k) : Nat)) = ptab f (k + 1) := by
  apply Array.ext_getElem?
  intro j
  rw [Array.getElem?_setIfInBounds]
  by_cases hj : j < 32
  · by_cases e : k = j
    · subst e
      rw [if_pos rfl, ptab_size, if_pos h, ptab_at f _ k h, if_pos (by omega)]
    · rw [if_neg e, ptab_at f k j hj, ptab_at f (k + 1) j hj]
      by_cases g : j < k
      · rw [if_pos g, if_pos (by omega)]
      · rw [if_neg g, if_neg (by omega)]
  · rw [if_neg (by omega), Array.getElem?_eq_none (by rw [ptab_size]; omega), Array.getElem?_eq_none (by rw [ptab_size]; omega)]
theorem ptab_all (f : Nat → Nat) : ptab f 32 = tab f := by
  apply Array.ext_getElem?
  intro j
  by_cases hj : j < 32
  · rw [ptab_at f 32 j hj, tab_at f j hj, if_pos hj]
  · rw [Array.getElem?_eq_none (by rw [ptab_size]; omega), Array.getElem?_eq_none (by rw [tab_size]; omega)]
theorem tab_flat (f : Nat → Nat) : (tab f).all (·.oneCell') = true := by
  rw [Array.all_eq_true_iff_forall_mem]
  intro v hv
  simp only [tab, List.mem_toArray, List.mem_map] at hv
  obtain ⟨i, _, rfl⟩ := hv
  rfl

theorem info45 : (Try.prog.info? 45).map (·.size) = some 32 := by kernel_rfl
theorem load45 {ops : Array Oper} {rest : List Oper} {o : Oper} {a : Act} {w : World} {Q : Exit → Act → World → Prop} (hgd : o.guard = none) (x : Operand) (ho : o.op = .load 45 x) (g : Nat) (hx : a.eval x = .pointer (some ⟨g, 0, none⟩))
    (c : Array Value) (hg : w.heap[g]? = some (.cells c 45 (0, 0))) (hc : c.size = 32) (h : wpList Try.prog ops Q rest (a.put o.dst (.agg c)) w) : wpList Try.prog ops Q (o :: rest) a w :=
  wpList_load_row hgd 45 x ho g hx 45 c (0, 0) _ hg Try.underlying45 rfl (by rw [hc]; exact info45) h
theorem store45 {ops : Array Oper} {rest : List Oper} {o : Oper} {a : Act} {w : World} {Q : Exit → Act → World → Prop} (hgd : o.guard = none) (x y : Operand) (ho : o.op = .store 45 x y) (g : Nat) (c : Array Value) (hx : a.eval x = .pointer (some ⟨g, 0, none⟩)) (hy : a.eval y = .agg c)
    (old : Array Value) (hg : w.heap[g]? = some (.cells old 45 (0, 0))) (hold : old.size = 32) (hc : c.size = 32) (h1 : c.all (·.oneCell') = true)
    (h : wpList Try.prog ops Q rest (a.put o.dst undef) (w.setRow g c)) : wpList Try.prog ops Q (o :: rest) a w :=
  wpList_store_row hgd 45 x y ho g c hx hy 45 old hg (by rw [hc]; exact info45) (by rw [hold, hc]) h1 h

theorem bit_one (bb k : Nat) (h : bb < 4294967296) : bits .and .u32 ((bb : Int) / 2 ^ k) 1 = ((bb / 2 ^ k % 2 : Nat) : Int) := by
  have := and_one32 (bb / 2 ^ k) (Nat.lt_of_le_of_lt (Nat.div_le_self _ _) h)
  simpa using this

theorem index45 (c : Array Value) (k : Nat) (v : Int) (hk : k < 32) (h : c[k]? = some (.int .u32 v)) (w : World) : (Instr.index 45 (.agg c) (.int .i64 (k : Int))).run Try.prog w = .ok (.int .u32 v) w := by
  have hk' : (0 : Int) ≤ (k : Int) ∧ (k : Int) < 32 := by omega
  simp [Instr.index, asIntOf, run_underlying Try.underlying45, hk, Go.part, h, go_sem]

set_option maxRecDepth 20000 in
set_option maxHeartbeats 400000 in
theorem of_any (f : Nat → Nat) (hf : Lin f) (n : Nat) (hn : n < 4294967296) (w : World) :
    Calls Try.prog 25 #[.agg (tab f), .int .u32 n] w fun e w' => e = .returned (.int .u32 (f n)) ∧ Below w.heap.size w w' := by
  obtain ⟨c, hc⟩ : ∃ c, tab f = c := ⟨_, rfl⟩
  have h32 : Hid (c.size = 32) := by rw [← hc]; exact tab_size f
  have hat : Hid (∀ k, k < 32 → c[k]? = some (.int .u32 (f (2 ^ k) : Nat))) := by rw [← hc]; exact tab_at f
  rw [hc]
  clear hc
  have HF : Hid (Lin f) := hf
  have HN : Hid (n < 4294967296) := hn
  clear hf hn
  go_enter Try.func25, Try.ntmps25
  go_wp2_with (
    with_reducible refine load45 ?_ (.tmp 2) ?_ w.heap.size ?_ c ?_ h32.out ?_
    · rfl
    · rfl
    · rfl
    · exact heap_alloc_new w _)
  go_loop [5, 9] (fun a i => ∃ k : Nat, k ≤ 32 ∧ a = .int .u32 (f (n % 2 ^ k) : Nat) ∧ i = .int .i64 k) (fun _ i => 32 - (intOf i).toNat)
  case atStart => exact ⟨0, by omega, by rw [Nat.pow_zero, Nat.mod_one, HF.out.zero]; rfl, rfl⟩
  case round =>
    obtain ⟨k, hk, rfl, rfl⟩ := hrel
    by_cases hlt : k < 32
    · have hix : ∀ w, (Instr.index 45 (.agg c) (.int .i64 (k : Int))).run Try.prog w = .ok (.int .u32 (f (2 ^ k) : Nat)) w := index45 c k _ hlt (hat.out k hlt)
      have hand := bit_one n k HN.out
      have hx := u32_xor_nat (f (n % 2 ^ k)) (f (2 ^ k)) (HF.out.lt (Nat.lt_of_le_of_lt (Nat.mod_le _ _) HN.out)) (HF.out.lt (by have : 2 ^ k < 2 ^ 32 := Nat.pow_lt_pow_right (by omega) hlt; simpa using this))
      have H1 : Hid (n / 2 ^ k % 2 = 1 → f (n % 2 ^ (k + 1)) = f (n % 2 ^ k) ^^^ f (2 ^ k)) := lin_one HF.out n k
      have H0 : Hid (n / 2 ^ k % 2 = 0 → f (n % 2 ^ (k + 1)) = f (n % 2 ^ k)) := lin_none n k
      obtain ⟨A, hA⟩ : ∃ A, f (n % 2 ^ k) = A := ⟨_, rfl⟩
      obtain ⟨B, hB⟩ : ∃ B, f (2 ^ k) = B := ⟨_, rfl⟩
      obtain ⟨C, hC⟩ : ∃ C, A ^^^ B = C := ⟨_, rfl⟩
      obtain ⟨D, hD⟩ : ∃ D, f (n % 2 ^ (k + 1)) = D := ⟨_, rfl⟩
      rw [hA, hB, hC] at hx
      rw [hB] at hix
      rw [hA, hB, hC, hD] at H1
      rw [hA, hD] at H0
      rw [hA]
      have HD : Hid (f (n % 2 ^ (k + 1)) = D) := hD
      clear hA hB hC hD
      rcases Nat.mod_two_eq_zero_or_one (n / 2 ^ k) with hb | hb
      · rw [hb] at hand
        obtain rfl := H0.out hb
        clear hb
        go_wp2_with fail
        go_round
        case rel => exact ⟨k + 1, by omega, by rw [HD.out], by go_num⟩
        case measure => simp [intOf]; omega
      · rw [hb] at hand
        obtain rfl := H1.out hb
        clear hb
        go_wp2_with fail
        go_round
        case rel => exact ⟨k + 1, by omega, by rw [HD.out], by go_num⟩
        case measure => simp [intOf]; omega
    · obtain rfl : k = 32 := by omega
      have HE : Hid (f (n % 2 ^ 32) = f n) := by show _ = _; rw [Nat.mod_eq_of_lt (by simpa using HN.out)]
      obtain ⟨A, hA⟩ : ∃ A, f (n % 2 ^ 32) = A := ⟨_, rfl⟩
      rw [hA] at HE ⊢
      clear hA
      go_wp2_with fail
      go_ret
      exact ⟨ret_int (by rw [HE.out]), (Below.refl _ _).alloc (Nat.le_refl _) _⟩

theorem pow32 (k : Nat) (h : k < 32) : (2 : Int) ^ k % 4294967296 = ((2 ^ k : Nat) : Int) := by
  have h2 : 2 ^ k < 4294967296 := by have : 2 ^ k < 2 ^ 32 := Nat.pow_lt_pow_right (by omega) h; simpa using this
  have h3 : ((2 ^ k : Nat) : Int) < 4294967296 := by omega
  rw [Int.natCast_pow] at h3 ⊢
  exact Int.emod_eq_of_lt (Int.pow_nonneg (by decide)) h3

def zinv (w : World) (b : Nat) (f : Nat → Nat) (k : Nat) (wr : World) : Prop := Below w.heap.size w wr ∧ wr.heap[w.heap.size]? = some (.cells (ptab f 0) 45 (0, 0)) ∧ wr.heap[b]? = some (.cells (ptab f k) 45 (0, 0))
theorem row_store {wr : World} {b k : Nat} {f : Nat → Nat} (h : wr.heap[b]? = some (.cells (ptab f k) 45 (0, 0))) (hk : k < 32) : (wr.setCell ⟨b, k, none⟩ (.int .u32 (f (2 ^ k) : Nat))).heap[b]? = some (.cells (ptab f (k + 1)) 45 (0, 0)) := by
  rw [← ptab_next f k hk]
  simp [World.setCell, Array.getElem?_modify, h]
theorem row_other {wr : World} {b c k : Nat} {v : Value} {o : Option Obj} (h : wr.heap[c]? = o) (hn : b ≠ c) : (wr.setCell ⟨b, k, none⟩ v).heap[c]? = o := by
  rw [← h]
  simp [World.setCell, Array.getElem?_modify, hn]
theorem row_cell {wr : World} {b k j : Nat} {f : Nat → Nat} (h : wr.heap[b]? = some (.cells (ptab f k) 45 (0, 0))) (hj : j < 32) : (∃ v, wr.cell? ⟨b, j, none⟩ = some v) ∧ wr.frozen? ⟨b, j, none⟩ = false := by
  refine ⟨⟨.int .u32 ((if j < k then f (2 ^ j) else 0 : Nat) : Int), ?_⟩, ?_⟩
  · rw [cell_of_row wr b j _ _ _ h]; exact ptab_at f k j hj
  · simp [World.frozen?, h]
theorem below_setRow {B : Nat} {w wr : World} (h : Below B w wr) {g : Nat} (hg : B ≤ g) (c : Array Value) : Below B w (wr.setRow g c) :=
  ⟨h.os, h.tape, h.output, by rw [setRow_size]; exact h.size, fun k hk => (setRow_other wr g k c (by omega)).trans (h.block k hk)⟩

theorem lit45 (f : Nat → Nat) : (#[.int .u32 0, .int .u32 0, .int .u32 0, .int .u32 0, .int .u32 0, .int .u32 0, .int .u32 0, .int .u32 0, .int .u32 0, .int .u32 0, .int .u32 0, .int .u32 0, .int .u32 0, .int .u32 0, .int .u32 0, .int .u32 0, .int .u32 0, .int .u32 0, .int .u32 0, .int .u32 0, .int .u32 0, .int .u32 0, .int .u32 0, .int .u32 0, .int .u32 0, .int .u32 0, .int .u32 0, .int .u32 0, .int .u32 0, .int .u32 0, .int .u32 0, .int .u32 0] : Array Value) = ptab f 0 := rfl
theorem zinv_next {w wr : World} {f : Nat → Nat} {k : Nat} (h : zinv w (w.heap.size + 1) f k wr) (hk : k < 32) : zinv w (w.heap.size + 1) f (k + 1) (wr.setCell ⟨w.heap.size + 1, k, none⟩ (.int .u32 (f (2 ^ k) : Nat))) :=
  ⟨h.1.setCell (show w.heap.size ≤ w.heap.size + 1 by omega) _, row_other h.2.1 (by omega), row_store h.2.2 hk⟩

set_option maxRecDepth 20000 in
set_option maxHeartbeats 400000 in
theorem zero_any (w : World) :
    Calls Try.prog 24 #[] w fun e w' => e = .returned (.agg (tab (bts 8))) ∧ Below w.heap.size w w' := by
  go_enter Try.func24, Try.ntmps24
  go_wp2_with fail
  rw [lit45 (bts 8)]
  obtain ⟨w1, hw1⟩ : ∃ w1 : World, (w.alloc (.cells (ptab (bts 8) 0) 45)).alloc (.cells (ptab (bts 8) 0) 45) = w1 := ⟨_, rfl⟩
  have H1 : Hid (zinv w (w.heap.size + 1) (bts 8) 0 w1) := by
    rw [← hw1]; exact ⟨((Below.refl _ _).alloc (Nat.le_refl _) _).alloc (by simp) _, heap_alloc2_old w _ _, heap_alloc2_new w _ _⟩
  rw [hw1]
  clear hw1
  go_loopw [3] (fun i wr => ∃ k : Nat, k ≤ 32 ∧ i = .int .i64 k ∧ zinv w (w.heap.size + 1) (bts 8) k wr) (fun i _ => 32 - (intOf i).toNat)
  case atStart => exact ⟨0, by omega, rfl, H1.out⟩
  case round =>
    obtain ⟨k, hk, rfl, R⟩ := hrel
    have RR : Hid (zinv w (w.heap.size + 1) (bts 8) k wr) := R
    clear H1
    by_cases hlt : k < 32
    · obtain ⟨⟨v0, hd⟩, hf⟩ := row_cell R.2.2 hlt
      have hN := zinv_next R hlt
      have hp := pow32 k hlt
      have hp2 : 2 ^ k < 4294967296 := by have : 2 ^ k < 2 ^ 32 := Nat.pow_lt_pow_right (by omega) hlt; simpa using this
      obtain ⟨p, hpp⟩ : ∃ p, 2 ^ k = p := ⟨_, rfl⟩
      rw [hpp] at hp hN hp2
      have HP : Hid (p < 4294967296) := hp2
      have HT : Hid (tk p 0 = bts 8 p) := by show bts 8 (p ^^^ 0) = bts 8 p; rw [Nat.xor_zero]
      have HN : Hid (zinv w (w.heap.size + 1) (bts 8) (k + 1) (wr.setCell ⟨w.heap.size + 1, k, none⟩ (.int .u32 (bts 8 p : Nat)))) := hN
      clear hpp R hN hp2
      go_wp2_with fail
      refine (take_any p 0 _ HP.out (by omega)).mono ?_
      rintro e w' ⟨rfl, hw⟩; subst w'
      rw [HT.out]
      obtain ⟨X, hX⟩ : ∃ X, bts 8 p = X := ⟨_, rfl⟩
      rw [hX] at HN ⊢
      clear hX HT
      go_wp2_with fail
      go_roundw
      case rel => exact ⟨k + 1, by omega, by go_num, HN.out⟩
      case measure => simp [intOf]; omega
    · obtain rfl : k = 32 := by omega
      obtain ⟨hB, h0, h1⟩ := R
      rw [ptab_all] at h1
      go_wp2_with (first
        | (with_reducible refine load45 ?_ (.tmp 1) ?_ (w.heap.size + 1) ?_ (tab (bts 8)) ?_ (tab_size _) ?_
           · rfl
           · rfl
           · rfl
           · exact h1)
        | (with_reducible refine store45 ?_ (.tmp 0) (.tmp 12) ?_ w.heap.size (tab (bts 8)) ?_ ?_ (ptab (bts 8) 0) ?_ (ptab_size _ _) (tab_size _) (tab_flat _) ?_
           · rfl
           · rfl
           · rfl
           · rfl
           · exact h0))
      exact bodyPost_ret (v := .agg (tab (bts 8))) (results_cell_row Try.results24 _ _ w.heap.size 45 (tab (bts 8)) (0, 0) _ rfl (setRow_heap wr _ _ _ _ _ h0) Try.underlying45 rfl (by rw [tab_size]; exact info45)) rfl ⟨rfl, below_setRow hB (Nat.le_refl _) _⟩

theorem lin_twice {f : Nat → Nat} (h : Lin f) : Lin (fun x => f (f x)) := ⟨fun a b => by rw [h.add, h.add], fun g => h.lt (h.lt g)⟩
/-- What a round of doubling a change keeps. -/
def dinv (w : World) (f : Nat → Nat) (k : Nat) (wr : World) : Prop :=
  Below w.heap.size w wr ∧ w.heap.size + 2 < wr.heap.size ∧ wr.heap[w.heap.size]? = some (.cells (tab f) 45 (0, 0)) ∧ wr.heap[w.heap.size + 1]? = some (.cells (ptab (fun x => f (f x)) 0) 45 (0, 0)) ∧ wr.heap[w.heap.size + 2]? = some (.cells (ptab (fun x => f (f x)) k) 45 (0, 0))
theorem dinv_later {w wr w' : World} {f : Nat → Nat} {k : Nat} (h : dinv w f k wr) (hb : Below wr.heap.size wr w') : dinv w f k w' := by
  obtain ⟨h1, h2, h3, h4, h5⟩ := h
  exact ⟨h1.trans (hb.mono h1.size), Nat.lt_of_lt_of_le h2 hb.size, (hb.block _ (by omega)).trans h3, (hb.block _ (by omega)).trans h4, (hb.block _ (by omega)).trans h5⟩
theorem dinv_next {w wr : World} {f : Nat → Nat} {k : Nat} (h : dinv w f k wr) (hk : k < 32) : dinv w f (k + 1) (wr.setCell ⟨w.heap.size + 2, k, none⟩ (.int .u32 (f (f (2 ^ k)) : Nat))) := by
  obtain ⟨h1, h2, h3, h4, h5⟩ := h
  exact ⟨h1.setCell (show w.heap.size ≤ w.heap.size + 2 by omega) _, by simpa using h2, row_other h3 (by omega), row_other h4 (by omega), row_store (f := fun x => f (f x)) h5 hk⟩
theorem dinv_start (w : World) (f : Nat → Nat) : dinv w f 0 (((w.alloc (.cells (tab f) 45)).alloc (.cells (ptab (fun x => f (f x)) 0) 45)).alloc (.cells (ptab (fun x => f (f x)) 0) 45)) := by
  have s1 : (w.alloc (.cells (tab f) 45)).heap.size = w.heap.size + 1 := by simp
  refine ⟨(((Below.refl _ _).alloc (Nat.le_refl _) _).alloc (by simp) _).alloc (by simp; omega) _, by simp, ?_, ?_, ?_⟩
  · rw [blk_alloc_lt _ _ _ (by simp; omega), blk_alloc_lt _ _ _ (by simp), heap_alloc_new]
  · have := heap_alloc2_old (w.alloc (.cells (tab f) 45)) (.cells (ptab (fun x => f (f x)) 0) 45) (.cells (ptab (fun x => f (f x)) 0) 45)
    rwa [s1] at this
  · have := heap_alloc2_new (w.alloc (.cells (tab f) 45)) (.cells (ptab (fun x => f (f x)) 0) 45) (.cells (ptab (fun x => f (f x)) 0) 45)
    rwa [s1] at this

set_option maxRecDepth 20000 in
set_option maxHeartbeats 400000 in
theorem twice_any (f : Nat → Nat) (hf : Lin f) (w : World) :
    Calls Try.prog 26 #[.agg (tab f)] w fun e w' => e = .returned (.agg (tab (fun x => f (f x)))) ∧ Below w.heap.size w w' := by
  have HF : Hid (Lin f) := hf
  have hat : Hid (∀ k, k < 32 → (tab f)[k]? = some (.int .u32 (f (2 ^ k) : Nat))) := tab_at f
  clear hf
  go_enter Try.func26, Try.ntmps26
  go_wp2_with (
    with_reducible refine load45 ?_ (.tmp 1) ?_ w.heap.size ?_ (tab f) ?_ (tab_size f) ?_
    · rfl
    · rfl
    · rfl
    · first | exact (dinv_start w f).2.2.1)
  rw [lit45 (fun x => f (f x))]
  obtain ⟨w1, hw1⟩ : ∃ w1 : World, ((w.alloc (.cells (tab f) 45)).alloc (.cells (ptab (fun x => f (f x)) 0) 45)).alloc (.cells (ptab (fun x => f (f x)) 0) 45) = w1 := ⟨_, rfl⟩
  have H1 : Hid (dinv w f 0 w1) := by rw [← hw1]; exact dinv_start w f
  rw [hw1]
  clear hw1
  go_loopw [7] (fun i wr => ∃ k : Nat, k ≤ 32 ∧ i = .int .i64 k ∧ dinv w f k wr) (fun i _ => 32 - (intOf i).toNat)
  case atStart => exact ⟨0, by omega, rfl, H1.out⟩
  case round =>
    obtain ⟨k, hk, rfl, R⟩ := hrel
    have RR : Hid (dinv w f k wr) := R
    clear H1
    by_cases hlt : k < 32
    · have hp2 : 2 ^ k < 4294967296 := by have : 2 ^ k < 2 ^ 32 := Nat.pow_lt_pow_right (by omega) hlt; simpa using this
      have hix : ∀ w, (Instr.index 45 (.agg (tab f)) (.int .i64 (k : Int))).run Try.prog w = .ok (.int .u32 (f (2 ^ k) : Nat)) w := index45 _ k _ hlt (hat.out k hlt)
      have hfp := HF.out.lt hp2
      have hnx : ∀ w', dinv w f k w' → dinv w f (k + 1) (w'.setCell ⟨w.heap.size + 2, k, none⟩ (.int .u32 (f (f (2 ^ k)) : Nat))) := fun w' h => dinv_next h hlt
      obtain ⟨p, hpp⟩ : ∃ p, f (2 ^ k) = p := ⟨_, rfl⟩
      rw [hpp] at hix hfp
      simp only [hpp] at hnx
      have HP : Hid (p < 4294967296) := hfp
      have HNX : Hid (∀ w', dinv w f k w' → dinv w f (k + 1) (w'.setCell ⟨w.heap.size + 2, k, none⟩ (.int .u32 (f p : Nat)))) := hnx
      have h3 := R.2.2.1
      clear hpp R hp2 hfp hnx
      go_wp2_with (
        with_reducible refine load45 ?_ (.tmp 1) ?_ w.heap.size ?_ (tab f) ?_ (tab_size f) ?_
        · rfl
        · rfl
        · rfl
        · exact h3)
      refine (of_any f HF.out p HP.out _).mono ?_
      rintro e w2 ⟨rfl, hb2⟩
      have RL : Hid (dinv w f k w2) := dinv_later RR.out hb2
      obtain ⟨⟨v0, hd⟩, hfz⟩ := row_cell RL.out.2.2.2.2 hlt
      obtain ⟨X, hX⟩ : ∃ X, f p = X := ⟨_, rfl⟩
      rw [hX] at HNX ⊢
      clear hX hb2 h3 hix
      go_wp2_with fail
      go_roundw
      case rel => exact ⟨k + 1, by omega, by go_num, HNX.out _ RL.out⟩
      case measure => simp [intOf]; omega
    · obtain rfl : k = 32 := by omega
      obtain ⟨hB, hs, h3, h4, h5⟩ := R
      rw [ptab_all] at h5
      go_wp2_with (first
        | (with_reducible refine load45 ?_ (.tmp 3) ?_ (w.heap.size + 2) ?_ (tab fun x => f (f x)) ?_ (tab_size _) ?_
           · rfl
           · rfl
           · rfl
           · exact h5)
        | (with_reducible refine store45 ?_ (.tmp 2) (.tmp 17) ?_ (w.heap.size + 1) (tab fun x => f (f x)) ?_ ?_ (ptab (fun x => f (f x)) 0) ?_ (ptab_size _ _) (tab_size _) (tab_flat _) ?_
           · rfl
           · rfl
           · rfl
           · rfl
           · exact h4))
      exact bodyPost_ret (v := .agg (tab fun x => f (f x))) (results_cell_row Try.results26 _ _ (w.heap.size + 1) 45 (tab fun x => f (f x)) (0, 0) _ rfl (setRow_heap wr _ _ _ _ _ h4) Try.underlying45 rfl (by rw [tab_size]; exact info45)) rfl ⟨rfl, below_setRow hB (by omega) _⟩

theorem and_i64 (a : Nat) (ha : a < 9223372036854775808) : bits .and .i64 (a : Int) 1 = ((a % 2 : Nat) : Int) := by
  have h1 : (BitVec.ofInt 64 (a : Int)).toNat = a := by
    rw [BitVec.ofInt_natCast, BitVec.toNat_ofNat]; exact Nat.mod_eq_of_lt (by omega)
  have h2 : (BitVec.ofInt 64 (1 : Int)).toNat = 1 := by decide
  show IntKind.i64.wrap ((BitVec.ofInt 64 (a : Int) &&& BitVec.ofInt 64 (1 : Int)).toNat : Int) = _
  rw [BitVec.toNat_and, h1, h2, nat_mask1, IntKind.wrap_i64]
  omega
theorem tab_double (j : Nat) : (tab fun x => bts j (bts j x)) = tab (bts (j + j)) := by
  have : (fun x => bts j (bts j x)) = bts (j + j) := by funext x; rw [bts_add]
  rw [this]

/-- What a round of moving a number on keeps. -/
def minv (w : World) (T N c j g : Nat) (wr : World) : Prop :=
  Below w.heap.size w wr ∧ w.heap.size ≤ g ∧ wr.heap[g]? = some (.cells (tab (bts j)) 45 (0, 0)) ∧ N < 4294967296 ∧ bts (j * c) N = T
theorem minv_odd {T N c j : Nat} (h : bts (j * c) N = T) (ho : c % 2 = 1) : bts ((j + j) * (c / 2)) (bts j N) = T := by
  rw [← h, ← bts_add]
  congr 1
  have : c = c / 2 + c / 2 + 1 := by omega
  have e : j * c = j * (c / 2) + j * (c / 2) + j := by
    conv => lhs; rw [this]
    rw [Nat.mul_add, Nat.mul_add, Nat.mul_one]
  rw [e, Nat.add_mul]; omega
theorem minv_even {T N c j : Nat} (h : bts (j * c) N = T) (ho : c % 2 = 0) : bts ((j + j) * (c / 2)) N = T := by
  rw [← h]
  congr 1
  have : c = c / 2 + c / 2 := by omega
  have e : j * c = j * (c / 2) + j * (c / 2) := by
    conv => lhs; rw [this]
    rw [Nat.mul_add]
  rw [e, Nat.add_mul]

theorem minv_lt {w wr : World} {T N c j g : Nat} (h : minv w T N c j g wr) : g < wr.heap.size := (Array.getElem?_eq_some_iff.1 h.2.2.1).1
theorem heap_alloc_row (w : World) (g : Nat) (c : Array Value) (o : Obj) : ((w.setRow g c).alloc o).heap[w.heap.size]? = some o := by
  have := heap_alloc_new (w.setRow g c) o
  rwa [setRow_size] at this
theorem minv_step {w wr w3 : World} {T N c j g M d : Nat} (h : minv w T N c j g wr) (hb : Below wr.heap.size wr w3) (hM : M < 4294967296) (hd : bts ((j + j) * d) M = T) (z : Array Value) :
    minv w T M d (j + j) w3.heap.size (((w3.setRow g (tab (bts (j + j)))).alloc (.cells z 45)).setRow w3.heap.size (tab (bts (j + j)))) := by
  have b3 := h.1.trans (hb.mono h.1.size)
  have b4 := below_setRow b3 h.2.1 (tab (bts (j + j)))
  exact ⟨below_setRow (b4.alloc b4.size _) b3.size _, b3.size, setRow_heap _ _ _ _ _ _ (heap_alloc_row _ _ _ _), hM, hd⟩
theorem put_none (a : Act) (v : Value) : a.put none v = a := rfl
set_option maxRecDepth 20000 in
set_option maxHeartbeats 400000 in
theorem moved_any (n c : Nat) (hn : n < 4294967296) (hc : c ≤ 2147483647) (w : World) :
    Calls Try.prog 23 #[.int .u32 n, .int .i64 c] w fun e w' => e = .returned (.int .u32 (bts (8 * c) n : Nat)) ∧ Below w.heap.size w w' := by
  have HN : Hid (n < 4294967296) := hn
  clear hn
  obtain ⟨T, hT⟩ : ∃ T, bts (8 * c) n = T := ⟨_, rfl⟩
  have HT : Hid (bts (8 * c) n = T) := hT
  rw [hT]
  clear hT
  go_enter Try.func23, Try.ntmps23
  go_wp2_with fail
  refine (zero_any _).mono ?_
  rintro e w1 ⟨rfl, hb1⟩
  go_wp2_with (
    with_reducible refine store45 ?_ (.tmp 5) (.tmp 6) ?_ w1.heap.size (tab (bts 8)) ?_ ?_ (ptab (bts 8) 0) ?_ (ptab_size _ _) (tab_size _) (tab_flat _) ?_
    · rfl
    · rfl
    · rfl
    · rfl
    · exact heap_alloc_new w1 _)
  rw [lit45 (bts 8), put_none]
  obtain ⟨w2, hw2⟩ : ∃ w2 : World, (w1.alloc (.cells (ptab (bts 8) 0) 45)).setRow w1.heap.size (tab (bts 8)) = w2 := ⟨_, rfl⟩
  have H1 : Hid (minv w T n c 8 w1.heap.size w2) := by
    rw [← hw2]; exact ⟨below_setRow (hb1.alloc hb1.size _) hb1.size _, hb1.size, setRow_heap _ _ _ _ _ _ (heap_alloc_new w1 _), HN.out, HT.out⟩
  rw [hw2]
  clear hw2 hb1
  go_loopw [0, 1, 5] (fun a b p wr => ∃ N C j g : Nat, C ≤ 2147483647 ∧ a = .int .u32 N ∧ b = .int .i64 C ∧ p = .pointer (some ⟨g, 0, none⟩) ∧ minv w T N C j g wr) (fun _ b _ _ => (intOf b).toNat)
  case atStart => exact ⟨n, c, 8, w1.heap.size, hc, rfl, rfl, rfl, H1.out⟩
  case round =>
    obtain ⟨N, C, j, g, hC, rfl, rfl, rfl, R⟩ := hrel
    have RR : Hid (minv w T N C j g wr) := R
    clear H1
    by_cases hpos : 0 < C
    · have hand := and_i64 C (by omega)
      have h3 := R.2.2.1
      have hj : ∀ x, x < 4294967296 → bts j x < 4294967296 := fun x h => bts_lt j h
      rcases Nat.mod_two_eq_zero_or_one C with ho | ho
      · rw [ho] at hand
        have HO : Hid (C % 2 = 0) := ho
        clear ho R hj
        go_wp2_with (
          with_reducible refine load45 ?_ (.tmp 5) ?_ g ?_ (tab (bts j)) ?_ (tab_size _) ?_
          · rfl
          · rfl
          · rfl
          · exact h3)
        refine (twice_any _ (lin_bts j) _).mono ?_
        rintro e w3 ⟨rfl, hb3⟩
        rw [tab_double]
        have h4 := (hb3.block g (minv_lt RR.out)).trans h3
        have hb4 : Hid (Below wr.heap.size wr w3) := hb3
        clear hb3
        go_wp2_with (first
          | (with_reducible refine store45 ?_ (.tmp 5) (.tmp 18) ?_ g (tab (bts (j + j))) ?_ ?_ (tab (bts j)) ?_ (tab_size _) (tab_size _) (tab_flat _) ?_
             · rfl
             · rfl
             · rfl
             · rfl
             · exact h4)
          | (with_reducible refine load45 ?_ (.tmp 5) ?_ g ?_ (tab (bts (j + j))) ?_ (tab_size _) ?_
             · rfl
             · rfl
             · rfl
             · exact setRow_heap w3 _ _ _ _ _ h4)
          | (with_reducible refine store45 ?_ (.tmp 5) (.tmp 19) ?_ w3.heap.size (tab (bts (j + j))) ?_ ?_ (ptab (bts 8) 0) ?_ (ptab_size _ _) (tab_size _) (tab_flat _) ?_
             · rfl
             · rfl
             · rfl
             · rfl
             · exact heap_alloc_row _ _ _ _))
        go_roundw
        case rel => exact ⟨N, C / 2, j + j, w3.heap.size, by omega, rfl, by go_num, rfl, minv_step RR.out hb4.out RR.out.2.2.2.1 (minv_even RR.out.2.2.2.2 HO.out) _⟩
        case measure => simp [intOf]; omega
      · rw [ho] at hand
        have HO : Hid (C % 2 = 1) := ho
        have HJ : Hid (bts j N < 4294967296) := hj N R.2.2.2.1
        clear ho R hj
        go_wp2_with (
          with_reducible refine load45 ?_ (.tmp 5) ?_ g ?_ (tab (bts j)) ?_ (tab_size _) ?_
          · rfl
          · rfl
          · rfl
          · exact h3)
        refine (of_any _ (lin_bts j) N RR.out.2.2.2.1 _).mono ?_
        rintro e w5 ⟨rfl, hb5⟩
        have h5 := (hb5.block g (minv_lt RR.out)).trans h3
        have HB5 : Hid (Below wr.heap.size wr w5) := hb5
        obtain ⟨M, hM⟩ : ∃ M, bts j N = M := ⟨_, rfl⟩
        rw [hM] at HJ ⊢
        have HM : Hid (bts j N = M) := hM
        clear hb5 hM
        go_wp2_with (
          with_reducible refine load45 ?_ (.tmp 5) ?_ g ?_ (tab (bts j)) ?_ (tab_size _) ?_
          · rfl
          · rfl
          · rfl
          · exact h5)
        refine (twice_any _ (lin_bts j) _).mono ?_
        rintro e w3 ⟨rfl, hb3⟩
        rw [tab_double]
        have h4 := (hb3.block g (Nat.lt_of_lt_of_le (minv_lt RR.out) HB5.out.size)).trans h5
        have hb4 : Hid (Below wr.heap.size wr w3) := HB5.out.trans (hb3.mono HB5.out.size)
        clear hb3 h5
        go_wp2_with (first
          | (with_reducible refine store45 ?_ (.tmp 5) (.tmp 18) ?_ g (tab (bts (j + j))) ?_ ?_ (tab (bts j)) ?_ (tab_size _) (tab_size _) (tab_flat _) ?_
             · rfl
             · rfl
             · rfl
             · rfl
             · exact h4)
          | (with_reducible refine load45 ?_ (.tmp 5) ?_ g ?_ (tab (bts (j + j))) ?_ (tab_size _) ?_
             · rfl
             · rfl
             · rfl
             · exact setRow_heap w3 _ _ _ _ _ h4)
          | (with_reducible refine store45 ?_ (.tmp 5) (.tmp 19) ?_ w3.heap.size (tab (bts (j + j))) ?_ ?_ (ptab (bts 8) 0) ?_ (ptab_size _ _) (tab_size _) (tab_flat _) ?_
             · rfl
             · rfl
             · rfl
             · rfl
             · exact heap_alloc_row _ _ _ _))
        go_roundw
        case rel => exact ⟨M, C / 2, j + j, w3.heap.size, by omega, rfl, by go_num, rfl, minv_step RR.out hb4.out HJ.out (by rw [← HM.out]; exact minv_odd RR.out.2.2.2.2 HO.out) _⟩
        case measure => simp [intOf]; omega
    · obtain rfl : C = 0 := by omega
      obtain ⟨hB, _, _, _, hT⟩ := R
      obtain rfl : N = T := by rw [Nat.mul_zero] at hT; exact hT
      go_wp2_with fail
      go_ret
      exact ⟨rfl, hB⟩

set_option maxRecDepth 20000 in
set_option maxHeartbeats 400000 in
theorem Join_yes (a b n : Nat) (ha : a < 4294967296) (hb : b < 4294967296) (hn : n ≤ 2147483647) (w : World) :
    Calls Try.prog 16 #[.int .u32 a, .int .u32 b, .int .i64 n] w fun e w' => e = .returned (.tuple #[.int .u32 ((bts (8 * n) a ^^^ b : Nat) : Int), .int .i64 0]) ∧ Below w.heap.size w w' := by
  have HA : Hid (a < 4294967296) := ha
  have hx := u32_xor_nat (bts (8 * n) a) b (bts_lt _ ha) hb
  clear ha hb
  obtain ⟨X, hX⟩ : ∃ X, bts (8 * n) a ^^^ b = X := ⟨_, rfl⟩
  rw [hX] at hx ⊢
  clear hX
  go_enter Try.func16, Try.ntmps16
  go_wp2_with fail
  refine (moved_any a n HA.out hn _).mono ?_
  rintro e w1 ⟨rfl, hb1⟩
  obtain ⟨Y, hY⟩ : ∃ Y, bts (8 * n) a = Y := ⟨_, rfl⟩
  rw [hY] at hx ⊢
  clear hY
  go_wp2_with fail
  go_ret2
  exact ⟨rfl, hb1⟩
set_option maxRecDepth 20000 in
set_option maxHeartbeats 400000 in
theorem Join_no (a b n : Int) (hn : n < 0 ∨ 2147483647 < n) (w : World) :
    Calls Try.prog 16 #[.int .u32 a, .int .u32 b, .int .i64 n] w fun e w' => e = .returned (.tuple #[.int .u32 0, .int .i64 1]) ∧ w' = w := by
  rcases hn with h | h
  · go_enter Try.func16, Try.ntmps16
    go_wp2_with fail
    go_ret2
    exact ⟨rfl, rfl⟩
  · go_enter Try.func16, Try.ntmps16
    go_wp2_with fail
    go_ret2
    exact ⟨rfl, rfl⟩
set_option maxRecDepth 20000 in
set_option maxHeartbeats 400000 in
theorem Between_any (a b c : Int) (w : World) : Calls Try.prog 17 #[.int .i64 a, .int .i64 b, .int .i64 c] w fun e w' => e = .returned (.bool (decide (b ≤ a ∧ a ≤ c))) ∧ w' = w := by
  by_cases h1 : b ≤ a
  · by_cases h2 : a ≤ c
    · go_enter Try.func17, Try.ntmps17
      go_wp2_with fail
      go_ret
      exact ⟨by simp; omega, rfl⟩
    · go_enter Try.func17, Try.ntmps17
      go_wp2_with fail
      go_ret
      exact ⟨by simp; omega, rfl⟩
  · go_enter Try.func17, Try.ntmps17
    go_wp2_with fail
    go_ret
    exact ⟨by simp; omega, rfl⟩
end Go.Proofs.Ytnllcecalobebaa
