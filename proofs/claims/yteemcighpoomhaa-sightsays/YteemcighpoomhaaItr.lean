/- The rows of a field, one by one: what the range function hands on. -/
import Derived.Test.YteemcighpoomhaaCon
import Derived.RangeFuncNested
import Derived.RangeFuncBox
import Derived.RangeFuncBound
import Derived.RangeFuncCalls
import Derived.RangeFuncLeaves
import Derived.Shelf.Abstract
import Derived.Shelf.RegionOpen
import Derived.OwnWalkIn
import Derived.TacticsInMore
import Derived.LoopNIn
import Derived.LoopIn
import Derived.Maps.AppendAt
namespace Go.Proofs.Yteemcighpoomhaa
open Go.RowKit Go.Shelf
set_option linter.unusedVariables false
attribute [local go_sem] Oper.semAt_some

abbrev Rw (H : Nat) := { y : Nat // y < H }
/-- The first k rows' numbers. -/
def upto (H k : Nat) : List (Rw H) := (List.range k).filterMap fun y => if h : y < H then some ⟨y, h⟩ else none
theorem upto_succ {H k : Nat} (h : k < H) : upto H (k + 1) = upto H k ++ [⟨k, h⟩] := by simp [upto, List.range_succ, h]
theorem upto_length {H : Nat} : ∀ {k : Nat}, k ≤ H → (upto H k).length = k
  | 0, _ => rfl
  | k + 1, h => by rw [upto_succ (by omega), List.length_append, upto_length (by omega)]; rfl
/-- What is handed on of row y. -/
def ya (a : Addr) (W c : Nat) (y : Nat) : Array Value := #[.int .i64 (y : Int), .slice (some (a.add (y * W))) W (c - y * W)]
/-- The box of the field lies as it lay. -/
def kB (B : Nat) (w w' : World) : Prop := w'.heap[B]? = w.heap[B]?
theorem kB_t {B : Nat} {x y z : World} (h : kB B x y) (k : kB B y z) : kB B x z := k.trans h
theorem kB_b {B : Nat} {w : World} (hB : B < w.heap.size) (W : World) (l : Nat) (o o' : Obj) (hl : w.heap.size ≤ l) (h : W.heap[l]? = some o) (_ : o.isCells = false) (_ : o.isWalk = false) : kB B W (W.putObj l o') := World.putObj_heap_other (by omega)
theorem kB_cell {B : Nat} {w w' : World} (h : kB B w w') (o : Nat) : w'.cell? ⟨B, o, none⟩ = w.cell? ⟨B, o, none⟩ := by
  simp only [World.cell?]; rw [show w'.heap[B]? = w.heap[B]? from h]

set_option maxRecDepth 100000 in
set_option maxHeartbeats 2000000 in
theorem rows1_in (F : Fence) (n : Nat) (h6 : F.fn 50) (hro : F.round = none) (hn : 1 ≤ n) (l B W H c : Nat) (a : Addr) (hW : 1 ≤ W ∧ W ≤ 40) (hH : 1 ≤ H ∧ H ≤ 40) (hc : W * H ≤ c) (J Jx : List (Rw H) → World → Prop)
    (hY : ∀ pre x W1, J pre W1 → pre.length < H → YieldAt F (n - 1) Try.prog l (ya a W c x.1) W1 fun e W' =>
      (e = .returned (.bool true) ∧ J (pre ++ [x]) W' ∧ kB B W1 W') ∨ (e = .returned (.bool false) ∧ Jx (pre ++ [x]) W'))
    (W0 : World) (hB0 : W0.cell? ⟨B, 0, none⟩ = some (.int .i64 (W : Int))) (hB1 : W0.cell? ⟨B, 1, none⟩ = some (.int .i64 (H : Int))) (hB2 : W0.cell? ⟨B, 2, none⟩ = some (.slice (some a) (W * H) c)) (h0 : J [] W0) :
    CallsIn F n Try.prog 50 #[.func (.yield l) #[] #[], .pointer (some ⟨B, 0, none⟩)] W0 fun e W' => (∃ v, e = .returned v) ∧
      ((∃ ys, ys = upto H H ∧ J ys W') ∨ (∃ pre, True ∧ Jx pre W')) := by
  refine callsIn_of_wp Try.func50 rfl h6 ?_ hro
  simp only [Try.ntmps50, List.size_toArray, List.length_cons, List.length_nil, Nat.reduceAdd, Nat.reduceSub, Array.replicate_succ, Array.replicate_zero, List.push_toArray, List.append_toArray, List.nil_append, List.cons_append]
  gi_wp2
  gi_loopw [6] (fun i wr => ∃ k : Nat, k ≤ H ∧ i = .int .i64 (k : Int) ∧ J (upto H k) wr ∧ kB B W0 wr)
    (fun i _ => H - (intOf i).toNat)
  case atStart => exact ⟨0, Nat.zero_le _, rfl, h0, rfl⟩
  case round =>
    obtain ⟨k, hk, rfl, hJs, hkb⟩ := hrel
    by_cases hlt : k < H
    · obtain ⟨fn, tmps, assign, body, hy, hR⟩ := hY _ ⟨k, hlt⟩ wr hJs (by rw [upto_length (by omega)]; exact hlt)
      unfold ya at hy
      dsimp only at hy
      have c0 := (kB_cell hkb 0).trans hB0
      have c2 := (kB_cell hkb 2).trans hB2
      obtain ⟨T, hT⟩ : ∃ T : Nat, k * W = T := ⟨_, rfl⟩
      obtain ⟨U, hU⟩ : ∃ U : Nat, (k + 1) * W = U := ⟨_, rfl⟩
      have hTU : U = T + W := by rw [← hT, ← hU, Nat.add_mul]; omega
      have hUH : U ≤ W * H := by rw [← hU, Nat.mul_comm W H]; exact Nat.mul_le_mul_right _ hlt
      have hWH : W * H ≤ 1600 := by have := Nat.mul_le_mul hW.2 hH.2; omega
      have eT : IntKind.i64.wrap ((k : Int) * (W : Int)) = (T : Int) := by rw [← Int.natCast_mul, hT]; exact wrp (by omega) (by omega)
      have eU : IntKind.i64.wrap (((k : Int) + 1) * (W : Int)) = (U : Int) := by
        have : ((k : Int) + 1) * (W : Int) = (((k + 1) * W : Nat) : Int) := by push_cast; rfl
        rw [this, hU]; exact wrp (by omega) (by omega)
      rw [hT] at hy
      gi_wp2
      refine hR.mono ?_
      rintro e W3 (⟨rfl, hJ3, hk3⟩ | ⟨rfl, hJx3⟩)
      · gi_wp2
        go_roundw
        case rel => exact ⟨k + 1, by omega, by simp, by rw [upto_succ hlt]; exact hJ3, kB_t hkb hk3⟩
        case measure => simp [intOf]; omega
      · gi_wp2
        refine bodyPost_ret (results_none rfl _ _ _) rfl ?_
        exact ⟨⟨_, rfl⟩, .inr ⟨_, trivial, hJx3⟩⟩
    · obtain rfl : k = H := by omega
      gi_wp2
      go_end0
      exact ⟨⟨_, rfl⟩, .inl ⟨_, rfl, hJs⟩⟩

set_option maxHeartbeats 1000000 in
theorem rows_in (F : Fence) (n : Nat) (h5 : F.fn 42) (hro : F.round = none) (W H : Int) (p : Option Addr) (k c : Nat) (w : World) :
    CallsIn F n Try.prog 42 #[.agg #[.int .i64 W, .int .i64 H, .slice p k c]] w fun e w' => e = .returned (.func (.func 50) #[] #[.pointer (some ⟨w.heap.size, 0, none⟩)]) ∧ w' = w.alloc (.cells #[.int .i64 W, .int .i64 H, .slice p k c] 24) := by
  refine callsIn_of_wp Try.func42 rfl h5 ?_ hro
  simp only [Try.ntmps42, List.size_toArray, List.length_cons, List.length_nil, Nat.reduceAdd, Nat.reduceSub, Array.replicate_succ, Array.replicate_zero, List.push_toArray, List.append_toArray, List.nil_append, List.cons_append]
  gi_wp2
  go_ret
  exact ⟨rfl, rfl⟩

theorem rows_stops (F : Fence) (n : Nat) (h6 : F.fn 50) (hro : F.round = none) (hn : 1 ≤ n) (B W H c : Nat) (a : Addr) (hW : 1 ≤ W ∧ W ≤ 40) (hH : 1 ≤ H ∧ H ≤ 40) (hc : W * H ≤ c) (w : World) (hB : B < w.heap.size)
    (hB0 : w.cell? ⟨B, 0, none⟩ = some (.int .i64 (W : Int))) (hB1 : w.cell? ⟨B, 1, none⟩ = some (.int .i64 (H : Int))) (hB2 : w.cell? ⟨B, 2, none⟩ = some (.slice (some a) (W * H) c)) :
    SeqStopsK F n Try.prog 50 #[.pointer (some ⟨B, 0, none⟩)] (fun x : Rw H => ya a W c x.1) (kB B) (fun ys => ys = upto H H) (fun _ => True) H w := fun l J Jx W0 hW0 _ _ hY h0 =>
  rows1_in F n h6 hro hn l B W H c a hW hH hc J Jx hY W0 ((hW0.cell (p := ⟨B, 0, none⟩) hB).trans hB0) ((hW0.cell (p := ⟨B, 1, none⟩) hB).trans hB1) ((hW0.cell (p := ⟨B, 2, none⟩) hB).trans hB2) h0
end Go.Proofs.Yteemcighpoomhaa
