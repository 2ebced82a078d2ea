/- A row of one's own grows by one number, at a plain operation and at a step of a region that draws its order; what lies below stays. -/
import Derived.Test.YteedlbdjbffheaaClimb
import Derived.Deep.AppendLies
import Derived.Deep.RegionHeld3
import Derived.Deep.DrawnRows
namespace Go.Proofs.Yteedlbdjbffheaa
open Go.RowKit
set_option linter.unusedVariables false

theorem one_at {w : World} {ad : Addr} {X : Nat} (h : w.cell? ad = some (.int .u64 X)) : ∀ j u, (nums [X])[j]? = some u → w.cell? (ad.add j) = some u := by
  intro j u hj
  have hjl : j < 1 := by have := (List.getElem?_eq_some_iff.1 hj).1; unfold nums at this; simpa using this
  obtain rfl : j = 0 := by omega
  have : (Value.int .u64 (X : Int)) = u := by unfold nums at hj; simpa using hj
  rw [← this]
  have e : ad.add 0 = ad := by unfold Addr.add; simp
  rw [e]; exact h

theorem step_one {ops : Array Oper} {o : Oper} {a : Act} {K : Act → World → Prop} {Q : Exit → Act → World → Prop} {E : Prop} (w : World) (hgd : o.guard = none) (s x : Operand)
    (ho : o.op = .call { callee := .builtin .append, args := #[s, x], argTypes := #[27, 27] })
    (B : Nat) (v : Value) (L : List Nat) (hs : a.eval s = v) (hown : mine B w v L) (ad : Addr) (c X : Nat) (hx : a.eval x = .slice (some ad) 1 c) (hcell : w.cell? ad = some (.int .u64 X)) (hl : L.length ≤ 1000000) (hB : B ≤ w.heap.size)
    (h : ∀ g cap w', mine B w' (.slice (some ⟨g, 0, none⟩) (L.length + 1) cap) (L ++ [X]) → w.grownBy w' v.ownBlock → K (a.put o.dst (.slice (some ⟨g, 0, none⟩) (L.length + 1) cap)) w') :
    if Region.wanted o (yielded ops a.tmps) = true then Oper.wp Try.prog o a w K Q else E := by
  obtain ⟨i0, hi, hz0, hz1, hz2⟩ := info_parts info23
  refine step_append_lies w hgd s x 27 ho B 23 i0 (.int .u64 0) 1 8 Try.underlying27 hi hz0 hz1 hz2 rfl (by decide) v L.length (nums L) hs hown ad 1 c (nums [X]) hx rfl (one_at hcell) nums_one (by decide) (by unfold maxLen; omega) (by omega) hB _ rfl ?_
  intro g cap w' h1 h2 h3 h4
  refine h g cap w' ?_ h2
  unfold mine
  rw [nums_append, List.length_append]; exact h1
theorem list_one {ops : Array Oper} {rest : List Oper} {o : Oper} {a : Act} {Q : Exit → Act → World → Prop} (w : World) (hgd : o.guard = none) (s x : Operand)
    (ho : o.op = .call { callee := .builtin .append, args := #[s, x], argTypes := #[27, 27] })
    (B : Nat) (v : Value) (L : List Nat) (hs : a.eval s = v) (hown : mine B w v L) (ad : Addr) (c X : Nat) (hx : a.eval x = .slice (some ad) 1 c) (hcell : w.cell? ad = some (.int .u64 X)) (hl : L.length ≤ 1000000) (hB : B ≤ w.heap.size)
    (h : ∀ g cap w', mine B w' (.slice (some ⟨g, 0, none⟩) (L.length + 1) cap) (L ++ [X]) → w.grownBy w' v.ownBlock → wpList Try.prog ops Q rest (a.put o.dst (.slice (some ⟨g, 0, none⟩) (L.length + 1) cap)) w') :
    wpList Try.prog ops Q (o :: rest) a w := by
  obtain ⟨i0, hi, hz0, hz1, hz2⟩ := info_parts info23
  refine wpList_append_lies w hgd s x 27 ho B 23 i0 (.int .u64 0) 1 8 Try.underlying27 hi hz0 hz1 hz2 rfl (by decide) v L.length (nums L) hs hown ad 1 c (nums [X]) hx rfl (one_at hcell) nums_one (by decide) (by unfold maxLen; omega) (by omega) hB _ rfl ?_
  intro g cap w' h1 h2 h3 h4
  refine h g cap w' ?_ h2
  unfold mine
  rw [nums_append, List.length_append]; exact h1

/-- The texts lie as they lay, and nothing below has turned. -/
def held (w : World) (p : Option Addr) (l : List ByteArray) (w' : World) : Prop := txt w' p l ∧ Below w.heap.size w w'
theorem held_drewN {w w' : World} {p : Option Addr} {l : List ByteArray} (h : held w p l w') (n : Nat) : held w p l (w'.drewN n) := ⟨txt_drewN h.1 n, below_drewN h.2 n⟩
theorem held_drew {w w' : World} {p : Option Addr} {l : List ByteArray} (h : held w p l w') : held w p l w'.drew := ⟨h.1, h.2.drew⟩
theorem held_call {w w1 w2 : World} {p : Option Addr} {l : List ByteArray} (h : held w p l w1) (hb : Below w1.heap.size w1 w2) : held w p l w2 := ⟨txt_below h.1 hb, h.2.trans (hb.mono h.2.size)⟩
theorem held_alloc {w w1 : World} {p : Option Addr} {l : List ByteArray} (h : held w p l w1) (o : Obj) : held w p l (w1.alloc o) := held_call h (alloc_below _ _)
theorem held_of {w w1 : World} {p : Option Addr} {l : List ByteArray} (h : held w p l w) (hb : Below w.heap.size w w1) : held w p l w1 := ⟨txt_below h.1 hb, hb⟩
theorem mine_next {B : Nat} {w w' : World} {v : Value} {L : List Nat} (hv : mine B w' v L) (hB : w.heap.size ≤ B) (q : Nat) (o : Obj) : mine w.heap.size ((w'.drewN q).alloc o) v L :=
  mine_mono (mine_below hv ((below_drewN (Below.refl _ _) q).alloc (Nat.le_refl _) _)) hB
theorem new_one (w : World) (q : Nat) (t : TypeId) (v : Value) : ((w.drewN q).alloc (.cells #[v] t)).cell? ⟨w.heap.size, 0, none⟩ = some v := by
  have := new_at (w.drewN q) [v] t 0
  simpa using this
theorem held_size {w w1 : World} {p : Option Addr} {l : List ByteArray} (h : held w p l w1) : w.heap.size ≤ w1.heap.size := h.2.size
theorem below_next {w w' : World} (h : Below w.heap.size w w') (q : Nat) (o : Obj) : Below w.heap.size w ((w'.drewN q).alloc o) := (below_drewN h q).alloc h.size _

def TrailC (n : Nat) : Prop := ∀ (l : List ByteArray) (p : Option Addr) (i k c : Nat) (w : World), l.length = k → k < n → 1 ≤ k → k ≤ 256 → k ≤ c → i < k → txt w p l → tsm l →
  Calls Try.prog 31 #[.slice p k c, .int .i64 i] w fun e w' => ∃ v, e = .returned v ∧ mine w.heap.size w' v (tr pr (lvs l) i) ∧ Below w.heap.size w w'
end Go.Proofs.Yteedlbdjbffheaa
