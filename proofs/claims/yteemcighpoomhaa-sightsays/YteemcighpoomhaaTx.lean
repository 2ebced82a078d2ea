/- A variable's box that holds a row of one's own: how it grows, in a loop's round. -/
import Derived.Test.YteemcighpoomhaaItr
import Derived.Lib.AppendStr
namespace Go.Proofs.Yteemcighpoomhaa
open Go.RowKit Go.Shelf Go.Lib
set_option linter.unusedVariables false

/-- Below block N all is as it was, but for block T. -/
structure But (N T : Nat) (w w' : World) : Prop where
  os : w'.os = w.os
  tape : w'.tape = w.tape
  output : w'.output = w.output
  size : w.heap.size ≤ w'.heap.size
  block : ∀ k, k < N → k ≠ T → w'.heap[k]? = w.heap[k]?
theorem But.refl (N T : Nat) (w : World) : But N T w w := ⟨rfl, rfl, rfl, Nat.le_refl _, fun _ _ _ => rfl⟩
theorem But.trans {N T : Nat} {a b c : World} (h : But N T a b) (k : But N T b c) : But N T a c :=
  ⟨k.os.trans h.os, k.tape.trans h.tape, k.output.trans h.output, Nat.le_trans h.size k.size, fun i hi hT => (k.block i hi hT).trans (h.block i hi hT)⟩
theorem But.below {N T B : Nat} {w w' : World} (h : But N T w w') (hN : B ≤ N) (hT : B ≤ T) : Below B w w' := ⟨h.os, h.tape, h.output, h.size, fun k hk => h.block k (by omega) (by omega)⟩
theorem But.kB {N T B : Nat} {w w' : World} (h : But N T w w') (hN : B < N) (hT : B ≠ T) : kB B w w' := h.block B hN hT
theorem But.of_below {N T : Nat} {w w' : World} (h : Below N w w') : But N T w w' := ⟨h.os, h.tape, h.output, h.size, fun k hk _ => h.block k hk⟩
theorem But.grown {N T : Nat} {w w' : World} {row : Option Nat} (hg : w.grownBy w' row) (hN : N ≤ w.heap.size) (hr : ∀ k, row = some k → N ≤ k) : But N T w w' :=
  ⟨hg.os, hg.tape, hg.output, hg.size, fun k hk _ => hg.block k (by omega) (fun e => by have := hr k e.symm; omega)⟩
theorem But.set (N T : Nat) (w : World) (o : Nat) (v : Value) : But N T w (w.setCell ⟨T, o, none⟩ v) := ⟨rfl, rfl, rfl, by simp [World.setCell], fun k _ hT => Below.heap_setCell _ _ _ _ hT⟩
theorem But.grownBy {T : Nat} {w w' : World} (h : But w.heap.size T w w') : w.grownBy w' (some T) := ⟨h.os, h.tape, h.output, h.size, fun k hk hn => h.block k hk (fun e => hn (by rw [e]))⟩
/-- 'But' abides what the loop's law turns. -/
theorem But.own {β : Type} {N T B : Nat} {w0 : World} (hN : N ≤ w0.heap.size) (hB : N ≤ B) : OwnFrom B (fun (_ : β) W => But N T w0 W) :=
  fun _ _ _ _ hs hg hr => hs.trans (But.grown hg (Nat.le_trans hN hs.size) (fun k e => Nat.le_trans hB (hr k e).1))

variable {α : Type}
/-- The box T holds a row of one's own. -/
def bx (t e : TypeId) (f : α → Value) (N T : Nat) (W : World) (L : List α) : Prop := ∃ v, Boxed W T t v ∧ mine e f N W v L
theorem bx_own {β : Type} (t e : TypeId) (f : α → Value) (N T : Nat) (g : β → List α) : Own (fun s W => bx t e f N T W (g s)) := by
  intro s W W' row hs hg hr
  obtain ⟨v, h1, h2, _⟩ := holdsRow_own N T t e 1 (fun s => (g s).length) (fun s => (g s).map f) (fun _ _ => True) s W W' row (by obtain ⟨v, h1, h2⟩ := hs; exact ⟨v, h1, h2, trivial⟩) hg hr
  exact ⟨v, h1, h2⟩
/-- What an append, and the store behind it, leaves. -/
theorem bx_app {t e : TypeId} {f : α → Value} {N T : Nat} {W A w1 : World} {v v' : Value} {L L' : List α} (hte : t ≠ e) (hv : Boxed W T t v) (hrow : mine e f N W v L) (hN : N ≤ W.heap.size) (hA : W.grownBy A none) (hK : KeepsOthers W A) (hown : mine e f N w1 v' L') (hg : A.grownBy w1 v.ownBlock) :
    Boxed w1 T t v ∧ bx t e f N T (w1.setCell ⟨T, 0, none⟩ v') L' ∧ KeepsOthers W (w1.setCell ⟨T, 0, none⟩ v') ∧ But N T W (w1.setCell ⟨T, 0, none⟩ v') := by
  have hvA : Boxed A T t v := hv.kept hA (by simp)
  have hrA : mine e f N A v L := World.ownsRow.kept hrow hA (by cases v.ownBlock <;> simp)
  have hv1 : Boxed w1 T t v := hvA.kept hg (hvA.not_row hte hrA)
  refine ⟨hv1, ⟨v', hv1.set v', World.ownsRow.kept hown (grownBy_setCell' w1 T v') (.inr (hv1.not_row hte hown).symm)⟩, ?_, ?_⟩
  · refine (hK.trans (KeepsOthers.of_grownBy hg fun j o ej hj => ?_)).trans (KeepsOthers.setCell _ _ _)
    rcases hrA.2 with ⟨rfl, _⟩ | ⟨g, cap, cur, rfl, _, hgb, _⟩
    · simp [Value.ownBlock] at ej
    · obtain rfl : g = j := by simpa [Value.ownBlock] using ej
      rw [hgb] at hj; cases hj; rfl
  · refine ((But.grown hA hN (by simp)).trans (But.grown hg (Nat.le_trans hN hA.size) fun k ek => ?_)).trans (But.set _ _ _ _ _)
    exact (World.ownsRow.lt hrow k ek).1

theorem grown_none (W : World) : W.grownBy W none := ⟨rfl, rfl, rfl, Nat.le_refl _, fun _ _ _ => rfl⟩
theorem grown_drew (W : World) : W.grownBy W.drew none := ⟨rfl, rfl, rfl, Nat.le_refl _, fun _ _ _ => rfl⟩
theorem grown_alloc (W : World) (o : Obj) : W.grownBy (W.alloc o) none := World.grownBy_alloc W o none
theorem grown_trans {a b c : World} (h : a.grownBy b none) (k : b.grownBy c none) : a.grownBy c none :=
  ⟨k.os.trans h.os, k.tape.trans h.tape, k.output.trans h.output, Nat.le_trans h.size k.size, fun i hi hn => (k.block i (Nat.lt_of_lt_of_le hi h.size) hn).trans (h.block i hi hn)⟩

/-- Append of one element to a row of one's own, within a fence. -/
theorem list_one_in {F : Fence} {n' : Nat} {T E : TypeId} {f : α → Value} {z : Value} {by_ : Nat} (hk : Kd T E f z by_) {ops : Array Oper} {rest : List Oper} {o : Oper} {a : Act} {Q : Exit → Act → World → Prop} (w : World) (hgd : o.guard = none) (s x : Operand)
    (ho : o.op = .call { callee := .builtin .append, args := #[s, x], argTypes := #[T, T] })
    (B : Nat) (v : Value) (L : List α) (hs : a.eval s = v) (hown : mine E f B w v L) (ad : Addr) (c : Nat) (X : α) (hx : a.eval x = .slice (some ad) 1 c) (hcell : w.cell? ad = some (f X)) (hl : L.length ≤ 1000000) (hB : B ≤ w.heap.size)
    (h : ∀ g cap w', mine E f B w' (.slice (some ⟨g, 0, none⟩) (L.length + 1) cap) (L ++ [X]) → w.grownBy w' v.ownBlock → wpListIn F n' Try.prog ops Q rest (a.put o.dst (.slice (some ⟨g, 0, none⟩) (L.length + 1) cap)) w') :
    wpListIn F n' Try.prog ops Q (o :: rest) a w := by
  obtain ⟨i0, hi, hz0, hz1, hz2⟩ := info_parts hk.hi
  have hby := hk.hb
  refine wpListIn_append_own w hgd s x T ho B E i0 z 1 by_ hk.ht hi hz0 hz1 hz2 hk.hz (by decide) v L.length (L.map f) hs hown ad 1 c ([X].map f) hx rfl (one_at hcell) (by intro u hu; obtain ⟨y, _, rfl⟩ := List.mem_map.1 hu; exact hk.hf y) (by unfold maxLen; omega) ?_ hB ?_
  · have : (L.length + 1) * by_ ≤ (L.length + 1) * 16 := Nat.mul_le_mul_left _ hby
    omega
  intro v' w' h1 h2 _
  obtain ⟨g, cap, rfl⟩ := ownsRow_succ h1
  refine h g cap w' ?_ h2
  unfold mine
  rw [List.map_append, List.length_append]; exact h1
/-- The same at a step of a region that draws its order, within a fence. -/
theorem step_one_in {F : Fence} {n' : Nat} {T E : TypeId} {f : α → Value} {z : Value} {by_ : Nat} (hk : Kd T E f z by_) {ops : Array Oper} {o : Oper} {a : Act} {K : Act → World → Prop} {Q : Exit → Act → World → Prop} {Z : Prop} (w : World) (hgd : o.guard = none) (s x : Operand)
    (ho : o.op = .call { callee := .builtin .append, args := #[s, x], argTypes := #[T, T] })
    (B : Nat) (v : Value) (L : List α) (hs : a.eval s = v) (hown : mine E f B w v L) (ad : Addr) (c : Nat) (X : α) (hx : a.eval x = .slice (some ad) 1 c) (hcell : w.cell? ad = some (f X)) (hl : L.length ≤ 1000000) (hB : B ≤ w.heap.size)
    (h : ∀ g cap w', mine E f B w' (.slice (some ⟨g, 0, none⟩) (L.length + 1) cap) (L ++ [X]) → w.grownBy w' v.ownBlock → K (a.put o.dst (.slice (some ⟨g, 0, none⟩) (L.length + 1) cap)) w') :
    if Region.wanted o (yielded ops a.tmps) = true then Oper.wpIn F n' Try.prog o a w K Q else Z := by
  have hw : Region.wanted o (yielded ops a.tmps) = true := by simp [Region.wanted, hgd]
  rw [if_pos hw]
  obtain ⟨i0, hi, hz0, hz1, hz2⟩ := info_parts hk.hi
  have hby := hk.hb
  have hmul : (L.length + 1) * by_ ≤ (L.length + 1) * 16 := Nat.mul_le_mul_left _ hby
  obtain ⟨v', w', hrun, r1, r2, r3⟩ := run_append_own (P := Try.prog) w B T o.type E i0 z 1 by_ hk.ht hi hz0 hz1 hz2 hk.hz (by decide) v L.length (L.map f) hown ad 1 c ([X].map f) rfl (one_at hcell) (by intro u hu; obtain ⟨y, _, rfl⟩ := List.mem_map.1 hu; exact hk.hf y) (by unfold maxLen; omega) (by omega) hB
  obtain ⟨g, cap, rfl⟩ := ownsRow_succ r1
  have h5 : mine E f B w' (.slice (some ⟨g, 0, none⟩) (L.length + 1) cap) (L ++ [X]) := by
    unfold mine; rw [List.map_append, List.length_append]; exact r1
  unfold Oper.wpIn
  refine ⟨?_, ?_⟩
  · simp [Oper.about, ho, resolve, Target.leads, Sem.run_pure]
  · rw [Oper.semAt_plain F _ _ (by rw [ho]; intro c hc'; cases hc')]
    simp [execOp, ho, resolve, invoke, builtin, hs, hx, hrun, Result.andThen]
    exact h g cap w' h5 r2
theorem strCells_vb (s : ByteArray) : strCells s = s.data.toList.map vb := rfl
/-- Append of a text to a row of bytes of one's own, within a fence. -/
theorem list_text_in {F : Fence} {n' : Nat} {ops : Array Oper} {rest : List Oper} {o : Oper} {a : Act} {Q : Exit → Act → World → Prop} (w : World) (hgd : o.guard = none) (sl x : Operand)
    (ho : o.op = .call { callee := .builtin .append, args := #[sl, x], argTypes := #[64, 9] })
    (B : Nat) (v : Value) (L : List UInt8) (hs : a.eval sl = v) (hown : mine 5 vb B w v L) (b : UInt8) (hx : a.eval x = .string ⟨#[b]⟩) (hl : L.length ≤ 1000000) (hB : B ≤ w.heap.size)
    (h : ∀ g cap w', mine 5 vb B w' (.slice (some ⟨g, 0, none⟩) (L.length + 1) cap) (L ++ [b]) → w.grownBy w' v.ownBlock → wpListIn F n' Try.prog ops Q rest (a.put o.dst (.slice (some ⟨g, 0, none⟩) (L.length + 1) cap)) w') :
    wpListIn F n' Try.prog ops Q (o :: rest) a w := by
  obtain ⟨i, hi, hz0, hz1, hz2⟩ := info_parts kb.hi
  refine wpListIn_plain hgd fun K hK => ?_
  obtain ⟨v', w', hr, h2, h3, h4⟩ := run_append_own_string (P := Try.prog) w B 64 9 o.type 5 i kb.ht Try.underlying9 hi hz0 hz1 hz2 v L.length (L.map vb) hown ⟨#[b]⟩ (by unfold maxLen; show L.length + 1 ≤ _; omega) (by show L.length + 1 ≤ _; omega) hB
  have h2' : w'.ownsRow B 5 1 v' (L.length + 1) (L.map vb ++ [vb b]) := h2
  obtain ⟨g, cap, rfl⟩ := ownsRow_succ h2'
  have h5 : mine 5 vb B w' (.slice (some ⟨g, 0, none⟩) (L.length + 1) cap) (L ++ [b]) := by
    unfold mine; rw [List.map_append, List.length_append]; exact h2'
  unfold Oper.wpIn
  refine ⟨?_, ?_⟩
  · simp [Oper.about, ho, resolve, Target.leads, Sem.run_pure]
  · rw [Oper.semAt_plain F _ _ (by rw [ho]; intro c hc'; cases hc')]
    simp [execOp, ho, resolve, invoke, builtin, hs, hx, hr, Result.andThen]
    exact hK _ _ (h g cap w' h5 h3)
end Go.Proofs.Yteemcighpoomhaa
