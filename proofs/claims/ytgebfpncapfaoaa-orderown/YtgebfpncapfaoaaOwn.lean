/- Rows in memory of whatever takes one cell: those that are handed in, those of one's own, how these grow by one. -/
import Derived.Test.YtgebfpncapfaoaaRows
import Derived.Test.YtgebfpncapfaoaaPost
import Derived.WalkKit
import Derived.WalkSpells
import Derived.WalkLawsBesides
import Derived.Carry
import Derived.Laws.World
import Derived.Laws.IdiomStrings
import Derived.RegionTactic
import Derived.ChangeAlike
import Derived.ChangeSlices
import Derived.BigQuiet
import Derived.Deep.QuietTactic
import Derived.Lib.SliceRun
import Derived.Laws.AppendOwnNone
import Derived.Deep.AppendLies
import Derived.Deep.OwnRows
import Derived.Deep.DrawnRows
import Derived.Deep.RegionHeld3
namespace Go.Proofs.Ytgebfpncapfaoaa
open Go.RowKit
set_option linter.unusedVariables false
theorem ret_int {k : IntKind} {a b : Int} (h : a = b) : Ending.returned (.int k a) = .returned (.int k b) := by rw [h]
theorem val_int {k : IntKind} {a b : Int} (h : a = b) : Value.int k a = .int k b := by rw [h]
theorem ret_str {a b : ByteArray} (h : a = b) : Ending.returned (.string a) = .returned (.string b) := by rw [h]
theorem str_eq {t f : ByteArray} (h : t.data.toList = f.data.toList) : t = f := by
  cases t; cases f; simp at h; rw [h]
theorem str_ne {t f : ByteArray} (h : ¬ t = f) : (t.toList == f.toList) = false := by
  rw [ByteArray.toList_eq, ByteArray.toList_eq]
  exact beq_eq_false_iff_ne.2 fun e => h (str_eq e)
variable {α : Type}

theorem add_block (a : Addr) (j : Nat) : (a.add j).block = a.block := by unfold Addr.add; split <;> rfl
theorem add_zero_at (g j : Nat) : (⟨g, 0, none⟩ : Addr).add j = ⟨g, j, none⟩ := by unfold Addr.add; split <;> simp_all
theorem cell_lt {w : World} {a : Addr} {v : Value} (h : w.cell? a = some v) : a.block < w.heap.size := by
  unfold World.cell? at h
  apply Classical.byContradiction
  intro hn
  rw [Array.getElem?_eq_none (by omega)] at h
  simp at h
theorem alloc_below (w : World) (o : Obj) : Below w.heap.size w (w.alloc o) := (Below.refl _ _).alloc (Nat.le_refl _) _
theorem below_step {B : Nat} {w w1 w2 : World} (h : Below B w w1) (hB : B ≤ w1.heap.size) (h2 : Below w1.heap.size w1 w2) : Below B w w2 := h.trans (h2.mono hB)
theorem new_one (w : World) (t : TypeId) (v : Value) : (w.alloc (.cells #[v] t)).cell? ⟨w.heap.size, 0, none⟩ = some v := by
  rw [World.cell?_alloc_mark]; simp

/-- The elements l lie at p, one a cell, each as f has it. -/
def row (f : α → Value) (w : World) (p : Option Addr) (l : List α) : Prop := ∀ j x, l[j]? = some x → ∃ a, p = some a ∧ w.cell? (a.add j) = some (f x)
theorem row_nil (f : α → Value) (w : World) (p : Option Addr) : row f w p [] := fun j x h => by simp at h
theorem row_some {f : α → Value} {w : World} {p : Option Addr} {l : List α} (h : row f w p l) (hl : 0 < l.length) : ∃ a, p = some a := by
  obtain ⟨b, hb, _⟩ := h 0 l[0] (List.getElem?_eq_getElem hl)
  exact ⟨b, hb⟩
theorem row_at {f : α → Value} {w : World} {p : Option Addr} {l : List α} (h : row f w p l) {j : Nat} (hj : j < l.length) : ∃ a, p = some a ∧ w.cell? (a.add j) = some (f l[j]) := h j _ (List.getElem?_eq_getElem hj)
theorem row_below {f : α → Value} {w w' : World} {p : Option Addr} {l : List α} (h : row f w p l) (hb : Below w.heap.size w w') : row f w' p l := by
  intro j x hj
  obtain ⟨a, ha, hc⟩ := h j x hj
  exact ⟨a, ha, by rw [hb.cell (cell_lt hc)]; exact hc⟩

/-- v is a row of one's own, or nil, and holds the elements. -/
def mine (t : TypeId) (f : α → Value) (B : Nat) (w : World) (v : Value) (L : List α) : Prop := w.ownsRow B t 1 v L.length (L.map f)
theorem mine_nil (t : TypeId) (f : α → Value) (B : Nat) (w : World) : mine t f B w (.slice none 0 0) [] := World.ownsRow_nil _ _ _ _
theorem mine_full {t : TypeId} {f : α → Value} {B : Nat} {w : World} {v : Value} {L : List α} (h : mine t f B w v L) : ∃ p c, v = .slice p L.length c ∧ row f w p L ∧ L.length ≤ c ∧ (p = none → c = 0) := by
  rcases h.2 with ⟨h0, hn⟩ | ⟨g, cap, cur, hv, hB, hblk, hr⟩
  · have : L = [] := List.eq_nil_of_length_eq_zero hn
    subst this
    exact ⟨none, 0, h0, row_nil _ _ _, Nat.le_refl _, fun _ => rfl⟩
  · subst hv
    refine ⟨_, _, rfl, fun j x hj => ⟨_, rfl, ?_⟩, hr.1, fun h => by cases h⟩
    have hjl : j < L.length := (List.getElem?_eq_some_iff.1 hj).1
    rw [add_zero_at, World.ownsRow.cellAt h j (by omega), List.getElem?_map, hj]; rfl
theorem mine_below {t : TypeId} {f : α → Value} {B : Nat} {w w' : World} {v : Value} {L : List α} (h : mine t f B w v L) (hb : Below w.heap.size w w') : mine t f B w' v L := by
  refine ⟨h.1, ?_⟩
  rcases h.2 with h0 | ⟨g', cap, cur, hv, hB, hblk, hr⟩
  · exact .inl h0
  · refine .inr ⟨g', cap, cur, hv, hB, ?_, hr⟩
    have : g' < w.heap.size := by
      rcases Nat.lt_or_ge g' w.heap.size with hlt | hge
      · exact hlt
      · rw [Array.getElem?_eq_none hge] at hblk; cases hblk
    rw [hb.block g' this]; exact hblk
theorem mine_mono {t : TypeId} {f : α → Value} {B B' : Nat} {w : World} {v : Value} {L : List α} (h : mine t f B w v L) (hB : B' ≤ B) : mine t f B' w v L := ⟨h.1, by
  rcases h.2 with h0 | ⟨g', cap, cur, hv, hb, hr⟩
  · exact .inl h0
  · exact .inr ⟨g', cap, cur, hv, Nat.le_trans hB hb, hr⟩⟩
theorem mine_grown {t : TypeId} {f : α → Value} {B : Nat} {w w1 w2 : World} {v : Value} {L : List α} (h : mine t f B w1 v L) (hw : Below B w w1) (hB : B ≤ w1.heap.size) (hg : w1.grownBy w2 v.ownBlock) : Below B w w2 :=
  hw.grown hg hB (fun k hk => (World.ownsRow.lt h k hk).1)
theorem one_at {f : α → Value} {w : World} {ad : Addr} {X : α} (h : w.cell? ad = some (f X)) : ∀ j u, ([X].map f)[j]? = some u → w.cell? (ad.add j) = some u := by
  intro j u hj
  have hjl : j < 1 := by have := (List.getElem?_eq_some_iff.1 hj).1; simpa using this
  obtain rfl : j = 0 := by omega
  have : f X = u := by simpa using hj
  rw [← this]
  have e : ad.add 0 = ad := by unfold Addr.add; simp
  rw [e]; exact h
/-- What is told of a kind of elements: its list's type, its own, its zero, its bytes. -/
structure Kd (T E : TypeId) (f : α → Value) (z : Value) (by_ : Nat) : Prop where
  ht : Try.prog.underlying T = some (.slice E)
  hi : (Try.prog.info? E).map (fun i => (i.zero, i.size, i.bytes)) = some (some z, 1, by_)
  hz : z.cells.size = 1
  hf : ∀ x, (f x).oneCell' = true
  hb : by_ ≤ 16
theorem list_one {T E : TypeId} {f : α → Value} {z : Value} {by_ : Nat} (hk : Kd T E f z by_) {ops : Array Oper} {rest : List Oper} {o : Oper} {a : Act} {Q : Exit → Act → World → Prop} (w : World) (hgd : o.guard = none) (s x : Operand)
    (ho : o.op = .call { callee := .builtin .append, args := #[s, x], argTypes := #[T, T] })
    (B : Nat) (v : Value) (L : List α) (hs : a.eval s = v) (hown : mine E f B w v L) (ad : Addr) (c : Nat) (X : α) (hx : a.eval x = .slice (some ad) 1 c) (hcell : w.cell? ad = some (f X)) (hl : L.length ≤ 1000000) (hB : B ≤ w.heap.size)
    (h : ∀ g cap w', mine E f B w' (.slice (some ⟨g, 0, none⟩) (L.length + 1) cap) (L ++ [X]) → w.grownBy w' v.ownBlock → wpList Try.prog ops Q rest (a.put o.dst (.slice (some ⟨g, 0, none⟩) (L.length + 1) cap)) w') :
    wpList Try.prog ops Q (o :: rest) a w := by
  obtain ⟨i0, hi, hz0, hz1, hz2⟩ := info_parts hk.hi
  have hby := hk.hb
  refine wpList_append_lies w hgd s x T ho B E i0 z 1 by_ hk.ht hi hz0 hz1 hz2 hk.hz (by decide) v L.length (L.map f) hs hown ad 1 c ([X].map f) hx rfl (one_at hcell) (by intro u hu; obtain ⟨y, _, rfl⟩ := List.mem_map.1 hu; exact hk.hf y) (by decide) (by unfold maxLen; omega) ?_ hB _ rfl ?_
  · have : (L.length + 1) * by_ ≤ (L.length + 1) * 16 := Nat.mul_le_mul_left _ hby
    omega
  intro g cap w' h1 h2 h3 h4
  refine h g cap w' ?_ h2
  unfold mine
  rw [List.map_append, List.length_append]; exact h1

/-- What an int can be. -/
def fits (k : Int) : Prop := -9223372036854775808 ≤ k ∧ k ≤ 9223372036854775807
/-- A byte, and a whole number, as values. -/
def vb (b : UInt8) : Value := .int .u8 (b.toNat : Int)
def vi (x : Int) : Value := .int .i64 x
theorem ki : Kd 35 3 vi (.int .i64 0) 8 := ⟨Try.underlying35, by kernel_rfl, rfl, fun _ => rfl, by decide⟩
end Go.Proofs.Ytgebfpncapfaoaa
