/- Rows of numbers of one's own: lists that are handed in, copies of them, lists that grow. -/
import Derived.Test.YteedlbdjbffheaaRows
import Derived.Test.YteedlbdjbffheaaMem
import Derived.Test.YteedlbdjbffheaaPost
import Derived.WalkKit
import Derived.WalkSpells
import Derived.RegionTactic
import Derived.ChangeAlike
import Derived.ChangeSlices
import Derived.BigQuiet
import Derived.Lib.SliceRun
import Derived.Laws.AppendOwnNone
namespace Go.Proofs.Yteedlbdjbffheaa
open Go.RowKit Go.ChangeShapes
set_option linter.unusedVariables false

/-- A list that is handed in: where it lies, its room, its numbers. -/
structure Lst where
  p : Option Addr
  c : Nat
  l : List Nat
def Lst.val (s : Lst) : Value := .slice s.p s.l.length s.c
def Lst.ok (w : World) (s : Lst) : Prop := row w s.p s.l ∧ small s.l ∧ s.l.length ≤ 9223372036854775807
theorem Lst.ok_below {w w' : World} {s : Lst} (h : s.ok w) (hb : Below w.heap.size w w') : s.ok w' := ⟨row_below h.1 hb, h.2⟩
theorem alloc_below (w : World) (o : Obj) : Below w.heap.size w (w.alloc o) := (Below.refl _ _).alloc (Nat.le_refl _) _
theorem new_at (w : World) (l : List Value) (t : TypeId) (j : Nat) : (w.alloc (.cells l.toArray t)).cell? ⟨w.heap.size, j, none⟩ = l[j]? := by
  rw [World.cell?_alloc_mark]; simp

def nums (L : List Nat) : List Value := L.map fun x : Nat => Value.int .u64 (x : Int)
theorem nums_getElem {L : List Nat} {j : Nat} (h : j < L.length) : (nums L)[j]? = some (.int .u64 ((L.getD j 0 : Nat) : Int)) := by
  unfold nums
  rw [List.getElem?_map, List.getElem?_eq_getElem h]
  simp [List.getD_eq_getElem?_getD, List.getElem?_eq_getElem h]
theorem nums_set (L : List Nat) (j x : Nat) : (nums L).set j (.int .u64 (x : Int)) = nums (L.set j x) := by
  unfold nums; rw [List.map_set]
theorem nums_append (a b : List Nat) : nums (a ++ b) = nums a ++ nums b := by unfold nums; rw [List.map_append]
theorem nums_one {L : List Nat} : ∀ u ∈ nums L, u.oneCell' = true := by
  intro u hu
  unfold nums at hu
  obtain ⟨x, _, rfl⟩ := List.mem_map.1 hu
  rfl
theorem info23 : (Try.prog.info? 23).map (fun i => (i.zero, i.size, i.bytes)) = some (some (.int .u64 0), 1, 8) := by kernel_rfl

/-- A row of its own: block g, from its head, holds the numbers. -/
def owns (B : Nat) (wr : World) (g n c : Nat) (L : List Nat) : Prop := wr.ownsRow B 23 1 (.slice (some ⟨g, 0, none⟩) n c) n (nums L)
theorem owns_len {B : Nat} {wr : World} {g n c : Nat} {L : List Nat} (h : owns B wr g n c L) : L.length = n := by
  have := h.1; unfold nums at this; rw [List.length_map] at this; omega
theorem owns_cell {B : Nat} {wr : World} {g n c : Nat} {L : List Nat} (h : owns B wr g n c L) {j : Nat} (hj : j < n) :
    wr.cell? ⟨g, j, none⟩ = some (.int .u64 ((L.getD j 0 : Nat) : Int)) := by
  rw [World.ownsRow.cellAt h j (by omega), nums_getElem (by rw [owns_len h]; exact hj)]
theorem owns_free {B : Nat} {wr : World} {g n c : Nat} {L : List Nat} (h : owns B wr g n c L) (j : Nat) : wr.frozen? ⟨g, j, none⟩ = false := World.ownsRow.frozenAt h j
theorem owns_put {B : Nat} {wr : World} {g n c : Nat} {L : List Nat} (h : owns B wr g n c L) (j x : Nat) : owns B (wr.setCell ⟨g, j, none⟩ (.int .u64 (x : Int))) g n c (L.set j x) := by
  unfold owns; rw [← nums_set]; exact (World.ownsRow.stored h j _).1
theorem owns_base {B : Nat} {wr : World} {g n c : Nat} {L : List Nat} (h : owns B wr g n c L) : B ≤ g ∧ g < wr.heap.size := World.ownsRow.lt h g rfl
theorem add_zero_at (g j : Nat) : (⟨g, 0, none⟩ : Addr).add j = ⟨g, j, none⟩ := by unfold Addr.add; split <;> simp_all
theorem owns_row {B : Nat} {wr : World} {g n c : Nat} {L : List Nat} (h : owns B wr g n c L) : row wr (some ⟨g, 0, none⟩) L := by
  intro j hj
  refine ⟨_, rfl, ?_⟩
  rw [add_zero_at]; exact owns_cell h (by rw [← owns_len h]; exact hj)
theorem owns_ok {B : Nat} {wr : World} {g n c : Nat} {L : List Nat} (h : owns B wr g n c L) (hs : small L) (hn : n ≤ 9223372036854775807) : (⟨some ⟨g, 0, none⟩, c, L⟩ : Lst).ok wr :=
  ⟨owns_row h, hs, by show L.length ≤ _; rw [owns_len h]; exact hn⟩

set_option maxRecDepth 20000 in
set_option maxHeartbeats 1000000 in
theorem Clone_some (a : Addr) (c : Nat) (l : List Nat) (w : World) (h : row w (some a) l) (hl : l.length * 8 ≤ 140737488355328) :
    Calls Try.prog 23 #[.slice (some a) l.length c] w fun e w' => ∃ g c', e = .returned (.slice (some ⟨g, 0, none⟩) l.length c') ∧ owns w.heap.size w' g l.length c' l ∧ Below w.heap.size w w' := by
  obtain ⟨i0, hi, hz0, hz1, hz2⟩ := info_parts info23
  have HR : Hid (row w (some a) l) := h
  have HL : Hid (l.length * 8 ≤ 140737488355328) := hl
  clear h hl
  have q22 : ∀ (w : World) (a : Option Addr) (n c n' c' : Nat), (binOp .eql 27 (.slice a n c) (.slice none n' c')).run Try.prog w = .ok (.bool a.isNone) w := fun w a n c n' c' => Lib.run_eql_slice_nil w _ _ a n c n' c' Try.underlying27
  go_enter Try.func23, Try.ntmps23
  go_wp2_with (at_builtin; refine wpList_append_own _ rfl _ _ 27 rfl w.heap.size 23 i0 (.int .u64 0) 1 8 Try.underlying27 hi hz0 hz1 hz2 rfl (by decide) _ _ _ rfl (World.ownsRow_made w #[] 0 (Nat.le_refl _) (Nat.zero_le _) (by simp)) a l.length c (nums l) rfl ?qc1 ?qc2 ?qc3 ?qc4 ?qc5 ?qc6 ?_)
  case qc1 => unfold nums; simp
  case qc2 =>
    intro j u hj
    have hjl : j < l.length := by have := (List.getElem?_eq_some_iff.1 hj).1; unfold nums at this; simpa using this
    rw [nums_getElem hjl] at hj
    cases hj
    exact row_cell (row_below HR.out (alloc_below _ _)) j hjl
  case qc3 => exact nums_one
  case qc4 => have := HL.out; unfold maxLen; omega
  case qc5 => have := HL.out; omega
  case qc6 => simp
  intro v' w1 hown hgrow hnil
  have hb : Below w.heap.size w w1 := ((Below.refl _ w).alloc (Nat.le_refl _) _).grown hgrow (by simp) (by intro k hk; simp [Value.ownBlock] at hk; omega)
  have ho : w1.ownsRow w.heap.size 23 1 v' l.length (nums l) := by simpa using hown
  have hne : v' ≠ .slice none 0 0 := hnil
  have HO : Hid (∃ g c', v' = .slice (some ⟨g, 0, none⟩) l.length c' ∧ owns w.heap.size w1 g l.length c' l) := by
    rcases ho.2 with ⟨h0, _⟩ | ⟨g', cap, cur, rfl, hg, _, hcap, _⟩
    · exact absurd h0 hne
    · exact ⟨g', cap, rfl, ho⟩
  have HB : Hid (Below w.heap.size w w1) := hb
  clear hown hgrow hnil hb ho hne
  go_wp2_with fail
  go_ret
  obtain ⟨g, c', rfl, h2⟩ := HO.out
  exact ⟨g, c', rfl, h2, HB.out⟩

theorem owns_below {B : Nat} {wr w' : World} {g n c : Nat} {L : List Nat} (h : owns B wr g n c L) (hb : Below wr.heap.size wr w') : owns B w' g n c L := by
  have hlt := (owns_base h).2
  refine ⟨h.1, ?_⟩
  rcases h.2 with h0 | ⟨g', cap, cur, hv, hB, hblk, hr⟩
  · exact .inl h0
  · refine .inr ⟨g', cap, cur, hv, hB, ?_, hr⟩
    cases hv
    rw [hb.block g hlt]; exact hblk
theorem owns_mono {B B' : Nat} {w : World} {g n c : Nat} {L : List Nat} (h : owns B w g n c L) (hB : B' ≤ B) : owns B' w g n c L := ⟨h.1, by
  rcases h.2 with h0 | ⟨g', cap, cur, hv, hb, hr⟩
  · exact .inl h0
  · exact .inr ⟨g', cap, cur, hv, Nat.le_trans hB hb, hr⟩⟩

set_option maxRecDepth 20000 in
theorem Clone_nil (w : World) : Calls Try.prog 23 #[.slice none 0 0] w fun e w' => e = .returned (.slice none 0 0) ∧ w' = w := by
  have q22 : ∀ (w : World) (a : Option Addr) (n c n' c' : Nat), (binOp .eql 27 (.slice a n c) (.slice none n' c')).run Try.prog w = .ok (.bool a.isNone) w := fun w a n c n' c' => Lib.run_eql_slice_nil w _ _ a n c n' c' Try.underlying27
  go_enter Try.func23, Try.ntmps23
  go_wp2
  go_ret
  exact ⟨rfl, rfl⟩
/-- A list that lies nowhere has no room. -/
theorem open_zero {H : Type} {enc : TypeId × Value → H} {P : Program} {t e : TypeId} {k : IntKind} (ht : P.underlying t = some (.slice e)) (he : P.underlying e = some (.int k)) (hc : P.cellsOf e = 1) {W : World} {base : Nat} {sp : Nat → Bool} {held : Bool} {p : Option Addr} {n c : Nat} {d : DataW H} {ps : List MemPlace}
    (hd : DataW.Trod enc P W base sp held t (.slice p n c) d ps) : p = none → c = 0 := by
  intro h0
  subst h0
  obtain ⟨fuel, hf⟩ := hd
  rcases open_ints ht he hc hf with ⟨hcs, hx⟩ | ⟨a, len', cap', zs, hcs, _⟩
  · simp [Value.cells] at hcs
    exact hcs.2
  · simp [Value.cells] at hcs

/-- v is a row of one's own, or nil, and holds the numbers. -/
def mine (B : Nat) (w : World) (v : Value) (L : List Nat) : Prop := w.ownsRow B 23 1 v L.length (nums L)
theorem mine_form {B : Nat} {w : World} {v : Value} {L : List Nat} (h : mine B w v L) : ∃ p c, v = .slice p L.length c ∧ row w p L := by
  rcases h.2 with ⟨h0, hn⟩ | ⟨g, cap, cur, hv, hB, hblk, hr⟩
  · have : L = [] := List.eq_nil_of_length_eq_zero hn
    subst this
    exact ⟨none, 0, h0, row_nil _ _⟩
  · subst hv
    exact ⟨_, _, rfl, owns_row (n := L.length) h⟩
theorem mine_below {B : Nat} {w w' : World} {v : Value} {L : List Nat} (h : mine B w v L) (hb : Below w.heap.size w w') : mine B w' v L := by
  refine ⟨h.1, ?_⟩
  rcases h.2 with h0 | ⟨g', cap, cur, hv, hB, hblk, hr⟩
  · exact .inl h0
  · refine .inr ⟨g', cap, cur, hv, hB, ?_, hr⟩
    have : g' < w.heap.size := by
      rcases Nat.lt_or_ge g' w.heap.size with hlt | hge
      · exact hlt
      · rw [Array.getElem?_eq_none hge] at hblk; cases hblk
    rw [hb.block g' this]; exact hblk
theorem mine_mono {B B' : Nat} {w : World} {v : Value} {L : List Nat} (h : mine B w v L) (hB : B' ≤ B) : mine B' w v L := ⟨h.1, by
  rcases h.2 with h0 | ⟨g', cap, cur, hv, hb, hr⟩
  · exact .inl h0
  · exact .inr ⟨g', cap, cur, hv, Nat.le_trans hB hb, hr⟩⟩

theorem Clone_any (s : Lst) (w : World) (h : s.ok w) (hc : s.p = none → s.c = 0) (hl : s.l.length * 8 ≤ 140737488355328) :
    Calls Try.prog 23 #[s.val] w fun e w' => ∃ v, e = .returned v ∧ mine w.heap.size w' v s.l ∧ Below w.heap.size w w' := by
  obtain ⟨p, c, l⟩ := s
  cases p with
  | none =>
    have hl0 : l = [] := by
      rcases Nat.eq_zero_or_pos l.length with h0 | h0
      · exact List.eq_nil_of_length_eq_zero h0
      · obtain ⟨a, ha⟩ := row_some h.1 h0
        cases ha
    subst hl0
    have : c = 0 := hc rfl
    subst this
    refine (Clone_nil w).mono ?_
    rintro e w' ⟨rfl, hw⟩; subst w'
    exact ⟨_, rfl, World.ownsRow_nil _ _ _ _, Below.refl _ _⟩
  | some a =>
    refine (Clone_some a c l w h.1 hl).mono ?_
    rintro e w' ⟨g, c', rfl, ho, hb⟩
    exact ⟨_, rfl, ho, hb⟩
theorem mine_grown {w w1 w2 : World} {v : Value} {L : List Nat} (h : mine w.heap.size w1 v L) (hw : Below w.heap.size w w1) (hg : w1.grownBy w2 v.ownBlock) : Below w.heap.size w w2 :=
  hw.grown hg hw.size (fun k hk => (World.ownsRow.lt h k hk).1)
theorem news_at {w : World} {a : Addr} {l : List Nat} (h : row w (some a) l) : ∀ j u, (nums l)[j]? = some u → w.cell? (a.add j) = some u := by
  intro j u hj
  have hjl : j < l.length := by have := (List.getElem?_eq_some_iff.1 hj).1; unfold nums at this; simpa using this
  rw [nums_getElem hjl] at hj
  cases hj
  exact row_cell h j hjl
theorem small_append {a b : List Nat} (ha : small a) (hb : small b) : small (a ++ b) := fun x hx => (List.mem_append.1 hx).elim (ha x) (hb x)
end Go.Proofs.Yteedlbdjbffheaa
