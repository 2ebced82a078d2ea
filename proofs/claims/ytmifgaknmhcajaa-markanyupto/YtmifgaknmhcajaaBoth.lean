/- A list's own copy, whatever it is, and another list behind it. -/
import Derived.Test.YtmifgaknmhcajaaOwn
import Derived.Test.YtmifgaknmhcajaaOpen
import Derived.Laws.AppendOwnNone
namespace Go.Proofs.Ytmifgaknmhcajaa
open Go.RowKit Go.ChangeShapes
set_option linter.unusedVariables false

/-- A list that lies nowhere has no room. -/
theorem open_zero {H : Type} {enc : TypeId × Value → H} {P : Program} {t e : TypeId} {k : IntKind} (ht : P.underlying t = some (.slice e)) (he : P.underlying e = some (.int k)) (hc : P.cellsOf e = 1) {W : World} {base : Nat} {sp : Nat → Bool} {held : Bool} {p : Option Addr} {n c : Nat} {d : DataW H} {ps : List MemPlace}
    (hd : DataW.Trod enc P W base sp held t (.slice p n c) d ps) : p = none → c = 0 := by
  intro h0
  subst h0
  obtain ⟨fuel, hf⟩ := hd
  rcases open_ints ht he hc hf with ⟨hcs, hx⟩ | ⟨a, len', cap', zs, hcs, _⟩
  · simp [Value.cells] at hcs
    exact hcs.2
  · simp [Value.cells] at hcs

/-- v is a row of one's own, or nil, and holds the numbers. -/
def mine (B : Nat) (w : World) (v : Value) (L : List Nat) : Prop := w.ownsRow B 22 1 v L.length (nums L)
theorem mine_form {B : Nat} {w : World} {v : Value} {L : List Nat} (h : mine B w v L) : ∃ p c, v = .slice p L.length c ∧ row w p L := by
  rcases h.2 with ⟨h0, hn⟩ | ⟨g, cap, cur, hv, hB, hblk, hr⟩
  · have : L = [] := List.eq_nil_of_length_eq_zero hn
    subst this
    exact ⟨none, 0, h0, row_nil _ _⟩
  · subst hv
    exact ⟨_, _, rfl, owns_row (n := L.length) h⟩
theorem mine_below {B : Nat} {w w' : World} {v : Value} {L : List Nat} (h : mine B w v L) (hb : Below w.heap.size w w') : mine B w' v L := by
  refine ⟨h.1, ?_⟩
  rcases h.2 with h0 | ⟨g', cap, cur, hv, hB, hblk, hr⟩
  · exact .inl h0
  · refine .inr ⟨g', cap, cur, hv, hB, ?_, hr⟩
    have : g' < w.heap.size := by
      rcases Nat.lt_or_ge g' w.heap.size with hlt | hge
      · exact hlt
      · rw [Array.getElem?_eq_none hge] at hblk; cases hblk
    rw [hb.block g' this]; exact hblk
theorem mine_mono {B B' : Nat} {w : World} {v : Value} {L : List Nat} (h : mine B w v L) (hB : B' ≤ B) : mine B' w v L := ⟨h.1, by
  rcases h.2 with h0 | ⟨g', cap, cur, hv, hb, hr⟩
  · exact .inl h0
  · exact .inr ⟨g', cap, cur, hv, Nat.le_trans hB hb, hr⟩⟩

theorem Clone_any (s : Lst) (w : World) (h : s.ok w) (hc : s.p = none → s.c = 0) (hl : s.l.length * 8 ≤ 140737488355328) :
    Calls Try.prog 7 #[s.val] w fun e w' => ∃ v, e = .returned v ∧ mine w.heap.size w' v s.l ∧ Below w.heap.size w w' := by
  obtain ⟨p, c, l⟩ := s
  cases p with
  | none =>
    have hl0 : l = [] := by
      rcases Nat.eq_zero_or_pos l.length with h0 | h0
      · exact List.eq_nil_of_length_eq_zero h0
      · obtain ⟨a, ha⟩ := row_some h.1 h0
        cases ha
    subst hl0
    have : c = 0 := hc rfl
    subst this
    refine (Clone_nil w).mono ?_
    rintro e w' ⟨rfl, hw⟩; subst w'
    exact ⟨_, rfl, World.ownsRow_nil _ _ _ _, Below.refl _ _⟩
  | some a =>
    refine (Clone_some a c l w h.1 hl).mono ?_
    rintro e w' ⟨g, c', rfl, ho, hb⟩
    exact ⟨_, rfl, ho, hb⟩
theorem mine_grown {w w1 w2 : World} {v v' : Value} {L : List Nat} (h : mine w.heap.size w1 v L) (hw : Below w.heap.size w w1) (hg : w1.grownBy w2 v.ownBlock) : Below w.heap.size w w2 :=
  hw.grown hg hw.size (fun k hk => (World.ownsRow.lt h k hk).1)
theorem news_at {w : World} {a : Addr} {l : List Nat} (h : row w (some a) l) : ∀ j u, (nums l)[j]? = some u → w.cell? (a.add j) = some u := by
  intro j u hj
  have hjl : j < l.length := by have := (List.getElem?_eq_some_iff.1 hj).1; unfold nums at this; simpa using this
  rw [nums_getElem hjl] at hj
  cases hj
  exact row_cell h j hjl
theorem small_append {a b : List Nat} (ha : small a) (hb : small b) : small (a ++ b) := fun x hx => (List.mem_append.1 hx).elim (ha x) (hb x)
end Go.Proofs.Ytmifgaknmhcajaa
