/- A field of one's own that is laid in an order that Go leaves open, and what is kept meanwhile. -/
import Derived.Test.YteemcighpoomhaaSk
namespace Go.Proofs.Yteemcighpoomhaa
open Go.RowKit
set_option linter.unusedVariables false

theorem cut_wp {P : Program} {s : Code} {K : Act → World → Prop} {Q' : Exit → Act → World → Prop} {a : Act} {w : World} (R : Act → World → Prop)
    (first : s.wp P (Exit.then R Q') a w) (rest : ∀ a' w', R a' w' → K a' w') : s.wp P (Exit.then K Q') a w := by
  refine Code.wp_mono ?_ first
  intro e a' w' hq
  cases e with
  | normal => exact rest _ _ hq
  | exit id => exact hq
  | goto l => exact hq
  | ret => exact hq
  | panic c => exact hq
  | outgrown => exact hq
theorem k3_drew {w V : World} {x y z : Addr} {a b c : Value} (h : Below w.heap.size w V ∧ V.cell? x = some a ∧ V.cell? y = some b ∧ V.cell? z = some c) : Below w.heap.size w V.drew ∧ V.drew.cell? x = some a ∧ V.drew.cell? y = some b ∧ V.drew.cell? z = some c := ⟨h.1.drew, h.2.1, h.2.2.1, h.2.2.2⟩
theorem k3_drewN {w V : World} {x y z : Addr} {a b c : Value} (h : Below w.heap.size w V ∧ V.cell? x = some a ∧ V.cell? y = some b ∧ V.cell? z = some c) (n : Nat) : Below w.heap.size w (V.drewN n) ∧ (V.drewN n).cell? x = some a ∧ (V.drewN n).cell? y = some b ∧ (V.drewN n).cell? z = some c := ⟨below_drewN h.1 n, h.2.1, h.2.2.1, h.2.2.2⟩
theorem k3_call {w V V' : World} {x y z : Addr} {a b c : Value} (h : Below w.heap.size w V ∧ V.cell? x = some a ∧ V.cell? y = some b ∧ V.cell? z = some c) (hb : Below V.heap.size V V') : Below w.heap.size w V' ∧ V'.cell? x = some a ∧ V'.cell? y = some b ∧ V'.cell? z = some c :=
  ⟨h.1.trans (hb.mono h.1.size), by rw [hb.cell (cell_lt h.2.1)]; exact h.2.1, by rw [hb.cell (cell_lt h.2.2.1)]; exact h.2.2.1, by rw [hb.cell (cell_lt h.2.2.2)]; exact h.2.2.2⟩
theorem k3_alloc {w V : World} {x y z : Addr} {a b c : Value} (h : Below w.heap.size w V ∧ V.cell? x = some a ∧ V.cell? y = some b ∧ V.cell? z = some c) (o : Obj) : Below w.heap.size w (V.alloc o) ∧ (V.alloc o).cell? x = some a ∧ (V.alloc o).cell? y = some b ∧ (V.alloc o).cell? z = some c := k3_call h (alloc_below V o)
theorem below_one (w : World) (o : Obj) : Below w.heap.size w (w.alloc o).drew := (alloc_below w o).drew
theorem hi0 (w : World) (o1 : Obj) : (w.alloc o1).drew.heap[w.heap.size]? = some o1 := World.alloc_heap_new w _
theorem k3_of {w V : World} {x y z : Addr} {a b c : Value} (h1 : w.cell? x = some a) (h2 : w.cell? y = some b) (h3 : w.cell? z = some c) (hb : Below w.heap.size w V) : Below w.heap.size w V ∧ V.cell? x = some a ∧ V.cell? y = some b ∧ V.cell? z = some c :=
  ⟨hb, (hb.cell (cell_lt h1)).trans h1, (hb.cell (cell_lt h2)).trans h2, (hb.cell (cell_lt h3)).trans h3⟩
theorem k3_bel {w V V' : World} {x y z : Addr} {a b c : Value} (hb : Below V.heap.size V V') (h : Below w.heap.size w V ∧ V.cell? x = some a ∧ V.cell? y = some b ∧ V.cell? z = some c) : Below w.heap.size w V' := h.1.trans (hb.mono h.1.size)
theorem k3_row {w V : World} {x y z : Addr} {a b c : Value} {p : Option Addr} {l : List Int} (hr : row vi w p l) (h : Below w.heap.size w V ∧ V.cell? x = some a ∧ V.cell? y = some b ∧ V.cell? z = some c) : row vi V p l := row_below hr h.1
theorem below_set3 {w V : World} {T : Nat} (h : Below w.heap.size w V) (hT : w.heap.size ≤ T) (a b c : Value) : Below w.heap.size w (((V.setCell ⟨T, 0, none⟩ a).setCell ⟨T, 1, none⟩ b).setCell ⟨T, 2, none⟩ c) :=
  ((h.setCell (p := ⟨T, 0, none⟩) hT _).setCell (p := ⟨T, 1, none⟩) hT _).setCell (p := ⟨T, 2, none⟩) hT _
theorem Clone_form (a : Addr) (N c : Nat) (l : List Int) (w : World) (h : row vi w (some a) l) (hn : l.length = N) (h1 : 1 ≤ N) (hl : N ≤ 1600) :
    Calls Try.prog 16 #[.slice (some a) N c] w fun e w' => ∃ g cap, e = .returned (.slice (some ⟨g, 0, none⟩) N cap) ∧ mine 3 vi w.heap.size w' (.slice (some ⟨g, 0, none⟩) N cap) l ∧ N ≤ cap ∧ Below w.heap.size w w' := by
  refine (Clone_any (some a) N c l w h hn (fun e => by cases e) (by omega)).mono ?_
  rintro e w' ⟨v, rfl, hm, hb⟩
  obtain ⟨g, cap, rfl, _, _, _, hc⟩ := mine_form hm hn h1
  exact ⟨g, cap, rfl, hm, hc, hb⟩
/-- A box of a field that has just been laid, its zero. -/
theorem fld_at {V w3 : World} {T : Nat} (hb : Below V.heap.size V w3) (h : V.heap[T]? = some (.cells #[.int .i64 0, .int .i64 0, .slice none 0 0] 24)) :
    w3.cell? ⟨T, 0, none⟩ = some (.int .i64 0) ∧ w3.cell? ⟨T, 1, none⟩ = some (.int .i64 0) ∧ w3.cell? ⟨T, 2, none⟩ = some (.slice none 0 0) ∧ w3.frozen? ⟨T, 0, none⟩ = false ∧ w3.frozen? ⟨T, 1, none⟩ = false ∧ w3.frozen? ⟨T, 2, none⟩ = false := by
  have hT : T < V.heap.size := by
    rcases Nat.lt_or_ge T V.heap.size with hlt | hge
    · exact hlt
    · rw [Array.getElem?_eq_none hge] at h; cases h
  have h3 : w3.heap[T]? = some (.cells #[.int .i64 0, .int .i64 0, .slice none 0 0] 24) := (hb.block T hT).trans h
  simp [World.cell?, World.frozen?, h3]
/-- The field of one's own lies in box T, its places at g. -/
def fin3 (w1 : World) (T g cap N W H : Nat) (l : List Int) (w' : World) : Prop :=
  w'.heap[T]? = some (.cells #[.int .i64 (W : Int), .int .i64 (H : Int), .slice (some ⟨g, 0, none⟩) N cap] 24) ∧ mine 3 vi w1.heap.size w' (.slice (some ⟨g, 0, none⟩) N cap) l ∧ Below w1.heap.size w1 w' ∧ T ≠ g ∧ w1.heap.size ≤ T ∧ w1.heap.size ≤ g ∧ T < w'.heap.size ∧ g < w'.heap.size
theorem fin3_alloc {w1 w3 : World} {B g cap N W H : Nat} {l : List Int} (hb : Below w1.heap.size w1 w3) (hm : mine 3 vi B w3 (.slice (some ⟨g, 0, none⟩) N cap) l) (hB : w1.heap.size ≤ B) :
    fin3 w1 w3.heap.size g cap N W H l (w3.alloc (.cells #[.int .i64 (W : Int), .int .i64 (H : Int), .slice (some ⟨g, 0, none⟩) N cap] 24)) := by
  have hg := World.ownsRow.lt hm g rfl
  exact ⟨World.alloc_heap_new _ _, mine_mono (mine_below hm (alloc_below _ _)) hB, hb.alloc hb.size _, by omega, hb.size, by omega, by simp, by simp; omega⟩
theorem mine_set {B g n cap T j : Nat} {w : World} {l : List Int} {u : Value} (h : mine 3 vi B w (.slice (some ⟨g, 0, none⟩) n cap) l) (hT : g ≠ T) : mine 3 vi B (w.setCell ⟨T, j, none⟩ u) (.slice (some ⟨g, 0, none⟩) n cap) l := by
  refine ⟨h.1, ?_⟩
  rcases h.2 with h0 | ⟨g', cap', cur, hv, hB, hblk, hr⟩
  · exact .inl h0
  · refine .inr ⟨g', cap', cur, hv, hB, ?_, hr⟩
    simp only [Value.slice.injEq, Option.some.injEq, Addr.mk.injEq, and_true] at hv
    rw [← hv.1] at hblk ⊢
    rw [Below.heap_setCell _ _ _ _ (by simpa using hT)]; exact hblk
theorem fin3_set {w1 V w3 : World} {T g cap N W H : Nat} {l : List Int} (hV : w1.heap.size ≤ V.heap.size) (hT : w1.heap.size ≤ T) (h : V.heap[T]? = some (.cells #[.int .i64 0, .int .i64 0, .slice none 0 0] 24)) (hb3 : Below V.heap.size V w3) (hb : Below w1.heap.size w1 w3) (hm : mine 3 vi V.heap.size w3 (.slice (some ⟨g, 0, none⟩) N cap) l) :
    fin3 w1 T g cap N W H l (((w3.setCell ⟨T, 0, none⟩ (.int .i64 (W : Int))).setCell ⟨T, 1, none⟩ (.int .i64 (H : Int))).setCell ⟨T, 2, none⟩ (.slice (some ⟨g, 0, none⟩) N cap)) := by
  have hg := World.ownsRow.lt hm g rfl
  have hTV : T < V.heap.size := by
    rcases Nat.lt_or_ge T V.heap.size with hlt | hge
    · exact hlt
    · rw [Array.getElem?_eq_none hge] at h; cases h
  have h3 : w3.heap[T]? = some (.cells #[.int .i64 0, .int .i64 0, .slice none 0 0] 24) := (hb3.block T hTV).trans h
  have s0 := heap_setCell_same w3 T 0 _ 24 (.int .i64 (W : Int)) h3
  have s1 := heap_setCell_same _ T 1 _ 24 (.int .i64 (H : Int)) s0
  have s2 := heap_setCell_same _ T 2 _ 24 (.slice (some ⟨g, 0, none⟩) N cap) s1
  refine ⟨by rw [s2]; rfl, mine_mono (mine_set (mine_set (mine_set hm (by omega)) (by omega)) (by omega)) hV, below_set3 hb hT _ _ _, by omega, hT, by omega, ?_, ?_⟩
  · have := hb3.size; simp [World.setCell]; omega
  · simp [World.setCell]; omega
theorem fin3_box {w1 w' : World} {T g cap N W H : Nat} {l : List Int} (h : fin3 w1 T g cap N W H l w') : ∀ V, Below w'.heap.size w' V → V.cell? ⟨T, 0, none⟩ = some (.int .i64 (W : Int)) ∧ V.cell? ⟨T, 1, none⟩ = some (.int .i64 (H : Int)) ∧ V.cell? ⟨T, 2, none⟩ = some (.slice (some ⟨g, 0, none⟩) N cap) := by
  intro V hV
  have h3 := (hV.block T h.2.2.2.2.2.2.1).trans h.1
  simp [World.cell?, h3]
/-- One place of one's own field is changed. -/
theorem fin3_put {w1 w' V : World} {T g cap N W H J : Nat} {l : List Int} (h : fin3 w1 T g cap N W H l w') (hl : l.length = N) (hV : Below w'.heap.size w' V) (x : Int) : fin3 w1 T g cap N W H (l.set J x) (V.setCell ⟨g, J, none⟩ (.int .i64 x)) := by
  obtain ⟨h1, h2, h3, h4, h5, h6, h7, h8⟩ := h
  have hs := hV.size
  refine ⟨?_, mine_put (mine_below h2 hV) hl J x, (h3.trans (hV.mono h3.size)).setCell (p := ⟨g, J, none⟩) h6 _, h4, h5, h6, ?_, ?_⟩
  · rw [Below.heap_setCell _ _ _ _ (by simpa using h4), hV.block T h7]; exact h1
  · simp [World.setCell]; omega
  · simp [World.setCell]; omega
theorem fin3_later {w1 w' V : World} {T g cap N W H : Nat} {l : List Int} (h : fin3 w1 T g cap N W H l w') (hV : Below w'.heap.size w' V) : fin3 w1 T g cap N W H l V := by
  obtain ⟨h1, h2, h3, h4, h5, h6, h7, h8⟩ := h
  have hs := hV.size
  exact ⟨(hV.block T h7).trans h1, mine_below h2 hV, h3.trans (hV.mono h3.size), h4, h5, h6, by omega, by omega⟩
theorem fin3_row {w1 w' : World} {T g cap N W H : Nat} {l : List Int} (h : fin3 w1 T g cap N W H l w') (hl : l.length = N) (h1 : 1 ≤ N) : row vi w' (some ⟨g, 0, none⟩) l := by
  obtain ⟨g', cap', e, _, _, hr, _⟩ := mine_form h.2.1 hl h1
  cases e
  exact hr
theorem set_len {l : List Int} {J N : Nat} (h : l.length = N) : (l.set J 0).length = N := by rw [List.length_set]; exact h
end Go.Proofs.Yteemcighpoomhaa
