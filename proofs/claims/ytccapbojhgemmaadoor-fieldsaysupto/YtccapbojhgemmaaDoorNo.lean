/- What Write and Turn return of a field that is none; what At returns. -/
import Derived.Test.YtccapbojhgemmaaDoorTx
import Derived.Laws.ResultCell
namespace Go.Proofs.YtccapbojhgemmaaDoor
open Go.RowKit
set_option linter.unusedVariables false

theorem Check_at (W H : Int) (p : Option Addr) (n c : Nat) (l : List Int) (E : Int) (w : World) (hr : row vi w p l) (hn : l.length = n) (hm : n ≤ 9223372036854775807) (hE : Hid (ck W H l = E)) :
    Calls Tryd.prog 11 #[.agg #[.int .i64 W, .int .i64 H, .slice p n c]] w fun e w' => e = .returned (.int .i64 E) ∧ Below w.heap.size w w' := by
  rw [← hE.out]; exact Check_any W H p n c l w hr hn hm

set_option maxRecDepth 20000 in
set_option maxHeartbeats 1000000 in
theorem Write_no (W H : Int) (p : Option Addr) (n c : Nat) (l : List Int) (E : Int) (w : World) (hr : row vi w p l) (hn : l.length = n) (hm : n ≤ 9223372036854775807) (hE : Hid (ck W H l = E)) (h0 : E ≠ 0) :
    Calls Tryd.prog 4 #[.agg #[.int .i64 W, .int .i64 H, .slice p n c]] w fun e w' => e = .returned (.tuple #[.string ⟨#[]⟩, .int .i64 E]) ∧ Below w.heap.size w w' := by
  have HR : Hid (row vi w p l) := hr
  have HN : Hid (l.length = n) := hn
  clear hr hn
  have e0 : (E == 0) = false := by simp [h0]
  go_enter Tryd.func4, Tryd.ntmps4
  go_wp2_with fail
  refine (Check_at W H p n c l E _ (row_below HR.out (alloc_below _ _)) HN.out hm hE).mono ?_
  rintro e w1 ⟨rfl, hb⟩
  have HB : Hid (Below w.heap.size w w1) := below_step (alloc_below w _) (by simp) hb
  clear hb
  go_wp2_with fail
  go_ret2
  exact ⟨rfl, HB.out⟩
/-- Three stores into a box of three. -/
theorem set3 {W' : World} {R : Nat} {x y z x' y' z' : Value} {t : TypeId} (hR : W'.heap[R]? = some (.cells #[x, y, z] t)) (V : World) (hV : V = ((W'.setCell ⟨R, 0, none⟩ x').setCell ⟨R, 1, none⟩ y').setCell ⟨R, 2, none⟩ z') :
    V.cell? ⟨R, 0, none⟩ = some x' ∧ V.cell? ⟨R, 1, none⟩ = some y' ∧ V.cell? ⟨R, 2, none⟩ = some z' ∧ ∀ B, B ≤ R → Below B W' V := by
  have hRV : V.heap[R]? = some (.cells #[x', y', z'] t) := by
    have h1 := heap_setCell_same W' R 0 _ t x' hR
    have h2 := heap_setCell_same _ R 1 _ t y' h1
    have h3 := heap_setCell_same _ R 2 _ t z' h2
    rw [hV, h3]; rfl
  refine ⟨by simp [World.cell?, hRV], by simp [World.cell?, hRV], by simp [World.cell?, hRV], fun B hB => ?_⟩
  rw [hV]
  exact (((Below.refl B W').setCell (p := ⟨R, 0, none⟩) hB _).setCell (p := ⟨R, 1, none⟩) hB _).setCell (p := ⟨R, 2, none⟩) hB _

set_option maxRecDepth 20000 in
set_option maxHeartbeats 1000000 in
theorem Turn_no (W H : Int) (p : Option Addr) (n c : Nat) (l : List Int) (E : Int) (w : World) (hr : row vi w p l) (hn : l.length = n) (hm : n ≤ 9223372036854775807) (hE : Hid (ck W H l = E)) (h0 : E ≠ 0) :
    Calls Tryd.prog 9 #[.agg #[.int .i64 W, .int .i64 H, .slice p n c]] w fun e w' => e = .returned (.tuple #[.agg #[.int .i64 0, .int .i64 0, .slice none 0 0], .int .i64 E]) ∧ Below w.heap.size w w' := by
  have HR : Hid (row vi w p l) := hr
  have HN : Hid (l.length = n) := hn
  clear hr hn
  have e0 : (E == 0) = false := by simp [h0]
  go_enter Tryd.func9, Tryd.ntmps9
  go_wp2_with fail
  obtain ⟨w0, hw0⟩ : ∃ w0, (w.alloc (.cells #[.int .i64 W, .int .i64 H, .slice p n c] 24)).alloc (.cells #[.int .i64 0, .int .i64 0, .slice none 0 0] 24) = w0 := ⟨_, rfl⟩
  have hs0 : w0.heap.size = w.heap.size + 2 := by rw [← hw0]; simp
  have hB0 : Below w.heap.size w w0 := by rw [← hw0]; exact (alloc_below w _).alloc (by simp) _
  have hr0 : w0.heap[w.heap.size + 1]? = some (.cells #[.int .i64 0, .int .i64 0, .slice none 0 0] 24) := by
    rw [← hw0]; have := World.alloc_heap_new (w.alloc (.cells #[.int .i64 W, .int .i64 H, .slice p n c] 24)) (.cells #[.int .i64 0, .int .i64 0, .slice none 0 0] 24); rwa [World.size_alloc] at this
  rw [hw0]
  clear hw0
  refine (Check_at W H p n c l E _ (row_below HR.out hB0) HN.out hm hE).mono ?_
  rintro e w1 ⟨rfl, hb⟩
  have HB : Hid (Below w.heap.size w w1) := hB0.trans (hb.mono (by omega))
  have hr1 : w1.heap[w.heap.size + 1]? = some (.cells #[.int .i64 0, .int .i64 0, .slice none 0 0] 24) := (hb.block _ (by omega)).trans hr0
  have r0 : w1.cell? ⟨w.heap.size + 1, 0, none⟩ = some (.int .i64 0) ∧ w1.cell? ⟨w.heap.size + 1, 1, none⟩ = some (.int .i64 0) ∧ w1.cell? ⟨w.heap.size + 1, 2, none⟩ = some (.slice none 0 0) ∧ w1.frozen? ⟨w.heap.size + 1, 0, none⟩ = false ∧ w1.frozen? ⟨w.heap.size + 1, 1, none⟩ = false ∧ w1.frozen? ⟨w.heap.size + 1, 2, none⟩ = false := by simp [World.cell?, World.frozen?, hr1]
  obtain ⟨r0, r1, r2, r3, r4, r5⟩ := r0
  have HR1 : Hid (w1.heap[w.heap.size + 1]? = some (.cells #[.int .i64 0, .int .i64 0, .slice none 0 0] 24)) := hr1
  clear hb hr1 hr0
  go_wp2_with fail
  obtain ⟨V, hV⟩ : ∃ V, ((w1.setCell ⟨w.heap.size + 1, 0, none⟩ (.int .i64 0)).setCell ⟨w.heap.size + 1, 1, none⟩ (.int .i64 0)).setCell ⟨w.heap.size + 1, 2, none⟩ (.slice none 0 0) = V := ⟨_, rfl⟩
  rw [hV]
  have k2 := set3 HR1.out V hV.symm
  refine ⟨by simp, .tuple #[.agg #[.int .i64 0, .int .i64 0, .slice none 0 0], .int .i64 E], ?_, rfl, ?_⟩
  · rw [results_cell_tmp rfl]
    simp [go_sem, k2.1, k2.2.1, k2.2.2.1]
  · exact HB.out.trans (k2.2.2.2 w.heap.size (by omega))
end Go.Proofs.YtccapbojhgemmaaDoor
