/- What the document's own KindOf returns. -/
import Derived.Test.YtgebfpncapfaoaaWc
namespace Go.Proofs.Ytgebfpncapfaoaa
open Go.RowKit
set_option linter.unusedVariables false

theorem kind_boxes (w : World) : ∃ w0 w1, w.alloc (.cells #[.int .i64 0, .int .i64 0, .int .i64 0, .int .i64 0] 95) = w0 ∧ w0.alloc (.cells #[.int .i64 0, .int .i64 0, .int .i64 0, .int .i64 0, .int .i64 10, .int .i64 1, .int .i64 1, .int .i64 5, .int .i64 20, .int .i64 2, .int .i64 4, .int .i64 12] 95) = w1 ∧ w0.heap.size = w.heap.size + 1 ∧ Below w.heap.size w w1 ∧ w1.heap[w.heap.size]? = some (.cells #[.int .i64 0, .int .i64 0, .int .i64 0, .int .i64 0] 95) ∧
    w1.cell? ⟨w.heap.size, 0, none⟩ = some (.int .i64 0) ∧ w1.cell? ⟨w.heap.size, 1, none⟩ = some (.int .i64 0) ∧ w1.cell? ⟨w.heap.size, 2, none⟩ = some (.int .i64 0) ∧ w1.cell? ⟨w.heap.size, 3, none⟩ = some (.int .i64 0) ∧ w1.frozen? ⟨w.heap.size, 0, none⟩ = false ∧ w1.frozen? ⟨w.heap.size, 1, none⟩ = false ∧ w1.frozen? ⟨w.heap.size, 2, none⟩ = false ∧ w1.frozen? ⟨w.heap.size, 3, none⟩ = false ∧ w1.cell? ⟨w.heap.size + 1, 4, none⟩ = some (.int .i64 10) ∧ w1.cell? ⟨w.heap.size + 1, 5, none⟩ = some (.int .i64 1) ∧ w1.cell? ⟨w.heap.size + 1, 6, none⟩ = some (.int .i64 1) ∧ w1.cell? ⟨w.heap.size + 1, 7, none⟩ = some (.int .i64 5) ∧ w1.cell? ⟨w.heap.size + 1, 8, none⟩ = some (.int .i64 20) ∧ w1.cell? ⟨w.heap.size + 1, 9, none⟩ = some (.int .i64 2) ∧ w1.cell? ⟨w.heap.size + 1, 10, none⟩ = some (.int .i64 4) ∧ w1.cell? ⟨w.heap.size + 1, 11, none⟩ = some (.int .i64 12) := by
  have h := World.alloc_heap_new w (.cells #[.int .i64 0, .int .i64 0, .int .i64 0, .int .i64 0] 95)
  obtain ⟨w0, hw0⟩ : ∃ w0, w.alloc (.cells #[.int .i64 0, .int .i64 0, .int .i64 0, .int .i64 0] 95) = w0 := ⟨_, rfl⟩
  have hs : w0.heap.size = w.heap.size + 1 := by rw [← hw0]; simp
  have hb0 : Below w.heap.size w w0 := by rw [← hw0]; exact alloc_below _ _
  rw [hw0] at h
  have h1 := World.alloc_heap_new w0 (.cells #[.int .i64 0, .int .i64 0, .int .i64 0, .int .i64 0, .int .i64 10, .int .i64 1, .int .i64 1, .int .i64 5, .int .i64 20, .int .i64 2, .int .i64 4, .int .i64 12] 95)
  obtain ⟨w1, hw1⟩ : ∃ w1, w0.alloc (.cells #[.int .i64 0, .int .i64 0, .int .i64 0, .int .i64 0, .int .i64 10, .int .i64 1, .int .i64 1, .int .i64 5, .int .i64 20, .int .i64 2, .int .i64 4, .int .i64 12] 95) = w1 := ⟨_, rfl⟩
  have hb1 : Below w0.heap.size w0 w1 := by rw [← hw1]; exact alloc_below _ _
  rw [hw1, hs] at h1
  have h2 := hb1.block w.heap.size (by omega)
  rw [h] at h2
  refine ⟨w0, w1, hw0, hw1, hs, hb0.trans (hb1.mono (by omega)), h2, ?_⟩
  simp [World.cell?, World.frozen?, h1, h2]
set_option maxRecDepth 20000 in
set_option maxHeartbeats 1000000 in
theorem KindOf_1 (w : World) : Calls Try.prog 52 #[.int .i64 1] w fun e w' => e = .returned (.agg #[.int .i64 10, .int .i64 1, .int .i64 1, .int .i64 5]) ∧ Below w.heap.size w w' := by
  obtain ⟨w0, w1, hw0, hw1, hG, hB1, hR1, r0, r1, r2, r3, r4, r5, r6, r7, q0, q1, q2, q3, q4, q5, q6, q7⟩ := kind_boxes w
  have HB : Hid (Below w.heap.size w w1) := hB1
  have HR1 : Hid (w1.heap[w.heap.size]? = some (.cells #[.int .i64 0, .int .i64 0, .int .i64 0, .int .i64 0] 95)) := hR1
  clear hB1 hR1
  go_enter Try.func52, Try.ntmps52
  go_wp2_with fail
  obtain ⟨V, hV⟩ : ∃ V, (((w1.setCell ⟨w.heap.size, 0, none⟩ (.int .i64 10)).setCell ⟨w.heap.size, 1, none⟩ (.int .i64 1)).setCell ⟨w.heap.size, 2, none⟩ (.int .i64 1)).setCell ⟨w.heap.size, 3, none⟩ (.int .i64 5) = V := ⟨_, rfl⟩
  rw [hV]
  have k2 := set4 HR1.out V hV.symm
  refine ⟨by simp, .agg #[.int .i64 10, .int .i64 1, .int .i64 1, .int .i64 5], ?_, rfl, ?_⟩
  · simp [results, Try.results52, go_sem, k2.1, k2.2.1, k2.2.2.1, k2.2.2.2.1]
  · exact HB.out.trans (k2.2.2.2.2 w.heap.size (Nat.le_refl _))
set_option maxRecDepth 20000 in
set_option maxHeartbeats 1000000 in
theorem KindOf_2 (w : World) : Calls Try.prog 52 #[.int .i64 2] w fun e w' => e = .returned (.agg #[.int .i64 20, .int .i64 2, .int .i64 4, .int .i64 12]) ∧ Below w.heap.size w w' := by
  obtain ⟨w0, w1, hw0, hw1, hG, hB1, hR1, r0, r1, r2, r3, r4, r5, r6, r7, q0, q1, q2, q3, q4, q5, q6, q7⟩ := kind_boxes w
  have HB : Hid (Below w.heap.size w w1) := hB1
  have HR1 : Hid (w1.heap[w.heap.size]? = some (.cells #[.int .i64 0, .int .i64 0, .int .i64 0, .int .i64 0] 95)) := hR1
  clear hB1 hR1
  go_enter Try.func52, Try.ntmps52
  go_wp2_with fail
  obtain ⟨V, hV⟩ : ∃ V, (((w1.setCell ⟨w.heap.size, 0, none⟩ (.int .i64 20)).setCell ⟨w.heap.size, 1, none⟩ (.int .i64 2)).setCell ⟨w.heap.size, 2, none⟩ (.int .i64 4)).setCell ⟨w.heap.size, 3, none⟩ (.int .i64 12) = V := ⟨_, rfl⟩
  rw [hV]
  have k2 := set4 HR1.out V hV.symm
  refine ⟨by simp, .agg #[.int .i64 20, .int .i64 2, .int .i64 4, .int .i64 12], ?_, rfl, ?_⟩
  · simp [results, Try.results52, go_sem, k2.1, k2.2.1, k2.2.2.1, k2.2.2.2.1]
  · exact HB.out.trans (k2.2.2.2.2 w.heap.size (Nat.le_refl _))
end Go.Proofs.Ytgebfpncapfaoaa
