/- What small returns. -/
import Derived.Test.YtdcjjfipnilmpaaCp
namespace Go.Proofs.Ytdcjjfipnilmpaa
open Go.RowKit
set_option linter.unusedVariables false

theorem set9h {W' : World} {R : Nat} {x0 x1 x2 x3 x4 x5 x6 x7 x8 y0 y1 y2 y3 y4 y5 y6 y7 y8 : Value} {t : TypeId} (hR : W'.heap[R]? = some (.cells #[x0, x1, x2, x3, x4, x5, x6, x7, x8] t)) (V : World) (hV : V = ((((((((W'.setCell ⟨R, 0, none⟩ y0).setCell ⟨R, 1, none⟩ y1).setCell ⟨R, 2, none⟩ y2).setCell ⟨R, 3, none⟩ y3).setCell ⟨R, 4, none⟩ y4).setCell ⟨R, 5, none⟩ y5).setCell ⟨R, 6, none⟩ y6).setCell ⟨R, 7, none⟩ y7).setCell ⟨R, 8, none⟩ y8) :
    V.heap[R]? = some (.cells #[y0, y1, y2, y3, y4, y5, y6, y7, y8] t) ∧ (∀ j, j ≠ R → V.heap[j]? = W'.heap[j]?) ∧ V.heap.size = W'.heap.size ∧ ∀ B, B ≤ R → Below B W' V := by
  obtain ⟨V0, e0⟩ : ∃ V, W'.setCell ⟨R, 0, none⟩ y0 = V := ⟨_, rfl⟩
  have h0 : V0.heap[R]? = some (.cells #[y0, x1, x2, x3, x4, x5, x6, x7, x8] t) := by rw [← e0]; exact heap_setCell_same W' R 0 _ t y0 hR
  have o0 : ∀ j, j ≠ R → V0.heap[j]? = W'.heap[j]? := fun j hj => by rw [← e0]; exact Below.heap_setCell _ _ _ _ hj
  have s0 : V0.heap.size = W'.heap.size := by rw [← e0]; simp [World.setCell]
  have b0 : ∀ B, B ≤ R → Below B W' V0 := fun B hB => by rw [← e0]; exact (Below.refl B W').setCell (p := ⟨R, 0, none⟩) hB y0
  obtain ⟨V1, e1⟩ : ∃ V, V0.setCell ⟨R, 1, none⟩ y1 = V := ⟨_, rfl⟩
  have h1 : V1.heap[R]? = some (.cells #[y0, y1, x2, x3, x4, x5, x6, x7, x8] t) := by rw [← e1]; exact heap_setCell_same V0 R 1 _ t y1 h0
  have o1 : ∀ j, j ≠ R → V1.heap[j]? = V0.heap[j]? := fun j hj => by rw [← e1]; exact Below.heap_setCell _ _ _ _ hj
  have s1 : V1.heap.size = V0.heap.size := by rw [← e1]; simp [World.setCell]
  have b1 : ∀ B, B ≤ R → Below B V0 V1 := fun B hB => by rw [← e1]; exact (Below.refl B V0).setCell (p := ⟨R, 1, none⟩) hB y1
  obtain ⟨V2, e2⟩ : ∃ V, V1.setCell ⟨R, 2, none⟩ y2 = V := ⟨_, rfl⟩
  have h2 : V2.heap[R]? = some (.cells #[y0, y1, y2, x3, x4, x5, x6, x7, x8] t) := by rw [← e2]; exact heap_setCell_same V1 R 2 _ t y2 h1
  have o2 : ∀ j, j ≠ R → V2.heap[j]? = V1.heap[j]? := fun j hj => by rw [← e2]; exact Below.heap_setCell _ _ _ _ hj
  have s2 : V2.heap.size = V1.heap.size := by rw [← e2]; simp [World.setCell]
  have b2 : ∀ B, B ≤ R → Below B V1 V2 := fun B hB => by rw [← e2]; exact (Below.refl B V1).setCell (p := ⟨R, 2, none⟩) hB y2
  obtain ⟨V3, e3⟩ : ∃ V, V2.setCell ⟨R, 3, none⟩ y3 = V := ⟨_, rfl⟩
  have h3 : V3.heap[R]? = some (.cells #[y0, y1, y2, y3, x4, x5, x6, x7, x8] t) := by rw [← e3]; exact heap_setCell_same V2 R 3 _ t y3 h2
  have o3 : ∀ j, j ≠ R → V3.heap[j]? = V2.heap[j]? := fun j hj => by rw [← e3]; exact Below.heap_setCell _ _ _ _ hj
  have s3 : V3.heap.size = V2.heap.size := by rw [← e3]; simp [World.setCell]
  have b3 : ∀ B, B ≤ R → Below B V2 V3 := fun B hB => by rw [← e3]; exact (Below.refl B V2).setCell (p := ⟨R, 3, none⟩) hB y3
  obtain ⟨V4, e4⟩ : ∃ V, V3.setCell ⟨R, 4, none⟩ y4 = V := ⟨_, rfl⟩
  have h4 : V4.heap[R]? = some (.cells #[y0, y1, y2, y3, y4, x5, x6, x7, x8] t) := by rw [← e4]; exact heap_setCell_same V3 R 4 _ t y4 h3
  have o4 : ∀ j, j ≠ R → V4.heap[j]? = V3.heap[j]? := fun j hj => by rw [← e4]; exact Below.heap_setCell _ _ _ _ hj
  have s4 : V4.heap.size = V3.heap.size := by rw [← e4]; simp [World.setCell]
  have b4 : ∀ B, B ≤ R → Below B V3 V4 := fun B hB => by rw [← e4]; exact (Below.refl B V3).setCell (p := ⟨R, 4, none⟩) hB y4
  obtain ⟨V5, e5⟩ : ∃ V, V4.setCell ⟨R, 5, none⟩ y5 = V := ⟨_, rfl⟩
  have h5 : V5.heap[R]? = some (.cells #[y0, y1, y2, y3, y4, y5, x6, x7, x8] t) := by rw [← e5]; exact heap_setCell_same V4 R 5 _ t y5 h4
  have o5 : ∀ j, j ≠ R → V5.heap[j]? = V4.heap[j]? := fun j hj => by rw [← e5]; exact Below.heap_setCell _ _ _ _ hj
  have s5 : V5.heap.size = V4.heap.size := by rw [← e5]; simp [World.setCell]
  have b5 : ∀ B, B ≤ R → Below B V4 V5 := fun B hB => by rw [← e5]; exact (Below.refl B V4).setCell (p := ⟨R, 5, none⟩) hB y5
  obtain ⟨V6, e6⟩ : ∃ V, V5.setCell ⟨R, 6, none⟩ y6 = V := ⟨_, rfl⟩
  have h6 : V6.heap[R]? = some (.cells #[y0, y1, y2, y3, y4, y5, y6, x7, x8] t) := by rw [← e6]; exact heap_setCell_same V5 R 6 _ t y6 h5
  have o6 : ∀ j, j ≠ R → V6.heap[j]? = V5.heap[j]? := fun j hj => by rw [← e6]; exact Below.heap_setCell _ _ _ _ hj
  have s6 : V6.heap.size = V5.heap.size := by rw [← e6]; simp [World.setCell]
  have b6 : ∀ B, B ≤ R → Below B V5 V6 := fun B hB => by rw [← e6]; exact (Below.refl B V5).setCell (p := ⟨R, 6, none⟩) hB y6
  obtain ⟨V7, e7⟩ : ∃ V, V6.setCell ⟨R, 7, none⟩ y7 = V := ⟨_, rfl⟩
  have h7 : V7.heap[R]? = some (.cells #[y0, y1, y2, y3, y4, y5, y6, y7, x8] t) := by rw [← e7]; exact heap_setCell_same V6 R 7 _ t y7 h6
  have o7 : ∀ j, j ≠ R → V7.heap[j]? = V6.heap[j]? := fun j hj => by rw [← e7]; exact Below.heap_setCell _ _ _ _ hj
  have s7 : V7.heap.size = V6.heap.size := by rw [← e7]; simp [World.setCell]
  have b7 : ∀ B, B ≤ R → Below B V6 V7 := fun B hB => by rw [← e7]; exact (Below.refl B V6).setCell (p := ⟨R, 7, none⟩) hB y7
  obtain ⟨V8, e8⟩ : ∃ V, V7.setCell ⟨R, 8, none⟩ y8 = V := ⟨_, rfl⟩
  have h8 : V8.heap[R]? = some (.cells #[y0, y1, y2, y3, y4, y5, y6, y7, y8] t) := by rw [← e8]; exact heap_setCell_same V7 R 8 _ t y8 h7
  have o8 : ∀ j, j ≠ R → V8.heap[j]? = V7.heap[j]? := fun j hj => by rw [← e8]; exact Below.heap_setCell _ _ _ _ hj
  have s8 : V8.heap.size = V7.heap.size := by rw [← e8]; simp [World.setCell]
  have b8 : ∀ B, B ≤ R → Below B V7 V8 := fun B hB => by rw [← e8]; exact (Below.refl B V7).setCell (p := ⟨R, 8, none⟩) hB y8
  rw [e0, e1, e2, e3, e4, e5, e6, e7, e8] at hV
  subst hV
  refine ⟨h8, fun j hj => ?_, ?_, fun B hB => ?_⟩
  · rw [o8 j hj, o7 j hj, o6 j hj, o5 j hj, o4 j hj, o3 j hj, o2 j hj, o1 j hj, o0 j hj]
  · rw [s8, s7, s6, s5, s4, s3, s2, s1, s0]
  · exact (((((((((b0 B hB).trans (b1 B hB)).trans (b2 B hB)).trans (b3 B hB)).trans (b4 B hB)).trans (b5 B hB)).trans (b6 B hB)).trans (b7 B hB)).trans (b8 B hB))
theorem cells_heap {V : World} {b : Nat} {l : List Value} {t : TypeId} (h : V.heap[b]? = some (.cells l.toArray t)) (j : Nat) : V.cell? ⟨b, j, none⟩ = l[j]? := by simp [World.cell?, h]
theorem row_heap {α : Type} {f : α → Value} {V : World} {b : Nat} {L : List α} {t : TypeId} (h : V.heap[b]? = some (.cells (L.map f).toArray t)) : row f V (some ⟨b, 0, none⟩) L := by
  intro j x hj
  refine ⟨_, rfl, ?_⟩
  rw [add_zero_at, cells_heap h, List.getElem?_map, hj]; rfl
/-- The world that small hands back. -/
def smw (F : Nat) : Wld := ⟨3, 1, some ⟨F + 1, 0, none⟩, 3, 3, [0, 0, 3], some ⟨F + 1 + 1, 0, none⟩, 1, 1, [⟨0, 0⟩], some ⟨F + 1 + 1 + 1, 0, none⟩, 1, 1, [20], some ⟨F + 1 + 1 + 1 + 1, 0, none⟩, 3, 3, [0, 0, 9], some ⟨F + 1 + 1 + 1 + 1 + 1, 0, none⟩, 1, 1, [⟨1, 0, 1, 1, 0, 10, 0⟩], 2, 0⟩
theorem smw_ok (F : Nat) : okw (smw F) 3 1 := by
  refine ⟨rfl, rfl, ⟨by omega, by omega, rfl, ?_⟩, ?_, ?_, ?_, ?_, ?_, ?_⟩
  · show List.any [0, 0, 3] bad = false; decide
  · show 1 ≤ 8; decide
  · show 1 ≤ 100; decide
  · show cok 2 0 = true; decide
  · refine ⟨rfl, ?_, fun i hi => ?_, by simp [smw]⟩
    · show List.any [20] am = false; decide
    · have : i = 0 := by simp [smw] at hi; omega
      subst this; show opn 3 1 [0, 0, 3] 0 0 = true; decide
  · refine ⟨rfl, ?_, fun i hi => ?_⟩
    · show List.any [0, 0, 9] am = false; decide
    · have : i = 0 ∨ i = 1 ∨ i = 2 := by simp [smw] at hi; omega
      rcases this with rfl | rfl | rfl <;> simp [smw]
  · refine ⟨fun i hi => ?_, by simp [smw], by simp [smw]⟩
    have : i = 0 := by simp [smw] at hi; omega
    subst this
    show 1 ≤ (1 : Int) ∧ (1 : Int) < 2 ∧ T1r 3 1 [0, 0, 3] 1 ⟨1, 0, 1, 1, 0, 10, 0⟩
    refine ⟨by decide, by decide, .inl rfl, by decide, by decide, ?_, by decide, ?_, by decide, ?_⟩
    · show opn 3 1 [0, 0, 3] 1 0 = true; decide
    · show (10 : Int) ≤ lifeOf 1; decide
    · show (0 : Int) ≤ loadOf 1; decide
theorem small_boxes (w : World) (F : Nat) (hF : w.heap.size = F) : ∃ w5, (((((w.alloc (.cells #[.int .i64 0, .int .i64 0, .slice none 0 0, .slice none 0 0, .slice none 0 0, .slice none 0 0, .slice none 0 0, .int .i64 0, .int .i64 0] 28)).alloc (.cells #[.int .i64 0, .int .i64 0, .int .i64 3] 3)).alloc (.cells #[.int .i64 0, .int .i64 0] 45)).alloc (.cells #[.int .i64 20] 3)).alloc (.cells #[.int .i64 0, .int .i64 0, .int .i64 9] 3)).alloc (.cells #[.int .i64 1, .int .i64 0, .int .i64 1, .int .i64 1, .int .i64 0, .int .i64 10, .int .i64 0] 47) = w5 ∧ Below w.heap.size w w5 ∧ w5.heap.size = F + 1 + 1 + 1 + 1 + 1 + 1 ∧ w5.heap[F]? = some (.cells #[.int .i64 0, .int .i64 0, .slice none 0 0, .slice none 0 0, .slice none 0 0, .slice none 0 0, .slice none 0 0, .int .i64 0, .int .i64 0] 28) ∧ w5.heap[F + 1]? = some (.cells #[.int .i64 0, .int .i64 0, .int .i64 3] 3) ∧ w5.heap[F + 1 + 1]? = some (.cells #[.int .i64 0, .int .i64 0] 45) ∧ w5.heap[F + 1 + 1 + 1]? = some (.cells #[.int .i64 20] 3) ∧ w5.heap[F + 1 + 1 + 1 + 1]? = some (.cells #[.int .i64 0, .int .i64 0, .int .i64 9] 3) ∧ w5.heap[F + 1 + 1 + 1 + 1 + 1]? = some (.cells #[.int .i64 1, .int .i64 0, .int .i64 1, .int .i64 1, .int .i64 0, .int .i64 10, .int .i64 0] 47) ∧ w5.cell? ⟨F, 0, none⟩ = some (.int .i64 0) ∧ w5.cell? ⟨F, 1, none⟩ = some (.int .i64 0) ∧ w5.cell? ⟨F, 2, none⟩ = some (.slice none 0 0) ∧ w5.cell? ⟨F, 3, none⟩ = some (.slice none 0 0) ∧ w5.cell? ⟨F, 4, none⟩ = some (.slice none 0 0) ∧ w5.cell? ⟨F, 5, none⟩ = some (.slice none 0 0) ∧ w5.cell? ⟨F, 6, none⟩ = some (.slice none 0 0) ∧ w5.cell? ⟨F, 7, none⟩ = some (.int .i64 0) ∧ w5.cell? ⟨F, 8, none⟩ = some (.int .i64 0) ∧ w5.frozen? ⟨F, 0, none⟩ = false ∧ w5.frozen? ⟨F, 1, none⟩ = false ∧ w5.frozen? ⟨F, 2, none⟩ = false ∧ w5.frozen? ⟨F, 3, none⟩ = false ∧ w5.frozen? ⟨F, 4, none⟩ = false ∧ w5.frozen? ⟨F, 5, none⟩ = false ∧ w5.frozen? ⟨F, 6, none⟩ = false ∧ w5.frozen? ⟨F, 7, none⟩ = false ∧ w5.frozen? ⟨F, 8, none⟩ = false := by
  obtain ⟨v0, e0⟩ : ∃ v, w.alloc (.cells #[.int .i64 0, .int .i64 0, .slice none 0 0, .slice none 0 0, .slice none 0 0, .slice none 0 0, .slice none 0 0, .int .i64 0, .int .i64 0] 28) = v := ⟨_, rfl⟩
  have b0 : Below w.heap.size w v0 := by rw [← e0]; exact alloc_below _ _
  have s0 : v0.heap.size = F + 1 := by rw [← e0, World.size_alloc]; rw [hF]
  have n0 : v0.heap[F]? = some (.cells #[.int .i64 0, .int .i64 0, .slice none 0 0, .slice none 0 0, .slice none 0 0, .slice none 0 0, .slice none 0 0, .int .i64 0, .int .i64 0] 28) := by have := World.alloc_heap_new w (.cells #[.int .i64 0, .int .i64 0, .slice none 0 0, .slice none 0 0, .slice none 0 0, .slice none 0 0, .slice none 0 0, .int .i64 0, .int .i64 0] 28); rw [e0, hF] at this; exact this
  obtain ⟨v1, e1⟩ : ∃ v, v0.alloc (.cells #[.int .i64 0, .int .i64 0, .int .i64 3] 3) = v := ⟨_, rfl⟩
  have b1 : Below v0.heap.size v0 v1 := by rw [← e1]; exact alloc_below _ _
  have s1 : v1.heap.size = F + 1 + 1 := by rw [← e1, World.size_alloc]; rw [s0]
  have n1 : v1.heap[F + 1]? = some (.cells #[.int .i64 0, .int .i64 0, .int .i64 3] 3) := by have := World.alloc_heap_new v0 (.cells #[.int .i64 0, .int .i64 0, .int .i64 3] 3); rw [e1, s0] at this; exact this
  obtain ⟨v2, e2⟩ : ∃ v, v1.alloc (.cells #[.int .i64 0, .int .i64 0] 45) = v := ⟨_, rfl⟩
  have b2 : Below v1.heap.size v1 v2 := by rw [← e2]; exact alloc_below _ _
  have s2 : v2.heap.size = F + 1 + 1 + 1 := by rw [← e2, World.size_alloc]; rw [s1]
  have n2 : v2.heap[F + 1 + 1]? = some (.cells #[.int .i64 0, .int .i64 0] 45) := by have := World.alloc_heap_new v1 (.cells #[.int .i64 0, .int .i64 0] 45); rw [e2, s1] at this; exact this
  obtain ⟨v3, e3⟩ : ∃ v, v2.alloc (.cells #[.int .i64 20] 3) = v := ⟨_, rfl⟩
  have b3 : Below v2.heap.size v2 v3 := by rw [← e3]; exact alloc_below _ _
  have s3 : v3.heap.size = F + 1 + 1 + 1 + 1 := by rw [← e3, World.size_alloc]; rw [s2]
  have n3 : v3.heap[F + 1 + 1 + 1]? = some (.cells #[.int .i64 20] 3) := by have := World.alloc_heap_new v2 (.cells #[.int .i64 20] 3); rw [e3, s2] at this; exact this
  obtain ⟨v4, e4⟩ : ∃ v, v3.alloc (.cells #[.int .i64 0, .int .i64 0, .int .i64 9] 3) = v := ⟨_, rfl⟩
  have b4 : Below v3.heap.size v3 v4 := by rw [← e4]; exact alloc_below _ _
  have s4 : v4.heap.size = F + 1 + 1 + 1 + 1 + 1 := by rw [← e4, World.size_alloc]; rw [s3]
  have n4 : v4.heap[F + 1 + 1 + 1 + 1]? = some (.cells #[.int .i64 0, .int .i64 0, .int .i64 9] 3) := by have := World.alloc_heap_new v3 (.cells #[.int .i64 0, .int .i64 0, .int .i64 9] 3); rw [e4, s3] at this; exact this
  obtain ⟨v5, e5⟩ : ∃ v, v4.alloc (.cells #[.int .i64 1, .int .i64 0, .int .i64 1, .int .i64 1, .int .i64 0, .int .i64 10, .int .i64 0] 47) = v := ⟨_, rfl⟩
  have b5 : Below v4.heap.size v4 v5 := by rw [← e5]; exact alloc_below _ _
  have s5 : v5.heap.size = F + 1 + 1 + 1 + 1 + 1 + 1 := by rw [← e5, World.size_alloc]; rw [s4]
  have n5 : v5.heap[F + 1 + 1 + 1 + 1 + 1]? = some (.cells #[.int .i64 1, .int .i64 0, .int .i64 1, .int .i64 1, .int .i64 0, .int .i64 10, .int .i64 0] 47) := by have := World.alloc_heap_new v4 (.cells #[.int .i64 1, .int .i64 0, .int .i64 1, .int .i64 1, .int .i64 0, .int .i64 10, .int .i64 0] 47); rw [e5, s4] at this; exact this
  have n0 := (b1.block (F) (by omega)).trans n0
  have n0 := (b2.block (F) (by omega)).trans n0
  have n0 := (b3.block (F) (by omega)).trans n0
  have n0 := (b4.block (F) (by omega)).trans n0
  have n0 := (b5.block (F) (by omega)).trans n0
  have n1 := (b2.block (F + 1) (by omega)).trans n1
  have n1 := (b3.block (F + 1) (by omega)).trans n1
  have n1 := (b4.block (F + 1) (by omega)).trans n1
  have n1 := (b5.block (F + 1) (by omega)).trans n1
  have n2 := (b3.block (F + 1 + 1) (by omega)).trans n2
  have n2 := (b4.block (F + 1 + 1) (by omega)).trans n2
  have n2 := (b5.block (F + 1 + 1) (by omega)).trans n2
  have n3 := (b4.block (F + 1 + 1 + 1) (by omega)).trans n3
  have n3 := (b5.block (F + 1 + 1 + 1) (by omega)).trans n3
  have n4 := (b5.block (F + 1 + 1 + 1 + 1) (by omega)).trans n4
  refine ⟨v5, by rw [e0, e1, e2, e3, e4, e5], ?_, s5, n0, n1, n2, n3, n4, n5, ?_⟩
  · exact ((((b0.trans (b1.mono (by omega))).trans (b2.mono (by omega))).trans (b3.mono (by omega))).trans (b4.mono (by omega))).trans (b5.mono (by omega))
  · simp [World.cell?, World.frozen?, n0]
set_option maxRecDepth 20000 in
set_option maxHeartbeats 2000000 in
theorem small_any (w : World) : Calls Try.prog 22 #[] w fun e w' => (∃ F, e = .returned (smw F).val ∧ (smw F).fit w' ∧ w.heap.size ≤ F ∧ w'.heap[F + 1 + 1]? = some (.cells #[.int .i64 0, .int .i64 0] 45) ∧ w'.heap[F + 1 + 1 + 1 + 1 + 1]? = some (.cells #[.int .i64 1, .int .i64 0, .int .i64 1, .int .i64 1, .int .i64 0, .int .i64 10, .int .i64 0] 47)) ∧ Below w.heap.size w w' := by
  obtain ⟨F, hF⟩ : ∃ F, w.heap.size = F := ⟨_, rfl⟩
  obtain ⟨w5, hw5, hB5, hs5, n0, n1, n2, n3, n4, n5, r0, r1, r2, r3, r4, r5, r6, r7, r8, f0, f1, f2, f3, f4, f5, f6, f7, f8⟩ := small_boxes w F hF
  have HB : Hid (Below w.heap.size w w5) := hB5
  have HNS : Hid (w5.heap[F]? = some (.cells #[.int .i64 0, .int .i64 0, .slice none 0 0, .slice none 0 0, .slice none 0 0, .slice none 0 0, .slice none 0 0, .int .i64 0, .int .i64 0] 28) ∧ w5.heap[F + 1]? = some (.cells #[.int .i64 0, .int .i64 0, .int .i64 3] 3) ∧ w5.heap[F + 1 + 1]? = some (.cells #[.int .i64 0, .int .i64 0] 45) ∧ w5.heap[F + 1 + 1 + 1]? = some (.cells #[.int .i64 20] 3) ∧ w5.heap[F + 1 + 1 + 1 + 1]? = some (.cells #[.int .i64 0, .int .i64 0, .int .i64 9] 3) ∧ w5.heap[F + 1 + 1 + 1 + 1 + 1]? = some (.cells #[.int .i64 1, .int .i64 0, .int .i64 1, .int .i64 1, .int .i64 0, .int .i64 10, .int .i64 0] 47)) := ⟨n0, n1, n2, n3, n4, n5⟩
  have HF : Hid (w.heap.size = F) := hF
  clear hB5 n0 n1 n2 n3 n4 n5 hs5
  go_enter Try.func22, Try.ntmps22
  go_wp2_with fail
  obtain ⟨V, hV⟩ : ∃ V, ((((((((w5.setCell ⟨F, 0, none⟩ (.int .i64 3)).setCell ⟨F, 1, none⟩ (.int .i64 1)).setCell ⟨F, 2, none⟩ (.slice (some ⟨F + 1, 0, none⟩) 3 3)).setCell ⟨F, 3, none⟩ (.slice (some ⟨F + 1 + 1, 0, none⟩) 1 1)).setCell ⟨F, 4, none⟩ (.slice (some ⟨F + 1 + 1 + 1, 0, none⟩) 1 1)).setCell ⟨F, 5, none⟩ (.slice (some ⟨F + 1 + 1 + 1 + 1, 0, none⟩) 3 3)).setCell ⟨F, 6, none⟩ (.slice (some ⟨F + 1 + 1 + 1 + 1 + 1, 0, none⟩) 1 1)).setCell ⟨F, 7, none⟩ (.int .i64 2)).setCell ⟨F, 8, none⟩ (.int .i64 0) = V := ⟨_, rfl⟩
  rw [hV]
  obtain ⟨n0, n1, n2, n3, n4, n5⟩ := HNS.out
  obtain ⟨k0, k1, k2, k3⟩ := set9h n0 V hV.symm
  refine ⟨by simp, (smw F).val, ?_, ⟨F, rfl, ?_, Nat.le_of_eq HF.out, (k1 (F + 1 + 1) (by omega)).trans n2, (k1 (F + 1 + 1 + 1 + 1 + 1) (by omega)).trans n5⟩, ?_⟩
  · unfold smw Wld.val
    simp [results, Try.results22, go_sem, World.cell?, k0]
  · have m1 := (k1 (F + 1) (by omega)).trans n1
    have m2 := (k1 (F + 1 + 1) (by omega)).trans n2
    have m3 := (k1 (F + 1 + 1 + 1) (by omega)).trans n3
    have m4 := (k1 (F + 1 + 1 + 1 + 1) (by omega)).trans n4
    have m5 := (k1 (F + 1 + 1 + 1 + 1 + 1) (by omega)).trans n5
    refine { fA := by unfold smw fits; simp, fB := by unfold smw fits; simp, r := row_heap (L := [0, 0, 3]) m1, x := ?_, h := rfl, m := by unfold smw; simp, z := fun h => (by cases h), k := by unfold smw; simp, rb := ?_, xb := ?_, hb := rfl, mb := by unfold smw; simp, zb := fun h => (by cases h), kb := by unfold smw; simp, rs := row_heap (L := [20]) m3, xs := ?_, hs := rfl, ms := by unfold smw; simp, rm := row_heap (L := [0, 0, 9]) m4, xm := ?_, hm := rfl, mm := by unfold smw; simp, rt := ?_, xt := ?_, ht := rfl, mt := by unfold smw; simp, zt := fun h => (by cases h), kt := by unfold smw; simp, fN := by unfold smw fits; simp, fT := by unfold smw fits; simp }
    · intro x hx; simp [smw] at hx; rcases hx with rfl | rfl <;> (unfold fits; omega)
    · intro j c hj
      have : j = 0 := by have := (List.getElem?_eq_some_iff.1 hj).1; simp [smw] at this; omega
      subst this
      simp [smw] at hj
      subst hj
      exact ⟨_, rfl, by rw [add_zero_at, cells_heap (l := [.int .i64 0, .int .i64 0]) m2]; rfl, by rw [add_zero_at, cells_heap (l := [.int .i64 0, .int .i64 0]) m2]; rfl⟩
    · intro c hc; simp [smw] at hc; subst hc; unfold fits; simp
    · intro x hx; simp [smw] at hx; subst hx; unfold fits; omega
    · intro x hx; simp [smw] at hx; rcases hx with rfl | rfl <;> (unfold fits; omega)
    · exact row_heap (f := id) (L := flat7 [⟨1, 0, 1, 1, 0, 10, 0⟩]) m5
    · intro t ht; simp [smw] at ht; subst ht; unfold fits; simp
  · exact HB.out.trans (k3 w.heap.size (by rw [HF.out]; exact Nat.le_refl _))
end Go.Proofs.Ytdcjjfipnilmpaa
