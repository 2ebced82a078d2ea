/- What kindOf and isGone return of a troop. -/
import Derived.Test.YtjbfnibhmojlfaaWst
import Derived.Test.YtjbfnibhmojlfaaHm
namespace Go.Proofs.Ytjbfnibhmojlfaa
open Go.RowKit
set_option linter.unusedVariables false

theorem kdv_at {k : Int} (h : k = 1 ∨ k = 2) : ∃ a d : Int, kdv k = .agg #[.int .i64 a, .int .i64 (rch k), .int .i64 (hrk k), .int .i64 d] := by
  rcases h with rfl | rfl
  · exact ⟨10, 5, rfl⟩
  · exact ⟨20, 12, rfl⟩
theorem kfield1 (V : World) (a b c d : Value) : (Instr.field 58 (.agg #[a, b, c, d]) 1).run Try.prog V = .ok b V := by
  simp [Instr.field, run_underlying Try.underlying58, asAgg, Go.part, go_sem]
theorem kfield2 (V : World) (a b c d : Value) : (Instr.field 58 (.agg #[a, b, c, d]) 2).run Try.prog V = .ok c V := by
  simp [Instr.field, run_underlying Try.underlying58, asAgg, Go.part, go_sem]
theorem isGone_any (t : Trp) (w : World) : Calls Try.prog 37 #[tv t] w fun e w' => e = .returned (.bool (decide (t.f ≤ 0))) ∧ Below w.heap.size w w' := by
  obtain ⟨ti, to_, tk, tx, ty, tf, td⟩ := t
  unfold tv
  dsimp only
  obtain ⟨w0, hw0⟩ : ∃ w0, w.alloc (.cells #[.int .i64 ti, .int .i64 to_, .int .i64 tk, .int .i64 tx, .int .i64 ty, .int .i64 tf, .int .i64 td] 42) = w0 := ⟨_, rfl⟩
  obtain ⟨G, hG⟩ : ∃ G, w.heap.size = G := ⟨_, rfl⟩
  obtain ⟨-, -, -, -, -, g5, -⟩ := boxt hG hw0 (Below.refl _ _)
  have hb : Below w.heap.size w w0 := by rw [← hw0]; exact alloc_below _ _
  have HB : Hid (Below w.heap.size w w0) := hb
  clear hb
  go_enter Try.func37, Try.ntmps37
  go_wp2_with fail
  go_ret
  exact ⟨rfl, by first | exact HB.out | (rw [← hG]; exact HB.out)⟩
set_option maxRecDepth 20000 in
set_option maxHeartbeats 1000000 in
theorem kindOf_any (t : Trp) (w : World) (hk : t.k = 1 ∨ t.k = 2) : Calls Try.prog 35 #[tv t] w fun e w' => (∃ a d : Int, e = .returned (.agg #[.int .i64 a, .int .i64 (rch t.k), .int .i64 (hrk t.k), .int .i64 d])) ∧ Below w.heap.size w w' := by
  obtain ⟨a, d, hkd⟩ := kdv_at hk
  obtain ⟨ti, to_, tk, tx, ty, tf, td⟩ := t
  unfold tv
  dsimp only at *
  obtain ⟨R, hR⟩ : ∃ R, rch tk = R := ⟨_, rfl⟩
  obtain ⟨M, hM⟩ : ∃ M, hrk tk = M := ⟨_, rfl⟩
  rw [hR, hM] at hkd ⊢
  have HK : Hid (∀ V, Calls Try.prog 24 #[.int .i64 tk] V fun e w' => e = .returned (.tuple #[.agg #[.int .i64 a, .int .i64 R, .int .i64 M, .int .i64 d], .int .i64 (kde tk)]) ∧ Below V.heap.size V w') := fun V => by have := Kind_any tk V; rw [hkd] at this; exact this
  obtain ⟨E, hE⟩ : ∃ E, kde tk = E := ⟨_, rfl⟩
  rw [hE] at HK
  clear hk hkd hR hM hE
  obtain ⟨w0, hw0⟩ : ∃ w0, w.alloc (.cells #[.int .i64 ti, .int .i64 to_, .int .i64 tk, .int .i64 tx, .int .i64 ty, .int .i64 tf, .int .i64 td] 42) = w0 := ⟨_, rfl⟩
  obtain ⟨G, hG⟩ : ∃ G, w.heap.size = G := ⟨_, rfl⟩
  have hb0 : Below w.heap.size w w0 := by rw [← hw0]; exact alloc_below _ _
  obtain ⟨w1, hw1, hb1, hR1, r0, r1, r2, r3, r4, r5, r6, r7⟩ := kind_box w0
  have hz : w0.heap.size = G + 1 := by rw [← hw0, ← hG]; simp
  rw [hz] at hR1 r0 r1 r2 r3 r4 r5 r6 r7
  have hb01 : Below w.heap.size w w1 := hb0.trans (hb1.mono hb0.size)
  obtain ⟨-, -, g2, -, -, -, -⟩ := boxt hG hw0 hb1
  have HB1 : Hid (Below w.heap.size w w1) := hb01
  have HR1 : Hid (w1.heap[G + 1]? = some (.cells #[.int .i64 0, .int .i64 0, .int .i64 0, .int .i64 0] 58)) := hR1
  have HG : Hid (w.heap.size = G) := hG
  have hsz : G + 1 < w1.heap.size := by rw [← hw1, World.size_alloc, hz]; omega
  clear hb0 hb1 hR1 hb01
  go_enter Try.func35, Try.ntmps35
  go_wp2_with fail
  refine (HK.out w1).mono ?_
  rintro e w2 ⟨rfl, hb2⟩
  have HR2 : Hid (w2.heap[G + 1]? = some (.cells #[.int .i64 0, .int .i64 0, .int .i64 0, .int .i64 0] 58)) := (hb2.block _ hsz).trans HR1.out
  have HB2 : Hid (Below w.heap.size w w2) := HB1.out.trans (hb2.mono HB1.out.size)
  have hs2 : G + 1 < w2.heap.size := Nat.lt_of_lt_of_le hsz hb2.size
  clear hb2 hw0 hw1 g2 r0 r1 r2 r3 r4 r5 r6 r7 hsz hz
  obtain ⟨w3, hw3⟩ : ∃ w3, w2.alloc (.cells #[.int .i64 a, .int .i64 R, .int .i64 M, .int .i64 d] 58) = w3 := ⟨_, rfl⟩
  have hb3 : Below w2.heap.size w2 w3 := by rw [← hw3]; exact alloc_below _ _
  have HR3 : Hid (w3.heap[G + 1]? = some (.cells #[.int .i64 0, .int .i64 0, .int .i64 0, .int .i64 0] 58)) := (hb3.block _ hs2).trans HR2.out
  have HB3 : Hid (Below w.heap.size w w3) := HB2.out.trans (hb3.mono HB2.out.size)
  obtain ⟨J, hJ⟩ : ∃ J, w2.heap.size = J := ⟨_, rfl⟩
  have hh : w3.heap[J]? = some (.cells #[.int .i64 a, .int .i64 R, .int .i64 M, .int .i64 d] 58) := by rw [← hw3, ← hJ]; exact World.alloc_heap_new w2 _
  have c4 : w3.cell? ⟨J, 0, none⟩ = some (.int .i64 a) ∧ w3.cell? ⟨J, 1, none⟩ = some (.int .i64 R) ∧ w3.cell? ⟨J, 2, none⟩ = some (.int .i64 M) ∧ w3.cell? ⟨J, 3, none⟩ = some (.int .i64 d) := by simp [World.cell?, hh]
  have f4 : (w3.cell? ⟨G + 1, 0, none⟩ = some (.int .i64 0) ∧ w3.cell? ⟨G + 1, 1, none⟩ = some (.int .i64 0) ∧ w3.cell? ⟨G + 1, 2, none⟩ = some (.int .i64 0) ∧ w3.cell? ⟨G + 1, 3, none⟩ = some (.int .i64 0)) ∧ w3.frozen? ⟨G + 1, 0, none⟩ = false ∧ w3.frozen? ⟨G + 1, 1, none⟩ = false ∧ w3.frozen? ⟨G + 1, 2, none⟩ = false ∧ w3.frozen? ⟨G + 1, 3, none⟩ = false := by
    have := HR3.out
    simp [World.cell?, World.frozen?, this]
  obtain ⟨c0, c1, c2, c3⟩ := c4
  obtain ⟨⟨d0, d1, d2, d3⟩, f0, f1, f2, f3⟩ := f4
  clear hh hb3 hs2
  go_wp2_with fail
  obtain ⟨V, hV⟩ : ∃ V, (((w3.setCell ⟨G + 1, 0, none⟩ (.int .i64 a)).setCell ⟨G + 1, 1, none⟩ (.int .i64 R)).setCell ⟨G + 1, 2, none⟩ (.int .i64 M)).setCell ⟨G + 1, 3, none⟩ (.int .i64 d) = V := ⟨_, rfl⟩
  rw [hV]
  have k2 := set4 HR3.out V hV.symm
  refine ⟨by simp, .agg #[.int .i64 a, .int .i64 R, .int .i64 M, .int .i64 d], ?_, ⟨a, d, rfl⟩, ?_⟩
  · simp [results, Try.results35, go_sem, k2.1, k2.2.1, k2.2.2.1, k2.2.2.2.1]
  · have h9 := HB3.out.trans (k2.2.2.2.2 w.heap.size (by rw [HG.out]; omega))
    first | exact h9 | (rw [← HG.out]; exact h9)
end Go.Proofs.Ytjbfnibhmojlfaa
