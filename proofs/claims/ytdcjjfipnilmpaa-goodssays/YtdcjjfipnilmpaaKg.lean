/- What the document's own king and KindOf return. -/
import Derived.Test.YtdcjjfipnilmpaaMG
import Derived.Test.YtdcjjfipnilmpaaWr
namespace Go.Proofs.Ytdcjjfipnilmpaa
open Go.RowKit
set_option linter.unusedVariables false

set_option maxRecDepth 20000 in
set_option maxHeartbeats 1000000 in
theorem king_at (ax ay bx by_ : Int) (b : Bool) (V : World) (h1 : near ax ay = true) (hb : Hid (decide (kg ax ay bx by_ ≤ 1) = b)) :
    Calls Try.prog 52 #[.agg #[.int .i64 ax, .int .i64 ay], .agg #[.int .i64 bx, .int .i64 by_]] V fun e w' => e = .returned (.bool b) ∧ Below V.heap.size V w' := by
  have hn := near_yes h1
  obtain ⟨b1, hb1⟩ : ∃ b1, (decide (ax - 1 ≤ bx) && decide (bx ≤ ax + 1)) = b1 := ⟨_, rfl⟩
  obtain ⟨b2, hb2⟩ : ∃ b2, (decide (ay - 1 ≤ by_) && decide (by_ ≤ ay + 1)) = b2 := ⟨_, rfl⟩
  have HQ : Hid (b = (b1 && b2)) := by
    unfold Hid
    rw [← hb.out, ← hb1, ← hb2]
    unfold kg mxi ds
    simp only [← Bool.decide_and, decide_eq_decide]
    omega
  have H1 : Hid ((decide (ax - 1 ≤ bx) && decide (bx ≤ ax + 1)) = b1) := hb1
  have H2 : Hid ((decide (ay - 1 ≤ by_) && decide (by_ ≤ ay + 1)) = b2) := hb2
  clear hb hb1 hb2 h1
  obtain ⟨n1, n2, n3, n4⟩ := hn
  obtain ⟨w0, hw0⟩ : ∃ w0, (V.alloc (.cells #[.int .i64 ax, .int .i64 ay] 45)).alloc (.cells #[.int .i64 bx, .int .i64 by_] 45) = w0 := ⟨_, rfl⟩
  have hb0 : Below V.heap.size V w0 := by rw [← hw0]; exact (alloc_below V _).alloc (by simp) _
  have HB0 : Hid (Below V.heap.size V w0) := hb0
  obtain ⟨F, hF⟩ : ∃ F, V.heap.size = F := ⟨_, rfl⟩
  have e0 : w0.cell? ⟨F, 0, none⟩ = some (.int .i64 ax) := by rw [← hw0, ← hF]; simp [go_sem]
  have e1 : w0.cell? ⟨F, 1, none⟩ = some (.int .i64 ay) := by rw [← hw0, ← hF]; simp [go_sem]
  have e2 : w0.cell? ⟨F + 1, 0, none⟩ = some (.int .i64 bx) := by rw [← hw0, ← hF]; simp [go_sem]
  have e3 : w0.cell? ⟨F + 1, 1, none⟩ = some (.int .i64 by_) := by rw [← hw0, ← hF]; simp [go_sem]
  clear hb0
  cases b1 with
  | false =>
    go_enter Try.func52, Try.ntmps52
    go_wp2_with fail
    refine (Between_at bx (ax - 1) (ax + 1) false _ H1).mono ?_
    rintro e w' ⟨rfl, hw⟩; subst w'
    go_wp2_with fail
    go_ret
    exact ⟨by rw [HQ.out]; rfl, by first | exact HB0.out | (rw [← hF]; exact HB0.out)⟩
  | true =>
    go_enter Try.func52, Try.ntmps52
    go_wp2_with fail
    refine (Between_at bx (ax - 1) (ax + 1) true _ H1).mono ?_
    rintro e w' ⟨rfl, hw⟩; subst w'
    go_wp2_with fail
    refine (Between_at by_ (ay - 1) (ay + 1) b2 _ H2).mono ?_
    rintro e w' ⟨rfl, hw⟩; subst w'
    go_wp2_with fail
    go_ret
    exact ⟨by rw [HQ.out]; rfl, by first | exact HB0.out | (rw [← hF]; exact HB0.out)⟩
theorem kfield0 (V : World) (a b c d : Value) : (Instr.field 71 (.agg #[a, b, c, d]) 0).run Try.prog V = .ok a V := by
  simp [Instr.field, run_underlying Try.underlying71, asAgg, Go.part, go_sem]
theorem kfield3 (V : World) (a b c d : Value) : (Instr.field 71 (.agg #[a, b, c, d]) 3).run Try.prog V = .ok d V := by
  simp [Instr.field, run_underlying Try.underlying71, asAgg, Go.part, go_sem]
/-- What KindOf tells of a kind: its price and its life. -/
theorem kindOf_12 (a : Int) (ha : a = 1 ∨ a = 2) (w : World) : Calls Try.prog 37 #[.int .i64 a] w fun e w' => e = .returned (.agg #[.int .i64 (lifeOf a), .int .i64 (if a = 2 then 2 else 1), .int .i64 (if a = 2 then 4 else 1), .int .i64 (priceOf a)]) ∧ Below w.heap.size w w' := by
  rcases ha with rfl | rfl
  · exact KindOf_1 w
  · exact KindOf_2 w
end Go.Proofs.Ytdcjjfipnilmpaa
