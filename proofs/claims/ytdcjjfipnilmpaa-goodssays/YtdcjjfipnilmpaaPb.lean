/- What goods' small functions return: placeOf, isBeside, isFree. -/
import Derived.Test.YtdcjjfipnilmpaaMD
import Derived.Deep.QuietTactic
import Derived.BigQuiet
namespace Go.Proofs.Ytdcjjfipnilmpaa
open Go.RowKit
set_option linter.unusedVariables false

set_option maxRecDepth 20000 in
set_option maxHeartbeats 1000000 in
theorem placeOf_at (J W H : Nat) (x y : Int) (b : Bool) (V : World) (h0 : V.cell? ⟨J, 0, none⟩ = some (.int .i64 (W : Int))) (h1 : V.cell? ⟨J, 1, none⟩ = some (.int .i64 (H : Int))) (hW : W ≤ 40) (hH : H ≤ 40) (hb : Hid (inb W H x y = b)) :
    Calls Try.prog 63 #[.pointer (some ⟨J, 0, none⟩), .agg #[.int .i64 x, .int .i64 y]] V fun e w' => e = .returned (.tuple #[.int .i64 (if b then (ixp W x y : Int) else 0), .bool b]) ∧ Below V.heap.size V w' := by
  obtain ⟨F, hF⟩ : ∃ F, V.heap.size = F := ⟨_, rfl⟩
  obtain ⟨w0, hw0⟩ : ∃ w0, V.alloc (.cells #[.int .i64 x, .int .i64 y] 45) = w0 := ⟨_, rfl⟩
  have hb0 : Below V.heap.size V w0 := by rw [← hw0]; exact alloc_below _ _
  have e0 : w0.cell? ⟨F, 0, none⟩ = some (.int .i64 x) := by rw [← hw0, ← hF]; simp [go_sem]
  have e1 : w0.cell? ⟨F, 1, none⟩ = some (.int .i64 y) := by rw [← hw0, ← hF]; simp [go_sem]
  have j0 := cell_call2 h0 hb0
  have j1 := cell_call2 h1 hb0
  have HB : Hid (∀ m, Below V.heap.size V (w0.drewN m)) := fun m => below_drewN hb0 m
  have HI : Hid (b = (decide (0 ≤ x) && decide (x < (W : Int)) && decide (0 ≤ y) && decide (y < (H : Int)))) := by
    have := hb.out; unfold inb at this; unfold Hid; rw [← this]
  clear h0 h1 hb0 hb
  by_cases x0 : x < 0
  · have d1 : decide (x < 0) = true := by simp [x0]
    have hbf : b = false := by rw [HI.out]; simp; omega
    subst hbf
    clear HI
    go_enter Try.func63, Try.ntmps63
    go_wp2_with fail
    go_quiet (fail)
    go_wp2_with fail
    go_ret2
    exact ⟨rfl, by first | exact HB.out _ | (rw [← hF]; exact HB.out _)⟩
  have d1 : decide (x < 0) = false := by simp; omega
  by_cases x1 : (W : Int) ≤ x
  · have d2 : decide ((W : Int) ≤ x) = true := by simp [x1]
    have hbf : b = false := by rw [HI.out]; simp; omega
    subst hbf
    clear HI
    go_enter Try.func63, Try.ntmps63
    go_wp2_with fail
    go_quiet (fail)
    go_wp2_with fail
    go_ret2
    exact ⟨rfl, by first | exact HB.out _ | (rw [← hF]; exact HB.out _)⟩
  have d2 : decide ((W : Int) ≤ x) = false := by simp; omega
  by_cases y0 : y < 0
  · have d3 : decide (y < 0) = true := by simp [y0]
    have hbf : b = false := by rw [HI.out]; simp; omega
    subst hbf
    clear HI
    go_enter Try.func63, Try.ntmps63
    go_wp2_with fail
    go_quiet (fail)
    go_wp2_with fail
    go_ret2
    exact ⟨rfl, by first | exact HB.out _ | (rw [← hF]; exact HB.out _)⟩
  have d3 : decide (y < 0) = false := by simp; omega
  by_cases y1 : (H : Int) ≤ y
  · have d4 : decide ((H : Int) ≤ y) = true := by simp [y1]
    have hbf : b = false := by rw [HI.out]; simp; omega
    subst hbf
    clear HI
    go_enter Try.func63, Try.ntmps63
    go_wp2_with fail
    go_quiet (fail)
    go_wp2_with fail
    go_ret2
    exact ⟨rfl, by first | exact HB.out _ | (rw [← hF]; exact HB.out _)⟩
  have d4 : decide ((H : Int) ≤ y) = false := by simp; omega
  have hbt : b = true := by rw [HI.out]; simp; omega
  subst hbt
  clear HI
  obtain ⟨X, rfl⟩ : ∃ X : Nat, x = X := ⟨x.toNat, by omega⟩
  obtain ⟨Y, rfl⟩ : ∃ Y : Nat, y = Y := ⟨y.toNat, by omega⟩
  have d2n : decide (W ≤ X) = false := by simp; omega
  have d4n : decide (H ≤ Y) = false := by simp; omega
  obtain ⟨T, hT⟩ : ∃ T : Nat, Y * W = T := ⟨_, rfl⟩
  have hTl : T ≤ 1600 := by rw [← hT]; have := Nat.mul_le_mul (show Y ≤ 40 by omega) hW; omega
  have eT : IntKind.i64.wrap ((Y : Int) * (W : Int)) = (T : Int) := by rw [← Int.natCast_mul, hT]; exact wrp (by omega) (by omega)
  have eJ : IntKind.i64.wrap ((T : Int) + X) = (T : Int) + X := wrp (by omega) (by omega)
  have HX : Hid (ixp W (X : Int) (Y : Int) = T + X) := by unfold Hid ixp; simp only [Int.toNat_natCast]; rw [hT]
  clear hT
  go_enter Try.func63, Try.ntmps63
  go_wp2_with fail
  go_quiet (fail)
  go_wp2_with fail
  go_quiet (fail)
  go_wp2_with fail
  go_ret2
  refine ⟨?_, by first | exact HB.out _ | (rw [← hF]; exact HB.out _) | (rw [World.drewN_drewN]; exact HB.out _)⟩
  rw [HX.out]; simp
end Go.Proofs.Ytdcjjfipnilmpaa
