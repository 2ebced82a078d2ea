/- What Fold and Folded return. -/
import Derived.Test.YtibpobmeonfljaaQa
namespace Go.Proofs.Ytibpobmeonfljaa
open Go.RowKit
set_option linter.unusedVariables false

set_option maxRecDepth 20000 in
theorem Fold_any (n : Int) (w : World) (h : fits n) : Calls Try.prog 69 #[.int .i64 n] w fun e w' => e = .returned (.int .u64 (fd n)) ∧ w' = w := by
  unfold fits at h
  obtain ⟨h1, h2⟩ := h
  by_cases h0 : 0 ≤ n
  · have HF : Hid ((fd n : Int) = 2 * n) := by unfold Hid fd; rw [if_pos h0]; omega
    go_enter Try.func69, Try.ntmps69
    go_wp2_with fail
    go_ret
    exact ⟨ret_int (by rw [HF.out]), rfl⟩
  · have HF : Hid ((fd n : Int) = 2 * (-(n + 1)) + 1) := by unfold Hid fd; rw [if_neg h0]; omega
    go_enter Try.func69, Try.ntmps69
    go_wp2_with fail
    go_ret
    exact ⟨ret_int (by rw [HF.out]), rfl⟩
set_option maxRecDepth 20000 in
theorem Folded_any (n : Int) (w : World) (h : fits n) : Calls Try.prog 67 #[.int .i64 n] w fun e w' => e = .returned (.int .u64 (fd n)) ∧ w' = w := by
  unfold fits at h
  obtain ⟨h1, h2⟩ := h
  by_cases h0 : 0 ≤ n
  · have HF : Hid ((fd n : Int) = 2 * n) := by unfold Hid fd; rw [if_pos h0]; omega
    go_enter Try.func67, Try.ntmps67
    go_wp2_with fail
    go_ret
    exact ⟨ret_int (by rw [HF.out]), rfl⟩
  · have HF : Hid ((fd n : Int) = 2 * (-(n + 1)) + 1) := by unfold Hid fd; rw [if_neg h0]; omega
    go_enter Try.func67, Try.ntmps67
    go_wp2_with fail
    go_ret
    exact ⟨ret_int (by rw [HF.out]), rfl⟩
/-- The bytes of a text. -/
def bs (s : ByteArray) : List UInt8 := s.data.toList
theorem bs_len (s : ByteArray) : (bs s).length = s.size := by unfold bs; simp
end Go.Proofs.Ytibpobmeonfljaa
