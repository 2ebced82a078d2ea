/- Two lists that hold the same numbers are equal: what 'slices.Equal' answers of them. -/
import Derived.Test.YtkkpfblgackidaaRows
import Derived.WalkKit
import Derived.WalkSpells
import Derived.WalkLawsBesides
import Derived.Deep.QuietTactic
import Derived.BigQuiet
namespace Go.Proofs.Ytkkpfblgackidaa
open Go.RowKit

set_option maxHeartbeats 400000 in
theorem equal_any (b1 b2 n : Nat) (z : Nat → Int) (w : World) (hn : n ≤ 1000)
    (h1 : ∀ k, k < n → w.cell? ⟨b1, k, none⟩ = some (.int .i64 (z k))) (h2 : ∀ k, k < n → w.cell? ⟨b2, k, none⟩ = some (.int .i64 (z k))) :
    Calls Try.prog 8 #[.slice (some ⟨b1, 0, none⟩) n n, .slice (some ⟨b2, 0, none⟩) n n] w fun e w' => e = .returned (.bool true) ∧ ∃ m, w' = w.drewN m := by
  go_enter Try.func8, Try.ntmps8
  go_wp2
  go_loopw [13] (fun x wr => ∃ k : Nat, k ≤ n ∧ x = .int .i64 k ∧ ∃ m, wr = w.drewN m) (fun x _ => n - (intOf x).toNat)
  case atStart => exact ⟨0, Nat.zero_le _, rfl, 0, rfl⟩
  case round =>
    obtain ⟨k, hk, rfl, m, rfl⟩ := hrel
    by_cases hlt : k < n
    · have c1 := h1 k hlt
      have c2 := h2 k hlt
      go_wp2
      go_quiet (fail)
      go_wp2
      go_roundw
      case rel => exact ⟨k + 1, by omega, by go_num, _, rfl⟩
      case measure => simp [intOf]; omega
    · go_wp2
      go_ret
      exact ⟨rfl, _, rfl⟩

end Go.Proofs.Ytkkpfblgackidaa
