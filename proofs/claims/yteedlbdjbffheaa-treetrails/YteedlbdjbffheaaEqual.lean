/- What slices.Equal of numbers returns. -/
import Derived.Test.YteedlbdjbffheaaUse
namespace Go.Proofs.Yteedlbdjbffheaa
open Go.RowKit
set_option linter.unusedVariables false

set_option maxRecDepth 20000 in
set_option maxHeartbeats 1000000 in
theorem Equal_yes (p q : Option Addr) (n c d : Nat) (l : List Nat) (w : World) (hn : l.length = n) (hm : n ≤ 9223372036854775807) (h1 : row w p l) (h2 : row w q l) :
    Calls Try.prog 13 #[.slice p n c, .slice q n d] w fun e w' => e = .returned (.bool true) ∧ ∃ m, w' = w.drewN m := by
  have H1 : Hid (row w p l) := h1
  have H2 : Hid (row w q l) := h2
  have HN : Hid (l.length = n) := hn
  clear h1 h2 hn
  go_enter Try.func13, Try.ntmps13
  go_wp2_with fail
  go_loopw [13] (fun i wr => ∃ k : Nat, i = .int .i64 k ∧ k ≤ n ∧ ∃ m, wr = w.drewN m) (fun i _ => n - (intOf i).toNat)
  case atStart => exact ⟨0, rfl, by omega, 0, rfl⟩
  case round =>
    obtain ⟨k, rfl, hk, m, rfl⟩ := hrel
    by_cases hlt : k < n
    · obtain ⟨a, rfl, ha⟩ := H1.out k (by rw [HN.out]; exact hlt)
      obtain ⟨b, rfl, hb⟩ := H2.out k (by rw [HN.out]; exact hlt)
      obtain ⟨X, hX⟩ : ∃ X, l.getD k 0 = X := ⟨_, rfl⟩
      rw [hX] at ha hb
      clear hX
      have ha' : (w.drewN m).cell? (a.add k) = some (.int .u64 X) := ha
      have hb' : (w.drewN m).cell? (b.add k) = some (.int .u64 X) := hb
      have HQ : Hid (∀ n, ∃ q, (w.drewN m).drewN n = w.drewN q) := fun n => ⟨_, World.drewN_drewN _ _ _⟩
      clear ha hb
      generalize w.drewN m = w5 at ha' hb' HQ ⊢
      have l1 : (k : Int) < n := by omega
      have l2 : (0 : Int) ≤ k := by omega
      go_wp2_with fail
      go_quiet (fail)
      go_wp2_with fail
      go_roundw
      case rel => exact ⟨k + 1, by go_num, by omega, HQ.out _⟩
      case measure => simp [intOf]; omega
    · go_wp2_with fail
      go_ret
      exact ⟨rfl, m, rfl⟩
theorem Equal_mine {B C : Nat} {w : World} {u v : Value} {l : List Nat} (h1 : mine B w u l) (h2 : mine C w v l) (hl : l.length ≤ 1000000) :
    Calls Try.prog 13 #[u, v] w fun e w' => e = .returned (.bool true) ∧ ∃ m, w' = w.drewN m := by
  obtain ⟨p, c, rfl, hr, _⟩ := mine_full h1
  obtain ⟨q, d, rfl, hq, _⟩ := mine_full h2
  exact Equal_yes p q l.length c d l w rfl (by omega) hr hq
end Go.Proofs.Yteedlbdjbffheaa
