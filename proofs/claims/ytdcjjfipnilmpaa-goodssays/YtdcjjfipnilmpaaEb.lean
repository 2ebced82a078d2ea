/- What slices.Equal return of numbers. -/
import Derived.Test.YtdcjjfipnilmpaaMb
namespace Go.Proofs.Ytdcjjfipnilmpaa
open Go.RowKit
set_option linter.unusedVariables false

set_option maxRecDepth 20000 in
set_option maxHeartbeats 1000000 in
theorem Equalv_yes (p q : Option Addr) (n c d : Nat) (l : List Bool) (w : World) (hn : l.length = n) (hm : n ≤ 9223372036854775807) (h1 : row vbl w p l) (h2 : row vbl w q l) :
    Calls Try.prog 15 #[.slice p n c, .slice q n d] w fun e w' => e = .returned (.bool true) ∧ ∃ m, w' = w.drewN m := by
  have H1 : Hid (row vbl w p l) := h1
  have H2 : Hid (row vbl w q l) := h2
  have HN : Hid (l.length = n) := hn
  clear h1 h2 hn
  go_enter Try.func15, Try.ntmps15
  go_wp2_with fail
  go_loopw [13] (fun i wr => ∃ k : Nat, i = .int .i64 k ∧ k ≤ n ∧ ∃ m, wr = w.drewN m) (fun i _ => n - (intOf i).toNat)
  case atStart => exact ⟨0, rfl, by omega, 0, rfl⟩
  case round =>
    obtain ⟨k, rfl, hk, m, rfl⟩ := hrel
    by_cases hlt : k < n
    · obtain ⟨a, rfl, ha⟩ := row_at H1.out (j := k) (by rw [HN.out]; exact hlt)
      obtain ⟨b, rfl, hb⟩ := row_at H2.out (j := k) (by rw [HN.out]; exact hlt)
      obtain ⟨X, hX⟩ : ∃ X, l[k]'(by rw [HN.out]; exact hlt) = X := ⟨_, rfl⟩
      rw [hX] at ha hb
      clear hX
      have ha' : (w.drewN m).cell? (a.add k) = some (.bool X) := ha
      have hb' : (w.drewN m).cell? (b.add k) = some (.bool X) := hb
      have HQ : Hid (∀ n, ∃ q, (w.drewN m).drewN n = w.drewN q) := fun n => ⟨_, World.drewN_drewN _ _ _⟩
      clear ha hb
      generalize w.drewN m = w5 at ha' hb' HQ ⊢
      have l1 : (k : Int) < n := by omega
      have l2 : (0 : Int) ≤ k := by omega
      go_wp2_with fail
      go_quiet (fail)
      go_wp2_with fail
      go_roundw
      case rel => exact ⟨k + 1, by go_num, by omega, HQ.out _⟩
      case measure => simp [intOf]; omega
    · go_wp2_with fail
      go_ret
      exact ⟨rfl, m, rfl⟩
theorem Equalv_b (p q : Option Addr) (n c d : Nat) (l : List Bool) (w : World) (hn : l.length = n) (hm : n ≤ 9223372036854775807) (h1 : row vbl w p l) (h2 : row vbl w q l) :
    Calls Try.prog 15 #[.slice p n c, .slice q n d] w fun e w' => e = .returned (.bool true) ∧ Below w.heap.size w w' := by
  refine (Equalv_yes p q n c d l w hn hm h1 h2).mono ?_
  rintro e w' ⟨rfl, m, rfl⟩
  exact ⟨rfl, below_drewN (Below.refl _ _) m⟩
end Go.Proofs.Ytdcjjfipnilmpaa
