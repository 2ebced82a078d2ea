/- The package lives. -/
import Derived.Test.YtccapbojhgemmaaUse
namespace Go.Proofs.Ytccapbojhgemmaa
open Go.RowKit
set_option linter.unusedVariables false

set_option maxRecDepth 20000 in
set_option maxHeartbeats 1000000 in
theorem lives_any (w : World) : Calls Try.prog 9 #[] w fun e w' => e = .returned (.bool true) ∧ Below w.heap.size w w' := by
  go_enter Try.func9, Try.ntmps9
  go_wp2_with fail
  refine (Read_ts 2 2 [0, 1, 2, 3] _ w (by decide) (by decide) rfl (by decide) (by decide)).mono ?_
  rintro e w1 ⟨v, rfl, hm, hb1⟩
  obtain ⟨a, c, rfl, hr, hc⟩ := mine_some (n := 4) hm rfl (by decide)
  have HR : Hid (row vi w1 (some a) [0, 1, 2, 3]) := hr
  have HB1 : Hid (Below w.heap.size w w1) := hb1
  clear hm hb1 hr
  go_wp2_with fail
  have HA := fun w' h => At_in 2 2 a c [0, 1, 2, 3] 1 1 3 w' h (by decide) (by decide) rfl (by decide) (by decide) (by decide) (by unfold Hid; rfl)
  refine (HA _ (row_below HR.out (alloc_below _ _))).mono ?_
  rintro e w2 ⟨rfl, hb2⟩
  obtain ⟨b0, b1, b2⟩ := box3 hb2
  have HB2 : Hid (Below w.heap.size w w2) := HB1.out.trans ((below_step (alloc_below w1 _) (by simp) hb2).mono HB1.out.size)
  clear hb2 HA
  go_wp2_with fail
  go_ret
  exact ⟨rfl, HB2.out⟩
end Go.Proofs.Ytccapbojhgemmaa
