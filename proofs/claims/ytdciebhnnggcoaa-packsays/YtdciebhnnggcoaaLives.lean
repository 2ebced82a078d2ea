/- The statements' own first look: a number of two bytes. -/
import Derived.Test.YtdciebhnnggcoaaGet
namespace Go.Proofs.Ytdciebhnnggcoaa
open Go.RowKit
set_option linter.unusedVariables false

theorem pk_300 : pk 300 = [172, 2] := by
  rw [pk_great (by decide), pk_small (by decide)]; rfl
def t3 : ByteArray := ⟨#[172, 2, 120]⟩
theorem gl_t3 : gl (bs t3) = (300, [120], 0) := by
  have := gl_pk (n := 300) (by decide) [120]
  rw [pk_300] at this; exact this
theorem ps_300 : ps 300 = ⟨#[172, 2]⟩ := by unfold ps; rw [pk_300]
theorem fd_one : fd (-1) = 1 := by decide

set_option maxRecDepth 20000 in
set_option maxHeartbeats 400000 in
theorem lives_any (w : World) : Calls Try.prog 20 #[] w fun e w' => e = .returned (.bool true) ∧ Below w.heap.size w w' := by
  have HG : Hid (Calls Try.prog 7 #[.string ⟨#[172, 2, 120]⟩] w fun e w' => e = .returned (.tuple #[.int .u64 300, .string ⟨#[120]⟩, .int .i64 0]) ∧ Below w.heap.size w w') := by
    have := Get_any t3 w (by decide)
    unfold gn gr ge at this
    rw [gl_t3] at this; exact this
  have HP : Hid (∀ w : World, Calls Try.prog 13 #[.int .u64 300] w fun e w' => e = .returned (.string ⟨#[172, 2]⟩) ∧ Below w.heap.size w w') := by
    intro w
    have := Put_any 300 w (by decide)
    rw [ps_300] at this; exact this
  have HF : Hid (∀ w : World, Calls Try.prog 15 #[.int .i64 (-1)] w fun e w' => e = .returned (.int .u64 1) ∧ w' = w) := by
    intro w
    have := Fold_any (-1) w (by unfold fits; decide)
    rw [fd_one] at this; exact this
  go_enter Try.func20, Try.ntmps20
  go_wp2_with fail
  refine HG.out.mono ?_
  rintro e w1 ⟨rfl, hb1⟩
  go_wp2_with fail
  refine (HP.out _).mono ?_
  rintro e w2 ⟨rfl, hb2⟩
  go_wp2_with fail
  refine (HF.out _).mono ?_
  rintro e w' ⟨rfl, hw⟩; subst w'
  go_wp2_with fail
  go_ret
  exact ⟨rfl, below_step hb1 hb1.size hb2⟩
end Go.Proofs.Ytdciebhnnggcoaa
