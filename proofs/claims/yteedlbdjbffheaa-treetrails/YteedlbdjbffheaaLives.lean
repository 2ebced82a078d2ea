/- The statements' own first look: three texts. -/
import Derived.Test.YteedlbdjbffheaaTrail
namespace Go.Proofs.Yteedlbdjbffheaa
open Go.RowKit
set_option linter.unusedVariables false

def ta : ByteArray := ⟨#[97]⟩
def tb : ByteArray := ⟨#[98]⟩
def tc : ByteArray := ⟨#[99]⟩
def abc : List ByteArray := [ta, tb, tc]
theorem sp_three : sp 3 = 2 := sp_of (k := 1) rfl (by omega) (by omega)
theorem rts_abc : rts abc = pr (pr (lf ta) (lf tb)) (lf tc) := by
  rw [rts_step abc (by decide), show abc.length = 3 from rfl, sp_three, show abc.take 2 = [ta, tb] from rfl, show abc.drop 2 = [tc] from rfl, rts_step [ta, tb] (by decide)]
  rw [show [ta, tb].length = 2 from rfl, sp_two, show [ta, tb].take 1 = [ta] from rfl, show [ta, tb].drop 1 = [tb] from rfl, rts_one [ta] rfl, rts_one [tb] rfl, rts_one [tc] rfl]
  rfl
theorem abc_ne : pr (pr (lf ta) (lf tb)) (lf tc) ≠ lf ta := by decide +kernel
theorem tsm_abc : tsm abc := by
  intro s hs
  unfold abc at hs
  simp only [List.mem_cons, List.not_mem_nil, or_false] at hs
  rcases hs with rfl | rfl | rfl <;> decide
theorem txt_abc (w : World) (t : TypeId) : txt (w.alloc (.cells #[.string ⟨#[97]⟩, .string ⟨#[98]⟩, .string ⟨#[99]⟩] t)) (some ⟨w.heap.size, 0, none⟩) abc := by
  intro j hj
  refine ⟨_, rfl, ?_⟩
  rw [add_zero_at]
  have := new_at w [.string ⟨#[97]⟩, .string ⟨#[98]⟩, .string ⟨#[99]⟩] t j
  refine this.trans ?_
  have : j = 0 ∨ j = 1 ∨ j = 2 := by have : abc.length = 3 := rfl; omega
  rcases this with rfl | rfl | rfl <;> rfl

set_option maxRecDepth 20000 in
set_option maxHeartbeats 1000000 in
theorem lives_any (w : World) : Calls Try.prog 22 #[] w fun e w' => e = .returned (.bool true) ∧ Below w.heap.size w w' := by
  have HR : Hid (∀ (W : World) (p : Option Addr), txt W p abc → Calls Try.prog 8 #[.slice p (3 : Nat) (3 : Nat)] W fun e w' => e = .returned (.tuple #[.int .u64 (rts abc), .int .i64 0]) ∧ ∃ q, w' = W.drewN q) :=
    fun W p h => Root_ok abc p 3 3 W rfl (by omega) (by omega) h tsm_abc
  have HE : Hid (rts abc = pr (pr (lf ta) (lf tb)) (lf tc)) := rts_abc
  have HN : Hid (rts abc ≠ lf ta) := by unfold Hid; rw [rts_abc]; exact abc_ne
  have LA : Hid (∀ W : World, Calls Try.prog 14 #[.string ⟨#[97]⟩] W fun e w' => e = .returned (.int .u64 (lf ta)) ∧ w' = W) := fun W => Leaf_any ta W (by decide)
  have LB : Hid (∀ W : World, Calls Try.prog 14 #[.string ⟨#[98]⟩] W fun e w' => e = .returned (.int .u64 (lf tb)) ∧ w' = W) := fun W => Leaf_any tb W (by decide)
  have LC : Hid (∀ W : World, Calls Try.prog 14 #[.string ⟨#[99]⟩] W fun e w' => e = .returned (.int .u64 (lf tc)) ∧ w' = W) := fun W => Leaf_any tc W (by decide)
  have HA : Hid (lf ta < 18446744073709551616 ∧ lf tb < 18446744073709551616 ∧ lf tc < 18446744073709551616) := ⟨lf_lt _, lf_lt _, lf_lt _⟩
  obtain ⟨R, hR⟩ : ∃ R, rts abc = R := ⟨_, rfl⟩
  obtain ⟨A, hA⟩ : ∃ A, lf ta = A := ⟨_, rfl⟩
  obtain ⟨B, hB⟩ : ∃ B, lf tb = B := ⟨_, rfl⟩
  obtain ⟨C, hC⟩ : ∃ C, lf tc = C := ⟨_, rfl⟩
  rw [hR] at HR HE HN
  rw [hA] at HE HN LA HA
  rw [hB] at HE LB HA
  rw [hC] at HE LC HA
  clear hR hA hB hC
  go_enter Try.func22, Try.ntmps22
  go_wp2_with fail
  refine (HR.out _ _ (txt_abc w _)).mono ?_
  rintro e w' ⟨rfl, q, hw⟩; subst w'
  go_wp2_with fail
  refine (LA.out _).mono ?_
  rintro e w' ⟨rfl, hw⟩; subst w'
  go_wp2_with fail
  refine (LB.out _).mono ?_
  rintro e w' ⟨rfl, hw⟩; subst w'
  go_wp2_with fail
  refine (Pair_any A B _ HA.out.1 HA.out.2.1).mono ?_
  rintro e w' ⟨rfl, hw⟩; subst w'
  go_wp2_with fail
  refine (LC.out _).mono ?_
  rintro e w' ⟨rfl, hw⟩; subst w'
  go_wp2_with fail
  refine (Pair_any (pr A B) C _ (pr_lt _ _) HA.out.2.2).mono ?_
  rintro e w' ⟨rfl, hw⟩; subst w'
  have hne : ¬ (R : Int) = A := by have := HN.out; omega
  rw [← HE.out]
  go_wp2_with fail
  refine (LA.out _).mono ?_
  rintro e w' ⟨rfl, hw⟩; subst w'
  go_wp2_with fail
  go_ret
  exact ⟨by simp [hne], below_drewN ((Below.refl _ _).alloc (Nat.le_refl _) _) _⟩
end Go.Proofs.Yteedlbdjbffheaa
