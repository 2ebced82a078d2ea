/- What slices.Equal, SameField and slices.Clone return. -/
import Derived.Test.YtccapbojhgemmaaDoorCon
namespace Go.Proofs.YtccapbojhgemmaaDoor
open Go.RowKit
set_option linter.unusedVariables false

set_option maxRecDepth 20000 in
set_option maxHeartbeats 1000000 in
theorem Equal_yes (p q : Option Addr) (n c d : Nat) (l : List Int) (w : World) (hn : l.length = n) (hm : n ≤ 9223372036854775807) (h1 : row vi w p l) (h2 : row vi w q l) :
    Calls Tryd.prog 23 #[.slice p n c, .slice q n d] w fun e w' => e = .returned (.bool true) ∧ ∃ m, w' = w.drewN m := by
  have H1 : Hid (row vi w p l) := h1
  have H2 : Hid (row vi w q l) := h2
  have HN : Hid (l.length = n) := hn
  clear h1 h2 hn
  go_enter Tryd.func23, Tryd.ntmps23
  go_wp2_with fail
  go_loopw [13] (fun i wr => ∃ k : Nat, i = .int .i64 k ∧ k ≤ n ∧ ∃ m, wr = w.drewN m) (fun i _ => n - (intOf i).toNat)
  case atStart => exact ⟨0, rfl, by omega, 0, rfl⟩
  case round =>
    obtain ⟨k, rfl, hk, m, rfl⟩ := hrel
    by_cases hlt : k < n
    · obtain ⟨a, rfl, ha⟩ := row_at H1.out (j := k) (by rw [HN.out]; exact hlt)
      obtain ⟨b, rfl, hb⟩ := row_at H2.out (j := k) (by rw [HN.out]; exact hlt)
      obtain ⟨X, hX⟩ : ∃ X, l[k]'(by rw [HN.out]; exact hlt) = X := ⟨_, rfl⟩
      rw [hX] at ha hb
      clear hX
      have ha' : (w.drewN m).cell? (a.add k) = some (.int .i64 X) := ha
      have hb' : (w.drewN m).cell? (b.add k) = some (.int .i64 X) := hb
      have HQ : Hid (∀ n, ∃ q, (w.drewN m).drewN n = w.drewN q) := fun n => ⟨_, World.drewN_drewN _ _ _⟩
      clear ha hb
      generalize w.drewN m = w5 at ha' hb' HQ ⊢
      have l1 : (k : Int) < n := by omega
      have l2 : (0 : Int) ≤ k := by omega
      go_wp2_with fail
      go_quiet (fail)
      go_wp2_with fail
      go_roundw
      case rel => exact ⟨k + 1, by go_num, by omega, HQ.out _⟩
      case measure => simp [intOf]; omega
    · go_wp2_with fail
      go_ret
      exact ⟨rfl, m, rfl⟩
theorem Equal_b (p q : Option Addr) (n c d : Nat) (l : List Int) (w : World) (hn : l.length = n) (hm : n ≤ 9223372036854775807) (h1 : row vi w p l) (h2 : row vi w q l) :
    Calls Tryd.prog 23 #[.slice p n c, .slice q n d] w fun e w' => e = .returned (.bool true) ∧ Below w.heap.size w w' := by
  refine (Equal_yes p q n c d l w hn hm h1 h2).mono ?_
  rintro e w' ⟨rfl, m, rfl⟩
  exact ⟨rfl, below_drewN (Below.refl _ _) m⟩
theorem same_boxes {w w0 : World} {a b c d e f : Value} {t : TypeId} (hw0 : (w.alloc (.cells #[a, b, c] t)).alloc (.cells #[d, e, f] t) = w0) :
    w0.cell? ⟨w.heap.size, 0, none⟩ = some a ∧ w0.cell? ⟨w.heap.size, 1, none⟩ = some b ∧ w0.cell? ⟨w.heap.size, 2, none⟩ = some c ∧ w0.cell? ⟨w.heap.size + 1, 0, none⟩ = some d ∧ w0.cell? ⟨w.heap.size + 1, 1, none⟩ = some e ∧ w0.cell? ⟨w.heap.size + 1, 2, none⟩ = some f ∧ Below w.heap.size w w0 := by
  subst hw0
  refine ⟨?_, ?_, ?_, ?_, ?_, ?_, (alloc_below w _).alloc (by simp) _⟩
  all_goals simp [go_sem]
set_option maxRecDepth 20000 in
set_option maxHeartbeats 1000000 in
theorem Same_yes (A B : Int) (p q : Option Addr) (n c d : Nat) (l : List Int) (w : World) (hn : l.length = n) (hm : n ≤ 9223372036854775807) (h1 : row vi w p l) (h2 : row vi w q l) :
    Calls Tryd.prog 12 #[.agg #[.int .i64 A, .int .i64 B, .slice p n c], .agg #[.int .i64 A, .int .i64 B, .slice q n d]] w fun e w' => e = .returned (.bool true) ∧ Below w.heap.size w w' := by
  have H1 : Hid (row vi w p l) := h1
  have H2 : Hid (row vi w q l) := h2
  have HN : Hid (l.length = n) := hn
  clear h1 h2 hn
  go_enter Tryd.func12, Tryd.ntmps12
  go_wp2_with fail
  obtain ⟨w0, hw0⟩ : ∃ w0, (w.alloc (.cells #[.int .i64 A, .int .i64 B, .slice p n c] 24)).alloc (.cells #[.int .i64 A, .int .i64 B, .slice q n d] 24) = w0 := ⟨_, rfl⟩
  obtain ⟨_, _, _, _, _, _, hb⟩ := same_boxes hw0
  rw [hw0]
  refine (Equal_b p q n c d l w0 HN.out hm (row_below H1.out hb) (row_below H2.out hb)).mono ?_
  rintro e w1 ⟨rfl, hb1⟩
  have HB : Hid (Below w.heap.size w w1) := below_step hb (by have := hb.size; omega) hb1
  clear hb hb1 hw0
  go_wp2_with fail
  go_ret
  exact ⟨rfl, HB.out⟩
end Go.Proofs.YtccapbojhgemmaaDoor
