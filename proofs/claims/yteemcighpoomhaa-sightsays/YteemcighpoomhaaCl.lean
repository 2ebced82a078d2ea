/- What slices.Clone returns. -/
import Derived.Test.YteemcighpoomhaaUse
import Derived.Laws.AppendOwnNone
import Derived.Lib.SliceRun
namespace Go.Proofs.Yteemcighpoomhaa
open Go.RowKit
set_option linter.unusedVariables false

set_option maxRecDepth 20000 in
set_option maxHeartbeats 1000000 in
theorem Clone_some (a : Addr) (c : Nat) (l : List Int) (w : World) (h : row vi w (some a) l) (hl : l.length * 8 ≤ 140737488355328) :
    Calls Try.prog 16 #[.slice (some a) l.length c] w fun e w' => ∃ v, e = .returned v ∧ mine 3 vi w.heap.size w' v l ∧ Below w.heap.size w w' := by
  obtain ⟨i0, hi, hz0, hz1, hz2⟩ := info_parts ki.hi
  have HR : Hid (row vi w (some a) l) := h
  have HL : Hid (l.length * 8 ≤ 140737488355328) := hl
  clear h hl
  have q22 : ∀ (w : World) (a : Option Addr) (n c n' c' : Nat), (binOp .eql 22 (.slice a n c) (.slice none n' c')).run Try.prog w = .ok (.bool a.isNone) w := fun w a n c n' c' => Lib.run_eql_slice_nil w _ _ a n c n' c' Try.underlying22
  go_enter Try.func16, Try.ntmps16
  go_wp2_with (at_builtin; refine wpList_append_own _ rfl _ _ 22 rfl w.heap.size 3 i0 (.int .i64 0) 1 8 Try.underlying22 hi hz0 hz1 hz2 rfl (by decide) _ _ _ rfl (World.ownsRow_made w #[] 0 (Nat.le_refl _) (Nat.zero_le _) (by simp)) a l.length c (l.map vi) rfl ?qc1 ?qc2 ?qc3 ?qc4 ?qc5 ?qc6 ?_)
  case qc1 => simp
  case qc2 =>
    intro j u hj
    have hjl : j < l.length := by have := (List.getElem?_eq_some_iff.1 hj).1; simpa using this
    obtain ⟨b, hb, hc⟩ := row_at (row_below HR.out (alloc_below w (.cells #[] 3))) hjl
    cases hb
    rw [List.getElem?_map, List.getElem?_eq_getElem hjl] at hj
    cases hj
    exact hc
  case qc3 => intro u hu; obtain ⟨y, _, rfl⟩ := List.mem_map.1 hu; rfl
  case qc4 => have := HL.out; unfold maxLen; omega
  case qc5 => have := HL.out; omega
  case qc6 => simp
  intro v' w1 hown hgrow hnil
  have hb : Below w.heap.size w w1 := ((Below.refl _ w).alloc (Nat.le_refl _) _).grown hgrow (by simp) (by intro k hk; simp [Value.ownBlock] at hk; omega)
  have HO : Hid (mine 3 vi w.heap.size w1 v' l) := by unfold Hid mine; simpa using hown
  have HB : Hid (Below w.heap.size w w1) := hb
  clear hown hgrow hnil hb
  go_wp2_with fail
  go_ret
  exact ⟨v', rfl, HO.out, HB.out⟩
set_option maxRecDepth 20000 in
theorem Clone_nil (w : World) : Calls Try.prog 16 #[.slice none 0 0] w fun e w' => e = .returned (.slice none 0 0) ∧ w' = w := by
  have q22 : ∀ (w : World) (a : Option Addr) (n c n' c' : Nat), (binOp .eql 22 (.slice a n c) (.slice none n' c')).run Try.prog w = .ok (.bool a.isNone) w := fun w a n c n' c' => Lib.run_eql_slice_nil w _ _ a n c n' c' Try.underlying22
  go_enter Try.func16, Try.ntmps16
  go_wp2_with fail
  go_ret
  exact ⟨rfl, rfl⟩
theorem Clone_any (p : Option Addr) (n c : Nat) (l : List Int) (w : World) (h : row vi w p l) (hn : l.length = n) (hc : p = none → c = 0) (hl : n * 8 ≤ 140737488355328) :
    Calls Try.prog 16 #[.slice p n c] w fun e w' => ∃ v, e = .returned v ∧ mine 3 vi w.heap.size w' v l ∧ Below w.heap.size w w' := by
  subst hn
  cases p with
  | none =>
    have hl0 : l = [] := by
      rcases Nat.eq_zero_or_pos l.length with h0 | h0
      · exact List.eq_nil_of_length_eq_zero h0
      · obtain ⟨a, ha⟩ := row_some h h0
        cases ha
    subst hl0
    have : c = 0 := hc rfl
    subst this
    refine (Clone_nil w).mono ?_
    rintro e w' ⟨rfl, hw⟩; subst w'
    exact ⟨_, rfl, mine_nil _ _ _ _, Below.refl _ _⟩
  | some a => exact Clone_some a c l w h hl
end Go.Proofs.Yteemcighpoomhaa
