/- What Of returns, and what lies under it. -/
import Derived.Test.YtibpobmeonfljaaKc
namespace Go.Proofs.Ytibpobmeonfljaa
open Go.RowKit
set_option linter.unusedVariables false

/-- The numbers l lie at p, one a cell. -/
def rowu (w : World) (p : Option Addr) (l : List Nat) : Prop := ∀ j, j < l.length → ∃ a, p = some a ∧ w.cell? (a.add j) = some (.int .u64 ((l.getD j 0 : Nat) : Int))
def small (l : List Nat) : Prop := ∀ x ∈ l, x < 18446744073709551616
theorem small_at {l : List Nat} (h : small l) (j : Nat) : l.getD j 0 < 18446744073709551616 := by
  rw [List.getD_eq_getElem?_getD]
  by_cases hj : j < l.length
  · rw [List.getElem?_eq_getElem hj]; exact h _ (List.getElem_mem hj)
  · rw [List.getElem?_eq_none (by omega)]; decide
theorem rowu_nil (w : World) (p : Option Addr) : rowu w p [] := fun j h => absurd h (Nat.not_lt_zero _)
theorem rowu_cell {w : World} {a : Addr} {l : List Nat} (h : rowu w (some a) l) (j : Nat) (hj : j < l.length) : w.cell? (a.add j) = some (.int .u64 ((l.getD j 0 : Nat) : Int)) := by
  obtain ⟨b, hb, hc⟩ := h j hj
  cases hb; exact hc
theorem rowu_some {w : World} {p : Option Addr} {l : List Nat} (h : rowu w p l) (hl : 0 < l.length) : ∃ a, p = some a := by
  obtain ⟨b, hb, _⟩ := h 0 hl
  exact ⟨b, hb⟩
theorem rowu_below {w w' : World} {p : Option Addr} {l : List Nat} (h : rowu w p l) (hb : Below w.heap.size w w') : rowu w' p l := by
  intro j hj
  obtain ⟨a, ha, hc⟩ := h j hj
  refine ⟨a, ha, ?_⟩
  rw [hb.cell (cell_lt hc)]; exact hc
theorem rowu_lt {w : World} {p : Option Addr} {l : List Nat} (h : rowu w p l) (a : Addr) (ha : p = some a) (hl : 0 < l.length) : a.block < w.heap.size := by
  subst ha
  have := cell_lt (rowu_cell h 0 hl)
  rwa [add_block] at this
/-- A list that is handed in: where it lies, its room, its numbers. -/
structure Lst where
  p : Option Addr
  c : Nat
  l : List Nat
def Lst.val (s : Lst) : Value := .slice s.p s.l.length s.c
def Lst.ok (w : World) (s : Lst) : Prop := rowu w s.p s.l ∧ small s.l ∧ s.l.length ≤ 9223372036854775807
def flt (vs : List Lst) : List Nat := (vs.map (·.l)).flatten
theorem flt_take (vs : List Lst) (k : Nat) (h : k < vs.length) : flt (vs.take (k + 1)) = flt (vs.take k) ++ vs[k].l := by
  unfold flt
  rw [List.take_succ_eq_append_getElem h, List.map_append, List.flatten_append]; simp
theorem tn_take (m : Nat) (l : List Nat) (k : Nat) (h : k < l.length) : tn m (l.take (k + 1)) = tn m (l.take k) ^^^ mx (l.getD k 0) := by
  rw [List.take_succ_eq_append_getElem h, tn_append, List.getD_eq_getElem?_getD, List.getElem?_eq_getElem h]; rfl
theorem Lst.ok_below {w w' : World} {s : Lst} (h : s.ok w) (hb : Below w.heap.size w w') : s.ok w' := ⟨rowu_below h.1 hb, h.2⟩

set_option maxRecDepth 20000 in
set_option maxHeartbeats 1000000 in
theorem turned_any (m b c : Nat) (vs : List Lst) (w : World) (hm : m < 18446744073709551616) (hn : vs.length ≤ 9223372036854775807)
    (hv : ∀ j (h : j < vs.length), w.cell? ⟨b, j, none⟩ = some vs[j].val ∧ vs[j].ok w) :
    Calls Try.prog 54 #[.int .u64 m, .slice (some ⟨b, 0, none⟩) vs.length c] w fun e w' => e = .returned (.int .u64 (tn m (flt vs))) ∧ w' = w := by
  have HM : Hid (m < 18446744073709551616) := hm
  have HV : Hid (∀ j (h : j < vs.length), w.cell? ⟨b, j, none⟩ = some vs[j].val ∧ vs[j].ok w) := hv
  clear hm hv
  go_enter Try.func54, Try.ntmps54
  go_wp2
  go_loop [0, 11] (fun a i => ∃ k : Nat, k ≤ vs.length ∧ a = .int .u64 (tn m (flt (vs.take k))) ∧ i = .int .i64 k) (fun _ i => vs.length - (intOf i).toNat)
  case atStart => exact ⟨0, by omega, rfl, rfl⟩
  case round =>
    obtain ⟨k, hk, rfl, rfl⟩ := hrel
    by_cases hlt : k < vs.length
    · obtain ⟨hc, hr, hs, hl⟩ := HV.out k hlt
      have HF : Hid (flt (vs.take (k + 1)) = flt (vs.take k) ++ vs[k].l) := flt_take vs k hlt
      have HT : Hid (tn m (flt (vs.take k)) < 18446744073709551616) := tn_lt HM.out _
      unfold Lst.val at hc
      obtain ⟨p, hp⟩ : ∃ p, vs[k].p = p := ⟨_, rfl⟩
      obtain ⟨cc, hcc⟩ : ∃ p, vs[k].c = p := ⟨_, rfl⟩
      obtain ⟨l, hl'⟩ : ∃ p, vs[k].l = p := ⟨_, rfl⟩
      rw [hp, hl', hcc] at hc
      rw [hp, hl'] at hr
      rw [hl'] at hs hl HF
      clear hp hcc hl'
      obtain ⟨T, hT⟩ : ∃ T, tn m (flt (vs.take k)) = T := ⟨_, rfl⟩
      have HE : Hid (tn m (flt (vs.take (k + 1))) = tn T l) := by unfold Hid; rw [HF.out, tn_append, hT]
      rw [hT] at HT ⊢
      clear hT HF
      go_wp2_with fail
      go_loop [0, 17] (fun a i => ∃ j : Nat, j ≤ l.length ∧ a = .int .u64 (tn T (l.take j)) ∧ i = .int .i64 j) (fun _ i => l.length - (intOf i).toNat)
      case atStart => exact ⟨0, by omega, rfl, rfl⟩
      case round =>
        obtain ⟨j, hj, rfl, rfl⟩ := hrel
        by_cases hjl : j < l.length
        · obtain ⟨a, rfl, hca⟩ := hr j hjl
          have HS : Hid (tn T (l.take (j + 1)) = tn T (l.take j) ^^^ mx (l.getD j 0)) := tn_take T l j hjl
          have HX : Hid (l.getD j 0 < 18446744073709551616) := small_at hs j
          have HT2 : Hid (tn T (l.take j) < 18446744073709551616) := tn_lt HT.out _
          obtain ⟨X, hX⟩ : ∃ X, l.getD j 0 = X := ⟨_, rfl⟩
          rw [hX] at hca HS HX
          clear hX
          go_wp2_with fail
          refine (Turn_any _ _ _ HT2.out HX.out).mono ?_
          rintro e w' ⟨rfl, hw⟩; subst w'
          go_wp2_with fail
          go_round
          case rel => exact ⟨j + 1, by omega, by rw [HS.out], by go_num⟩
          case measure => simp [intOf]; omega
        · go_wp2_with fail
          go_round
          case rel => exact ⟨k + 1, by omega, val_int (by rw [HE.out, List.take_of_length_le (by omega)]), by go_num⟩
          case measure => simp [intOf]; omega
    · go_wp2_with fail
      go_ret
      exact ⟨ret_int (by rw [List.take_of_length_le (by omega)]), rfl⟩

theorem new_at (w : World) (l : List Value) (t : TypeId) (j : Nat) : (w.alloc (.cells l.toArray t)).cell? ⟨w.heap.size, j, none⟩ = l[j]? := by
  rw [World.cell?_alloc_mark]; simp

set_option maxRecDepth 20000 in
set_option maxHeartbeats 1000000 in
theorem Of_any (s : Lst) (w : World) (h : s.ok w) :
    Calls Try.prog 32 #[s.val] w fun e w' => e = .returned (.int .u64 (tn 0 s.l)) ∧ Below w.heap.size w w' := by
  have HK : Hid (s.ok w) := h
  clear h
  obtain ⟨p, c, l⟩ := s
  show Calls Try.prog 32 #[.slice p l.length c] w fun e w' => e = .returned (.int .u64 (tn 0 l)) ∧ Below w.heap.size w w'
  go_enter Try.func32, Try.ntmps32
  go_wp2_with fail
  refine (turned_any 0 w.heap.size 1 [⟨p, c, l⟩] _ (by decide) (by simp) ?_).mono ?_
  · intro j hj
    obtain rfl : j = 0 := by simpa using hj
    exact ⟨new_at w [.slice p l.length c] _ 0, Lst.ok_below HK.out (alloc_below _ _)⟩
  rintro e w' ⟨rfl, hw⟩; subst w'
  go_wp2_with fail
  go_ret
  exact ⟨ret_int (by simp [flt]), alloc_below _ _⟩

/-- A number of 64 bits as a value. -/
def vu (n : Nat) : Value := .int .u64 (n : Int)
theorem rowu_of {w : World} {p : Option Addr} {l : List Nat} (h : row vu w p l) : rowu w p l := by
  intro j hj
  obtain ⟨a, ha, hc⟩ := row_at h hj
  refine ⟨a, ha, hc.trans ?_⟩
  rw [List.getD_eq_getElem?_getD, List.getElem?_eq_getElem hj]; rfl
theorem ku : Kd 66 36 vu (.int .u64 0) 8 := ⟨Try.underlying66, by kernel_rfl, rfl, fun _ => rfl, by decide⟩
end Go.Proofs.Ytibpobmeonfljaa
