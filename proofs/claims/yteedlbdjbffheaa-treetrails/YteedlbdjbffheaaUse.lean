/- What the laws use of all this: copies, what a list of one's own is, what stays in a region. -/
import Derived.Test.YteedlbdjbffheaaLives
import Derived.Test.YteedlbdjbffheaaOpen
namespace Go.Proofs.Yteedlbdjbffheaa
open Go.RowKit
set_option linter.unusedVariables false

theorem mine_full {B : Nat} {w : World} {v : Value} {L : List Nat} (h : mine B w v L) : ∃ p c, v = .slice p L.length c ∧ row w p L ∧ L.length ≤ c ∧ (p = none → c = 0) := by
  rcases h.2 with ⟨h0, hn⟩ | ⟨g, cap, cur, hv, hB, hblk, hr⟩
  · have : L = [] := List.eq_nil_of_length_eq_zero hn
    subst this
    exact ⟨none, 0, h0, row_nil _ _, Nat.le_refl _, fun _ => rfl⟩
  · subst hv
    exact ⟨_, _, rfl, owns_row (n := L.length) h, hr.1, fun h => by cases h⟩
theorem Clone_row (p : Option Addr) (c : Nat) (l : List Nat) (w : World) (h : row w p l) (hs : small l) (hc : p = none → c = 0) (hl : l.length * 8 ≤ 140737488355328) :
    Calls Try.prog 23 #[.slice p l.length c] w fun e w' => ∃ v, e = .returned v ∧ mine w.heap.size w' v l ∧ Below w.heap.size w w' :=
  Clone_any ⟨p, c, l⟩ w ⟨h, hs, by show l.length ≤ _; omega⟩ hc hl

theorem kp_of {w2 w'' : World} {ad : Addr} {v : Value} (h0 : w2.cell? ad = some v) (hb : Below w2.heap.size w2 w'') : Below w2.heap.size w2 w'' ∧ w''.cell? ad = some v := ⟨hb, by rw [hb.cell (cell_lt h0)]; exact h0⟩
theorem kp_drew {w2 w' : World} {ad : Addr} {v : Value} (h : Below w2.heap.size w2 w' ∧ w'.cell? ad = some v) : Below w2.heap.size w2 w'.drew ∧ w'.drew.cell? ad = some v := ⟨h.1.drew, h.2⟩
theorem kp_drewN {w2 w' : World} {ad : Addr} {v : Value} (h : Below w2.heap.size w2 w' ∧ w'.cell? ad = some v) (n : Nat) : Below w2.heap.size w2 (w'.drewN n) ∧ (w'.drewN n).cell? ad = some v := ⟨below_drewN h.1 n, h.2⟩
theorem kp_call {w2 w' w'' : World} {ad : Addr} {v : Value} (h : Below w2.heap.size w2 w' ∧ w'.cell? ad = some v) (hb : Below w'.heap.size w' w'') : Below w2.heap.size w2 w'' ∧ w''.cell? ad = some v :=
  ⟨h.1.trans (hb.mono h.1.size), by rw [hb.cell (cell_lt h.2)]; exact h.2⟩
theorem kp_alloc {w2 w' : World} {ad : Addr} {v : Value} (h : Below w2.heap.size w2 w' ∧ w'.cell? ad = some v) (o : Obj) : Below w2.heap.size w2 (w'.alloc o) ∧ (w'.alloc o).cell? ad = some v := kp_call h (alloc_below _ _)
theorem small_rts (l : List ByteArray) : small [rts l] := by
  intro x hx
  obtain rfl : x = rts l := by simpa using hx
  exact rts_lt _
theorem small_tr (l : List ByteArray) (i : Nat) (hi : i < l.length) (hl : l.length ≤ 256) : small (tr pr (lvs l) i) := by
  have key : ∀ (n : Nat) (l : List ByteArray) (i : Nat), l.length = n → small (tr pr (lvs l) i) := by
    intro n
    induction n using Nat.strongRecOn with
    | _ n ih =>
      intro l i hl
      rcases Nat.lt_or_ge n 2 with h | h
      · rw [tr_short pr (by rw [lvs_length]; omega)]; intro x hx; cases hx
      · have hp := sp_pos l.length
        have hlt := sp_lt (n := l.length) (by omega)
        by_cases hi : i < sp l.length
        · rw [trs_left l i (by omega) hi]
          exact small_append (ih (sp l.length) (by omega) _ _ (by rw [List.length_take]; omega)) (small_rts _)
        · rw [trs_right l i (by omega) hi]
          exact small_append (ih (l.length - sp l.length) (by omega) _ _ (by rw [List.length_drop])) (small_rts _)
  exact key _ l i rfl
theorem hld_tr (l : List ByteArray) (i : Nat) (hi : i < l.length) : hld (rts l) (lf (l.getD i ⟨#[]⟩)) i l.length (tr pr (lvs l) i) = true := by
  unfold hld
  have := cl_tr pr _ (lvs l) i rfl (by rw [lvs_length]; exact hi)
  rw [lvs_at l i hi, lvs_length] at this
  rw [this]; simp [rts]
theorem hld_more (l : List ByteArray) (i r x o : Nat) (hi : i < l.length) : hld r x i l.length (tr pr (lvs l) i ++ [o]) = false := by
  unfold hld
  have := cl_more pr (l := lvs l) (i := i) (by rw [lvs_length]; exact hi) x o
  rw [lvs_length] at this
  rw [this]; simp
theorem trs_pow (l : List ByteArray) (i j : Nat) (hi : i < l.length) (h : l.length ≤ 2 ^ j) : (tr pr (lvs l) i).length ≤ j := by
  rw [tr_length pr (by rw [lvs_length]; exact hi), lvs_length]
  exact sd_le j _ _ h hi
theorem step_two {w1 : World} {B : Nat} {v : Value} {L : List Nat} (hv : mine B w1 v L) (o : Obj) : mine B (w1.alloc o) v L := mine_below hv (alloc_below _ _)
theorem new_zero (w : World) (t : TypeId) (v : Value) : (w.alloc (.cells #[v] t)).cell? ⟨w.heap.size, 0, none⟩ = some v := new_one w 0 t v
theorem mine_slice {B : Nat} {w : World} {p : Option Addr} {n c : Nat} {L : List Nat} (h : mine B w (.slice p n c) L) : L.length = n ∧ n ≤ c ∧ row w p L := by
  obtain ⟨p', c', e, hr, hc, _⟩ := mine_full h
  cases e
  exact ⟨rfl, hc, hr⟩
theorem cell_far {W w4 : World} {ad : Addr} {v : Value} (hb : Below W.heap.size W w4) (hc : W.cell? ad = some v) : w4.cell? ad = some v := by
  rw [hb.cell (cell_lt hc)]; exact hc
theorem small_one {x : Nat} (h : x < 18446744073709551616) : small [x] := by
  intro y hy
  obtain rfl : y = x := by simpa using hy
  exact h
end Go.Proofs.Yteedlbdjbffheaa
