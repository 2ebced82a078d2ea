/- What a place costs to enter; where a cell lies; which cells are beside it. -/
import Derived.Test.YtkdammmikmljmaaHp
import Derived.Test.YtkdammmikmljmaaMd
import Derived.Test.YtkdammmikmljmaaAt
namespace Go.Proofs.Ytkdammmikmljmaa
open Go.RowKit
set_option linter.unusedVariables false

/-- What Cost returns. -/
def co (p : Int) : Int := if p = 0 ∨ p = 3 then 2 else if p = 2 then 3 else 0
def ce (p : Int) : Int := if p = 0 ∨ p = 2 ∨ p = 3 then 0 else if p = 1 then 9 else 1
set_option maxRecDepth 20000 in
theorem Cost_any (p : Int) (w : World) : Calls Try.prog 14 #[.int .i64 p] w fun e w' => e = .returned (.tuple #[.int .i64 (co p), .int .i64 (ce p)]) ∧ w' = w := by
  by_cases h0 : p = 0
  · subst h0
    go_enter Try.func14, Try.ntmps14
    go_wp2_with fail
    go_ret2
    exact ⟨rfl, rfl⟩
  by_cases h3 : p = 3
  · subst h3
    go_enter Try.func14, Try.ntmps14
    go_wp2_with fail
    go_ret2
    exact ⟨rfl, rfl⟩
  by_cases h2 : p = 2
  · subst h2
    go_enter Try.func14, Try.ntmps14
    go_wp2_with fail
    go_ret2
    exact ⟨rfl, rfl⟩
  by_cases h1 : p = 1
  · subst h1
    go_enter Try.func14, Try.ntmps14
    go_wp2_with fail
    go_ret2
    exact ⟨rfl, rfl⟩
  have d0 : (p == 0) = false := by simp [h0]
  have d1 : (p == 1) = false := by simp [h1]
  have d2 : (p == 2) = false := by simp [h2]
  have d3 : (p == 3) = false := by simp [h3]
  have e1 : co p = 0 := by unfold co; rw [if_neg (by omega), if_neg h2]
  have e2 : ce p = 1 := by unfold ce; rw [if_neg (by omega), if_neg h1]
  rw [e1, e2]
  go_enter Try.func14, Try.ntmps14
  go_wp2_with fail
  go_ret2
  exact ⟨rfl, rfl⟩
theorem Cost_at (p k e : Int) (w : World) (hk : Hid (co p = k)) (he : Hid (ce p = e)) : Calls Try.prog 14 #[.int .i64 p] w fun x w' => x = .returned (.tuple #[.int .i64 k, .int .i64 e]) ∧ w' = w := by rw [← hk.out, ← he.out]; exact Cost_any p w

set_option maxRecDepth 20000 in
theorem index_any (T : Nat) (W X Y i : Nat) (b c d v : Value) (w : World) (ht : tbx T w (.int .i64 (W : Int)) b c d v) (hi : Hid (Y * W + X = i)) (hb : i ≤ 1000000) :
    Calls Try.prog 45 #[.pointer (some ⟨T, 0, none⟩), .agg #[.int .i64 (X : Int), .int .i64 (Y : Int)]] w fun e w' => e = .returned (.int .i64 (i : Int)) ∧ Below w.heap.size w w' := by
  have hTl := tbx_lt ht
  have c0 := (tbx_cells ht).1
  obtain ⟨V, hV⟩ : ∃ V, w.alloc (.cells #[.int .i64 (X : Int), .int .i64 (Y : Int)] 26) = V := ⟨_, rfl⟩
  have hB : Below w.heap.size w V := by rw [← hV]; exact alloc_below _ _
  have c1 : V.cell? ⟨T, 0, none⟩ = some (.int .i64 (W : Int)) := (hB.cell (p := ⟨T, 0, none⟩) hTl).trans c0
  have c2 : V.cell? ⟨w.heap.size, 0, none⟩ = some (.int .i64 (X : Int)) := by rw [← hV]; simp [go_sem]
  have c3 : V.cell? ⟨w.heap.size, 1, none⟩ = some (.int .i64 (Y : Int)) := by rw [← hV]; simp [go_sem]
  obtain ⟨P, hP⟩ : ∃ P : Nat, Y * W = P := ⟨_, rfl⟩
  have hPi : P + X = i := by rw [← hP]; exact hi.out
  have eP : IntKind.i64.wrap ((Y : Int) * (W : Int)) = (P : Int) := by rw [← Int.natCast_mul, hP]; exact wrp (by omega) (by omega)
  have eJ : (P : Int) + X = i := by omega
  have eJ2 : IntKind.i64.wrap (i : Int) = i := wrp (by omega) (by omega)
  have HB : Hid (Below w.heap.size w V) := hB
  clear ht hi hB c0 hPi hP
  go_enter Try.func45, Try.ntmps45
  go_wp2_with fail
  clear hV
  go_quiet (fail)
  go_wp2_with fail
  go_ret
  exact ⟨rfl, below_drewN HB.out _⟩
/-- Whether a cell is in a field. -/
def inb (W H X Y : Int) : Bool := decide (0 ≤ X) && decide (X < W) && decide (0 ≤ Y) && decide (Y < H)
set_option maxRecDepth 20000 in
set_option maxHeartbeats 1000000 in
theorem isIn_any (W H X Y : Int) (v : Value) (w : World) :
    Calls Try.prog 48 #[.agg #[.int .i64 W, .int .i64 H, v], .agg #[.int .i64 X, .int .i64 Y]] w fun e w' => e = .returned (.bool (inb W H X Y)) ∧ Below w.heap.size w w' := by
  have hb : Below w.heap.size w ((w.alloc (.cells #[.int .i64 W, .int .i64 H, v] 24)).alloc (.cells #[.int .i64 X, .int .i64 Y] 26)) := (alloc_below w _).alloc (by simp) _
  have HB : Hid _ := hb
  clear hb
  go_enter Try.func48, Try.ntmps48
  by_cases x0 : 0 ≤ X
  · by_cases x1 : X < W
    · by_cases y0 : 0 ≤ Y
      · by_cases y1 : Y < H
        all_goals
          go_wp2_with fail
          go_ret
          exact ⟨by unfold inb; congr 2; simp <;> omega, HB.out⟩
      · go_wp2_with fail
        go_ret
        exact ⟨by unfold inb; congr 2; simp <;> omega, HB.out⟩
    · go_wp2_with fail
      go_ret
      exact ⟨by unfold inb; congr 2; simp <;> omega, HB.out⟩
  · go_wp2_with fail
    go_ret
    exact ⟨by unfold inb; congr 2; simp <;> omega, HB.out⟩
theorem isIn_at (W H X Y : Int) (v : Value) (r : Bool) (w : World) (hr : Hid (inb W H X Y = r)) :
    Calls Try.prog 48 #[.agg #[.int .i64 W, .int .i64 H, v], .agg #[.int .i64 X, .int .i64 Y]] w fun e w' => e = .returned (.bool r) ∧ Below w.heap.size w w' := by rw [← hr.out]; exact isIn_any W H X Y v w
end Go.Proofs.Ytkdammmikmljmaa
