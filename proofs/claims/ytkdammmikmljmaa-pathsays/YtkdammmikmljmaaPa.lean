/- A reach, and what is asked of it: where a cell lies, what it costs, whether it is in the field, which cells are beside it. -/
import Derived.Test.YtkdammmikmljmaaFd
import Derived.Laws.ResultCell
namespace Go.Proofs.Ytkdammmikmljmaa
open Go.RowKit
set_option linter.unusedVariables false

theorem k7_drew {w V : World} {x0 x1 x2 x3 x4 x5 x6 : Addr} {v0 v1 v2 v3 v4 v5 v6 : Value} (h : Below w.heap.size w V ∧ V.cell? x0 = some v0 ∧ V.cell? x1 = some v1 ∧ V.cell? x2 = some v2 ∧ V.cell? x3 = some v3 ∧ V.cell? x4 = some v4 ∧ V.cell? x5 = some v5 ∧ V.cell? x6 = some v6) : Below w.heap.size w V.drew ∧ V.drew.cell? x0 = some v0 ∧ V.drew.cell? x1 = some v1 ∧ V.drew.cell? x2 = some v2 ∧ V.drew.cell? x3 = some v3 ∧ V.drew.cell? x4 = some v4 ∧ V.drew.cell? x5 = some v5 ∧ V.drew.cell? x6 = some v6 := ⟨h.1.drew, h.2.1, h.2.2.1, h.2.2.2.1, h.2.2.2.2.1, h.2.2.2.2.2.1, h.2.2.2.2.2.2.1, h.2.2.2.2.2.2.2⟩
theorem k7_drewN {w V : World} {x0 x1 x2 x3 x4 x5 x6 : Addr} {v0 v1 v2 v3 v4 v5 v6 : Value} (h : Below w.heap.size w V ∧ V.cell? x0 = some v0 ∧ V.cell? x1 = some v1 ∧ V.cell? x2 = some v2 ∧ V.cell? x3 = some v3 ∧ V.cell? x4 = some v4 ∧ V.cell? x5 = some v5 ∧ V.cell? x6 = some v6) (n : Nat) : Below w.heap.size w (V.drewN n) ∧ (V.drewN n).cell? x0 = some v0 ∧ (V.drewN n).cell? x1 = some v1 ∧ (V.drewN n).cell? x2 = some v2 ∧ (V.drewN n).cell? x3 = some v3 ∧ (V.drewN n).cell? x4 = some v4 ∧ (V.drewN n).cell? x5 = some v5 ∧ (V.drewN n).cell? x6 = some v6 := ⟨below_drewN h.1 n, h.2.1, h.2.2.1, h.2.2.2.1, h.2.2.2.2.1, h.2.2.2.2.2.1, h.2.2.2.2.2.2.1, h.2.2.2.2.2.2.2⟩
theorem k7_call {w V V' : World} {x0 x1 x2 x3 x4 x5 x6 : Addr} {v0 v1 v2 v3 v4 v5 v6 : Value} (h : Below w.heap.size w V ∧ V.cell? x0 = some v0 ∧ V.cell? x1 = some v1 ∧ V.cell? x2 = some v2 ∧ V.cell? x3 = some v3 ∧ V.cell? x4 = some v4 ∧ V.cell? x5 = some v5 ∧ V.cell? x6 = some v6) (hb : Below V.heap.size V V') : Below w.heap.size w V' ∧ V'.cell? x0 = some v0 ∧ V'.cell? x1 = some v1 ∧ V'.cell? x2 = some v2 ∧ V'.cell? x3 = some v3 ∧ V'.cell? x4 = some v4 ∧ V'.cell? x5 = some v5 ∧ V'.cell? x6 = some v6 :=
  ⟨h.1.trans (hb.mono h.1.size), by rw [hb.cell (cell_lt h.2.1)]; exact h.2.1, by rw [hb.cell (cell_lt h.2.2.1)]; exact h.2.2.1, by rw [hb.cell (cell_lt h.2.2.2.1)]; exact h.2.2.2.1, by rw [hb.cell (cell_lt h.2.2.2.2.1)]; exact h.2.2.2.2.1, by rw [hb.cell (cell_lt h.2.2.2.2.2.1)]; exact h.2.2.2.2.2.1, by rw [hb.cell (cell_lt h.2.2.2.2.2.2.1)]; exact h.2.2.2.2.2.2.1, by rw [hb.cell (cell_lt h.2.2.2.2.2.2.2)]; exact h.2.2.2.2.2.2.2⟩
theorem k8_drew {w V : World} {x0 x1 x2 x3 x4 x5 x6 x7 : Addr} {v0 v1 v2 v3 v4 v5 v6 v7 : Value} (h : Below w.heap.size w V ∧ V.cell? x0 = some v0 ∧ V.cell? x1 = some v1 ∧ V.cell? x2 = some v2 ∧ V.cell? x3 = some v3 ∧ V.cell? x4 = some v4 ∧ V.cell? x5 = some v5 ∧ V.cell? x6 = some v6 ∧ V.cell? x7 = some v7) : Below w.heap.size w V.drew ∧ V.drew.cell? x0 = some v0 ∧ V.drew.cell? x1 = some v1 ∧ V.drew.cell? x2 = some v2 ∧ V.drew.cell? x3 = some v3 ∧ V.drew.cell? x4 = some v4 ∧ V.drew.cell? x5 = some v5 ∧ V.drew.cell? x6 = some v6 ∧ V.drew.cell? x7 = some v7 := ⟨h.1.drew, h.2.1, h.2.2.1, h.2.2.2.1, h.2.2.2.2.1, h.2.2.2.2.2.1, h.2.2.2.2.2.2.1, h.2.2.2.2.2.2.2.1, h.2.2.2.2.2.2.2.2⟩
theorem k8_drewN {w V : World} {x0 x1 x2 x3 x4 x5 x6 x7 : Addr} {v0 v1 v2 v3 v4 v5 v6 v7 : Value} (h : Below w.heap.size w V ∧ V.cell? x0 = some v0 ∧ V.cell? x1 = some v1 ∧ V.cell? x2 = some v2 ∧ V.cell? x3 = some v3 ∧ V.cell? x4 = some v4 ∧ V.cell? x5 = some v5 ∧ V.cell? x6 = some v6 ∧ V.cell? x7 = some v7) (n : Nat) : Below w.heap.size w (V.drewN n) ∧ (V.drewN n).cell? x0 = some v0 ∧ (V.drewN n).cell? x1 = some v1 ∧ (V.drewN n).cell? x2 = some v2 ∧ (V.drewN n).cell? x3 = some v3 ∧ (V.drewN n).cell? x4 = some v4 ∧ (V.drewN n).cell? x5 = some v5 ∧ (V.drewN n).cell? x6 = some v6 ∧ (V.drewN n).cell? x7 = some v7 := ⟨below_drewN h.1 n, h.2.1, h.2.2.1, h.2.2.2.1, h.2.2.2.2.1, h.2.2.2.2.2.1, h.2.2.2.2.2.2.1, h.2.2.2.2.2.2.2.1, h.2.2.2.2.2.2.2.2⟩
theorem k8_call {w V V' : World} {x0 x1 x2 x3 x4 x5 x6 x7 : Addr} {v0 v1 v2 v3 v4 v5 v6 v7 : Value} (h : Below w.heap.size w V ∧ V.cell? x0 = some v0 ∧ V.cell? x1 = some v1 ∧ V.cell? x2 = some v2 ∧ V.cell? x3 = some v3 ∧ V.cell? x4 = some v4 ∧ V.cell? x5 = some v5 ∧ V.cell? x6 = some v6 ∧ V.cell? x7 = some v7) (hb : Below V.heap.size V V') : Below w.heap.size w V' ∧ V'.cell? x0 = some v0 ∧ V'.cell? x1 = some v1 ∧ V'.cell? x2 = some v2 ∧ V'.cell? x3 = some v3 ∧ V'.cell? x4 = some v4 ∧ V'.cell? x5 = some v5 ∧ V'.cell? x6 = some v6 ∧ V'.cell? x7 = some v7 :=
  ⟨h.1.trans (hb.mono h.1.size), by rw [hb.cell (cell_lt h.2.1)]; exact h.2.1, by rw [hb.cell (cell_lt h.2.2.1)]; exact h.2.2.1, by rw [hb.cell (cell_lt h.2.2.2.1)]; exact h.2.2.2.1, by rw [hb.cell (cell_lt h.2.2.2.2.1)]; exact h.2.2.2.2.1, by rw [hb.cell (cell_lt h.2.2.2.2.2.1)]; exact h.2.2.2.2.2.1, by rw [hb.cell (cell_lt h.2.2.2.2.2.2.1)]; exact h.2.2.2.2.2.2.1, by rw [hb.cell (cell_lt h.2.2.2.2.2.2.2.1)]; exact h.2.2.2.2.2.2.2.1, by rw [hb.cell (cell_lt h.2.2.2.2.2.2.2.2)]; exact h.2.2.2.2.2.2.2.2⟩

/-- A box of four and one of two, later. -/
theorem box42 {w w0 V : World} {a b c d e f : Value} {t t2 : TypeId} {F : Nat} (hF : w.heap.size = F) (hw : (w.alloc (.cells #[a, b, c, d] t)).alloc (.cells #[e, f] t2) = w0) (hb : Below w0.heap.size w0 V) :
    V.cell? ⟨F, 0, none⟩ = some a ∧ V.cell? ⟨F, 1, none⟩ = some b ∧ V.cell? ⟨F, 2, none⟩ = some c ∧ V.cell? ⟨F, 3, none⟩ = some d ∧ V.cell? ⟨F + 1, 0, none⟩ = some e ∧ V.cell? ⟨F + 1, 1, none⟩ = some f := by
  subst hw hF
  refine ⟨?_, ?_, ?_, ?_, ?_, ?_⟩
  all_goals
    rw [hb.cell (by simp <;> omega)]
    simp [go_sem]
set_option maxRecDepth 20000 in
set_option maxHeartbeats 1000000 in
theorem rindex_any (W X Y i : Nat) (b c d : Value) (w : World) (hi : Hid (Y * W + X = i)) (hb : i ≤ 1000000) :
    Calls Try.prog 38 #[.agg #[.int .i64 (W : Int), b, c, d], .agg #[.int .i64 (X : Int), .int .i64 (Y : Int)]] w fun e w' => e = .returned (.int .i64 (i : Int)) ∧ Below w.heap.size w w' := by
  obtain ⟨P, hP⟩ : ∃ P : Nat, Y * W = P := ⟨_, rfl⟩
  have hPi : P + X = i := by rw [← hP]; exact hi.out
  have eP : IntKind.i64.wrap ((Y : Int) * (W : Int)) = (P : Int) := by rw [← Int.natCast_mul, hP]; exact wrp (by omega) (by omega)
  have eJ : (P : Int) + X = i := by omega
  have eJ2 : IntKind.i64.wrap (i : Int) = i := wrp (by omega) (by omega)
  have HB : Hid (Below w.heap.size w ((w.alloc (.cells #[.int .i64 (W : Int), b, c, d] 43)).alloc (.cells #[.int .i64 (X : Int), .int .i64 (Y : Int)] 26))) := (alloc_below w _).alloc (by simp) _
  clear hi hPi hP
  go_enter Try.func38, Try.ntmps38
  go_wp2_with fail
  go_ret
  exact ⟨rfl, HB.out⟩
set_option maxRecDepth 20000 in
set_option maxHeartbeats 1000000 in
theorem holds_any (W H X Y : Int) (c d : Value) (w : World) :
    Calls Try.prog 40 #[.agg #[.int .i64 W, .int .i64 H, c, d], .agg #[.int .i64 X, .int .i64 Y]] w fun e w' => e = .returned (.bool (inb W H X Y)) ∧ Below w.heap.size w w' := by
  have HB : Hid (Below w.heap.size w ((w.alloc (.cells #[.int .i64 W, .int .i64 H, c, d] 43)).alloc (.cells #[.int .i64 X, .int .i64 Y] 26))) := (alloc_below w _).alloc (by simp) _
  go_enter Try.func40, Try.ntmps40
  by_cases x0 : 0 ≤ X
  · by_cases x1 : X < W
    · by_cases y0 : 0 ≤ Y
      · by_cases y1 : Y < H
        all_goals
          go_wp2_with fail
          go_ret
          exact ⟨by unfold inb; congr 2; simp <;> omega, HB.out⟩
      · go_wp2_with fail
        go_ret
        exact ⟨by unfold inb; congr 2; simp <;> omega, HB.out⟩
    · go_wp2_with fail
      go_ret
      exact ⟨by unfold inb; congr 2; simp <;> omega, HB.out⟩
  · go_wp2_with fail
    go_ret
    exact ⟨by unfold inb; congr 2; simp <;> omega, HB.out⟩
theorem holds_at (W H X Y : Int) (c d : Value) (r : Bool) (w : World) (hr : Hid (inb W H X Y = r)) :
    Calls Try.prog 40 #[.agg #[.int .i64 W, .int .i64 H, c, d], .agg #[.int .i64 X, .int .i64 Y]] w fun e w' => e = .returned (.bool r) ∧ Below w.heap.size w w' := by rw [← hr.out]; exact holds_any W H X Y c d w
set_option maxRecDepth 20000 in
set_option maxHeartbeats 1000000 in
theorem pbeside_any (X Y : Nat) (w : World) (hX : X ≤ 1000000) (hY : Y ≤ 1000000) :
    Calls Try.prog 39 #[.agg #[.int .i64 (X : Int), .int .i64 (Y : Int)]] w fun e w' => e = .returned (bes X Y) ∧ Below w.heap.size w w' := by
  go_enter Try.func39, Try.ntmps39
  go_wp2_with fail
  go_returns
  exact ⟨rfl, (alloc_below w _).alloc (by simp) _⟩
set_option maxRecDepth 20000 in
set_option maxHeartbeats 1000000 in
theorem cost_any (W H X Y i : Nat) (c : Value) (g : Nat) (D : Int) (w : World) (hi : Hid (Y * W + X = i)) (hb : i ≤ 1000000) (hil : i < W * H) (hc : w.cell? ⟨g, i, none⟩ = some (.int .i64 D)) :
    Calls Try.prog 19 #[.agg #[.int .i64 (W : Int), .int .i64 (H : Int), c, .slice (some ⟨g, 0, none⟩) (W * H) (W * H)], .agg #[.int .i64 (X : Int), .int .i64 (Y : Int)]] w fun e w' => e = .returned (.int .i64 D) ∧ Below w.heap.size w w' := by
  obtain ⟨F, hF⟩ : ∃ F, w.heap.size = F := ⟨_, rfl⟩
  obtain ⟨w0, hw0⟩ : ∃ w0, (w.alloc (.cells #[.int .i64 (W : Int), .int .i64 (H : Int), c, .slice (some ⟨g, 0, none⟩) (W * H) (W * H)] 43)).alloc (.cells #[.int .i64 (X : Int), .int .i64 (Y : Int)] 26) = w0 := ⟨_, rfl⟩
  have hB0 : Below w.heap.size w w0 := by rw [← hw0]; exact (alloc_below w _).alloc (by simp) _
  obtain ⟨z0, z1, z2, z3, z4, z5⟩ := box42 hF hw0 (Below.refl _ _)
  have z6 : w0.cell? ⟨g, i, none⟩ = some (.int .i64 D) := (hB0.cell (p := ⟨g, i, none⟩) (cell_lt hc)).trans hc
  have HB0 : Hid (Below w.heap.size w w0) := hB0
  have i1 : (i : Int) < W * H := by omega
  have i2 : (0 : Int) ≤ i := by omega
  clear hB0 hc
  go_enter Try.func19, Try.ntmps19
  go_wp2_with fail
  clear hw0
  go_region_held3 (fun V => Below w0.heap.size w0 V ∧ V.cell? ⟨F, 0, none⟩ = some (.int .i64 (W : Int)) ∧ V.cell? ⟨F, 1, none⟩ = some (.int .i64 (H : Int)) ∧ V.cell? ⟨F, 2, none⟩ = some c ∧ V.cell? ⟨F, 3, none⟩ = some (.slice (some ⟨g, 0, none⟩) (W * H) (W * H)) ∧ V.cell? ⟨F + 1, 0, none⟩ = some (.int .i64 (X : Int)) ∧ V.cell? ⟨F + 1, 1, none⟩ = some (.int .i64 (Y : Int)) ∧ V.cell? ⟨g, i, none⟩ = some (.int .i64 D)) (first | assumption | exact k7_drew (by assumption) | exact k7_drewN (by assumption) _ | exact k7_call (by assumption) (by assumption) | exact ⟨Below.drew (Below.refl _ _), z0, z1, z2, z3, z4, z5, z6⟩ | exact ⟨Below.refl _ _, z0, z1, z2, z3, z4, z5, z6⟩) (first
    | (go_at_call 38; refine (rindex_any W X Y i _ _ _ _ hi hb).mono ?_; rintro e w1 ⟨rfl, hb1⟩))
  all_goals
    go_wp2_with fail
    go_ret
    exact ⟨rfl, HB0.out.trans (((Below.refl _ _).drew.trans hb1).mono HB0.out.size)⟩
end Go.Proofs.Ytkdammmikmljmaa
