/- package flood and package path: From, Far, Find, and what is told of ways -/
import Derived.Test.YtnbbfnlfcncgnaaPB
import Derived.Laws.ResultCell
import Derived.Test.YtnbbfnlfcncgnaaRef
import Derived.Deep.LoopGhost
import Derived.Test.YtnbbfnlfcncgnaaCut
import Derived.Test.YtnbbfnlfcncgnaaOpc
import Derived.Test.YtnbbfnlfcncgnaaCr
import Derived.Test.YtnbbfnlfcncgnaaEx
import Derived.OwnWalk
/- A reach, and what is asked of it: where a cell lies, what it costs, whether it is in the field, which cells are beside it. -/
namespace Go.Proofs.Ytnbbfnlfcncgnaa
open Go.RowKit
set_option linter.unusedVariables false

theorem pk7_drew {w V : World} {x0 x1 x2 x3 x4 x5 x6 : Addr} {v0 v1 v2 v3 v4 v5 v6 : Value} (h : Below w.heap.size w V ∧ V.cell? x0 = some v0 ∧ V.cell? x1 = some v1 ∧ V.cell? x2 = some v2 ∧ V.cell? x3 = some v3 ∧ V.cell? x4 = some v4 ∧ V.cell? x5 = some v5 ∧ V.cell? x6 = some v6) : Below w.heap.size w V.drew ∧ V.drew.cell? x0 = some v0 ∧ V.drew.cell? x1 = some v1 ∧ V.drew.cell? x2 = some v2 ∧ V.drew.cell? x3 = some v3 ∧ V.drew.cell? x4 = some v4 ∧ V.drew.cell? x5 = some v5 ∧ V.drew.cell? x6 = some v6 := ⟨h.1.drew, h.2.1, h.2.2.1, h.2.2.2.1, h.2.2.2.2.1, h.2.2.2.2.2.1, h.2.2.2.2.2.2.1, h.2.2.2.2.2.2.2⟩
theorem k7_drewN {w V : World} {x0 x1 x2 x3 x4 x5 x6 : Addr} {v0 v1 v2 v3 v4 v5 v6 : Value} (h : Below w.heap.size w V ∧ V.cell? x0 = some v0 ∧ V.cell? x1 = some v1 ∧ V.cell? x2 = some v2 ∧ V.cell? x3 = some v3 ∧ V.cell? x4 = some v4 ∧ V.cell? x5 = some v5 ∧ V.cell? x6 = some v6) (n : Nat) : Below w.heap.size w (V.drewN n) ∧ (V.drewN n).cell? x0 = some v0 ∧ (V.drewN n).cell? x1 = some v1 ∧ (V.drewN n).cell? x2 = some v2 ∧ (V.drewN n).cell? x3 = some v3 ∧ (V.drewN n).cell? x4 = some v4 ∧ (V.drewN n).cell? x5 = some v5 ∧ (V.drewN n).cell? x6 = some v6 := ⟨below_drewN h.1 n, h.2.1, h.2.2.1, h.2.2.2.1, h.2.2.2.2.1, h.2.2.2.2.2.1, h.2.2.2.2.2.2.1, h.2.2.2.2.2.2.2⟩
theorem pk7_call {w V V' : World} {x0 x1 x2 x3 x4 x5 x6 : Addr} {v0 v1 v2 v3 v4 v5 v6 : Value} (h : Below w.heap.size w V ∧ V.cell? x0 = some v0 ∧ V.cell? x1 = some v1 ∧ V.cell? x2 = some v2 ∧ V.cell? x3 = some v3 ∧ V.cell? x4 = some v4 ∧ V.cell? x5 = some v5 ∧ V.cell? x6 = some v6) (hb : Below V.heap.size V V') : Below w.heap.size w V' ∧ V'.cell? x0 = some v0 ∧ V'.cell? x1 = some v1 ∧ V'.cell? x2 = some v2 ∧ V'.cell? x3 = some v3 ∧ V'.cell? x4 = some v4 ∧ V'.cell? x5 = some v5 ∧ V'.cell? x6 = some v6 :=
  ⟨h.1.trans (hb.mono h.1.size), by rw [hb.cell (cell_lt h.2.1)]; exact h.2.1, by rw [hb.cell (cell_lt h.2.2.1)]; exact h.2.2.1, by rw [hb.cell (cell_lt h.2.2.2.1)]; exact h.2.2.2.1, by rw [hb.cell (cell_lt h.2.2.2.2.1)]; exact h.2.2.2.2.1, by rw [hb.cell (cell_lt h.2.2.2.2.2.1)]; exact h.2.2.2.2.2.1, by rw [hb.cell (cell_lt h.2.2.2.2.2.2.1)]; exact h.2.2.2.2.2.2.1, by rw [hb.cell (cell_lt h.2.2.2.2.2.2.2)]; exact h.2.2.2.2.2.2.2⟩
theorem pk8_drew {w V : World} {x0 x1 x2 x3 x4 x5 x6 x7 : Addr} {v0 v1 v2 v3 v4 v5 v6 v7 : Value} (h : Below w.heap.size w V ∧ V.cell? x0 = some v0 ∧ V.cell? x1 = some v1 ∧ V.cell? x2 = some v2 ∧ V.cell? x3 = some v3 ∧ V.cell? x4 = some v4 ∧ V.cell? x5 = some v5 ∧ V.cell? x6 = some v6 ∧ V.cell? x7 = some v7) : Below w.heap.size w V.drew ∧ V.drew.cell? x0 = some v0 ∧ V.drew.cell? x1 = some v1 ∧ V.drew.cell? x2 = some v2 ∧ V.drew.cell? x3 = some v3 ∧ V.drew.cell? x4 = some v4 ∧ V.drew.cell? x5 = some v5 ∧ V.drew.cell? x6 = some v6 ∧ V.drew.cell? x7 = some v7 := ⟨h.1.drew, h.2.1, h.2.2.1, h.2.2.2.1, h.2.2.2.2.1, h.2.2.2.2.2.1, h.2.2.2.2.2.2.1, h.2.2.2.2.2.2.2.1, h.2.2.2.2.2.2.2.2⟩
theorem k8_drewN {w V : World} {x0 x1 x2 x3 x4 x5 x6 x7 : Addr} {v0 v1 v2 v3 v4 v5 v6 v7 : Value} (h : Below w.heap.size w V ∧ V.cell? x0 = some v0 ∧ V.cell? x1 = some v1 ∧ V.cell? x2 = some v2 ∧ V.cell? x3 = some v3 ∧ V.cell? x4 = some v4 ∧ V.cell? x5 = some v5 ∧ V.cell? x6 = some v6 ∧ V.cell? x7 = some v7) (n : Nat) : Below w.heap.size w (V.drewN n) ∧ (V.drewN n).cell? x0 = some v0 ∧ (V.drewN n).cell? x1 = some v1 ∧ (V.drewN n).cell? x2 = some v2 ∧ (V.drewN n).cell? x3 = some v3 ∧ (V.drewN n).cell? x4 = some v4 ∧ (V.drewN n).cell? x5 = some v5 ∧ (V.drewN n).cell? x6 = some v6 ∧ (V.drewN n).cell? x7 = some v7 := ⟨below_drewN h.1 n, h.2.1, h.2.2.1, h.2.2.2.1, h.2.2.2.2.1, h.2.2.2.2.2.1, h.2.2.2.2.2.2.1, h.2.2.2.2.2.2.2.1, h.2.2.2.2.2.2.2.2⟩
theorem pk8_call {w V V' : World} {x0 x1 x2 x3 x4 x5 x6 x7 : Addr} {v0 v1 v2 v3 v4 v5 v6 v7 : Value} (h : Below w.heap.size w V ∧ V.cell? x0 = some v0 ∧ V.cell? x1 = some v1 ∧ V.cell? x2 = some v2 ∧ V.cell? x3 = some v3 ∧ V.cell? x4 = some v4 ∧ V.cell? x5 = some v5 ∧ V.cell? x6 = some v6 ∧ V.cell? x7 = some v7) (hb : Below V.heap.size V V') : Below w.heap.size w V' ∧ V'.cell? x0 = some v0 ∧ V'.cell? x1 = some v1 ∧ V'.cell? x2 = some v2 ∧ V'.cell? x3 = some v3 ∧ V'.cell? x4 = some v4 ∧ V'.cell? x5 = some v5 ∧ V'.cell? x6 = some v6 ∧ V'.cell? x7 = some v7 :=
  ⟨h.1.trans (hb.mono h.1.size), by rw [hb.cell (cell_lt h.2.1)]; exact h.2.1, by rw [hb.cell (cell_lt h.2.2.1)]; exact h.2.2.1, by rw [hb.cell (cell_lt h.2.2.2.1)]; exact h.2.2.2.1, by rw [hb.cell (cell_lt h.2.2.2.2.1)]; exact h.2.2.2.2.1, by rw [hb.cell (cell_lt h.2.2.2.2.2.1)]; exact h.2.2.2.2.2.1, by rw [hb.cell (cell_lt h.2.2.2.2.2.2.1)]; exact h.2.2.2.2.2.2.1, by rw [hb.cell (cell_lt h.2.2.2.2.2.2.2.1)]; exact h.2.2.2.2.2.2.2.1, by rw [hb.cell (cell_lt h.2.2.2.2.2.2.2.2)]; exact h.2.2.2.2.2.2.2.2⟩

/-- A box of four and one of two, later. -/
theorem box42 {w w0 V : World} {a b c d e f : Value} {t t2 : TypeId} {F : Nat} (hF : w.heap.size = F) (hw : (w.alloc (.cells #[a, b, c, d] t)).alloc (.cells #[e, f] t2) = w0) (hb : Below w0.heap.size w0 V) :
    V.cell? ⟨F, 0, none⟩ = some a ∧ V.cell? ⟨F, 1, none⟩ = some b ∧ V.cell? ⟨F, 2, none⟩ = some c ∧ V.cell? ⟨F, 3, none⟩ = some d ∧ V.cell? ⟨F + 1, 0, none⟩ = some e ∧ V.cell? ⟨F + 1, 1, none⟩ = some f := by
  subst hw hF
  refine ⟨?_, ?_, ?_, ?_, ?_, ?_⟩
  all_goals
    rw [hb.cell (by simp <;> omega)]
    simp [go_sem]
set_option maxRecDepth 20000 in
set_option maxHeartbeats 1000000 in
theorem rindex_any (W X Y i : Nat) (b c d : Value) (w : World) (hi : Hid (Y * W + X = i)) (hb : i ≤ 1000000) :
    Calls Try.prog 84 #[.agg #[.int .i64 (W : Int), b, c, d], .agg #[.int .i64 (X : Int), .int .i64 (Y : Int)]] w fun e w' => e = .returned (.int .i64 (i : Int)) ∧ Below w.heap.size w w' := by
  obtain ⟨P, hP⟩ : ∃ P : Nat, Y * W = P := ⟨_, rfl⟩
  have hPi : P + X = i := by rw [← hP]; exact hi.out
  have eP : IntKind.i64.wrap ((Y : Int) * (W : Int)) = (P : Int) := by rw [← Int.natCast_mul, hP]; exact wrp (by omega) (by omega)
  have eJ : (P : Int) + X = i := by omega
  have eJ2 : IntKind.i64.wrap (i : Int) = i := wrp (by omega) (by omega)
  have HB : Hid (Below w.heap.size w ((w.alloc (.cells #[.int .i64 (W : Int), b, c, d] 95)).alloc (.cells #[.int .i64 (X : Int), .int .i64 (Y : Int)] 31))) := (alloc_below w _).alloc (by simp) _
  clear hi hPi hP
  go_enter Try.func84, Try.ntmps84
  go_wp2_with fail
  go_ret
  exact ⟨rfl, HB.out⟩
set_option maxRecDepth 20000 in
set_option maxHeartbeats 1000000 in
theorem holds_any (W H X Y : Int) (c d : Value) (w : World) :
    Calls Try.prog 87 #[.agg #[.int .i64 W, .int .i64 H, c, d], .agg #[.int .i64 X, .int .i64 Y]] w fun e w' => e = .returned (.bool (inb W H X Y)) ∧ Below w.heap.size w w' := by
  have HB : Hid (Below w.heap.size w ((w.alloc (.cells #[.int .i64 W, .int .i64 H, c, d] 95)).alloc (.cells #[.int .i64 X, .int .i64 Y] 31))) := (alloc_below w _).alloc (by simp) _
  go_enter Try.func87, Try.ntmps87
  by_cases x0 : 0 ≤ X
  · by_cases x1 : X < W
    · by_cases y0 : 0 ≤ Y
      · by_cases y1 : Y < H
        all_goals
          go_wp2_with fail
          go_ret
          exact ⟨by unfold inb; congr 2; simp <;> omega, HB.out⟩
      · go_wp2_with fail
        go_ret
        exact ⟨by unfold inb; congr 2; simp <;> omega, HB.out⟩
    · go_wp2_with fail
      go_ret
      exact ⟨by unfold inb; congr 2; simp <;> omega, HB.out⟩
  · go_wp2_with fail
    go_ret
    exact ⟨by unfold inb; congr 2; simp <;> omega, HB.out⟩
theorem holds_at (W H X Y : Int) (c d : Value) (r : Bool) (w : World) (hr : Hid (inb W H X Y = r)) :
    Calls Try.prog 87 #[.agg #[.int .i64 W, .int .i64 H, c, d], .agg #[.int .i64 X, .int .i64 Y]] w fun e w' => e = .returned (.bool r) ∧ Below w.heap.size w w' := by rw [← hr.out]; exact holds_any W H X Y c d w
set_option maxRecDepth 20000 in
set_option maxHeartbeats 1000000 in
theorem pbeside_any (X Y : Nat) (w : World) (hX : X ≤ 1000000) (hY : Y ≤ 1000000) :
    Calls Try.prog 86 #[.agg #[.int .i64 (X : Int), .int .i64 (Y : Int)]] w fun e w' => e = .returned (bes X Y) ∧ Below w.heap.size w w' := by
  go_enter Try.func86, Try.ntmps86
  go_wp2_with fail
  go_returns
  exact ⟨rfl, (alloc_below w _).alloc (by simp) _⟩
set_option maxRecDepth 20000 in
set_option maxHeartbeats 1000000 in
theorem cost_any (W H X Y i : Nat) (c : Value) (g : Nat) (D : Int) (w : World) (hi : Hid (Y * W + X = i)) (hb : i ≤ 1000000) (hil : i < W * H) (hc : w.cell? ⟨g, i, none⟩ = some (.int .i64 D)) :
    Calls Try.prog 58 #[.agg #[.int .i64 (W : Int), .int .i64 (H : Int), c, .slice (some ⟨g, 0, none⟩) (W * H) (W * H)], .agg #[.int .i64 (X : Int), .int .i64 (Y : Int)]] w fun e w' => e = .returned (.int .i64 D) ∧ Below w.heap.size w w' := by
  obtain ⟨F, hF⟩ : ∃ F, w.heap.size = F := ⟨_, rfl⟩
  obtain ⟨w0, hw0⟩ : ∃ w0, (w.alloc (.cells #[.int .i64 (W : Int), .int .i64 (H : Int), c, .slice (some ⟨g, 0, none⟩) (W * H) (W * H)] 95)).alloc (.cells #[.int .i64 (X : Int), .int .i64 (Y : Int)] 31) = w0 := ⟨_, rfl⟩
  have hB0 : Below w.heap.size w w0 := by rw [← hw0]; exact (alloc_below w _).alloc (by simp) _
  obtain ⟨z0, z1, z2, z3, z4, z5⟩ := box42 hF hw0 (Below.refl _ _)
  have z6 : w0.cell? ⟨g, i, none⟩ = some (.int .i64 D) := (hB0.cell (p := ⟨g, i, none⟩) (cell_lt hc)).trans hc
  have HB0 : Hid (Below w.heap.size w w0) := hB0
  have i1 : (i : Int) < W * H := by omega
  have i2 : (0 : Int) ≤ i := by omega
  clear hB0 hc
  go_enter Try.func58, Try.ntmps58
  go_wp2_with fail
  clear hw0
  go_region_held3 (fun V => Below w0.heap.size w0 V ∧ V.cell? ⟨F, 0, none⟩ = some (.int .i64 (W : Int)) ∧ V.cell? ⟨F, 1, none⟩ = some (.int .i64 (H : Int)) ∧ V.cell? ⟨F, 2, none⟩ = some c ∧ V.cell? ⟨F, 3, none⟩ = some (.slice (some ⟨g, 0, none⟩) (W * H) (W * H)) ∧ V.cell? ⟨F + 1, 0, none⟩ = some (.int .i64 (X : Int)) ∧ V.cell? ⟨F + 1, 1, none⟩ = some (.int .i64 (Y : Int)) ∧ V.cell? ⟨g, i, none⟩ = some (.int .i64 D)) (first | assumption | exact pk7_drew (by assumption) | exact k7_drewN (by assumption) _ | exact pk7_call (by assumption) (by assumption) | exact ⟨Below.drew (Below.refl _ _), z0, z1, z2, z3, z4, z5, z6⟩ | exact ⟨Below.refl _ _, z0, z1, z2, z3, z4, z5, z6⟩) (first
    | (go_at_call 84; refine (rindex_any W X Y i _ _ _ _ hi hb).mono ?_; rintro e w1 ⟨rfl, hb1⟩))
  all_goals
    go_wp2_with fail
    go_ret
    exact ⟨rfl, HB0.out.trans (((Below.refl _ _).drew.trans hb1).mono HB0.out.size)⟩
end Go.Proofs.Ytnbbfnlfcncgnaa
/- What ahead returns. -/
namespace Go.Proofs.Ytnbbfnlfcncgnaa
open Go.RowKit
set_option linter.unusedVariables false
set_option linter.unusedSimpArgs false

/-- What ahead answers: the cell, and whether there is one. -/
def aho (W H : Nat) (l far : List Int) (c d : Cel) (b : Bool) : Prop := (b = true ∧ ahd W H l far c d) ∨ (b = false ∧ nah W H l far c)
/-- Two stores into a box of two. -/
theorem set2 {W' : World} {R : Nat} {x y x' y' : Value} {t : TypeId} (hR : W'.heap[R]? = some (.cells #[x, y] t)) (V : World) (hV : V = (W'.setCell ⟨R, 0, none⟩ x').setCell ⟨R, 1, none⟩ y') :
    V.cell? ⟨R, 0, none⟩ = some x' ∧ V.cell? ⟨R, 1, none⟩ = some y' ∧ ∀ B, B ≤ R → Below B W' V := by
  have hRV : V.heap[R]? = some (.cells #[x', y'] t) := by
    have h1 := heap_setCell_same W' R 0 _ t x' hR
    have h2 := heap_setCell_same _ R 1 _ t y' h1
    rw [hV, h2]; rfl
  refine ⟨by simp [World.cell?, hRV], by simp [World.cell?, hRV], fun B hB => ?_⟩
  rw [hV]
  exact ((Below.refl B W').setCell (p := ⟨R, 0, none⟩) hB _).setCell (p := ⟨R, 1, none⟩) hB _
theorem free2 {W' : World} {R : Nat} {x y : Value} {t : TypeId} (hR : W'.heap[R]? = some (.cells #[x, y] t)) : W'.cell? ⟨R, 0, none⟩ = some x ∧ W'.cell? ⟨R, 1, none⟩ = some y ∧ W'.frozen? ⟨R, 0, none⟩ = false ∧ W'.frozen? ⟨R, 1, none⟩ = false := by simp [World.cell?, World.frozen?, hR]
theorem box422 {w w0 V : World} {a b c d e f g h : Value} {t t2 t3 : TypeId} {F : Nat} (hF : w.heap.size = F) (hw : ((w.alloc (.cells #[a, b, c, d] t)).alloc (.cells #[e, f] t2)).alloc (.cells #[g, h] t3) = w0) (hb : Below w0.heap.size w0 V) :
    (V.cell? ⟨F, 0, none⟩ = some a ∧ V.cell? ⟨F, 1, none⟩ = some b ∧ V.cell? ⟨F, 2, none⟩ = some c ∧ V.cell? ⟨F, 3, none⟩ = some d ∧ V.cell? ⟨F + 1, 0, none⟩ = some e ∧ V.cell? ⟨F + 1, 1, none⟩ = some f) ∧ V.heap[F + 2]? = some (.cells #[g, h] t3) ∧ F + 3 ≤ V.heap.size := by
  have hs : w0.heap.size = F + 3 := by rw [← hw, ← hF]; simp
  refine ⟨?_, ?_, by have := hb.size; omega⟩
  · subst hw hF
    refine ⟨?_, ?_, ?_, ?_, ?_, ?_⟩
    all_goals
      rw [hb.cell (by simp <;> omega)]
      simp [go_sem]
  · rw [hb.block (F + 2) (by omega), ← hw]
    have := World.alloc_heap_new ((w.alloc (.cells #[a, b, c, d] t)).alloc (.cells #[e, f] t2)) (.cells #[g, h] t3)
    rw [World.size_alloc, World.size_alloc, hF] at this
    exact this
set_option maxRecDepth 20000 in
set_option maxHeartbeats 1000000 in
theorem ahead_any (W H X Y : Nat) (a : Addr) (cp g : Nat) (l far : List Int) (w : World) (hr : row vi w (some a) l) (hf : row vi w (some ⟨g, 0, none⟩) far) (hW : 1 ≤ W ∧ W ≤ 40) (hH : 1 ≤ H ∧ H ≤ 40) (hl : l.length = W * H) (hg : l.any bad = false) (hfl : far.length = W * H)
    (hbd : ∀ i, i < W * H → -1 ≤ pa far i ∧ pa far i ≤ 4800) (hX : X < W) (hY : Y < H) (hrk : pa l (Y * W + X) ≠ 1) :
    Calls Try.prog 59 #[.agg #[.int .i64 (W : Int), .int .i64 (H : Int), .slice (some a) (W * H) cp, .slice (some ⟨g, 0, none⟩) (W * H) (W * H)], .agg #[.int .i64 (X : Int), .int .i64 (Y : Int)]] w fun e w' => (∃ d b, e = .returned (.tuple #[.agg #[.int .i64 d.x, .int .i64 d.y], .bool b]) ∧ aho W H l far ⟨X, Y⟩ d b) ∧ Below w.heap.size w w' := by
  obtain ⟨I, hI⟩ : ∃ I, Y * W + X = I := ⟨_, rfl⟩
  have hIl : I < W * H := by rw [← hI]; exact pl_lt hX hY
  have hN : W * H ≤ 1600 := by have := Nat.mul_le_mul hW.2 hH.2; omega
  rw [hI] at hrk
  obtain ⟨Z, hZ⟩ : ∃ Z, pa l I = Z := ⟨_, rfl⟩
  obtain ⟨K, hK⟩ : ∃ K, kc Z = K := ⟨_, rfl⟩
  obtain ⟨D, hD⟩ : ∃ D, pa far I = D := ⟨_, rfl⟩
  have hkb := kc_bd Z
  rw [hK] at hkb
  have hDb := hbd I hIl
  rw [hD] at hDb
  have hzb := psort_bd hg (j := I) (by rw [hl]; exact hIl)
  rw [hZ] at hzb hrk
  have hck := co_kc hzb.1 hzb.2 hrk
  have HC : Hid (co Z = K) := hck.1.trans hK
  have HE : Hid (ce Z = 0) := hck.2
  obtain ⟨F, hF⟩ : ∃ F, w.heap.size = F := ⟨_, rfl⟩
  obtain ⟨w0, hw0⟩ : ∃ w0, ((w.alloc (.cells #[.int .i64 (W : Int), .int .i64 (H : Int), .slice (some a) (W * H) cp, .slice (some ⟨g, 0, none⟩) (W * H) (W * H)] 95)).alloc (.cells #[.int .i64 (X : Int), .int .i64 (Y : Int)] 31)).alloc (.cells #[.int .i64 0, .int .i64 0] 31) = w0 := ⟨_, rfl⟩
  have hB0 : Below w.heap.size w w0 := by rw [← hw0]; exact ((alloc_below w _).alloc (by simp) _).alloc (by simp; omega) _
  have HBX : Hid (∀ V, Below w0.heap.size w0 V → (V.cell? ⟨F, 0, none⟩ = some (.int .i64 (W : Int)) ∧ V.cell? ⟨F, 1, none⟩ = some (.int .i64 (H : Int)) ∧ V.cell? ⟨F, 2, none⟩ = some (.slice (some a) (W * H) cp) ∧ V.cell? ⟨F, 3, none⟩ = some (.slice (some ⟨g, 0, none⟩) (W * H) (W * H)) ∧ V.cell? ⟨F + 1, 0, none⟩ = some (.int .i64 (X : Int)) ∧ V.cell? ⟨F + 1, 1, none⟩ = some (.int .i64 (Y : Int))) ∧ V.heap[F + 1 + 1]? = some (.cells #[.int .i64 0, .int .i64 0] 31) ∧ F + 3 ≤ V.heap.size) := fun V hV => box422 hF hw0 hV
  obtain ⟨⟨z0, z1, z2, z3, z4, z5⟩, -, -⟩ := HBX.out w0 (Below.refl _ _)
  have z6 : w0.cell? (a.add I) = some (.int .i64 Z) := by
    obtain ⟨b, hb, hc⟩ := row_at (row_below hr hB0) (j := I) (by rw [hl]; exact hIl)
    cases hb
    rw [← pa_get l, hZ] at hc; exact hc
  have HFR : Hid (∀ V, Below w0.heap.size w0 V → ∀ i, i < W * H → V.cell? ⟨g, i, none⟩ = some (.int .i64 (pa far i))) := by
    intro V hV i hi
    obtain ⟨b, hb, hc⟩ := row_at (row_below (row_below hf hB0) hV) (j := i) (by rw [hfl]; exact hi)
    cases hb
    rw [← pa_get far, add_zero_at] at hc; exact hc
  have HB0 : Hid (Below w.heap.size w w0) := hB0
  have HIX : Hid (Y * W + X = I) := hI
  have HKD : Hid (kc (pa l I) = K ∧ pa far I = D) := ⟨by rw [hZ]; exact hK, hD⟩
  have HBD : Hid (∀ i, i < W * H → -1 ≤ pa far i ∧ pa far i ≤ 4800) := hbd
  have i1 : (I : Int) < W * H := by omega
  have i2 : (0 : Int) ≤ I := by omega
  have HF : Hid (w.heap.size = F) := hF
  have hI6 : I ≤ 1000000 := by omega
  have hX6 : X ≤ 1000000 := by omega
  have hY6 : Y ≤ 1000000 := by omega
  clear hB0 hr hf hbd hg hl hfl hI hK hD hZ hzb hrk hck hW hH
  go_enter Try.func59, Try.ntmps59
  go_wp2_with fail
  clear hw0
  go_region_held3 (fun V => Below w0.heap.size w0 V ∧ V.cell? ⟨F, 0, none⟩ = some (.int .i64 (W : Int)) ∧ V.cell? ⟨F, 1, none⟩ = some (.int .i64 (H : Int)) ∧ V.cell? ⟨F, 2, none⟩ = some (.slice (some a) (W * H) cp) ∧ V.cell? ⟨F, 3, none⟩ = some (.slice (some ⟨g, 0, none⟩) (W * H) (W * H)) ∧ V.cell? ⟨F + 1, 0, none⟩ = some (.int .i64 (X : Int)) ∧ V.cell? ⟨F + 1, 1, none⟩ = some (.int .i64 (Y : Int)) ∧ V.cell? (a.add I) = some (.int .i64 Z)) (first | assumption | exact pk7_drew (by assumption) | exact k7_drewN (by assumption) _ | exact pk7_call (by assumption) (by assumption) | exact ⟨Below.drew (Below.refl _ _), z0, z1, z2, z3, z4, z5, z6⟩ | exact ⟨Below.refl _ _, z0, z1, z2, z3, z4, z5, z6⟩) (first
    | (go_at_call 84; refine (rindex_any W X Y I _ _ _ _ HIX hI6).mono ?_; rintro e w1 ⟨rfl, hb1⟩)
    | (go_at_call 85; refine (Cost_at Z K 0 _ HC HE).mono ?_; rintro e w' ⟨rfl, hw⟩; subst w'))
  have hB1 : Below w0.heap.size w0 w1 := (Below.refl _ _).drew.trans hb1
  obtain ⟨⟨y0, y1, y2, y3, y4, y5⟩, -, -⟩ := HBX.out w1 hB1
  have HB1 : Hid (Below w0.heap.size w0 w1) := hB1
  clear hB1 hb1 z0 z1 z2 z3 z4 z5 z6
  go_wp2_with fail
  refine (pbeside_any X Y w1 hX6 hY6).mono ?_
  rintro e w2 ⟨rfl, hb2⟩
  have HB2 : Hid (Below w0.heap.size w0 w2) := HB1.out.trans (hb2.mono HB1.out.size)
  clear hb2 y0 y1 y2 y3 y4 y5 HB1
  go_wp2_with fail
  go_loopw [27] (fun i wr => ∃ (k : Nat), i = .int .i64 k ∧ k ≤ 4 ∧ Hid (Below w0.heap.size w0 wr ∧ ∀ j, j < k → phit W H l far ⟨X, Y⟩ j = false)) (fun i _ => 4 - (intOf i).toNat)
  case atStart => exact ⟨0, rfl, by omega, HB2.out, fun j hj => by omega⟩
  case round =>
    obtain ⟨k, rfl, hk, HS⟩ := hrel
    by_cases hlt : k < 4
    · have hix := fun V => bes_at (X : Int) (Y : Int) k hlt V
      obtain ⟨x, hx⟩ : ∃ x, bX (X : Int) k = x := ⟨_, rfl⟩
      obtain ⟨y, hy⟩ : ∃ y, bY (Y : Int) k = y := ⟨_, rfl⟩
      simp only [hx, hy] at hix
      have HX : Hid (bc ⟨X, Y⟩ k = ⟨x, y⟩) := by unfold Hid bc; rw [hx, hy]
      clear hx hy
      have hki : (k : Int) < 4 := by omega
      obtain ⟨w4, hw4⟩ : ∃ w4, wr.alloc (.cells #[.int .i64 x, .int .i64 y] 31) = w4 := ⟨_, rfl⟩
      obtain ⟨G, hG⟩ : ∃ G, wr.heap.size = G := ⟨_, rfl⟩
      have hB4 : Below w0.heap.size w0 w4 := HS.out.1.trans (by rw [← hw4]; exact (alloc_below _ _).mono HS.out.1.size)
      have HB4 : Hid (Below w0.heap.size w0 w4) := hB4
      have g0 : w4.cell? ⟨G, 0, none⟩ = some (.int .i64 x) ∧ w4.cell? ⟨G, 1, none⟩ = some (.int .i64 y) := by rw [← hw4, ← hG]; constructor <;> simp [go_sem]
      obtain ⟨g0, g1⟩ := g0
      obtain ⟨⟨t0, t1, t2, t3, t4, t5⟩, -, -⟩ := HBX.out w4 hB4
      clear hB4
      cases hin : inb W H x y with
      | false =>
        have HIN : Hid (inb W H x y = false) := hin
        clear hin
        go_wp2_with fail
        refine wp_region_noPanic ?_
        refine wp_region_held_drew (S := (fun V => Below w4.heap.size w4 V ∧ V.cell? ⟨F, 0, none⟩ = some (.int .i64 (W : Int)) ∧ V.cell? ⟨F, 1, none⟩ = some (.int .i64 (H : Int)) ∧ V.cell? ⟨F, 2, none⟩ = some (.slice (some a) (W * H) cp) ∧ V.cell? ⟨F, 3, none⟩ = some (.slice (some ⟨g, 0, none⟩) (W * H) (W * H)) ∧ V.cell? ⟨F + 1, 0, none⟩ = some (.int .i64 (X : Int)) ∧ V.cell? ⟨F + 1, 1, none⟩ = some (.int .i64 (Y : Int)) ∧ V.cell? ⟨G, 0, none⟩ = some (.int .i64 x) ∧ V.cell? ⟨G, 1, none⟩ = some (.int .i64 y))) (by kernel_rfl) ⟨Below.drew (Below.refl _ _), t0, t1, t2, t3, t4, t5, g0, g1⟩ (fun hHeld => ?_)
        refine wpAnyH_take (i := 0) (oi := ?o0) (v := .agg #[.int .i64 (W : Int), .int .i64 (H : Int), .slice (some a) (W * H) cp, .slice (some ⟨g, 0, none⟩) (W * H) (W * H)]) ?hi0 (by kernel_rfl) (by kernel_rfl) (by kernel_rfl) (fun _ _ _ h => h) ?hy0 hHeld ?rest0
        case hi0 => simp only [List.getElem?_toArray, List.getElem?_cons_zero, List.getElem?_cons_succ]; first | done | rfl
        case hy0 => exact Or.inl ⟨by rfl, by intro V hV; obtain ⟨s0, s1, s2, s3, s4, s5, s6, s7, s8⟩ := hV; go_simp⟩
        try simp only [Act.put, List.setIfInBounds_toArray, List.set_cons_zero, List.set_cons_succ]
        refine wpAnyH_take (i := 1) (oi := ?o1) (v := .agg #[.int .i64 x, .int .i64 y]) ?hi1 (by kernel_rfl) (by kernel_rfl) (by kernel_rfl) (fun _ _ _ h => h) ?hy1 hHeld ?rest1
        case hi1 => simp only [List.getElem?_toArray, List.getElem?_cons_zero, List.getElem?_cons_succ]; first | done | rfl
        case hy1 => exact Or.inl ⟨by rfl, by intro V hV; obtain ⟨s0, s1, s2, s3, s4, s5, s6, s7, s8⟩ := hV; go_simp⟩
        try simp only [Act.put, List.setIfInBounds_toArray, List.set_cons_zero, List.set_cons_succ]
        refine wpAnyH_ready (rs := [2]) (by kernel_rfl) (by simp) ?_
        refine AllReadyH.cons (o := ?o2) ?hi2 (fun K hK => ?step) AllReadyH.nil
        case hi2 => simp only [List.getElem?_toArray, List.getElem?_cons_zero, List.getElem?_cons_succ]; first | done | rfl
        go_simp
        go_at_call 87
        refine (holds_at (W : Int) (H : Int) x y _ _ false _ HIN).mono ?_
        rintro e w5 ⟨rfl, hb5⟩
        go_wp2_with fail
        refine hK.out _ _ (pk8_call hHeld hb5) (fun hHeld5 => ?_)
        clear hK K
        try simp only [Act.put, List.setIfInBounds_toArray, List.set_cons_zero, List.set_cons_succ]
        refine wpAnyH_take (i := 3) (oi := ?o3) (v := .bool false) ?hi3 (by kernel_rfl) (by kernel_rfl) (by kernel_rfl) (fun _ _ _ h => h) ?hy3 hHeld5 ?rest3
        case hi3 => simp only [List.getElem?_toArray, List.getElem?_cons_zero, List.getElem?_cons_succ]; first | done | rfl
        case hy3 => exact Or.inl ⟨by rfl, by intro V hV; obtain ⟨s0, s1, s2, s3, s4, s5, s6, s7, s8⟩ := hV; go_simp⟩
        try simp only [Act.put, List.setIfInBounds_toArray, List.set_cons_zero, List.set_cons_succ]
        refine wpAnyH_take (i := 4) (oi := ?o4) (v := undef) ?hi4 (by kernel_rfl) (by kernel_rfl) (by kernel_rfl) (fun _ _ _ h => h) ?hy4 hHeld5 ?rest4
        case hi4 => simp only [List.getElem?_toArray, List.getElem?_cons_zero, List.getElem?_cons_succ]; first | done | rfl
        case hy4 => exact Or.inr ⟨by rfl, rfl⟩
        try simp only [Act.put, List.setIfInBounds_toArray, List.set_cons_zero, List.set_cons_succ]
        refine wpAnyH_take (i := 5) (oi := ?o5) (v := undef) ?hi5 (by kernel_rfl) (by kernel_rfl) (by kernel_rfl) (fun _ _ _ h => h) ?hy5 hHeld5 ?rest5
        case hi5 => simp only [List.getElem?_toArray, List.getElem?_cons_zero, List.getElem?_cons_succ]; first | done | rfl
        case hy5 => exact Or.inr ⟨by rfl, rfl⟩
        try simp only [Act.put, List.setIfInBounds_toArray, List.set_cons_zero, List.set_cons_succ]
        refine wpAnyH_take (i := 6) (oi := ?o6) (v := undef) ?hi6 (by kernel_rfl) (by kernel_rfl) (by kernel_rfl) (fun _ _ _ h => h) ?hy6 hHeld5 ?rest6
        case hi6 => simp only [List.getElem?_toArray, List.getElem?_cons_zero, List.getElem?_cons_succ]; first | done | rfl
        case hy6 => exact Or.inr ⟨by rfl, rfl⟩
        try simp only [Act.put, List.setIfInBounds_toArray, List.set_cons_zero, List.set_cons_succ]
        refine wpAnyH_take (i := 7) (oi := ?o7) (v := undef) ?hi7 (by kernel_rfl) (by kernel_rfl) (by kernel_rfl) (fun _ _ _ h => h) ?hy7 hHeld5 ?rest7
        case hi7 => simp only [List.getElem?_toArray, List.getElem?_cons_zero, List.getElem?_cons_succ]; first | done | rfl
        case hy7 => exact Or.inr ⟨by rfl, rfl⟩
        try simp only [Act.put, List.setIfInBounds_toArray, List.set_cons_zero, List.set_cons_succ]
        refine wpAnyH_take (i := 8) (oi := ?o8) (v := undef) ?hi8 (by kernel_rfl) (by kernel_rfl) (by kernel_rfl) (fun _ _ _ h => h) ?hy8 hHeld5 ?rest8
        case hi8 => simp only [List.getElem?_toArray, List.getElem?_cons_zero, List.getElem?_cons_succ]; first | done | rfl
        case hy8 => exact Or.inr ⟨by rfl, rfl⟩
        try simp only [Act.put, List.setIfInBounds_toArray, List.set_cons_zero, List.set_cons_succ]
        refine wpAnyH_take (i := 9) (oi := ?o9) (v := undef) ?hi9 (by kernel_rfl) (by kernel_rfl) (by kernel_rfl) (fun _ _ _ h => h) ?hy9 hHeld5 ?rest9
        case hi9 => simp only [List.getElem?_toArray, List.getElem?_cons_zero, List.getElem?_cons_succ]; first | done | rfl
        case hy9 => exact Or.inr ⟨by rfl, rfl⟩
        try simp only [Act.put, List.setIfInBounds_toArray, List.set_cons_zero, List.set_cons_succ]
        refine wpAnyH_take (i := 10) (oi := ?o10) (v := undef) ?hi10 (by kernel_rfl) (by kernel_rfl) (by kernel_rfl) (fun _ _ _ h => h) ?hy10 hHeld5 ?rest10
        case hi10 => simp only [List.getElem?_toArray, List.getElem?_cons_zero, List.getElem?_cons_succ]; first | done | rfl
        case hy10 => exact Or.inr ⟨by rfl, rfl⟩
        try simp only [Act.put, List.setIfInBounds_toArray, List.set_cons_zero, List.set_cons_succ]
        refine wpAnyH_take (i := 11) (oi := ?o11) (v := undef) ?hi11 (by kernel_rfl) (by kernel_rfl) (by kernel_rfl) (fun _ _ _ h => h) ?hy11 hHeld5 ?rest11
        case hi11 => simp only [List.getElem?_toArray, List.getElem?_cons_zero, List.getElem?_cons_succ]; first | done | rfl
        case hy11 => exact Or.inr ⟨by rfl, rfl⟩
        try simp only [Act.put, List.setIfInBounds_toArray, List.set_cons_zero, List.set_cons_succ]
        refine wpAnyH_take (i := 12) (oi := ?o12) (v := undef) ?hi12 (by kernel_rfl) (by kernel_rfl) (by kernel_rfl) (fun _ _ _ h => h) ?hy12 hHeld5 ?rest12
        case hi12 => simp only [List.getElem?_toArray, List.getElem?_cons_zero, List.getElem?_cons_succ]; first | done | rfl
        case hy12 => exact Or.inr ⟨by rfl, rfl⟩
        try simp only [Act.put, List.setIfInBounds_toArray, List.set_cons_zero, List.set_cons_succ]
        refine wpAnyH_take (i := 13) (oi := ?o13) (v := .bool false) ?hi13 (by kernel_rfl) (by kernel_rfl) (by kernel_rfl) (fun _ _ _ h => h) ?hy13 hHeld5 ?rest13
        case hi13 => simp only [List.getElem?_toArray, List.getElem?_cons_zero, List.getElem?_cons_succ]; first | done | rfl
        case hy13 => exact Or.inl ⟨by rfl, by intro V hV; obtain ⟨s0, s1, s2, s3, s4, s5, s6, s7, s8⟩ := hV; go_simp⟩
        try simp only [Act.put, List.setIfInBounds_toArray, List.set_cons_zero, List.set_cons_succ]
        refine wpAnyH_done (by kernel_rfl) ?_ _
        refine NoPanic.normal ?_
        have HB5 : Hid (Below w0.heap.size w0 w5 ∧ ∀ j, j < k + 1 → phit W H l far ⟨X, Y⟩ j = false) := by
          refine ⟨HB4.out.trans (((Below.refl _ _).drew.trans hb5).mono HB4.out.size), fun j hj => ?_⟩
          rcases Nat.lt_or_ge j k with h | h
          · exact HS.out.2 j h
          · obtain rfl : j = k := by omega
            unfold phit; rw [HX.out, HIN.out]; rfl
        clear hb5 hHeld hHeld5 t0 t1 t2 t3 t4 t5 g0 g1
        go_wp2_with fail
        go_roundw
        case rel => exact ⟨k + 1, by go_num, by omega, HB5⟩
        case measure => simp [intOf]; omega
      | true =>
        obtain ⟨x', y', rfl, rfl, hx', hy'⟩ := pinb_nat hin
        have HIN : Hid (inb W H x' y' = true) := hin
        clear hin
        obtain ⟨j, hj⟩ : ∃ j, y' * W + x' = j := ⟨_, rfl⟩
        have hjl : j < W * H := by rw [← hj]; exact pl_lt hx' hy'
        have HJ : Hid (y' * W + x' = j) := hj
        obtain ⟨E, hE⟩ : ∃ E, pa far j = E := ⟨_, rfl⟩
        have hEb := HBD.out j hjl
        rw [hE] at hEb
        have hj6 : j ≤ 1000000 := by omega
        have HC1 : Hid (∀ V, Below w4.heap.size w4 V → Calls Try.prog 58 #[.agg #[.int .i64 (W : Int), .int .i64 (H : Int), .slice (some a) (W * H) cp, .slice (some ⟨g, 0, none⟩) (W * H) (W * H)], .agg #[.int .i64 (x' : Int), .int .i64 (y' : Int)]] V fun e w' => e = .returned (.int .i64 E) ∧ Below V.heap.size V w') :=
          fun V hV => cost_any W H x' y' j _ g E V HJ hj6 hjl (by rw [← hE]; exact HFR.out V (HB4.out.trans (hV.mono HB4.out.size)) j hjl)
        have HC2 : Hid (∀ V, Below w4.heap.size w4 V → Calls Try.prog 58 #[.agg #[.int .i64 (W : Int), .int .i64 (H : Int), .slice (some a) (W * H) cp, .slice (some ⟨g, 0, none⟩) (W * H) (W * H)], .agg #[.int .i64 (X : Int), .int .i64 (Y : Int)]] V fun e w' => e = .returned (.int .i64 D) ∧ Below V.heap.size V w') :=
          fun V hV => cost_any W H X Y I _ g D V HIX hI6 hIl (by rw [← HKD.out.2]; exact HFR.out V (HB4.out.trans (hV.mono HB4.out.size)) I hIl)
        have HHIT : Hid (phit W H l far ⟨X, Y⟩ k = decide (E = D - K)) := by
          unfold Hid phit
          rw [HX.out, HIN.out, ixc_nat, ixc_nat, HIX.out, HKD.out.1, HKD.out.2, HJ.out, hE]; rfl
        have u1 : IntKind.i64.wrap (D - K) = D - K := wrp (by omega) (by omega)
        clear hj hE hEb
        by_cases heq : E = D - K
        · have u2 : (E == D - K) = true := by simp [heq]
          have HK2 : Hid (E = D - K) := heq
          clear heq
          go_wp2_with fail
          go_region_held3 (fun V => Below w4.heap.size w4 V ∧ V.cell? ⟨F, 0, none⟩ = some (.int .i64 (W : Int)) ∧ V.cell? ⟨F, 1, none⟩ = some (.int .i64 (H : Int)) ∧ V.cell? ⟨F, 2, none⟩ = some (.slice (some a) (W * H) cp) ∧ V.cell? ⟨F, 3, none⟩ = some (.slice (some ⟨g, 0, none⟩) (W * H) (W * H)) ∧ V.cell? ⟨F + 1, 0, none⟩ = some (.int .i64 (X : Int)) ∧ V.cell? ⟨F + 1, 1, none⟩ = some (.int .i64 (Y : Int)) ∧ V.cell? ⟨G, 0, none⟩ = some (.int .i64 (x' : Int)) ∧ V.cell? ⟨G, 1, none⟩ = some (.int .i64 (y' : Int))) (first | with_reducible assumption | with_reducible exact pk8_drew (by assumption) | with_reducible exact k8_drewN (by assumption) _ | with_reducible exact pk8_call (by assumption) (by assumption) | exact ⟨Below.drew (Below.refl _ _), t0, t1, t2, t3, t4, t5, g0, g1⟩) (first
          | (go_at_call 87; with_reducible refine (holds_at (W : Int) (H : Int) x' y' _ _ true _ HIN).mono ?_; rintro e w5 ⟨rfl, hb5⟩)
          | (go_at_call 58; with_reducible refine (HC1.out _ (And.left (by assumption))).mono ?_; rintro e w6 ⟨rfl, hb6⟩)
          | (go_at_call 58; with_reducible refine (HC2.out _ (And.left (by assumption))).mono ?_; rintro e w7 ⟨rfl, hb7⟩))
          have hb47 : Below w4.heap.size w4 w7 := (((Below.refl _ _).drew.trans hb5).trans (hb6.mono ((Below.refl _ _).drew.trans hb5).size)).trans (hb7.mono (((Below.refl _ _).drew.trans hb5).trans (hb6.mono ((Below.refl _ _).drew.trans hb5).size)).size)
          have hB7 : Below w0.heap.size w0 w7 := HB4.out.trans (hb47.mono HB4.out.size)
          have HB7 : Hid (Below w0.heap.size w0 w7) := hB7
          have q0 : w7.cell? ⟨G, 0, none⟩ = some (.int .i64 (x' : Int)) := (hb47.cell (p := ⟨G, 0, none⟩) (cell_lt g0)).trans g0
          have q1 : w7.cell? ⟨G, 1, none⟩ = some (.int .i64 (y' : Int)) := (hb47.cell (p := ⟨G, 1, none⟩) (cell_lt g1)).trans g1
          obtain ⟨-, hR7, hsz⟩ := HBX.out w7 hB7
          have HR7 : Hid (w7.heap[F + 1 + 1]? = some (.cells #[.int .i64 0, .int .i64 0] 31)) := hR7
          obtain ⟨r0, r1, r2, r3⟩ := free2 hR7
          clear hb5 hb6 hb7 hb47 hB7 hR7 t0 t1 t2 t3 t4 t5 g0 g1 hw4 hix
          go_wp2_with fail
          obtain ⟨V, hV⟩ : ∃ V, (w7.setCell ⟨F + 1 + 1, 0, none⟩ (.int .i64 (x' : Int))).setCell ⟨F + 1 + 1, 1, none⟩ (.int .i64 (y' : Int)) = V := ⟨_, rfl⟩
          rw [hV]
          have k2 := set2 HR7.out V hV.symm
          refine ⟨by simp, .tuple #[.agg #[.int .i64 (x' : Int), .int .i64 (y' : Int)], .bool true], ?_, ⟨⟨x', y'⟩, true, rfl, .inl ⟨rfl, k, hlt, HS.out.2, ?_, HX.out.symm⟩⟩, ?_⟩
          · rw [results_cell_tmp rfl]
            simp [go_sem, k2.1, k2.2.1]
          · rw [HHIT.out]; simpa using HK2.out
          · exact HB0.out.trans ((HB7.out.mono HB0.out.size).trans (k2.2.2 w.heap.size (by have := HF.out; omega)))
        · have u2 : (E == D - K) = false := by simp [heq]
          have HK2 : Hid (¬ E = D - K) := heq
          clear heq
          go_wp2_with fail
          go_region_held3 (fun V => Below w4.heap.size w4 V ∧ V.cell? ⟨F, 0, none⟩ = some (.int .i64 (W : Int)) ∧ V.cell? ⟨F, 1, none⟩ = some (.int .i64 (H : Int)) ∧ V.cell? ⟨F, 2, none⟩ = some (.slice (some a) (W * H) cp) ∧ V.cell? ⟨F, 3, none⟩ = some (.slice (some ⟨g, 0, none⟩) (W * H) (W * H)) ∧ V.cell? ⟨F + 1, 0, none⟩ = some (.int .i64 (X : Int)) ∧ V.cell? ⟨F + 1, 1, none⟩ = some (.int .i64 (Y : Int)) ∧ V.cell? ⟨G, 0, none⟩ = some (.int .i64 (x' : Int)) ∧ V.cell? ⟨G, 1, none⟩ = some (.int .i64 (y' : Int))) (first | with_reducible assumption | with_reducible exact pk8_drew (by assumption) | with_reducible exact k8_drewN (by assumption) _ | with_reducible exact pk8_call (by assumption) (by assumption) | exact ⟨Below.drew (Below.refl _ _), t0, t1, t2, t3, t4, t5, g0, g1⟩) (first
          | (go_at_call 87; with_reducible refine (holds_at (W : Int) (H : Int) x' y' _ _ true _ HIN).mono ?_; rintro e w5 ⟨rfl, hb5⟩)
          | (go_at_call 58; with_reducible refine (HC1.out _ (And.left (by assumption))).mono ?_; rintro e w6 ⟨rfl, hb6⟩)
          | (go_at_call 58; with_reducible refine (HC2.out _ (And.left (by assumption))).mono ?_; rintro e w7 ⟨rfl, hb7⟩))
          have hb47 : Below w4.heap.size w4 w7 := (((Below.refl _ _).drew.trans hb5).trans (hb6.mono ((Below.refl _ _).drew.trans hb5).size)).trans (hb7.mono (((Below.refl _ _).drew.trans hb5).trans (hb6.mono ((Below.refl _ _).drew.trans hb5).size)).size)
          have hB7 : Below w0.heap.size w0 w7 := HB4.out.trans (hb47.mono HB4.out.size)
          have HB7 : Hid (Below w0.heap.size w0 w7) := hB7
          have HS7 : Hid (Below w0.heap.size w0 w7 ∧ ∀ j, j < k + 1 → phit W H l far ⟨X, Y⟩ j = false) := by
            refine ⟨hB7, fun j' hj' => ?_⟩
            rcases Nat.lt_or_ge j' k with h | h
            · exact HS.out.2 j' h
            · obtain rfl : j' = k := by omega
              rw [HHIT.out]; simpa using HK2.out
          clear hb5 hb6 hb7 hb47 hB7 t0 t1 t2 t3 t4 t5 g0 g1 hw4 hix
          go_wp2_with fail
          go_roundw
          case rel => exact ⟨k + 1, by go_num, by omega, HS7⟩
          case measure => simp [intOf]; omega
    · obtain rfl : k = 4 := by omega
      obtain ⟨-, hR7, hsz⟩ := HBX.out wr HS.out.1
      have HR7 : Hid (wr.heap[F + 1 + 1]? = some (.cells #[.int .i64 0, .int .i64 0] 31)) := hR7
      obtain ⟨r0, r1, r2, r3⟩ := free2 hR7
      clear hR7
      go_wp2_with fail
      obtain ⟨V, hV⟩ : ∃ V, (wr.setCell ⟨F + 1 + 1, 0, none⟩ (.int .i64 0)).setCell ⟨F + 1 + 1, 1, none⟩ (.int .i64 0) = V := ⟨_, rfl⟩
      rw [hV]
      have k2 := set2 HR7.out V hV.symm
      refine ⟨by simp, .tuple #[.agg #[.int .i64 0, .int .i64 0], .bool false], ?_, ⟨⟨0, 0⟩, false, rfl, .inr ⟨rfl, HS.out.2⟩⟩, ?_⟩
      · rw [results_cell_tmp rfl]
        simp [go_sem, k2.1, k2.2.1]
      · exact HB0.out.trans ((HS.out.1.mono HB0.out.size).trans (k2.2.2 w.heap.size (by have := HF.out; omega)))
end Go.Proofs.Ytnbbfnlfcncgnaa
/- What flood.From returns. -/
namespace Go.Proofs.Ytnbbfnlfcncgnaa
open Go.RowKit
set_option linter.unusedVariables false

set_option maxRecDepth 20000 in
set_option maxHeartbeats 1000000 in
theorem From_err (W H : Int) (p q : Option Addr) (n c m d : Nat) (E : Int) (w : World) (h0 : E ≠ 0)
    (hck : Hid (∀ V, Below w.heap.size w V → Calls Try.prog 93 #[.agg #[.int .i64 W, .int .i64 H, .slice p n c], .slice q m d] V fun e w' => e = .returned (.int .i64 E) ∧ Below V.heap.size V w')) :
    Calls Try.prog 83 #[.agg #[.int .i64 W, .int .i64 H, .slice p n c], .slice q m d] w fun e w' => e = .returned (.tuple #[.slice none 0 0, .int .i64 E]) ∧ Below w.heap.size w w' := by
  have e0 : (E == 0) = false := by simp [h0]
  go_enter Try.func83, Try.ntmps83
  go_wp2_with fail
  refine (hck.out _ (alloc_below _ _)).mono ?_
  rintro e w1 ⟨rfl, hb⟩
  have HB : Hid (Below w.heap.size w w1) := below_step (alloc_below w _) (by simp) hb
  clear hb
  go_wp2_with fail
  go_ret2
  exact ⟨rfl, HB.out⟩
theorem From_no (W H : Int) (p q : Option Addr) (n c m d : Nat) (l : List Int) (E : Int) (w : World) (hr : row vi w p l) (hn : l.length = n) (hm : n ≤ 9223372036854775807) (hE : Hid (ck W H l = E)) (h0 : E ≠ 0) :
    Calls Try.prog 83 #[.agg #[.int .i64 W, .int .i64 H, .slice p n c], .slice q m d] w fun e w' => e = .returned (.tuple #[.slice none 0 0, .int .i64 E]) ∧ Below w.heap.size w w' :=
  From_err W H p q n c m d E w h0 (fun V hV => check_no W H p q n c m d l E V (row_below hr hV) hn hm hE h0)
theorem From_many (W H : Int) (p q : Option Addr) (n c m d : Nat) (l : List Int) (w : World) (hr : row vi w p l) (hn : l.length = n) (hm : n ≤ 9223372036854775807) (hE : Hid (ck W H l = 0)) (h0 : 100 < m) :
    Calls Try.prog 83 #[.agg #[.int .i64 W, .int .i64 H, .slice p n c], .slice q m d] w fun e w' => e = .returned (.tuple #[.slice none 0 0, .int .i64 2]) ∧ Below w.heap.size w w' :=
  From_err W H p q n c m d 2 w (by decide) (fun V hV => check_many W H p q n c m d l V (row_below hr hV) hn hm hE h0)
theorem From_cells (W H : Nat) (a : Addr) (q : Option Addr) (c m d : Nat) (l : List Int) (cs : List Cel) (E : Int) (w : World) (hr : row vi w (some a) l) (hW : 1 ≤ W ∧ W ≤ 40) (hH : 1 ≤ H ∧ H ≤ 40) (hl : l.length = W * H) (hg : l.any bad = false)
    (hc : crow w q cs) (hm : cs.length = m) (h100 : m ≤ 100) (hE : Hid (cke W H l cs = E)) (h0 : E ≠ 0) :
    Calls Try.prog 83 #[.agg #[.int .i64 (W : Int), .int .i64 (H : Int), .slice (some a) (W * H) c], .slice q m d] w fun e w' => e = .returned (.tuple #[.slice none 0 0, .int .i64 E]) ∧ Below w.heap.size w w' :=
  From_err W H (some a) q (W * H) c m d E w h0 (fun V hV => check_cells W H a q c m d l cs E V (row_below hr hV) hW hH hl hg (crow_below hc hV) hm h100 hE)

theorem pk3_drew {w V : World} {x y z : Addr} {a b c : Value} (h : Below w.heap.size w V ∧ V.cell? x = some a ∧ V.cell? y = some b ∧ V.cell? z = some c) : Below w.heap.size w V.drew ∧ V.drew.cell? x = some a ∧ V.drew.cell? y = some b ∧ V.drew.cell? z = some c := ⟨h.1.drew, h.2.1, h.2.2.1, h.2.2.2⟩
theorem k3_drewN {w V : World} {x y z : Addr} {a b c : Value} (h : Below w.heap.size w V ∧ V.cell? x = some a ∧ V.cell? y = some b ∧ V.cell? z = some c) (n : Nat) : Below w.heap.size w (V.drewN n) ∧ (V.drewN n).cell? x = some a ∧ (V.drewN n).cell? y = some b ∧ (V.drewN n).cell? z = some c := ⟨below_drewN h.1 n, h.2.1, h.2.2.1, h.2.2.2⟩
theorem pk3_call {w V V' : World} {x y z : Addr} {a b c : Value} (h : Below w.heap.size w V ∧ V.cell? x = some a ∧ V.cell? y = some b ∧ V.cell? z = some c) (hb : Below V.heap.size V V') : Below w.heap.size w V' ∧ V'.cell? x = some a ∧ V'.cell? y = some b ∧ V'.cell? z = some c :=
  ⟨h.1.trans (hb.mono h.1.size), by rw [hb.cell (cell_lt h.2.1)]; exact h.2.1, by rw [hb.cell (cell_lt h.2.2.1)]; exact h.2.2.1, by rw [hb.cell (cell_lt h.2.2.2)]; exact h.2.2.2⟩
theorem k3_alloc {w V : World} {x y z : Addr} {a b c : Value} (h : Below w.heap.size w V ∧ V.cell? x = some a ∧ V.cell? y = some b ∧ V.cell? z = some c) (o : Obj) : Below w.heap.size w (V.alloc o) ∧ (V.alloc o).cell? x = some a ∧ (V.alloc o).cell? y = some b ∧ (V.alloc o).cell? z = some c := pk3_call h (alloc_below V o)
theorem below_one (w : World) (o : Obj) : Below w.heap.size w (w.alloc o).drew := (alloc_below w o).drew
theorem below_two (w : World) (o1 o2 : Obj) : Below w.heap.size w ((w.alloc o1).alloc o2).drew := ((alloc_below w o1).alloc (by simp) _).drew
theorem hi1 (w : World) (o1 o2 : Obj) : ((w.alloc o1).alloc o2).drew.heap[w.heap.size]? = some o1 := by
  show ((w.alloc o1).alloc o2).heap[w.heap.size]? = _
  rw [Below.heap_alloc _ _ _ (by simp)]; exact World.alloc_heap_new w _
theorem hi2 (w : World) (o1 o2 : Obj) : ((w.alloc o1).alloc o2).drew.heap[w.heap.size + 1]? = some o2 := by
  have := World.alloc_heap_new (w.alloc o1) o2
  rwa [World.size_alloc] at this
theorem tide_at {V w3 : World} {T : Nat} (hb : Below V.heap.size V w3) (h : V.heap[T]? = some (.cells #[.int .i64 0, .int .i64 0, .slice none 0 0, .slice none 0 0, .slice none 0 0] 132)) :
    w3.cell? ⟨T, 0, none⟩ = some (.int .i64 0) ∧ w3.cell? ⟨T, 1, none⟩ = some (.int .i64 0) ∧ w3.cell? ⟨T, 2, none⟩ = some (.slice none 0 0) ∧ w3.cell? ⟨T, 3, none⟩ = some (.slice none 0 0) ∧ w3.cell? ⟨T, 4, none⟩ = some (.slice none 0 0) ∧
    w3.frozen? ⟨T, 0, none⟩ = false ∧ w3.frozen? ⟨T, 1, none⟩ = false ∧ w3.frozen? ⟨T, 2, none⟩ = false ∧ w3.frozen? ⟨T, 3, none⟩ = false ∧ w3.frozen? ⟨T, 4, none⟩ = false := by
  have hT : T < V.heap.size := by
    rcases Nat.lt_or_ge T V.heap.size with hlt | hge
    · exact hlt
    · rw [Array.getElem?_eq_none hge] at h; cases h
  have h3 : w3.heap[T]? = some (.cells #[.int .i64 0, .int .i64 0, .slice none 0 0, .slice none 0 0, .slice none 0 0] 132) := (hb.block T hT).trans h
  simp [World.cell?, World.frozen?, h3]
theorem k3_of {w V : World} {x y z : Addr} {a b c : Value} (h1 : w.cell? x = some a) (h2 : w.cell? y = some b) (h3 : w.cell? z = some c) (hb : Below w.heap.size w V) : Below w.heap.size w V ∧ V.cell? x = some a ∧ V.cell? y = some b ∧ V.cell? z = some c :=
  ⟨hb, (hb.cell (cell_lt h1)).trans h1, (hb.cell (cell_lt h2)).trans h2, (hb.cell (cell_lt h3)).trans h3⟩
theorem k3_bel {w V V' : World} {x y z : Addr} {a b c : Value} (hb : Below V.heap.size V V') (h : Below w.heap.size w V ∧ V.cell? x = some a ∧ V.cell? y = some b ∧ V.cell? z = some c) : Below w.heap.size w V' := h.1.trans (hb.mono h.1.size)
theorem below_set5 {w V : World} {T : Nat} (h : Below w.heap.size w V) (hT : w.heap.size ≤ T) (a b c d e : Value) : Below w.heap.size w (((((V.setCell ⟨T, 0, none⟩ a).setCell ⟨T, 1, none⟩ b).setCell ⟨T, 2, none⟩ c).setCell ⟨T, 3, none⟩ d).setCell ⟨T, 4, none⟩ e) :=
  ((((h.setCell (p := ⟨T, 0, none⟩) hT _).setCell (p := ⟨T, 1, none⟩) hT _).setCell (p := ⟨T, 2, none⟩) hT _).setCell (p := ⟨T, 3, none⟩) hT _).setCell (p := ⟨T, 4, none⟩) hT _
/-- The places of the first cells. -/
def fst_ (W : Nat) (cs : List Cel) (i : Nat) : Prop := ∃ x y : Nat, (⟨x, y⟩ : Cel) ∈ cs ∧ i = y * W + x
theorem inv_congr {W H : Nat} {l : List Int} {S S' : Nat → Prop} {far : List Int} {Q : List Stop} {M : Int} {cur : Option Nat} (h : Inv W H l S far Q M cur) (hs : ∀ i, S i ↔ S' i) : Inv W H l S' far Q M cur :=
  ⟨h.len, h.M0, h.que, h.low, fun i hi => (h.zero i hi).trans (hs i), h.just, h.done, h.top⟩
theorem cke_zero {W H : Nat} {l : List Int} : ∀ {cs : List Cel}, cke W H l cs = 0 → ∀ c ∈ cs, ∃ x y : Nat, c = ⟨x, y⟩ ∧ x < W ∧ y < H ∧ pa l (y * W + x) ≠ 1 := by
  intro cs
  induction cs with
  | nil => intro _ c hc; cases hc
  | cons d cs ih =>
    intro h c hc
    unfold cke at h
    cases hin : inb W H d.x d.y with
    | false => rw [if_pos hin] at h; omega
    | true =>
      rw [if_neg (by rw [hin]; decide)] at h
      by_cases hr : pa l (d.y.toNat * W + d.x.toNat) = 1
      · rw [if_pos hr] at h; omega
      · rw [if_neg hr] at h
        rcases List.mem_cons.1 hc with e | e
        · subst e
          obtain ⟨x, y, ex, ey, hx, hy⟩ := pinb_nat hin
          refine ⟨x, y, ?_, hx, hy, ?_⟩
          · cases c; simp at ex ey; rw [ex, ey]
          · rw [ex, ey] at hr; simpa using hr
        · exact ih h c e
theorem fst_take {W : Nat} {cs : List Cel} {k x y : Nat} (hk : k < cs.length) (hc : cs[k] = ⟨x, y⟩) (i : Nat) : (fst_ W (cs.take k) i ∨ i = y * W + x) ↔ fst_ W (cs.take (k + 1)) i := by
  rw [List.take_succ_eq_append_getElem hk, hc]
  unfold fst_
  constructor
  · rintro (⟨a, b, h1, h2⟩ | h)
    · exact ⟨a, b, List.mem_append_left _ h1, h2⟩
    · exact ⟨x, y, List.mem_append_right _ (by simp), h⟩
  · rintro ⟨a, b, h1, h2⟩
    rcases List.mem_append.1 h1 with h | h
    · exact .inl ⟨a, b, h, h2⟩
    · simp at h
      right; rw [h2]
      have : a = x := by omega
      have : b = y := by omega
      subst_vars; rfl
/-- A tide that has just been laid. -/
def fin (w1 : World) (T g N W H : Nat) (pv : Value) (w' : World) : Prop :=
  tbx T w' (.int .i64 (W : Int)) (.int .i64 (H : Int)) pv (.slice (some ⟨g, 0, none⟩) N N) (.slice none 0 0) ∧ mine 3 vi w1.heap.size w' (.slice (some ⟨g, 0, none⟩) N N) (List.replicate N (-1)) ∧ Below w1.heap.size w1 w' ∧ T ≠ g ∧ w1.heap.size ≤ T ∧ w1.heap.size ≤ g ∧ T < w'.heap.size ∧ g < w'.heap.size
theorem fin_alloc {w1 w3 : World} {B g N W H : Nat} {pv : Value} (hb : Below w1.heap.size w1 w3) (hm : mine 3 vi B w3 (.slice (some ⟨g, 0, none⟩) N N) (List.replicate N (-1))) (hB : w1.heap.size ≤ B) :
    fin w1 w3.heap.size g N W H pv (w3.alloc (.cells #[.int .i64 (W : Int), .int .i64 (H : Int), pv, .slice (some ⟨g, 0, none⟩) N N, .slice none 0 0] 132)) := by
  have hg := World.ownsRow.lt hm g rfl
  exact ⟨World.alloc_heap_new _ _, mine_mono (mine_below hm (alloc_below _ _)) hB, hb.alloc hb.size _, by omega, hb.size, by omega, by simp, by simp; omega⟩
theorem fin_set {w1 V w3 : World} {T g N W H : Nat} {pv : Value} (hV : w1.heap.size ≤ V.heap.size) (hT : w1.heap.size ≤ T) (h : V.heap[T]? = some (.cells #[.int .i64 0, .int .i64 0, .slice none 0 0, .slice none 0 0, .slice none 0 0] 132)) (hb3 : Below V.heap.size V w3) (hb : Below w1.heap.size w1 w3) (hm : mine 3 vi V.heap.size w3 (.slice (some ⟨g, 0, none⟩) N N) (List.replicate N (-1))) :
    fin w1 T g N W H pv (((((w3.setCell ⟨T, 0, none⟩ (.int .i64 (W : Int))).setCell ⟨T, 1, none⟩ (.int .i64 (H : Int))).setCell ⟨T, 2, none⟩ pv).setCell ⟨T, 3, none⟩ (.slice (some ⟨g, 0, none⟩) N N)).setCell ⟨T, 4, none⟩ (.slice none 0 0)) := by
  have hg := World.ownsRow.lt hm g rfl
  have hTV : T < V.heap.size := by
    rcases Nat.lt_or_ge T V.heap.size with hlt | hge
    · exact hlt
    · rw [Array.getElem?_eq_none hge] at h; cases h
  have h3 : w3.heap[T]? = some (.cells #[.int .i64 0, .int .i64 0, .slice none 0 0, .slice none 0 0, .slice none 0 0] 132) := (hb3.block T hTV).trans h
  have E1 := fun (V : World) (p : Addr) (u : Value) (hp : p.block = T) => Ex.set (S := fun k => k = T) V p hp u
  have T1 := fun {a b c : World} (h : Ex (fun k => k = T) a b) (k : Ex (fun k => k = T) b c) => Ex.trans h k (fun _ _ e => e)
  have E := T1 (T1 (T1 (T1 (E1 w3 ⟨T, 0, none⟩ (.int .i64 (W : Int)) rfl) (E1 _ ⟨T, 1, none⟩ (.int .i64 (H : Int)) rfl)) (E1 _ ⟨T, 2, none⟩ pv rfl)) (E1 _ ⟨T, 3, none⟩ (.slice (some ⟨g, 0, none⟩) N N) rfl)) (E1 _ ⟨T, 4, none⟩ (.slice none 0 0) rfl)
  have s0 := heap_setCell_same w3 T 0 _ 132 (.int .i64 (W : Int)) h3
  have s1 := heap_setCell_same _ T 1 _ 132 (.int .i64 (H : Int)) s0
  have s2 := heap_setCell_same _ T 2 _ 132 pv s1
  have s3 := heap_setCell_same _ T 3 _ 132 (.slice (some ⟨g, 0, none⟩) N N) s2
  have s4 := heap_setCell_same _ T 4 _ 132 (.slice none 0 0) s3
  refine ⟨by unfold tbx; rw [s4]; rfl, mine_mono (mine_ex hm E (fun k hk e => ?_)) hV, below_set5 hb hT _ _ _ _ _, by omega, hT, by omega, ?_, ?_⟩
  · simp [Value.ownBlock] at hk; omega
  · have := E.size; have := hb3.size; omega
  · have := E.size; omega
theorem mine_base {t : TypeId} {α : Type} {f : α → Value} {B B' g n cap : Nat} {w : World} {L : List α} (h : mine t f B w (.slice (some ⟨g, 0, none⟩) n cap) L) (hB : B' ≤ g) : mine t f B' w (.slice (some ⟨g, 0, none⟩) n cap) L := by
  refine ⟨h.1, ?_⟩
  rcases h.2 with ⟨h0, _⟩ | ⟨g', cap', cur, hv, _, hr⟩
  · cases h0
  · refine .inr ⟨g', cap', cur, hv, ?_, hr⟩
    simp only [Value.slice.injEq, Option.some.injEq, Addr.mk.injEq, and_true] at hv
    rw [← hv.1]; exact hB
/-- How the first cells are reached. -/
def lst (B T C W H : Nat) (pv : Value) (N : Nat) (w : World) (l : List Int) (S : Nat → Prop) (far : List Int) (v : Value) (Q : List Stop) (wr : World) : Prop :=
  tde B T C W H pv N far v Q wr ∧ Inv W H l S far Q 0 none ∧ (∀ i, i < W * H → pa far i ≤ 0) ∧ pcnt far + Q.length = W * H ∧ Below w.heap.size w wr
theorem below_trn {B T C : Nat} {w wr w' : World} {v : Value} (h : Below w.heap.size w wr) (he : Ex (trn T C v) wr w') (hT : w.heap.size ≤ T) (hC : w.heap.size ≤ C) (hv : ∀ g, v.ownBlock = some g → w.heap.size ≤ g) : Below w.heap.size w w' :=
  h.trans (he.below h.size (fun k hk e => by
    rcases e with e | e | e
    · omega
    · omega
    · have := hv k e.symm; omega))
theorem lst_next {B T C W H N : Nat} {pv : Value} {w wr w' : World} {l : List Int} {cs : List Cel} {far far' : List Int} {v v' : Value} {Q Q' : List Stop} {k x y : Nat} (h : lst B T C W H pv N w l (fst_ W (cs.take k)) far v Q wr)
    (hk : k < cs.length) (hc : cs[k] = ⟨x, y⟩) (hx : x < W) (hy : y < H) (hr : pa l (y * W + x) ≠ 1) (ht : tde B T C W H pv N far' v' Q' w') (hch : prch far Q (y * W + x) ⟨x, y, 0⟩ far' Q') (he : Ex (trn T C v) wr w') (hT : w.heap.size ≤ T) (hC : w.heap.size ≤ C) (hB : w.heap.size ≤ B) :
    lst B T C W H pv N w l (fst_ W (cs.take (k + 1))) far' v' Q' w' := by
  obtain ⟨h1, h2, h3, h4, h5⟩ := h
  have hj := pl_lt hx hy
  have hb := below_trn (B := B) h5 he hT hC (fun g hg => by have := (World.ownsRow.lt h1.2.2.1 g hg).1; omega)
  rcases hch with ⟨q1, rfl, rfl⟩ | ⟨q1, rfl, q3⟩
  · exact ⟨ht, inv_congr (inv_again h2 h3 hj q1) (fst_take hk hc), h3, h4, hb⟩
  · refine ⟨ht, inv_congr (inv_first h2 h3 q1 hr ⟨x, y, rfl, rfl, hx, hy, rfl⟩ rfl q3) (fst_take hk hc), fun i hi => ?_, ?_, hb⟩
    · rw [pa_set far i _ _ (by rw [h2.len]; exact hj)]
      split
      · exact Int.le_refl _
      · exact h3 i hi
    · have := cnt_set (v := 0) (by rw [h2.len]; exact hj) q1 (by omega)
      have h6 := q3.length_eq
      simp at h6 ⊢; omega
set_option maxRecDepth 20000 in
set_option maxHeartbeats 2000000 in
theorem From_ok (W H : Nat) (a : Addr) (q : Option Addr) (c m d : Nat) (l : List Int) (cs : List Cel) (w : World) (hr : row vi w (some a) l) (hW : 1 ≤ W ∧ W ≤ 40) (hH : 1 ≤ H ∧ H ≤ 40) (hl : l.length = W * H) (hg : l.any bad = false)
    (hc : crow w q cs) (hm : cs.length = m) (h100 : m ≤ 100) (hE : Hid (cke W H l cs = 0)) (ha : a.block < w.heap.size) :
    Calls Try.prog 83 #[.agg #[.int .i64 (W : Int), .int .i64 (H : Int), .slice (some a) (W * H) c], .slice q m d] w fun e w' => ∃ (g : Nat) (far : List Int), e = .returned (.tuple #[.slice (some ⟨g, 0, none⟩) (W * H) (W * H), .int .i64 0]) ∧ mine 3 vi w.heap.size w' (.slice (some ⟨g, 0, none⟩) (W * H) (W * H)) far ∧ Sol W H l (fst_ W cs) far ∧ Below w.heap.size w w' := by
  have HR : Hid (row vi w (some a) l) := hr
  have HC : Hid (crow w q cs) := hc
  have HM : Hid (cs.length = m) := hm
  have HX : Hid ((1 ≤ W ∧ W ≤ 40) ∧ (1 ≤ H ∧ H ≤ 40) ∧ l.length = W * H ∧ l.any bad = false) := ⟨hW, hH, hl, hg⟩
  have hN1 : 1 ≤ W * H := one_le hW hH
  have hN2 : W * H ≤ 1600 := wh_le hW hH
  clear hr hW hH hl hg hc hm
  obtain ⟨w0, hw0⟩ : ∃ w0, w.alloc (.cells #[.int .i64 (W : Int), .int .i64 (H : Int), .slice (some a) (W * H) c] 24) = w0 := ⟨_, rfl⟩
  have hB0 : Below w.heap.size w w0 := by rw [← hw0]; exact alloc_below _ _
  have hb0 : ∀ V, Below w0.heap.size w0 V → V.cell? ⟨w.heap.size, 0, none⟩ = some (.int .i64 (W : Int)) ∧ V.cell? ⟨w.heap.size, 1, none⟩ = some (.int .i64 (H : Int)) ∧ V.cell? ⟨w.heap.size, 2, none⟩ = some (.slice (some a) (W * H) c) := by
    intro V hV; subst hw0; exact box3 hV
  have HB0 : Hid (Below w.heap.size w w0) := hB0
  have HF : Hid (∀ V, Below w0.heap.size w0 V → V.cell? ⟨w.heap.size, 0, none⟩ = some (.int .i64 (W : Int)) ∧ V.cell? ⟨w.heap.size, 1, none⟩ = some (.int .i64 (H : Int)) ∧ V.cell? ⟨w.heap.size, 2, none⟩ = some (.slice (some a) (W * H) c)) := hb0
  obtain ⟨z0, z1, z2⟩ := hb0 w0 (Below.refl _ _)
  clear hB0 hb0
  go_enter Try.func83, Try.ntmps83
  go_wp2_with fail
  refine (check_cells W H a q c m d l cs 0 w0 (row_below HR.out HB0.out) HX.out.1 HX.out.2.1 HX.out.2.2.1 HX.out.2.2.2 (crow_below HC.out HB0.out) HM.out h100 hE).mono ?_
  rintro e w1 ⟨rfl, hb1⟩
  obtain ⟨f0, f1, f2⟩ := HF.out w1 hb1
  have HB1 : Hid (Below w0.heap.size w0 w1) := hb1
  clear hb1 hw0 z0 z1 z2
  go_wp2_with fail
  have hz : w.heap.size < w1.heap.size := cell_lt f0
  refine cut_wp (fun a' w' => ∃ T g s5 : Nat, a' = { tmps := #[.agg #[.int .i64 (W : Int), .int .i64 (H : Int), .slice (some a) (W * H) c], .slice q m d, .pointer (some ⟨w.heap.size, 0, none⟩), undef, .slice none 0 0, .int .i64 0, .int .i64 0, .pointer (some ⟨T, 0, none⟩), undef, undef, .agg #[.int .i64 (W : Int), .int .i64 (H : Int), .slice (some a) (W * H) c], .slice q m d, .int .i64 0, .int .i64 0, .bool false, undef, .agg #[.int .i64 (W : Int), .int .i64 (H : Int), .slice (some a) (W * H) c], .slice (some ⟨s5, 0, none⟩) 1 1, .pointer (some ⟨w.heap.size, 2, none⟩), .slice (some a) (W * H) c, .int .i64 ((W : Int) * (H : Int)), .slice (some ⟨g, 0, none⟩) (W * H) (W * H), .agg #[.int .i64 (W : Int), .int .i64 (H : Int), .slice (some a) (W * H) c, .slice (some ⟨g, 0, none⟩) (W * H) (W * H), .slice none 0 0], undef, undef, undef, undef, undef, undef, undef, undef, undef, undef, undef, undef, undef, undef, undef, undef, undef, undef], defers := [] } ∧ fin w1 T g (W * H) W H (.slice (some a) (W * H) c) w') ?first ?rest
  case first =>
    go_region_held3 (fun V => Below w1.heap.size w1 V ∧ V.cell? ⟨w.heap.size, 0, none⟩ = some (.int .i64 (W : Int)) ∧ V.cell? ⟨w.heap.size, 1, none⟩ = some (.int .i64 (H : Int)) ∧ V.cell? ⟨w.heap.size, 2, none⟩ = some (.slice (some a) (W * H) c)) (first | with_reducible assumption | with_reducible exact pk3_drew (by assumption) | with_reducible exact k3_drewN (by assumption) _ | with_reducible exact pk3_call (by assumption) (by assumption) | with_reducible exact k3_alloc (by assumption) _ | with_reducible exact k3_of f0 f1 f2 (hB13.alloc hB13.size _) | with_reducible exact k3_of f0 f1 f2 (below_set5 hB13 (Nat.le_refl _) _ _ _ _ _) | with_reducible exact k3_of f0 f1 f2 (below_set5 hB13 (Nat.le_succ _) _ _ _ _ _) | with_reducible exact k3_of f0 f1 f2 (Below.drew (Below.refl _ _)) | with_reducible exact k3_of f0 f1 f2 (below_one _ _) | with_reducible exact k3_of f0 f1 f2 (below_two _ _ _) | with_reducible exact k3_of f0 f1 f2 (Below.refl _ _)) (first
      | (go_at_call 94; refine (Repeat_any ⟨_, 0, none⟩ 1 (W * H) _ (by simp [go_sem]) hN1 hN2).mono ?_; rintro e w3 ⟨g, rfl, hg3, hm3, hb3⟩; have hB13 : Below w1.heap.size w1 w3 := k3_bel hb3 (by assumption); first | (with_reducible (have y5 := tide_at (T := w1.heap.size) hb3 (hi1 _ _ _)); obtain ⟨y0, y1, y2, y3, y4, x0, x1, x2, x3, x4⟩ := y5) | (with_reducible (have y5 := tide_at (T := w1.heap.size + 1) hb3 (hi2 _ _ _)); obtain ⟨y0, y1, y2, y3, y4, x0, x1, x2, x3, x4⟩ := y5) | skip))
    · exact ⟨_, g, _, rfl, fin_alloc hB13 hm3 (below_one w1 (.cells #[.int .i64 (-1)] 3)).size⟩
    · exact ⟨_, g, _, rfl, fin_set (below_two _ _ _).size (Nat.le_succ _) (hi2 _ _ _) hb3 hB13 hm3⟩
    · exact ⟨_, g, _, rfl, fin_set (below_two _ _ _).size (Nat.le_refl _) (hi1 _ _ _) hb3 hB13 hm3⟩
  case rest =>
    rintro a' w4 ⟨T, C, s5, rfl, hfin⟩
    obtain ⟨q1, q2, q3, q4, q5, q6, q7, q8⟩ := hfin
    have hw1 : w.heap.size ≤ w1.heap.size := by omega
    have hbw1 : Below w.heap.size w w1 := HB0.out.trans (HB1.out.mono HB0.out.size)
    have hbw4 : Below w.heap.size w w4 := hbw1.trans (q3.mono hw1)
    obtain ⟨B, hB⟩ : ∃ B, w4.heap.size = B := ⟨_, rfl⟩
    have HTC : Hid (w.heap.size ≤ T ∧ w.heap.size ≤ C ∧ w.heap.size ≤ B ∧ T < B ∧ C < B) := by unfold Hid; omega
    have HL : Hid (lst B T C W H (.slice (some a) (W * H) c) (W * H) w l (fst_ W (cs.take 0)) (List.replicate (W * H) (-1)) (.slice none 0 0) [] w4) := by
      refine ⟨⟨by simpa using q1, by simpa using mine_mono q2 (Nat.zero_le _), que_nil _ _, fun k _ hk => by simp at hk, by omega, by omega, q4, by omega⟩, inv_congr (inv_start W H l) (fun i => ⟨fun e => e.elim, fun ⟨x, y, h, _⟩ => by simp at h⟩), fun i hi => ?_, ?_, hbw4⟩
      · unfold pa; simp [List.getD_eq_getElem?_getD, hi]
      · unfold pcnt; rw [List.count_replicate_self]; simp
    clear q1 q2 q3 q4 q5 q6 q7 q8 hbw1 hbw4 hw1 hz f0 f1 f2 hB HF HB1
    go_wp2_with fail
    go_loopw [25] (fun i wr => ∃ (k : Nat), i = .int .i64 k ∧ k ≤ m ∧ ∃ far v Q, Hid (lst B T C W H (.slice (some a) (W * H) c) (W * H) w l (fst_ W (cs.take k)) far v Q wr)) (fun i _ => m - (intOf i).toNat)
    case atStart => exact ⟨0, rfl, by omega, _, _, _, HL⟩
    case round =>
      obtain ⟨k, rfl, hk, far, v, Q, HS⟩ := hrel
      by_cases hlt : k < m
      · have hkl : k < cs.length := by rw [HM.out]; exact hlt
        obtain ⟨b, rfl, hx, hy⟩ := crow_at (crow_below HC.out HS.out.2.2.2.2) hkl
        obtain ⟨x, y, hc, hxW, hyH, hr1⟩ := cke_zero hE.out cs[k] (List.getElem_mem hkl)
        rw [hc] at hx hy
        have hx' : wr.cell? (b.add (k * 2)) = some (.int .i64 (x : Int)) := hx
        have hy' : wr.cell? ⟨(b.add (k * 2)).block, (b.add (k * 2)).off + 1, none⟩ = some (.int .i64 (y : Int)) := cell_two hy
        have HCk : Hid (cs[k] = ⟨x, y⟩) := hc
        have HR1 : Hid (pa l (y * W + x) ≠ 1) := hr1
        have l1 : (k : Int) < m := by omega
        obtain ⟨w5, hw5⟩ : ∃ w5, wr.alloc (.cells #[.int .i64 (x : Int), .int .i64 (y : Int)] 31) = w5 := ⟨_, rfl⟩
        obtain ⟨G, hG⟩ : ∃ G, wr.heap.size = G := ⟨_, rfl⟩
        have hb5 : Below wr.heap.size wr w5 := by rw [← hw5]; exact alloc_below _ _
        have g0 : w5.cell? ⟨G, 0, none⟩ = some (.int .i64 (x : Int)) ∧ w5.cell? ⟨G, 1, none⟩ = some (.int .i64 (y : Int)) := by rw [← hw5, ← hG]; constructor <;> simp [go_sem]
        obtain ⟨g0, g1⟩ := g0
        obtain ⟨s1, s2, s3, s4, s6⟩ := HS.out
        have HS5 : Hid (lst B T C W H (.slice (some a) (W * H) c) (W * H) w l (fst_ W (cs.take k)) far v Q w5) := ⟨tde_below s1 hb5, s2, s3, s4, s6.trans (hb5.mono s6.size)⟩
        have hfl : far.length = W * H := s2.len
        have HFL : Hid (far.length = W * H) := hfl
        have hQl : Q.length ≤ 1600 := by omega
        clear s1 s2 s3 s4 s6 hb5 hx hy hc hr1 hfl
        go_wp2_with fail
        refine (reach_any B T C W H _ (W * H) far v Q x y (y * W + x) 0 w5 HS5.out.1 rfl (by rw [HFL.out]; exact pl_lt hxW hyH) (by rw [HFL.out]; exact hN2) hQl).mono ?_
        rintro e w6 ⟨rfl, far', v', Q', ht6, hc6, he6, ho6⟩
        have HS6 : Hid (lst B T C W H (.slice (some a) (W * H) c) (W * H) w l (fst_ W (cs.take (k + 1))) far' v' Q' w6) :=
          lst_next HS5.out hkl HCk.out hxW hyH HR1.out ht6 hc6 he6 HTC.out.1 HTC.out.2.1 HTC.out.2.2.1
        clear ht6 hc6 he6 ho6
        go_wp2_with fail
        go_roundw
        case rel => exact ⟨k + 1, by go_num, by omega, far', v', Q', HS6⟩
        case measure => simp [intOf]; omega
      · have HS2 : Hid (lst B T C W H (.slice (some a) (W * H) c) (W * H) w l (fst_ W cs) far v Q wr) := by
          have := HS.out
          rwa [List.take_of_length_le (by rw [HM.out]; omega)] at this
        obtain ⟨w7, hw7⟩ : ∃ w7 : World, w7 = wr := ⟨_, rfl⟩
        subst hw7
        clear HS HL
        go_wp2_with fail
        go_loopg [] (W * H) (fun k wr => ∃ far v Q M, Hid (tde B T C W H (.slice (some a) (W * H) c) (W * H) far v Q wr ∧ Inv W H l (fst_ W cs) far Q M none ∧ pcnt far + Q.length = k ∧ k ≤ W * H ∧ Below w.heap.size w wr))
        case atStart =>
          obtain ⟨s1, s2, s3, s4, s6⟩ := HS2.out
          exact ⟨far, v, Q, 0, s1, s2, s4, Nat.le_refl _, s6⟩
        case round =>
          obtain ⟨far2, v2, Q2, M, HG⟩ := hrel
          obtain ⟨s1, s2, s3, s4, s5⟩ := HG.out
          obtain ⟨_, _, _, c3, c4, _⟩ := tbx_cells s1.1
          obtain ⟨⟨pq, cq, hv⟩, _⟩ := que_forms s1.2.2.1
          rw [s2.len] at c3
          cases hQ : Q2.length with
          | zero =>
            rw [hv, hQ] at c4
            have hQ0 : Q2 = [] := List.eq_nil_of_length_eq_zero hQ
            have HE : Hid (Sol W H l (fst_ W cs) far2) := by rw [hQ0] at s2; exact inv_end s2
            have HMn : Hid (mine 3 vi w.heap.size wr (.slice (some ⟨C, 0, none⟩) (W * H) (W * H)) far2) := by
              have h2 := s1.2.1
              rw [s2.len] at h2
              exact mine_base h2 HTC.out.2.1
            have HBw : Hid (Below w.heap.size w wr) := s5
            clear s1 s2 s3 s4 s5 hv HG
            go_wp2_with fail
            go_ret2
            exact ⟨C, far2, rfl, HMn.out, HE.out, HBw.out⟩
          | succ n =>
            rw [hv, hQ] at c4
            have hn1 : n < 1600 := by omega
            have hBs : B ≤ wr.heap.size := s1.2.2.2.2.2.2.2
            have hp0 : (0 : Int) < (n : Int) + 1 := by omega
            have HQ : Hid (Q2.length = n + 1) := hQ
            clear s1 s2 s3 s4 s5 hv hQ
            go_wp2_with fail
            refine (next_any B T _ _ _ _ v2 Q2 n wr HG.out.1.1 HG.out.1.2.2.1 HQ.out HTC.out.2.2.2.1 hBs (by omega) HG.out.1.2.2.2.1).mono ?_
            rintro e w8 ⟨s, v3, Q3, rfl, ht8, hq8, hp8, hh8, hm8, he8, ho8⟩
            obtain ⟨s1, s2, s3, s4, s5⟩ := HG.out
            obtain ⟨i, hi, hc, hI⟩ := inv_pop s2 hp8 hm8
            obtain ⟨X, Y, hX, hY, hXW, hYH, hiXY⟩ := hi
            have hgq := World.ownsRow.lt s1.2.2.1
            have hTC := HTC.out
            have ht9 : tde B T C W H (.slice (some a) (W * H) c) (W * H) far2 v3 Q3 w8 := ⟨ht8, mine_ex s1.2.1 he8 (fun g' hg' e => by
              simp [Value.ownBlock] at hg'
              subst hg'
              rcases e with e | e
              · exact s1.2.2.2.2.2.2.1 e.symm
              · have := (hgq _ e.symm).1; omega), hq8, hh8, by omega, by omega, s1.2.2.2.2.2.2.1, by have := he8.size; omega⟩
            have hb9 : Below w.heap.size w w8 := s5.trans (he8.below s5.size (fun k' hk' e => by
              rcases e with e | e
              · omega
              · have := (hgq _ e.symm).1; omega))
            have hcn : pcnt far2 + Q3.length = gk - 1 := by have := hp8.length_eq; simp at this; omega
            have hrw : row vi w8 (some a) l := row_below HR.out hb9
            have HT9 : Hid (tde B T C W H (.slice (some a) (W * H) c) (W * H) far2 v3 Q3 w8) := ht9
            have HI9 : Hid (Inv W H l (fst_ W cs) far2 Q3 s.c (some i) ∧ pa far2 i = s.c ∧ i = Y * W + X) := ⟨hI, hc, hiXY⟩
            have HB9 : Hid (Below w.heap.size w w8) := hb9
            have HC9 : Hid (pcnt far2 + Q3.length = gk - 1) := hcn
            have HR9 : Hid (row vi w8 (some a) l) := hrw
            have hk1 : 1 ≤ gk ∧ gk ≤ W * H := by have := HQ.out; omega
            rw [hX, hY]
            clear s1 s2 s3 s4 s5 ht8 hq8 hp8 hh8 hm8 he8 ho8 hI hc hiXY hgq ht9 hb9 hcn hrw hX hY hTC HG
            go_wp2_with fail
            refine (spread_any B T C W H a c (W * H) far2 v3 Q3 l (fst_ W cs) s.c X Y i (gk - 1) w8 HT9.out HI9.out.1 HI9.out.2.1 HI9.out.2.2 hXW hYH HX.out.1.2 HX.out.2.1.2 HX.out.2.2.1 HX.out.2.2.2 HR9.out (by have := HTC.out; omega) (by have := HTC.out; omega) (by have := HTC.out; omega) HC9.out (by omega)).mono ?_
            rintro e w10 ⟨rfl, far4, v4, Q4, ht10, hI10, hc10, he10, ho10⟩
            have HB10 : Hid (Below w.heap.size w w10) := below_trn (B := B) HB9.out he10 HTC.out.1 HTC.out.2.1 (fun g' hg' => by have := (World.ownsRow.lt HT9.out.2.2.1 g' hg').1; have := HTC.out; omega)
            have HG10 : Hid (tde B T C W H (.slice (some a) (W * H) c) (W * H) far4 v4 Q4 w10 ∧ Inv W H l (fst_ W cs) far4 Q4 s.c none ∧ pcnt far4 + Q4.length = gk - 1) := ⟨ht10, hI10, hc10⟩
            clear ht10 hI10 hc10 he10 ho10
            go_wp2_with fail
            go_roundg (gk - 1)
            case rel => exact ⟨far4, v4, Q4, s.c, HG10.out.1, HG10.out.2.1, HG10.out.2.2, by omega, HB10.out⟩
            case measure => omega
end Go.Proofs.Ytnbbfnlfcncgnaa
/- What flood.From returns, whatever is handed in; ways, and back. -/
namespace Go.Proofs.Ytnbbfnlfcncgnaa
open Go.RowKit
set_option linter.unusedVariables false

/-- Which error From is of. -/
def fer (A B : Int) (l : List Int) (cs : List Cel) : Int := if ck A B l ≠ 0 then ck A B l else if 100 < cs.length then 2 else cke A.toNat B.toNat l cs
/-- From has found nothing but an error. -/
def fno (A B : Int) (l : List Int) (cs : List Cel) (e : Ending) : Prop := ∃ E, E ≠ 0 ∧ fer A B l cs = E ∧ e = .returned (.tuple #[.slice none 0 0, .int .i64 E])
/-- From has found how far it is. -/
def fyes (A B : Int) (l : List Int) (cs : List Cel) (n : Nat) (w w' : World) (e : Ending) : Prop := ∃ (W H g : Nat) (far : List Int), A = W ∧ B = H ∧ n = W * H ∧ okf W H l ∧ cs.length ≤ 100 ∧ cke W H l cs = 0 ∧ e = .returned (.tuple #[.slice (some ⟨g, 0, none⟩) (W * H) (W * H), .int .i64 0]) ∧ mine 3 vi w.heap.size w' (.slice (some ⟨g, 0, none⟩) (W * H) (W * H)) far ∧ Sol W H l (fst_ W cs) far
theorem From_any (A B : Int) (p q : Option Addr) (n c m d : Nat) (l : List Int) (cs : List Cel) (w : World) (hr : row vi w p l) (hn : l.length = n) (hm : n ≤ 9223372036854775807) (hc : crow w q cs) (hcm : cs.length = m) :
    Calls Try.prog 83 #[.agg #[.int .i64 A, .int .i64 B, .slice p n c], .slice q m d] w fun e w' => (fno A B l cs e ∨ fyes A B l cs n w w' e) ∧ Below w.heap.size w w' := by
  by_cases h0 : ck A B l = 0
  · obtain ⟨W, H, rfl, rfl, hW, hH, hl, hg⟩ := ck_yes h0
    have h1 : 1 ≤ l.length := by rw [hl]; exact one_le hW hH
    obtain ⟨a, rfl⟩ := row_some hr (by omega)
    have ha : a.block < w.heap.size := by
      obtain ⟨b, hb, hcl⟩ := row_at hr (j := 0) (by omega)
      cases hb
      have := cell_lt hcl
      rwa [add_block] at this
    rw [hl] at hn
    subst hn
    by_cases h2 : 100 < m
    · refine (From_many W H (some a) q (W * H) c m d l w hr hl hm h0 h2).mono ?_
      rintro e w' ⟨rfl, hb⟩
      exact ⟨.inl ⟨2, by decide, by unfold fer; rw [if_neg (by simp [h0]), if_pos (by omega)], rfl⟩, hb⟩
    · by_cases h3 : cke W H l cs = 0
      · refine (From_ok W H a q c m d l cs w hr hW hH hl hg hc hcm (by omega) h3 ha).mono ?_
        rintro e w' ⟨g, far, rfl, h4, h5, hb⟩
        exact ⟨.inr ⟨W, H, g, far, rfl, rfl, rfl, ⟨hW, hH, hl, hg⟩, by omega, h3, rfl, h4, h5⟩, hb⟩
      · refine (From_cells W H a q c m d l cs _ w hr hW hH hl hg hc hcm (by omega) rfl h3).mono ?_
        rintro e w' ⟨rfl, hb⟩
        exact ⟨.inl ⟨_, h3, by unfold fer; rw [if_neg (by simp [h0]), if_neg (by omega)]; rfl, rfl⟩, hb⟩
  · refine (From_no A B p q n c m d l _ w hr hn hm rfl h0).mono ?_
    rintro e w' ⟨rfl, hb⟩
    exact ⟨.inl ⟨_, h0, by unfold fer; rw [if_pos h0], rfl⟩, hb⟩
/-- From p there is a way to a place, of such a cost. -/
inductive Way (W H : Nat) (l : List Int) (p : Nat) : Nat → Int → Prop
  | nil : Way W H l p p 0
  | snoc {n q : Nat} {c : Int} : Way W H l p n c → adj W H n q → pa l q ≠ 1 → Way W H l p q (c + kc (pa l q))
theorem way_end {W H : Nat} {l : List Int} {p q : Nat} {c : Int} (h : Way W H l p q c) (hp : pa l p ≠ 1) : pa l q ≠ 1 := by
  cases h with
  | nil => exact hp
  | snoc _ _ h => exact h
theorem way_cons {W H : Nat} {l : List Int} {p n q : Nat} {c : Int} (ha : adj W H p n) (hn : pa l n ≠ 1) (h : Way W H l n q c) : Way W H l p q (kc (pa l n) + c) := by
  induction h with
  | nil => have := Way.snoc Way.nil ha hn; rw [Int.zero_add] at this; rwa [Int.add_zero]
  | snoc h1 h2 h3 ih => have := Way.snoc ih h2 h3; rwa [Int.add_assoc] at this
theorem way_back {W H : Nat} {l : List Int} {p q : Nat} {c : Int} (hp : pa l p ≠ 1) (h : Way W H l p q c) : Way W H l q p (c - kc (pa l q) + kc (pa l p)) := by
  induction h with
  | nil => have : (0 : Int) - kc (pa l p) + kc (pa l p) = 0 := by omega
           rw [this]; exact Way.nil
  | snoc h1 h2 h3 ih =>
    have := way_cons (adj_symm h2) (way_end h1 hp) ih
    have e : ∀ a b c d : Int, a + (b - a + d) = b + c - c + d := by intros; omega
    rwa [e] at this
theorem sol_way {W H : Nat} {l : List Int} {S : Nat → Prop} {p : Nat} {far : List Int} (h : Sol W H l S far) (hS : ∀ i, i < W * H → (S i ↔ i = p)) : ∀ (n : Nat) (q : Nat), q < W * H → pa far q = n → Way W H l p q n := by
  intro n
  induction n using Nat.strongRecOn with
  | ind n ih =>
    intro q hq he
    rcases Nat.eq_zero_or_pos n with h0 | h0
    · have : q = p := (hS q hq).1 ((h.zero q hq).1 (by omega))
      rw [h0, this]; exact Way.nil
    · obtain ⟨m, h1, h2, h3⟩ := h.just q hq (by omega)
      have hk := kc_bd (pa l q)
      have hr : pa l q ≠ 1 := fun e => by have := h.rock q hq e; omega
      have h4 := ih (pa far m).toNat (by omega) m (adj_lt h1).1 (by omega)
      have h5 := Way.snoc h4 h1 hr
      have : ((pa far m).toNat : Int) + kc (pa l q) = n := by omega
      rwa [this] at h5
theorem way_le {W H : Nat} {l : List Int} {S : Nat → Prop} {p q : Nat} {c : Int} {far : List Int} (h : Sol W H l S far) (hS : ∀ i, i < W * H → (S i ↔ i = p)) (hp : p < W * H) (hw : Way W H l p q c) : 0 ≤ pa far q ∧ pa far q ≤ c := by
  induction hw with
  | nil => have := (h.zero p hp).2 ((hS p hp).2 rfl); omega
  | snoc h1 h2 h3 ih => have := h.best _ _ h2 ih.1 h3; omega
theorem sol_back {W H : Nat} {l : List Int} {S T : Nat → Prop} {p q : Nat} {x y : List Int} (hx : Sol W H l S x) (hy : Sol W H l T y) (hS : ∀ i, i < W * H → (S i ↔ i = p)) (hT : ∀ i, i < W * H → (T i ↔ i = q)) (hp : p < W * H) (hq : q < W * H) (rp : pa l p ≠ 1) (rq : pa l q ≠ 1) :
    (pa x q < 0 ∧ pa y p < 0) ∨ (0 ≤ pa x q ∧ pa x q - kc (pa l q) = pa y p - kc (pa l p)) := by
  have k1 : 0 ≤ pa x q → 0 ≤ pa y p ∧ pa y p ≤ pa x q - kc (pa l q) + kc (pa l p) := fun h0 =>
    way_le hy hT hq (by have := way_back rp (sol_way hx hS (pa x q).toNat q hq (by omega)); rwa [Int.toNat_of_nonneg h0] at this)
  have k2 : 0 ≤ pa y p → 0 ≤ pa x q ∧ pa x q ≤ pa y p - kc (pa l p) + kc (pa l q) := fun h0 =>
    way_le hx hS hp (by have := way_back rq (sol_way hy hT (pa y p).toNat p hp (by omega)); rwa [Int.toNat_of_nonneg h0] at this)
  by_cases h0 : 0 ≤ pa x q
  · have := k1 h0; have := k2 (k1 h0).1; right; omega
  · by_cases h1 : 0 ≤ pa y p
    · exact absurd (k2 h1).1 h0
    · left; omega
theorem fst_one {W : Nat} {x y : Nat} {i : Nat} : fst_ W [⟨x, y⟩] i ↔ i = y * W + x := by
  unfold fst_
  constructor
  · rintro ⟨a, b, h, e⟩
    simp at h
    have e1 : a = x := by omega
    have e2 : b = y := by omega
    rw [e, e1, e2]
  · intro e; exact ⟨x, y, by simp, e⟩
theorem sol_bd {W H : Nat} {l : List Int} {S : Nat → Prop} {far : List Int} (h : Sol W H l S far) (hN : W * H ≤ 1600) (i : Nat) (hi : i < W * H) : -1 ≤ pa far i ∧ pa far i ≤ 4800 := by
  have := h.top i hi
  rcases h.low i hi with e | e <;> omega
theorem pmine_row {B g n cap : Nat} {w : World} {L : List Int} (h : mine 3 vi B w (.slice (some ⟨g, 0, none⟩) n cap) L) : row vi w (some ⟨g, 0, none⟩) L := by
  obtain ⟨p, c', e, h, _⟩ := mine_full h
  simp only [Value.slice.injEq] at e
  rw [e.1]; exact h
end Go.Proofs.Ytnbbfnlfcncgnaa
/- What path.check and reachOf return. -/
namespace Go.Proofs.Ytnbbfnlfcncgnaa
open Go.RowKit
set_option linter.unusedVariables false

/-- Which error At is of, and which sort it tells. -/
def ate (A B : Int) (l : List Int) (c : Cel) : Int := if ck A B l ≠ 0 then ck A B l else if inb A.toNat B.toNat c.x c.y = false then 7 else 0
def atz (A B : Int) (l : List Int) (c : Cel) : Int := if ate A B l c ≠ 0 then 0 else pa l (ixc A.toNat c)
theorem pAt_any (A B : Int) (p : Option Addr) (n c : Nat) (l : List Int) (X Y Z E : Int) (w : World) (hr : row vi w p l) (hn : l.length = n) (hm : n ≤ 9223372036854775807) (hZ : Hid (atz A B l ⟨X, Y⟩ = Z)) (hE : Hid (ate A B l ⟨X, Y⟩ = E)) :
    Calls Try.prog 92 #[.agg #[.int .i64 A, .int .i64 B, .slice p n c], .agg #[.int .i64 X, .int .i64 Y]] w fun e w' => e = .returned (.tuple #[.int .i64 Z, .int .i64 E]) ∧ Below w.heap.size w w' := by
  have hZ := hZ.out
  have hE := hE.out
  by_cases h0 : ck A B l = 0
  · obtain ⟨W, H, rfl, rfl, hW, hH, hl, hg⟩ := ck_yes h0
    have h1 : 1 ≤ l.length := by rw [hl]; exact one_le hW hH
    obtain ⟨a, rfl⟩ := row_some hr (by omega)
    rw [hl] at hn
    subst hn
    cases hin : inb W H X Y with
    | false =>
      have e1 : ate W H l ⟨X, Y⟩ = 7 := by unfold ate; rw [if_neg (by simp [h0])]; simp [hin]
      have e2 : atz W H l ⟨X, Y⟩ = 0 := by unfold atz; rw [if_pos (by rw [e1]; decide)]
      rw [← hZ, ← hE, e1, e2]
      exact At_out W H (some a) (W * H) c l X Y w hr hl hm h0 (by unfold inb at hin; simp at hin; omega)
    | true =>
      obtain ⟨x', y', rfl, rfl, hx', hy'⟩ := pinb_nat hin
      have e1 : ate W H l ⟨x', y'⟩ = 0 := by unfold ate; rw [if_neg (by simp [h0])]; simp [hin]
      have e2 : atz W H l ⟨x', y'⟩ = pa l (y' * W + x') := by unfold atz; rw [if_neg (by rw [e1]; decide)]; simp [ixc]
      rw [← hZ, ← hE, e1, e2]
      exact At_in W H a c l x' y' _ w hr hW hH hl hg hx' hy' rfl
  · have e1 : ate A B l ⟨X, Y⟩ = ck A B l := by unfold ate; rw [if_pos h0]
    have e2 : atz A B l ⟨X, Y⟩ = 0 := by unfold atz; rw [if_pos (by rw [e1]; exact h0)]
    rw [← hZ, ← hE, e1, e2]
    exact At_no A B p n c l X Y _ w hr hn hm rfl h0
/-- Which error two cells of a field are of. -/
def per (A B : Int) (l : List Int) (a b : Cel) : Int := if ate A B l a ≠ 0 then ate A B l a else if ate A B l b ≠ 0 then ate A B l b else if atz A B l a = 1 ∨ atz A B l b = 1 then 9 else 0
theorem pboxf {w w0 V : World} {a b c d e f g : Value} {t t2 t3 : TypeId} {F : Nat} (hF : w.heap.size = F) (hw : ((w.alloc (.cells #[a, b, c] t)).alloc (.cells #[d, e] t2)).alloc (.cells #[f, g] t3) = w0) (hb : Below w0.heap.size w0 V) :
    V.cell? ⟨F, 0, none⟩ = some a ∧ V.cell? ⟨F, 1, none⟩ = some b ∧ V.cell? ⟨F, 2, none⟩ = some c ∧ V.cell? ⟨F + 1, 0, none⟩ = some d ∧ V.cell? ⟨F + 1, 1, none⟩ = some e ∧ V.cell? ⟨F + 2, 0, none⟩ = some f ∧ V.cell? ⟨F + 2, 1, none⟩ = some g := by
  subst hw hF
  refine ⟨?_, ?_, ?_, ?_, ?_, ?_, ?_⟩
  all_goals
    rw [hb.cell (by simp <;> omega)]
    simp [go_sem]
set_option maxRecDepth 20000 in
set_option maxHeartbeats 1000000 in
theorem pcheck_any (A B : Int) (p : Option Addr) (n c : Nat) (l : List Int) (ax ay bx by_ E : Int) (w : World) (hr : row vi w p l) (hn : l.length = n) (hm : n ≤ 9223372036854775807) (hE : Hid (per A B l ⟨ax, ay⟩ ⟨bx, by_⟩ = E)) :
    Calls Try.prog 82 #[.agg #[.int .i64 A, .int .i64 B, .slice p n c], .agg #[.int .i64 ax, .int .i64 ay], .agg #[.int .i64 bx, .int .i64 by_]] w fun e w' => e = .returned (.int .i64 E) ∧ Below w.heap.size w w' := by
  obtain ⟨F, hF⟩ : ∃ F, w.heap.size = F := ⟨_, rfl⟩
  obtain ⟨w0, hw0⟩ : ∃ w0, ((w.alloc (.cells #[.int .i64 A, .int .i64 B, .slice p n c] 24)).alloc (.cells #[.int .i64 ax, .int .i64 ay] 31)).alloc (.cells #[.int .i64 bx, .int .i64 by_] 31) = w0 := ⟨_, rfl⟩
  have hB0 : Below w.heap.size w w0 := by rw [← hw0]; exact ((alloc_below w _).alloc (by simp) _).alloc (by simp; omega) _
  have HB0 : Hid (Below w.heap.size w w0) := hB0
  have HBX : Hid (∀ V, Below w0.heap.size w0 V → V.cell? ⟨F, 0, none⟩ = some (.int .i64 A) ∧ V.cell? ⟨F, 1, none⟩ = some (.int .i64 B) ∧ V.cell? ⟨F, 2, none⟩ = some (.slice p n c) ∧ V.cell? ⟨F + 1, 0, none⟩ = some (.int .i64 ax) ∧ V.cell? ⟨F + 1, 1, none⟩ = some (.int .i64 ay) ∧ V.cell? ⟨F + 2, 0, none⟩ = some (.int .i64 bx) ∧ V.cell? ⟨F + 2, 1, none⟩ = some (.int .i64 by_)) := fun V hV => pboxf hF hw0 hV
  obtain ⟨z0, z1, z2, z3, z4, z5, z6⟩ := HBX.out w0 (Below.refl _ _)
  have HR : Hid (row vi w0 p l) := row_below hr hB0
  have HN : Hid (l.length = n) := hn
  obtain ⟨E1, hE1⟩ : ∃ x, ate A B l ⟨ax, ay⟩ = x := ⟨_, rfl⟩
  obtain ⟨E2, hE2⟩ : ∃ x, ate A B l ⟨bx, by_⟩ = x := ⟨_, rfl⟩
  obtain ⟨Z1, hZ1⟩ : ∃ x, atz A B l ⟨ax, ay⟩ = x := ⟨_, rfl⟩
  obtain ⟨Z2, hZ2⟩ : ∃ x, atz A B l ⟨bx, by_⟩ = x := ⟨_, rfl⟩
  have HE1 : Hid (ate A B l ⟨ax, ay⟩ = E1) := hE1
  have HE2 : Hid (ate A B l ⟨bx, by_⟩ = E2) := hE2
  have HZ1 : Hid (atz A B l ⟨ax, ay⟩ = Z1) := hZ1
  have HZ2 : Hid (atz A B l ⟨bx, by_⟩ = Z2) := hZ2
  have HP : Hid (E = if E1 ≠ 0 then E1 else if E2 ≠ 0 then E2 else if Z1 = 1 ∨ Z2 = 1 then 9 else 0) := by
    unfold Hid; rw [← hE.out]; unfold per; rw [hE1, hE2, hZ1, hZ2]
  clear hr hn hB0 hE1 hE2 hZ1 hZ2 hE
  go_enter Try.func82, Try.ntmps82
  go_wp2_with fail
  refine (pAt_any A B p n c l ax ay Z1 E1 w0 HR.out HN.out hm HZ1 HE1).mono ?_
  rintro e w1 ⟨rfl, hb1⟩
  have HB1 : Hid (Below w0.heap.size w0 w1) := hb1
  obtain ⟨y0, y1, y2, y3, y4, y5, y6⟩ := HBX.out w1 hb1
  clear hb1 z0 z1 z2 z3 z4 z5 z6 hw0
  by_cases h1 : E1 = 0
  · subst h1
    go_wp2_with fail
    refine (pAt_any A B p n c l bx by_ Z2 E2 w1 (row_below HR.out HB1.out) HN.out hm HZ2 HE2).mono ?_
    rintro e w2 ⟨rfl, hb2⟩
    have HB2 : Hid (Below w.heap.size w w2) := HB0.out.trans ((HB1.out.trans (hb2.mono HB1.out.size)).mono HB0.out.size)
    clear hb2 y0 y1 y2 y3 y4 y5 y6
    by_cases h2 : E2 = 0
    · subst h2
      by_cases h3 : Z1 = 1
      · subst h3
        have HQ : Hid (E = 9) := by unfold Hid; rw [HP.out]; simp
        go_wp2_with fail
        go_ret
        exact ⟨by rw [HQ.out]; rfl, HB2.out⟩
      · have d3 : (Z1 == 1) = false := by simp [h3]
        by_cases h4 : Z2 = 1
        · subst h4
          have HQ : Hid (E = 9) := by unfold Hid; rw [HP.out]; simp
          go_wp2_with fail
          go_ret
          exact ⟨by rw [HQ.out]; rfl, HB2.out⟩
        · have d4 : (Z2 == 1) = false := by simp [h4]
          have HQ : Hid (E = 0) := by unfold Hid; rw [HP.out]; simp [h3, h4]
          go_wp2_with fail
          go_ret
          exact ⟨by rw [HQ.out]; rfl, HB2.out⟩
    · have d2 : (E2 == 0) = false := by simp [h2]
      have HQ : Hid (E = E2) := by unfold Hid; rw [HP.out]; simp [h2]
      go_wp2_with fail
      go_ret
      exact ⟨by rw [HQ.out]; rfl, HB2.out⟩
  · have d1 : (E1 == 0) = false := by simp [h1]
    have HQ : Hid (E = E1) := by unfold Hid; rw [HP.out]; simp [h1]
    go_wp2_with fail
    go_ret
    exact ⟨by rw [HQ.out]; rfl, HB0.out.trans (HB1.out.mono HB0.out.size)⟩

/-- Both cells are right, and so far it is from the first one. -/
def good (A B : Int) (l : List Int) (a b : Cel) (W H : Nat) (far : List Int) : Prop :=
  A = W ∧ B = H ∧ okf W H l ∧ inf W H a ∧ inf W H b ∧ pa l (ixc W a) ≠ 1 ∧ pa l (ixc W b) ≠ 1 ∧ Sol W H l (fst_ W [a]) far
/-- Which error Far is of. -/
def rerr (A B : Int) (l : List Int) (a b : Cel) (E : Int) : Prop := (per A B l a b ≠ 0 ∧ E = per A B l a b) ∨ (E = 6 ∧ ∃ W H far, good A B l a b W H far ∧ pa far (ixc W b) < 0)
theorem ate_zero {A B : Int} {l : List Int} {c : Cel} (h : ate A B l c = 0) : ∃ W H : Nat, A = W ∧ B = H ∧ okf W H l ∧ inf W H c ∧ atz A B l c = pa l (ixc W c) := by
  unfold ate at h
  split at h
  · exact absurd h (by assumption)
  · have h0 : ck A B l = 0 := by simp_all
    obtain ⟨W, H, rfl, rfl, hW, hH, hl, hg⟩ := ck_yes h0
    split at h
    · cases h
    · have hin : inb W H c.x c.y = true := by simp_all
      refine ⟨W, H, rfl, rfl, ⟨hW, hH, hl, hg⟩, inf_inb.1 hin, ?_⟩
      unfold atz ate
      rw [if_neg (by simp [h0, hin])]; rfl
theorem per_zero {A B : Int} {l : List Int} {a b : Cel} (h : per A B l a b = 0) : ∃ W H : Nat, A = W ∧ B = H ∧ okf W H l ∧ inf W H a ∧ inf W H b ∧ pa l (ixc W a) ≠ 1 ∧ pa l (ixc W b) ≠ 1 := by
  unfold per at h
  split at h
  · exact absurd h (by assumption)
  · split at h
    · exact absurd h (by assumption)
    · split at h
      · cases h
      · rename_i h1 h2 h3
        obtain ⟨W, H, rfl, rfl, h4, h5, h6⟩ := ate_zero (c := a) (by simpa using h1)
        obtain ⟨W', H', e1, e2, _, h7, h8⟩ := ate_zero (A := W) (B := H) (c := b) (by simpa using h2)
        have e1 : W' = W := by omega
        have e2 : H' = H := by omega
        subst e1 e2
        rw [h6, h8] at h3
        exact ⟨W', H', rfl, rfl, h4, h5, h7, fun e => h3 (.inl e), fun e => h3 (.inr e)⟩
theorem cke_one {W H : Nat} {l : List Int} {a : Cel} (h : inf W H a) (hr : pa l (ixc W a) ≠ 1) : cke W H l [a] = 0 := by
  unfold cke
  rw [if_neg (by rw [inf_inb.2 h]; decide), if_neg (by exact hr)]; rfl
end Go.Proofs.Ytnbbfnlfcncgnaa
/- What reachOf and Far return. -/
namespace Go.Proofs.Ytnbbfnlfcncgnaa
open Go.RowKit
set_option linter.unusedVariables false

/-- Four stores into a box of four. -/
theorem pset4 {W' : World} {R : Nat} {x y z u x' y' z' u' : Value} {t : TypeId} (hR : W'.heap[R]? = some (.cells #[x, y, z, u] t)) (V : World) (hV : V = (((W'.setCell ⟨R, 0, none⟩ x').setCell ⟨R, 1, none⟩ y').setCell ⟨R, 2, none⟩ z').setCell ⟨R, 3, none⟩ u') :
    V.cell? ⟨R, 0, none⟩ = some x' ∧ V.cell? ⟨R, 1, none⟩ = some y' ∧ V.cell? ⟨R, 2, none⟩ = some z' ∧ V.cell? ⟨R, 3, none⟩ = some u' ∧ V.heap[R]? = some (.cells #[x', y', z', u'] t) ∧ Ex (fun k => k = R) W' V := by
  have hRV : V.heap[R]? = some (.cells #[x', y', z', u'] t) := by
    have h1 := heap_setCell_same W' R 0 _ t x' hR
    have h2 := heap_setCell_same _ R 1 _ t y' h1
    have h3 := heap_setCell_same _ R 2 _ t z' h2
    have h4 := heap_setCell_same _ R 3 _ t u' h3
    rw [hV, h4]; rfl
  refine ⟨by simp [World.cell?, hRV], by simp [World.cell?, hRV], by simp [World.cell?, hRV], by simp [World.cell?, hRV], hRV, ?_⟩
  rw [hV]
  have E1 := fun (V : World) (p : Addr) (u : Value) (hp : p.block = R) => Ex.set (S := fun k => k = R) V p hp u
  exact (((E1 W' _ _ rfl).trans (E1 _ _ _ rfl) (fun _ _ e => e)).trans (E1 _ _ _ rfl) (fun _ _ e => e)).trans (E1 _ _ _ rfl) (fun _ _ e => e)
theorem free4 {W' : World} {R : Nat} {x y z u : Value} {t : TypeId} (hR : W'.heap[R]? = some (.cells #[x, y, z, u] t)) : W'.cell? ⟨R, 0, none⟩ = some x ∧ W'.cell? ⟨R, 1, none⟩ = some y ∧ W'.cell? ⟨R, 2, none⟩ = some z ∧ W'.cell? ⟨R, 3, none⟩ = some u ∧ W'.frozen? ⟨R, 0, none⟩ = false ∧ W'.frozen? ⟨R, 1, none⟩ = false ∧ W'.frozen? ⟨R, 2, none⟩ = false ∧ W'.frozen? ⟨R, 3, none⟩ = false := by simp [World.cell?, World.frozen?, hR]
theorem boxr {w w0 V : World} {a b c d e f g x y z u : Value} {t t2 t3 t4 : TypeId} {F : Nat} (hF : w.heap.size = F) (hw : (((w.alloc (.cells #[a, b, c] t)).alloc (.cells #[d, e] t2)).alloc (.cells #[f, g] t3)).alloc (.cells #[x, y, z, u] t4) = w0) (hb : Below w0.heap.size w0 V) :
    (V.cell? ⟨F, 0, none⟩ = some a ∧ V.cell? ⟨F, 1, none⟩ = some b ∧ V.cell? ⟨F, 2, none⟩ = some c ∧ V.cell? ⟨F + 1, 0, none⟩ = some d ∧ V.cell? ⟨F + 1, 1, none⟩ = some e ∧ V.cell? ⟨F + 1 + 1, 0, none⟩ = some f ∧ V.cell? ⟨F + 1 + 1, 1, none⟩ = some g) ∧ V.heap[F + 1 + 1 + 1]? = some (.cells #[x, y, z, u] t4) ∧ F + 4 ≤ V.heap.size := by
  have hs : w0.heap.size = F + 4 := by rw [← hw, ← hF]; simp
  refine ⟨?_, ?_, by have := hb.size; omega⟩
  · subst hw hF
    refine ⟨?_, ?_, ?_, ?_, ?_, ?_, ?_⟩
    all_goals
      rw [hb.cell (by simp <;> omega)]
      simp [go_sem]
  · rw [hb.block (F + 1 + 1 + 1) (by omega), ← hw]
    have := World.alloc_heap_new (((w.alloc (.cells #[a, b, c] t)).alloc (.cells #[d, e] t2)).alloc (.cells #[f, g] t3)) (.cells #[x, y, z, u] t4)
    rw [World.size_alloc, World.size_alloc, World.size_alloc, hF] at this
    exact this
/-- reachOf has found nothing but an error. -/
def rno (A B : Int) (l : List Int) (a b : Cel) (e : Ending) : Prop := ∃ E, E ≠ 0 ∧ rerr A B l a b E ∧ e = .returned (.tuple #[.agg #[.int .i64 0, .int .i64 0, .slice none 0 0, .slice none 0 0], .int .i64 E])
/-- reachOf has found how far it is. -/
def ryes (A B : Int) (p : Option Addr) (n c : Nat) (l : List Int) (a b : Cel) (w' : World) (e : Ending) : Prop :=
  ∃ (W H : Nat) (far : List Int) (g : Nat), good A B l a b W H far ∧ 0 ≤ pa far (ixc W b) ∧ n = W * H ∧ row vi w' (some ⟨g, 0, none⟩) far ∧ e = .returned (.tuple #[.agg #[.int .i64 (W : Int), .int .i64 (H : Int), .slice p (W * H) c, .slice (some ⟨g, 0, none⟩) (W * H) (W * H)], .int .i64 0])
set_option maxRecDepth 20000 in
set_option maxHeartbeats 2000000 in
theorem reachOf_any (A B : Int) (p : Option Addr) (n c : Nat) (l : List Int) (ax ay bx by_ : Int) (w : World) (hr : row vi w p l) (hn : l.length = n) (hm : n ≤ 9223372036854775807) :
    Calls Try.prog 57 #[.agg #[.int .i64 A, .int .i64 B, .slice p n c], .agg #[.int .i64 ax, .int .i64 ay], .agg #[.int .i64 bx, .int .i64 by_]] w fun e w' => (rno A B l ⟨ax, ay⟩ ⟨bx, by_⟩ e ∨ ryes A B p n c l ⟨ax, ay⟩ ⟨bx, by_⟩ w' e) ∧ Below w.heap.size w w' := by
  obtain ⟨F, hF⟩ : ∃ F, w.heap.size = F := ⟨_, rfl⟩
  obtain ⟨w0, hw0⟩ : ∃ w0, (((w.alloc (.cells #[.int .i64 A, .int .i64 B, .slice p n c] 24)).alloc (.cells #[.int .i64 ax, .int .i64 ay] 31)).alloc (.cells #[.int .i64 bx, .int .i64 by_] 31)).alloc (.cells #[.int .i64 0, .int .i64 0, .slice none 0 0, .slice none 0 0] 95) = w0 := ⟨_, rfl⟩
  have hB0 : Below w.heap.size w w0 := by rw [← hw0]; exact (((alloc_below w _).alloc (by simp) _).alloc (by simp; omega) _).alloc (by simp; omega) _
  have HB0 : Hid (Below w.heap.size w w0) := hB0
  have HBX : Hid (∀ V, Below w0.heap.size w0 V → (V.cell? ⟨F, 0, none⟩ = some (.int .i64 A) ∧ V.cell? ⟨F, 1, none⟩ = some (.int .i64 B) ∧ V.cell? ⟨F, 2, none⟩ = some (.slice p n c) ∧ V.cell? ⟨F + 1, 0, none⟩ = some (.int .i64 ax) ∧ V.cell? ⟨F + 1, 1, none⟩ = some (.int .i64 ay) ∧ V.cell? ⟨F + 1 + 1, 0, none⟩ = some (.int .i64 bx) ∧ V.cell? ⟨F + 1 + 1, 1, none⟩ = some (.int .i64 by_)) ∧ V.heap[F + 1 + 1 + 1]? = some (.cells #[.int .i64 0, .int .i64 0, .slice none 0 0, .slice none 0 0] 95) ∧ F + 4 ≤ V.heap.size) := fun V hV => boxr hF hw0 hV
  obtain ⟨⟨z0, z1, z2, z3, z4, z5, z6⟩, -, -⟩ := HBX.out w0 (Below.refl _ _)
  have HR : Hid (row vi w0 p l) := row_below hr hB0
  have HN : Hid (l.length = n) := hn
  have HF : Hid (w.heap.size = F) := hF
  obtain ⟨E, hE⟩ : ∃ x, per A B l ⟨ax, ay⟩ ⟨bx, by_⟩ = x := ⟨_, rfl⟩
  have HE : Hid (per A B l ⟨ax, ay⟩ ⟨bx, by_⟩ = E) := hE
  clear hr hn hB0 hE
  go_enter Try.func57, Try.ntmps57
  go_wp2_with fail
  refine (pcheck_any A B p n c l ax ay bx by_ E w0 HR.out HN.out hm HE).mono ?_
  rintro e w1 ⟨rfl, hb1⟩
  have HB1 : Hid (Below w0.heap.size w0 w1) := hb1
  obtain ⟨⟨y0, y1, y2, y3, y4, y5, y6⟩, hR1, hsz1⟩ := HBX.out w1 hb1
  have HR1 : Hid (w1.heap[F + 1 + 1 + 1]? = some (.cells #[.int .i64 0, .int .i64 0, .slice none 0 0, .slice none 0 0] 95)) := hR1
  clear hb1 z0 z1 z2 z3 z4 z5 z6 hw0
  by_cases h1 : E = 0
  · subst h1
    obtain ⟨W, H, hA, hB, hok, hia, hib, hra, hrb⟩ := per_zero HE.out
    subst hA hB
    have hnl : n = W * H := by rw [← HN.out]; exact hok.2.2.1
    subst hnl
    have hrl : row vi w1 p l := row_below HR.out HB1.out
    obtain ⟨a, rfl⟩ := row_some hrl (by rw [hok.2.2.1]; exact one_le hok.1 hok.2.1)
    have HRL : Hid (row vi w1 (some a) l) := hrl
    have HG : Hid (okf W H l ∧ inf W H ⟨ax, ay⟩ ∧ inf W H ⟨bx, by_⟩ ∧ pa l (ixc W ⟨ax, ay⟩) ≠ 1 ∧ pa l (ixc W ⟨bx, by_⟩) ≠ 1) := ⟨hok, hia, hib, hra, hrb⟩
    obtain ⟨X, Y, eb, hX, hY⟩ := hib
    simp only [Cel.mk.injEq] at eb
    obtain ⟨rfl, rfl⟩ := eb
    obtain ⟨I, hI⟩ : ∃ I, Y * W + X = I := ⟨_, rfl⟩
    have HI : Hid (Y * W + X = I) := hI
    have HIC : Hid (ixc W ⟨X, Y⟩ = I) := by unfold Hid; rw [ixc_nat]; exact hI
    have hIl : I < W * H := by rw [← hI]; exact pl_lt hX hY
    have hN : W * H ≤ 1600 := wh_le hok.1 hok.2.1
    clear hok hia hra hrb hrl hR1 hI hX hY
    go_wp2_with fail
    obtain ⟨w2, hw2⟩ : ∃ w2, w1.alloc (.cells #[.int .i64 ax, .int .i64 ay] 31) = w2 := ⟨_, rfl⟩
    have hb2 : Below w1.heap.size w1 w2 := by rw [← hw2]; exact alloc_below _ _
    have hc2 : crow w2 (some ⟨w1.heap.size, 0, none⟩) [⟨ax, ay⟩] := by rw [← hw2]; exact crow_one _ _ _
    rw [hw2]
    refine (From_ok W H a (some ⟨w1.heap.size, 0, none⟩) c 1 1 l [⟨ax, ay⟩] w2 (row_below HRL.out hb2) HG.out.1.1 HG.out.1.2.1 HG.out.1.2.2.1 HG.out.1.2.2.2 hc2 rfl (by decide) (cke_one HG.out.2.1 HG.out.2.2.2.1) (by
      obtain ⟨b', hb', hc'⟩ := row_at (row_below HRL.out hb2) (j := 0) (by rw [HG.out.1.2.2.1]; exact one_le HG.out.1.1 HG.out.1.2.1)
      cases hb'
      have := cell_lt hc'; rwa [add_block] at this)).mono ?_
    rintro e w3 ⟨g, far, rfl, hm3, hs3, hb3⟩
    have hB3 : Below w0.heap.size w0 w3 := (HB1.out.trans (hb2.mono HB1.out.size)).trans (hb3.mono (by have := HB1.out.size; have := hb2.size; omega))
    have HB3 : Hid (Below w0.heap.size w0 w3) := hB3
    have HFR : Hid (row vi w3 (some ⟨g, 0, none⟩) far) := pmine_row hm3
    have HS : Hid (Sol W H l (fst_ W [⟨ax, ay⟩]) far) := hs3
    have HRG : Hid (F + 4 ≤ g) := by
      have h1 := (World.ownsRow.lt hm3 g rfl).1
      have h2 := (HBX.out w1 HB1.out).2.2
      have h3 := hb2.size
      unfold Hid; omega
    obtain ⟨⟨x0, x1, x2, x3, x4, x5, x6⟩, -, -⟩ := HBX.out w3 hB3
    clear hm3 hs3 hb3 hB3 hb2 hc2 hw2 y0 y1 y2 y3 y4 y5 y6
    obtain ⟨G, hG⟩ : ∃ G, w3.heap.size = G := ⟨_, rfl⟩
    obtain ⟨w4, hw4⟩ : ∃ w4, w3.alloc (.cells #[.int .i64 (W : Int), .int .i64 (H : Int), .slice (some a) (W * H) c, .slice (some ⟨g, 0, none⟩) (W * H) (W * H)] 95) = w4 := ⟨_, rfl⟩
    have hb4 : Below w3.heap.size w3 w4 := by rw [← hw4]; exact alloc_below _ _
    have hB4 : Below w0.heap.size w0 w4 := HB3.out.trans (hb4.mono HB3.out.size)
    obtain ⟨D, hD⟩ : ∃ D, pa far I = D := ⟨_, rfl⟩
    have HD : Hid (pa far I = D) := hD
    have hcell : w4.cell? ⟨g, I, none⟩ = some (.int .i64 D) := by
      obtain ⟨b', hb', hc'⟩ := row_at (row_below HFR.out hb4) (j := I) (by rw [HS.out.len]; exact hIl)
      cases hb'
      rw [← pa_get far, add_zero_at, hD] at hc'; exact hc'
    obtain ⟨⟨v0, v1, v2, v3, v4, v5, v6⟩, -, -⟩ := HBX.out w4 hB4
    have hG4 : w4.heap[G]? = some (.cells #[.int .i64 (W : Int), .int .i64 (H : Int), .slice (some a) (W * H) c, .slice (some ⟨g, 0, none⟩) (W * H) (W * H)] 95) := by rw [← hw4, ← hG]; exact World.alloc_heap_new w3 _
    have HG4 : Hid (w4.heap[G]? = some (.cells #[.int .i64 (W : Int), .int .i64 (H : Int), .slice (some a) (W * H) c, .slice (some ⟨g, 0, none⟩) (W * H) (W * H)] 95)) := hG4
    have HB4 : Hid (Below w0.heap.size w0 w4 ∧ Below w3.heap.size w3 w4 ∧ w4.cell? ⟨g, I, none⟩ = some (.int .i64 D) ∧ G < w4.heap.size) := ⟨hB4, hb4, hcell, by rw [← hw4, ← hG]; simp⟩
    obtain ⟨t0, t1, t2, t3, -, -, -, -⟩ := free4 hG4
    clear hb4 hB4 hcell hG4 hD
    go_wp2_with fail
    refine (cost_any W H X Y I _ g D w4 HI (by omega) hIl HB4.out.2.2.1).mono ?_
    rintro e w5 ⟨rfl, hb5⟩
    have hB5 : Below w0.heap.size w0 w5 := HB4.out.1.trans (hb5.mono HB4.out.1.size)
    have HB5 : Hid (Below w0.heap.size w0 w5) := hB5
    have HFR5 : Hid (row vi w5 (some ⟨g, 0, none⟩) far) := row_below (row_below HFR.out HB4.out.2.1) hb5
    have hG5 : w5.heap[G]? = some (.cells #[.int .i64 (W : Int), .int .i64 (H : Int), .slice (some a) (W * H) c, .slice (some ⟨g, 0, none⟩) (W * H) (W * H)] 95) := by
      rw [hb5.block G HB4.out.2.2.2]; exact HG4.out
    clear t0 t1 t2 t3
    obtain ⟨t0, t1, t2, t3, -, -, -, -⟩ := free4 hG5
    obtain ⟨-, hR5, hsz5⟩ := HBX.out w5 hB5
    have HR5 : Hid (w5.heap[F + 1 + 1 + 1]? = some (.cells #[.int .i64 0, .int .i64 0, .slice none 0 0, .slice none 0 0] 95)) := hR5
    obtain ⟨r0, r1, r2, r3, r4, r5, r6, r7⟩ := free4 hR5
    have HGD : Hid (good W H l ⟨ax, ay⟩ ⟨X, Y⟩ W H far) := ⟨rfl, rfl, HG.out.1, HG.out.2.1, HG.out.2.2.1, HG.out.2.2.2.1, HG.out.2.2.2.2, HS.out⟩
    have HFG : Hid (F + 4 ≤ G) := by unfold Hid; have := (HBX.out w3 HB3.out).2.2; omega
    clear hb5 hB5 hw4 hG5 hR5 x0 x1 x2 x3 x4 x5 x6 v0 v1 v2 v3 v4 v5 v6
    by_cases hneg : D < 0
    · go_wp2_with fail
      obtain ⟨V, hV⟩ : ∃ V, (((w5.setCell ⟨F + 1 + 1 + 1, 0, none⟩ (.int .i64 0)).setCell ⟨F + 1 + 1 + 1, 1, none⟩ (.int .i64 0)).setCell ⟨F + 1 + 1 + 1, 2, none⟩ (.slice none 0 0)).setCell ⟨F + 1 + 1 + 1, 3, none⟩ (.slice none 0 0) = V := ⟨_, rfl⟩
      rw [hV]
      have k2 := pset4 HR5.out V hV.symm
      refine ⟨by simp, .tuple #[.agg #[.int .i64 0, .int .i64 0, .slice none 0 0, .slice none 0 0], .int .i64 6], ?_, .inl ⟨6, by decide, .inr ⟨rfl, W, H, far, HGD.out, by rw [HIC.out, HD.out]; exact hneg⟩, rfl⟩, ?_⟩
      · rw [results_cell_tmp rfl]
        simp [go_sem, k2.1, k2.2.1, k2.2.2.1, k2.2.2.2.1]
      · exact (HB0.out.trans (HB5.out.mono HB0.out.size)).trans (k2.2.2.2.2.2.below (by have := HF.out; omega) (fun k hk e => by have := HF.out; omega))
    · go_wp2_with fail
      obtain ⟨V, hV⟩ : ∃ V, (((w5.setCell ⟨F + 1 + 1 + 1, 0, none⟩ (.int .i64 (W : Int))).setCell ⟨F + 1 + 1 + 1, 1, none⟩ (.int .i64 (H : Int))).setCell ⟨F + 1 + 1 + 1, 2, none⟩ (.slice (some a) (W * H) c)).setCell ⟨F + 1 + 1 + 1, 3, none⟩ (.slice (some ⟨g, 0, none⟩) (W * H) (W * H)) = V := ⟨_, rfl⟩
      rw [hV]
      have k2 := pset4 HR5.out V hV.symm
      refine ⟨by simp, .tuple #[.agg #[.int .i64 (W : Int), .int .i64 (H : Int), .slice (some a) (W * H) c, .slice (some ⟨g, 0, none⟩) (W * H) (W * H)], .int .i64 0], ?_, .inr ⟨W, H, far, g, HGD.out, by rw [HIC.out, HD.out]; omega, rfl, ?_, rfl⟩, ?_⟩
      · rw [results_cell_tmp rfl]
        simp [go_sem, k2.1, k2.2.1, k2.2.2.1, k2.2.2.2.1]
      · exact row_ex HFR5.out k2.2.2.2.2.2 (fun e => by have h1 := HRG.out; have h2 : g = F + 1 + 1 + 1 := e; omega)
      · exact (HB0.out.trans (HB5.out.mono HB0.out.size)).trans (k2.2.2.2.2.2.below (by have := HF.out; omega) (fun k hk e => by have := HF.out; omega))
  · have d1 : (E == 0) = false := by simp [h1]
    obtain ⟨r0, r1, r2, r3, r4, r5, r6, r7⟩ := free4 hR1
    clear hR1
    go_wp2_with fail
    obtain ⟨V, hV⟩ : ∃ V, (((w1.setCell ⟨F + 1 + 1 + 1, 0, none⟩ (.int .i64 0)).setCell ⟨F + 1 + 1 + 1, 1, none⟩ (.int .i64 0)).setCell ⟨F + 1 + 1 + 1, 2, none⟩ (.slice none 0 0)).setCell ⟨F + 1 + 1 + 1, 3, none⟩ (.slice none 0 0) = V := ⟨_, rfl⟩
    rw [hV]
    have k2 := pset4 HR1.out V hV.symm
    refine ⟨by simp, .tuple #[.agg #[.int .i64 0, .int .i64 0, .slice none 0 0, .slice none 0 0], .int .i64 E], ?_, .inl ⟨E, h1, .inl ⟨by rw [HE.out]; exact h1, HE.out.symm⟩, rfl⟩, ?_⟩
    · rw [results_cell_tmp rfl]
      simp [go_sem, k2.1, k2.2.1, k2.2.2.1, k2.2.2.2.1]
    · exact (HB0.out.trans (HB1.out.mono HB0.out.size)).trans (k2.2.2.2.2.2.below (by have := HF.out; omega) (fun k hk e => by have := HF.out; omega))
end Go.Proofs.Ytnbbfnlfcncgnaa
/- What Far returns. -/
namespace Go.Proofs.Ytnbbfnlfcncgnaa
open Go.RowKit
set_option linter.unusedVariables false

/-- What Far answers. -/
def farr (A B : Int) (l : List Int) (a b : Cel) (D E : Int) : Prop := (E ≠ 0 ∧ rerr A B l a b E ∧ D = 0) ∨ (E = 0 ∧ ∃ (W H : Nat) (far : List Int), good A B l a b W H far ∧ 0 ≤ pa far (ixc W b) ∧ D = pa far (ixc W b))
/-- A box of four behind three others, later. -/
theorem cells4 {w V : World} {x y z u : Value} {t : TypeId} {G : Nat} (hG : w.heap.size = G) (hb : Below (w.alloc (.cells #[x, y, z, u] t)).heap.size (w.alloc (.cells #[x, y, z, u] t)) V) :
    V.cell? ⟨G, 0, none⟩ = some x ∧ V.cell? ⟨G, 1, none⟩ = some y ∧ V.cell? ⟨G, 2, none⟩ = some z ∧ V.cell? ⟨G, 3, none⟩ = some u := by
  subst hG
  refine ⟨?_, ?_, ?_, ?_⟩
  all_goals
    rw [hb.cell (by simp <;> omega)]
    simp [go_sem]
set_option maxRecDepth 20000 in
set_option maxHeartbeats 2000000 in
theorem pFar_any (A B : Int) (p : Option Addr) (n c : Nat) (l : List Int) (ax ay bx by_ : Int) (w : World) (hr : row vi w p l) (hn : l.length = n) (hm : n ≤ 9223372036854775807) :
    Calls Try.prog 24 #[.agg #[.int .i64 A, .int .i64 B, .slice p n c], .agg #[.int .i64 ax, .int .i64 ay], .agg #[.int .i64 bx, .int .i64 by_]] w fun e w' => (∃ D E, e = .returned (.tuple #[.int .i64 D, .int .i64 E]) ∧ farr A B l ⟨ax, ay⟩ ⟨bx, by_⟩ D E) ∧ Below w.heap.size w w' := by
  obtain ⟨F, hF⟩ : ∃ F, w.heap.size = F := ⟨_, rfl⟩
  obtain ⟨w0, hw0⟩ : ∃ w0, ((w.alloc (.cells #[.int .i64 A, .int .i64 B, .slice p n c] 24)).alloc (.cells #[.int .i64 ax, .int .i64 ay] 31)).alloc (.cells #[.int .i64 bx, .int .i64 by_] 31) = w0 := ⟨_, rfl⟩
  have hB0 : Below w.heap.size w w0 := by rw [← hw0]; exact ((alloc_below w _).alloc (by simp) _).alloc (by simp; omega) _
  have HB0 : Hid (Below w.heap.size w w0) := hB0
  have HBX : Hid (∀ V, Below w0.heap.size w0 V → V.cell? ⟨F, 0, none⟩ = some (.int .i64 A) ∧ V.cell? ⟨F, 1, none⟩ = some (.int .i64 B) ∧ V.cell? ⟨F, 2, none⟩ = some (.slice p n c) ∧ V.cell? ⟨F + 1, 0, none⟩ = some (.int .i64 ax) ∧ V.cell? ⟨F + 1, 1, none⟩ = some (.int .i64 ay) ∧ V.cell? ⟨F + 2, 0, none⟩ = some (.int .i64 bx) ∧ V.cell? ⟨F + 2, 1, none⟩ = some (.int .i64 by_)) := fun V hV => pboxf hF hw0 hV
  obtain ⟨z0, z1, z2, z3, z4, z5, z6⟩ := HBX.out w0 (Below.refl _ _)
  have HR : Hid (row vi w0 p l) := row_below hr hB0
  have HN : Hid (l.length = n) := hn
  have HF : Hid (w.heap.size = F) := hF
  clear hr hn hB0
  go_enter Try.func24, Try.ntmps24
  go_wp2_with fail
  refine (reachOf_any A B p n c l ax ay bx by_ w0 HR.out HN.out hm).mono ?_
  rintro e w1 ⟨hcase, hb1⟩
  clear z0 z1 z2 z3 z4 z5 z6 hw0
  rcases hcase with ⟨E, hE, hrr, rfl⟩ | ⟨W, H, far, g, hgd, hpos, rfl, hfr, rfl⟩
  · have d1 : (E == 0) = false := by simp [hE]
    have HRR : Hid (rerr A B l ⟨ax, ay⟩ ⟨bx, by_⟩ E) := hrr
    have HB2 : Hid (Below w.heap.size w (w1.alloc (.cells #[.int .i64 0, .int .i64 0, .slice none 0 0, .slice none 0 0] 95))) := (HB0.out.trans (hb1.mono HB0.out.size)).alloc (by have := hb1.size; have := HB0.out.size; omega) _
    clear hrr hb1
    go_wp2_with fail
    go_ret2
    exact ⟨⟨_, _, rfl, .inl ⟨hE, HRR.out, rfl⟩⟩, HB2.out⟩
  · obtain ⟨hA, hB, hok, hia, hib, hra, hrb, hsol⟩ := hgd
    subst hA hB
    obtain ⟨X, Y, eb, hX, hY⟩ := hib
    simp only [Cel.mk.injEq] at eb
    obtain ⟨rfl, rfl⟩ := eb
    obtain ⟨I, hI⟩ : ∃ I, Y * W + X = I := ⟨_, rfl⟩
    have HI : Hid (Y * W + X = I) := hI
    have HIC : Hid (ixc W ⟨X, Y⟩ = I) := by unfold Hid; rw [ixc_nat]; exact hI
    have hIl : I < W * H := by rw [← hI]; exact pl_lt hX hY
    have hN : W * H ≤ 1600 := wh_le hok.1 hok.2.1
    have HGD : Hid (good W H l ⟨ax, ay⟩ ⟨X, Y⟩ W H far ∧ 0 ≤ pa far (ixc W ⟨X, Y⟩)) := ⟨⟨rfl, rfl, hok, hia, ⟨X, Y, rfl, hX, hY⟩, hra, hrb, hsol⟩, hpos⟩
    obtain ⟨D, hD⟩ : ∃ D, pa far I = D := ⟨_, rfl⟩
    have HD : Hid (pa far I = D) := hD
    obtain ⟨G, hG⟩ : ∃ G, w1.heap.size = G := ⟨_, rfl⟩
    obtain ⟨w2, hw2⟩ : ∃ w2, w1.alloc (.cells #[.int .i64 (W : Int), .int .i64 (H : Int), .slice p (W * H) c, .slice (some ⟨g, 0, none⟩) (W * H) (W * H)] 95) = w2 := ⟨_, rfl⟩
    have hb2 : Below w1.heap.size w1 w2 := by rw [← hw2]; exact alloc_below _ _
    have hB2 : Below w0.heap.size w0 w2 := hb1.trans (hb2.mono hb1.size)
    have hcell : w2.cell? ⟨g, I, none⟩ = some (.int .i64 D) := by
      obtain ⟨b', hb', hc'⟩ := row_at (row_below hfr hb2) (j := I) (by rw [hsol.len]; exact hIl)
      cases hb'
      rw [← pa_get far, add_zero_at, hD] at hc'; exact hc'
    obtain ⟨v0, v1, v2, v3, v4, v5, v6⟩ := HBX.out w2 hB2
    obtain ⟨t0, t1, t2, t3⟩ := cells4 (V := w2) hG (by rw [hw2]; exact Below.refl _ _)
    have HB2 : Hid (Below w.heap.size w w2 ∧ w2.cell? ⟨g, I, none⟩ = some (.int .i64 D)) := ⟨HB0.out.trans (hB2.mono HB0.out.size), hcell⟩
    clear hok hia hra hrb hsol hpos hfr hb1 hb2 hB2 hcell hI hX hY hD
    go_wp2_with fail
    refine (cost_any W H X Y I _ g D w2 HI (by omega) hIl HB2.out.2).mono ?_
    rintro e w3 ⟨rfl, hb3⟩
    have HB3 : Hid (Below w.heap.size w w3) := HB2.out.1.trans (hb3.mono HB2.out.1.size)
    clear hb3 v0 v1 v2 v3 v4 v5 v6 t0 t1 t2 t3 hw2
    go_wp2_with fail
    go_ret2
    exact ⟨⟨_, _, rfl, .inr ⟨rfl, W, H, far, HGD.out.1, HGD.out.2, by rw [HIC.out, HD.out]⟩⟩, HB3.out⟩
end Go.Proofs.Ytnbbfnlfcncgnaa
/- What slices.Reverse does to a row of cells of one's own. -/
namespace Go.Proofs.Ytnbbfnlfcncgnaa
open Go.RowKit
set_option linter.unusedVariables false

theorem flat2_set (s : Cel) : ∀ (Q : List Cel) (k : Nat), k < Q.length → flat2 (Q.set k s) = ((flat2 Q).set (k * 2) (.int .i64 s.x)).set (k * 2 + 1) (.int .i64 s.y) := by
  intro Q
  induction Q with
  | nil => intro k h; simp at h
  | cons c Q ih =>
    intro k h
    cases k with
    | zero => rfl
    | succ k =>
      rw [List.set_cons_succ, flat2_cons, flat2_cons, ih k (by simpa using h)]
      have e : (k + 1) * 2 = k * 2 + 2 := by omega
      rw [e]
      rfl
section
variable {B : Nat} {w w' : World} {v : Value} {Q : List Cel} {g n cap : Nat}
theorem minec_kept {S : Nat → Prop} (h : minec B w v Q) (he : Ex S w w') (hn : ∀ g, v.ownBlock = some g → ¬ S g) : minec B w' v Q := by
  refine ⟨h.1, ?_⟩
  rcases h.2 with h0 | ⟨g', cap, cur, hv, hB, hblk, hr⟩
  · exact .inl h0
  · refine .inr ⟨g', cap, cur, hv, hB, ?_, hr⟩
    have : g' < w.heap.size := by
      rcases Nat.lt_or_ge g' w.heap.size with hlt | hge
      · exact hlt
      · rw [Array.getElem?_eq_none hge] at hblk; cases hblk
    rw [he.block g' this (hn g' (by rw [hv]; rfl))]; exact hblk
theorem minec_cell (h : minec B w (.slice (some ⟨g, 0, none⟩) n cap) Q) (hn : Q.length = n) {k : Nat} (hk : k < n) {s : Cel} (hs : Q[k]? = some s) :
    w.cell? ⟨g, k * 2, none⟩ = some (.int .i64 s.x) ∧ w.cell? ⟨g, k * 2 + 1, none⟩ = some (.int .i64 s.y) := by
  subst hn
  have := flat2_at Q k hk
  rw [List.getElem?_eq_getElem hk] at hs
  rw [Option.some.inj hs] at this
  exact ⟨(World.ownsRow.cellAt h _ (by omega)).trans this.1, (World.ownsRow.cellAt h _ (by omega)).trans this.2⟩
theorem minec_free (h : minec B w (.slice (some ⟨g, 0, none⟩) n cap) Q) (hn : Q.length = n) (k : Nat) : w.frozen? ⟨g, k, none⟩ = false := by
  subst hn; exact World.ownsRow.frozenAt h k
theorem minec_put (h : minec B w (.slice (some ⟨g, 0, none⟩) n cap) Q) (hn : Q.length = n) {k : Nat} (hk : k < n) (s : Cel) :
    minec B ((w.setCell ⟨g, k * 2, none⟩ (.int .i64 s.x)).setCell ⟨g, k * 2 + 1, none⟩ (.int .i64 s.y)) (.slice (some ⟨g, 0, none⟩) n cap) (Q.set k s) := by
  subst hn
  unfold minec at h ⊢
  rw [flat2_set s Q k hk, List.length_set]
  exact (World.ownsRow.stored (World.ownsRow.stored h _ _).1 _ _).1
theorem minec_drew (h : minec B w v Q) : minec B w.drew v Q := h
theorem minec_some (h : minec B w v Q) (hl : 0 < Q.length) : ∃ g cap, v = .slice (some ⟨g, 0, none⟩) Q.length cap ∧ B ≤ g ∧ g < w.heap.size ∧ Q.length ≤ cap := by
  rcases h.2 with ⟨h0, h1⟩ | ⟨g, cap, cur, hv, hB, hblk, hr⟩
  · exact absurd h1 (by omega)
  · refine ⟨g, cap, hv, hB, ?_, hr.1⟩
    rcases Nat.lt_or_ge g w.heap.size with hlt | hge
    · exact hlt
    · rw [Array.getElem?_eq_none hge] at hblk; cases hblk
end
/-- Of L the first k and the last k stand as they will. -/
def rvs (Q : List Cel) (k : Nat) (L : List Cel) : Prop := L.length = Q.length ∧ ∀ t, t < Q.length → L[t]? = if t < k ∨ Q.length ≤ t + k then Q[Q.length - 1 - t]? else Q[t]?
theorem rvs_zero (Q : List Cel) : rvs Q 0 Q := ⟨rfl, fun t ht => by rw [if_neg (by omega)]⟩
theorem rvs_next {Q L : List Cel} {k J : Nat} {s t : Cel} (h : rvs Q k L) (hJ : k + J + 1 = Q.length) (hk : k < J) (hs : L[k]? = some s) (ht : L[J]? = some t) : rvs Q (k + 1) ((L.set k t).set J s) := by
  refine ⟨by simpa using h.1, fun i hi => ?_⟩
  have hl := h.1
  have h1 := h.2 k (by omega)
  have h2 := h.2 J (by omega)
  rw [if_neg (by omega)] at h1 h2
  by_cases e1 : i = J
  · subst e1
    rw [List.getElem?_set_self (by simp; omega), if_pos (by omega)]
    have : Q.length - 1 - i = k := by omega
    rw [this, ← h1, hs]
  · rw [List.getElem?_set_ne (by omega)]
    by_cases e2 : i = k
    · subst e2
      rw [List.getElem?_set_self (by omega), if_pos (by omega)]
      have : Q.length - 1 - i = J := by omega
      rw [this, ← h2, ht]
    · rw [List.getElem?_set_ne (by omega), h.2 i hi]
      by_cases e3 : i < k ∨ Q.length ≤ i + k
      · rw [if_pos e3, if_pos (by omega)]
      · rw [if_neg e3, if_neg (by omega)]
theorem rvs_end {Q L : List Cel} {k J : Nat} (h : rvs Q k L) (hJ : k + J + 1 = Q.length) (h1 : J ≤ k) (h2 : k ≤ J + 1) : L = Q.reverse := by
  apply List.ext_getElem?
  intro i
  rcases Nat.lt_or_ge i Q.length with hi | hi
  · rw [h.2 i hi, List.getElem?_reverse hi]
    split
    · rfl
    · have : Q.length - 1 - i = i := by omega
      rw [this]
  · rw [List.getElem?_eq_none (by rw [h.1]; exact hi), List.getElem?_eq_none (by simpa using hi)]
set_option maxRecDepth 20000 in
set_option maxHeartbeats 2000000 in
theorem Reverse_any (B g n cap : Nat) (Q : List Cel) (w : World) (hq : minec B w (.slice (some ⟨g, 0, none⟩) n cap) Q) (hn : Q.length = n) (h1 : 1 ≤ n) (h4 : n ≤ 4000000) :
    Calls Try.prog 60 #[.slice (some ⟨g, 0, none⟩) n cap] w fun e w' => e = .returned (.tuple #[]) ∧ minec B w' (.slice (some ⟨g, 0, none⟩) n cap) Q.reverse ∧ Ex (fun k => k = g) w w' := by
  have HN : Hid (Q.length = n) := hn
  have HQ : Hid (minec B w (.slice (some ⟨g, 0, none⟩) n cap) Q) := hq
  clear hn hq
  go_enter Try.func60, Try.ntmps60
  go_wp2_with fail
  go_loopw [2, 3] (fun i j wr => ∃ (k J : Nat) (L : List Cel), i = .int .i64 k ∧ j = .int .i64 J ∧ k + J + 1 = n ∧ k ≤ J + 1 ∧ Hid (minec B wr (.slice (some ⟨g, 0, none⟩) n cap) L ∧ rvs Q k L ∧ Ex (fun k => k = g) w wr)) (fun _ j _ => (intOf j).toNat)
  case atStart => exact ⟨0, n - 1, Q, rfl, by go_num, by omega, by omega, HQ.out, rvs_zero Q, Ex.refl _ _⟩
  case round =>
    obtain ⟨k, J, L, rfl, rfl, hkJ, hle, HS⟩ := hrel
    by_cases hlt : k < J
    · have i0 : (k : Int) < J := by omega
      have i1 : (k : Int) < n := by omega
      have i2 : (J : Int) < n := by omega
      have i3 : (0 : Int) ≤ k := by omega
      have i4 : (0 : Int) ≤ J := by omega
      have hL : L.length = n := HS.out.2.1.1.trans HN.out
      obtain ⟨s, hs⟩ : ∃ s, L[k]? = some s := ⟨_, List.getElem?_eq_getElem (by omega)⟩
      obtain ⟨t, ht⟩ : ∃ t, L[J]? = some t := ⟨_, List.getElem?_eq_getElem (by omega)⟩
      obtain ⟨a1, a2⟩ := minec_cell HS.out.1 hL (by omega) hs
      obtain ⟨b1, b2⟩ := minec_cell HS.out.1 hL (by omega) ht
      have fz := minec_free HS.out.1 hL
      have hq1 := minec_put HS.out.1 hL (k := k) (by omega) t
      have hn1 : (L.set k t).length = n := by simpa using hL
      have hs1 : (L.set k t)[J]? = some t := by rw [List.getElem?_set_ne (by omega)]; exact ht
      obtain ⟨d1, d2⟩ := minec_cell hq1 hn1 (by omega) hs1
      have fz1 := minec_free hq1 hn1
      have hq2 := minec_put hq1 hn1 (k := J) (by omega) s
      have E1 := fun (V : World) (p : Addr) (u : Value) (hp : p.block = g) => Ex.set (S := fun k => k = g) V p hp u
      have T1 := fun {a b c : World} (h : Ex (fun k => k = g) a b) (k : Ex (fun k => k = g) b c) => Ex.trans h k (fun _ _ e => e)
      have HS2 : Hid (minec B ((((wr.setCell ⟨g, k * 2, none⟩ (.int .i64 t.x)).setCell ⟨g, k * 2 + 1, none⟩ (.int .i64 t.y)).setCell ⟨g, J * 2, none⟩ (.int .i64 s.x)).setCell ⟨g, J * 2 + 1, none⟩ (.int .i64 s.y)).drew (.slice (some ⟨g, 0, none⟩) n cap) ((L.set k t).set J s) ∧ rvs Q (k + 1) ((L.set k t).set J s) ∧ Ex (fun k => k = g) w ((((wr.setCell ⟨g, k * 2, none⟩ (.int .i64 t.x)).setCell ⟨g, k * 2 + 1, none⟩ (.int .i64 t.y)).setCell ⟨g, J * 2, none⟩ (.int .i64 s.x)).setCell ⟨g, J * 2 + 1, none⟩ (.int .i64 s.y)).drew) := by
        refine ⟨minec_drew hq2, rvs_next HS.out.2.1 (by rw [HN.out]; exact hkJ) hlt hs ht, ?_⟩
        exact (T1 (T1 (T1 (T1 HS.out.2.2 (E1 _ _ _ rfl)) (E1 _ _ _ rfl)) (E1 _ _ _ rfl)) (E1 _ _ _ rfl)).drew
      clear E1 T1 hq1 hq2 hs ht hs1 hn1 hL
      go_wp2_with fail
      go_region
      go_wp2_with fail
      go_roundw
      case rel => exact ⟨k + 1, J - 1, _, by go_num, by go_num, by omega, by omega, HS2⟩
      case measure => simp [intOf]; omega
    · have HZ : Hid (L = Q.reverse) := rvs_end HS.out.2.1 (by rw [HN.out]; exact hkJ) (by omega) hle
      go_wp2_with fail
      go_end0
      exact ⟨rfl, by rw [← HZ.out]; exact HS.out.1, HS.out.2.2⟩
end Go.Proofs.Ytnbbfnlfcncgnaa
/- What Find returns. -/
namespace Go.Proofs.Ytnbbfnlfcncgnaa
open Go.RowKit
set_option linter.unusedVariables false

/-- What Find answers. -/
def finr (A B : Int) (l : List Int) (a b : Cel) (n0 : Nat) (w' : World) (v : Value) (D E : Int) : Prop :=
  (E ≠ 0 ∧ rerr A B l a b E ∧ D = 0 ∧ v = .slice none 0 0) ∨
  (E = 0 ∧ ∃ (W H : Nat) (far : List Int) (R : List Cel) (g cap : Nat), good A B l a b W H far ∧ 0 ≤ pa far (ixc W b) ∧ D = pa far (ixc W b) ∧ Trl W H l far b R ∧ R.length ≤ 2401 ∧ v = .slice (some ⟨g, 0, none⟩) R.length cap ∧ minec n0 w' v R.reverse)
theorem aho_step {W H : Nat} {l far : List Int} {S : Nat → Prop} {b c d : Cel} {R : List Cel} {k : Nat} {t : Bool} (hs : Sol W H l S far) (h : Trl W H l far b R) (hk : k < R.length) (hc : R[k] = c) (ha : aho W H l far c d t) : t = decide (k + 1 < R.length) ∧ (R[k + 1]? = none ∨ R[k + 1]? = some d) := by
  subst hc
  by_cases hk1 : k + 1 < R.length
  · have hn := (trl_next h hk1).2
    rcases ha with ⟨rfl, h1⟩ | ⟨rfl, h1⟩
    · exact ⟨by simp [hk1], .inr (by rw [List.getElem?_eq_getElem hk1, ahd_one hn h1])⟩
    · exact (ahd_nah hn h1).elim
  · have h0 := trl_last h (k := k) (by omega)
    have hn := sol_nah hs (trl_at h hk).1 h0
    rcases ha with ⟨rfl, h1⟩ | ⟨rfl, h1⟩
    · exact (ahd_nah h1 hn).elim
    · exact ⟨by simp [hk1], .inl (List.getElem?_eq_none (by omega))⟩
theorem minec_one (w : World) (x y : Int) : minec w.heap.size (w.alloc (.cells #[.int .i64 x, .int .i64 y] 31)) (.slice (some ⟨w.heap.size, 0, none⟩) 1 1) [⟨x, y⟩] :=
  ⟨by simp [flat2, cl2], .inr ⟨w.heap.size, 1, #[.int .i64 x, .int .i64 y], rfl, Nat.le_refl _, World.alloc_heap_new w _, Nat.le_refl _, by decide, by simp, by simp [flat2, cl2]⟩⟩
theorem minec_mono {B B' : Nat} {w : World} {v : Value} {L : List Cel} (h : minec B w v L) (hB : B' ≤ B) : minec B' w v L := ⟨h.1, by
  rcases h.2 with h0 | ⟨g', cap, cur, hv, hb, hr⟩
  · exact .inl h0
  · exact .inr ⟨g', cap, cur, hv, Nat.le_trans hB hb, hr⟩⟩
/-- How Find stands behind k cells: the way v, the next cell in box C. -/
def fst4 (w2 wr : World) (R : List Cel) (v : Value) (C k : Nat) : Prop :=
  Below w2.heap.size w2 wr ∧ minec w2.heap.size wr v (R.take k) ∧ (∃ x y, wr.heap[C]? = some (.cells #[.int .i64 x, .int .i64 y] 31) ∧ (R[k]? = none ∨ R[k]? = some ⟨x, y⟩)) ∧ w2.heap.size ≤ C ∧ v.ownBlock ≠ some C
/-- One cell more is laid behind the way, and copied into a box of its own. -/
theorem fst4_more {w2 wr : World} {R : List Cel} {v : Value} {C k : Nat} {x y : Int} (h : fst4 w2 wr R v C k) (hk : k < R.length) (hR : R.length ≤ 4000) (hx : R[k]? = some ⟨x, y⟩) :
    ∃ v' w7, (Builtin.append_ #[25, 25] 25 #[v, .slice (some ⟨wr.heap.size, 0, none⟩) 1 1]).run Try.prog (wr.alloc (.cells #[.int .i64 x, .int .i64 y] 31)) = .ok v' w7 ∧ Below w2.heap.size w2 w7 ∧ minec w2.heap.size w7 v' (R.take (k + 1)) ∧ w7.cell? ⟨C, 0, none⟩ = some (.int .i64 x) ∧ w7.cell? ⟨C, 1, none⟩ = some (.int .i64 y) ∧ (∀ q, v'.ownBlock = some q → w2.heap.size ≤ q ∧ q < w7.heap.size) ∧ w2.heap.size ≤ w7.heap.size := by
  obtain ⟨h1, h2, ⟨x', y', h3, h4⟩, h5, h6⟩ := h
  have hxy : R[k]? = some ⟨x', y'⟩ := by
    rcases h4 with h4 | h4
    · rw [h4] at hx; cases hx
    · exact h4
  rw [hx] at hxy
  obtain ⟨rfl, rfl⟩ := (Cel.mk.injEq _ _ _ _).mp (Option.some.inj hxy)
  have hC : C < wr.heap.size := by
    rcases Nat.lt_or_ge C wr.heap.size with hlt | hge
    · exact hlt
    · rw [Array.getElem?_eq_none hge] at h3; cases h3
  have hb := alloc_below wr (.cells #[.int .i64 x, .int .i64 y] 31)
  obtain ⟨v', w7, hrun, hm, hg⟩ := run_more (d := 1) (m := 1) 25 (minec_below h2 hb) (crow_one wr x y) rfl (fun h => by cases h) (by rw [List.length_take]; omega) (by have := h1.size; simp; omega)
  have hm' : minec w2.heap.size w7 v' (R.take (k + 1)) := by
    have e : R.take (k + 1) = R.take k ++ [⟨x, y⟩] := by rw [List.take_add_one, hx]; rfl
    rw [e]; exact hm
  have h7 : w7.heap[C]? = some (.cells #[.int .i64 x, .int .i64 y] 31) := by
    rw [hg.block C (by rw [World.size_alloc]; omega) (fun e => h6 e.symm), hb.block C hC]; exact h3
  refine ⟨v', w7, hrun, ?_, hm', by simp [World.cell?, h7], by simp [World.cell?, h7], World.ownsRow.lt hm', ?_⟩
  · exact (h1.alloc h1.size _).grown hg (by have := h1.size; simp; omega) (fun q hq => (World.ownsRow.lt h2 q hq).1)
  · have h8 := hg.size; have h9 := h1.size; rw [World.size_alloc] at h8; omega
theorem fst4_box {w2 w7 w9 w10 : World} {R : List Cel} {v' : Value} {C k : Nat} {x y : Int} (hb7 : Below w2.heap.size w2 w7) (hm : minec w2.heap.size w7 v' (R.take (k + 1))) (hC : w7.heap.size = C) (hb9 : Below w7.heap.size w7 w9) (h9 : w9.heap[C]? = some (.cells #[.int .i64 x, .int .i64 y] 31)) (d : Cel) (hd : R[k + 1]? = none ∨ R[k + 1]? = some d)
    (hw10 : w10 = (w9.setCell ⟨C, 0, none⟩ (.int .i64 d.x)).setCell ⟨C, 1, none⟩ (.int .i64 d.y)) : fst4 w2 w10 R v' C (k + 1) := by
  have hs7 := hb7.size
  have hv := World.ownsRow.lt hm
  have h10 : w10.heap[C]? = some (.cells #[.int .i64 d.x, .int .i64 d.y] 31) := by
    have h1 := heap_setCell_same w9 C 0 _ 31 (.int .i64 d.x) h9
    have h2 := heap_setCell_same _ C 1 _ 31 (.int .i64 d.y) h1
    rw [hw10, h2]; rfl
  have hb10 : Below w7.heap.size w9 w10 := by
    rw [hw10]
    exact ((Below.refl _ w9).setCell (p := ⟨C, 0, none⟩) (by show w7.heap.size ≤ C; omega) _).setCell (p := ⟨C, 1, none⟩) (by show w7.heap.size ≤ C; omega) _
  have hbb : Below w7.heap.size w7 w10 := hb9.trans hb10
  exact ⟨hb7.trans (hbb.mono hs7), minec_below hm hbb, ⟨d.x, d.y, h10, hd⟩, by omega, fun e => by have := (hv C e).2; omega⟩
theorem fst4_start {w2 w3 w4 : World} {R : List Cel} {v : Value} {C : Nat} (hb3 : Below w2.heap.size w2 w3) (hm : minec w2.heap.size w3 v (R.take 1)) (hb4 : Below w3.heap.size w3 w4) (hC : w4.heap.size = C) (d : Cel) (hd : R[0 + 1]? = none ∨ R[0 + 1]? = some d) : fst4 w2 (w4.alloc (.cells #[.int .i64 d.x, .int .i64 d.y] 31)) R v C 1 := by
  have hv := World.ownsRow.lt hm
  have h4 := hb4.size
  have h3 := hb3.size
  have hb := alloc_below w4 (.cells #[.int .i64 d.x, .int .i64 d.y] 31)
  refine ⟨(hb3.trans (hb4.mono h3)).trans (hb.mono (by omega)), minec_below (minec_below hm hb4) hb, ⟨d.x, d.y, by rw [← hC]; exact World.alloc_heap_new w4 _, hd⟩, by omega, fun e => by have := (hv C e).2; omega⟩
/-- How long a row is. -/
def lnv : Value → Nat
  | .slice _ n _ => n
  | _ => 0
set_option maxRecDepth 20000 in
set_option maxHeartbeats 4000000 in
theorem pFind_any (A B : Int) (p : Option Addr) (n c : Nat) (l : List Int) (ax ay bx by_ : Int) (w : World) (hr : row vi w p l) (hn : l.length = n) (hm : n ≤ 9223372036854775807) :
    Calls Try.prog 29 #[.agg #[.int .i64 A, .int .i64 B, .slice p n c], .agg #[.int .i64 ax, .int .i64 ay], .agg #[.int .i64 bx, .int .i64 by_]] w fun e w' => (∃ v D E, e = .returned (.tuple #[v, .int .i64 D, .int .i64 E]) ∧ finr A B l ⟨ax, ay⟩ ⟨bx, by_⟩ w.heap.size w' v D E) ∧ Below w.heap.size w w' := by
  obtain ⟨F, hF⟩ : ∃ F, w.heap.size = F := ⟨_, rfl⟩
  obtain ⟨w0, hw0⟩ : ∃ w0, ((w.alloc (.cells #[.int .i64 A, .int .i64 B, .slice p n c] 24)).alloc (.cells #[.int .i64 ax, .int .i64 ay] 31)).alloc (.cells #[.int .i64 bx, .int .i64 by_] 31) = w0 := ⟨_, rfl⟩
  have hB0 : Below w.heap.size w w0 := by rw [← hw0]; exact ((alloc_below w _).alloc (by simp) _).alloc (by simp; omega) _
  have HB0 : Hid (Below w.heap.size w w0) := hB0
  have HBX : Hid (∀ V, Below w0.heap.size w0 V → V.cell? ⟨F, 0, none⟩ = some (.int .i64 A) ∧ V.cell? ⟨F, 1, none⟩ = some (.int .i64 B) ∧ V.cell? ⟨F, 2, none⟩ = some (.slice p n c) ∧ V.cell? ⟨F + 1, 0, none⟩ = some (.int .i64 ax) ∧ V.cell? ⟨F + 1, 1, none⟩ = some (.int .i64 ay) ∧ V.cell? ⟨F + 2, 0, none⟩ = some (.int .i64 bx) ∧ V.cell? ⟨F + 2, 1, none⟩ = some (.int .i64 by_)) := fun V hV => pboxf hF hw0 hV
  obtain ⟨z0, z1, z2, z3, z4, z5, z6⟩ := HBX.out w0 (Below.refl _ _)
  have HR : Hid (row vi w0 p l) := row_below hr hB0
  have HN : Hid (l.length = n) := hn
  have HF : Hid (w.heap.size = F) := hF
  clear hr hn hB0
  go_enter Try.func29, Try.ntmps29
  go_wp2_with fail
  refine (reachOf_any A B p n c l ax ay bx by_ w0 HR.out HN.out hm).mono ?_
  rintro e w1 ⟨hcase, hb1⟩
  clear z0 z1 z2 z3 z4 z5 z6 hw0
  rcases hcase with ⟨E, hE, hrr, rfl⟩ | ⟨W, H, far, g, hgd, hpos, rfl, hfr, rfl⟩
  · have d1 : (E == 0) = false := by simp [hE]
    have HRR : Hid (rerr A B l ⟨ax, ay⟩ ⟨bx, by_⟩ E) := hrr
    have HB2 : Hid (Below w.heap.size w (w1.alloc (.cells #[.int .i64 0, .int .i64 0, .slice none 0 0, .slice none 0 0] 95))) := (HB0.out.trans (hb1.mono HB0.out.size)).alloc (by have := hb1.size; have := HB0.out.size; omega) _
    clear hrr hb1
    go_wp2_with fail
    go_ret3
    exact ⟨⟨_, _, _, rfl, .inl ⟨hE, HRR.out, rfl, rfl⟩⟩, HB2.out⟩
  · obtain ⟨hA, hB, hok, hia, hib, hra, hrb, hsol⟩ := hgd
    subst hA hB
    obtain ⟨X, Y, eb, hX, hY⟩ := hib
    simp only [Cel.mk.injEq] at eb
    obtain ⟨rfl, rfl⟩ := eb
    obtain ⟨I, hI⟩ : ∃ I, Y * W + X = I := ⟨_, rfl⟩
    have HI : Hid (Y * W + X = I) := hI
    have HIC : Hid (ixc W ⟨X, Y⟩ = I) := by unfold Hid; rw [ixc_nat]; exact hI
    have hIl : I < W * H := by rw [← hI]; exact pl_lt hX hY
    have hN : W * H ≤ 1600 := wh_le hok.1 hok.2.1
    obtain ⟨D, hD⟩ : ∃ D, pa far I = D := ⟨_, rfl⟩
    have HD : Hid (pa far I = D) := hD
    have hDb := sol_bd hsol hN I hIl
    have hinb : inf W H ⟨X, Y⟩ := ⟨X, Y, rfl, hX, hY⟩
    obtain ⟨R, hR, hRl⟩ := trl_ex hsol (pa far (ixc W ⟨X, Y⟩)).toNat ⟨X, Y⟩ hinb (by omega)
    have hRl2 : R.length ≤ 2401 := by rw [ixc_nat, hI] at hRl; omega
    have HGD : Hid (good W H l ⟨ax, ay⟩ ⟨X, Y⟩ W H far ∧ 0 ≤ pa far (ixc W ⟨X, Y⟩)) := ⟨⟨rfl, rfl, hok, hia, hinb, hra, hrb, hsol⟩, hpos⟩
    obtain ⟨m, hmR⟩ : ∃ m, R.length = m := ⟨_, rfl⟩
    have HRT : Hid (Trl W H l far ⟨X, Y⟩ R ∧ R.length = m ∧ m ≤ 2401 ∧ 0 < m) := ⟨hR, hmR, by omega, by have := trl_pos hR; omega⟩
    obtain ⟨G, hG⟩ : ∃ G, w1.heap.size = G := ⟨_, rfl⟩
    obtain ⟨w2, hw2⟩ : ∃ w2, w1.alloc (.cells #[.int .i64 (W : Int), .int .i64 (H : Int), .slice p (W * H) c, .slice (some ⟨g, 0, none⟩) (W * H) (W * H)] 95) = w2 := ⟨_, rfl⟩
    have hb2 : Below w1.heap.size w1 w2 := by rw [← hw2]; exact alloc_below _ _
    have hB2 : Below w0.heap.size w0 w2 := hb1.trans (hb2.mono hb1.size)
    have HRL : Hid (row vi w2 p l ∧ row vi w2 (some ⟨g, 0, none⟩) far) := ⟨row_below HR.out hB2, row_below hfr hb2⟩
    have HBG : Hid (∀ V, Below w2.heap.size w2 V → (V.cell? ⟨G, 0, none⟩ = some (.int .i64 (W : Int)) ∧ V.cell? ⟨G, 1, none⟩ = some (.int .i64 (H : Int)) ∧ V.cell? ⟨G, 2, none⟩ = some (.slice p (W * H) c) ∧ V.cell? ⟨G, 3, none⟩ = some (.slice (some ⟨g, 0, none⟩) (W * H) (W * H))) ∧ V.cell? ⟨F + 2, 0, none⟩ = some (.int .i64 (X : Int)) ∧ V.cell? ⟨F + 2, 1, none⟩ = some (.int .i64 (Y : Int))) := by
      intro V hV
      refine ⟨cells4 hG (by rw [hw2]; exact hV), ?_⟩
      obtain ⟨_, _, _, _, _, v5, v6⟩ := HBX.out V (hB2.trans (hV.mono hB2.size))
      exact ⟨v5, v6⟩
    obtain ⟨a, rfl⟩ := row_some HRL.out.1 (by rw [hok.2.2.1]; exact one_le hok.1 hok.2.1)
    -- the call of ahead at a cell of the way
    have HAH : Hid (∀ k (hk : k < R.length) (x y : Int), R[k]? = some ⟨x, y⟩ → ∀ V, Below w2.heap.size w2 V → Calls Try.prog 59 #[.agg #[.int .i64 (W : Int), .int .i64 (H : Int), .slice (some a) (W * H) c, .slice (some ⟨g, 0, none⟩) (W * H) (W * H)], .agg #[.int .i64 x, .int .i64 y]] V fun e w' => (∃ (d : Cel), e = .returned (.tuple #[.agg #[.int .i64 d.x, .int .i64 d.y], .bool (decide (k + 1 < m))]) ∧ (R[k + 1]? = none ∨ R[k + 1]? = some d)) ∧ Below V.heap.size V w') := by
      intro k hk x y hxy V hV
      rw [List.getElem?_eq_getElem hk] at hxy
      have hxy := Option.some.inj hxy
      obtain ⟨h1, h2⟩ := trl_at hR hk
      obtain ⟨x', y', e, hx', hy'⟩ := h1
      rw [e] at hxy
      simp only [Cel.mk.injEq] at hxy
      obtain ⟨rfl, rfl⟩ := hxy
      have hnr : pa l (y' * W + x') ≠ 1 := fun er => by
        rw [e, ixc_nat, hsol.rock _ (pl_lt hx' hy') er] at h2; omega
      refine (ahead_any W H x' y' a c g l far V (row_below HRL.out.1 hV) (row_below HRL.out.2 hV) hok.1 hok.2.1 hok.2.2.1 hok.2.2.2 hsol.len (fun i hi => sol_bd hsol hN i hi) hx' hy' hnr).mono ?_
      rintro e1 w' ⟨⟨d, t, rfl, hd⟩, hb'⟩
      obtain ⟨rfl, h3⟩ := aho_step hsol hR hk e hd
      rw [hmR]
      exact ⟨⟨d, rfl, h3⟩, hb'⟩
    have HSZ : Hid (F + 3 ≤ w2.heap.size ∧ G < w2.heap.size ∧ g < w2.heap.size) := by
      have h1 := cell_lt (HBG.out w2 (Below.refl _ _)).1.1
      have h2 : w0.heap.size ≤ w2.heap.size := hB2.size
      have h3 := cell_lt (HBX.out w0 (Below.refl _ _)).2.2.2.2.2.1
      obtain ⟨b', hb', hc'⟩ := row_at HRL.out.2 (j := I) (by rw [hsol.len]; exact hIl)
      cases hb'
      have h4 := cell_lt hc'
      rw [add_block] at h4
      refine ⟨?_, h1, h4⟩
      have h5 : F + 2 < w0.heap.size := h3
      omega
    have HB2 : Hid (Below w.heap.size w w2) := HB0.out.trans (hB2.mono HB0.out.size)
    have HCS : Hid (∀ V, Below w2.heap.size w2 V → V.cell? ⟨g, I, none⟩ = some (.int .i64 D)) := by
      intro V hV
      obtain ⟨b', hb', hc'⟩ := row_at (row_below HRL.out.2 hV) (j := I) (by rw [hsol.len]; exact hIl)
      cases hb'
      rw [← pa_get far, add_zero_at, hD] at hc'; exact hc'
    clear hok hia hra hrb hsol hpos hfr hb1 hb2 hB2 hI hX hY hD hDb hinb hR hRl hRl2 hmR
    obtain ⟨S, hS⟩ : ∃ S, w2.heap.size = S := ⟨_, rfl⟩
    obtain ⟨w3, hw3⟩ : ∃ w3, w2.alloc (.cells #[.int .i64 (X : Int), .int .i64 (Y : Int)] 31) = w3 := ⟨_, rfl⟩
    have hb3 : Below w2.heap.size w2 w3 := by rw [← hw3]; exact alloc_below _ _
    have hm3 : minec w2.heap.size w3 (.slice (some ⟨S, 0, none⟩) 1 1) [⟨X, Y⟩] := by rw [← hw3, ← hS]; exact minec_one _ _ _
    have HS3 : Hid (Below w2.heap.size w2 w3 ∧ minec w2.heap.size w3 (.slice (some ⟨S, 0, none⟩) 1 1) [⟨X, Y⟩] ∧ S < w3.heap.size) := ⟨hb3, hm3, by rw [← hw3, ← hS]; simp⟩
    obtain ⟨⟨t0, t1, t2, t3⟩, b0, b1⟩ := HBG.out w3 hb3
    obtain ⟨-, c0, c1⟩ := HBG.out w2 (Below.refl _ _)
    clear hb3 hm3
    go_wp2_with fail
    have h0 : R[0]? = some ⟨X, Y⟩ := trl_head HRT.out.1
    refine (HAH.out 0 (trl_pos HRT.out.1) X Y h0 w3 HS3.out.1).mono ?_
    rintro e w4 ⟨⟨d, rfl, hd⟩, hb4⟩
    obtain ⟨C0, hC0⟩ : ∃ C0, w4.heap.size = C0 := ⟨_, rfl⟩
    have H5 : Hid (fst4 w2 (w4.alloc (.cells #[.int .i64 d.x, .int .i64 d.y] 31)) R (.slice (some ⟨S, 0, none⟩) 1 1) C0 1) := by
      refine fst4_start HS3.out.1 ?_ hb4 hC0 d hd
      have e : R.take 1 = [⟨X, Y⟩] := by
        have := h0
        cases R with
        | nil => simp at this
        | cons r R => simp at this; simp [this]
      rw [e]; exact HS3.out.2.1
    obtain ⟨w5, hw5⟩ : ∃ w5, w4.alloc (.cells #[.int .i64 d.x, .int .i64 d.y] 31) = w5 := ⟨_, rfl⟩
    rw [hw5] at H5
    clear hb4 hd h0 t0 t1 t2 t3 b0 b1 c0 c1 hw3 hw2
    go_wp2_with fail
    go_loopw [11, 12, 13] (fun v pc ok wr => ∃ (k g' cap C : Nat), v = .slice (some ⟨g', 0, none⟩) k cap ∧ pc = .pointer (some ⟨C, 0, none⟩) ∧ ok = .bool (decide (k < m)) ∧ 1 ≤ k ∧ k ≤ m ∧ Hid (fst4 w2 wr R (.slice (some ⟨g', 0, none⟩) k cap) C k)) (fun v _ _ _ => m - lnv v)
    case atStart => exact ⟨1, S, 1, C0, rfl, rfl, rfl, by omega, HRT.out.2.2.2, H5⟩
    case round =>
      obtain ⟨k, g', cap, C, rfl, rfl, rfl, hk1, hkm, HS⟩ := hrel
      by_cases hlt : k < m
      · have dk : decide (k < m) = true := by simp [hlt]
        have hkl : k < R.length := by rw [HRT.out.2.1]; exact hlt
        obtain ⟨⟨x, y⟩, hxy⟩ : ∃ q, R[k]? = some q := ⟨_, List.getElem?_eq_getElem hkl⟩
        obtain ⟨v7, w7, hrun, hb7, hm7, q0, q1, hv7, hs7⟩ := fst4_more HS.out hkl (by have := HRT.out; omega) hxy
        have HXY : Hid (R[k]? = some ⟨x, y⟩) := hxy
        obtain ⟨g7, cap7, ev7, hg7, hg7s, hc7⟩ := minec_some hm7 (by rw [List.length_take]; omega)
        have el : (R.take (k + 1)).length = k + 1 := by rw [List.length_take]; omega
        rw [el] at ev7
        subst ev7
        have HM7 : Hid (Below w2.heap.size w2 w7 ∧ minec w2.heap.size w7 (.slice (some ⟨g7, 0, none⟩) (k + 1) cap7) (R.take (k + 1))) := ⟨hb7, hm7⟩
        have HRun : Hid ((Builtin.append_ #[25, 25] 25 #[.slice (some ⟨g', 0, none⟩) k cap, .slice (some ⟨wr.heap.size, 0, none⟩) 1 1]).run Try.prog (wr.alloc (.cells #[.int .i64 x, .int .i64 y] 31)) = .ok (.slice (some ⟨g7, 0, none⟩) (k + 1) cap7) w7) := hrun
        obtain ⟨p0, p1⟩ : wr.cell? ⟨C, 0, none⟩ = some (.int .i64 x) ∧ wr.cell? ⟨C, 1, none⟩ = some (.int .i64 y) := by
          obtain ⟨_, _, ⟨x', y', h3, h4⟩, _, _⟩ := HS.out
          rcases h4 with h4 | h4
          · rw [h4] at hxy; cases hxy
          · rw [hxy] at h4
            simp only [Option.some.injEq, Cel.mk.injEq] at h4
            obtain ⟨rfl, rfl⟩ := h4
            exact ⟨by simp [World.cell?, h3], by simp [World.cell?, h3]⟩
        obtain ⟨C7, hC7⟩ : ∃ C7, w7.heap.size = C7 := ⟨_, rfl⟩
        obtain ⟨w8, hw8⟩ : ∃ w8, w7.alloc (.cells #[.int .i64 x, .int .i64 y] 31) = w8 := ⟨_, rfl⟩
        have hb8 : Below w7.heap.size w7 w8 := by rw [← hw8]; exact alloc_below _ _
        have hB8 : Below w2.heap.size w2 w8 := hb7.trans (hb8.mono hs7)
        have h8 : w8.heap[C7]? = some (.cells #[.int .i64 x, .int .i64 y] 31) := by rw [← hw8, ← hC7]; exact World.alloc_heap_new w7 _
        obtain ⟨r0, r1, -, -⟩ := free2 h8
        obtain ⟨⟨t0, t1, t2, t3⟩, -, -⟩ := HBG.out w8 hB8
        have H8 : Hid (w8.heap[C7]? = some (.cells #[.int .i64 x, .int .i64 y] 31) ∧ Below w7.heap.size w7 w8 ∧ Below w2.heap.size w2 w8 ∧ C7 < w8.heap.size) := ⟨h8, hb8, hB8, by rw [← hw8, ← hC7]; simp⟩
        clear hxy hrun hb7 hm7 hv7 hs7 hb8 hB8 h8 hg7 hg7s hc7 el
        go_wp2_with (at_builtin; refine wpList_append_run rfl _ _ 25 rfl (.slice (some ⟨g', 0, none⟩) k cap) (.slice (some ⟨wr.heap.size, 0, none⟩) 1 1) rfl rfl HRun.out ?_)
        go_wp2_with fail
        refine (HAH.out k hkl x y HXY.out w8 H8.out.2.2.1).mono ?_
        rintro e w9 ⟨⟨d', rfl, hd'⟩, hb9⟩
        have h9 : w9.heap[C7]? = some (.cells #[.int .i64 x, .int .i64 y] 31) := by rw [hb9.block C7 H8.out.2.2.2]; exact H8.out.1
        obtain ⟨s0, s1, s2, s3⟩ := free2 h9
        have HN9 : Hid (fst4 w2 ((w9.setCell ⟨C7, 0, none⟩ (.int .i64 d'.x)).setCell ⟨C7, 1, none⟩ (.int .i64 d'.y)) R (.slice (some ⟨g7, 0, none⟩) (k + 1) cap7) C7 (k + 1)) :=
          fst4_box HM7.out.1 HM7.out.2 hC7 (H8.out.2.1.trans (hb9.mono H8.out.2.1.size)) h9 d' hd' rfl
        clear hd' hb9 h9 hw8 p0 p1 q0 q1 r0 r1 t0 t1 t2 t3
        go_wp2_with fail
        go_roundw
        case rel => exact ⟨k + 1, g7, cap7, C7, rfl, rfl, rfl, by omega, by omega, HN9⟩
        case measure => simp [lnv]; omega
      · obtain rfl : k = m := by omega
        have dk : decide (k < k) = false := by simp
        have hmk : minec w2.heap.size wr (.slice (some ⟨g', 0, none⟩) k cap) R := by
          have := HS.out.2.1
          rwa [List.take_of_length_le (by rw [HRT.out.2.1]; exact Nat.le_refl _)] at this
        have hgg := (World.ownsRow.lt hmk g' rfl).1
        have HMK : Hid (minec w2.heap.size wr (.slice (some ⟨g', 0, none⟩) k cap) R) := hmk
        clear hmk
        go_wp2_with fail
        refine (Reverse_any w2.heap.size g' k cap R wr HMK.out HRT.out.2.1 hk1 (by have := HRT.out; omega)).mono ?_
        rintro e w11 ⟨rfl, hm11, he11⟩
        have hB11 : Below w2.heap.size w2 w11 := HS.out.1.trans (he11.below HS.out.1.size (fun q hq e => by omega))
        have H11 : Hid (Below w2.heap.size w2 w11 ∧ minec w2.heap.size w11 (.slice (some ⟨g', 0, none⟩) k cap) R.reverse) := ⟨hB11, hm11⟩
        obtain ⟨⟨t0, t1, t2, t3⟩, b0, b1⟩ := HBG.out w11 hB11
        clear hm11 he11 hB11 hgg
        go_wp2_with fail
        refine (cost_any W H X Y I _ g D w11 HI (by omega) hIl (HCS.out w11 H11.out.1)).mono ?_
        rintro e w12 ⟨rfl, hb12⟩
        have H12 : Hid (Below w.heap.size w w12 ∧ minec w.heap.size w12 (.slice (some ⟨g', 0, none⟩) k cap) R.reverse) :=
          ⟨HB2.out.trans ((H11.out.1.trans (hb12.mono H11.out.1.size)).mono HB2.out.size), minec_mono (minec_below H11.out.2 hb12) HB2.out.size⟩
        clear hb12 t0 t1 t2 t3 b0 b1
        go_wp2_with fail
        go_ret3
        refine ⟨⟨_, _, _, rfl, .inr ⟨rfl, W, H, far, R, g', cap, HGD.out.1, HGD.out.2, by rw [HIC.out, HD.out], HRT.out.1, by have := HRT.out; omega, by rw [HRT.out.2.1]; rfl, H12.out.2⟩⟩, H12.out.1⟩
end Go.Proofs.Ytnbbfnlfcncgnaa
/- What is told of a way, from its beginning on. -/

namespace Go.Proofs.Ytnbbfnlfcncgnaa
set_option linter.unusedVariables false
section
variable {W H : Nat} {l far : List Int} {a b : Cel} {R : List Cel}
theorem fst_cel (ha : inf W H a) (i : Nat) : fst_ W [a] i ↔ i = ixc W a := by
  obtain ⟨x, y, rfl, _, _⟩ := ha
  rw [ixc_nat]; exact fst_one
theorem way_first (hs : Sol W H l (fst_ W [a]) far) (ha : inf W H a) (h : Trl W H l far b R) : (R.reverse)[0]? = some a := by
  have hp := trl_pos h
  rw [List.getElem?_reverse hp]
  have h1 : R.length - 1 - 0 < R.length := by omega
  rw [List.getElem?_eq_getElem h1]
  have h2 := trl_end hs (fun i _ => fst_cel ha i) h (k := R.length - 1 - 0) (by omega)
  rw [ixc_inj (trl_at h h1).1 ha h2]
theorem way_last (h : Trl W H l far b R) {M : Nat} (hM : R.length = M + 1) : (R.reverse)[M]? = some b := by
  rw [List.getElem?_reverse (by omega)]
  have : R.length - 1 - M = 0 := by omega
  rw [this]; exact trl_head h
theorem way_at {S : Nat → Prop} (hs : Sol W H l S far) (h : Trl W H l far b R) {j : Nat} {c : Cel} (hj : (R.reverse)[j]? = some c) : inf W H c ∧ 0 ≤ pa far (ixc W c) ∧ pa l (ixc W c) ≠ 1 := by
  have hl : j < R.length := by have := (List.getElem?_eq_some_iff.1 hj).1; simpa using this
  rw [List.getElem?_reverse hl, List.getElem?_eq_getElem (by omega)] at hj
  have e := Option.some.inj hj
  have h1 := trl_at h (k := R.length - 1 - j) (by omega)
  rw [e] at h1
  exact ⟨h1.1, h1.2, fun er => by have := hs.rock _ (inf_lt h1.1) er; omega⟩
theorem way_next {S : Nat → Prop} (hs : Sol W H l S far) (h : Trl W H l far b R) {j : Nat} {c d : Cel} (hc : (R.reverse)[j]? = some c) (hd : (R.reverse)[j + 1]? = some d) : adj W H (ixc W c) (ixc W d) ∧ pa far (ixc W d) = pa far (ixc W c) + kc (pa l (ixc W d)) := by
  have hl : j + 1 < R.length := by have := (List.getElem?_eq_some_iff.1 hd).1; simpa using this
  rw [List.getElem?_reverse (by omega), List.getElem?_eq_getElem (by omega)] at hc hd
  have ec := Option.some.inj hc
  have ed := Option.some.inj hd
  have h1 := trl_step hs h (k := R.length - 1 - (j + 1)) (by omega)
  have e : R.length - 1 - (j + 1) + 1 = R.length - 1 - j := by omega
  simp only [e] at h1
  rw [ec, ed] at h1
  exact h1
theorem adj_near {c d : Cel} (hc : inf W H c) (hd : inf W H d) (h : adj W H (ixc W c) (ixc W d)) : (d.x - c.x = 0 ∧ (d.y - c.y = 1 ∨ d.y - c.y = -1)) ∨ (d.y - c.y = 0 ∧ (d.x - c.x = 1 ∨ d.x - c.x = -1)) := by
  obtain ⟨X, Y, rfl, hX, hY⟩ := hc
  obtain ⟨X', Y', rfl, hX', hY'⟩ := hd
  rw [ixc_nat, ixc_nat] at h
  obtain ⟨x, y, x', y', h1, h2, h3, h4, h5, h6, h7⟩ := h
  obtain ⟨rfl, rfl⟩ := pl_inj hX h3 h1
  obtain ⟨rfl, rfl⟩ := pl_inj hX' h4 h2
  simp only
  omega
theorem near_sq {dx dy : Int} (h : (dx = 0 ∧ (dy = 1 ∨ dy = -1)) ∨ (dy = 0 ∧ (dx = 1 ∨ dx = -1))) : ∃ P Q : Int, dx * dx = P ∧ dy * dy = Q ∧ P + Q = 1 ∧ 0 ≤ P ∧ P ≤ 1 ∧ 0 ≤ Q ∧ Q ≤ 1 ∧ -1 ≤ dx ∧ dx ≤ 1 ∧ -1 ≤ dy ∧ dy ≤ 1 := by
  rcases h with ⟨rfl, rfl | rfl⟩ | ⟨rfl, rfl | rfl⟩
  all_goals exact ⟨_, _, rfl, rfl, by decide, by decide, by decide, by decide, by decide, by decide, by decide, by decide, by decide⟩
end
end Go.Proofs.Ytnbbfnlfcncgnaa
/- A part of a cheapest way is a cheapest way. -/
namespace Go.Proofs.Ytnbbfnlfcncgnaa
set_option linter.unusedVariables false
section
variable {W H : Nat} {l far : List Int} {a b c t : Cel} {R : List Cel} {A B : Int}
theorem way_trans {p q r : Nat} {c1 c2 : Int} (h1 : Way W H l p q c1) (h2 : Way W H l q r c2) : Way W H l p r (c1 + c2) := by
  induction h2 with
  | nil => rwa [Int.add_zero]
  | snoc h3 h4 h5 ih => have := Way.snoc ih h4 h5; rwa [Int.add_assoc] at this
theorem sol_way2 (hs : Sol W H l (fst_ W [a]) far) (ha : inf W H a) (hb : inf W H b) (h0 : 0 ≤ pa far (ixc W b)) : Way W H l (ixc W a) (ixc W b) (pa far (ixc W b)) := by
  have := sol_way hs (fun i _ => fst_cel ha i) (pa far (ixc W b)).toNat (ixc W b) (inf_lt hb) (by omega)
  rwa [Int.toNat_of_nonneg h0] at this
theorem way_le2 {q : Nat} {k : Int} (hs : Sol W H l (fst_ W [a]) far) (ha : inf W H a) (hw : Way W H l (ixc W a) q k) : 0 ≤ pa far q ∧ pa far q ≤ k :=
  way_le hs (fun i _ => fst_cel ha i) (inf_lt ha) hw
theorem ate_ok (hok : okf W H l) (hc : inf W H c) : ate W H l c = 0 ∧ atz W H l c = pa l (ixc W c) := by
  have h0 : ck W H l = 0 := ck_ok hok.1 hok.2.1 hok.2.2.1 hok.2.2.2
  have h1 : ate W H l c = 0 := by
    unfold ate
    rw [if_neg (by simp [h0])]
    have := inf_inb.2 hc
    simp [this]
  refine ⟨h1, ?_⟩
  unfold atz
  rw [if_neg (by simp [h1])]; rfl
theorem per_ok (hok : okf W H l) (ha : inf W H a) (hb : inf W H b) (ra : pa l (ixc W a) ≠ 1) (rb : pa l (ixc W b) ≠ 1) : per W H l a b = 0 := by
  unfold per
  rw [(ate_ok hok ha).1, (ate_ok hok hb).1, (ate_ok hok ha).2, (ate_ok hok hb).2]
  simp [ra, rb]
theorem good_one {W' H' : Nat} {far' : List Int} {b' : Cel} (h : good A B l a b W H far) (h' : good A B l a b' W' H' far') : W' = W ∧ H' = H ∧ far' = far := by
  obtain ⟨h1, h2, _, _, _, _, _, h3⟩ := h
  obtain ⟨k1, k2, _, _, _, _, _, k3⟩ := h'
  have e1 : W' = W := by omega
  have e2 : H' = H := by omega
  subst e1 e2
  exact ⟨rfl, rfl, sol_one k3 h3⟩
/-- An error is told only where b cannot be come to from a. -/
theorem rerr_no {E : Int} (hok : okf W H l) (ha : inf W H a) (hb : inf W H b) (ra : pa l (ixc W a) ≠ 1) (rb : pa l (ixc W b) ≠ 1) {k : Int} (hw : Way W H l (ixc W a) (ixc W b) k) (hr : rerr W H l a b E) : False := by
  rcases hr with ⟨h1, _⟩ | ⟨_, W', H', far', h2, h3⟩
  · exact h1 (per_ok hok ha hb ra rb)
  · obtain ⟨k1, k2, _, ka, _, _, _, k3⟩ := h2
    have e1 : W' = W := by omega
    have e2 : H' = H := by omega
    subst e1 e2
    have := way_le2 k3 ha hw
    omega
/-- What Far tells where b can be come to from a by a way: no more than that, and a way of that cost there is. -/
theorem farr_way {D E : Int} (hok : okf W H l) (ha : inf W H a) (hb : inf W H b) (ra : pa l (ixc W a) ≠ 1) (rb : pa l (ixc W b) ≠ 1) {k : Int} (hw : Way W H l (ixc W a) (ixc W b) k) (hf : farr W H l a b D E) : E = 0 ∧ 0 ≤ D ∧ D ≤ k ∧ D ≤ 4800 ∧ Way W H l (ixc W a) (ixc W b) D := by
  rcases hf with ⟨_, h2, _⟩ | ⟨h1, W', H', far', h2, h3, h4⟩
  · exact (rerr_no hok ha hb ra rb hw h2).elim
  · obtain ⟨k1, k2, _, ka, kb, _, _, k3⟩ := h2
    have e1 : W' = W := by omega
    have e2 : H' = H := by omega
    subst e1 e2
    have h5 := way_le2 k3 ha hw
    have h6 := sol_way2 k3 ha hb h3
    have h7 := sol_bd k3 (wh_le hok.1 hok.2.1) _ (inf_lt hb)
    rw [← h4] at h5 h6 h7
    exact ⟨h1, by omega, by omega, by omega, h6⟩
theorem part_third {x y g h : Int} (hgd : good A B l a b W H far) (h0 : 0 ≤ pa far (ixc W b)) (h1 : farr A B l a c x g) (h2 : farr A B l c b y h) : g ≠ 0 ∨ (g = 0 ∧ h = 0 ∧ pa far (ixc W b) ≤ x + y ∧ 0 ≤ x ∧ x ≤ 4800 ∧ 0 ≤ y ∧ y ≤ 4800) := by
  rcases h1 with ⟨h1, _⟩ | ⟨rfl, W', H', far', h3, h4, h5⟩
  · exact .inl h1
  · obtain ⟨rfl, rfl, rfl⟩ := good_one hgd h3
    obtain ⟨rfl, rfl, hok, ha, hb, ra, rb, hs⟩ := hgd
    obtain ⟨_, _, _, _, hc, _, rc, _⟩ := h3
    have w1 := sol_way2 hs ha hc h4
    have w2 := sol_way2 hs ha hb h0
    have w3 := way_trans (way_back ra w1) w2
    obtain ⟨e1, e2, e3, e4, w4⟩ := farr_way hok hc hb rc rb w3 h2
    have h6 := way_le2 hs ha (way_trans w1 w4)
    have h7 := sol_bd hs (wh_le hok.1 hok.2.1) _ (inf_lt hc)
    exact .inr ⟨rfl, e1, by omega, by omega, by omega, by omega, by omega⟩
theorem way_along {S : Nat → Prop} (hs : Sol W H l S far) (h : Trl W H l far b R) {n : Nat} (ht : (R.reverse)[n]? = some t) : ∀ (j : Nat) (d : Cel), (R.reverse)[n + j]? = some d → Way W H l (ixc W t) (ixc W d) (pa far (ixc W d) - pa far (ixc W t)) := by
  intro j
  induction j with
  | zero =>
    intro d hd
    rw [Nat.add_zero, ht] at hd
    obtain rfl := Option.some.inj hd
    rw [Int.sub_self]; exact Way.nil
  | succ j ih =>
    intro d hd
    have hl : n + j < (R.reverse).length := by have := (List.getElem?_eq_some_iff.1 hd).1; omega
    have h1 := ih _ (List.getElem?_eq_getElem hl)
    have h2 := way_next hs h (List.getElem?_eq_getElem hl) hd
    have h3 := Way.snoc h1 h2.1 (way_at hs h hd).2.2
    have e : pa far (ixc W (R.reverse)[n + j]) - pa far (ixc W t) + kc (pa l (ixc W d)) = pa far (ixc W d) - pa far (ixc W t) := by omega
    rwa [e] at h3
theorem part_rest {n : Nat} {q j : Int} (hgd : good A B l a b W H far) (hR : Trl W H l far b R) (ht : (R.reverse)[n]? = some t) (hf : farr A B l t b q j) : j = 0 ∧ pa far (ixc W t) + q = pa far (ixc W b) ∧ 0 ≤ q ∧ q ≤ 4800 := by
  obtain ⟨rfl, rfl, hok, ha, hb, ra, rb, hs⟩ := hgd
  obtain ⟨it, pt, rt⟩ := way_at hs hR ht
  have hl : n < (R.reverse).length := (List.getElem?_eq_some_iff.1 ht).1
  obtain ⟨M, hM⟩ : ∃ M, R.length = M + 1 := ⟨R.length - 1, by have := trl_pos hR; omega⟩
  rw [List.length_reverse, hM] at hl
  have w1 := way_along hs hR ht (M - n) b (by
    have : n + (M - n) = M := by omega
    rw [this]; exact way_last hR hM)
  obtain ⟨e1, e2, e3, e4, w2⟩ := farr_way hok it hb rt rb w1 hf
  have w3 := way_le2 hs ha (way_trans (sol_way2 hs ha it pt) w2)
  exact ⟨e1, by omega, e2, e4⟩
theorem part_first {n n0 : Nat} {w' : World} {v : Value} {D E : Int} (hgd : good A B l a b W H far) (hR : Trl W H l far b R) (ht : (R.reverse)[n]? = some t) (hf : finr A B l a t n0 w' v D E) : E = 0 ∧ D = pa far (ixc W t) ∧ ∃ g cap, v = .slice (some ⟨g, 0, none⟩) (n + 1) cap ∧ minec n0 w' v ((R.reverse).take (n + 1)) := by
  have hgd' := hgd
  obtain ⟨rfl, rfl, hok, ha, hb, ra, rb, hs⟩ := hgd
  obtain ⟨it, pt, rt⟩ := way_at hs hR ht
  rcases hf with ⟨_, h2, _⟩ | ⟨h1, W', H', far', R', g, cap, h2, h3, h4, h5, h6, h7, h8⟩
  · exact (rerr_no hok ha it ra rt (sol_way2 hs ha it pt) h2).elim
  · obtain ⟨rfl, rfl, rfl⟩ := good_one hgd' h2
    have hl : n < R.length := by have := (List.getElem?_eq_some_iff.1 ht).1; simpa using this
    rw [List.getElem?_reverse hl, List.getElem?_eq_getElem (by omega)] at ht
    have e := Option.some.inj ht
    have h9 := trl_drop hR (R.length - 1 - n) (by omega)
    rw [e] at h9
    have h10 := trl_one h5 h9
    have h11 : R'.reverse = (R.reverse).take (n + 1) := by
      rw [h10, List.take_reverse]
      congr 2
      omega
    have h12 : R'.length = n + 1 := by rw [h10, List.length_drop]; omega
    refine ⟨h1, h4, g, cap, by rw [h7, h12], ?_⟩
    rw [← h11]; exact h8
end
end Go.Proofs.Ytnbbfnlfcncgnaa
