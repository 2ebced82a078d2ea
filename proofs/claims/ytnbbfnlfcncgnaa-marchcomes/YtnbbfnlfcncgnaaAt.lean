/- What field.At returns. -/
import Derived.Test.YtnbbfnlfcncgnaaWm
namespace Go.Proofs.Ytnbbfnlfcncgnaa
open Go.RowKit
set_option linter.unusedVariables false

theorem Check_at (W H : Int) (p : Option Addr) (n c : Nat) (l : List Int) (E : Int) (w : World) (hr : row vi w p l) (hn : l.length = n) (hm : n ≤ 9223372036854775807) (hE : Hid (ck W H l = E)) :
    Calls Try.prog 50 #[.agg #[.int .i64 W, .int .i64 H, .slice p n c]] w fun e w' => e = .returned (.int .i64 E) ∧ Below w.heap.size w w' := by
  rw [← hE.out]; exact Check_any W H p n c l w hr hn hm

theorem ck_yes {A C : Int} {l : List Int} (h : ck A C l = 0) : ∃ W H : Nat, A = W ∧ C = H ∧ (1 ≤ W ∧ W ≤ 40) ∧ (1 ≤ H ∧ H ≤ 40) ∧ l.length = W * H ∧ l.any bad = false := by
  unfold ck at h
  by_cases h1 : sd A = true ∧ sd C = true
  · rw [if_pos h1] at h
    by_cases h2 : (l.length : Int) = A * C ∧ l.any bad = false
    · unfold sd at h1
      simp at h1
      refine ⟨A.toNat, C.toNat, by omega, by omega, ⟨by omega, by omega⟩, ⟨by omega, by omega⟩, ?_, h2.2⟩
      have h3 := h2.1
      have e1 : A = (A.toNat : Int) := by omega
      have e2 : C = (C.toNat : Int) := by omega
      rw [e1, e2] at h3
      exact_mod_cast h3
    · rw [if_neg h2] at h; cases h
  · rw [if_neg h1] at h; cases h
set_option maxRecDepth 20000 in
set_option maxHeartbeats 1000000 in
theorem At_no (W H : Int) (p : Option Addr) (n c : Nat) (l : List Int) (X Y E : Int) (w : World) (hr : row vi w p l) (hn : l.length = n) (hm : n ≤ 9223372036854775807) (hE : Hid (ck W H l = E)) (h0 : E ≠ 0) :
    Calls Try.prog 92 #[.agg #[.int .i64 W, .int .i64 H, .slice p n c], .agg #[.int .i64 X, .int .i64 Y]] w fun e w' => e = .returned (.tuple #[.int .i64 0, .int .i64 E]) ∧ Below w.heap.size w w' := by
  have HR : Hid (row vi w p l) := hr
  have HN : Hid (l.length = n) := hn
  clear hr hn
  have e0 : (E == 0) = false := by simp [h0]
  go_enter Try.func92, Try.ntmps92
  go_wp2_with fail
  obtain ⟨w0, hw0⟩ : ∃ w0, (w.alloc (.cells #[.int .i64 W, .int .i64 H, .slice p n c] 24)).alloc (.cells #[.int .i64 X, .int .i64 Y] 31) = w0 := ⟨_, rfl⟩
  rw [hw0]
  refine (Check_at W H p n c l E _ (row_below HR.out (by rw [← hw0]; exact (alloc_below w _).alloc (by simp) _)) HN.out hm hE).mono ?_
  rintro e w1 ⟨rfl, hb⟩
  obtain ⟨_, _, _, _, _, hb1⟩ := boxes hw0 hb
  have HB : Hid (Below w.heap.size w w1) := hb1
  clear hb hb1 hw0
  go_wp2_with fail
  go_ret2
  exact ⟨rfl, HB.out⟩
set_option maxRecDepth 20000 in
set_option maxHeartbeats 1000000 in
theorem At_out (W H : Int) (p : Option Addr) (n c : Nat) (l : List Int) (X Y : Int) (w : World) (hr : row vi w p l) (hn : l.length = n) (hm : n ≤ 9223372036854775807) (hE : Hid (ck W H l = 0)) (h0 : X < 0 ∨ W ≤ X ∨ Y < 0 ∨ H ≤ Y) :
    Calls Try.prog 92 #[.agg #[.int .i64 W, .int .i64 H, .slice p n c], .agg #[.int .i64 X, .int .i64 Y]] w fun e w' => e = .returned (.tuple #[.int .i64 0, .int .i64 7]) ∧ Below w.heap.size w w' := by
  have HR : Hid (row vi w p l) := hr
  have HN : Hid (l.length = n) := hn
  clear hr hn
  have HO : Hid (X < 0 ∨ W ≤ X ∨ Y < 0 ∨ H ≤ Y) := h0
  clear h0
  go_enter Try.func92, Try.ntmps92
  go_wp2_with fail
  obtain ⟨w0, hw0⟩ : ∃ w0, (w.alloc (.cells #[.int .i64 W, .int .i64 H, .slice p n c] 24)).alloc (.cells #[.int .i64 X, .int .i64 Y] 31) = w0 := ⟨_, rfl⟩
  rw [hw0]
  refine (Check_at W H p n c l 0 _ (row_below HR.out (by rw [← hw0]; exact (alloc_below w _).alloc (by simp) _)) HN.out hm hE).mono ?_
  rintro e w1 ⟨rfl, hb⟩
  obtain ⟨b0, b1, b2, b3, b4, hb1⟩ := boxes hw0 hb
  have HB : Hid (Below w.heap.size w w1) := hb1
  clear hb hb1 hw0
  by_cases x0 : X < 0
  · go_wp2_with fail
    go_ret2
    exact ⟨rfl, HB.out⟩
  by_cases x1 : W ≤ X
  · go_wp2_with fail
    go_ret2
    exact ⟨rfl, HB.out⟩
  by_cases y0 : Y < 0
  · go_wp2_with fail
    go_ret2
    exact ⟨rfl, HB.out⟩
  have y1 : H ≤ Y := by have := HO.out; omega
  go_wp2_with fail
  go_ret2
  exact ⟨rfl, HB.out⟩
set_option maxRecDepth 20000 in
set_option maxHeartbeats 1000000 in
theorem At_in (W H : Nat) (a : Addr) (c : Nat) (l : List Int) (X Y : Nat) (Z : Int) (w : World) (hr : row vi w (some a) l) (hW : 1 ≤ W ∧ W ≤ 40) (hH : 1 ≤ H ∧ H ≤ 40) (hl : l.length = W * H) (hg : l.any bad = false) (hX : X < W) (hY : Y < H) (hZ : Hid (l.getD (Y * W + X) 0 = Z)) :
    Calls Try.prog 92 #[.agg #[.int .i64 (W : Int), .int .i64 (H : Int), .slice (some a) (W * H) c], .agg #[.int .i64 (X : Int), .int .i64 (Y : Int)]] w fun e w' => e = .returned (.tuple #[.int .i64 Z, .int .i64 0]) ∧ Below w.heap.size w w' := by
  have HR : Hid (row vi w (some a) l) := hr
  have HL : Hid (l.length = W * H) := hl
  have HG : Hid (l.any bad = false) := hg
  have HW : Hid (1 ≤ W ∧ W ≤ 40) := hW
  have HH : Hid (1 ≤ H ∧ H ≤ 40) := hH
  have hWH : W * H ≤ 1600 := by have := Nat.mul_le_mul hW.2 hH.2; omega
  clear hr hl hg hW hH
  go_enter Try.func92, Try.ntmps92
  go_wp2_with fail
  obtain ⟨w0, hw0⟩ : ∃ w0, (w.alloc (.cells #[.int .i64 (W : Int), .int .i64 (H : Int), .slice (some a) (W * H) c] 24)).alloc (.cells #[.int .i64 (X : Int), .int .i64 (Y : Int)] 31) = w0 := ⟨_, rfl⟩
  rw [hw0]
  refine (Check_at W H (some a) (W * H) c l 0 _ (row_below HR.out (by rw [← hw0]; exact (alloc_below w _).alloc (by simp) _)) HL.out (by omega) (ck_of ⟨HW.out, HH.out, HL.out, HG.out⟩)).mono ?_
  rintro e w1 ⟨rfl, hb⟩
  obtain ⟨b0, b1, b2, b3, b4, hb1⟩ := boxes hw0 hb
  have HB : Hid (Below w.heap.size w w1) := hb1
  obtain ⟨T, hT⟩ : ∃ T : Nat, Y * W = T := ⟨_, rfl⟩
  have hTl : T + X < W * H := by
    have : (Y + 1) * W ≤ H * W := Nat.mul_le_mul_right _ hY
    rw [Nat.add_mul, Nat.mul_comm H W] at this; omega
  obtain ⟨ad, had, hcl⟩ := row_at (row_below HR.out hb1) (j := T + X) (by rw [HL.out]; exact hTl)
  cases had
  have hZ2 : l[T + X]'(by rw [HL.out]; exact hTl) = Z := by
    rw [← hZ.out, hT, List.getD_eq_getElem?_getD, List.getElem?_eq_getElem (by rw [HL.out]; exact hTl)]; rfl
  rw [hZ2] at hcl
  have hcl' : w1.cell? (a.add (T + X)) = some (.int .i64 Z) := hcl
  have eT : IntKind.i64.wrap ((Y : Int) * (W : Int)) = (T : Int) := by rw [← Int.natCast_mul, hT]; exact wrp (by omega) (by omega)
  obtain ⟨J, hJ⟩ : ∃ J : Nat, T + X = J := ⟨_, rfl⟩
  have eJ : (T : Int) + X = J := by omega
  have eJ2 : IntKind.i64.wrap (J : Int) = J := wrp (by omega) (by omega)
  rw [hJ] at hcl' hTl
  have hJi : (J : Int) < W * H := by omega
  clear hb hb1 hw0 hcl hZ2 hT hJ
  have i1 : (X : Int) < W := by omega
  have i2 : (Y : Int) < H := by omega
  have i3 : (0 : Int) ≤ X := by omega
  have i4 : (0 : Int) ≤ Y := by omega
  go_wp2_with fail
  go_ret2
  exact ⟨rfl, HB.out⟩
end Go.Proofs.Ytnbbfnlfcncgnaa
