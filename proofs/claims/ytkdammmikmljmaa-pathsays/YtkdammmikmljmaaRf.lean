/- The document's own answer: what a place costs, which cells are beside one. -/
import Derived.Test.YtkdammmikmljmaaRef
import Derived.Test.YtkdammmikmljmaaCm
namespace Go.Proofs.Ytkdammmikmljmaa
open Go.RowKit
set_option linter.unusedVariables false

theorem In_in (W H : Nat) (p : Option Addr) (n c : Nat) (X Y : Int) (r : Bool) (w : World) (hW : 1 ≤ W ∧ W ≤ 40) (hH : 1 ≤ H ∧ H ≤ 40) (hr : Hid (inb W H X Y = r)) :
    Calls Try.prog 21 #[.agg #[.int .i64 (W : Int), .int .i64 (H : Int), .slice p n c], .agg #[.int .i64 X, .int .i64 Y]] w fun e w' => e = .returned (.bool r) ∧ Below w.heap.size w w' := by
  refine (In_at W H p n c X Y _ _ w hW hH rfl rfl).mono ?_
  rintro e w' ⟨rfl, hb⟩
  refine ⟨?_, hb⟩
  rw [← hr.out]
  unfold inb
  congr 2
  by_cases x0 : 0 ≤ X <;> by_cases x1 : X < (W : Int) <;> by_cases y0 : 0 ≤ Y <;> by_cases y1 : Y < (H : Int) <;> simp [x0, x1, y0, y1] <;> omega
/-- What CostOf returns of a sort. -/
def cof (p : Int) : Int := if p = 1 then -1 else kc p
set_option maxRecDepth 20000 in
theorem CostOf_any (p : Int) (w : World) (h0 : 0 ≤ p) (h3 : p ≤ 3) : Calls Try.prog 28 #[.int .i64 p] w fun e w' => e = .returned (.int .i64 (cof p)) ∧ Below w.heap.size w w' := by
  have hp : p = 0 ∨ p = 1 ∨ p = 2 ∨ p = 3 := by omega
  rcases hp with rfl | rfl | rfl | rfl
  all_goals
    go_enter Try.func28, Try.ntmps28
    go_wp2_with fail
    go_ret
    exact ⟨rfl, alloc_below _ _⟩
theorem CostOf_at (p K : Int) (w : World) (h0 : 0 ≤ p) (h3 : p ≤ 3) (hK : Hid (cof p = K)) : Calls Try.prog 28 #[.int .i64 p] w fun e w' => e = .returned (.int .i64 K) ∧ Below w.heap.size w w' := by rw [← hK.out]; exact CostOf_any p w h0 h3
/-- The four cells beside one. -/
def four (X Y : Int) : List Cel := [⟨X, Y - 1⟩, ⟨X - 1, Y⟩, ⟨X + 1, Y⟩, ⟨X, Y + 1⟩]
theorem four_at (X Y : Int) {k : Nat} (hk : k < 4) : (four X Y)[k]? = some ⟨bX X k, bY Y k⟩ := by
  match k, hk with
  | 0, _ => rfl
  | 1, _ => rfl
  | 2, _ => rfl
  | 3, _ => rfl
/-- Those of the first k that are in the field. -/
def bsd (W H : Nat) (X Y : Int) (k : Nat) : List Cel := ((four X Y).take k).filter fun c => inb W H c.x c.y
theorem bsd_yes {W H : Nat} {X Y : Int} {k : Nat} (hk : k < 4) (h : inb W H (bX X k) (bY Y k) = true) : bsd W H X Y (k + 1) = bsd W H X Y k ++ [⟨bX X k, bY Y k⟩] := by
  unfold bsd
  have hl : k < (four X Y).length := hk
  have e : (four X Y)[k] = ⟨bX X k, bY Y k⟩ := by have := four_at X Y hk; rw [List.getElem?_eq_getElem hl] at this; exact Option.some.inj this
  rw [List.take_succ_eq_append_getElem hl, List.filter_append, e]
  simp [h]
theorem bsd_no {W H : Nat} {X Y : Int} {k : Nat} (hk : k < 4) (h : inb W H (bX X k) (bY Y k) = false) : bsd W H X Y (k + 1) = bsd W H X Y k := by
  unfold bsd
  have hl : k < (four X Y).length := hk
  have e : (four X Y)[k] = ⟨bX X k, bY Y k⟩ := by have := four_at X Y hk; rw [List.getElem?_eq_getElem hl] at this; exact Option.some.inj this
  rw [List.take_succ_eq_append_getElem hl, List.filter_append, e]
  simp [h]
theorem bsd_len (W H : Nat) (X Y : Int) (k : Nat) : (bsd W H X Y k).length ≤ 4 := by
  unfold bsd
  exact Nat.le_trans (List.length_filter_le _ _) (by rw [List.length_take]; exact Nat.min_le_right _ _)
theorem four_row (w : World) (X Y : Int) : crow (w.alloc (.cells #[.int .i64 X, .int .i64 (Y - 1), .int .i64 (X - 1), .int .i64 Y, .int .i64 (X + 1), .int .i64 Y, .int .i64 X, .int .i64 (Y + 1)] 26)) (some ⟨w.heap.size, 0, none⟩) (four X Y) := by
  intro j c hj
  refine ⟨_, rfl, ?_⟩
  rw [add_zero_at, add_zero_at]
  match j, hj with
  | 0, hj => simp [four] at hj; rw [← hj]; constructor <;> simp [go_sem]
  | 1, hj => simp [four] at hj; rw [← hj]; constructor <;> simp [go_sem]
  | 2, hj => simp [four] at hj; rw [← hj]; constructor <;> simp [go_sem]
  | 3, hj => simp [four] at hj; rw [← hj]; constructor <;> simp [go_sem]
  | (k + 4), hj => simp [four] at hj
set_option maxRecDepth 20000 in
set_option maxHeartbeats 2000000 in
theorem Beside_any (W H : Nat) (a : Option Addr) (n c : Nat) (X Y : Nat) (w : World) (hW : 1 ≤ W ∧ W ≤ 40) (hH : 1 ≤ H ∧ H ≤ 40) (hX : X ≤ 1000000) (hY : Y ≤ 1000000) :
    Calls Try.prog 25 #[.agg #[.int .i64 (W : Int), .int .i64 (H : Int), .slice a n c], .agg #[.int .i64 (X : Int), .int .i64 (Y : Int)]] w fun e w' => ∃ v, e = .returned v ∧ minec w.heap.size w' v (bsd W H X Y 4) ∧ Below w.heap.size w w' := by
  obtain ⟨F, hF⟩ : ∃ F, w.heap.size = F := ⟨_, rfl⟩
  obtain ⟨w0, hw0⟩ : ∃ w0, (w.alloc (.cells #[.int .i64 (W : Int), .int .i64 (H : Int), .slice a n c] 24)).alloc (.cells #[.int .i64 (X : Int), .int .i64 (Y : Int)] 26) = w0 := ⟨_, rfl⟩
  have HW : Hid ((1 ≤ W ∧ W ≤ 40) ∧ (1 ≤ H ∧ H ≤ 40)) := ⟨hW, hH⟩
  have HBX : Hid (∀ V, Below w0.heap.size w0 V → V.cell? ⟨F, 0, none⟩ = some (.int .i64 (W : Int)) ∧ V.cell? ⟨F, 1, none⟩ = some (.int .i64 (H : Int)) ∧ V.cell? ⟨F, 2, none⟩ = some (.slice a n c) ∧ V.cell? ⟨F + 1, 0, none⟩ = some (.int .i64 (X : Int)) ∧ V.cell? ⟨F + 1, 1, none⟩ = some (.int .i64 (Y : Int))) := by
    intro V hV
    obtain ⟨h1, h2, h3, h4, h5, _⟩ := boxes hw0 hV
    rw [← hF]; exact ⟨h1, h2, h3, h4, h5⟩
  have HB0 : Hid (Below w.heap.size w w0) := by rw [← hw0]; exact (alloc_below w _).alloc (by simp) _
  obtain ⟨z0, z1, z2, z3, z4⟩ := HBX.out w0 (Below.refl _ _)
  clear hW hH
  go_enter Try.func25, Try.ntmps25
  go_wp2_with fail
  obtain ⟨w1, hw1⟩ : ∃ w1, w0.alloc (.cells #[.int .i64 (X : Int), .int .i64 ((Y : Int) - 1), .int .i64 ((X : Int) - 1), .int .i64 (Y : Int), .int .i64 ((X : Int) + 1), .int .i64 (Y : Int), .int .i64 (X : Int), .int .i64 ((Y : Int) + 1)] 26) = w1 := ⟨_, rfl⟩
  have hb1 : Below w0.heap.size w0 w1 := by rw [← hw1]; exact alloc_below _ _
  have HR1 : Hid (crow w1 (some ⟨w0.heap.size, 0, none⟩) (four X Y)) := by rw [← hw1]; exact four_row _ _ _
  have HB1 : Hid (Below w0.heap.size w0 w1) := hb1
  rw [hw1]
  clear hb1 hw1 hw0 z0 z1 z2 z3 z4
  go_loopw [5, 34] (fun v i wr => ∃ (k : Nat), i = .int .i64 k ∧ k ≤ 4 ∧ Hid (minec w1.heap.size wr v (bsd W H X Y k) ∧ Below w1.heap.size w1 wr)) (fun _ i _ => 4 - (intOf i).toNat)
  case atStart => exact ⟨0, rfl, by omega, minec_nil _ _, Below.refl _ _⟩
  case round =>
    obtain ⟨k, rfl, hk, HS⟩ := hrel
    by_cases hlt : k < 4
    · obtain ⟨b, eb, hx, hy⟩ := crow_below HR1.out HS.out.2 k _ (four_at (X : Int) (Y : Int) hlt)
      cases eb
      obtain ⟨x, ex⟩ : ∃ x, bX (X : Int) k = x := ⟨_, rfl⟩
      obtain ⟨y, ey⟩ : ∃ y, bY (Y : Int) k = y := ⟨_, rfl⟩
      rw [add_zero_at] at hx hy
      simp only [ex, ey] at hx hy
      have HEX : Hid (bX (X : Int) k = x ∧ bY (Y : Int) k = y) := ⟨ex, ey⟩
      have l1 : (k : Int) < 4 := by omega
      obtain ⟨w5, hw5⟩ : ∃ w5, wr.alloc (.cells #[.int .i64 x, .int .i64 y] 26) = w5 := ⟨_, rfl⟩
      obtain ⟨G, hG⟩ : ∃ G, wr.heap.size = G := ⟨_, rfl⟩
      have hb5 : Below wr.heap.size wr w5 := by rw [← hw5]; exact alloc_below _ _
      have g0 : w5.cell? ⟨G, 0, none⟩ = some (.int .i64 x) ∧ w5.cell? ⟨G, 1, none⟩ = some (.int .i64 y) := by rw [← hw5, ← hG]; constructor <;> simp [go_sem]
      obtain ⟨g0, g1⟩ := g0
      have HS5 : Hid (minec w1.heap.size w5 u5 (bsd W H X Y k) ∧ Below w1.heap.size w1 w5) := ⟨minec_below HS.out.1 hb5, HS.out.2.trans (hb5.mono HS.out.2.size)⟩
      obtain ⟨z0, z1, z2, z3, z4⟩ := HBX.out w5 (HB1.out.trans (HS5.out.2.mono HB1.out.size))
      clear hb5 ex ey
      cases hin : inb W H x y with
      | false =>
        have HIN : Hid (inb W H x y = false) := hin
        clear hin
        go_wp2_with fail
        refine (In_in W H a n c x y false w5 HW.out.1 HW.out.2 HIN).mono ?_
        rintro e w6 ⟨rfl, hb6⟩
        have HS6 : Hid (minec w1.heap.size w6 u5 (bsd W H X Y (k + 1)) ∧ Below w1.heap.size w1 w6) := by
          rw [bsd_no hlt (by rw [HEX.out.1, HEX.out.2]; exact HIN.out)]
          exact ⟨minec_below HS5.out.1 hb6, HS5.out.2.trans (hb6.mono HS5.out.2.size)⟩
        clear hb6
        go_wp2_with fail
        go_roundw
        case rel => exact ⟨k + 1, by go_num, by omega, HS6⟩
        case measure => simp [intOf]; omega
      | true =>
        have HIN : Hid (inb W H x y = true) := hin
        clear hin
        go_wp2_with fail
        refine (In_in W H a n c x y true w5 HW.out.1 HW.out.2 HIN).mono ?_
        rintro e w6 ⟨rfl, hb6⟩
        have h6 : minec w1.heap.size w6 u5 (bsd W H X Y k) ∧ Below w1.heap.size w1 w6 := ⟨minec_below HS5.out.1 hb6, HS5.out.2.trans (hb6.mono HS5.out.2.size)⟩
        have p0 : w6.cell? ⟨G, 0, none⟩ = some (.int .i64 x) := (hb6.cell (p := ⟨G, 0, none⟩) (cell_lt g0)).trans g0
        have p1 : w6.cell? ⟨G, 1, none⟩ = some (.int .i64 y) := (hb6.cell (p := ⟨G, 1, none⟩) (cell_lt g1)).trans g1
        have hb7 := alloc_below w6 (.cells #[.int .i64 x, .int .i64 y] 26)
        obtain ⟨v7, w7, hrun, hm7, hg7⟩ := run_more (d := 1) (m := 1) 27 (minec_below h6.1 hb7) (crow_one w6 x y) rfl (fun h => by cases h) (by have := bsd_len W H X Y k; omega) (by have := h6.2.size; simp; omega)
        have HRun : Hid ((Builtin.append_ #[27, 27] 27 #[u5, .slice (some ⟨w6.heap.size, 0, none⟩) 1 1]).run Try.prog (w6.alloc (.cells #[.int .i64 x, .int .i64 y] 26)) = .ok v7 w7) := hrun
        have HS7 : Hid (minec w1.heap.size w7 v7 (bsd W H X Y (k + 1)) ∧ Below w1.heap.size w1 w7) := by
          refine ⟨?_, ?_⟩
          · rw [bsd_yes hlt (by rw [HEX.out.1, HEX.out.2]; exact HIN.out), HEX.out.1, HEX.out.2]; exact hm7
          · exact (h6.2.alloc h6.2.size _).grown hg7 (by have := h6.2.size; simp; omega) (fun k' hk' => (World.ownsRow.lt h6.1 k' hk').1)
        clear hb6 h6 hb7 hrun hm7 hg7 g0 g1
        go_wp2_with (at_builtin; refine wpList_append_run rfl _ _ 27 rfl u5 (.slice (some ⟨w6.heap.size, 0, none⟩) 1 1) rfl rfl HRun.out ?_)
        go_wp2_with fail
        go_roundw
        case rel => exact ⟨k + 1, by go_num, by omega, HS7⟩
        case measure => simp [intOf]; omega
    · obtain rfl : k = 4 := by omega
      go_wp2_with fail
      go_ret
      refine ⟨_, rfl, ?_, ?_⟩
      · have h := HS.out.1
        refine ⟨h.1, ?_⟩
        rcases h.2 with h0 | ⟨g', cap', cur, hv, hB, hr⟩
        · exact .inl h0
        · exact .inr ⟨g', cap', cur, hv, Nat.le_trans (Nat.le_trans HB0.out.size HB1.out.size) hB, hr⟩
      · exact HB0.out.trans ((HB1.out.trans (HS.out.2.mono HB1.out.size)).mono HB0.out.size)
end Go.Proofs.Ytkdammmikmljmaa
