/- The document's own answer: which error a field is of, a cell's place, whether a cell is one of the field. -/
import Derived.Test.YtgebfpncapfaoaaWd
namespace Go.Proofs.Ytgebfpncapfaoaa
open Go.RowKit
set_option linter.unusedVariables false
theorem one_le {W H : Nat} (hW : 1 ≤ W ∧ W ≤ 40) (hH : 1 ≤ H ∧ H ≤ 40) : 1 ≤ W * H := by have := Nat.mul_le_mul hW.1 hH.1; omega
theorem wh_le {W H : Nat} (hW : 1 ≤ W ∧ W ≤ 40) (hH : 1 ≤ H ∧ H ≤ 40) : W * H ≤ 1600 := by have := Nat.mul_le_mul hW.2 hH.2; omega
/-- The boxes of a field and of a cell at a call's head. -/
theorem boxes {w w1 w0 : World} {a b c d e : Value} {t t' : TypeId} (hw0 : (w.alloc (.cells #[a, b, c] t)).alloc (.cells #[d, e] t') = w0) (hb : Below w0.heap.size w0 w1) :
    w1.cell? ⟨w.heap.size, 0, none⟩ = some a ∧ w1.cell? ⟨w.heap.size, 1, none⟩ = some b ∧ w1.cell? ⟨w.heap.size, 2, none⟩ = some c ∧ w1.cell? ⟨w.heap.size + 1, 0, none⟩ = some d ∧ w1.cell? ⟨w.heap.size + 1, 1, none⟩ = some e ∧ Below w.heap.size w w1 := by
  subst hw0
  refine ⟨?_, ?_, ?_, ?_, ?_, ?_⟩
  rotate_left 5
  · exact ((alloc_below w _).alloc (by simp) _).trans (hb.mono (by simp; omega))
  all_goals
    rw [hb.cell (by simp <;> omega)]
    simp [go_sem]

set_option maxHeartbeats 400000 in
theorem Between_any (n lo hi : Int) (w : World) :
    Calls Try.prog 46 #[.int .i64 n, .int .i64 lo, .int .i64 hi] w fun e w' => e = .returned (.bool (decide (lo ≤ n) && decide (n ≤ hi))) ∧ w' = w := by
  go_enter Try.func46, Try.ntmps46
  go_wp2
  all_goals
    go_ret
    exact ⟨by simp_all <;> omega, rfl⟩
theorem Between_at (n lo hi : Int) (b : Bool) (w : World) (h : Hid ((decide (lo ≤ n) && decide (n ≤ hi)) = b)) :
    Calls Try.prog 46 #[.int .i64 n, .int .i64 lo, .int .i64 hi] w fun e w' => e = .returned (.bool b) ∧ w' = w := by rw [← h.out]; exact Between_any n lo hi w
theorem sort_bad (x : Int) : (decide (0 ≤ x) && decide (x ≤ 3)) = !bad x := by
  unfold bad
  by_cases h1 : 0 ≤ x <;> by_cases h2 : x ≤ 3 <;> simp [h1, h2] <;> omega

set_option maxRecDepth 20000 in
set_option maxHeartbeats 2000000 in
theorem Right_any (W H : Int) (p : Option Addr) (n c : Nat) (l : List Int) (E : Int) (w : World) (hr : row vi w p l) (hn : l.length = n) (hm : n ≤ 9223372036854775807) (hE : Hid (ck W H l = E)) :
    Calls Try.prog 50 #[.agg #[.int .i64 W, .int .i64 H, .slice p n c]] w fun e w' => e = .returned (.int .i64 E) ∧ Below w.heap.size w w' := by
  have H1 : Hid (row vi w p l) := hr
  have HN : Hid (l.length = n) := hn
  clear hr hn
  cases hW : sd W with
  | false =>
    have HW : Hid (sd W = false) := hW
    clear hW
    go_enter Try.func50, Try.ntmps50
    go_wp2_with fail
    refine (Between_at W 1 40 false _ HW).mono ?_
    rintro e w' ⟨rfl, hw⟩; subst w'
    go_wp2_with fail
    go_ret
    exact ⟨ret_int (by rw [← hE.out]; unfold ck; rw [HW.out]; simp), alloc_below _ _⟩
  | true =>
    have HW : Hid (sd W = true) := hW
    clear hW
    cases hH : sd H with
    | false =>
      have HH : Hid (sd H = false) := hH
      clear hH
      go_enter Try.func50, Try.ntmps50
      go_wp2_with fail
      refine (Between_at W 1 40 true _ HW).mono ?_
      rintro e w' ⟨rfl, hw⟩; subst w'
      go_wp2_with fail
      refine (Between_at H 1 40 false _ HH).mono ?_
      rintro e w' ⟨rfl, hw⟩; subst w'
      go_wp2_with fail
      go_ret
      exact ⟨ret_int (by rw [← hE.out]; unfold ck; rw [HH.out]; simp), alloc_below _ _⟩
    | true =>
      have HH : Hid (sd H = true) := hH
      clear hH
      have hw1 : 1 ≤ W ∧ W ≤ 40 := by have := HW.out; unfold sd at this; simpa using this
      have hh1 : 1 ≤ H ∧ H ≤ 40 := by have := HH.out; unfold sd at this; simpa using this
      obtain ⟨M, hM⟩ : ∃ M : Int, W * H = M := ⟨_, rfl⟩
      have hM0 : 0 ≤ M ∧ M ≤ 1600 := by
        rw [← hM]
        refine ⟨Int.mul_nonneg (by omega) (by omega), ?_⟩
        have := Int.mul_le_mul hw1.2 hh1.2 (by omega) (by omega); omega
      have hwr : IntKind.i64.wrap (W * H) = M := by rw [hM]; exact wrp (by omega) (by omega)
      have HM : Hid (W * H = M) := hM
      clear hM
      have hb := alloc_below w (.cells #[.int .i64 W, .int .i64 H, .slice p n c] 37)
      have HB : Hid (Below w.heap.size w (w.alloc (.cells #[.int .i64 W, .int .i64 H, .slice p n c] 37))) := hb
      clear hb
      by_cases he : (n : Int) = M
      · have e1 : ((n : Int) == M) = true := by simp [he]
        have HE0 : Hid (l.any bad = false → E = 0) := fun h => by rw [← hE.out]; unfold ck; rw [HW.out, HH.out, h, HN.out, HM.out]; simp [he]
        have HE4 : Hid (l.any bad = true → E = 4) := fun h => by rw [← hE.out]; unfold ck; rw [HW.out, HH.out, h]; simp
        have H2 : Hid (row vi (w.alloc (.cells #[.int .i64 W, .int .i64 H, .slice p n c] 37)) p l) := row_below H1.out HB.out
        have hnb : n ≤ 1600 := by omega
        clear hE
        go_enter Try.func50, Try.ntmps50
        go_wp2_with fail
        refine (Between_at W 1 40 true _ HW).mono ?_
        rintro e w' ⟨rfl, hw⟩; subst w'
        go_wp2_with fail
        refine (Between_at H 1 40 true _ HH).mono ?_
        rintro e w' ⟨rfl, hw⟩; subst w'
        go_wp2_with fail
        generalize w.alloc (.cells #[.int .i64 W, .int .i64 H, .slice p n c] 37) = w0 at H2 HB ⊢
        go_loop [27] (fun i => ∃ k : Nat, i = .int .i64 (k : Int) ∧ k ≤ n ∧ Hid ((l.take k).any bad = false)) (fun i => n - (intOf i).toNat)
        case atStart => exact ⟨0, rfl, by omega, by unfold Hid; simp⟩
        case round =>
          obtain ⟨k, rfl, hk, HK⟩ := hrel
          by_cases hlt : k < n
          · have hkl : k < l.length := by rw [HN.out]; exact hlt
            obtain ⟨a, rfl, ha⟩ := row_at H2.out hkl
            have hat := any_take hkl HK.out
            have HT : Hid ((l.take (k + 1)).any bad = true → l.any bad = true) := fun h => by
              rw [← List.take_append_drop (k + 1) l, List.any_append, h]; rfl
            obtain ⟨X, hX⟩ : ∃ X, l[k] = X := ⟨_, rfl⟩
            rw [hX] at ha hat
            have ha' : w0.cell? (a.add k) = some (.int .i64 X) := ha
            have HA : Hid ((l.take (k + 1)).any bad = bad X) := hat
            clear ha hX hat
            have l1 : (k : Int) < n := by omega
            have l2 : (0 : Int) ≤ k := by omega
            cases hb : bad X with
            | true =>
              have HBX : Hid (bad X = true) := hb
              clear hb
              go_wp2_with fail
              refine (Between_at X 0 3 false _ (by unfold Hid; rw [sort_bad, HBX.out]; rfl)).mono ?_
              rintro e w' ⟨rfl, hw⟩; subst w'
              go_wp2_with fail
              go_ret
              exact ⟨ret_int (HE4.out (HT.out (by rw [HA.out]; exact HBX.out))).symm, HB.out⟩
            | false =>
              have HBX : Hid (bad X = false) := hb
              clear hb
              go_wp2_with fail
              refine (Between_at X 0 3 true _ (by unfold Hid; rw [sort_bad, HBX.out]; rfl)).mono ?_
              rintro e w' ⟨rfl, hw⟩; subst w'
              go_wp2_with fail
              go_round
              case rel => exact ⟨k + 1, by go_num, by omega, by unfold Hid; rw [HA.out]; exact HBX.out⟩
              case measure => simp [intOf]; omega
          · have HF : Hid (l.any bad = false) := by
              have e : l.take k = l := List.take_of_length_le (by rw [HN.out]; omega)
              have := HK.out; rw [e] at this; exact this
            go_wp2_with fail
            go_ret
            exact ⟨ret_int (HE0.out HF.out).symm, HB.out⟩
      · have e1 : ((n : Int) == M) = false := by simp [he]
        go_enter Try.func50, Try.ntmps50
        go_wp2_with fail
        refine (Between_at W 1 40 true _ HW).mono ?_
        rintro e w' ⟨rfl, hw⟩; subst w'
        go_wp2_with fail
        refine (Between_at H 1 40 true _ HH).mono ?_
        rintro e w' ⟨rfl, hw⟩; subst w'
        go_wp2_with fail
        go_ret
        exact ⟨ret_int (by rw [← hE.out]; unfold ck; rw [HW.out, HH.out, HN.out, HM.out]; simp [he]), HB.out⟩

set_option maxRecDepth 20000 in
set_option maxHeartbeats 1000000 in
theorem PlaceOf_in (W H : Nat) (a : Addr) (c : Nat) (l : List Int) (X Y : Nat) (Z : Int) (w : World) (hr : row vi w (some a) l) (hW : 1 ≤ W ∧ W ≤ 40) (hH : 1 ≤ H ∧ H ≤ 40) (hl : l.length = W * H) (hX : X < W) (hY : Y < H) (hZ : Hid (l.getD (Y * W + X) 0 = Z)) :
    Calls Try.prog 71 #[.agg #[.int .i64 (W : Int), .int .i64 (H : Int), .slice (some a) (W * H) c], .agg #[.int .i64 (X : Int), .int .i64 (Y : Int)]] w fun e w' => e = .returned (.int .i64 Z) ∧ Below w.heap.size w w' := by
  have HR : Hid (row vi w (some a) l) := hr
  have HL : Hid (l.length = W * H) := hl
  have hWH : W * H ≤ 1600 := wh_le hW hH
  clear hr hl
  obtain ⟨T, hT⟩ : ∃ T : Nat, Y * W = T := ⟨_, rfl⟩
  have hTl : T + X < W * H := by
    have : (Y + 1) * W ≤ H * W := Nat.mul_le_mul_right _ hY
    rw [Nat.add_mul, Nat.mul_comm H W] at this; omega
  obtain ⟨w0, hw0⟩ : ∃ w0, (w.alloc (.cells #[.int .i64 (W : Int), .int .i64 (H : Int), .slice (some a) (W * H) c] 37)).alloc (.cells #[.int .i64 (X : Int), .int .i64 (Y : Int)] 23) = w0 := ⟨_, rfl⟩
  obtain ⟨b0, b1, b2, b3, b4, hb1⟩ := boxes hw0 (Below.refl _ _)
  have HB : Hid (Below w.heap.size w w0) := hb1
  obtain ⟨ad, had, hcl⟩ := row_at (row_below HR.out hb1) (j := T + X) (by rw [HL.out]; exact hTl)
  cases had
  have hZ2 : l[T + X]'(by rw [HL.out]; exact hTl) = Z := by
    rw [← hZ.out, hT, List.getD_eq_getElem?_getD, List.getElem?_eq_getElem (by rw [HL.out]; exact hTl)]; rfl
  rw [hZ2] at hcl
  have hcl' : w0.cell? (a.add (T + X)) = some (.int .i64 Z) := hcl
  have eT : IntKind.i64.wrap ((Y : Int) * (W : Int)) = (T : Int) := by rw [← Int.natCast_mul, hT]; exact wrp (by omega) (by omega)
  obtain ⟨J, hJ⟩ : ∃ J : Nat, T + X = J := ⟨_, rfl⟩
  have eJ : (T : Int) + X = J := by omega
  have eJ2 : IntKind.i64.wrap (J : Int) = J := wrp (by omega) (by omega)
  rw [hJ] at hcl' hTl
  have hJi : (J : Int) < W * H := by omega
  have HW0 : Hid ((w.alloc (.cells #[.int .i64 (W : Int), .int .i64 (H : Int), .slice (some a) (W * H) c] 37)).alloc (.cells #[.int .i64 (X : Int), .int .i64 (Y : Int)] 23) = w0) := hw0
  have hcl2 : ((w.alloc (.cells #[.int .i64 (W : Int), .int .i64 (H : Int), .slice (some a) (W * H) c] 37)).alloc (.cells #[.int .i64 (X : Int), .int .i64 (Y : Int)] 23)).cell? (a.add J) = some (.int .i64 Z) := by rw [hw0]; exact hcl'
  clear hb1 hcl hZ2 hT hJ hw0 b0 b1 b2 b3 b4 hcl'
  go_enter Try.func71, Try.ntmps71
  go_wp2_with fail
  rw [HW0.out]
  go_ret
  exact ⟨rfl, HB.out⟩
set_option maxRecDepth 20000 in
set_option maxHeartbeats 1000000 in
theorem In_at (W H : Nat) (p : Option Addr) (n c : Nat) (X Y : Int) (b1 b2 : Bool) (w : World) (hW : 1 ≤ W ∧ W ≤ 40) (hH : 1 ≤ H ∧ H ≤ 40) (h1 : Hid ((decide (0 ≤ X) && decide (X ≤ (W : Int) - 1)) = b1)) (h2 : Hid ((decide (0 ≤ Y) && decide (Y ≤ (H : Int) - 1)) = b2)) :
    Calls Try.prog 70 #[.agg #[.int .i64 (W : Int), .int .i64 (H : Int), .slice p n c], .agg #[.int .i64 X, .int .i64 Y]] w fun e w' => e = .returned (.bool (b1 && b2)) ∧ Below w.heap.size w w' := by
  have hb : Below w.heap.size w ((w.alloc (.cells #[.int .i64 (W : Int), .int .i64 (H : Int), .slice p n c] 37)).alloc (.cells #[.int .i64 X, .int .i64 Y] 23)) := (alloc_below w _).alloc (by simp) _
  have HB : Hid _ := hb
  clear hb
  cases b1 with
  | false =>
    go_enter Try.func70, Try.ntmps70
    go_wp2_with fail
    refine (Between_at X 0 ((W : Int) - 1) false _ h1).mono ?_
    rintro e w' ⟨rfl, hw⟩; subst w'
    go_wp2_with fail
    go_ret
    exact ⟨rfl, HB.out⟩
  | true =>
    go_enter Try.func70, Try.ntmps70
    go_wp2_with fail
    refine (Between_at X 0 ((W : Int) - 1) true _ h1).mono ?_
    rintro e w' ⟨rfl, hw⟩; subst w'
    go_wp2_with fail
    refine (Between_at Y 0 ((H : Int) - 1) b2 _ h2).mono ?_
    rintro e w' ⟨rfl, hw⟩; subst w'
    go_wp2_with fail
    go_ret
    exact ⟨by simp, HB.out⟩
theorem In_in (W H : Nat) (p : Option Addr) (n c : Nat) (X Y : Int) (r : Bool) (w : World) (hW : 1 ≤ W ∧ W ≤ 40) (hH : 1 ≤ H ∧ H ≤ 40) (hr : Hid (inb W H X Y = r)) :
    Calls Try.prog 70 #[.agg #[.int .i64 (W : Int), .int .i64 (H : Int), .slice p n c], .agg #[.int .i64 X, .int .i64 Y]] w fun e w' => e = .returned (.bool r) ∧ Below w.heap.size w w' := by
  refine (In_at W H p n c X Y _ _ w hW hH rfl rfl).mono ?_
  rintro e w' ⟨rfl, hb⟩
  refine ⟨?_, hb⟩
  rw [← hr.out]
  unfold inb
  congr 2
  by_cases x0 : 0 ≤ X <;> by_cases x1 : X < (W : Int) <;> by_cases y0 : 0 ≤ Y <;> by_cases y1 : Y < (H : Int) <;> simp [x0, x1, y0, y1] <;> omega
end Go.Proofs.Ytgebfpncapfaoaa
