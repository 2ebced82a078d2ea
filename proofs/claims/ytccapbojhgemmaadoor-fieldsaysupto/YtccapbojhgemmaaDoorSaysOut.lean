/- The law of all answers: the walks of a right field. -/
import Derived.Test.YtccapbojhgemmaaDoorSy
namespace Go.Proofs.YtccapbojhgemmaaDoor
open Go.RowKit
set_option linter.unusedVariables false

theorem in_none {W H : Nat} {X Y : Int} (h : X < 0 ∨ (W : Int) ≤ X ∨ Y < 0 ∨ (H : Int) ≤ Y) : ((decide (0 ≤ X) && decide (X ≤ (W : Int) - 1)) && (decide (0 ≤ Y) && decide (Y ≤ (H : Int) - 1))) = false := by
  rw [Bool.eq_false_iff]
  intro e
  simp at e
  omega
theorem In_b (W H : Nat) (p : Option Addr) (n c : Nat) (X Y : Int) (b : Bool) (w : World) (hW : 1 ≤ W ∧ W ≤ 40) (hH : 1 ≤ H ∧ H ≤ 40) (h : Hid (((decide (0 ≤ X) && decide (X ≤ (W : Int) - 1)) && (decide (0 ≤ Y) && decide (Y ≤ (H : Int) - 1))) = b)) :
    Calls Tryd.prog 13 #[.agg #[.int .i64 (W : Int), .int .i64 (H : Int), .slice p n c], .agg #[.int .i64 X, .int .i64 Y]] w fun e w' => e = .returned (.bool b) ∧ Below w.heap.size w w' := by
  rw [← h.out]
  exact In_at W H p n c X Y _ _ w hW hH rfl rfl
theorem row_own {B g n c : Nat} {w : World} {L : List Int} (h : mine 3 vi B w (.slice (some ⟨g, 0, none⟩) n c) L) : row vi w (some ⟨g, 0, none⟩) L := by
  obtain ⟨p, c', hv, hr, _⟩ := mine_full h
  injection hv with h1 _ _
  rw [h1]; exact hr

set_option maxRecDepth 20000 in
set_option maxHeartbeats 8000000 in
theorem Says_out (W H : Nat) (a : Addr) (c : Nat) (l : List Int) (s1 : ByteArray) (X Y : Int) (A1 C1 : Int) (L1 : List Int) (R n1 : _) (t : ByteArray) (w : World) (HR : Hid (row vi w (some a) l)) (HX : Hid ((1 ≤ W ∧ W ≤ 40) ∧ (1 ≤ H ∧ H ≤ 40) ∧ l.length = W * H ∧ l.any bad = false)) (hc : W * H ≤ c) (hs1 : s1.size ≤ 1048576)
    (hout : X < 0 ∨ (W : Int) ≤ X ∨ Y < 0 ∨ (H : Int) ≤ Y)
    (HN1 : Hid (L1.length = n1)) (hn1 : n1 ≤ 1640) (HRD : Hid (∀ B e w', rdp s1 B e w' → ∃ p c, e = .returned (.tuple #[.agg #[.int .i64 A1, .int .i64 C1, .slice p L1.length c], .int .i64 R]) ∧ row vi w' p L1))
    (HWF : Hid (∀ w, row vi w (some a) l →
      Calls Tryd.prog 4 #[.agg #[.int .i64 (W : Int), .int .i64 (H : Int), .slice (some a) (W * H) c]] w (fun e w' => e = .returned (.tuple #[.string t, .int .i64 0]) ∧ Below w.heap.size w w') ∧
      Calls Tryd.prog 5 #[.agg #[.int .i64 (W : Int), .int .i64 (H : Int), .slice (some a) (W * H) c]] w (fun e w' => e = .returned (.tuple #[.string t, .int .i64 0]) ∧ Below w.heap.size w w'))) :
    Calls Tryd.prog 3 #[.agg #[.int .i64 (W : Int), .int .i64 (H : Int), .slice (some a) (W * H) c], .string s1, .agg #[.int .i64 X, .int .i64 Y]] w fun e w' => e = .returned (.bool true) ∧ Below w.heap.size w w' := by
  have HE : Hid (ck (W : Int) (H : Int) l = 0) := ck_ok HX.out.1 HX.out.2.1 HX.out.2.2.1 HX.out.2.2.2
  have HN : Hid (l.length = W * H) := HX.out.2.2.1
  have hWH := wh_le HX.out.1 HX.out.2.1
  have hmax : W * H ≤ 9223372036854775807 := by omega
  have e1 : (t.toList == t.toList) = true := str_same t
  have HOUT : Hid (X < 0 ∨ (W : Int) ≤ X ∨ Y < 0 ∨ (H : Int) ≤ Y) := hout
  have HIN : Hid (((decide (0 ≤ X) && decide (X ≤ (W : Int) - 1)) && (decide (0 ≤ Y) && decide (Y ≤ (H : Int) - 1))) = false) := in_none hout
  clear hout
  go_enter Tryd.func3, Tryd.ntmps3
  go_wp2_with fail
  obtain ⟨w0, hw0⟩ : ∃ w0, (w.alloc (.cells #[.int .i64 (W : Int), .int .i64 (H : Int), .slice (some a) (W * H) c] 24)).alloc (.cells #[.int .i64 X, .int .i64 Y] 26) = w0 := ⟨_, rfl⟩
  obtain ⟨F0, hF0⟩ : ∃ F0, w.heap.size = F0 := ⟨_, rfl⟩
  have HBF : Hid (∀ V, Below w0.heap.size w0 V → V.cell? ⟨F0, 0, none⟩ = some (.int .i64 (W : Int)) ∧ V.cell? ⟨F0, 1, none⟩ = some (.int .i64 (H : Int)) ∧ V.cell? ⟨F0, 2, none⟩ = some (.slice (some a) (W * H) c) ∧ V.cell? ⟨F0 + 1, 0, none⟩ = some (.int .i64 X) ∧ V.cell? ⟨F0 + 1, 1, none⟩ = some (.int .i64 Y) ∧ F0 + 1 < V.heap.size ∧ F0 < V.heap.size ∧ row vi V (some a) l ∧ Below w.heap.size w V) := fun V hV => by
    obtain ⟨x0, x1, x2, x3, x4, x5⟩ := boxes hw0 hV
    rw [hF0] at x0 x1 x2 x3 x4
    have hsz : w0.heap.size = F0 + 2 := by rw [← hw0, ← hF0]; simp
    have := hV.size
    exact ⟨x0, x1, x2, x3, x4, by omega, by omega, row_below HR.out x5, x5⟩
  rw [hw0]
  clear hw0
  have hr0 := (HBF.out w0 (Below.refl _ _)).2.2.2.2.2.2.2.1
  refine (HWF.out w0 hr0).1.mono ?_
  rintro e w1 ⟨rfl, hb1⟩
  have HB1 : Hid (Below w0.heap.size w0 w1) := hb1
  clear hb1 hr0
  obtain ⟨x0, x1, x2, x3, x4, x5, x6, hr1, _⟩ := HBF.out w1 HB1.out
  have HR1 : Hid (row vi w1 (some a) l) := hr1
  clear hr1
  go_wp2_with fail
  refine (HWF.out w1 HR1.out).2.mono ?_
  rintro e w2 ⟨rfl, hb2⟩
  have HB2 : Hid (Below w0.heap.size w0 w2) := HB1.out.trans (hb2.mono HB1.out.size)
  clear hb2 x0 x1 x2 x3 x4 x5 x6
  go_wp2_with fail
  refine (Read_f HRD.out w2).mono ?_
  rintro e w3 ⟨px, cx, rfl, hrx, hb3⟩
  have HRX : Hid (row vi w3 px L1) := hrx
  have HB3 : Hid (Below w0.heap.size w0 w3) := HB2.out.trans (hb3.mono HB2.out.size)
  clear hrx hb3
  rw [show L1.length = n1 from HN1.out]
  go_wp2_with fail
  obtain ⟨wx, hwx⟩ : ∃ wx, w3.alloc (.cells #[.int .i64 A1, .int .i64 C1, .slice px n1 cx] 24) = wx := ⟨_, rfl⟩
  obtain ⟨Fx, hFx⟩ : ∃ Fx, w3.heap.size = Fx := ⟨_, rfl⟩
  have HWX : Hid (w3.alloc (.cells #[.int .i64 A1, .int .i64 C1, .slice px n1 cx] 24) = wx) := hwx
  have hb3x : Below w3.heap.size w3 wx := by rw [← hwx]; exact alloc_below _ _
  have HB3x : Hid (Below w3.heap.size w3 wx) := hb3x
  rw [hwx]
  clear hwx hb3x
  refine (TextField_f hs1 HRD.out wx).mono ?_
  rintro e w4 ⟨py, cy, rfl, hry, hb4⟩
  have HRY : Hid (row vi w4 py L1) := hry
  have HBx4 : Hid (Below wx.heap.size wx w4) := hb4
  have HB34 : Hid (Below w3.heap.size w3 w4) := HB3x.out.trans (hb4.mono HB3x.out.size)
  have HB4 : Hid (Below w0.heap.size w0 w4) := HB3.out.trans (HB34.out.mono HB3.out.size)
  clear hry hb4
  rw [show L1.length = n1 from HN1.out]
  obtain ⟨x0, x1, x2, x3, x4, x5, x6, _, _⟩ := HBF.out w4 HB4.out
  obtain ⟨Fy, hFy⟩ : ∃ Fy, w4.heap.size = Fy := ⟨_, rfl⟩
  have y5 : F0 + 1 < Fy := by omega
  have y6 : F0 < Fy := by omega
  go_wp2_with fail
  obtain ⟨wy, hwy⟩ : ∃ wy, w4.alloc (.cells #[.int .i64 A1, .int .i64 C1, .slice py n1 cy] 24) = wy := ⟨_, rfl⟩
  have HWY : Hid (w4.alloc (.cells #[.int .i64 A1, .int .i64 C1, .slice py n1 cy] 24) = wy) := hwy
  have hb4y : Below w4.heap.size w4 wy := by rw [← hwy]; exact alloc_below _ _
  have HB4y : Hid (Below w4.heap.size w4 wy) := hb4y
  have HBy : Hid (Below w0.heap.size w0 wy) := HB4.out.trans (hb4y.mono HB4.out.size)
  rw [hwy]
  clear hwy hb4y x0 x1 x2 x3 x4 x5 x6
  have hry := (HBF.out wy HBy.out).2.2.2.2.2.2.2.1
  refine (At_out (W : Int) (H : Int) (some a) (W * H) c l X Y wy hry HN.out hmax HE HOUT.out).mono ?_
  rintro e w5 ⟨rfl, hb5⟩
  have HBy5 : Hid (Below wy.heap.size wy w5) := hb5
  have HB5 : Hid (Below w0.heap.size w0 w5) := HBy.out.trans (hb5.mono HBy.out.size)
  clear hry hb5
  obtain ⟨x0, x1, x2, x3, x4, x5, x6, hr5, _⟩ := HBF.out w5 HB5.out
  have HR5 : Hid (row vi w5 (some a) l) := hr5
  clear hr5
  go_wp2_with fail
  refine (Turn_ok W H a c l w5 HR5.out HX.out.1 HX.out.2.1 HX.out.2.2.1 HX.out.2.2.2 hc).mono ?_
  rintro e w6 ⟨P, rfl, hm6, hb6⟩
  have HM6 : Hid (row vi w6 (some ⟨P, 0, none⟩) (tn W H l)) := row_own hm6
  clear hm6
  have HB56 : Hid (Below w5.heap.size w5 w6) := hb6
  have HB6 : Hid (Below w0.heap.size w0 w6) := HB5.out.trans (hb6.mono HB5.out.size)
  clear hb6 x0 x1 x2 x3 x4 x5 x6
  obtain ⟨x0, x1, x2, x3, x4, x5, x6, _, _⟩ := HBF.out w6 HB6.out
  obtain ⟨Ft, hFt⟩ : ∃ Ft, w6.heap.size = Ft := ⟨_, rfl⟩
  have z5 : F0 + 1 < Ft := by omega
  have z6 : F0 < Ft := by omega
  go_wp2_with fail
  obtain ⟨wt, hwt⟩ : ∃ wt, w6.alloc (.cells #[.int .i64 (H : Int), .int .i64 (W : Int), .slice (some ⟨P, 0, none⟩) (W * H) (W * H)] 24) = wt := ⟨_, rfl⟩
  have HWT : Hid (w6.alloc (.cells #[.int .i64 (H : Int), .int .i64 (W : Int), .slice (some ⟨P, 0, none⟩) (W * H) (W * H)] 24) = wt) := hwt
  have hb6t : Below w6.heap.size w6 wt := by rw [← hwt]; exact alloc_below _ _
  have HB6t : Hid (Below w6.heap.size w6 wt) := hb6t
  have HBt : Hid (Below w0.heap.size w0 wt) := HB6.out.trans (hb6t.mono HB6.out.size)
  rw [hwt]
  clear hwt hb6t x0 x1 x2 x3 x4 x5 x6
  have hrt := (HBF.out wt HBt.out).2.2.2.2.2.2.2.1
  refine (Right_any ((W : Int)) ((H : Int)) (some a) (W * H) c l 0 wt hrt HN.out hmax HE).mono ?_
  rintro e w7 ⟨rfl, hb7⟩
  have HBt7 : Hid (Below wt.heap.size wt w7) := hb7
  have c67 : Below w6.heap.size w6 w7 := HB6t.out.trans (hb7.mono HB6t.out.size)
  have c57 : Below w5.heap.size w5 w7 := HB56.out.trans (c67.mono HB56.out.size)
  have cy7 : Below wy.heap.size wy w7 := HBy5.out.trans (c57.mono HBy5.out.size)
  have c47 : Below w4.heap.size w4 w7 := HB4y.out.trans (cy7.mono HB4y.out.size)
  have cx7 : Below wx.heap.size wx w7 := HBx4.out.trans (c47.mono HBx4.out.size)
  have c37 : Below w3.heap.size w3 w7 := HB3x.out.trans (cx7.mono HB3x.out.size)
  have c07 : Below w0.heap.size w0 w7 := HB3.out.trans (c37.mono HB3.out.size)
  have HBX : Hid (∀ V, Below w7.heap.size w7 V → V.cell? ⟨F0, 0, none⟩ = some (.int .i64 (W : Int)) ∧ V.cell? ⟨F0, 1, none⟩ = some (.int .i64 (H : Int)) ∧ V.cell? ⟨F0, 2, none⟩ = some (.slice (some a) (W * H) c) ∧ V.cell? ⟨F0 + 1, 0, none⟩ = some (.int .i64 X) ∧ V.cell? ⟨F0 + 1, 1, none⟩ = some (.int .i64 Y) ∧ F0 + 1 < V.heap.size ∧ F0 < V.heap.size ∧
      (V.cell? ⟨Fx, 0, none⟩ = some (.int .i64 A1) ∧ V.cell? ⟨Fx, 1, none⟩ = some (.int .i64 C1) ∧ V.cell? ⟨Fx, 2, none⟩ = some (.slice px n1 cx) ∧ Fx < V.heap.size) ∧
      (V.cell? ⟨Fy, 0, none⟩ = some (.int .i64 A1) ∧ V.cell? ⟨Fy, 1, none⟩ = some (.int .i64 C1) ∧ V.cell? ⟨Fy, 2, none⟩ = some (.slice py n1 cy) ∧ Fy < V.heap.size) ∧
      (V.cell? ⟨Ft, 0, none⟩ = some (.int .i64 (H : Int)) ∧ V.cell? ⟨Ft, 1, none⟩ = some (.int .i64 (W : Int)) ∧ V.cell? ⟨Ft, 2, none⟩ = some (.slice (some ⟨P, 0, none⟩) (W * H) (W * H)) ∧ Ft < V.heap.size)) := fun V hV => by
    obtain ⟨q0, q1, q2, q3, q4, q5, q6, _, _⟩ := HBF.out V (c07.trans (hV.mono c07.size))
    exact ⟨q0, q1, q2, q3, q4, q5, q6, box_at hFx (by rw [HWX.out]; exact cx7.trans (hV.mono cx7.size)), box_at hFy (by rw [HWY.out]; exact cy7.trans (hV.mono cy7.size)), box_at hFt (by rw [HWT.out]; exact hb7.trans (hV.mono hb7.size))⟩
  have HRR : Hid (∀ V, Below w7.heap.size w7 V → row vi V (some a) l ∧ row vi V px L1 ∧ row vi V py L1 ∧ Below w.heap.size w V ∧ Below w6.heap.size w6 V) := fun V hV =>
    ⟨(HBF.out V (c07.trans (hV.mono c07.size))).2.2.2.2.2.2.2.1, row_below HRX.out (c37.trans (hV.mono c37.size)), row_below HRY.out (c47.trans (hV.mono c47.size)), (HBF.out V (c07.trans (hV.mono c07.size))).2.2.2.2.2.2.2.2, c67.trans (hV.mono c67.size)⟩
  clear hb7 hrt c67 c57 cy7 c47 cx7 c37 c07
  obtain ⟨x0, x1, x2, x3, x4, x5, x6, _, _, _⟩ := HBX.out w7 (Below.refl _ _)
  go_wp2_with fail
  refine (Check_at ((W : Int)) ((H : Int)) (some a) (W * H) c l 0 w7 (HRR.out w7 (Below.refl _ _)).1 HN.out hmax HE).mono ?_
  rintro e w8 ⟨rfl, hb8⟩
  have HB8 : Hid (Below w7.heap.size w7 w8) := hb8
  clear hb8 x0 x1 x2 x3 x4 x5 x6
  obtain ⟨_, _, _, _, _, _, _, ⟨a0, a1, a2, a3⟩, ⟨b0, b1, b2, b3⟩, _⟩ := HBX.out w8 HB8.out
  go_wp2_with fail
  refine (Same_yes A1 C1 px py n1 cx cy L1 w8 HN1.out (by omega) (HRR.out w8 HB8.out).2.1 (HRR.out w8 HB8.out).2.2.1).mono ?_
  rintro e w9 ⟨rfl, hb9⟩
  have HB9 : Hid (Below w7.heap.size w7 w9) := HB8.out.trans (hb9.mono HB8.out.size)
  clear hb9 a0 a1 a2 a3 b0 b1 b2 b3
  obtain ⟨x0, x1, x2, x3, x4, x5, x6, _, _, ⟨t0, t1, t2, t3⟩⟩ := HBX.out w9 HB9.out
  go_wp2_with fail
  refine (In_b W H (some a) (W * H) c X Y false w9 HX.out.1 HX.out.2.1 HIN).mono ?_
  rintro e w10 ⟨rfl, hb10⟩
  have HB10 : Hid (Below w7.heap.size w7 w10) := HB9.out.trans (hb10.mono HB9.out.size)
  clear hb10 x0 x1 x2 x3 x4 x5 x6 t0 t1 t2 t3
  obtain ⟨x0, x1, x2, x3, x4, x5, x6, _, _, ⟨t0, t1, t2, t3⟩⟩ := HBX.out w10 HB10.out
  go_wp2_with fail
  have hH40 : H ≤ 40 := HX.out.2.1.2
  have hH1 : 1 ≤ H := HX.out.2.1.1
  clear x0 x1 x2 x3 x4 x5 x6 t0 t1 t2 t3
  go_loopw [142] (fun i wr => ∃ k : Nat, i = .int .i64 (k : Int) ∧ k ≤ W * H ∧ Hid (Below w7.heap.size w7 wr)) (fun i _ => W * H - (intOf i).toNat)
  case atStart => exact ⟨0, rfl, by omega, HB10.out⟩
  case round =>
    obtain ⟨k, rfl, hk, HI⟩ := hrel
    obtain ⟨x0, x1, x2, x3, x4, x5, x6, _, _, ⟨t0, t1, t2, t3⟩⟩ := HBX.out wr HI.out
    by_cases hlt : k < W * H
    · have hkl : k < (tn W H l).length := by rw [tn_len]; exact hlt
      obtain ⟨ad, had, hcl⟩ := row_at (row_below HM6.out (HRR.out wr HI.out).2.2.2.2) hkl
      cases had
      rw [add_zero_at, tn_get hlt] at hcl
      obtain ⟨q, hq⟩ : ∃ q, k / H = q := ⟨_, rfl⟩
      obtain ⟨r, hr⟩ : ∃ r, k % H = r := ⟨_, rfl⟩
      have hqW : q < W := by rw [← hq, Nat.div_lt_iff_lt_mul (by omega)]; exact hlt
      have hrH : r < H := by rw [← hr]; exact Nat.mod_lt _ (by omega)
      obtain ⟨y, hy⟩ : ∃ y, H - 1 - r = y := ⟨_, rfl⟩
      have hyH : y < H := by omega
      rw [hq, hr, hy] at hcl
      obtain ⟨Q, hQ⟩ : ∃ Q, l.getD (y * W + q) 0 = Q := ⟨_, rfl⟩
      rw [hQ] at hcl
      have HQ : Hid (l.getD (y * W + q) 0 = Q) := hQ
      have ck : wr.cell? ⟨P, k, none⟩ = some (.int .i64 Q) := hcl
      have l1 : (k : Int) < (W : Int) * (H : Int) := by exact_mod_cast hlt
      have d1 : Int.tdiv (k : Int) (H : Int) = (q : Int) := by rw [← hq]; rfl
      have d2 : Int.tmod (k : Int) (H : Int) = (r : Int) := by rw [← hr]; rfl
      have d3 : (H : Int) - 1 - (r : Int) = (y : Int) := by omega
      have d4 : ((H : Int) == 0) = false := by simp; omega
      have d5 : ¬ ((H : Int) = 0) := by omega
      have d6 : ¬ (H = 0) := by omega
      have hW40 := HX.out.1.2
      have d7 : IntKind.i64.wrap (q : Int) = (q : Int) := wrp (by omega) (by omega)
      have d8 : IntKind.i64.wrap ((H : Int) - 1) = (H : Int) - 1 := wrp (by omega) (by omega)
      have d9 : IntKind.i64.wrap (y : Int) = (y : Int) := wrp (by omega) (by omega)
      have hk63 : k ≤ 1600 := by omega
      clear hcl hQ hq hr hy hkl
      have HPL : Hid (∀ V, Below wr.heap.size wr V → Calls Tryd.prog 14 #[.agg #[.int .i64 (W : Int), .int .i64 (H : Int), .slice (some a) (W * H) c], .agg #[.int .i64 (q : Int), .int .i64 (y : Int)]] V fun e w' => e = .returned (.int .i64 Q) ∧ Below V.heap.size V w') :=
        fun V hV => PlaceOf_in W H a c l q y Q V (HRR.out V (HI.out.trans (hV.mono HI.out.size))).1 HX.out.1 HX.out.2.1 HX.out.2.2.1 hqW hyH HQ
      go_wp2_with fail
      go_region_held3 (fun V => Below wr.heap.size wr V ∧ V.cell? ⟨F0, 0, none⟩ = some (.int .i64 (W : Int)) ∧ V.cell? ⟨F0, 1, none⟩ = some (.int .i64 (H : Int)) ∧ V.cell? ⟨F0, 2, none⟩ = some (.slice (some a) (W * H) c) ∧ V.cell? ⟨Ft, 0, none⟩ = some (.int .i64 (H : Int))) (first | exact kf_drew (by assumption) | exact kf_drewN (by assumption) _ | exact kf_call (by assumption) (by assumption) | exact ⟨Below.drew (Below.refl _ _), x0, x1, x2, t0⟩ | exact ⟨Below.refl _ _, x0, x1, x2, t0⟩) (first
        | (go_at_call 14; refine (HPL.out _ (And.left (by assumption))).mono ?_; rintro e wq ⟨rfl, hbq⟩))
      have HBq : Hid (Below w7.heap.size w7 wq) := by
        have h1 : Below wr.heap.size wr wq := (Below.refl _ _).drew.trans hbq
        exact HI.out.trans (h1.mono HI.out.size)
      clear hbq
      go_wp2_with fail
      go_roundw
      case rel => exact ⟨k + 1, by go_num, by omega, HBq.out⟩
      case measure => simp [intOf]; omega
    · have HE2 : Hid (Below w.heap.size w wr) := (HRR.out wr HI.out).2.2.2.1
      go_wp2_with fail
      go_ret
      exact ⟨rfl, HE2.out⟩
end Go.Proofs.YtccapbojhgemmaaDoor
