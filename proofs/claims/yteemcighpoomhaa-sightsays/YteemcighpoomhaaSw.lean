/- The document's own answer: all cells that are seen. -/
import Derived.Test.YteemcighpoomhaaSd
import Derived.Test.YteemcighpoomhaaSx
namespace Go.Proofs.Yteemcighpoomhaa
open Go.RowKit
set_option linter.unusedVariables false

theorem ds_comm (a b : Int) : ds a b = ds b a := by unfold ds; omega
theorem Far_at (a b D : Int) (w : World) (h0 : -4000000000 ≤ a) (h1 : a ≤ 4000000000) (h2 : -4000000000 ≤ b) (h3 : b ≤ 4000000000) (hD : Hid (ds a b = D)) :
    Calls Try.prog 22 #[.int .i64 a, .int .i64 b] w fun e w' => e = .returned (.int .i64 D) ∧ w' = w := by rw [← hD.out]; exact Far_any a b w h0 h1 h2 h3
set_option maxRecDepth 20000 in
set_option maxHeartbeats 2000000 in
theorem LookedAt_no (A B : Int) (p : Option Addr) (n c : Nat) (l : List Int) (X Y r E : Int) (w : World) (hr : row vi w p l) (hn : l.length = n) (hm : n ≤ 9223372036854775807) (hE : Hid (ck A B l = E)) (h0 : E ≠ 0) :
    Calls Try.prog 8 #[.agg #[.int .i64 A, .int .i64 B, .slice p n c], .agg #[.int .i64 X, .int .i64 Y], .int .i64 r] w fun e w' => e = .returned (.tuple #[.slice none 0 0, .int .i64 E]) ∧ Below w.heap.size w w' := by
  have HR : Hid (row vi w p l) := hr
  have HN : Hid (l.length = n) := hn
  have e0 : (E == 0) = false := by simp [h0]
  have e1 : (E != 0) = true := by simp [h0]
  clear hr hn
  obtain ⟨w0, hw0⟩ : ∃ w0, (w.alloc (.cells #[.int .i64 A, .int .i64 B, .slice p n c] 24)).alloc (.cells #[.int .i64 X, .int .i64 Y] 26) = w0 := ⟨_, rfl⟩
  have HW0 : Hid (_ = w0) := hw0
  clear hw0
  obtain ⟨_, _, _, _, _, hb0⟩ := boxes HW0.out (Below.refl _ _)
  have HR0 : Hid (row vi w0 p l) := row_below HR.out hb0
  clear hb0
  go_enter Try.func8, Try.ntmps8
  go_wp2_with fail
  rw [HW0.out]
  refine (Right_any A B p n c l E w0 HR0.out HN.out hm hE).mono ?_
  rintro e w1 ⟨rfl, hb1⟩
  obtain ⟨b0, b1, b2, b3, b4, hB⟩ := boxes HW0.out hb1
  have HB1 : Hid (Below w.heap.size w w1) := hB
  have HR1 : Hid (row vi w1 p l) := row_below HR.out hB
  clear hb1 hB
  go_wp2_with fail
  refine (Right_any A B p n c l E w1 HR1.out HN.out hm hE).mono ?_
  rintro e w2 ⟨rfl, hb2⟩
  have HB2 : Hid (Below w.heap.size w w2) := HB1.out.trans (hb2.mono HB1.out.size)
  clear hb2
  go_wp2_with fail
  go_ret2
  exact ⟨rfl, HB2.out⟩
set_option maxRecDepth 20000 in
set_option maxHeartbeats 2000000 in
theorem LookedAt_out (W H : Nat) (p : Option Addr) (n c : Nat) (l : List Int) (X Y r : Int) (w : World) (hr : row vi w p l) (hn : l.length = n) (hm : n ≤ 9223372036854775807) (hf : okf W H l) (hi : Hid (inb W H X Y = false)) :
    Calls Try.prog 8 #[.agg #[.int .i64 (W : Int), .int .i64 (H : Int), .slice p n c], .agg #[.int .i64 X, .int .i64 Y], .int .i64 r] w fun e w' => e = .returned (.tuple #[.slice none 0 0, .int .i64 7]) ∧ Below w.heap.size w w' := by
  have HR : Hid (row vi w p l) := hr
  have HN : Hid (l.length = n) := hn
  have HF : Hid (okf W H l) := hf
  have HE : Hid (ck W H l = 0) := okf_ck hf
  clear hr hn hf
  obtain ⟨w0, hw0⟩ : ∃ w0, (w.alloc (.cells #[.int .i64 (W : Int), .int .i64 (H : Int), .slice p n c] 24)).alloc (.cells #[.int .i64 X, .int .i64 Y] 26) = w0 := ⟨_, rfl⟩
  have HW0 : Hid (_ = w0) := hw0
  clear hw0
  obtain ⟨_, _, _, _, _, hb0⟩ := boxes HW0.out (Below.refl _ _)
  have HR0 : Hid (row vi w0 p l) := row_below HR.out hb0
  clear hb0
  go_enter Try.func8, Try.ntmps8
  go_wp2_with fail
  rw [HW0.out]
  refine (Right_any W H p n c l 0 w0 HR0.out HN.out hm HE).mono ?_
  rintro e w1 ⟨rfl, hb1⟩
  obtain ⟨b0, b1, b2, b3, b4, hB⟩ := boxes HW0.out hb1
  have HB1 : Hid (Below w.heap.size w w1) := hB
  clear hb1 hB
  go_wp2_with fail
  refine (In_in W H p n c X Y false w1 HF.out.1 HF.out.2.1 hi).mono ?_
  rintro e w2 ⟨rfl, hb2⟩
  have HB2 : Hid (Below w.heap.size w w2) := HB1.out.trans (hb2.mono HB1.out.size)
  clear hb2
  go_wp2_with fail
  go_ret2
  exact ⟨rfl, HB2.out⟩
set_option maxRecDepth 20000 in
set_option maxHeartbeats 2000000 in
theorem LookedAt_arg (W H : Nat) (p : Option Addr) (n c : Nat) (l : List Int) (X Y r : Int) (w : World) (hr : row vi w p l) (hn : l.length = n) (hm : n ≤ 9223372036854775807) (hf : okf W H l) (hi : Hid (inb W H X Y = true)) (hk : Hid ((decide (0 ≤ r) && decide (r ≤ 12)) = false)) :
    Calls Try.prog 8 #[.agg #[.int .i64 (W : Int), .int .i64 (H : Int), .slice p n c], .agg #[.int .i64 X, .int .i64 Y], .int .i64 r] w fun e w' => e = .returned (.tuple #[.slice none 0 0, .int .i64 1]) ∧ Below w.heap.size w w' := by
  have HR : Hid (row vi w p l) := hr
  have HN : Hid (l.length = n) := hn
  have HF : Hid (okf W H l) := hf
  have HE : Hid (ck W H l = 0) := okf_ck hf
  clear hr hn hf
  obtain ⟨w0, hw0⟩ : ∃ w0, (w.alloc (.cells #[.int .i64 (W : Int), .int .i64 (H : Int), .slice p n c] 24)).alloc (.cells #[.int .i64 X, .int .i64 Y] 26) = w0 := ⟨_, rfl⟩
  have HW0 : Hid (_ = w0) := hw0
  clear hw0
  obtain ⟨_, _, _, _, _, hb0⟩ := boxes HW0.out (Below.refl _ _)
  have HR0 : Hid (row vi w0 p l) := row_below HR.out hb0
  clear hb0
  go_enter Try.func8, Try.ntmps8
  go_wp2_with fail
  rw [HW0.out]
  refine (Right_any W H p n c l 0 w0 HR0.out HN.out hm HE).mono ?_
  rintro e w1 ⟨rfl, hb1⟩
  obtain ⟨b0, b1, b2, b3, b4, hB⟩ := boxes HW0.out hb1
  have HB1 : Hid (Below w.heap.size w w1) := hB
  clear hb1 hB
  go_wp2_with fail
  refine (In_in W H p n c X Y true w1 HF.out.1 HF.out.2.1 hi).mono ?_
  rintro e w2 ⟨rfl, hb2⟩
  have HB2 : Hid (Below w.heap.size w w2) := HB1.out.trans (hb2.mono HB1.out.size)
  clear hb2
  go_wp2_with fail
  refine (Between_at r 0 12 false w2 hk).mono ?_
  rintro e w3 ⟨rfl, hw3⟩
  subst w3
  go_wp2_with fail
  go_ret2
  exact ⟨rfl, HB2.out⟩
section
variable {w V V' : World} {x0 x1 x2 x3 x4 x5 x6 : Addr} {v0 v1 v2 v3 v4 v5 v6 : Value}
theorem k7_of (h0 : w.cell? x0 = some v0) (h1 : w.cell? x1 = some v1) (h2 : w.cell? x2 = some v2) (h3 : w.cell? x3 = some v3) (h4 : w.cell? x4 = some v4) (h5 : w.cell? x5 = some v5) (h6 : w.cell? x6 = some v6) (hb : Below w.heap.size w V) :
    Below w.heap.size w V ∧ V.cell? x0 = some v0 ∧ V.cell? x1 = some v1 ∧ V.cell? x2 = some v2 ∧ V.cell? x3 = some v3 ∧ V.cell? x4 = some v4 ∧ V.cell? x5 = some v5 ∧ V.cell? x6 = some v6 :=
  ⟨hb, (hb.cell (cell_lt h0)).trans h0, (hb.cell (cell_lt h1)).trans h1, (hb.cell (cell_lt h2)).trans h2, (hb.cell (cell_lt h3)).trans h3, (hb.cell (cell_lt h4)).trans h4, (hb.cell (cell_lt h5)).trans h5, (hb.cell (cell_lt h6)).trans h6⟩
theorem k7_drew (h : Below w.heap.size w V ∧ V.cell? x0 = some v0 ∧ V.cell? x1 = some v1 ∧ V.cell? x2 = some v2 ∧ V.cell? x3 = some v3 ∧ V.cell? x4 = some v4 ∧ V.cell? x5 = some v5 ∧ V.cell? x6 = some v6) :
    Below w.heap.size w V.drew ∧ V.drew.cell? x0 = some v0 ∧ V.drew.cell? x1 = some v1 ∧ V.drew.cell? x2 = some v2 ∧ V.drew.cell? x3 = some v3 ∧ V.drew.cell? x4 = some v4 ∧ V.drew.cell? x5 = some v5 ∧ V.drew.cell? x6 = some v6 := ⟨h.1.drew, h.2⟩
theorem k7_bel (hb : Below V.heap.size V V') (h : Below w.heap.size w V ∧ V.cell? x0 = some v0 ∧ V.cell? x1 = some v1 ∧ V.cell? x2 = some v2 ∧ V.cell? x3 = some v3 ∧ V.cell? x4 = some v4 ∧ V.cell? x5 = some v5 ∧ V.cell? x6 = some v6) : Below w.heap.size w V' := h.1.trans (hb.mono h.1.size)
end
set_option maxRecDepth 20000 in
set_option maxHeartbeats 4000000 in
theorem LookedAt_ok (W H : Nat) (a : Addr) (c : Nat) (l : List Int) (X Y r : Nat) (w : World) (hr : row vi w (some a) l) (hf : okf W H l) (hX : X < W) (hY : Y < H) (h12 : r ≤ 12) :
    Calls Try.prog 8 #[.agg #[.int .i64 (W : Int), .int .i64 (H : Int), .slice (some a) (W * H) c], .agg #[.int .i64 (X : Int), .int .i64 (Y : Int)], .int .i64 (r : Int)] w fun e w' => ∃ v, e = .returned (.tuple #[v, .int .i64 0]) ∧ minec w.heap.size w' v (sn W l X Y r (W * H)) ∧ Below w.heap.size w w' := by
  have HR : Hid (row vi w (some a) l) := hr
  have HF : Hid (okf W H l) := hf
  have HE : Hid (ck W H l = 0) := okf_ck hf
  have HI : Hid (inb W H X Y = true) := inb_mk hX hY
  have HK : Hid ((decide (0 ≤ (r : Int)) && decide ((r : Int) ≤ 12)) = true) := by unfold Hid; simp; omega
  have hm : W * H ≤ 9223372036854775807 := by have := wh_le hf.1 hf.2.1; omega
  have hWH : W * H ≤ 1600 := wh_le hf.1 hf.2.1
  obtain ⟨hW1, hW2⟩ := hf.1
  obtain ⟨hH1, hH2⟩ := hf.2.1
  have m2 := @run_max2 Try.prog
  clear hr hf
  obtain ⟨w0, hw0⟩ : ∃ w0, (w.alloc (.cells #[.int .i64 (W : Int), .int .i64 (H : Int), .slice (some a) (W * H) c] 24)).alloc (.cells #[.int .i64 (X : Int), .int .i64 (Y : Int)] 26) = w0 := ⟨_, rfl⟩
  have HW0 : Hid (_ = w0) := hw0
  clear hw0
  obtain ⟨_, _, _, _, _, hb0⟩ := boxes HW0.out (Below.refl _ _)
  have HR0 : Hid (row vi w0 (some a) l) := row_below HR.out hb0
  clear hb0
  go_enter Try.func8, Try.ntmps8
  go_wp2_with fail
  rw [HW0.out]
  refine (Right_any W H (some a) (W * H) c l 0 w0 HR0.out HF.out.2.2.1 hm HE).mono ?_
  rintro e w1 ⟨rfl, hb1⟩
  obtain ⟨z0, z1, z2, z3, z4, hB⟩ := boxes HW0.out hb1
  have HBX1 : Hid (∀ V, Below w1.heap.size w1 V → V.cell? ⟨w.heap.size, 0, none⟩ = some (.int .i64 (W : Int)) ∧ V.cell? ⟨w.heap.size, 1, none⟩ = some (.int .i64 (H : Int)) ∧ V.cell? ⟨w.heap.size, 2, none⟩ = some (.slice (some a) (W * H) c) ∧ V.cell? ⟨w.heap.size + 1, 0, none⟩ = some (.int .i64 (X : Int)) ∧ V.cell? ⟨w.heap.size + 1, 1, none⟩ = some (.int .i64 (Y : Int))) := fun V hV =>
    ⟨(hV.cell (cell_lt z0)).trans z0, (hV.cell (cell_lt z1)).trans z1, (hV.cell (cell_lt z2)).trans z2, (hV.cell (cell_lt z3)).trans z3, (hV.cell (cell_lt z4)).trans z4⟩
  have HB1 : Hid (Below w.heap.size w w1) := hB
  clear hb1 hB
  go_wp2_with fail
  refine (In_in W H (some a) (W * H) c X Y true w1 HF.out.1 HF.out.2.1 HI).mono ?_
  rintro e w2 ⟨rfl, hb2⟩
  have HBX : Hid (∀ V, Below w2.heap.size w2 V → V.cell? ⟨w.heap.size, 0, none⟩ = some (.int .i64 (W : Int)) ∧ V.cell? ⟨w.heap.size, 1, none⟩ = some (.int .i64 (H : Int)) ∧ V.cell? ⟨w.heap.size, 2, none⟩ = some (.slice (some a) (W * H) c) ∧ V.cell? ⟨w.heap.size + 1, 0, none⟩ = some (.int .i64 (X : Int)) ∧ V.cell? ⟨w.heap.size + 1, 1, none⟩ = some (.int .i64 (Y : Int))) := fun V hV => HBX1.out V (hb2.trans (hV.mono hb2.size))
  have HB2 : Hid (Below w.heap.size w w2) := HB1.out.trans (hb2.mono HB1.out.size)
  have HR2 : Hid (row vi w2 (some a) l) := row_below HR.out HB2.out
  clear hb2 z0 z1 z2 z3 z4 HBX1
  go_wp2_with fail
  refine (Between_at r 0 12 true w2 HK).mono ?_
  rintro e w3 ⟨rfl, hw3⟩
  subst w3
  obtain ⟨z0, z1, z2, z3, z4⟩ := HBX.out w2 (Below.refl _ _)
  have HS0 : Hid (sgd w2.heap.size w2 w2 (.slice none 0 0) (sn W l X Y r 0)) := ⟨minec_nil _ _, Below.refl _ _, Nat.le_refl _⟩
  go_wp2_with fail
  clear z0 z1 z2 z3 z4
  go_loopw [8, 29] (fun s i wr => ∃ k : Nat, i = .int .i64 (k : Int) ∧ k ≤ W * H ∧ Hid (sgd w2.heap.size w2 wr s (sn W l X Y r k))) (fun _ i _ => W * H - (intOf i).toNat)
  case atStart => exact ⟨0, rfl, by omega, HS0⟩
  case round =>
    obtain ⟨i, rfl, hi, HT⟩ := hrel
    clear HS0
    by_cases hil : i < W * H
    · obtain ⟨h1, h2, h3⟩ := ix_form (by omega) hil
      obtain ⟨x, hx⟩ : ∃ x, i % W = x := ⟨_, rfl⟩
      obtain ⟨y, hy⟩ : ∃ y, i / W = y := ⟨_, rfl⟩
      rw [hx] at h1 h3
      rw [hy] at h2 h3
      have hxW : x < W := h1
      have hyH : y < H := h2
      have eX : (i : Int) % (W : Int) = (x : Int) := by rw [← Int.natCast_emod, hx]
      have eY : (i : Int) / (W : Int) = (y : Int) := by rw [← Int.natCast_ediv, hy]
      have eX2 : (i : Int).tmod (W : Int) = (x : Int) := by rw [Int.tmod_eq_emod_of_nonneg (by omega)]; exact eX
      have eY2 : (i : Int).tdiv (W : Int) = (y : Int) := by rw [Int.tdiv_eq_ediv_of_nonneg (by omega)]; exact eY
      have eY3 : IntKind.i64.wrap (y : Int) = (y : Int) := wrp (by omega) (by omega)
      have eX3 : IntKind.i64.wrap (x : Int) = (x : Int) := wrp (by omega) (by omega)
      have hWp : (0 : Int) < W := by omega
      have hWn : (W : Int) ≠ 0 := by omega
      have hWe : ((W : Int) == 0) = false := by simp; omega
      have hWz : ¬ (W = 0) := by omega
      have HSP : Hid (sp W l X Y r i = spc W l X Y r x y) := by unfold Hid sp; rw [hx, hy]
      have HXY : Hid (i % W = x ∧ i / W = y) := ⟨hx, hy⟩
      obtain ⟨D1, hD1⟩ : ∃ D, ds (x : Int) X = D := ⟨_, rfl⟩
      obtain ⟨D2, hD2⟩ : ∃ D, ds (y : Int) Y = D := ⟨_, rfl⟩
      obtain ⟨D, hD⟩ : ∃ D, mx D1 D2 = D := ⟨_, rfl⟩
      have HKG : Hid (kg X Y x y = D) := by unfold Hid kg; rw [ds_comm, hD1, ds_comm (Y : Int), hD2, hD]
      have HD1 : Hid (ds (x : Int) X = D1) := hD1
      have HD2 : Hid (ds (y : Int) Y = D2) := hD2
      have b1 : 0 ≤ D1 ∧ D1 ≤ 100 := by rw [← hD1]; unfold ds; omega
      have b2 : 0 ≤ D2 ∧ D2 ≤ 100 := by rw [← hD2]; unfold ds; omega
      obtain ⟨b10, b11⟩ := b1
      obtain ⟨b20, b21⟩ := b2
      have l1 : (i : Int) < W * H := by omega
      have l2 : (0 : Int) ≤ i := by omega
      obtain ⟨z0, z1, z2, z3, z4⟩ := HBX.out wr HT.out.2.1
      have s0 : w.heap.size < wr.heap.size := cell_lt z0
      have s1 : w.heap.size + 1 < wr.heap.size := cell_lt z3
      clear hx hy h1 h2 h3 hD1 hD2
      go_wp2_with fail
      go_region
      obtain ⟨G, hG⟩ : ∃ G, wr.heap.size = G := ⟨_, rfl⟩
      obtain ⟨w5, hw5⟩ : ∃ w5, (wr.alloc (.cells #[.int .i64 (x : Int), .int .i64 (y : Int)] 26)).drew = w5 := ⟨_, rfl⟩
      have hb5 : Below wr.heap.size wr w5 := by rw [← hw5]; exact below_one _ _
      have HT5 : Hid (sgd w2.heap.size w2 w5 u8 (sn W l X Y r i)) := ⟨minec_below HT.out.1 hb5, HT.out.2.1.trans (hb5.mono HT.out.2.2), Nat.le_trans HT.out.2.2 hb5.size⟩
      have g01 : w5.cell? ⟨G, 0, none⟩ = some (.int .i64 (x : Int)) ∧ w5.cell? ⟨G, 1, none⟩ = some (.int .i64 (y : Int)) := by rw [← hw5, ← hG]; constructor <;> simp [go_sem]
      obtain ⟨g0, g1⟩ := g01
      obtain ⟨q0, q1, q2, q3, q4⟩ := HBX.out w5 HT5.out.2.1
      have HR5 : Hid (row vi w5 (some a) l) := row_below HR2.out HT5.out.2.1
      have HFA1 : Hid (∀ V : World, Calls Try.prog 22 #[.int .i64 (x : Int), .int .i64 (X : Int)] V fun e w' => e = .returned (.int .i64 D1) ∧ w' = V) := fun V => Far_at x X D1 V (by omega) (by omega) (by omega) (by omega) HD1
      have HFA2 : Hid (∀ V : World, Calls Try.prog 22 #[.int .i64 (y : Int), .int .i64 (Y : Int)] V fun e w' => e = .returned (.int .i64 D2) ∧ w' = V) := fun V => Far_at y Y D2 V (by omega) (by omega) (by omega) (by omega) HD2
      rw [hw5, hG]
      clear hb5 z0 z1 z2 z3 z4 hw5 hG s0 s1 eX eY eX2 eY2 eX3 eY3 HT
      by_cases hnr : D ≤ (r : Int)
      · have dd : decide (D ≤ (r : Int)) = true := by simp [hnr]
        cases hse : se W l X Y x y with
        | true =>
          have HSE : Hid (se W l X Y x y = true) := hse
          have HLK : Hid (∀ V, Below w5.heap.size w5 V → Calls Try.prog 12 #[.agg #[.int .i64 (W : Int), .int .i64 (H : Int), .slice (some a) (W * H) c], .agg #[.int .i64 (X : Int), .int .i64 (Y : Int)], .agg #[.int .i64 (x : Int), .int .i64 (y : Int)]] V fun e w' => e = .returned (.bool true) ∧ Below V.heap.size V w') := fun V hV => Looks_any W H a c l X Y x y true V (row_below HR5.out hV) HF.out hX hY hxW hyH HSE
          have HSN : Hid (sn W l X Y r (i + 1) = sn W l X Y r i ++ [⟨(x : Int), (y : Int)⟩]) := by
            unfold Hid
            rw [sn_yes, HXY.out.1, HXY.out.2]
            rw [HSP.out]
            unfold spc
            rw [hse, HKG.out, dd]; rfl
          clear hse
          go_wp2_with fail
          go_region_held3 (fun V => Below w5.heap.size w5 V ∧ V.cell? ⟨w.heap.size, 0, none⟩ = some (.int .i64 (W : Int)) ∧ V.cell? ⟨w.heap.size, 1, none⟩ = some (.int .i64 (H : Int)) ∧ V.cell? ⟨w.heap.size, 2, none⟩ = some (.slice (some a) (W * H) c) ∧ V.cell? ⟨w.heap.size + 1, 0, none⟩ = some (.int .i64 (X : Int)) ∧ V.cell? ⟨w.heap.size + 1, 1, none⟩ = some (.int .i64 (Y : Int)) ∧ V.cell? ⟨G, 0, none⟩ = some (.int .i64 (x : Int)) ∧ V.cell? ⟨G, 1, none⟩ = some (.int .i64 (y : Int))) (first | with_reducible assumption | with_reducible exact k7_drew (by assumption) | with_reducible exact k7_of q0 q1 q2 q3 q4 g0 g1 hB6 | with_reducible exact k7_of q0 q1 q2 q3 q4 g0 g1 (Below.drew (Below.refl _ _)) | with_reducible exact k7_of q0 q1 q2 q3 q4 g0 g1 (Below.refl _ _)) (first
          | (go_at_call 22; with_reducible refine (HFA1.out _).mono ?_; rintro e w' ⟨rfl, rfl⟩)
          | (go_at_call 22; with_reducible refine (HFA2.out _).mono ?_; rintro e w' ⟨rfl, rfl⟩)
          | (go_at_call 12; with_reducible refine (HLK.out _ (And.left (by assumption))).mono ?_; rintro e w6 ⟨rfl, hb6⟩; have hB6 : Below w5.heap.size w5 w6 := k7_bel hb6 (by assumption)))
          have h6 : sgd w2.heap.size w2 w6 u8 (sn W l X Y r i) := ⟨minec_below HT5.out.1 hB6, HT5.out.2.1.trans (hB6.mono HT5.out.2.2), Nat.le_trans HT5.out.2.2 hB6.size⟩
          have p0 : w6.cell? ⟨G, 0, none⟩ = some (.int .i64 (x : Int)) := (hB6.cell (p := ⟨G, 0, none⟩) (cell_lt g0)).trans g0
          have p1 : w6.cell? ⟨G, 1, none⟩ = some (.int .i64 (y : Int)) := (hB6.cell (p := ⟨G, 1, none⟩) (cell_lt g1)).trans g1
          have hb7 := alloc_below w6 (.cells #[.int .i64 (x : Int), .int .i64 (y : Int)] 26)
          obtain ⟨v7, w7, hrun, hm7, hg7⟩ := run_more (d := 1) (m := 1) 27 (minec_below h6.1 hb7) (crow_one w6 x y) rfl (fun h => by cases h) (by have := sn_len W l X Y r i; omega) (by have := h6.2.2; simp; omega)
          have HRun : Hid ((Builtin.append_ #[27, 27] 27 #[u8, .slice (some ⟨w6.heap.size, 0, none⟩) 1 1]).run Try.prog (w6.alloc (.cells #[.int .i64 (x : Int), .int .i64 (y : Int)] 26)) = .ok v7 w7) := hrun
          have HS7 : Hid (sgd w2.heap.size w2 w7 v7 (sn W l X Y r (i + 1))) := by
            refine ⟨?_, ?_, ?_⟩
            · rw [HSN.out]; exact hm7
            · exact (h6.2.1.alloc h6.2.2 _).grown hg7 (by have := h6.2.2; simp; omega) (fun k' hk' => (World.ownsRow.lt h6.1 k' hk').1)
            · have := hg7.size; have := h6.2.2; simp at *; omega
          clear hb6 hB6 h6 hb7 hrun hm7 hg7 g0 g1 q0 q1 q2 q3 q4
          go_wp2_with (at_builtin; refine wpList_append_run rfl _ _ 27 rfl u8 (.slice (some ⟨w6.heap.size, 0, none⟩) 1 1) rfl rfl HRun.out ?_)
          go_wp2_with fail
          go_roundw
          case rel => exact ⟨i + 1, by go_num, by omega, HS7⟩
          case measure => simp [intOf]; omega
        | false =>
          have HSE : Hid (se W l X Y x y = false) := hse
          have HLK : Hid (∀ V, Below w5.heap.size w5 V → Calls Try.prog 12 #[.agg #[.int .i64 (W : Int), .int .i64 (H : Int), .slice (some a) (W * H) c], .agg #[.int .i64 (X : Int), .int .i64 (Y : Int)], .agg #[.int .i64 (x : Int), .int .i64 (y : Int)]] V fun e w' => e = .returned (.bool false) ∧ Below V.heap.size V w') := fun V hV => Looks_any W H a c l X Y x y false V (row_below HR5.out hV) HF.out hX hY hxW hyH HSE
          have HSN : Hid (sn W l X Y r (i + 1) = sn W l X Y r i) := by
            unfold Hid
            rw [sn_no]
            rw [HSP.out]
            unfold spc
            rw [hse, Bool.and_false]
          clear hse
          go_wp2_with fail
          go_region_held3 (fun V => Below w5.heap.size w5 V ∧ V.cell? ⟨w.heap.size, 0, none⟩ = some (.int .i64 (W : Int)) ∧ V.cell? ⟨w.heap.size, 1, none⟩ = some (.int .i64 (H : Int)) ∧ V.cell? ⟨w.heap.size, 2, none⟩ = some (.slice (some a) (W * H) c) ∧ V.cell? ⟨w.heap.size + 1, 0, none⟩ = some (.int .i64 (X : Int)) ∧ V.cell? ⟨w.heap.size + 1, 1, none⟩ = some (.int .i64 (Y : Int)) ∧ V.cell? ⟨G, 0, none⟩ = some (.int .i64 (x : Int)) ∧ V.cell? ⟨G, 1, none⟩ = some (.int .i64 (y : Int))) (first | with_reducible assumption | with_reducible exact k7_drew (by assumption) | with_reducible exact k7_of q0 q1 q2 q3 q4 g0 g1 hB6 | with_reducible exact k7_of q0 q1 q2 q3 q4 g0 g1 (Below.drew (Below.refl _ _)) | with_reducible exact k7_of q0 q1 q2 q3 q4 g0 g1 (Below.refl _ _)) (first
          | (go_at_call 22; with_reducible refine (HFA1.out _).mono ?_; rintro e w' ⟨rfl, rfl⟩)
          | (go_at_call 22; with_reducible refine (HFA2.out _).mono ?_; rintro e w' ⟨rfl, rfl⟩)
          | (go_at_call 12; with_reducible refine (HLK.out _ (And.left (by assumption))).mono ?_; rintro e w6 ⟨rfl, hb6⟩; have hB6 : Below w5.heap.size w5 w6 := k7_bel hb6 (by assumption)))
          have HS7 : Hid (sgd w2.heap.size w2 w6 u8 (sn W l X Y r (i + 1))) := by
            unfold Hid
            rw [HSN.out]
            exact ⟨minec_below HT5.out.1 hB6, HT5.out.2.1.trans (hB6.mono HT5.out.2.2), Nat.le_trans HT5.out.2.2 hB6.size⟩
          clear hb6 hB6 g0 g1 q0 q1 q2 q3 q4
          go_wp2_with fail
          go_roundw
          case rel => exact ⟨i + 1, by go_num, by omega, HS7⟩
          case measure => simp [intOf]; omega
      · have dd : decide (D ≤ (r : Int)) = false := by simp; omega
        have HS7 : Hid (∀ m : Nat, sgd w2.heap.size w2 (w5.drewN m) u8 (sn W l X Y r (i + 1))) := by
          intro m
          rw [sn_no]
          · exact ⟨minec_below HT5.out.1 (below_drewN (Below.refl _ _) m), below_drewN HT5.out.2.1 m, HT5.out.2.2⟩
          · rw [HSP.out]
            unfold spc
            rw [HKG.out, dd]; rfl
        go_wp2_with fail
        go_quiet ((first | (go_at_call 22; with_reducible exact Calls.quiet_of_same (HFA1.out _)) | (go_at_call 22; with_reducible exact Calls.quiet_of_same (HFA2.out _))))
        go_wp2_with fail
        go_roundw
        case rel => exact ⟨i + 1, by go_num, by omega, HS7.out _⟩
        case measure => simp [intOf]; omega
    · obtain rfl : i = W * H := by omega
      have HT2 : Hid (minec w.heap.size wr u8 (sn W l X Y r (W * H)) ∧ Below w.heap.size w wr) := ⟨minec_mono HT.out.1 HB2.out.size, HB2.out.trans (HT.out.2.1.mono HB2.out.size)⟩
      go_wp2_with fail
      go_ret2
      exact ⟨_, rfl, HT2.out.1, HT2.out.2⟩
end Go.Proofs.Yteemcighpoomhaa
