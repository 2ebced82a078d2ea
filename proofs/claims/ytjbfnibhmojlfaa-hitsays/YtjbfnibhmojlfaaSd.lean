/- The document's own answer: whether anything stands on a line, and what is seen. -/
import Derived.Test.YtjbfnibhmojlfaaRef
import Derived.Test.YtjbfnibhmojlfaaLo
import Derived.Test.YtjbfnibhmojlfaaSe
namespace Go.Proofs.Ytjbfnibhmojlfaa
open Go.RowKit
set_option linter.unusedVariables false

/-- A cell of the line is neither end, but the first and the last. -/
theorem line_mid {x y u v K k : Nat} (hK : kg x y u v = K) (h0 : 0 < k) (h1 : k < K) {X Y : Nat} (eX : bt x u k K = X) (eY : bt y v k K = Y) : ¬ (X = x ∧ Y = y) ∧ ¬ (X = u ∧ Y = v) := by
  have hw := way_left (k := k) hK (by omega) (by omega) (by omega)
  rw [eX, eY] at hw
  refine ⟨fun ⟨e1, e2⟩ => ?_, fun ⟨e1, e2⟩ => ?_⟩
  · rw [e1, e2, hK] at hw; omega
  · rw [e1, e2] at hw
    have h2 := kg_cases (u : Int) v u v
    have h3 : ds (u : Int) u = 0 := by unfold ds; omega
    have h4 : ds (v : Int) v = 0 := by unfold ds; omega
    omega
theorem line_at {W H : Nat} {l : List Int} {x y u v K k : Nat} (hx : x < W) (hy : y < H) (hu : u < W) (hv : v < H) (hK : kg x y u v = K) (h1 : k ≤ K) :
    ∃ X Y : Nat, bt x u k K = X ∧ bt y v k K = Y ∧ X < W ∧ Y < H ∧ stp W l x y u v k = hds (l.getD (Y * W + X) 0) ∧ (0 < k → k < K → ¬ (X = x ∧ Y = y) ∧ ¬ (X = u ∧ Y = v)) ∧ (¬ (X = x ∧ Y = y) → ¬ (X = u ∧ Y = v) → 0 < k ∧ k < K) := by
  by_cases h2 : k < K
  · obtain ⟨X, Y, eX, eY, lX, lY, est⟩ := stp_at (l := l) hx hy hu hv hK h2
    refine ⟨X, Y, eX, eY, lX, lY, est, fun h0 h1 => line_mid hK h0 h1 eX eY, fun g1 _ => ⟨?_, h2⟩⟩
    rcases Nat.eq_zero_or_pos k with h | h
    · exfalso
      subst h
      have e1 := bt_zero (x : Int) u K (by omega)
      have e2 := bt_zero (y : Int) v K (by omega)
      exact g1 ⟨by have := eX; simp only [Int.natCast_zero] at this; omega, by have := eY; simp only [Int.natCast_zero] at this; omega⟩
    · exact h
  · obtain rfl : k = K := by omega
    obtain ⟨e1, e2⟩ := bt_last hK
    refine ⟨u, v, e1, e2, hu, hv, ?_, fun _ h => absurd h (by omega), fun _ g => absurd ⟨rfl, rfl⟩ g⟩
    unfold stp pl
    rw [hK, e1, e2]
    simp
theorem rem_hds {Z : Int} (h0 : 0 ≤ Z) (h3 : Z ≤ 3) : ∃ R : Int, Z % 3 = R ∧ Z.tmod 3 = R ∧ 0 ≤ R ∧ R ≤ 2 ∧ (hds Z = true → R ≠ 0) ∧ (hds Z = false → R = 0) := by
  have : Z = 0 ∨ Z = 1 ∨ Z = 2 ∨ Z = 3 := by omega
  rcases this with rfl | rfl | rfl | rfl
  · exact ⟨0, rfl, rfl, by omega, by omega, fun h => (by cases h), fun _ => rfl⟩
  · exact ⟨1, rfl, rfl, by omega, by omega, fun h => (by omega), fun h => (by cases h)⟩
  · exact ⟨2, rfl, rfl, by omega, by omega, fun h => (by omega), fun h => (by cases h)⟩
  · exact ⟨0, rfl, rfl, by omega, by omega, fun h => (by cases h), fun _ => rfl⟩
theorem sort_bd {l : List Int} (hg : l.any bad = false) {j : Nat} (hj : j < l.length) : 0 ≤ l[j] ∧ l[j] ≤ 3 := by
  have b := List.any_eq_false.1 hg l[j] (List.getElem_mem hj)
  unfold bad at b
  simp at b
  omega

set_option maxRecDepth 20000 in
set_option maxHeartbeats 4000000 in
theorem openLine_any (W H : Nat) (a : Addr) (c : Nat) (l : List Int) (x y u v : Nat) (b : Bool) (w : World) (hr : row vi w (some a) l) (hf : okf W H l) (hx : x < W) (hy : y < H) (hu : u < W) (hv : v < H) (hb : Hid (clr W l x y u v = b)) :
    Calls Try.prog 75 #[.agg #[.int .i64 (W : Int), .int .i64 (H : Int), .slice (some a) (W * H) c], .agg #[.int .i64 (x : Int), .int .i64 (y : Int)], .agg #[.int .i64 (u : Int), .int .i64 (v : Int)]] w fun e w' => e = .returned (.bool b) ∧ Below w.heap.size w w' := by
  obtain ⟨K, hK⟩ := kg_nat x y u v
  have hW := hf.1
  have hH := hf.2.1
  have hK39 : K ≤ 39 := kg_less (by omega) (by omega) (by omega) (by omega) hK
  have HR : Hid (row vi w (some a) l) := hr
  have HF : Hid (okf W H l) := hf
  have HN1 : Hid (near x y = true) := near_in (by omega) (by omega)
  have HN2 : Hid (near u v = true) := near_in (by omega) (by omega)
  have HK : Hid (kg x y u v = K) := hK
  have HX : Hid (x < W ∧ y < H ∧ u < W ∧ v < H) := ⟨hx, hy, hu, hv⟩
  have hWH : W * H ≤ 1600 := wh_le hW hH
  clear hr hf hK hx hy hu hv hW hH
  obtain ⟨w0, hw0⟩ : ∃ w0, ((w.alloc (.cells #[.int .i64 (W : Int), .int .i64 (H : Int), .slice (some a) (W * H) c] 24)).alloc (.cells #[.int .i64 (x : Int), .int .i64 (y : Int)] 40)).alloc (.cells #[.int .i64 (u : Int), .int .i64 (v : Int)] 40) = w0 := ⟨_, rfl⟩
  have HW0 : Hid (_ = w0) := hw0
  clear hw0
  go_enter Try.func75, Try.ntmps75
  go_wp2_with fail
  rw [HW0.out]
  refine (LineOf_any x y u v K w0 HN1 HN2 HK (by omega)).mono ?_
  rintro e w1 ⟨g, cp, rfl, hb1, hg, hli⟩
  obtain ⟨_, _, _, _, _, _, _, hB⟩ := boxes3 HW0.out hb1
  have HBX : Hid (∀ V, Below w1.heap.size w1 V → _) := fun V hV => boxes3 HW0.out (hb1.trans (hV.mono hb1.size))
  have HR1 : Hid (row vi w1 (some a) l) := row_below HR.out hB
  have HLI : Hid (lies w1 g (K + 1) (fun k => bt x u k K) (fun k => bt y v k K)) := hli
  obtain ⟨N, hN⟩ : ∃ N, K + 1 = N := ⟨_, rfl⟩
  have HN : Hid (K + 1 = N) := hN
  have hN40 : N ≤ 40 := by omega
  rw [hN]
  clear hb1 hg hli hB HR HW0 hN
  go_wp2_with fail
  go_loopw [14] (fun i wr => ∃ k : Nat, i = .int .i64 (k : Int) ∧ k ≤ N ∧ Hid (Below w1.heap.size w1 wr) ∧ Hid (∀ j : Nat, 0 < j → j < k → j < K → stp W l x y u v j = false)) (fun i _ => N - (intOf i).toNat)
  case atStart => exact ⟨0, rfl, by omega, Below.refl _ _, fun j h1 h2 => by omega⟩
  case round =>
    obtain ⟨k, rfl, hkN, HS, HJ⟩ := hrel
    by_cases hlt : k < N
    · have hkK : k ≤ K := by have := HN.out; omega
      obtain ⟨X, Y, eX, eY, lX, lY, est, hmid, hout⟩ := line_at (l := l) HX.out.1 HX.out.2.1 HX.out.2.2.1 HX.out.2.2.2 HK.out hkK
      obtain ⟨q0, q1⟩ := (lies_later HLI.out HS.out).2 k (by omega)
      simp only [eX, eY] at q0 q1
      have hJl : Y * W + X < l.length := by rw [HF.out.2.2.1]; exact ix_lt lX lY
      obtain ⟨Z, hZ⟩ : ∃ Z, l.getD (Y * W + X) 0 = Z := ⟨_, rfl⟩
      have hbd : 0 ≤ Z ∧ Z ≤ 3 := by
        have := sort_bd HF.out.2.2.2 hJl
        rw [List.getD_eq_getElem?_getD, List.getElem?_eq_getElem hJl] at hZ
        have e : l[Y * W + X] = Z := hZ
        rwa [e] at this
      rw [hZ] at est
      obtain ⟨R, eR1, eR2, hR0, hR2, hRt, hRf⟩ := rem_hds hbd.1 hbd.2
      obtain ⟨hZ0, hZ3⟩ := hbd
      have HZ : Hid (l.getD (Y * W + X) 0 = Z) := hZ
      have l1 : (k : Int) < (N : Int) := by omega
      have l2 : (0 : Int) ≤ k := by omega
      obtain ⟨G, hG⟩ : ∃ G, wr.heap.size = G := ⟨_, rfl⟩
      obtain ⟨w5, hw5⟩ : ∃ w5, wr.alloc (.cells #[.int .i64 (X : Int), .int .i64 (Y : Int)] 40) = w5 := ⟨_, rfl⟩
      have hb5 : Below wr.heap.size wr w5 := by rw [← hw5]; exact alloc_below _ _
      have HS5 : Hid (Below w1.heap.size w1 w5) := HS.out.trans (hb5.mono HS.out.size)
      obtain ⟨z0, z1, z2, z3, z4, z5, z6, _⟩ := HBX.out w5 HS5.out
      have g01 : w5.cell? ⟨G, 0, none⟩ = some (.int .i64 (X : Int)) ∧ w5.cell? ⟨G, 1, none⟩ = some (.int .i64 (Y : Int)) := by rw [← hw5, ← hG]; constructor <;> simp [go_sem]
      obtain ⟨g0, g1⟩ := g01
      have HNX : Hid ((0 < k → k < K → hds Z = false) → ∀ j : Nat, 0 < j → j < k + 1 → j < K → stp W l x y u v j = false) := fun h j h1 h2 h3 => by
        by_cases e : j = k
        · rw [e, est]; exact h (by omega) (by omega)
        · exact HJ.out j h1 (by omega) h3
      have HYES : Hid (hds Z = true → 0 < k → k < K → clr W l x y u v = false) := fun h h1 h2 => clr_no (k := k) h1 (by rw [HK.out]; omega) (by rw [est]; exact h)
      have HMID : Hid (0 < k → k < K → ¬ (X = x ∧ Y = y) ∧ ¬ (X = u ∧ Y = v)) := hmid
      have HOUT : Hid (¬ (X = x ∧ Y = y) → ¬ (X = u ∧ Y = v) → 0 < k ∧ k < K) := hout
      have HXY : Hid (X < W ∧ Y < H) := ⟨lX, lY⟩
      have HRR : Hid ((hds Z = true → R ≠ 0) ∧ (hds Z = false → R = 0)) := ⟨hRt, hRf⟩
      clear hb5 eX eY est hmid hout lX lY hZ hJl hRt hRf
      go_wp2_with fail
      refine (PlaceOf_in W H a c l X Y Z w5 (row_below HR1.out HS5.out) HF.out.1 HF.out.2.1 HF.out.2.2.1 HXY.out.1 HXY.out.2 HZ).mono ?_
      rintro e w6 ⟨rfl, hb6⟩
      have HS6 : Hid (Below w1.heap.size w1 w6) := HS5.out.trans (hb6.mono HS5.out.size)
      have p0 : w6.cell? ⟨G, 0, none⟩ = some (.int .i64 (X : Int)) := (hb6.cell (p := ⟨G, 0, none⟩) (cell_lt g0)).trans g0
      have p1 : w6.cell? ⟨G, 1, none⟩ = some (.int .i64 (Y : Int)) := (hb6.cell (p := ⟨G, 1, none⟩) (cell_lt g1)).trans g1
      clear z0 z1 z2 z3 z4 z5 z6 g0 g1 q0 q1 hw5
      obtain ⟨z0, z1, z2, z3, z4, z5, z6, _⟩ := HBX.out w6 HS6.out
      have HB6 : Hid (Below w.heap.size w w6) := by obtain ⟨_, _, _, _, _, _, _, h⟩ := HBX.out w6 HS6.out; exact h
      clear hb6
      by_cases hca : X = x ∧ Y = y
      · have d0 : X = x ∧ Y = y := hca
        clear d0
        have e1a : ((X : Int) == (x : Int)) = true := by simp; omega
        have e1b : (X == x) = true := by simp; omega
        have e1c : decide (X = x) = true := by simp; omega
        have e2a : ((Y : Int) == (y : Int)) = true := by simp; omega
        have e2b : (Y == y) = true := by simp; omega
        have e2c : decide (Y = y) = true := by simp; omega
        have HCA : Hid (X = x ∧ Y = y) := hca
        clear hca
        have HN2 : Hid (∀ j : Nat, 0 < j → j < k + 1 → j < K → stp W l x y u v j = false) := HNX.out (fun h1 h2 => absurd HCA.out (HMID.out h1 h2).1)
        clear eR1 eR2
        go_wp2_with fail
        go_roundw
        case rel => exact ⟨k + 1, by go_num, by omega, HS6, HN2⟩
        case measure => simp [intOf]; omega
      by_cases hcb : X = u ∧ Y = v
      · have HCB : Hid (X = u ∧ Y = v) := hcb
        have e3a : ((X : Int) == (u : Int)) = true := by simp; omega
        have e3b : (X == u) = true := by simp; omega
        have e3c : decide (X = u) = true := by simp; omega
        have e4a : ((Y : Int) == (v : Int)) = true := by simp; omega
        have e4b : (Y == v) = true := by simp; omega
        have e4c : decide (Y = v) = true := by simp; omega
        by_cases h1 : X = x
        · have e1a : ((X : Int) == (x : Int)) = true := by simp; omega
          have e1b : (X == x) = true := by simp; omega
          have e1c : decide (X = x) = true := by simp; omega
          have e2a : ((Y : Int) == (y : Int)) = false := by simp; omega
          have e2b : (Y == y) = false := by simp; omega
          have e2c : decide (Y = y) = false := by simp; omega
          have e2d : ¬ Y = y := by omega
          clear hca hcb h1
          have HN2 : Hid (∀ j : Nat, 0 < j → j < k + 1 → j < K → stp W l x y u v j = false) := HNX.out (fun h1 h2 => absurd HCB.out (HMID.out h1 h2).2)
          clear eR1 eR2
          go_wp2_with fail
          go_roundw
          case rel => exact ⟨k + 1, by go_num, by omega, HS6, HN2⟩
          case measure => simp [intOf]; omega
        · have e1a : ((X : Int) == (x : Int)) = false := by simp; omega
          have e1b : (X == x) = false := by simp; omega
          have e1c : decide (X = x) = false := by simp; omega
          have e1d : ¬ X = x := by omega
          clear hca hcb h1
          have HN2 : Hid (∀ j : Nat, 0 < j → j < k + 1 → j < K → stp W l x y u v j = false) := HNX.out (fun h1 h2 => absurd HCB.out (HMID.out h1 h2).2)
          clear eR1 eR2
          go_wp2_with fail
          go_roundw
          case rel => exact ⟨k + 1, by go_num, by omega, HS6, HN2⟩
          case measure => simp [intOf]; omega
      obtain ⟨hk0, hkK2⟩ := HOUT.out hca hcb
      cases hh : hds Z with
      | true =>
        have hbf : b = false := by rw [← hb.out]; exact HYES.out hh hk0 hkK2
        subst hbf
        have r0 : R ≠ 0 := HRR.out.1 hh
        have r1 : (R == 0) = false := by simp [r0]
        have r2 : (R != 0) = true := by simp [r0]
        clear hh
        by_cases h1 : X = x
        · have e1a : ((X : Int) == (x : Int)) = true := by simp; omega
          have e1b : (X == x) = true := by simp; omega
          have e1c : decide (X = x) = true := by simp; omega
          have e2a : ((Y : Int) == (y : Int)) = false := by simp; omega
          have e2b : (Y == y) = false := by simp; omega
          have e2c : decide (Y = y) = false := by simp; omega
          have e2d : ¬ Y = y := by omega
          by_cases h2 : X = u
          · have e3a : ((X : Int) == (u : Int)) = true := by simp; omega
            have e3b : (X == u) = true := by simp; omega
            have e3c : decide (X = u) = true := by simp; omega
            have e4a : ((Y : Int) == (v : Int)) = false := by simp; omega
            have e4b : (Y == v) = false := by simp; omega
            have e4c : decide (Y = v) = false := by simp; omega
            have e4d : ¬ Y = v := by omega
            clear hca hcb h1 h2
            go_wp2_with fail
            go_ret
            exact ⟨rfl, HB6.out⟩
          · have e3a : ((X : Int) == (u : Int)) = false := by simp; omega
            have e3b : (X == u) = false := by simp; omega
            have e3c : decide (X = u) = false := by simp; omega
            have e3d : ¬ X = u := by omega
            clear hca hcb h1 h2
            go_wp2_with fail
            go_ret
            exact ⟨rfl, HB6.out⟩
        · have e1a : ((X : Int) == (x : Int)) = false := by simp; omega
          have e1b : (X == x) = false := by simp; omega
          have e1c : decide (X = x) = false := by simp; omega
          have e1d : ¬ X = x := by omega
          by_cases h2 : X = u
          · have e3a : ((X : Int) == (u : Int)) = true := by simp; omega
            have e3b : (X == u) = true := by simp; omega
            have e3c : decide (X = u) = true := by simp; omega
            have e4a : ((Y : Int) == (v : Int)) = false := by simp; omega
            have e4b : (Y == v) = false := by simp; omega
            have e4c : decide (Y = v) = false := by simp; omega
            have e4d : ¬ Y = v := by omega
            clear hca hcb h1 h2
            go_wp2_with fail
            go_ret
            exact ⟨rfl, HB6.out⟩
          · have e3a : ((X : Int) == (u : Int)) = false := by simp; omega
            have e3b : (X == u) = false := by simp; omega
            have e3c : decide (X = u) = false := by simp; omega
            have e3d : ¬ X = u := by omega
            clear hca hcb h1 h2
            go_wp2_with fail
            go_ret
            exact ⟨rfl, HB6.out⟩
      | false =>
        have HHH : Hid (hds Z = false) := hh
        obtain rfl : R = 0 := HRR.out.2 hh
        clear hh
        by_cases h1 : X = x
        · have e1a : ((X : Int) == (x : Int)) = true := by simp; omega
          have e1b : (X == x) = true := by simp; omega
          have e1c : decide (X = x) = true := by simp; omega
          have e2a : ((Y : Int) == (y : Int)) = false := by simp; omega
          have e2b : (Y == y) = false := by simp; omega
          have e2c : decide (Y = y) = false := by simp; omega
          have e2d : ¬ Y = y := by omega
          by_cases h2 : X = u
          · have e3a : ((X : Int) == (u : Int)) = true := by simp; omega
            have e3b : (X == u) = true := by simp; omega
            have e3c : decide (X = u) = true := by simp; omega
            have e4a : ((Y : Int) == (v : Int)) = false := by simp; omega
            have e4b : (Y == v) = false := by simp; omega
            have e4c : decide (Y = v) = false := by simp; omega
            have e4d : ¬ Y = v := by omega
            clear hca hcb h1 h2
            have HN2 : Hid (∀ j : Nat, 0 < j → j < k + 1 → j < K → stp W l x y u v j = false) := HNX.out (fun _ _ => HHH.out)
            go_wp2_with fail
            go_roundw
            case rel => exact ⟨k + 1, by go_num, by omega, HS6, HN2⟩
            case measure => simp [intOf]; omega
          · have e3a : ((X : Int) == (u : Int)) = false := by simp; omega
            have e3b : (X == u) = false := by simp; omega
            have e3c : decide (X = u) = false := by simp; omega
            have e3d : ¬ X = u := by omega
            clear hca hcb h1 h2
            have HN2 : Hid (∀ j : Nat, 0 < j → j < k + 1 → j < K → stp W l x y u v j = false) := HNX.out (fun _ _ => HHH.out)
            go_wp2_with fail
            go_roundw
            case rel => exact ⟨k + 1, by go_num, by omega, HS6, HN2⟩
            case measure => simp [intOf]; omega
        · have e1a : ((X : Int) == (x : Int)) = false := by simp; omega
          have e1b : (X == x) = false := by simp; omega
          have e1c : decide (X = x) = false := by simp; omega
          have e1d : ¬ X = x := by omega
          by_cases h2 : X = u
          · have e3a : ((X : Int) == (u : Int)) = true := by simp; omega
            have e3b : (X == u) = true := by simp; omega
            have e3c : decide (X = u) = true := by simp; omega
            have e4a : ((Y : Int) == (v : Int)) = false := by simp; omega
            have e4b : (Y == v) = false := by simp; omega
            have e4c : decide (Y = v) = false := by simp; omega
            have e4d : ¬ Y = v := by omega
            clear hca hcb h1 h2
            have HN2 : Hid (∀ j : Nat, 0 < j → j < k + 1 → j < K → stp W l x y u v j = false) := HNX.out (fun _ _ => HHH.out)
            go_wp2_with fail
            go_roundw
            case rel => exact ⟨k + 1, by go_num, by omega, HS6, HN2⟩
            case measure => simp [intOf]; omega
          · have e3a : ((X : Int) == (u : Int)) = false := by simp; omega
            have e3b : (X == u) = false := by simp; omega
            have e3c : decide (X = u) = false := by simp; omega
            have e3d : ¬ X = u := by omega
            clear hca hcb h1 h2
            have HN2 : Hid (∀ j : Nat, 0 < j → j < k + 1 → j < K → stp W l x y u v j = false) := HNX.out (fun _ _ => HHH.out)
            go_wp2_with fail
            go_roundw
            case rel => exact ⟨k + 1, by go_num, by omega, HS6, HN2⟩
            case measure => simp [intOf]; omega
    · have hbt : b = true := by
        rw [← hb.out]
        refine clr_iff.2 fun j h1 h2 => HJ.out j h1 ?_ ?_
        · rw [HK.out] at h2; have := HN.out; omega
        · rw [HK.out] at h2; omega
      subst hbt
      have l1 : ¬ (k : Int) < (N : Int) := by omega
      have HB6 : Hid (Below w.heap.size w wr) := by obtain ⟨_, _, _, _, _, _, _, h⟩ := HBX.out wr HS.out; exact h
      go_wp2_with fail
      go_ret
      exact ⟨rfl, HB6.out⟩

set_option maxRecDepth 20000 in
set_option maxHeartbeats 2000000 in
theorem Looks_any (W H : Nat) (a : Addr) (c : Nat) (l : List Int) (x y u v : Nat) (b : Bool) (w : World) (hr : row vi w (some a) l) (hf : okf W H l) (hx : x < W) (hy : y < H) (hu : u < W) (hv : v < H) (hb : Hid (se W l x y u v = b)) :
    Calls Try.prog 61 #[.agg #[.int .i64 (W : Int), .int .i64 (H : Int), .slice (some a) (W * H) c], .agg #[.int .i64 (x : Int), .int .i64 (y : Int)], .agg #[.int .i64 (u : Int), .int .i64 (v : Int)]] w fun e w' => e = .returned (.bool b) ∧ Below w.heap.size w w' := by
  have HR : Hid (row vi w (some a) l) := hr
  have HX : Hid (okf W H l ∧ x < W ∧ y < H ∧ u < W ∧ v < H) := ⟨hf, hx, hy, hu, hv⟩
  clear hr hf hx hy hu hv
  obtain ⟨w0, hw0⟩ : ∃ w0, ((w.alloc (.cells #[.int .i64 (W : Int), .int .i64 (H : Int), .slice (some a) (W * H) c] 24)).alloc (.cells #[.int .i64 (x : Int), .int .i64 (y : Int)] 40)).alloc (.cells #[.int .i64 (u : Int), .int .i64 (v : Int)] 40) = w0 := ⟨_, rfl⟩
  have HW0 : Hid (_ = w0) := hw0
  clear hw0
  obtain ⟨_, _, _, _, _, _, _, hb0⟩ := boxes3 HW0.out (Below.refl _ _)
  have HR0 : Hid (row vi w0 (some a) l) := row_below HR.out hb0
  have HB0 : Hid (Below w.heap.size w w0) := hb0
  clear hb0
  cases h1 : clr W l x y u v with
  | true =>
    obtain rfl : b = true := by rw [← hb.out]; unfold se; rw [h1]; rfl
    have H1 : Hid (clr W l x y u v = true) := h1
    clear h1
    go_enter Try.func61, Try.ntmps61
    go_wp2_with fail
    rw [HW0.out]
    refine (openLine_any W H a c l x y u v true w0 HR0.out HX.out.1 HX.out.2.1 HX.out.2.2.1 HX.out.2.2.2.1 HX.out.2.2.2.2 H1).mono ?_
    rintro e w1 ⟨rfl, hb1⟩
    have HB1 : Hid (Below w.heap.size w w1) := HB0.out.trans (hb1.mono HB0.out.size)
    clear hb1
    go_wp2_with fail
    go_ret
    exact ⟨rfl, HB1.out⟩
  | false =>
    have H1 : Hid (clr W l x y u v = false) := h1
    have H2 : Hid (clr W l u v x y = b) := by unfold Hid; rw [← hb.out]; unfold se; rw [h1]; rfl
    clear h1
    go_enter Try.func61, Try.ntmps61
    go_wp2_with fail
    rw [HW0.out]
    refine (openLine_any W H a c l x y u v false w0 HR0.out HX.out.1 HX.out.2.1 HX.out.2.2.1 HX.out.2.2.2.1 HX.out.2.2.2.2 H1).mono ?_
    rintro e w1 ⟨rfl, hb1⟩
    obtain ⟨b0, b1, b2, b3, b4, b5, b6, hB⟩ := boxes3 HW0.out hb1
    have HB1 : Hid (Below w.heap.size w w1) := hB
    have HR1 : Hid (row vi w1 (some a) l) := row_below HR.out hB
    clear hb1 hB
    go_wp2_with fail
    refine (openLine_any W H a c l u v x y b w1 HR1.out HX.out.1 HX.out.2.2.2.1 HX.out.2.2.2.2 HX.out.2.1 HX.out.2.2.1 H2).mono ?_
    rintro e w2 ⟨rfl, hb2⟩
    have HB2 : Hid (Below w.heap.size w w2) := HB1.out.trans (hb2.mono HB1.out.size)
    clear hb2
    go_wp2_with fail
    go_ret
    exact ⟨rfl, HB2.out⟩
end Go.Proofs.Ytjbfnibhmojlfaa
