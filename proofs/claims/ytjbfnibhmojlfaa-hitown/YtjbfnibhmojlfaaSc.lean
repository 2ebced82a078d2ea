/- What each function of package sight returns, but for Seen. -/
import Derived.Test.YtjbfnibhmojlfaaSm
import Derived.Test.YtjbfnibhmojlfaaLl
import Derived.Test.YtjbfnibhmojlfaaAt
namespace Go.Proofs.Ytjbfnibhmojlfaa
open Go.RowKit
set_option linter.unusedVariables false

theorem hides_any (p : Int) (w : World) : Calls Try.prog 83 #[.int .i64 p] w fun e w' => e = .returned (.bool (hds p)) ∧ w' = w := by
  go_enter Try.func83, Try.ntmps83
  by_cases h0 : p = 0
  · subst h0
    go_wp2
    go_ret
    exact ⟨rfl, rfl⟩
  · have d0 : (p == 0) = false := by simp [h0]
    have d1 : (p != 0) = true := by simp [h0]
    by_cases h3 : p = 3
    · subst h3
      go_wp2
      go_ret
      exact ⟨rfl, rfl⟩
    · have d3 : (p == 3) = false := by simp [h3]
      have d4 : (p != 3) = true := by simp [h3]
      go_wp2
      go_ret
      exact ⟨by unfold hds; rw [d0, d3]; rfl, rfl⟩
theorem hides_at (p : Int) (b : Bool) (w : World) (h : Hid (hds p = b)) : Calls Try.prog 83 #[.int .i64 p] w fun e w' => e = .returned (.bool b) ∧ w' = w := by rw [← h.out]; exact hides_any p w

theorem bt_nat {f t W K k : Nat} (hf : f < W) (ht : t < W) (h1 : k < K) : ∃ X : Nat, bt f t k K = X ∧ X < W := by
  have := bt_in (f : Int) (t : Int) k K (by omega) (by omega) (by omega)
  exact ⟨(bt f t k K).toNat, by omega, by omega⟩
theorem stp_at {W H : Nat} {l : List Int} {x y u v K k : Nat} (hx : x < W) (hy : y < H) (hu : u < W) (hv : v < H) (hK : kg x y u v = K) (h1 : k < K) :
    ∃ X Y : Nat, bt x u k K = X ∧ bt y v k K = Y ∧ X < W ∧ Y < H ∧ stp W l x y u v k = hds (l.getD (Y * W + X) 0) := by
  obtain ⟨X, eX, lX⟩ := bt_nat hx hu h1
  obtain ⟨Y, eY, lY⟩ := bt_nat hy hv h1
  refine ⟨X, Y, eX, eY, lX, lY, ?_⟩
  unfold stp pl
  rw [hK, eX, eY]
  simp
theorem ix_lt {W H X Y : Nat} (hX : X < W) (hY : Y < H) : Y * W + X < W * H := by
  have : (Y + 1) * W ≤ H * W := Nat.mul_le_mul_right _ hY
  rw [Nat.add_mul, Nat.mul_comm H W] at this; omega
theorem near_in {x y : Nat} (hx : x < 40) (hy : y < 40) : near x y = true := near_mk ⟨by omega, by omega, by omega, by omega⟩
theorem kg_nat (x y u v : Int) : ∃ K : Nat, kg x y u v = K := ⟨(kg x y u v).toNat, by have := kg_nonneg x y u v; omega⟩
theorem kg_less {x y u v K : Nat} (hx : x < 40) (hy : y < 40) (hu : u < 40) (hv : v < 40) (hK : kg x y u v = K) : K ≤ 39 := by
  have h1 := kg_cases x y u v
  have h2 : ds x u ≤ 39 := by unfold ds; omega
  have h3 : ds y v ≤ 39 := by unfold ds; omega
  omega
/-- The boxes of a field and of two cells at a call's head. -/
theorem boxes3 {w w1 w0 : World} {a b c d e f g : Value} {t t' : TypeId} (hw0 : ((w.alloc (.cells #[a, b, c] t)).alloc (.cells #[d, e] t')).alloc (.cells #[f, g] t') = w0) (hb : Below w0.heap.size w0 w1) :
    w1.cell? ⟨w.heap.size, 0, none⟩ = some a ∧ w1.cell? ⟨w.heap.size, 1, none⟩ = some b ∧ w1.cell? ⟨w.heap.size, 2, none⟩ = some c ∧ w1.cell? ⟨w.heap.size + 1, 0, none⟩ = some d ∧ w1.cell? ⟨w.heap.size + 1, 1, none⟩ = some e ∧ w1.cell? ⟨w.heap.size + 2, 0, none⟩ = some f ∧ w1.cell? ⟨w.heap.size + 2, 1, none⟩ = some g ∧ Below w.heap.size w w1 := by
  subst hw0
  refine ⟨?_, ?_, ?_, ?_, ?_, ?_, ?_, ?_⟩
  rotate_left 7
  · exact (((alloc_below w _).alloc (by simp) _).alloc (by simp; omega) _).trans (hb.mono (by simp; omega))
  all_goals
    rw [hb.cell (by simp <;> omega)]
    simp [go_sem]

set_option maxRecDepth 20000 in
set_option maxHeartbeats 2000000 in
theorem isClear_any (W H : Nat) (a : Addr) (c : Nat) (l : List Int) (x y u v : Nat) (b : Bool) (w : World) (hr : row vi w (some a) l) (hW : 1 ≤ W ∧ W ≤ 40) (hH : 1 ≤ H ∧ H ≤ 40) (hl : l.length = W * H) (hx : x < W) (hy : y < H) (hu : u < W) (hv : v < H) (hb : Hid (clr W l x y u v = b)) :
    Calls Try.prog 80 #[.agg #[.int .i64 (W : Int), .int .i64 (H : Int), .slice (some a) (W * H) c], .agg #[.int .i64 (x : Int), .int .i64 (y : Int)], .agg #[.int .i64 (u : Int), .int .i64 (v : Int)]] w fun e w' => e = .returned (.bool b) ∧ Below w.heap.size w w' := by
  obtain ⟨K, hK⟩ := kg_nat x y u v
  have hK39 : K ≤ 39 := kg_less (by omega) (by omega) (by omega) (by omega) hK
  have HR : Hid (row vi w (some a) l) := hr
  have HL : Hid (l.length = W * H) := hl
  have HN1 : Hid (near x y = true) := near_in (by omega) (by omega)
  have HN2 : Hid (near u v = true) := near_in (by omega) (by omega)
  have HK : Hid (kg x y u v = K) := hK
  have HX : Hid (x < W ∧ y < H ∧ u < W ∧ v < H) := ⟨hx, hy, hu, hv⟩
  have hWH : W * H ≤ 1600 := wh_le hW hH
  clear hr hl hK hx hy hu hv hW hH
  obtain ⟨w0, hw0⟩ : ∃ w0, ((w.alloc (.cells #[.int .i64 (W : Int), .int .i64 (H : Int), .slice (some a) (W * H) c] 24)).alloc (.cells #[.int .i64 (x : Int), .int .i64 (y : Int)] 40)).alloc (.cells #[.int .i64 (u : Int), .int .i64 (v : Int)] 40) = w0 := ⟨_, rfl⟩
  have HW0 : Hid (_ = w0) := hw0
  clear hw0
  go_enter Try.func80, Try.ntmps80
  go_wp2_with fail
  rw [HW0.out]
  refine (Cells_yes x y u v K w0 HN1 HN2 HK).mono ?_
  rintro e w1 ⟨g, rfl, hb1, hg, hli⟩
  obtain ⟨b0, b1, b2, _, _, _, _, hB⟩ := boxes3 HW0.out hb1
  have HB : Hid (Below w.heap.size w w1) := hB
  have HR1 : Hid (row vi w1 (some a) l) := row_below HR.out hB
  have HLI : Hid (lies w1 g (K + 1) (fun k => bt x u k K) (fun k => bt y v k K)) := hli
  obtain ⟨N, hN⟩ : ∃ N, K + 1 = N := ⟨_, rfl⟩
  have HN : Hid (K + 1 = N) := hN
  have hN40 : N ≤ 40 := by omega
  have hN1 : 1 ≤ N := by omega
  rw [hN]
  clear hb1 hg hli hB HR hN
  go_wp2_with fail
  go_loopw [9] (fun i wr => ∃ k : Nat, i = .int .i64 (k : Int) ∧ 1 ≤ k ∧ k ≤ N ∧ (∃ m, wr = w1.drewN m) ∧ Hid (∀ j : Nat, 0 < j → j < k → stp W l x y u v j = false)) (fun i _ => N - (intOf i).toNat)
  case atStart => exact ⟨1, rfl, by omega, by omega, ⟨0, rfl⟩, fun j h1 h2 => by omega⟩
  case round =>
    obtain ⟨k, rfl, hk1, hkN, ⟨m, rfl⟩, HS⟩ := hrel
    by_cases hlt : k + 1 < N
    · have hkK : k < K := by have := HN.out; omega
      obtain ⟨X, Y, eX, eY, lX, lY, est⟩ := stp_at (l := l) HX.out.1 HX.out.2.1 HX.out.2.2.1 HX.out.2.2.2 HK.out hkK
      obtain ⟨T, hT⟩ : ∃ T : Nat, Y * W = T := ⟨_, rfl⟩
      obtain ⟨J, hJ⟩ : ∃ J : Nat, T + X = J := ⟨_, rfl⟩
      have hJl : J < W * H := by rw [← hJ, ← hT]; exact ix_lt lX lY
      obtain ⟨ad, had, hcl⟩ := row_at HR1.out (j := J) (by rw [HL.out]; exact hJl)
      cases had
      obtain ⟨Z, hZ⟩ : ∃ Z, l[J]'(by rw [HL.out]; exact hJl) = Z := ⟨_, rfl⟩
      rw [hZ] at hcl
      have est2 : stp W l x y u v k = hds Z := by rw [est, hT, hJ, List.getD_eq_getElem?_getD, List.getElem?_eq_getElem (by rw [HL.out]; exact hJl), hZ]; rfl
      obtain ⟨q0, q1⟩ := HLI.out.2 k (by omega)
      simp only [eX, eY] at q0 q1
      have z0 : (w1.drewN m).cell? ⟨g, k * 2, none⟩ = some (.int .i64 (X : Int)) := q0
      have z1 : (w1.drewN m).cell? ⟨g, k * 2 + 1, none⟩ = some (.int .i64 (Y : Int)) := q1
      have z2 : (w1.drewN m).cell? ⟨w.heap.size, 0, none⟩ = some (.int .i64 (W : Int)) := b0
      have z3 : (w1.drewN m).cell? ⟨w.heap.size, 2, none⟩ = some (.slice (some a) (W * H) c) := b2
      have z4 : (w1.drewN m).cell? (a.add J) = some (.int .i64 Z) := hcl
      have HQ : Hid (∀ n, ∃ q, (w1.drewN m).drewN n = w1.drewN q) := fun n => ⟨_, World.drewN_drewN _ _ _⟩
      have HBm : Hid (Below w.heap.size w (w1.drewN m)) := below_drewN HB.out m
      have eT : IntKind.i64.wrap ((Y : Int) * (W : Int)) = (T : Int) := by rw [← Int.natCast_mul, hT]; exact wrp (by omega) (by omega)
      have eJ : (T : Int) + X = J := by omega
      have eJ2 : IntKind.i64.wrap (J : Int) = J := wrp (by omega) (by omega)
      have hJi : (J : Int) < W * H := by omega
      have hJ0 : (0 : Int) ≤ J := by omega
      have l1 : (k : Int) < (N : Int) - 1 := by omega
      have l2 : (k : Int) < (N : Int) := by omega
      have l3 : (0 : Int) ≤ k := by omega
      clear hcl q0 q1 hZ est hT hJ eX eY lX lY b0 b1 b2
      generalize w1.drewN m = w5 at z0 z1 z2 z3 z4 HQ HBm ⊢
      cases hh : hds Z with
      | true =>
        have HZ : Hid (hds Z = true) := hh
        have hbf : b = false := by rw [← hb.out]; exact clr_no (k := k) (by omega) (by rw [HK.out]; omega) (by rw [est2]; exact hh)
        subst hbf
        clear hh est2
        go_wp2_with fail
        go_quiet ((go_at_call 83; exact Calls.quiet_of_same (hides_at Z true _ HZ)))
        go_wp2_with fail
        go_ret
        exact ⟨rfl, below_drewN HBm.out _⟩
      | false =>
        have HZ : Hid (hds Z = false) := hh
        have HE : Hid (stp W l x y u v k = false) := by unfold Hid; rw [est2]; exact hh
        clear hh est2
        go_wp2_with fail
        go_quiet ((go_at_call 83; exact Calls.quiet_of_same (hides_at Z false _ HZ)))
        go_wp2_with fail
        go_roundw
        case rel => exact ⟨k + 1, by go_num, by omega, by omega, HQ.out _, fun j h1 h2 => by
          by_cases e : j = k
          · rw [e]; exact HE.out
          · exact HS.out j h1 (by omega)⟩
        case measure => simp [intOf]; omega
    · have hbt : b = true := by
        rw [← hb.out]
        refine clr_iff.2 fun j h1 h2 => HS.out j h1 ?_
        rw [HK.out] at h2
        have := HN.out; omega
      subst hbt
      have l1 : ¬ (k : Int) < (N : Int) - 1 := by omega
      go_wp2_with fail
      go_ret
      exact ⟨rfl, below_drewN HB.out m⟩

set_option maxRecDepth 20000 in
set_option maxHeartbeats 2000000 in
theorem sees_any (W H : Nat) (a : Addr) (c : Nat) (l : List Int) (x y u v : Nat) (b : Bool) (w : World) (hr : row vi w (some a) l) (hW : 1 ≤ W ∧ W ≤ 40) (hH : 1 ≤ H ∧ H ≤ 40) (hl : l.length = W * H) (hx : x < W) (hy : y < H) (hu : u < W) (hv : v < H) (hb : Hid (se W l x y u v = b)) :
    Calls Try.prog 74 #[.agg #[.int .i64 (W : Int), .int .i64 (H : Int), .slice (some a) (W * H) c], .agg #[.int .i64 (x : Int), .int .i64 (y : Int)], .agg #[.int .i64 (u : Int), .int .i64 (v : Int)]] w fun e w' => e = .returned (.bool b) ∧ Below w.heap.size w w' := by
  have HR : Hid (row vi w (some a) l) := hr
  have HX : Hid ((1 ≤ W ∧ W ≤ 40) ∧ (1 ≤ H ∧ H ≤ 40) ∧ l.length = W * H ∧ x < W ∧ y < H ∧ u < W ∧ v < H) := ⟨hW, hH, hl, hx, hy, hu, hv⟩
  clear hr hl hx hy hu hv hW hH
  obtain ⟨w0, hw0⟩ : ∃ w0, ((w.alloc (.cells #[.int .i64 (W : Int), .int .i64 (H : Int), .slice (some a) (W * H) c] 24)).alloc (.cells #[.int .i64 (x : Int), .int .i64 (y : Int)] 40)).alloc (.cells #[.int .i64 (u : Int), .int .i64 (v : Int)] 40) = w0 := ⟨_, rfl⟩
  have HW0 : Hid (_ = w0) := hw0
  clear hw0
  obtain ⟨_, _, _, _, _, _, _, hb0⟩ := boxes3 HW0.out (Below.refl _ _)
  have HR0 : Hid (row vi w0 (some a) l) := row_below HR.out hb0
  have HB0 : Hid (Below w.heap.size w w0) := hb0
  clear hb0
  cases h1 : clr W l x y u v with
  | true =>
    obtain rfl : b = true := by rw [← hb.out]; unfold se; rw [h1]; rfl
    have H1 : Hid (clr W l x y u v = true) := h1
    clear h1
    go_enter Try.func74, Try.ntmps74
    go_wp2_with fail
    rw [HW0.out]
    refine (isClear_any W H a c l x y u v true w0 HR0.out HX.out.1 HX.out.2.1 HX.out.2.2.1 HX.out.2.2.2.1 HX.out.2.2.2.2.1 HX.out.2.2.2.2.2.1 HX.out.2.2.2.2.2.2 H1).mono ?_
    rintro e w1 ⟨rfl, hb1⟩
    have HB1 : Hid (Below w.heap.size w w1) := HB0.out.trans (hb1.mono HB0.out.size)
    clear hb1
    go_wp2_with fail
    go_ret
    exact ⟨rfl, HB1.out⟩
  | false =>
    have H1 : Hid (clr W l x y u v = false) := h1
    have H2 : Hid (clr W l u v x y = b) := by unfold Hid; rw [← hb.out]; unfold se; rw [h1]; rfl
    clear h1
    go_enter Try.func74, Try.ntmps74
    go_wp2_with fail
    rw [HW0.out]
    refine (isClear_any W H a c l x y u v false w0 HR0.out HX.out.1 HX.out.2.1 HX.out.2.2.1 HX.out.2.2.2.1 HX.out.2.2.2.2.1 HX.out.2.2.2.2.2.1 HX.out.2.2.2.2.2.2 H1).mono ?_
    rintro e w1 ⟨rfl, hb1⟩
    obtain ⟨b0, b1, b2, b3, b4, b5, b6, hB⟩ := boxes3 HW0.out hb1
    have HB1 : Hid (Below w.heap.size w w1) := hB
    have HR1 : Hid (row vi w1 (some a) l) := row_below HR.out hB
    clear hb1 hB
    go_wp2_with fail
    refine (isClear_any W H a c l u v x y b w1 HR1.out HX.out.1 HX.out.2.1 HX.out.2.2.1 HX.out.2.2.2.2.2.1 HX.out.2.2.2.2.2.2 HX.out.2.2.2.1 HX.out.2.2.2.2.1 H2).mono ?_
    rintro e w2 ⟨rfl, hb2⟩
    have HB2 : Hid (Below w.heap.size w w2) := HB1.out.trans (hb2.mono HB1.out.size)
    clear hb2
    go_wp2_with fail
    go_ret
    exact ⟨rfl, HB2.out⟩

/-- Which error a field, and a cell of it, is of. -/
def cer (A B : Int) (l : List Int) (X Y : Int) : Int := if ck A B l = 0 then (if inb A B X Y = true then 0 else 7) else ck A B l
theorem inb_yes {W H : Nat} {X Y : Int} (h : inb W H X Y = true) : ∃ x y : Nat, X = x ∧ Y = y ∧ x < W ∧ y < H := by
  unfold inb at h
  simp at h
  exact ⟨X.toNat, Y.toNat, by omega, by omega, by omega, by omega⟩
theorem inb_no {W H X Y : Int} (h : ¬ inb W H X Y = true) : X < 0 ∨ W ≤ X ∨ Y < 0 ∨ H ≤ Y := by
  unfold inb at h
  simp at h
  omega
theorem inb_mk {W H x y : Nat} (hx : x < W) (hy : y < H) : inb W H x y = true := by unfold inb; simp; omega
/-- Where there is no error the field is right, and the cell is one of it. -/
theorem cer_yes {A B : Int} {l : List Int} {X Y : Int} (h : cer A B l X Y = 0) : ∃ W H x y : Nat, A = W ∧ B = H ∧ X = x ∧ Y = y ∧ x < W ∧ y < H ∧ okf W H l := by
  unfold cer at h
  by_cases h0 : ck A B l = 0
  · rw [if_pos h0] at h
    obtain ⟨W, H, rfl, rfl, hW, hH, hl, hg⟩ := ck_yes h0
    by_cases h1 : inb W H X Y = true
    · obtain ⟨x, y, rfl, rfl, hx, hy⟩ := inb_yes h1
      exact ⟨W, H, x, y, rfl, rfl, rfl, rfl, hx, hy, hW, hH, hl, hg⟩
    · rw [if_neg h1] at h; cases h
  · rw [if_neg h0] at h; exact absurd h h0
theorem okf_ck {W H : Nat} {l : List Int} (h : okf W H l) : ck W H l = 0 := by
  obtain ⟨hW, hH, hl, hg⟩ := h
  unfold ck sd
  simp [hg, hl]; omega
theorem cer_ok {W H x y : Nat} {l : List Int} (h : okf W H l) (hx : x < W) (hy : y < H) : cer W H l x y = 0 := by
  unfold cer; rw [if_pos (okf_ck h), if_pos (inb_mk hx hy)]
theorem At_any (A B : Int) (p : Option Addr) (n c : Nat) (l : List Int) (X Y E : Int) (w : World) (hr : row vi w p l) (hn : l.length = n) (hm : n ≤ 9223372036854775807) (hE : Hid (cer A B l X Y = E)) :
    Calls Try.prog 79 #[.agg #[.int .i64 A, .int .i64 B, .slice p n c], .agg #[.int .i64 X, .int .i64 Y]] w fun e w' => ∃ Z, e = .returned (.tuple #[.int .i64 Z, .int .i64 E]) ∧ Below w.heap.size w w' := by
  by_cases h0 : ck A B l = 0
  · by_cases h1 : inb A B X Y = true
    · obtain rfl : E = 0 := by rw [← hE.out]; unfold cer; rw [if_pos h0, if_pos h1]
      obtain ⟨W, H, x, y, rfl, rfl, rfl, rfl, hx, hy, hW, hH, hl, hg⟩ := cer_yes hE.out
      obtain ⟨a, rfl⟩ := row_some hr (by rw [hl]; exact one_le hW hH)
      rw [hl] at hn
      subst hn
      refine (At_in W H a c l x y _ w hr hW hH hl hg hx hy rfl).mono ?_
      rintro e w' ⟨rfl, hb⟩
      exact ⟨_, rfl, hb⟩
    · obtain rfl : E = 7 := by rw [← hE.out]; unfold cer; rw [if_pos h0, if_neg h1]
      refine (At_out A B p n c l X Y w hr hn hm h0 (inb_no h1)).mono ?_
      rintro e w' ⟨rfl, hb⟩
      exact ⟨_, rfl, hb⟩
  · obtain rfl : E = ck A B l := by rw [← hE.out]; unfold cer; rw [if_neg h0]
    refine (At_no A B p n c l X Y _ w hr hn hm rfl h0).mono ?_
    rintro e w' ⟨rfl, hb⟩
    exact ⟨_, rfl, hb⟩
set_option maxRecDepth 20000 in
set_option maxHeartbeats 1000000 in
theorem check_any (A B : Int) (p : Option Addr) (n c : Nat) (l : List Int) (X Y E : Int) (w : World) (hr : row vi w p l) (hn : l.length = n) (hm : n ≤ 9223372036854775807) (hE : Hid (cer A B l X Y = E)) :
    Calls Try.prog 73 #[.agg #[.int .i64 A, .int .i64 B, .slice p n c], .agg #[.int .i64 X, .int .i64 Y]] w fun e w' => e = .returned (.int .i64 E) ∧ Below w.heap.size w w' := by
  have HR : Hid (row vi w p l) := hr
  have HN : Hid (l.length = n) := hn
  clear hr hn
  go_enter Try.func73, Try.ntmps73
  go_wp2_with fail
  refine (At_any A B p n c l X Y E _ (row_below HR.out ((alloc_below w _).alloc (by simp) _)) HN.out hm hE).mono ?_
  rintro e w1 ⟨Z, rfl, hb⟩
  have HB : Hid (Below w.heap.size w w1) := ((alloc_below w _).alloc (by simp) _).trans (hb.mono (by simp; omega))
  clear hb
  go_wp2_with fail
  go_ret
  exact ⟨rfl, HB.out⟩
/-- Which error Sees is of. -/
def ser (A B : Int) (l : List Int) (x y u v : Int) : Int := if cer A B l x y = 0 then cer A B l u v else cer A B l x y
set_option maxRecDepth 20000 in
set_option maxHeartbeats 2000000 in
theorem Sees_no (A B : Int) (p : Option Addr) (n c : Nat) (l : List Int) (x y u v E : Int) (w : World) (hr : row vi w p l) (hn : l.length = n) (hm : n ≤ 9223372036854775807) (hE : Hid (ser A B l x y u v = E)) (h0 : E ≠ 0) :
    Calls Try.prog 56 #[.agg #[.int .i64 A, .int .i64 B, .slice p n c], .agg #[.int .i64 x, .int .i64 y], .agg #[.int .i64 u, .int .i64 v]] w fun e w' => e = .returned (.tuple #[.bool false, .int .i64 E]) ∧ Below w.heap.size w w' := by
  have HR : Hid (row vi w p l) := hr
  have HN : Hid (l.length = n) := hn
  have e0 : (E == 0) = false := by simp [h0]
  have e1 : (E != 0) = true := by simp [h0]
  clear hr hn
  obtain ⟨w0, hw0⟩ : ∃ w0, ((w.alloc (.cells #[.int .i64 A, .int .i64 B, .slice p n c] 24)).alloc (.cells #[.int .i64 x, .int .i64 y] 40)).alloc (.cells #[.int .i64 u, .int .i64 v] 40) = w0 := ⟨_, rfl⟩
  have HW0 : Hid (_ = w0) := hw0
  clear hw0
  obtain ⟨_, _, _, _, _, _, _, hb0⟩ := boxes3 HW0.out (Below.refl _ _)
  have HR0 : Hid (row vi w0 p l) := row_below HR.out hb0
  clear hb0
  by_cases h1 : cer A B l x y = 0
  · have H1 : Hid (cer A B l x y = 0) := h1
    have H2 : Hid (cer A B l u v = E) := by unfold Hid; rw [← hE.out]; unfold ser; rw [if_pos h1]
    clear h1
    go_enter Try.func56, Try.ntmps56
    go_wp2_with fail
    rw [HW0.out]
    refine (check_any A B p n c l x y 0 w0 HR0.out HN.out hm H1).mono ?_
    rintro e w1 ⟨rfl, hb1⟩
    obtain ⟨b0, b1, b2, b3, b4, b5, b6, hB⟩ := boxes3 HW0.out hb1
    have HB1 : Hid (Below w.heap.size w w1) := hB
    have HR1 : Hid (row vi w1 p l) := row_below HR.out hB
    clear hb1 hB
    go_wp2_with fail
    refine (check_any A B p n c l u v E w1 HR1.out HN.out hm H2).mono ?_
    rintro e w2 ⟨rfl, hb2⟩
    have HB2 : Hid (Below w.heap.size w w2) := HB1.out.trans (hb2.mono HB1.out.size)
    clear hb2
    go_wp2_with fail
    go_ret2
    exact ⟨rfl, HB2.out⟩
  · have H1 : Hid (cer A B l x y = E) := by unfold Hid; rw [← hE.out]; unfold ser; rw [if_neg h1]
    clear h1
    go_enter Try.func56, Try.ntmps56
    go_wp2_with fail
    rw [HW0.out]
    refine (check_any A B p n c l x y E w0 HR0.out HN.out hm H1).mono ?_
    rintro e w1 ⟨rfl, hb1⟩
    obtain ⟨_, _, _, _, _, _, _, hB⟩ := boxes3 HW0.out hb1
    have HB1 : Hid (Below w.heap.size w w1) := hB
    clear hb1 hB
    go_wp2_with fail
    go_ret2
    exact ⟨rfl, HB1.out⟩
set_option maxRecDepth 20000 in
set_option maxHeartbeats 2000000 in
theorem Sees_ok (W H : Nat) (a : Addr) (c : Nat) (l : List Int) (x y u v : Nat) (b : Bool) (w : World) (hr : row vi w (some a) l) (hf : okf W H l) (hx : x < W) (hy : y < H) (hu : u < W) (hv : v < H) (hb : Hid (se W l x y u v = b)) :
    Calls Try.prog 56 #[.agg #[.int .i64 (W : Int), .int .i64 (H : Int), .slice (some a) (W * H) c], .agg #[.int .i64 (x : Int), .int .i64 (y : Int)], .agg #[.int .i64 (u : Int), .int .i64 (v : Int)]] w fun e w' => e = .returned (.tuple #[.bool b, .int .i64 0]) ∧ Below w.heap.size w w' := by
  have HR : Hid (row vi w (some a) l) := hr
  have HF : Hid (okf W H l) := hf
  have H1 : Hid (cer W H l x y = 0) := cer_ok hf hx hy
  have H2 : Hid (cer W H l u v = 0) := cer_ok hf hu hv
  have HX : Hid (x < W ∧ y < H ∧ u < W ∧ v < H) := ⟨hx, hy, hu, hv⟩
  have hm : W * H ≤ 9223372036854775807 := by have := wh_le hf.1 hf.2.1; omega
  clear hr hf hx hy hu hv
  obtain ⟨w0, hw0⟩ : ∃ w0, ((w.alloc (.cells #[.int .i64 (W : Int), .int .i64 (H : Int), .slice (some a) (W * H) c] 24)).alloc (.cells #[.int .i64 (x : Int), .int .i64 (y : Int)] 40)).alloc (.cells #[.int .i64 (u : Int), .int .i64 (v : Int)] 40) = w0 := ⟨_, rfl⟩
  have HW0 : Hid (_ = w0) := hw0
  clear hw0
  obtain ⟨_, _, _, _, _, _, _, hb0⟩ := boxes3 HW0.out (Below.refl _ _)
  have HR0 : Hid (row vi w0 (some a) l) := row_below HR.out hb0
  clear hb0
  go_enter Try.func56, Try.ntmps56
  go_wp2_with fail
  rw [HW0.out]
  refine (check_any W H (some a) (W * H) c l x y 0 w0 HR0.out HF.out.2.2.1 hm H1).mono ?_
  rintro e w1 ⟨rfl, hb1⟩
  obtain ⟨b0, b1, b2, b3, b4, b5, b6, hB⟩ := boxes3 HW0.out hb1
  have HB1 : Hid (Below w.heap.size w w1) := hB
  have HB1' : Hid (Below w0.heap.size w0 w1) := hb1
  have HR1 : Hid (row vi w1 (some a) l) := row_below HR.out hB
  clear hb1 hB
  go_wp2_with fail
  refine (check_any W H (some a) (W * H) c l u v 0 w1 HR1.out HF.out.2.2.1 hm H2).mono ?_
  rintro e w2 ⟨rfl, hb2⟩
  clear b0 b1 b2 b3 b4 b5 b6
  obtain ⟨b0, b1, b2, b3, b4, b5, b6, hB⟩ := boxes3 HW0.out (HB1'.out.trans (hb2.mono HB1'.out.size))
  have HB2 : Hid (Below w.heap.size w w2) := hB
  have HR2 : Hid (row vi w2 (some a) l) := row_below HR.out hB
  clear hb2 hB HW0
  go_wp2_with fail
  refine (sees_any W H a c l x y u v b w2 HR2.out HF.out.1 HF.out.2.1 HF.out.2.2.1 HX.out.1 HX.out.2.1 HX.out.2.2.1 HX.out.2.2.2 hb).mono ?_
  rintro e w3 ⟨rfl, hb3⟩
  have HB3 : Hid (Below w.heap.size w w3) := HB2.out.trans (hb3.mono HB2.out.size)
  clear hb3
  go_wp2_with fail
  go_ret2
  exact ⟨rfl, HB3.out⟩
end Go.Proofs.Ytjbfnibhmojlfaa
