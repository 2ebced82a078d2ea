/- For every two cells and every way by which they are moved the law LineMoved returns true: a line that is moved, turned over, or mirrored, has its cells so. -/
import Derived.Test.YtbedniajkcgaeaaRows
import Derived.Test.YtbedniajkcgaeaaPost
import Derived.Test.YtbedniajkcgaeaaCon
import Derived.Test.YtbedniajkcgaeaaCells
import Derived.Test.YtbedniajkcgaeaaMathMove
import Derived.WalkKit
import Derived.ProofKit
import Derived.OpenShut
namespace Go.Proofs.Ytbedniajkcgaeaa.lineMoved
open Go.ChangeShapes Go.WideShapes Go.ChangeAt Go.RowKit
set_option linter.unusedVariables false

theorem own : ownKnob Try.prog.godebug = none := by kernel_rfl

attribute [local go_sem ↓] Go.wp_at_zero Go.wp_at_succ
theorem Cells_some (x y u v : Int) (w : World) :
    Calls Try.prog 8 #[.agg #[.int .i64 x, .int .i64 y], .agg #[.int .i64 u, .int .i64 v]] w fun e w' => ∃ ao n c er, e = .returned (.tuple #[.slice ao n c, .int .i64 er]) ∧ Below w.heap.size w w' := by
  by_cases h : near x y = true ∧ near u v = true
  · have kb := kg_bd h.1 h.2
    obtain ⟨K, hK⟩ : ∃ K : Nat, kg x y u v = K := ⟨(kg x y u v).toNat, by omega⟩
    refine (Cells_yes x y u v K w h.1 h.2 hK).mono ?_
    rintro e w' ⟨g, rfl, hb, _⟩
    exact ⟨_, _, _, _, rfl, hb⟩
  · have h' : near x y = false ∨ near u v = false := by
      cases a : near x y <;> cases b : near u v <;> simp_all
    refine (Cells_no x y u v w h').mono ?_
    rintro e w' ⟨rfl, hb⟩
    exact ⟨_, _, _, _, rfl, hb⟩
theorem moved_in {x a : Int} (h0 : -1000 ≤ x) (h1 : x ≤ 1000) (b0 : -9223372036854775808 ≤ a) (b1 : a ≤ 9223372036854775807) (m0 : -1000 ≤ wrap64 (x + a)) (m1 : wrap64 (x + a) ≤ 1000) : wrap64 (x + a) = x + a := by
  unfold wrap64 at *; omega
theorem wrp (n : Int) (h0 : -9223372036854775808 ≤ n) (h1 : n ≤ 9223372036854775807) : IntKind.i64.wrap n = n := by
  by_cases c : 0 ≤ n
  · have hm : n % 18446744073709551616 = n := by omega
    unfold IntKind.wrap
    simp [IntKind.bits, IntKind.signed, hm]; omega
  · have hm : n % 18446744073709551616 = n + 18446744073709551616 := by omega
    unfold IntKind.wrap
    simp [IntKind.bits, IntKind.signed, hm]; omega

set_option maxRecDepth 20000 in
set_option maxHeartbeats 4000000 in
theorem walk (x0 y0 : Int) (x1 y1 : Int) (a2 : Int) (a3 : Int) (w0x : (Lit.int .i64 x0).wf = true) (w0y : (Lit.int .i64 y0).wf = true) (w1x : (Lit.int .i64 x1).wf = true) (w1y : (Lit.int .i64 y1).wf = true) (w2 : (Lit.int .i64 a2).wf = true) (w3 : (Lit.int .i64 a3).wf = true) (w : World) :
    Calls Try.prog 6 #[.agg #[.int .i64 x0, .int .i64 y0], .agg #[.int .i64 x1, .int .i64 y1], .int .i64 a2, .int .i64 a3] w fun e w' => e = .returned (.bool true) ∧ Below w.heap.size w w' := by
  by_cases h : near x0 y0 = true ∧ near x1 y1 = true
  · have H : Hid (near x0 y0 = true) := h.1
    have G : Hid (near x1 y1 = true) := h.2
    obtain ⟨h0, h1, h2, h3⟩ := near_yes h.1
    obtain ⟨g0, g1, g2, g3⟩ := near_yes h.2
    have kb := kg_bd h.1 h.2
    obtain ⟨K, hK⟩ : ∃ K : Nat, kg x0 y0 x1 y1 = K := ⟨(kg x0 y0 x1 y1).toNat, by omega⟩
    have HK : Hid (kg x0 y0 x1 y1 = K) := hK
    rw [hK] at kb
    obtain ⟨kb0, kb1⟩ := kb
    have HNa : Hid (near (-x0) y0 = true) := near_mk (by omega)
    have HNb : Hid (near (-x1) y1 = true) := near_mk (by omega)
    have HKN : Hid (kg (-x0) y0 (-x1) y1 = K) := by show kg _ _ _ _ = _; rw [kg_neg]; exact hK
    have HOa : Hid (near y0 x0 = true) := near_mk (by omega)
    have HOb : Hid (near y1 x1 = true) := near_mk (by omega)
    have HKO : Hid (kg y0 x0 y1 x1 = K) := by show kg _ _ _ _ = _; rw [kg_turn]; exact hK
    have bd2 := bounds_i64 w2
    have bd3 := bounds_i64 w3
    clear h hK w0x w0y w1x w1y w2 w3
    by_cases mv : near (wrap64 (x0 + a2)) (wrap64 (y0 + a3)) = true ∧ near (wrap64 (x1 + a2)) (wrap64 (y1 + a3)) = true
    · obtain ⟨m0, m1, m2, m3⟩ := near_yes mv.1
      obtain ⟨p0, p1, p2, p3⟩ := near_yes mv.2
      have em0 := moved_in (by omega) (by omega) (by omega) (by omega) m0 m1
      rw [em0] at m0 m1
      have em2 := moved_in (by omega) (by omega) (by omega) (by omega) m2 m3
      rw [em2] at m2 m3
      have ep0 := moved_in (by omega) (by omega) (by omega) (by omega) p0 p1
      rw [ep0] at p0 p1
      have ep2 := moved_in (by omega) (by omega) (by omega) (by omega) p2 p3
      rw [ep2] at p2 p3
      have HM : Hid (near (x0 + a2) (y0 + a3) = true) := near_mk (by omega)
      have HM' : Hid (near (x1 + a2) (y1 + a3) = true) := near_mk (by omega)
      have HKM : Hid (kg (x0 + a2) (y0 + a3) (x1 + a2) (y1 + a3) = K) := by show kg _ _ _ _ = _; rw [kg_move]; exact HK.out
      clear mv bd2 bd3 em0 em2 ep0 ep2
      by_cases sm : x1 - x0 = y1 - y0
      · skip
        go_enter Try.func6, Try.ntmps6
        go_wp2_with fail
        refine (Cells_yes _ _ _ _ K _ H G HK).mono ?_
        rintro e w1 ⟨g1, rfl, hb, hg1, hl⟩
        have HB1 : Hid (Below _ _ w1) := hb
        have HL1 : Hid (lies w1 g1 _ _ _) := hl
        obtain ⟨c0, c1, c2, c3⟩ := box2 hb
        clear hb hl
        go_wp2_with fail
        refine (Cells_yes _ _ _ _ K _ HM HM' HKM).mono ?_
        rintro e w2 ⟨g2, rfl, hb, hg2, hl⟩
        have HM2 : Hid (lies w2 g2 _ _ _) := hl
        clear hl
        have hb2 := HB1.out.trans (hb.mono HB1.out.size)
        have HB2 : Hid (Below _ _ w2) := hb2
        have HL2 : Hid (lies w2 g1 _ _ _) := lies_later HL1.out hb
        clear c0 c1 c2 c3
        obtain ⟨c0, c1, c2, c3⟩ := box2 hb2
        clear hb hb2
        go_wp2_with fail
        refine (Cells_yes _ _ _ _ K _ HNa HNb HKN).mono ?_
        rintro e w3 ⟨g3, rfl, hb, hg3, hl⟩
        have hb3 := HB2.out.trans (hb.mono HB2.out.size)
        have HB3 : Hid (Below _ _ w3) := hb3
        have HL3 : Hid (lies w3 g1 _ _ _) := lies_later HL2.out hb
        have HN3 : Hid (lies w3 g3 _ _ _) := hl
        have HM3 : Hid (lies w3 g2 _ _ _) := lies_later HM2.out hb
        clear c0 c1 c2 c3
        obtain ⟨c0, c1, c2, c3⟩ := box2 hb3
        clear hb hb3 hl
        go_wp2_with fail
        refine (Cells_yes _ _ _ _ K _ HOa HOb HKO).mono ?_
        rintro e w4 ⟨g4, rfl, hb, hg4, hl⟩
        have hb4 := HB3.out.trans (hb.mono HB3.out.size)
        have HB4 : Hid (Below _ _ w4) := hb4
        have HL4 : Hid (lies w4 g1 _ _ _) := lies_later HL3.out hb
        have HN4 : Hid (lies w4 g3 _ _ _) := lies_later HN3.out hb
        have HO4 : Hid (lies w4 g4 _ _ _) := hl
        have HM4 : Hid (lies w4 g2 _ _ _) := lies_later HM3.out hb
        clear hb hb4 hl c0 c1 c2 c3
        go_wp2_with fail
        refine (lineLives_any _).mono ?_
        rintro e w5 ⟨rfl, hb⟩
        have hb5 := HB4.out.trans (hb.mono HB4.out.size)
        have HB5 : Hid (Below _ _ w5) := hb5
        have HL5 : Hid (lies w5 g1 _ _ _) := lies_later HL4.out hb
        have HN5 : Hid (lies w5 g3 _ _ _) := lies_later HN4.out hb
        have HO5 : Hid (lies w5 g4 _ _ _) := lies_later HO4.out hb
        have HM5 : Hid (lies w5 g2 _ _ _) := lies_later HM4.out hb
        obtain ⟨c0, c1, c2, c3⟩ := box2 hb5
        clear hb hb5 HB1 HB2 HB3 HB4 HL1 HL2 HL3 HL4 HN3 HN4 HO4 HM2 HM3 HM4 
        go_wp2_with fail
        clear c0 c1 c2 c3
        go_loopw [159] (fun i wr => ∃ k : Nat, k ≤ K + 1 ∧ i = .int .i64 k ∧ Below w5.heap.size w5 wr) (fun i _ => K + 1 - (intOf i).toNat)
        case atStart => exact ⟨0, by omega, rfl, Below.refl _ _⟩
        case round =>
          obtain ⟨k, hk, rfl, R⟩ := hrel
          have HR : Hid (Below w5.heap.size w5 wr) := R
          by_cases hlt : k < K + 1
          · obtain ⟨ca, cb⟩ := (lies_later HL5.out R).2 k hlt
            obtain ⟨na, nb⟩ := (lies_later HN5.out R).2 k hlt
            obtain ⟨oa, ob⟩ := (lies_later HO5.out R).2 k hlt
            obtain ⟨X, hX⟩ : ∃ X, bt x0 x1 k K = X := ⟨_, rfl⟩
            obtain ⟨Y, hY⟩ : ∃ Y, bt y0 y1 k K = Y := ⟨_, rfl⟩
            have bX := bt_bd (f := x0) (t := x1) (k := k) (n := K) (M := 1000) (by omega) (by omega) (by omega) (by omega) (by omega) (by omega)
            have bY := bt_bd (f := y0) (t := y1) (k := k) (n := K) (M := 1000) (by omega) (by omega) (by omega) (by omega) (by omega) (by omega)
            rw [hX] at bX
            rw [hY] at bY
            obtain ⟨b0, b1⟩ := bX
            obtain ⟨b2, b3⟩ := bY
            simp only [hX] at ca
            simp only [hY] at cb
            simp only [bt_neg _ _ _ _ (show (0 : Int) ≤ (K : Int) by omega), hX] at na
            simp only [hY] at nb
            simp only [hY] at oa
            simp only [hX] at ob
            have k1 : g1 < wr.heap.size := (lies_later HL5.out R).1
            have k3 : g3 < wr.heap.size := (lies_later HN5.out R).1
            have k4 : g4 < wr.heap.size := (lies_later HO5.out R).1
            obtain ⟨ma, mb⟩ := (lies_later HM5.out R).2 k hlt
            simp only [bt_move, hX] at ma
            simp only [bt_move, hY] at mb
            have k2 : g2 < wr.heap.size := (lies_later HM5.out R).1
            have bm := bt_bd (f := x0 + a2) (t := x1 + a2) (k := k) (n := K) (M := 1000) (by omega) (by omega) (by omega) (by omega) (by omega) (by omega)
            have bn := bt_bd (f := y0 + a3) (t := y1 + a3) (k := k) (n := K) (M := 1000) (by omega) (by omega) (by omega) (by omega) (by omega) (by omega)
            rw [bt_move, hX] at bm
            rw [bt_move, hY] at bn
            have q3 : IntKind.i64.wrap (X + a2) = X + a2 := wrp _ (by omega) (by omega)
            have q4 : IntKind.i64.wrap (Y + a3) = Y + a3 := wrp _ (by omega) (by omega)
            clear bm bn
            have q1 : IntKind.i64.wrap (-X) = -X := wrp _ (by omega) (by omega)
            have t0 : (0 : Int) ≤ (k : Int) := by omega
            have t1 : (k : Int) < (K : Int) + 1 := by omega
            clear hX hY R
            go_wp2_with fail
            go_quiet (fail)
            go_wp2_with fail
            go_quiet (fail)
            go_wp2_with fail
            go_roundw
            case rel => exact ⟨k + 1, by omega, by go_num, below_drewN (HR.out.alloc HR.out.size _) _⟩
            case measure => simp [intOf]; omega
          · clear R
            go_wp2_with fail
            go_ret
            exact ⟨rfl, (((Below.refl _ _).alloc (Nat.le_refl _) _).alloc (by simp) _).trans ((HB5.out.trans (HR.out.mono HB5.out.size)).mono (by simp; omega))⟩
      · skip
        go_enter Try.func6, Try.ntmps6
        go_wp2_with fail
        refine (Cells_yes _ _ _ _ K _ H G HK).mono ?_
        rintro e w1 ⟨g1, rfl, hb, hg1, hl⟩
        have HB1 : Hid (Below _ _ w1) := hb
        have HL1 : Hid (lies w1 g1 _ _ _) := hl
        obtain ⟨c0, c1, c2, c3⟩ := box2 hb
        clear hb hl
        go_wp2_with fail
        refine (Cells_yes _ _ _ _ K _ HM HM' HKM).mono ?_
        rintro e w2 ⟨g2, rfl, hb, hg2, hl⟩
        have HM2 : Hid (lies w2 g2 _ _ _) := hl
        clear hl
        have hb2 := HB1.out.trans (hb.mono HB1.out.size)
        have HB2 : Hid (Below _ _ w2) := hb2
        have HL2 : Hid (lies w2 g1 _ _ _) := lies_later HL1.out hb
        clear c0 c1 c2 c3
        obtain ⟨c0, c1, c2, c3⟩ := box2 hb2
        clear hb hb2
        go_wp2_with fail
        refine (Cells_yes _ _ _ _ K _ HNa HNb HKN).mono ?_
        rintro e w3 ⟨g3, rfl, hb, hg3, hl⟩
        have hb3 := HB2.out.trans (hb.mono HB2.out.size)
        have HB3 : Hid (Below _ _ w3) := hb3
        have HL3 : Hid (lies w3 g1 _ _ _) := lies_later HL2.out hb
        have HN3 : Hid (lies w3 g3 _ _ _) := hl
        have HM3 : Hid (lies w3 g2 _ _ _) := lies_later HM2.out hb
        clear c0 c1 c2 c3
        obtain ⟨c0, c1, c2, c3⟩ := box2 hb3
        clear hb hb3 hl
        go_wp2_with fail
        refine (Cells_yes _ _ _ _ K _ HOa HOb HKO).mono ?_
        rintro e w4 ⟨g4, rfl, hb, hg4, hl⟩
        have hb4 := HB3.out.trans (hb.mono HB3.out.size)
        have HB4 : Hid (Below _ _ w4) := hb4
        have HL4 : Hid (lies w4 g1 _ _ _) := lies_later HL3.out hb
        have HN4 : Hid (lies w4 g3 _ _ _) := lies_later HN3.out hb
        have HO4 : Hid (lies w4 g4 _ _ _) := hl
        have HM4 : Hid (lies w4 g2 _ _ _) := lies_later HM3.out hb
        clear hb hb4 hl c0 c1 c2 c3
        go_wp2_with fail
        refine (lineLives_any _).mono ?_
        rintro e w5 ⟨rfl, hb⟩
        have hb5 := HB4.out.trans (hb.mono HB4.out.size)
        have HB5 : Hid (Below _ _ w5) := hb5
        have HL5 : Hid (lies w5 g1 _ _ _) := lies_later HL4.out hb
        have HN5 : Hid (lies w5 g3 _ _ _) := lies_later HN4.out hb
        have HO5 : Hid (lies w5 g4 _ _ _) := lies_later HO4.out hb
        have HM5 : Hid (lies w5 g2 _ _ _) := lies_later HM4.out hb
        obtain ⟨c0, c1, c2, c3⟩ := box2 hb5
        clear hb hb5 HB1 HB2 HB3 HB4 HL1 HL2 HL3 HL4 HN3 HN4 HO4 HM2 HM3 HM4 
        go_wp2_with fail
        clear c0 c1 c2 c3
        go_loopw [159] (fun i wr => ∃ k : Nat, k ≤ K + 1 ∧ i = .int .i64 k ∧ Below w5.heap.size w5 wr) (fun i _ => K + 1 - (intOf i).toNat)
        case atStart => exact ⟨0, by omega, rfl, Below.refl _ _⟩
        case round =>
          obtain ⟨k, hk, rfl, R⟩ := hrel
          have HR : Hid (Below w5.heap.size w5 wr) := R
          by_cases hlt : k < K + 1
          · obtain ⟨ca, cb⟩ := (lies_later HL5.out R).2 k hlt
            obtain ⟨na, nb⟩ := (lies_later HN5.out R).2 k hlt
            obtain ⟨oa, ob⟩ := (lies_later HO5.out R).2 k hlt
            obtain ⟨X, hX⟩ : ∃ X, bt x0 x1 k K = X := ⟨_, rfl⟩
            obtain ⟨Y, hY⟩ : ∃ Y, bt y0 y1 k K = Y := ⟨_, rfl⟩
            have bX := bt_bd (f := x0) (t := x1) (k := k) (n := K) (M := 1000) (by omega) (by omega) (by omega) (by omega) (by omega) (by omega)
            have bY := bt_bd (f := y0) (t := y1) (k := k) (n := K) (M := 1000) (by omega) (by omega) (by omega) (by omega) (by omega) (by omega)
            rw [hX] at bX
            rw [hY] at bY
            obtain ⟨b0, b1⟩ := bX
            obtain ⟨b2, b3⟩ := bY
            simp only [hX] at ca
            simp only [hY] at cb
            simp only [bt_neg _ _ _ _ (show (0 : Int) ≤ (K : Int) by omega), hX] at na
            simp only [hY] at nb
            simp only [hY] at oa
            simp only [hX] at ob
            have k1 : g1 < wr.heap.size := (lies_later HL5.out R).1
            have k3 : g3 < wr.heap.size := (lies_later HN5.out R).1
            have k4 : g4 < wr.heap.size := (lies_later HO5.out R).1
            obtain ⟨ma, mb⟩ := (lies_later HM5.out R).2 k hlt
            simp only [bt_move, hX] at ma
            simp only [bt_move, hY] at mb
            have k2 : g2 < wr.heap.size := (lies_later HM5.out R).1
            have bm := bt_bd (f := x0 + a2) (t := x1 + a2) (k := k) (n := K) (M := 1000) (by omega) (by omega) (by omega) (by omega) (by omega) (by omega)
            have bn := bt_bd (f := y0 + a3) (t := y1 + a3) (k := k) (n := K) (M := 1000) (by omega) (by omega) (by omega) (by omega) (by omega) (by omega)
            rw [bt_move, hX] at bm
            rw [bt_move, hY] at bn
            have q3 : IntKind.i64.wrap (X + a2) = X + a2 := wrp _ (by omega) (by omega)
            have q4 : IntKind.i64.wrap (Y + a3) = Y + a3 := wrp _ (by omega) (by omega)
            clear bm bn
            have q1 : IntKind.i64.wrap (-X) = -X := wrp _ (by omega) (by omega)
            have t0 : (0 : Int) ≤ (k : Int) := by omega
            have t1 : (k : Int) < (K : Int) + 1 := by omega
            clear hX hY R
            go_wp2_with fail
            go_quiet (fail)
            go_wp2_with fail
            go_quiet (fail)
            go_wp2_with fail
            go_roundw
            case rel => exact ⟨k + 1, by omega, by go_num, below_drewN (HR.out.alloc HR.out.size _) _⟩
            case measure => simp [intOf]; omega
          · clear R
            go_wp2_with fail
            go_ret
            exact ⟨rfl, (((Below.refl _ _).alloc (Nat.le_refl _) _).alloc (by simp) _).trans ((HB5.out.trans (HR.out.mono HB5.out.size)).mono (by simp; omega))⟩
    · have HM : Hid (near (wrap64 (x0 + a2)) (wrap64 (y0 + a3)) = false ∨ near (wrap64 (x1 + a2)) (wrap64 (y1 + a3)) = false) := by
        show _ ∨ _
        cases a : near (wrap64 (x0 + a2)) (wrap64 (y0 + a3)) <;> cases b : near (wrap64 (x1 + a2)) (wrap64 (y1 + a3)) <;> simp_all
      clear mv bd2 bd3
      by_cases sm : x1 - x0 = y1 - y0
      · skip
        go_enter Try.func6, Try.ntmps6
        go_wp2_with fail
        refine (Cells_yes _ _ _ _ K _ H G HK).mono ?_
        rintro e w1 ⟨g1, rfl, hb, hg1, hl⟩
        have HB1 : Hid (Below _ _ w1) := hb
        have HL1 : Hid (lies w1 g1 _ _ _) := hl
        obtain ⟨c0, c1, c2, c3⟩ := box2 hb
        clear hb hl
        go_wp2_with fail
        refine (Cells_no _ _ _ _ _ HM).mono ?_
        rintro e w2 ⟨rfl, hb⟩
        have hb2 := HB1.out.trans (hb.mono HB1.out.size)
        have HB2 : Hid (Below _ _ w2) := hb2
        have HL2 : Hid (lies w2 g1 _ _ _) := lies_later HL1.out hb
        clear c0 c1 c2 c3
        obtain ⟨c0, c1, c2, c3⟩ := box2 hb2
        clear hb hb2
        go_wp2_with fail
        refine (Cells_yes _ _ _ _ K _ HNa HNb HKN).mono ?_
        rintro e w3 ⟨g3, rfl, hb, hg3, hl⟩
        have hb3 := HB2.out.trans (hb.mono HB2.out.size)
        have HB3 : Hid (Below _ _ w3) := hb3
        have HL3 : Hid (lies w3 g1 _ _ _) := lies_later HL2.out hb
        have HN3 : Hid (lies w3 g3 _ _ _) := hl
        clear c0 c1 c2 c3
        obtain ⟨c0, c1, c2, c3⟩ := box2 hb3
        clear hb hb3 hl
        go_wp2_with fail
        refine (Cells_yes _ _ _ _ K _ HOa HOb HKO).mono ?_
        rintro e w4 ⟨g4, rfl, hb, hg4, hl⟩
        have hb4 := HB3.out.trans (hb.mono HB3.out.size)
        have HB4 : Hid (Below _ _ w4) := hb4
        have HL4 : Hid (lies w4 g1 _ _ _) := lies_later HL3.out hb
        have HN4 : Hid (lies w4 g3 _ _ _) := lies_later HN3.out hb
        have HO4 : Hid (lies w4 g4 _ _ _) := hl
        clear hb hb4 hl c0 c1 c2 c3
        go_wp2_with fail
        refine (lineLives_any _).mono ?_
        rintro e w5 ⟨rfl, hb⟩
        have hb5 := HB4.out.trans (hb.mono HB4.out.size)
        have HB5 : Hid (Below _ _ w5) := hb5
        have HL5 : Hid (lies w5 g1 _ _ _) := lies_later HL4.out hb
        have HN5 : Hid (lies w5 g3 _ _ _) := lies_later HN4.out hb
        have HO5 : Hid (lies w5 g4 _ _ _) := lies_later HO4.out hb
        obtain ⟨c0, c1, c2, c3⟩ := box2 hb5
        clear hb hb5 HB1 HB2 HB3 HB4 HL1 HL2 HL3 HL4 HN3 HN4 HO4 
        go_wp2_with fail
        clear c0 c1 c2 c3
        go_loopw [159] (fun i wr => ∃ k : Nat, k ≤ K + 1 ∧ i = .int .i64 k ∧ Below w5.heap.size w5 wr) (fun i _ => K + 1 - (intOf i).toNat)
        case atStart => exact ⟨0, by omega, rfl, Below.refl _ _⟩
        case round =>
          obtain ⟨k, hk, rfl, R⟩ := hrel
          have HR : Hid (Below w5.heap.size w5 wr) := R
          by_cases hlt : k < K + 1
          · obtain ⟨ca, cb⟩ := (lies_later HL5.out R).2 k hlt
            obtain ⟨na, nb⟩ := (lies_later HN5.out R).2 k hlt
            obtain ⟨oa, ob⟩ := (lies_later HO5.out R).2 k hlt
            obtain ⟨X, hX⟩ : ∃ X, bt x0 x1 k K = X := ⟨_, rfl⟩
            obtain ⟨Y, hY⟩ : ∃ Y, bt y0 y1 k K = Y := ⟨_, rfl⟩
            have bX := bt_bd (f := x0) (t := x1) (k := k) (n := K) (M := 1000) (by omega) (by omega) (by omega) (by omega) (by omega) (by omega)
            have bY := bt_bd (f := y0) (t := y1) (k := k) (n := K) (M := 1000) (by omega) (by omega) (by omega) (by omega) (by omega) (by omega)
            rw [hX] at bX
            rw [hY] at bY
            obtain ⟨b0, b1⟩ := bX
            obtain ⟨b2, b3⟩ := bY
            simp only [hX] at ca
            simp only [hY] at cb
            simp only [bt_neg _ _ _ _ (show (0 : Int) ≤ (K : Int) by omega), hX] at na
            simp only [hY] at nb
            simp only [hY] at oa
            simp only [hX] at ob
            have k1 : g1 < wr.heap.size := (lies_later HL5.out R).1
            have k3 : g3 < wr.heap.size := (lies_later HN5.out R).1
            have k4 : g4 < wr.heap.size := (lies_later HO5.out R).1
            have q1 : IntKind.i64.wrap (-X) = -X := wrp _ (by omega) (by omega)
            have t0 : (0 : Int) ≤ (k : Int) := by omega
            have t1 : (k : Int) < (K : Int) + 1 := by omega
            clear hX hY R
            go_wp2_with fail
            go_quiet (fail)
            go_wp2_with fail
            go_quiet (fail)
            go_wp2_with fail
            go_roundw
            case rel => exact ⟨k + 1, by omega, by go_num, below_drewN (HR.out.alloc HR.out.size _) _⟩
            case measure => simp [intOf]; omega
          · clear R
            go_wp2_with fail
            go_ret
            exact ⟨rfl, (((Below.refl _ _).alloc (Nat.le_refl _) _).alloc (by simp) _).trans ((HB5.out.trans (HR.out.mono HB5.out.size)).mono (by simp; omega))⟩
      · skip
        go_enter Try.func6, Try.ntmps6
        go_wp2_with fail
        refine (Cells_yes _ _ _ _ K _ H G HK).mono ?_
        rintro e w1 ⟨g1, rfl, hb, hg1, hl⟩
        have HB1 : Hid (Below _ _ w1) := hb
        have HL1 : Hid (lies w1 g1 _ _ _) := hl
        obtain ⟨c0, c1, c2, c3⟩ := box2 hb
        clear hb hl
        go_wp2_with fail
        refine (Cells_no _ _ _ _ _ HM).mono ?_
        rintro e w2 ⟨rfl, hb⟩
        have hb2 := HB1.out.trans (hb.mono HB1.out.size)
        have HB2 : Hid (Below _ _ w2) := hb2
        have HL2 : Hid (lies w2 g1 _ _ _) := lies_later HL1.out hb
        clear c0 c1 c2 c3
        obtain ⟨c0, c1, c2, c3⟩ := box2 hb2
        clear hb hb2
        go_wp2_with fail
        refine (Cells_yes _ _ _ _ K _ HNa HNb HKN).mono ?_
        rintro e w3 ⟨g3, rfl, hb, hg3, hl⟩
        have hb3 := HB2.out.trans (hb.mono HB2.out.size)
        have HB3 : Hid (Below _ _ w3) := hb3
        have HL3 : Hid (lies w3 g1 _ _ _) := lies_later HL2.out hb
        have HN3 : Hid (lies w3 g3 _ _ _) := hl
        clear c0 c1 c2 c3
        obtain ⟨c0, c1, c2, c3⟩ := box2 hb3
        clear hb hb3 hl
        go_wp2_with fail
        refine (Cells_yes _ _ _ _ K _ HOa HOb HKO).mono ?_
        rintro e w4 ⟨g4, rfl, hb, hg4, hl⟩
        have hb4 := HB3.out.trans (hb.mono HB3.out.size)
        have HB4 : Hid (Below _ _ w4) := hb4
        have HL4 : Hid (lies w4 g1 _ _ _) := lies_later HL3.out hb
        have HN4 : Hid (lies w4 g3 _ _ _) := lies_later HN3.out hb
        have HO4 : Hid (lies w4 g4 _ _ _) := hl
        clear hb hb4 hl c0 c1 c2 c3
        go_wp2_with fail
        refine (lineLives_any _).mono ?_
        rintro e w5 ⟨rfl, hb⟩
        have hb5 := HB4.out.trans (hb.mono HB4.out.size)
        have HB5 : Hid (Below _ _ w5) := hb5
        have HL5 : Hid (lies w5 g1 _ _ _) := lies_later HL4.out hb
        have HN5 : Hid (lies w5 g3 _ _ _) := lies_later HN4.out hb
        have HO5 : Hid (lies w5 g4 _ _ _) := lies_later HO4.out hb
        obtain ⟨c0, c1, c2, c3⟩ := box2 hb5
        clear hb hb5 HB1 HB2 HB3 HB4 HL1 HL2 HL3 HL4 HN3 HN4 HO4 
        go_wp2_with fail
        clear c0 c1 c2 c3
        go_loopw [159] (fun i wr => ∃ k : Nat, k ≤ K + 1 ∧ i = .int .i64 k ∧ Below w5.heap.size w5 wr) (fun i _ => K + 1 - (intOf i).toNat)
        case atStart => exact ⟨0, by omega, rfl, Below.refl _ _⟩
        case round =>
          obtain ⟨k, hk, rfl, R⟩ := hrel
          have HR : Hid (Below w5.heap.size w5 wr) := R
          by_cases hlt : k < K + 1
          · obtain ⟨ca, cb⟩ := (lies_later HL5.out R).2 k hlt
            obtain ⟨na, nb⟩ := (lies_later HN5.out R).2 k hlt
            obtain ⟨oa, ob⟩ := (lies_later HO5.out R).2 k hlt
            obtain ⟨X, hX⟩ : ∃ X, bt x0 x1 k K = X := ⟨_, rfl⟩
            obtain ⟨Y, hY⟩ : ∃ Y, bt y0 y1 k K = Y := ⟨_, rfl⟩
            have bX := bt_bd (f := x0) (t := x1) (k := k) (n := K) (M := 1000) (by omega) (by omega) (by omega) (by omega) (by omega) (by omega)
            have bY := bt_bd (f := y0) (t := y1) (k := k) (n := K) (M := 1000) (by omega) (by omega) (by omega) (by omega) (by omega) (by omega)
            rw [hX] at bX
            rw [hY] at bY
            obtain ⟨b0, b1⟩ := bX
            obtain ⟨b2, b3⟩ := bY
            simp only [hX] at ca
            simp only [hY] at cb
            simp only [bt_neg _ _ _ _ (show (0 : Int) ≤ (K : Int) by omega), hX] at na
            simp only [hY] at nb
            simp only [hY] at oa
            simp only [hX] at ob
            have k1 : g1 < wr.heap.size := (lies_later HL5.out R).1
            have k3 : g3 < wr.heap.size := (lies_later HN5.out R).1
            have k4 : g4 < wr.heap.size := (lies_later HO5.out R).1
            have q1 : IntKind.i64.wrap (-X) = -X := wrp _ (by omega) (by omega)
            have t0 : (0 : Int) ≤ (k : Int) := by omega
            have t1 : (k : Int) < (K : Int) + 1 := by omega
            clear hX hY R
            go_wp2_with fail
            go_quiet (fail)
            go_wp2_with fail
            go_quiet (fail)
            go_wp2_with fail
            go_roundw
            case rel => exact ⟨k + 1, by omega, by go_num, below_drewN (HR.out.alloc HR.out.size _) _⟩
            case measure => simp [intOf]; omega
          · clear R
            go_wp2_with fail
            go_ret
            exact ⟨rfl, (((Below.refl _ _).alloc (Nat.le_refl _) _).alloc (by simp) _).trans ((HB5.out.trans (HR.out.mono HB5.out.size)).mono (by simp; omega))⟩
  · have HN : Hid (near x0 y0 = false ∨ near x1 y1 = false) := by
      cases a : near x0 y0 <;> cases b : near x1 y1 <;> simp_all [Hid]
    clear h w0x w0y w1x w1y w2 w3
    go_enter Try.func6, Try.ntmps6
    go_wp2_with fail
    refine (Cells_no _ _ _ _ _ HN).mono ?_
    rintro e w1 ⟨rfl, hb⟩
    have HB1 : Hid (Below _ _ w1) := hb
    obtain ⟨c0, c1, c2, c3⟩ := box2 hb
    clear hb
    go_wp2_with fail
    refine (Cells_some _ _ _ _ _).mono ?_
    rintro e w2 ⟨ao2, n2, cp2, e2, rfl, hb⟩
    have hb2 := HB1.out.trans (hb.mono HB1.out.size)
    have HB2 : Hid (Below _ _ w2) := hb2
    clear c0 c1 c2 c3
    obtain ⟨c0, c1, c2, c3⟩ := box2 hb2
    clear hb hb2
    go_wp2_with fail
    refine (Cells_some _ _ _ _ _).mono ?_
    rintro e w3 ⟨ao3, n3, cp3, e3, rfl, hb⟩
    have hb3 := HB2.out.trans (hb.mono HB2.out.size)
    have HB3 : Hid (Below _ _ w3) := hb3
    clear c0 c1 c2 c3
    obtain ⟨c0, c1, c2, c3⟩ := box2 hb3
    clear hb hb3
    go_wp2_with fail
    refine (Cells_some _ _ _ _ _).mono ?_
    rintro e w4 ⟨ao4, n4, cp4, e4, rfl, hb⟩
    have hb4 := HB3.out.trans (hb.mono HB3.out.size)
    have HB4 : Hid (Below _ _ w4) := hb4
    clear c0 c1 c2 c3 hb hb4
    go_wp2_with fail
    refine (lineLives_any _).mono ?_
    rintro e w5 ⟨rfl, hb⟩
    have HB5 : Hid (Below _ _ w5) := HB4.out.trans (hb.mono HB4.out.size)
    clear hb
    go_wp2_with fail
    refine (lineLives_any _).mono ?_
    rintro e w6 ⟨rfl, hb⟩
    have HB6 : Hid (Below _ _ w6) := HB5.out.trans (hb.mono HB5.out.size)
    clear hb
    go_wp2_with fail
    go_ret
    exact ⟨rfl, (((Below.refl _ _).alloc (Nat.le_refl _) _).alloc (by simp) _).trans (HB6.out.mono (by simp; omega))⟩

set_option maxRecDepth 100000 in
theorem lifted (os : Os) (started : os.Started) (H : Type) (enc : TypeId × Value → H) :
    ReturnsInHanded {} Try.checked os 6 .any (Rows.lineMovedSpec.pre6 enc Try.prog Try.f6 Rows.lineMovedRow.domain false) (Rows.lineMovedSpec.post enc Try.prog Try.f6 false true false false) := by
  refine returnsInHanded_of_change (C := Try.checked) own started (by kernel_rfl) Try.func6
    (ChangeSpec.witness6 (enc := enc) (C := Try.checked) false ⟨#[], #[.agg #[.int .i64 0, .int .i64 0], .agg #[.int .i64 0, .int .i64 0], .int .i64 0, .int .i64 0], []⟩ 8 (by kernel_rfl) (by kernel_rfl) (by kernel_rfl) (by kernel_rfl)) ?_
  intro W base args ds gs before hval0 hW hcnd _
  have hval : ∀ (j : Nat) t v, Try.f6.params[j]? = some t → args[j]? = some v → Value.okWide Try.prog W .any base t v := hval0
  have hW' := hW
  obtain ⟨p, q, hA0, hV, rfl, hfz, hnd⟩ := hW
  have hA : DataW.TrodAll enc Try.prog W 0 (fun _ => true) true Try.f6.params.toList args.toList ds p := hA0
  rw [Try.params6] at hA hval
  obtain ⟨v0, vs0, d0, ds0, p0, q0, hargs, rfl, rfl, h0, r0⟩ := trodAll_cons hA
  obtain ⟨v1, vs1, d1, ds1, p1, q1, rfl, rfl, rfl, h1, r1⟩ := trodAll_cons r0
  obtain ⟨v2, vs2, d2, ds2, p2, q2, rfl, rfl, rfl, h2, r2⟩ := trodAll_cons r1
  obtain ⟨v3, vs3, d3, ds3, p3, q3, rfl, rfl, rfl, h3, r3⟩ := trodAll_cons r2
  obtain ⟨rfl, rfl, rfl⟩ := trodAll_nil r3
  obtain rfl : args = #[v0, v1, v2, v3] := by cases args; simp_all
  obtain ⟨rfl, rfl⟩ := trodVars_none hV
  obtain ⟨x0, y0, rfl, rfl, rfl, w0x, w0y⟩ := open_two Try.underlying23 Try.underlying3 Try.underlying3 rfl rfl (by kernel_rfl) (by kernel_rfl) (by kernel_rfl) (hval 0 23 v0 rfl rfl) h0
  obtain ⟨x1, y1, rfl, rfl, rfl, w1x, w1y⟩ := open_two Try.underlying23 Try.underlying3 Try.underlying3 rfl rfl (by kernel_rfl) (by kernel_rfl) (by kernel_rfl) (hval 1 23 v1 rfl rfl) h1
  obtain ⟨a2, rfl, rfl, rfl, w2⟩ := open_int Try.underlying3 (hval 2 3 v2 rfl rfl) h2
  obtain ⟨a3, rfl, rfl, rfl, w3⟩ := open_int Try.underlying3 (hval 3 3 v3 rfl rfl) h3
  clear hA0 hval0
  refine (walk x0 y0 x1 y1 a2 a3 w0x w0y w1x w1y w2 w3 W).mono fun e W' ⟨he, hg⟩ => ?_
  subst he
  exact ⟨_, rfl, law_post (by kernel_rfl) (by kernel_rfl) rfl (by kernel_rfl) Try.underlying4 hW' rfl hg⟩

theorem over : Rows.lineMovedRow.holds Try.pinned (OpenSpec.ofChange Rows.lineMovedSpec) :=
  OpenClaim.holds_of_wide 6 Try.f6 rfl rfl rfl rfl rfl rfl rfl ⟨rfl, rfl, rfl, rfl, rfl⟩ rfl rfl rfl rfl rfl (by kernel_rfl) Try.func6 (by kernel_rfl)
    (of_decide_eq_true (by kernel_rfl)) (by unfold Func.isWrapper; first | (rw [if_pos (by decide +kernel)]; kernel_rfl) | (rw [if_neg (by decide +kernel)]; exact ⟨rfl, rfl⟩))
    (fun os started H enc _ => lifted os started H enc)

theorem proved : Rows.LineMovedSaid :=
  over
end Go.Proofs.Ytbedniajkcgaeaa.lineMoved

namespace Go.Proofs.Ytbedniajkcgaeaa
/-- For every two cells and every way by which they are moved the law LineMoved returns true: a line that is moved, turned over, or mirrored, has its cells so. -/
theorem lineMoved_holds : Rows.LineMovedSaid := lineMoved.proved
#print axioms lineMoved_holds
end Go.Proofs.Ytbedniajkcgaeaa
