/- For every two cells the law LineWay returns true: a line goes from the one to the other by a king's steps, is no longer than it must be, and comes nearer with each of its cells. -/
import Derived.Test.YtbedniajkcgaeaaRows
import Derived.Test.YtbedniajkcgaeaaPost
import Derived.Test.YtbedniajkcgaeaaCon
import Derived.Test.YtbedniajkcgaeaaCells
import Derived.WalkKit
import Derived.ProofKit
import Derived.OpenShut
namespace Go.Proofs.Ytbedniajkcgaeaa.lineWay
open Go.ChangeShapes Go.WideShapes Go.ChangeAt Go.RowKit
set_option linter.unusedVariables false

theorem own : ownKnob Try.prog.godebug = none := by kernel_rfl

attribute [local go_sem ↓] Go.wp_at_zero Go.wp_at_succ
theorem wrp (n : Int) (h0 : -9223372036854775808 ≤ n) (h1 : n ≤ 9223372036854775807) : IntKind.i64.wrap n = n := by
  by_cases c : 0 ≤ n
  · have hm : n % 18446744073709551616 = n := by omega
    unfold IntKind.wrap
    simp [IntKind.bits, IntKind.signed, hm]; omega
  · have hm : n % 18446744073709551616 = n + 18446744073709551616 := by omega
    unfold IntKind.wrap
    simp [IntKind.bits, IntKind.signed, hm]; omega
theorem near_cases (x y u v : Int) : (near x y = true ∧ near u v = true) ∨ (near x y = false ∨ near u v = false) := by
  cases near x y <;> cases near u v <;> simp

set_option maxHeartbeats 4000000 in
theorem walk (x0 y0 : Int) (x1 y1 : Int) (w0x : (Lit.int .i64 x0).wf = true) (w0y : (Lit.int .i64 y0).wf = true) (w1x : (Lit.int .i64 x1).wf = true) (w1y : (Lit.int .i64 y1).wf = true) (w : World) :
    Calls Try.prog 4 #[.agg #[.int .i64 x0, .int .i64 y0], .agg #[.int .i64 x1, .int .i64 y1]] w fun e w' => e = .returned (.bool true) ∧ Below w.heap.size w w' := by
  clear w0x w0y w1x w1y
  rcases near_cases x0 y0 x1 y1 with ⟨h, g⟩ | h
  · have H : Hid (near x0 y0 = true) := h
    have G : Hid (near x1 y1 = true) := g
    have kb := kg_bd h g
    obtain ⟨K, hK⟩ : ∃ K : Nat, kg x0 y0 x1 y1 = K := ⟨(kg x0 y0 x1 y1).toNat, by omega⟩
    have HK : Hid (kg x0 y0 x1 y1 = K) := hK
    rw [hK] at kb
    have rb := rook_bd hK
    obtain ⟨R, hR⟩ : ∃ R, ds x0 x1 + ds y0 y1 = R := ⟨_, rfl⟩
    rw [hR] at rb
    clear h g hK
    go_enter Try.func4, Try.ntmps4
    go_wp2_with fail
    refine (Cells_yes _ _ _ _ K _ H G HK).mono ?_
    rintro e w1 ⟨g, rfl, hb, hg, hl⟩
    have HB1 : Hid (Below _ _ w1) := hb
    have HL1 : Hid (lies w1 g _ _ _) := hl
    obtain ⟨c0, c1, c2, c3⟩ := box2 hb
    clear hb hl
    go_wp2_with fail
    refine (Apart_at _ _ _ _ K _ H G HK).mono ?_
    rintro e w2 ⟨rfl, hb⟩
    have hb2 := HB1.out.trans (hb.mono HB1.out.size)
    have HL2 : Hid (lies w2 g _ _ _) := lies_later HL1.out hb
    have HB2 : Hid (Below _ _ w2) := hb2
    clear hb hb2 HB1 HL1 c0 c1 c2 c3
    go_wp2_with fail
    refine (lineLives_any _).mono ?_
    rintro e w3 ⟨rfl, hb⟩
    have hb3 := HB2.out.trans (hb.mono HB2.out.size)
    have HL3 : Hid (lies w3 g _ _ _) := lies_later HL2.out hb
    have HB3 : Hid (Below _ _ w3) := hb3
    obtain ⟨c0, c1, c2, c3⟩ := box2 hb3
    have ca : w3.cell? ⟨g, 0, none⟩ = some (.int .i64 x0) := by have := (HL3.out.2 0 (by omega)).1; simp [bt_zero _ _ _ (show (0 : Int) ≤ (K : Int) by omega)] at this; exact this
    have cb : w3.cell? ⟨g, 1, none⟩ = some (.int .i64 y0) := by have := (HL3.out.2 0 (by omega)).2; simp [bt_zero _ _ _ (show (0 : Int) ≤ (K : Int) by omega)] at this; exact this
    have cc : w3.cell? ⟨g, K * 2, none⟩ = some (.int .i64 x1) := by have := (HL3.out.2 K (by omega)).1; simp [(bt_last HK.out).1] at this; exact this
    have cd : w3.cell? ⟨g, K * 2 + 1, none⟩ = some (.int .i64 y1) := by have := (HL3.out.2 K (by omega)).2; simp [(bt_last HK.out).2] at this; exact this
    have q1 : IntKind.i64.wrap ((K : Int) + 1) = (K : Int) + 1 := wrp _ (by omega) (by omega)
    have q2 : IntKind.i64.wrap (2 * (K : Int)) = 2 * (K : Int) := wrp _ (by omega) (by omega)
    have q3 : decide (R < (K : Int)) = false := by simp; omega
    have q4 : decide (R > 2 * (K : Int)) = false := by simp; omega
    have q5 : decide (2 * (K : Int) < R) = false := by simp; omega
    have q6 : (K : Int) < (K : Int) + 1 := by omega
    have q7 : (0 : Int) ≤ (K : Int) := by omega
    have q8 : (0 : Int) < (K : Int) + 1 := by omega
    clear hb hb3 HB2 HL2
    go_wp2_with fail
    go_quiet (fail)
    go_wp2_with fail
    clear ca cb cc cd c0 c1 c2 c3 q1 q2 q3 q4 q5 q6 q7 q8
    go_loopw [10] (fun i wr => ∃ j : Nat, j ≤ K ∧ i = .int .i64 ((j : Int) + 1) ∧ Below w3.heap.size w3 wr) (fun i _ => K + 1 - (intOf i).toNat)
    case atStart => exact ⟨0, by omega, rfl, below_drewN (Below.refl _ _) _⟩
    case round =>
      obtain ⟨k, hk, rfl, R⟩ := hrel
      have HR : Hid (Below w3.heap.size w3 wr) := R
      by_cases hlt : k < K
      · obtain ⟨c0, c1, c2, c3⟩ := box2 (HB3.out.trans (R.mono HB3.out.size))
        have HL : Hid (lies wr g _ _ _) := lies_later HL3.out R
        obtain ⟨ca, cb⟩ := HL.out.2 k (by omega)
        obtain ⟨cc, cd⟩ := HL.out.2 (k + 1) (by omega)
        obtain ⟨X, hX⟩ : ∃ X, bt x0 x1 k K = X := ⟨_, rfl⟩
        obtain ⟨Y, hY⟩ : ∃ Y, bt y0 y1 k K = Y := ⟨_, rfl⟩
        obtain ⟨U, hU⟩ : ∃ U, bt x0 x1 ((k + 1 : Nat) : Int) K = U := ⟨_, rfl⟩
        obtain ⟨V, hV⟩ : ∃ V, bt y0 y1 ((k + 1 : Nat) : Int) K = V := ⟨_, rfl⟩
        have N0 : Hid (near X Y = true) := by rw [← hX, ← hY]; exact near_bt H.out G.out (by omega) (by omega)
        have N1 : Hid (near U V = true) := by rw [← hU, ← hV]; exact near_bt H.out G.out (by omega) (by omega)
        have K1 : Hid (kg X Y U V = (1 : Nat)) := by rw [← hU, ← hV, ← hX, ← hY]; exact way_step HK.out (by omega)
        have K2 : Hid (kg U V x1 y1 = ((K - (k + 1) : Nat) : Int)) := by rw [← hU, ← hV, show ((K - (k + 1) : Nat) : Int) = (K : Int) - ((k + 1 : Nat) : Int) by omega]; exact way_left HK.out (by omega) (by omega) (by omega)
        simp only [hX] at ca
        simp only [hY] at cb
        simp only [hU] at cc
        simp only [hV] at cd
        have hgr : g < wr.heap.size := HL.out.1
        have hwr : w.heap.size + 1 < wr.heap.size := by have := R.size; have := HB3.out.size; simp at this; omega
        have l0 : w.heap.size < wr.heap.size := by omega
        have t1 : IntKind.i64.wrap ((k : Int) + 1 - 1) = (k : Int) := by rw [show (k : Int) + 1 - 1 = k by omega]; exact wrp _ (by omega) (by omega)
        have t2 : IntKind.i64.wrap (k : Int) = (k : Int) := wrp _ (by omega) (by omega)
        have t3 : (0 : Int) ≤ (k : Int) := by omega
        have t4 : (k : Int) < (K : Int) + 1 := by omega
        have t5 : (0 : Int) ≤ (k : Int) + 1 := by omega
        have t6 : (k : Int) + 1 < (K : Int) + 1 := by omega
        have t7 : ((k : Int) + 1).toNat = k + 1 := by omega
        clear hX hY hU hV R HL
        go_wp2_with fail
        go_region_held3 (fun w' => w'.cell? ⟨g, k * 2, none⟩ = some (.int .i64 X) ∧ w'.cell? ⟨g, k * 2 + 1, none⟩ = some (.int .i64 Y) ∧ w'.cell? ⟨g, (k + 1) * 2, none⟩ = some (.int .i64 U) ∧ w'.cell? ⟨g, (k + 1) * 2 + 1, none⟩ = some (.int .i64 V)) (first | go_keep | exact ⟨(ha.cell (p := ⟨g, k * 2, none⟩) hgr).trans ca, (ha.cell (p := ⟨g, k * 2 + 1, none⟩) hgr).trans cb, (ha.cell (p := ⟨g, (k + 1) * 2, none⟩) hgr).trans cc, (ha.cell (p := ⟨g, (k + 1) * 2 + 1, none⟩) hgr).trans cd⟩)
          (first | (go_at_call 7; refine (Apart_at _ _ _ _ 1 _ N0 N1 K1).mono ?_; rintro e wa ⟨rfl, ha⟩))
        have hra : Below w3.heap.size w3 wa := HR.out.drew.trans (ha.mono HR.out.size)
        have HRA : Hid (Below w3.heap.size w3 wa) := hra
        have ca' : wa.cell? ⟨g, (k + 1) * 2, none⟩ = some (.int .i64 U) := (ha.cell (p := ⟨g, (k + 1) * 2, none⟩) hgr).trans cc
        have cb' : wa.cell? ⟨g, (k + 1) * 2 + 1, none⟩ = some (.int .i64 V) := (ha.cell (p := ⟨g, (k + 1) * 2 + 1, none⟩) hgr).trans cd
        have cc' : wa.cell? ⟨w.heap.size + 1, 0, none⟩ = some (.int .i64 x1) := (ha.cell (p := ⟨w.heap.size + 1, 0, none⟩) hwr).trans c2
        have cd' : wa.cell? ⟨w.heap.size + 1, 1, none⟩ = some (.int .i64 y1) := (ha.cell (p := ⟨w.heap.size + 1, 1, none⟩) hwr).trans c3
        have hgr' : g < wa.heap.size := Nat.lt_of_lt_of_le hgr ha.size
        have hwr' : w.heap.size + 1 < wa.heap.size := Nat.lt_of_lt_of_le hwr ha.size
        clear ca cb cc cd c0 c1 c2 c3 ha hra t1 t2 hgr hwr l0
        go_wp2_with fail
        go_region_held3 (fun w' => w'.cell? ⟨g, (k + 1) * 2, none⟩ = some (.int .i64 U) ∧ w'.cell? ⟨g, (k + 1) * 2 + 1, none⟩ = some (.int .i64 V) ∧ w'.cell? ⟨w.heap.size + 1, 0, none⟩ = some (.int .i64 x1) ∧ w'.cell? ⟨w.heap.size + 1, 1, none⟩ = some (.int .i64 y1)) (first | go_keep | exact ⟨(ha.cell (p := ⟨g, (k + 1) * 2, none⟩) hgr').trans ca', (ha.cell (p := ⟨g, (k + 1) * 2 + 1, none⟩) hgr').trans cb', (ha.cell (p := ⟨w.heap.size + 1, 0, none⟩) hwr').trans cc', (ha.cell (p := ⟨w.heap.size + 1, 1, none⟩) hwr').trans cd'⟩)
          (first | (go_at_call 7; refine (Apart_at _ _ _ _ (K - (k + 1)) _ N1 G K2).mono ?_; rintro e wb ⟨rfl, ha⟩))
        have HRB : Hid (Below w3.heap.size w3 wb) := HRA.out.drew.trans (ha.mono HRA.out.size)
        have u1 : (((K - (k + 1) : Nat) : Int) != (K : Int) - ((k : Int) + 1)) = false := by rw [show ((K - (k + 1) : Nat) : Int) = (K : Int) - ((k : Int) + 1) by omega]; simp
        clear ca' cb' cc' cd' ha
        go_wp2_with fail
        go_roundw
        case rel => exact ⟨k + 1, by omega, by go_num, HRB.out⟩
        case measure => simp [intOf]; omega
      · obtain rfl : k = K := by omega
        clear R
        go_wp2_with fail
        go_ret
        exact ⟨rfl, (((Below.refl _ _).alloc (Nat.le_refl _) _).alloc (by simp) _).trans ((HB3.out.trans (HR.out.mono HB3.out.size)).mono (by simp; omega))⟩
  · have H : Hid (near x0 y0 = false ∨ near x1 y1 = false) := h
    clear h
    go_enter Try.func4, Try.ntmps4
    go_wp2_with fail
    refine (Cells_no _ _ _ _ _ H).mono ?_
    rintro e w1 ⟨rfl, hb⟩
    have HB1 : Hid (Below _ _ w1) := hb
    obtain ⟨c0, c1, c2, c3⟩ := box2 hb
    clear hb
    go_wp2_with fail
    refine (Apart_no _ _ _ _ _ H.out).mono ?_
    rintro e w2 ⟨rfl, hb⟩
    have HB2 : Hid (Below _ _ w2) := HB1.out.trans (hb.mono HB1.out.size)
    clear hb c0 c1 c2 c3
    go_wp2_with fail
    refine (lineLives_any _).mono ?_
    rintro e w3 ⟨rfl, hb⟩
    have HB3 : Hid (Below _ _ w3) := HB2.out.trans (hb.mono HB2.out.size)
    clear hb
    go_wp2_with fail
    refine (lineLives_any _).mono ?_
    rintro e w4 ⟨rfl, hb⟩
    have HB4 : Hid (Below _ _ w4) := HB3.out.trans (hb.mono HB3.out.size)
    clear hb
    go_wp2_with fail
    go_ret
    exact ⟨rfl, (((Below.refl _ _).alloc (Nat.le_refl _) _).alloc (by simp) _).trans (HB4.out.mono (by simp; omega))⟩

set_option maxRecDepth 100000 in
theorem lifted (os : Os) (started : os.Started) (H : Type) (enc : TypeId × Value → H) :
    ReturnsInHanded {} Try.checked os 4 .any (Rows.lineWaySpec.pre6 enc Try.prog Try.f4 Rows.lineWayRow.domain false) (Rows.lineWaySpec.post enc Try.prog Try.f4 false true false false) := by
  refine returnsInHanded_of_change (C := Try.checked) own started (by kernel_rfl) Try.func4
    (ChangeSpec.witness6 (enc := enc) (C := Try.checked) false ⟨#[], #[.agg #[.int .i64 0, .int .i64 0], .agg #[.int .i64 0, .int .i64 0]], []⟩ 8 (by kernel_rfl) (by kernel_rfl) (by kernel_rfl) (by kernel_rfl)) ?_
  intro W base args ds gs before hval0 hW hcnd _
  have hval : ∀ (j : Nat) t v, Try.f4.params[j]? = some t → args[j]? = some v → Value.okWide Try.prog W .any base t v := hval0
  have hW' := hW
  obtain ⟨p, q, hA0, hV, rfl, hfz, hnd⟩ := hW
  have hA : DataW.TrodAll enc Try.prog W 0 (fun _ => true) true Try.f4.params.toList args.toList ds p := hA0
  rw [Try.params4] at hA hval
  obtain ⟨v0, vs0, d0, ds0, p0, q0, hargs, rfl, rfl, h0, r0⟩ := trodAll_cons hA
  obtain ⟨v1, vs1, d1, ds1, p1, q1, rfl, rfl, rfl, h1, r1⟩ := trodAll_cons r0
  obtain ⟨rfl, rfl, rfl⟩ := trodAll_nil r1
  obtain rfl : args = #[v0, v1] := by cases args; simp_all
  obtain ⟨rfl, rfl⟩ := trodVars_none hV
  obtain ⟨x0, y0, rfl, rfl, rfl, w0x, w0y⟩ := open_two Try.underlying23 Try.underlying3 Try.underlying3 rfl rfl (by kernel_rfl) (by kernel_rfl) (by kernel_rfl) (hval 0 23 v0 rfl rfl) h0
  obtain ⟨x1, y1, rfl, rfl, rfl, w1x, w1y⟩ := open_two Try.underlying23 Try.underlying3 Try.underlying3 rfl rfl (by kernel_rfl) (by kernel_rfl) (by kernel_rfl) (hval 1 23 v1 rfl rfl) h1
  clear hA0 hval0
  refine (walk x0 y0 x1 y1 w0x w0y w1x w1y W).mono fun e W' ⟨he, hg⟩ => ?_
  subst he
  exact ⟨_, rfl, law_post (by kernel_rfl) (by kernel_rfl) rfl (by kernel_rfl) Try.underlying4 hW' rfl hg⟩

theorem over : Rows.lineWayRow.holds Try.pinned (OpenSpec.ofChange Rows.lineWaySpec) :=
  OpenClaim.holds_of_wide 4 Try.f4 rfl rfl rfl rfl rfl rfl rfl ⟨rfl, rfl, rfl, rfl, rfl⟩ rfl rfl rfl rfl rfl (by kernel_rfl) Try.func4 (by kernel_rfl)
    (of_decide_eq_true (by kernel_rfl)) (by unfold Func.isWrapper; first | (rw [if_pos (by decide +kernel)]; kernel_rfl) | (rw [if_neg (by decide +kernel)]; exact ⟨rfl, rfl⟩))
    (fun os started H enc _ => lifted os started H enc)

theorem proved : Rows.LineWaySaid :=
  over
end Go.Proofs.Ytbedniajkcgaeaa.lineWay

namespace Go.Proofs.Ytbedniajkcgaeaa
/-- For every two cells the law LineWay returns true: a line goes from the one to the other by a king's steps, is no longer than it must be, and comes nearer with each of its cells. -/
theorem lineWay_holds : Rows.LineWaySaid := lineWay.proved
#print axioms lineWay_holds
end Go.Proofs.Ytbedniajkcgaeaa
