/- For every two cells the law LineNear returns true: no cell of a line is farther than half a cell from where the line is straight. -/
import Derived.Test.YtbedniajkcgaeaaRows
import Derived.Test.YtbedniajkcgaeaaPost
import Derived.Test.YtbedniajkcgaeaaCon
import Derived.Test.YtbedniajkcgaeaaCells
import Derived.WalkKit
import Derived.ProofKit
import Derived.OpenShut
namespace Go.Proofs.Ytbedniajkcgaeaa.lineNear
open Go.ChangeShapes Go.WideShapes Go.ChangeAt Go.RowKit
set_option linter.unusedVariables false

theorem own : ownKnob Try.prog.godebug = none := by kernel_rfl

theorem near_cases (x y u v : Int) : (near x y = true ∧ near u v = true) ∨ (near x y = false ∨ near u v = false) := by
  cases near x y <;> cases near u v <;> simp
theorem run_max4 {P : Program} (w : World) (ts : Array TypeId) (t : TypeId) (k k1 k2 k3 : IntKind) (x y z u : Int) : (Builtin.max_ ts t #[.int k x, .int k1 y, .int k2 z, .int k3 u]).run P w = .ok (.int k (mx4 x y z u)) w := by
  have e : ∀ a b : Int, (if b > a then b else a) = mx a b := fun a b => by unfold mx; omega
  simp [Builtin.max_, Builtin.max2, mx4]
  simp only [← e]

set_option maxHeartbeats 4000000 in
theorem walk (x0 y0 : Int) (x1 y1 : Int) (w0x : (Lit.int .i64 x0).wf = true) (w0y : (Lit.int .i64 y0).wf = true) (w1x : (Lit.int .i64 x1).wf = true) (w1y : (Lit.int .i64 y1).wf = true) (w : World) :
    Calls Try.prog 5 #[.agg #[.int .i64 x0, .int .i64 y0], .agg #[.int .i64 x1, .int .i64 y1]] w fun e w' => e = .returned (.bool true) ∧ Below w.heap.size w w' := by
  clear w0x w0y w1x w1y
  rcases near_cases x0 y0 x1 y1 with ⟨h, g⟩ | h
  · have H : Hid (near x0 y0 = true) := h
    have G : Hid (near x1 y1 = true) := g
    have h' := near_yes h
    have g' := near_yes g
    obtain ⟨h0, h1, h2, h3⟩ := h'
    obtain ⟨g0, g1, g2, g3⟩ := g'
    have kb := kg_bd h g
    obtain ⟨K, hK⟩ : ∃ K : Nat, kg x0 y0 x1 y1 = K := ⟨(kg x0 y0 x1 y1).toNat, by omega⟩
    have HK : Hid (kg x0 y0 x1 y1 = K) := hK
    rw [hK] at kb
    clear h g hK
    have m4 := @run_max4 Try.prog
    have m5 : mx4 (x1 - x0) (-(x1 - x0)) (y1 - y0) (-(y1 - y0)) = K := by rw [mx4_kg]; exact HK.out
    go_enter Try.func5, Try.ntmps5
    go_wp2_with fail
    refine (Cells_yes _ _ _ _ K _ H G HK).mono ?_
    rintro e w1 ⟨g, rfl, hb, hg, hl⟩
    have HB1 : Hid (Below _ _ w1) := hb
    have HL1 : Hid (lies w1 g _ _ _) := hl
    clear hb hl
    go_wp2_with fail
    refine (lineLives_any _).mono ?_
    rintro e w2 ⟨rfl, hb⟩
    have hb2 := HB1.out.trans (hb.mono HB1.out.size)
    have HL2 : Hid (lies w2 g _ _ _) := lies_later HL1.out hb
    have HB2 : Hid (Below _ _ w2) := hb2
    obtain ⟨c0, c1, c2, c3⟩ := box2 hb2
    clear hb hb2 HB1 HL1
    go_wp2_with fail
    go_quiet (fail)
    go_wp2_with fail
    clear m4 m5 c0 c1 c2 c3
    go_loopw [45] (fun i wr => ∃ k : Nat, k ≤ K + 1 ∧ i = .int .i64 k ∧ Below w2.heap.size w2 wr) (fun i _ => K + 1 - (intOf i).toNat)
    case atStart => exact ⟨0, by omega, rfl, below_drewN (Below.refl _ _) _⟩
    case round =>
      obtain ⟨k, hk, rfl, R⟩ := hrel
      have HR : Hid (Below w2.heap.size w2 wr) := R
      by_cases hlt : k < K + 1
      · obtain ⟨c0, c1, c2, c3⟩ := box2 (HB2.out.trans (R.mono HB2.out.size))
        obtain ⟨ca, cb⟩ := (lies_later HL2.out R).2 k hlt
        obtain ⟨X, hX⟩ : ∃ X, bt x0 x1 k K = X := ⟨_, rfl⟩
        obtain ⟨Y, hY⟩ : ∃ Y, bt y0 y1 k K = Y := ⟨_, rfl⟩
        obtain ⟨b0, b1, b2, b3, p0, p1, q0, q1, o0, o1⟩ := off_ok x0 y0 x1 y1 k K h0 h1 h2 h3 g0 g1 g2 g3 (by omega) (by omega) HK.out X Y hX hY
        simp only [hX] at ca
        simp only [hY] at cb
        have hgr : g < wr.heap.size := (lies_later HL2.out R).1
        have hwr : w.heap.size + 1 < wr.heap.size := by have := R.size; have := HB2.out.size; simp at this; omega
        have l0 : w.heap.size < wr.heap.size := by omega
        clear hX hY R
        go_wp2_with fail
        all_goals
          go_roundw
          case rel => exact ⟨k + 1, by omega, by go_num, HR.out.alloc HR.out.size _⟩
          case measure => simp [intOf]; omega
      · clear R
        go_wp2_with fail
        go_ret
        exact ⟨rfl, (((Below.refl _ _).alloc (Nat.le_refl _) _).alloc (by simp) _).trans ((HB2.out.trans (HR.out.mono HB2.out.size)).mono (by simp; omega))⟩
  · go_enter Try.func5, Try.ntmps5
    go_wp2_with fail
    refine (Cells_no _ _ _ _ _ h).mono ?_
    rintro e w1 ⟨rfl, hb⟩
    have HB1 : Hid (Below _ _ w1) := hb
    clear hb h
    go_wp2_with fail
    refine (lineLives_any _).mono ?_
    rintro e w2 ⟨rfl, hb⟩
    have HB2 : Hid (Below _ _ w2) := HB1.out.trans (hb.mono HB1.out.size)
    clear hb
    go_wp2_with fail
    refine (lineLives_any _).mono ?_
    rintro e w3 ⟨rfl, hb⟩
    have HB3 : Hid (Below _ _ w3) := HB2.out.trans (hb.mono HB2.out.size)
    clear hb
    go_wp2_with fail
    go_ret
    exact ⟨rfl, (((Below.refl _ _).alloc (Nat.le_refl _) _).alloc (by simp) _).trans (HB3.out.mono (by simp; omega))⟩

set_option maxRecDepth 100000 in
theorem lifted (os : Os) (started : os.Started) (H : Type) (enc : TypeId × Value → H) :
    ReturnsInHanded {} Try.checked os 5 .any (Rows.lineNearSpec.pre6 enc Try.prog Try.f5 Rows.lineNearRow.domain false) (Rows.lineNearSpec.post enc Try.prog Try.f5 false true false false) := by
  refine returnsInHanded_of_change (C := Try.checked) own started (by kernel_rfl) Try.func5
    (ChangeSpec.witness6 (enc := enc) (C := Try.checked) false ⟨#[], #[.agg #[.int .i64 0, .int .i64 0], .agg #[.int .i64 0, .int .i64 0]], []⟩ 8 (by kernel_rfl) (by kernel_rfl) (by kernel_rfl) (by kernel_rfl)) ?_
  intro W base args ds gs before hval0 hW hcnd _
  have hval : ∀ (j : Nat) t v, Try.f5.params[j]? = some t → args[j]? = some v → Value.okWide Try.prog W .any base t v := hval0
  have hW' := hW
  obtain ⟨p, q, hA0, hV, rfl, hfz, hnd⟩ := hW
  have hA : DataW.TrodAll enc Try.prog W 0 (fun _ => true) true Try.f5.params.toList args.toList ds p := hA0
  rw [Try.params5] at hA hval
  obtain ⟨v0, vs0, d0, ds0, p0, q0, hargs, rfl, rfl, h0, r0⟩ := trodAll_cons hA
  obtain ⟨v1, vs1, d1, ds1, p1, q1, rfl, rfl, rfl, h1, r1⟩ := trodAll_cons r0
  obtain ⟨rfl, rfl, rfl⟩ := trodAll_nil r1
  obtain rfl : args = #[v0, v1] := by cases args; simp_all
  obtain ⟨rfl, rfl⟩ := trodVars_none hV
  obtain ⟨x0, y0, rfl, rfl, rfl, w0x, w0y⟩ := open_two Try.underlying23 Try.underlying3 Try.underlying3 rfl rfl (by kernel_rfl) (by kernel_rfl) (by kernel_rfl) (hval 0 23 v0 rfl rfl) h0
  obtain ⟨x1, y1, rfl, rfl, rfl, w1x, w1y⟩ := open_two Try.underlying23 Try.underlying3 Try.underlying3 rfl rfl (by kernel_rfl) (by kernel_rfl) (by kernel_rfl) (hval 1 23 v1 rfl rfl) h1
  clear hA0 hval0
  refine (walk x0 y0 x1 y1 w0x w0y w1x w1y W).mono fun e W' ⟨he, hg⟩ => ?_
  subst he
  exact ⟨_, rfl, law_post (by kernel_rfl) (by kernel_rfl) rfl (by kernel_rfl) Try.underlying4 hW' rfl hg⟩

theorem over : Rows.lineNearRow.holds Try.pinned (OpenSpec.ofChange Rows.lineNearSpec) :=
  OpenClaim.holds_of_wide 5 Try.f5 rfl rfl rfl rfl rfl rfl rfl ⟨rfl, rfl, rfl, rfl, rfl⟩ rfl rfl rfl rfl rfl (by kernel_rfl) Try.func5 (by kernel_rfl)
    (of_decide_eq_true (by kernel_rfl)) (by unfold Func.isWrapper; first | (rw [if_pos (by decide +kernel)]; kernel_rfl) | (rw [if_neg (by decide +kernel)]; exact ⟨rfl, rfl⟩))
    (fun os started H enc _ => lifted os started H enc)

theorem proved : Rows.LineNearSaid :=
  over
end Go.Proofs.Ytbedniajkcgaeaa.lineNear

namespace Go.Proofs.Ytbedniajkcgaeaa
/-- For every two cells the law LineNear returns true: no cell of a line is farther than half a cell from where the line is straight. -/
theorem lineNear_holds : Rows.LineNearSaid := lineNear.proved
#print axioms lineNear_holds
end Go.Proofs.Ytbedniajkcgaeaa
