/- For every two cells the law LineSays returns true: Apart and Cells answer what the document says, of lines of at most 120 steps. -/
import Derived.Test.YtbedniajkcgaeaaRows
import Derived.Test.YtbedniajkcgaeaaPost
import Derived.Test.YtbedniajkcgaeaaCon
import Derived.Test.YtbedniajkcgaeaaCells
import Derived.Test.YtbedniajkcgaeaaLineOf
import Derived.WalkKit
import Derived.ProofKit
import Derived.OpenShut
namespace Go.Proofs.Ytbedniajkcgaeaa.lineSays
open Go.ChangeShapes Go.WideShapes Go.ChangeAt Go.RowKit
set_option linter.unusedVariables false

theorem own : ownKnob Try.prog.godebug = none := by kernel_rfl


set_option maxHeartbeats 4000000 in
theorem walk (x0 y0 : Int) (x1 y1 : Int) (w0x : (Lit.int .i64 x0).wf = true) (w0y : (Lit.int .i64 y0).wf = true) (w1x : (Lit.int .i64 x1).wf = true) (w1y : (Lit.int .i64 y1).wf = true) (w : World) :
    Calls Try.prog 3 #[.agg #[.int .i64 x0, .int .i64 y0], .agg #[.int .i64 x1, .int .i64 y1]] w fun e w' => e = .returned (.bool true) ∧ Below w.heap.size w w' := by
  clear w0x w0y w1x w1y
  by_cases h : near x0 y0 = true
  · by_cases g : near x1 y1 = true
    · have H : Hid (near x0 y0 = true) := h
      have G : Hid (near x1 y1 = true) := g
      obtain ⟨h0, h1, h2, h3⟩ := near_yes h
      obtain ⟨g0, g1, g2, g3⟩ := near_yes g
      have kb := kg_bd h g
      have kc := kg_cases x0 y0 x1 y1
      obtain ⟨K, hK⟩ : ∃ K : Nat, kg x0 y0 x1 y1 = K := ⟨(kg x0 y0 x1 y1).toNat, by omega⟩
      have HK : Hid (kg x0 y0 x1 y1 = K) := hK
      rw [hK] at kb kc
      have n1 := ds_nonneg x0 x1
      have n2 := ds_nonneg y0 y1
      obtain ⟨D, hD⟩ : ∃ D, ds x0 x1 = D := ⟨_, rfl⟩
      obtain ⟨E, hE⟩ : ∃ E, ds y0 y1 = E := ⟨_, rfl⟩
      rw [hD] at n1 kc
      rw [hE] at n2 kc
      obtain ⟨kb0, kb1⟩ := kb
      have b1 : D ≤ (K : Int) := by omega
      have b2 : E ≤ (K : Int) := by omega
      clear h g hK
      rcases kc with ⟨rfl, kc⟩ | ⟨rfl, kc⟩
      · by_cases sm : K ≤ 120
        · skip
          go_enter Try.func3, Try.ntmps3
          go_wp2_with fail
          refine (Apart_at _ _ _ _ K _ H G HK).mono ?_
          rintro e w1 ⟨rfl, hb⟩
          have HB1 : Hid (Below _ _ w1) := hb
          obtain ⟨c0, c1, c2, c3⟩ := box2 hb
          clear hb
          go_wp2_with fail
          refine (Cells_yes _ _ _ _ K _ H G HK).mono ?_
          rintro e w2 ⟨g, rfl, hb, hg, hl⟩
          have hb2 := HB1.out.trans (hb.mono HB1.out.size)
          have HB2 : Hid (Below _ _ w2) := hb2
          have HL2 : Hid (lies w2 g _ _ _) := hl
          clear c0 c1 c2 c3
          obtain ⟨c0, c1, c2, c3⟩ := box2 hb2
          clear hb hb2 hl
          go_wp2_with fail
          refine (CellNear_at _ _ _ _ H.out).mono ?_
          rintro e w3 ⟨rfl, hb⟩
          have hb3 := HB2.out.trans (hb.mono HB2.out.size)
          have HB3 : Hid (Below _ _ w3) := hb3
          have HL3 : Hid (lies w3 g _ _ _) := lies_later HL2.out hb
          clear c0 c1 c2 c3
          obtain ⟨c0, c1, c2, c3⟩ := box2 hb3
          clear hb hb3
          go_wp2_with fail
          refine (CellNear_at _ _ _ _ G.out).mono ?_
          rintro e w4 ⟨rfl, hb⟩
          have hb4 := HB3.out.trans (hb.mono HB3.out.size)
          have HB4 : Hid (Below _ _ w4) := hb4
          have HL4 : Hid (lies w4 g _ _ _) := lies_later HL3.out hb
          clear c0 c1 c2 c3
          obtain ⟨c0, c1, c2, c3⟩ := box2 hb4
          clear hb hb4 HB1 HB2 HB3 HL2 HL3
          go_wp2_with fail
          go_quiet ((go_at_call 10; exact Calls.quiet_of_same (Far_any _ _ _ (by omega) (by omega) (by omega) (by omega))))
          go_wp2_with fail
          all_goals
            refine (LineOf_any _ _ _ _ K _ H G HK (by omega)).mono ?_
            rintro e w5 ⟨g5, cp5, rfl, hb, hg5, hl5⟩
            have hb5 := (below_drewN HB4.out nq).trans (hb.mono HB4.out.size)
            have HB5 : Hid (Below _ _ w5) := hb5
            have HE : Hid (Calls Try.prog 11 _ _ _) := equal_any g g5 (K + 1) (K + 1) cp5 _ _ w5 (by omega) (lies_later (lies_later HL4.out (below_drewN (Below.refl _ _) nq)) hb) hl5
            clear hb hb5 hl5 c0 c1 c2 c3
            go_wp2_with fail
            refine (HE.out).mono ?_
            rintro e w6 ⟨rfl, hb⟩
            have HB6 : Hid (Below _ _ w6) := HB5.out.trans (hb.mono HB5.out.size)
            clear hb
            go_wp2_with fail
            go_ret
            exact ⟨rfl, (((Below.refl _ _).alloc (Nat.le_refl _) _).alloc (by simp) _).trans (HB6.out.mono (by simp; omega))⟩
        · skip
          go_enter Try.func3, Try.ntmps3
          go_wp2_with fail
          refine (Apart_at _ _ _ _ K _ H G HK).mono ?_
          rintro e w1 ⟨rfl, hb⟩
          have HB1 : Hid (Below _ _ w1) := hb
          obtain ⟨c0, c1, c2, c3⟩ := box2 hb
          clear hb
          go_wp2_with fail
          refine (Cells_yes _ _ _ _ K _ H G HK).mono ?_
          rintro e w2 ⟨g, rfl, hb, hg, hl⟩
          have hb2 := HB1.out.trans (hb.mono HB1.out.size)
          have HB2 : Hid (Below _ _ w2) := hb2
          have HL2 : Hid (lies w2 g _ _ _) := hl
          clear c0 c1 c2 c3
          obtain ⟨c0, c1, c2, c3⟩ := box2 hb2
          clear hb hb2 hl
          go_wp2_with fail
          refine (CellNear_at _ _ _ _ H.out).mono ?_
          rintro e w3 ⟨rfl, hb⟩
          have hb3 := HB2.out.trans (hb.mono HB2.out.size)
          have HB3 : Hid (Below _ _ w3) := hb3
          have HL3 : Hid (lies w3 g _ _ _) := lies_later HL2.out hb
          clear c0 c1 c2 c3
          obtain ⟨c0, c1, c2, c3⟩ := box2 hb3
          clear hb hb3
          go_wp2_with fail
          refine (CellNear_at _ _ _ _ G.out).mono ?_
          rintro e w4 ⟨rfl, hb⟩
          have hb4 := HB3.out.trans (hb.mono HB3.out.size)
          have HB4 : Hid (Below _ _ w4) := hb4
          have HL4 : Hid (lies w4 g _ _ _) := lies_later HL3.out hb
          clear c0 c1 c2 c3
          obtain ⟨c0, c1, c2, c3⟩ := box2 hb4
          clear hb hb4 HB1 HB2 HB3 HL2 HL3
          go_wp2_with fail
          go_quiet ((go_at_call 10; exact Calls.quiet_of_same (Far_any _ _ _ (by omega) (by omega) (by omega) (by omega))))
          go_wp2_with fail
          all_goals
            go_ret
            exact ⟨rfl, below_drewN ((((Below.refl _ _).alloc (Nat.le_refl _) _).alloc (by simp) _).trans (HB4.out.mono (by simp; omega))) _⟩
      · by_cases sm : K ≤ 120
        · skip
          go_enter Try.func3, Try.ntmps3
          go_wp2_with fail
          refine (Apart_at _ _ _ _ K _ H G HK).mono ?_
          rintro e w1 ⟨rfl, hb⟩
          have HB1 : Hid (Below _ _ w1) := hb
          obtain ⟨c0, c1, c2, c3⟩ := box2 hb
          clear hb
          go_wp2_with fail
          refine (Cells_yes _ _ _ _ K _ H G HK).mono ?_
          rintro e w2 ⟨g, rfl, hb, hg, hl⟩
          have hb2 := HB1.out.trans (hb.mono HB1.out.size)
          have HB2 : Hid (Below _ _ w2) := hb2
          have HL2 : Hid (lies w2 g _ _ _) := hl
          clear c0 c1 c2 c3
          obtain ⟨c0, c1, c2, c3⟩ := box2 hb2
          clear hb hb2 hl
          go_wp2_with fail
          refine (CellNear_at _ _ _ _ H.out).mono ?_
          rintro e w3 ⟨rfl, hb⟩
          have hb3 := HB2.out.trans (hb.mono HB2.out.size)
          have HB3 : Hid (Below _ _ w3) := hb3
          have HL3 : Hid (lies w3 g _ _ _) := lies_later HL2.out hb
          clear c0 c1 c2 c3
          obtain ⟨c0, c1, c2, c3⟩ := box2 hb3
          clear hb hb3
          go_wp2_with fail
          refine (CellNear_at _ _ _ _ G.out).mono ?_
          rintro e w4 ⟨rfl, hb⟩
          have hb4 := HB3.out.trans (hb.mono HB3.out.size)
          have HB4 : Hid (Below _ _ w4) := hb4
          have HL4 : Hid (lies w4 g _ _ _) := lies_later HL3.out hb
          clear c0 c1 c2 c3
          obtain ⟨c0, c1, c2, c3⟩ := box2 hb4
          clear hb hb4 HB1 HB2 HB3 HL2 HL3
          go_wp2_with fail
          go_quiet ((go_at_call 10; exact Calls.quiet_of_same (Far_any _ _ _ (by omega) (by omega) (by omega) (by omega))))
          go_wp2_with fail
          all_goals
            refine (LineOf_any _ _ _ _ K _ H G HK (by omega)).mono ?_
            rintro e w5 ⟨g5, cp5, rfl, hb, hg5, hl5⟩
            have hb5 := (below_drewN HB4.out nq).trans (hb.mono HB4.out.size)
            have HB5 : Hid (Below _ _ w5) := hb5
            have HE : Hid (Calls Try.prog 11 _ _ _) := equal_any g g5 (K + 1) (K + 1) cp5 _ _ w5 (by omega) (lies_later (lies_later HL4.out (below_drewN (Below.refl _ _) nq)) hb) hl5
            clear hb hb5 hl5 c0 c1 c2 c3
            go_wp2_with fail
            refine (HE.out).mono ?_
            rintro e w6 ⟨rfl, hb⟩
            have HB6 : Hid (Below _ _ w6) := HB5.out.trans (hb.mono HB5.out.size)
            clear hb
            go_wp2_with fail
            go_ret
            exact ⟨rfl, (((Below.refl _ _).alloc (Nat.le_refl _) _).alloc (by simp) _).trans (HB6.out.mono (by simp; omega))⟩
        · skip
          go_enter Try.func3, Try.ntmps3
          go_wp2_with fail
          refine (Apart_at _ _ _ _ K _ H G HK).mono ?_
          rintro e w1 ⟨rfl, hb⟩
          have HB1 : Hid (Below _ _ w1) := hb
          obtain ⟨c0, c1, c2, c3⟩ := box2 hb
          clear hb
          go_wp2_with fail
          refine (Cells_yes _ _ _ _ K _ H G HK).mono ?_
          rintro e w2 ⟨g, rfl, hb, hg, hl⟩
          have hb2 := HB1.out.trans (hb.mono HB1.out.size)
          have HB2 : Hid (Below _ _ w2) := hb2
          have HL2 : Hid (lies w2 g _ _ _) := hl
          clear c0 c1 c2 c3
          obtain ⟨c0, c1, c2, c3⟩ := box2 hb2
          clear hb hb2 hl
          go_wp2_with fail
          refine (CellNear_at _ _ _ _ H.out).mono ?_
          rintro e w3 ⟨rfl, hb⟩
          have hb3 := HB2.out.trans (hb.mono HB2.out.size)
          have HB3 : Hid (Below _ _ w3) := hb3
          have HL3 : Hid (lies w3 g _ _ _) := lies_later HL2.out hb
          clear c0 c1 c2 c3
          obtain ⟨c0, c1, c2, c3⟩ := box2 hb3
          clear hb hb3
          go_wp2_with fail
          refine (CellNear_at _ _ _ _ G.out).mono ?_
          rintro e w4 ⟨rfl, hb⟩
          have hb4 := HB3.out.trans (hb.mono HB3.out.size)
          have HB4 : Hid (Below _ _ w4) := hb4
          have HL4 : Hid (lies w4 g _ _ _) := lies_later HL3.out hb
          clear c0 c1 c2 c3
          obtain ⟨c0, c1, c2, c3⟩ := box2 hb4
          clear hb hb4 HB1 HB2 HB3 HL2 HL3
          go_wp2_with fail
          go_quiet ((go_at_call 10; exact Calls.quiet_of_same (Far_any _ _ _ (by omega) (by omega) (by omega) (by omega))))
          go_wp2_with fail
          all_goals
            go_ret
            exact ⟨rfl, below_drewN ((((Below.refl _ _).alloc (Nat.le_refl _) _).alloc (by simp) _).trans (HB4.out.mono (by simp; omega))) _⟩
    · have HN : Hid (near x0 y0 = false ∨ near x1 y1 = false) := .inr (by simpa using g)
      have HA : Hid (near x0 y0 = true) := h
      have HC : Hid (near x1 y1 = false) := (by simpa using g : near x1 y1 = false)
      clear h g
      go_enter Try.func3, Try.ntmps3
      go_wp2_with fail
      refine (Apart_no _ _ _ _ _ HN.out).mono ?_
      rintro e w1 ⟨rfl, hb⟩
      have HB1 : Hid (Below _ _ w1) := hb
      obtain ⟨c0, c1, c2, c3⟩ := box2 hb
      clear hb
      go_wp2_with fail
      refine (Cells_no _ _ _ _ _ HN).mono ?_
      rintro e w2 ⟨rfl, hb⟩
      have hb2 := HB1.out.trans (hb.mono HB1.out.size)
      have HB2 : Hid (Below _ _ w2) := hb2
      clear c0 c1 c2 c3
      obtain ⟨c0, c1, c2, c3⟩ := box2 hb2
      clear hb hb2
      go_wp2_with fail
      refine (CellNear_at _ _ _ _ HA.out).mono ?_
      rintro e w3 ⟨rfl, hb⟩
      have hb3 := HB2.out.trans (hb.mono HB2.out.size)
      have HB3 : Hid (Below _ _ w3) := hb3
      clear c0 c1 c2 c3
      obtain ⟨c0, c1, c2, c3⟩ := box2 hb3
      clear hb hb3
      go_wp2_with fail
      refine (CellNear_at _ _ _ _ HC.out).mono ?_
      rintro e w4 ⟨rfl, hb⟩
      have hb4 := HB3.out.trans (hb.mono HB3.out.size)
      have HB4 : Hid (Below _ _ w4) := hb4
      clear hb hb4 c0 c1 c2 c3
      go_wp2_with fail
      go_ret
      exact ⟨rfl, (((Below.refl _ _).alloc (Nat.le_refl _) _).alloc (by simp) _).trans (HB4.out.mono (by simp; omega))⟩
  · have HN : Hid (near x0 y0 = false ∨ near x1 y1 = false) := .inl (by simpa using h)
    have HA : Hid (near x0 y0 = false) := (by simpa using h : near x0 y0 = false)
    clear h
    go_enter Try.func3, Try.ntmps3
    go_wp2_with fail
    refine (Apart_no _ _ _ _ _ HN.out).mono ?_
    rintro e w1 ⟨rfl, hb⟩
    have HB1 : Hid (Below _ _ w1) := hb
    obtain ⟨c0, c1, c2, c3⟩ := box2 hb
    clear hb
    go_wp2_with fail
    refine (Cells_no _ _ _ _ _ HN).mono ?_
    rintro e w2 ⟨rfl, hb⟩
    have hb2 := HB1.out.trans (hb.mono HB1.out.size)
    have HB2 : Hid (Below _ _ w2) := hb2
    clear c0 c1 c2 c3
    obtain ⟨c0, c1, c2, c3⟩ := box2 hb2
    clear hb hb2
    go_wp2_with fail
    refine (CellNear_at _ _ _ _ HA.out).mono ?_
    rintro e w3 ⟨rfl, hb⟩
    have hb3 := HB2.out.trans (hb.mono HB2.out.size)
    have HB3 : Hid (Below _ _ w3) := hb3
    clear c0 c1 c2 c3
    obtain ⟨c0, c1, c2, c3⟩ := box2 hb3
    clear hb hb3
    go_wp2_with fail
    go_ret
    exact ⟨rfl, (((Below.refl _ _).alloc (Nat.le_refl _) _).alloc (by simp) _).trans (HB3.out.mono (by simp; omega))⟩

set_option maxRecDepth 100000 in
theorem lifted (os : Os) (started : os.Started) (H : Type) (enc : TypeId × Value → H) :
    ReturnsInHanded {} Try.checked os 3 .any (Rows.lineSaysSpec.pre6 enc Try.prog Try.f3 Rows.lineSaysRow.domain false) (Rows.lineSaysSpec.post enc Try.prog Try.f3 false true false false) := by
  refine returnsInHanded_of_change (C := Try.checked) own started (by kernel_rfl) Try.func3
    (ChangeSpec.witness6 (enc := enc) (C := Try.checked) false ⟨#[], #[.agg #[.int .i64 0, .int .i64 0], .agg #[.int .i64 0, .int .i64 0]], []⟩ 8 (by kernel_rfl) (by kernel_rfl) (by kernel_rfl) (by kernel_rfl)) ?_
  intro W base args ds gs before hval0 hW hcnd _
  have hval : ∀ (j : Nat) t v, Try.f3.params[j]? = some t → args[j]? = some v → Value.okWide Try.prog W .any base t v := hval0
  have hW' := hW
  obtain ⟨p, q, hA0, hV, rfl, hfz, hnd⟩ := hW
  have hA : DataW.TrodAll enc Try.prog W 0 (fun _ => true) true Try.f3.params.toList args.toList ds p := hA0
  rw [Try.params3] at hA hval
  obtain ⟨v0, vs0, d0, ds0, p0, q0, hargs, rfl, rfl, h0, r0⟩ := trodAll_cons hA
  obtain ⟨v1, vs1, d1, ds1, p1, q1, rfl, rfl, rfl, h1, r1⟩ := trodAll_cons r0
  obtain ⟨rfl, rfl, rfl⟩ := trodAll_nil r1
  obtain rfl : args = #[v0, v1] := by cases args; simp_all
  obtain ⟨rfl, rfl⟩ := trodVars_none hV
  obtain ⟨x0, y0, rfl, rfl, rfl, w0x, w0y⟩ := open_two Try.underlying23 Try.underlying3 Try.underlying3 rfl rfl (by kernel_rfl) (by kernel_rfl) (by kernel_rfl) (hval 0 23 v0 rfl rfl) h0
  obtain ⟨x1, y1, rfl, rfl, rfl, w1x, w1y⟩ := open_two Try.underlying23 Try.underlying3 Try.underlying3 rfl rfl (by kernel_rfl) (by kernel_rfl) (by kernel_rfl) (hval 1 23 v1 rfl rfl) h1
  clear hA0 hval0
  refine (walk x0 y0 x1 y1 w0x w0y w1x w1y W).mono fun e W' ⟨he, hg⟩ => ?_
  subst he
  exact ⟨_, rfl, law_post (by kernel_rfl) (by kernel_rfl) rfl (by kernel_rfl) Try.underlying4 hW' rfl hg⟩

theorem over : Rows.lineSaysRow.holds Try.pinned (OpenSpec.ofChange Rows.lineSaysSpec) :=
  OpenClaim.holds_of_wide 3 Try.f3 rfl rfl rfl rfl rfl rfl rfl ⟨rfl, rfl, rfl, rfl, rfl⟩ rfl rfl rfl rfl rfl (by kernel_rfl) Try.func3 (by kernel_rfl)
    (of_decide_eq_true (by kernel_rfl)) (by unfold Func.isWrapper; first | (rw [if_pos (by decide +kernel)]; kernel_rfl) | (rw [if_neg (by decide +kernel)]; exact ⟨rfl, rfl⟩))
    (fun os started H enc _ => lifted os started H enc)

theorem proved : Rows.LineSaysSaid :=
  over
end Go.Proofs.Ytbedniajkcgaeaa.lineSays

namespace Go.Proofs.Ytbedniajkcgaeaa
/-- For every two cells the law LineSays returns true: Apart and Cells answer what the document says, of lines of at most 120 steps. -/
theorem lineSays_holds : Rows.LineSaysSaid := lineSays.proved
#print axioms lineSays_holds
end Go.Proofs.Ytbedniajkcgaeaa
