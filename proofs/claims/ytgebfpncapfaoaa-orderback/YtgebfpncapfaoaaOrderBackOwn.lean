/- For every list of orders and every text: orders are read as they were written; what is read is written so -/
import Derived.Test.YtgebfpncapfaoaaRows
import Derived.Test.YtgebfpncapfaoaaPost
import Derived.Test.YtgebfpncapfaoaaOr
import Derived.Test.YtgebfpncapfaoaaOl
import Derived.WalkKit
import Derived.ProofKit
import Derived.OpenShut
import Derived.SizedLaws
import Derived.ChangeMaps5
import Derived.JoinedCond
namespace Go.Proofs.Ytgebfpncapfaoaa.orderBack
open Go.ChangeShapes Go.WideShapes Go.ChangeAt Go.RowKit
set_option linter.unusedVariables false

theorem own : ownKnob Try.prog.godebug = none := by kernel_rfl


set_option maxRecDepth 20000 in
set_option maxHeartbeats 4000000 in
theorem walk (s0 : Ost) (s1 : ByteArray) (hs1 : s1.size ≤ 140737488351232) (w : World) (h0 : s0.fit w) (hs0 : s0.l.length * 48 ≤ 140737488351232) :
    Calls Try.prog 5 #[s0.val, .string s1] w fun e w' => e = .returned (.bool true) ∧ Below w.heap.size w w' := by
  obtain ⟨p, c, l⟩ := s0
  obtain ⟨hr, hf, hm, hp, hk⟩ := h0
  unfold Ost.val
  dsimp only at *
  obtain ⟨n, hn⟩ : ∃ n, l.length = n := ⟨_, rfl⟩
  rw [hn] at hm hs0 ⊢
  have HW : Hid (∀ V, Below w.heap.size w V → Calls Try.prog 9 #[.slice p n c] V fun e w' => e = .returned (.tuple #[.string (wt l), .int .i64 (oes l)]) ∧ Below V.heap.size V w') := fun V hV => Write_any p n c l V (rowf_below hr hV) hn hm hf
  have HL : Hid (∀ V, Calls Try.prog 25 #[] V fun e w' => e = .returned (.bool true) ∧ Below V.heap.size V w') := fun V => lives_any V
  have HS : Hid (∀ V, Calls Try.prog 11 #[.string s1] V fun e w' => (∃ v, e = .returned (.tuple #[v, .int .i64 (rd s1).2]) ∧ minef 25 6 to6 V.heap.size w' v (rd s1).1) ∧ Below V.heap.size V w') := fun V => Read_any s1 V (by omega)
  have HX : Hid ((rd s1).2 = 0 → wt (rd s1).1 = s1 ∧ oes (rd s1).1 = 0 ∧ (∀ o ∈ (rd s1).1, fito o)) := fun h => wt_rd h
  have HY : Hid ((rd s1).2 ≠ 0 → (rd s1).1 = []) := fun h => rd_err h
  have HZ : Hid ((rd s1).1.length ≤ 100) := rd_bd s1
  have HR : Hid (rowf to6 w p l) := hr
  have HN : Hid (l.length = n) := hn
  have HM : Hid (n ≤ 9223372036854775807) := hm
  obtain ⟨⟨m, E⟩, hRE⟩ : ∃ RE, rd s1 = RE := ⟨_, rfl⟩
  simp only [hRE] at HS HX HY HZ
  clear hRE
  by_cases hz : oes l = 0
  · have HD : Hid (∀ V, Calls Try.prog 11 #[.string (wt l)] V fun e w' => (∃ v, e = .returned (.tuple #[v, .int .i64 0]) ∧ minef 25 6 to6 V.heap.size w' v l) ∧ Below V.heap.size V w') := fun V => by
      have := Read_any (wt l) V (by have := wt_sz hf; omega)
      rwa [rd_wt hf hz] at this
    obtain ⟨T, hT⟩ : ∃ T, wt l = T := ⟨_, rfl⟩
    simp only [hz, hT] at HW HD
    clear hr hn hf hm hp hk hs0 hz hT hs1
    go_enter Try.func5, Try.ntmps5
    go_wp2_with fail
    refine (HW.out _ (Below.refl _ _)).mono ?_
    rintro e w1 ⟨rfl, hb1⟩
    have HB1 : Hid (Below w.heap.size w w1) := hb1
    clear hb1 HW
    go_wp2_with fail
    refine (HD.out _).mono ?_
    rintro e w2 ⟨⟨v, rfl, hv⟩, hb2⟩
    have HB2 : Hid (Below w.heap.size w w2) := below_step HB1.out HB1.out.size hb2
    obtain ⟨q, d, rfl, hr⟩ := minef_form flt6 hv HN.out
    have HE : Hid (Calls Try.prog 15 #[.slice q n d, .slice p n c] w2 fun e w' => e = .returned (.bool true) ∧ Below w2.heap.size w2 w') := Equalo_b _ _ n _ _ l w2 HN.out HM.out hr (rowf_below HR.out HB2.out)
    clear hv hr hb2 HD
    go_wp2_with fail
    refine HE.out.mono ?_
    rintro e w3 ⟨rfl, hb3⟩
    have HB3 : Hid (Below w.heap.size w w3) := below_step HB2.out HB2.out.size hb3
    clear hb3 HE
    go_wp2_with fail
    refine (HS.out _).mono ?_
    rintro e w4 ⟨⟨v4, rfl, hv4⟩, hb4⟩
    have HB4 : Hid (Below w.heap.size w w4) := below_step HB3.out HB3.out.size hb4
    obtain ⟨q4, d4, rfl, hr4, _, _⟩ := minef_full flt6 hv4
    have HR4 : Hid (rowf to6 w4 q4 m) := hr4
    clear hb4 hv4 hr4 HS
    obtain ⟨nm, hnm⟩ : ∃ nm, m.length = nm := ⟨_, rfl⟩
    rw [hnm]
    have HNM : Hid (m.length = nm) := hnm
    clear hnm
    by_cases hE : E = 0
    · subst hE
      obtain ⟨x1, x2, x3⟩ := HX.out rfl
      have HXX : Hid (wt m = s1 ∧ oes m = 0 ∧ (∀ o ∈ m, fito o)) := ⟨x1, x2, x3⟩
      have HW5 : Hid (∀ V, Below w4.heap.size w4 V → Calls Try.prog 9 #[.slice q4 nm d4] V fun e w' => e = .returned (.tuple #[.string s1, .int .i64 0]) ∧ Below V.heap.size V w') := fun V hV => by
        have := Write_any q4 nm d4 m V (rowf_below HR4.out hV) HNM.out (by have := HZ.out; have := HNM.out; omega) x3
        rwa [x1, x2] at this
      clear x1 x2 x3
      go_wp2_with fail
      refine (HL.out _).mono ?_
      rintro e w5 ⟨rfl, hb5⟩
      have HB45 : Hid (Below w4.heap.size w4 w5) := hb5
      clear hb5
      go_wp2_with fail
      refine (HW5.out _ HB45.out).mono ?_
      rintro e w6 ⟨rfl, hb6⟩
      have HB6 : Hid (Below w.heap.size w w6) := below_step HB4.out HB4.out.size (HB45.out.trans (hb6.mono HB45.out.size))
      clear hb6
      go_wp2_with fail
      go_ret
      exact ⟨rfl, HB6.out⟩
    · have HMN : Hid (m = []) := HY.out hE
      have h0 : nm = 0 := by rw [← HNM.out, HMN.out]; rfl
      subst h0
      go_wp2_with fail
      refine (HL.out _).mono ?_
      rintro e w5 ⟨rfl, hb5⟩
      have HB5 : Hid (Below w.heap.size w w5) := below_step HB4.out HB4.out.size hb5
      clear hb5
      go_wp2_with fail
      refine (HL.out _).mono ?_
      rintro e w6 ⟨rfl, hb6⟩
      have HB6 : Hid (Below w.heap.size w w6) := below_step HB5.out HB5.out.size hb6
      clear hb6
      go_wp2_with fail
      go_ret
      exact ⟨rfl, HB6.out⟩
  · obtain ⟨T, hT⟩ : ∃ T, wt l = T := ⟨_, rfl⟩
    obtain ⟨F, hF⟩ : ∃ F, oes l = F := ⟨_, rfl⟩
    rw [hF] at hz
    simp only [hF, hT] at HW
    clear hr hn hf hm hp hk hs0 hT hF hs1
    go_enter Try.func5, Try.ntmps5
    go_wp2_with fail
    refine (HW.out _ (Below.refl _ _)).mono ?_
    rintro e w3 ⟨rfl, hb1⟩
    have HB3 : Hid (Below w.heap.size w w3) := hb1
    clear hb1 HW
    go_wp2_with fail
    refine (HS.out _).mono ?_
    rintro e w4 ⟨⟨v4, rfl, hv4⟩, hb4⟩
    have HB4 : Hid (Below w.heap.size w w4) := below_step HB3.out HB3.out.size hb4
    obtain ⟨q4, d4, rfl, hr4, _, _⟩ := minef_full flt6 hv4
    have HR4 : Hid (rowf to6 w4 q4 m) := hr4
    clear hb4 hv4 hr4 HS
    obtain ⟨nm, hnm⟩ : ∃ nm, m.length = nm := ⟨_, rfl⟩
    rw [hnm]
    have HNM : Hid (m.length = nm) := hnm
    clear hnm
    by_cases hE : E = 0
    · subst hE
      obtain ⟨x1, x2, x3⟩ := HX.out rfl
      have HXX : Hid (wt m = s1 ∧ oes m = 0 ∧ (∀ o ∈ m, fito o)) := ⟨x1, x2, x3⟩
      have HW5 : Hid (∀ V, Below w4.heap.size w4 V → Calls Try.prog 9 #[.slice q4 nm d4] V fun e w' => e = .returned (.tuple #[.string s1, .int .i64 0]) ∧ Below V.heap.size V w') := fun V hV => by
        have := Write_any q4 nm d4 m V (rowf_below HR4.out hV) HNM.out (by have := HZ.out; have := HNM.out; omega) x3
        rwa [x1, x2] at this
      clear x1 x2 x3
      go_wp2_with fail
      refine (HL.out _).mono ?_
      rintro e w5 ⟨rfl, hb5⟩
      have HB45 : Hid (Below w4.heap.size w4 w5) := hb5
      clear hb5
      go_wp2_with fail
      refine (HW5.out _ HB45.out).mono ?_
      rintro e w6 ⟨rfl, hb6⟩
      have HB6 : Hid (Below w.heap.size w w6) := below_step HB4.out HB4.out.size (HB45.out.trans (hb6.mono HB45.out.size))
      clear hb6
      go_wp2_with fail
      go_ret
      exact ⟨rfl, HB6.out⟩
    · have HMN : Hid (m = []) := HY.out hE
      have h0 : nm = 0 := by rw [← HNM.out, HMN.out]; rfl
      subst h0
      go_wp2_with fail
      refine (HL.out _).mono ?_
      rintro e w5 ⟨rfl, hb5⟩
      have HB5 : Hid (Below w.heap.size w w5) := below_step HB4.out HB4.out.size hb5
      clear hb5
      go_wp2_with fail
      refine (HL.out _).mono ?_
      rintro e w6 ⟨rfl, hb6⟩
      have HB6 : Hid (Below w.heap.size w w6) := below_step HB5.out HB5.out.size hb6
      clear hb6
      go_wp2_with fail
      go_ret
      exact ⟨rfl, HB6.out⟩

set_option maxRecDepth 100000 in
theorem lifted (os : Os) (started : os.Started) (H : Type) (enc : TypeId × Value → H) :
    ReturnsInHanded {} Try.checked os 5 .any (Rows.orderBackSpec.pre6 enc Try.prog Try.f5 Rows.orderBackRow.domain false) (Rows.orderBackSpec.post enc Try.prog Try.f5 false true false false) := by
  refine returnsInHanded_of_change_sized (C := Try.checked) own started (by kernel_rfl) Try.func5
    (ChangeSpec.witness6 (enc := enc) (C := Try.checked) false ⟨#[], #[.slice none 0 0, .string ⟨#[]⟩], []⟩ 8 (by kernel_rfl) (by kernel_rfl) (by kernel_rfl) (by kernel_rfl)) ?_
  intro W base args ds gs before hval0 hW hcnd hsz _
  have hval : ∀ (j : Nat) t v, Try.f5.params[j]? = some t → args[j]? = some v → Value.okWide Try.prog W .any base t v := hval0
  have hW' := hW
  obtain ⟨p, q, hA0, hV, rfl, hfz, hnd⟩ := hW
  have hA : DataW.TrodAll enc Try.prog W 0 (fun _ => true) true Try.f5.params.toList args.toList ds p := hA0
  rw [Try.params5] at hA hval
  obtain ⟨v0, vs0, d0, ds0, p0, q0, hargs, rfl, rfl, h0, r0⟩ := trodAll_cons hA
  obtain ⟨v1, vs1, d1, ds1, p1, q1, rfl, rfl, rfl, h1, r1⟩ := trodAll_cons r0
  obtain ⟨rfl, rfl, rfl⟩ := trodAll_nil r1
  obtain rfl : args = #[v0, v1] := by cases args; simp_all
  obtain ⟨rfl, rfl⟩ := trodVars_none hV
  obtain ⟨s0, rfl, k0, t0⟩ := open_ost (hval 0 26 v0 rfl rfl) h0
  obtain ⟨s1, rfl, rfl, rfl, hm1⟩ := Go.ChangeMaps.open_string Try.underlying9 (hval 1 9 v1 rfl rfl) h1
  have hs0 : s0.l.length * 48 ≤ 140737488351232 := told_sized hsz (j := 0) rfl rfl Try.underlying26 (by kernel_rfl) t0
  have hs1 : s1.size ≤ 140737488351232 := by have := sized_string hsz (j := 1) rfl rfl; unfold reachBytes at this; simpa using this
  clear hA0 hval0
  refine (walk s0 s1 hs1 W k0 hs0).mono fun e W' ⟨he, hg⟩ => ?_
  subst he
  exact ⟨_, rfl, law_post (by kernel_rfl) (by kernel_rfl) rfl (by kernel_rfl) Try.underlying4 hW' rfl hg⟩

theorem over : Rows.orderBackRow.holds Try.pinned (OpenSpec.ofChange Rows.orderBackSpec) :=
  OpenClaim.holds_of_wide 5 Try.f5 rfl rfl rfl rfl rfl rfl rfl ⟨rfl, rfl, rfl, rfl, rfl⟩ rfl rfl rfl rfl rfl (by kernel_rfl) Try.func5 (by kernel_rfl)
    (of_decide_eq_true (by kernel_rfl)) (by unfold Func.isWrapper; first | (rw [if_pos (by decide +kernel)]; kernel_rfl) | (rw [if_neg (by decide +kernel)]; exact ⟨rfl, rfl⟩))
    (fun os started H enc _ => lifted os started H enc)

theorem proved : Rows.OrderBackSaid :=
  over
end Go.Proofs.Ytgebfpncapfaoaa.orderBack

namespace Go.Proofs.Ytgebfpncapfaoaa
/-- For every list of orders and every text: orders are read as they were written; what is read is written so -/
theorem orderBack_holds : Rows.OrderBackSaid := orderBack.proved
#print axioms orderBack_holds
end Go.Proofs.Ytgebfpncapfaoaa
