/- For every order, every list of orders and every text: Check, Write and Read answer what the document says -/
import Derived.Test.YtgebfpncapfaoaaRows
import Derived.Test.YtgebfpncapfaoaaPost
import Derived.Test.YtgebfpncapfaoaaOr
import Derived.Test.YtgebfpncapfaoaaOl
import Derived.Test.YtgebfpncapfaoaaOx
import Derived.Test.YtgebfpncapfaoaaOt
import Derived.Test.YtgebfpncapfaoaaKx
import Derived.Deep.RegionHeld3
import Derived.Deep.DrawnRows
import Derived.WalkKit
import Derived.ProofKit
import Derived.OpenShut
import Derived.SizedLaws
import Derived.ChangeMaps5
import Derived.JoinedCond
namespace Go.Proofs.Ytgebfpncapfaoaa.orderSays
open Go.ChangeShapes Go.WideShapes Go.ChangeAt Go.RowKit
set_option linter.unusedVariables false

theorem own : ownKnob Try.prog.godebug = none := by kernel_rfl


set_option maxRecDepth 20000 in
set_option maxHeartbeats 4000000 in
theorem walk (o0 : Ord) (s1 : Ost) (s2 : ByteArray) (fo0 : fito o0) (hs2 : s2.size ≤ 140737488351232) (w : World) (h1 : s1.fit w) (hs1 : s1.l.length * 48 ≤ 140737488351232) :
    Calls Try.prog 3 #[ov o0, s1.val, .string s2] w fun e w' => e = .returned (.bool true) ∧ Below w.heap.size w w' := by
  obtain ⟨p, c, l⟩ := s1
  obtain ⟨hr, hf, hm, hp, hk⟩ := h1
  unfold Ost.val
  dsimp only at *
  obtain ⟨n, hn⟩ : ∃ n, l.length = n := ⟨_, rfl⟩
  rw [hn] at hm hs1 ⊢
  have HW : Hid (∀ V, Below w.heap.size w V → Calls Try.prog 9 #[.slice p n c] V fun e w' => e = .returned (.tuple #[.string (wt l), .int .i64 (oes l)]) ∧ Below V.heap.size V w') := fun V hV => Write_any p n c l V (rowf_below hr hV) hn hm hf
  have HT : Hid (∀ V, Below w.heap.size w V → Calls Try.prog 10 #[.slice p n c] V fun e w' => e = .returned (.tuple #[.string (wt l), .int .i64 (oes l)]) ∧ Below V.heap.size V w') := fun V hV => OrdersText_any p n c l V (rowf_below hr hV) hn hm hf
  have HS : Hid (∀ V, Calls Try.prog 11 #[.string s2] V fun e w' => (∃ v, e = .returned (.tuple #[v, .int .i64 (rd s2).2]) ∧ minef 25 6 to6 V.heap.size w' v (rd s2).1) ∧ Below V.heap.size V w') := fun V => Read_any s2 V (by omega)
  have HX : Hid (∀ V, Calls Try.prog 12 #[.string s2] V fun e w' => (∃ v, e = .returned (.tuple #[v, .int .i64 (rd s2).2]) ∧ minef 25 6 to6 V.heap.size w' v (rd s2).1) ∧ Below V.heap.size V w') := fun V => TextOrders_any s2 V (by omega)
  have HZ : Hid ((rd s2).1.length ≤ 100) := rd_bd s2
  have HC : Hid (∀ V, Calls Try.prog 13 #[ov o0] V fun e w' => e = .returned (.int .i64 (oe o0)) ∧ Below V.heap.size V w') := fun V => Check_any' o0 V
  have HO : Hid (∀ V, Calls Try.prog 14 #[ov o0] V fun e w' => e = .returned (.int .i64 (oe o0)) ∧ Below V.heap.size V w') := fun V => OrderRight_any o0 V
  obtain ⟨⟨m, F⟩, hRE⟩ : ∃ RE, rd s2 = RE := ⟨_, rfl⟩
  simp only [hRE] at HS HX HZ
  obtain ⟨T, hT⟩ : ∃ T, wt l = T := ⟨_, rfl⟩
  obtain ⟨E, hE⟩ : ∃ E, oes l = E := ⟨_, rfl⟩
  simp only [hT, hE] at HW HT
  obtain ⟨G, hG⟩ : ∃ G, oe o0 = G := ⟨_, rfl⟩
  simp only [hG] at HC HO
  clear hr hf hm hp hk hs1 hn hRE hT hE hG fo0 hs2
  obtain ⟨ob, ok, ow, ox, oy, oa⟩ := o0
  unfold ov at HC HO ⊢
  dsimp only at HC HO ⊢
  obtain ⟨nm, hnm⟩ : ∃ nm, m.length = nm := ⟨_, rfl⟩
  have HNM : Hid (m.length = nm) := hnm
  have HNB : Hid (nm ≤ 9223372036854775807) := by have := HZ.out; show _ ≤ _; omega
  clear hnm
  obtain ⟨B, hB⟩ : ∃ B, w.heap.size = B := ⟨_, rfl⟩
  obtain ⟨w0, hw0⟩ : ∃ w0, w.alloc (.cells #[.int .i64 ob, .int .i64 ok, .int .i64 ow, .int .i64 ox, .int .i64 oy, .int .i64 oa] 25) = w0 := ⟨_, rfl⟩
  have HB0 : Hid (Below w.heap.size w w0) := by rw [← hw0]; exact alloc_below _ _
  have HBX : Hid (∀ V, Below w0.heap.size w0 V → V.cell? ⟨B, 0, none⟩ = some (.int .i64 ob) ∧ V.cell? ⟨B, 1, none⟩ = some (.int .i64 ok) ∧ V.cell? ⟨B, 2, none⟩ = some (.int .i64 ow) ∧ V.cell? ⟨B, 3, none⟩ = some (.int .i64 ox) ∧ V.cell? ⟨B, 4, none⟩ = some (.int .i64 oy) ∧ V.cell? ⟨B, 5, none⟩ = some (.int .i64 oa)) := fun V hV => by
    rw [← hw0] at hV
    rw [← hB]
    exact box6 hV
  go_enter Try.func3, Try.ntmps3
  go_wp2_with fail
  clear hw0 hB
  refine (HW.out _ HB0.out).mono ?_
  rintro e w1 ⟨rfl, hb1⟩
  have HB1 : Hid (Below w.heap.size w w1 ∧ Below w0.heap.size w0 w1) := ⟨below_step HB0.out HB0.out.size hb1, hb1⟩
  clear hb1 HW
  go_wp2_with fail
  refine (HT.out _ HB1.out.1).mono ?_
  rintro e w2 ⟨rfl, hb2⟩
  have HB2 : Hid (Below w.heap.size w w2 ∧ Below w0.heap.size w0 w2) := ⟨below_step HB1.out.1 HB1.out.1.size hb2, below_step HB1.out.2 HB1.out.2.size hb2⟩
  clear hb2 HT
  go_wp2_with fail
  refine (HS.out _).mono ?_
  rintro e w3 ⟨⟨v3, rfl, hv3⟩, hb3⟩
  have HB3 : Hid (Below w.heap.size w w3 ∧ Below w0.heap.size w0 w3) := ⟨below_step HB2.out.1 HB2.out.1.size hb3, below_step HB2.out.2 HB2.out.2.size hb3⟩
  obtain ⟨p3, c3, rfl, hr3⟩ := minef_form flt6 hv3 HNM.out
  have HR3 : Hid (rowf to6 w3 p3 m) := hr3
  clear hb3 HS hv3 hr3
  go_wp2_with fail
  refine (HX.out _).mono ?_
  rintro e w4 ⟨⟨v4, rfl, hv4⟩, hb4⟩
  have HB4 : Hid (Below w.heap.size w w4 ∧ Below w0.heap.size w0 w4) := ⟨below_step HB3.out.1 HB3.out.1.size hb4, below_step HB3.out.2 HB3.out.2.size hb4⟩
  obtain ⟨p4, c4, rfl, hr4⟩ := minef_form flt6 hv4 HNM.out
  have HEQ : Hid (∀ V, Below w4.heap.size w4 V → Calls Try.prog 15 #[.slice p3 nm c3, .slice p4 nm c4] V fun e w' => e = .returned (.bool true) ∧ Below V.heap.size V w') := fun V hV => Equalo_b _ _ nm _ _ m V HNM.out HNB.out (rowf_below (rowf_below HR3.out hb4) hV) (rowf_below hr4 hV)
  obtain ⟨z0, z1, z2, z3, z4, z5⟩ := HBX.out w4 HB4.out.2
  clear hb4 HX hv4 hr4
  go_wp2_with fail
  go_region_held3 (fun V => Below w4.heap.size w4 V ∧ V.cell? ⟨B, 0, none⟩ = some (.int .i64 ob) ∧ V.cell? ⟨B, 1, none⟩ = some (.int .i64 ok) ∧ V.cell? ⟨B, 2, none⟩ = some (.int .i64 ow) ∧ V.cell? ⟨B, 3, none⟩ = some (.int .i64 ox) ∧ V.cell? ⟨B, 4, none⟩ = some (.int .i64 oy) ∧ V.cell? ⟨B, 5, none⟩ = some (.int .i64 oa)) (first | with_reducible assumption | with_reducible exact k6_drew (by assumption) | with_reducible exact k6_call (by assumption) (by assumption) | exact ⟨Below.drew (Below.refl _ _), z0, z1, z2, z3, z4, z5⟩) (first
            | (go_at_call 13; with_reducible refine (HC.out _).mono ?_; rintro e w5 ⟨rfl, hb5⟩)
            | (go_at_call 14; with_reducible refine (HO.out _).mono ?_; rintro e w6 ⟨rfl, hb6⟩)
            | (go_at_call 15; with_reducible refine (HEQ.out _ (And.left (by assumption))).mono ?_; rintro e w7 ⟨rfl, hb7⟩))
  have hb47 : Below w4.heap.size w4 w7 := (((Below.refl _ _).drew.trans (hb5.mono (Below.refl w4.heap.size w4).drew.size)).trans (hb6.mono ((Below.refl w4.heap.size w4).drew.trans hb5).size)).trans (hb7.mono (((Below.refl w4.heap.size w4).drew.trans hb5).trans (hb6.mono ((Below.refl w4.heap.size w4).drew.trans hb5).size)).size)
  have HB7 : Hid (Below w.heap.size w w7) := HB4.out.1.trans (hb47.mono HB4.out.1.size)
  clear hb47 hb5 hb6 hb7 z0 z1 z2 z3 z4 z5
  go_wp2_with fail
  go_ret
  exact ⟨rfl, HB7.out⟩

set_option maxRecDepth 100000 in
theorem lifted (os : Os) (started : os.Started) (H : Type) (enc : TypeId × Value → H) :
    ReturnsInHanded {} Try.checked os 3 .any (Rows.orderSaysSpec.pre6 enc Try.prog Try.f3 Rows.orderSaysRow.domain false) (Rows.orderSaysSpec.post enc Try.prog Try.f3 false true false false) := by
  refine returnsInHanded_of_change_sized (C := Try.checked) own started (by kernel_rfl) Try.func3
    (ChangeSpec.witness6 (enc := enc) (C := Try.checked) false ⟨#[], #[.agg #[.int .i64 0, .int .i64 0, .int .i64 0, .int .i64 0, .int .i64 0, .int .i64 0], .slice none 0 0, .string ⟨#[]⟩], []⟩ 8 (by kernel_rfl) (by kernel_rfl) (by kernel_rfl) (by kernel_rfl)) ?_
  intro W base args ds gs before hval0 hW hcnd hsz _
  have hval : ∀ (j : Nat) t v, Try.f3.params[j]? = some t → args[j]? = some v → Value.okWide Try.prog W .any base t v := hval0
  have hW' := hW
  obtain ⟨p, q, hA0, hV, rfl, hfz, hnd⟩ := hW
  have hA : DataW.TrodAll enc Try.prog W 0 (fun _ => true) true Try.f3.params.toList args.toList ds p := hA0
  rw [Try.params3] at hA hval
  obtain ⟨v0, vs0, d0, ds0, p0, q0, hargs, rfl, rfl, h0, r0⟩ := trodAll_cons hA
  obtain ⟨v1, vs1, d1, ds1, p1, q1, rfl, rfl, rfl, h1, r1⟩ := trodAll_cons r0
  obtain ⟨v2, vs2, d2, ds2, p2, q2, rfl, rfl, rfl, h2, r2⟩ := trodAll_cons r1
  obtain ⟨rfl, rfl, rfl⟩ := trodAll_nil r2
  obtain rfl : args = #[v0, v1, v2] := by cases args; simp_all
  obtain ⟨rfl, rfl⟩ := trodVars_none hV
  obtain ⟨o0, rfl, fo0⟩ := open_ord (hval 0 25 v0 rfl rfl) h0
  obtain ⟨s1, rfl, k1, t1⟩ := open_ost (hval 1 26 v1 rfl rfl) h1
  obtain ⟨s2, rfl, rfl, rfl, hm2⟩ := Go.ChangeMaps.open_string Try.underlying9 (hval 2 9 v2 rfl rfl) h2
  have hs1 : s1.l.length * 48 ≤ 140737488351232 := told_sized hsz (j := 1) rfl rfl Try.underlying26 (by kernel_rfl) t1
  have hs2 : s2.size ≤ 140737488351232 := by have := sized_string hsz (j := 2) rfl rfl; unfold reachBytes at this; simpa using this
  clear hA0 hval0
  refine (walk o0 s1 s2 fo0 hs2 W k1 hs1).mono fun e W' ⟨he, hg⟩ => ?_
  subst he
  exact ⟨_, rfl, law_post (by kernel_rfl) (by kernel_rfl) rfl (by kernel_rfl) Try.underlying4 hW' rfl hg⟩

theorem over : Rows.orderSaysRow.holds Try.pinned (OpenSpec.ofChange Rows.orderSaysSpec) :=
  OpenClaim.holds_of_wide 3 Try.f3 rfl rfl rfl rfl rfl rfl rfl ⟨rfl, rfl, rfl, rfl, rfl⟩ rfl rfl rfl rfl rfl (by kernel_rfl) Try.func3 (by kernel_rfl)
    (of_decide_eq_true (by kernel_rfl)) (by unfold Func.isWrapper; first | (rw [if_pos (by decide +kernel)]; kernel_rfl) | (rw [if_neg (by decide +kernel)]; exact ⟨rfl, rfl⟩))
    (fun os started H enc _ => lifted os started H enc)

theorem proved : Rows.OrderSaysSaid :=
  over
end Go.Proofs.Ytgebfpncapfaoaa.orderSays

namespace Go.Proofs.Ytgebfpncapfaoaa
/-- For every order, every list of orders and every text: Check, Write and Read answer what the document says -/
theorem orderSays_holds : Rows.OrderSaysSaid := orderSays.proved
#print axioms orderSays_holds
end Go.Proofs.Ytgebfpncapfaoaa
