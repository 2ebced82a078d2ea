/- Whatever list of orders and world is handed in, Split answers what the document says. -/
import Derived.Test.YtgebfpncapfaoaaRows
import Derived.Test.YtgebfpncapfaoaaPost
import Derived.Test.YtgebfpncapfaoaaOr
import Derived.Test.YtgebfpncapfaoaaOl
import Derived.Test.YtgebfpncapfaoaaOb
import Derived.Test.YtgebfpncapfaoaaWy
import Derived.Test.YtgebfpncapfaoaaOq
import Derived.WalkKit
import Derived.ProofKit
import Derived.OpenShut
import Derived.SizedLaws
import Derived.ChangeMaps5
import Derived.JoinedCond
namespace Go.Proofs.Ytgebfpncapfaoaa.orderSplits
open Go.ChangeShapes Go.WideShapes Go.ChangeAt Go.RowKit
set_option linter.unusedVariables false

theorem own : ownKnob Try.prog.godebug = none := by kernel_rfl

theorem first_last {s : Wld} (h : wre s 0) : alw (fown s.lt) s.nb = alw (lown s.lt) s.nb := by
  obtain ⟨W, H, hk⟩ := wre_ok h
  have e : lown s.lt = fown s.lt := funext fun i => lown_first hk.tr.2.1 i
  rw [e]
theorem flen {α : Type} (P : Ord → Bool) (f : Ord → α) (l : List Ord) : ((l.filter P).map f).length ≤ l.length := by
  rw [List.length_map]; exact List.length_filter_le P l
theorem spl_len {l : List Ord} {s : Wld} {E : Int} (h : oes l = 0) : (spl l s E).length ≤ 100 := by
  unfold spl
  split
  · exact Nat.le_trans (List.length_filter_le _ _) (oes_zero h).1
  · simp

set_option maxRecDepth 20000 in
set_option maxHeartbeats 4000000 in
theorem walk (s0 : Ost) (s1 : Wld)  (w : World) (h0 : s0.fit w) (hs0 : s0.l.length * 48 ≤ 140737488351232) (h1 : s1.fit w) :
    Calls Try.prog 4 #[s0.val, s1.val] w fun e w' => e = .returned (.bool true) ∧ Below w.heap.size w w' := by
  obtain ⟨E, hE⟩ := wre_total s1
  obtain ⟨hr, hf, hm, hp, hk⟩ := h0
  have HEE : Hid (wre s1 E) := hE
  have HS : Hid (∀ V, Below w.heap.size w V → Calls Try.prog 16 #[.slice s0.p s0.l.length s0.c, s1.val] V (spt V s0.l s1 E)) := fun V hV => Split_any s0.p _ s0.c s0.l s1 E V (rowf_below hr hV) rfl hm hf (Wld.fit_below h1 hV) HEE.out
  have HO : Hid (∀ V, Below w.heap.size w V → Calls Try.prog 17 #[.slice s0.p s0.l.length s0.c] V fun e w' => e = .returned (.int .i64 (oes s0.l)) ∧ Below V.heap.size V w') := fun V hV => OrdersRight_any s0.p _ s0.c s0.l V (rowf_below hr hV) rfl hm
  have HW : Hid (∀ V, Below w.heap.size w V → Calls Try.prog 18 #[s1.val] V fun e w' => e = .returned (.int .i64 E) ∧ Below V.heap.size V w') := fun V hV => WorldRight_at s1 E V (Wld.fit_below h1 hV) HEE.out
  have HYB : Hid (oes s0.l = 0 → E = 0 → ∀ V, Below w.heap.size w V → Calls Try.prog 20 #[.slice s0.p s0.l.length s0.c, s1.val] V fun e w' => (∃ v, e = .returned v ∧ minef 51 2 to2 V.heap.size w' v (spb (spl s0.l s1 E))) ∧ Below V.heap.size V w') := fun h2 h3 V hV => by
    have h4 := HEE.out
    rw [h3] at h4 ⊢
    rw [spl_ok (by unfold spe; rw [if_pos h2]), ← first_last h4]
    exact OrderBlows_any s0.p _ s0.c s0.l s1 V (rowf_below hr hV) rfl h2 (Wld.fit_below h1 hV)
  have HYG : Hid (oes s0.l = 0 → E = 0 → ∀ V, Below w.heap.size w V → Calls Try.prog 22 #[.slice s0.p s0.l.length s0.c, s1.val] V fun e w' => (∃ v, e = .returned v ∧ minef 55 3 to3 V.heap.size w' v (spg (spl s0.l s1 E))) ∧ Below V.heap.size V w') := fun h2 h3 V hV => by
    have h4 := HEE.out
    rw [h3] at h4 ⊢
    rw [spl_ok (by unfold spe; rw [if_pos h2]), ← first_last h4]
    exact OrderGoes_any s0.p _ s0.c s0.l s1 V (rowf_below hr hV) rfl h2 (Wld.fit_below h1 hV)
  have HYD : Hid (oes s0.l = 0 → E = 0 → ∀ V, Below w.heap.size w V → Calls Try.prog 24 #[.slice s0.p s0.l.length s0.c, s1.val] V fun e w' => (∃ v, e = .returned v ∧ minef 59 5 to5 V.heap.size w' v (spd (spl s0.l s1 E))) ∧ Below V.heap.size V w') := fun h2 h3 V hV => by
    have h4 := HEE.out
    rw [h3] at h4 ⊢
    rw [spl_ok (by unfold spe; rw [if_pos h2]), ← first_last h4]
    exact OrderDeeds_any s0.p _ s0.c s0.l s1 V (rowf_below hr hV) rfl h2 (Wld.fit_below h1 hV)
  have HNIL : Hid (¬ spe s0.l E = 0 → spl s0.l s1 E = []) := fun h => spl_no h
  have HLN : Hid ((spl s0.l s1 E).length ≤ s0.l.length ∧ (oes s0.l = 0 → (spl s0.l s1 E).length ≤ 100)) := ⟨by unfold spl; split; exact List.length_filter_le _ _; simp, fun h => spl_len h⟩
  have HSE : Hid (spe s0.l E = if oes s0.l = 0 then E else oes s0.l) := rfl
  obtain ⟨SE, hSE⟩ : ∃ SE, spe s0.l E = SE := ⟨_, rfl⟩
  obtain ⟨Z, hZ⟩ : ∃ Z, oes s0.l = Z := ⟨_, rfl⟩
  obtain ⟨L, hL⟩ : ∃ L, spl s0.l s1 E = L := ⟨_, rfl⟩
  have HS : Hid (∀ V, Below w.heap.size w V → Calls Try.prog 16 #[.slice s0.p s0.l.length s0.c, s1.val] V fun e w' => (∃ v1 v2 v3, e = .returned (.tuple #[v1, v2, v3, .int .i64 SE]) ∧ minef 51 2 to2 V.heap.size w' v1 (spb L) ∧ minef 55 3 to3 V.heap.size w' v2 (spg L) ∧ minef 59 5 to5 V.heap.size w' v3 (spd L)) ∧ Below V.heap.size V w') := fun V hV => by
    refine (HS.out V hV).mono ?_
    intro e w' h
    unfold spt at h
    rw [hSE, hL] at h
    exact h
  simp only [hSE, hZ, hL] at HO HYB HYG HYD HNIL HLN HSE
  clear hr hf hm hp hk h1 hs0 hSE hZ hL hE HEE
  obtain ⟨lp, lc, ll⟩ := s0
  obtain ⟨A, B, p, n, c, l, pb, nb, cb, lb, ps, ns, cs, ls, pm, nm, cm, lm, pt, nt, ct, lt, N, T⟩ := s1
  unfold Wld.val Ost.val at *
  dsimp only at *
  obtain ⟨nl, hnl⟩ : ∃ nl, ll.length = nl := ⟨_, rfl⟩
  simp only [hnl] at HS HO HYB HYG HYD HLN ⊢
  clear hnl
  obtain ⟨F, hF⟩ : ∃ F, w.heap.size = F := ⟨_, rfl⟩
  obtain ⟨w0, hw0⟩ : ∃ w0, w.alloc (.cells #[.int .i64 A, .int .i64 B, .slice p n c, .slice pb nb cb, .slice ps ns cs, .slice pm nm cm, .slice pt nt ct, .int .i64 N, .int .i64 T] 41) = w0 := ⟨_, rfl⟩
  have HB0 : Hid (Below w.heap.size w w0) := by rw [← hw0]; exact alloc_below _ _
  have HBX : Hid (∀ V, Below w0.heap.size w0 V → c9 V F (.int .i64 A) (.int .i64 B) (.slice p n c) (.slice pb nb cb) (.slice ps ns cs) (.slice pm nm cm) (.slice pt nt ct) (.int .i64 N) (.int .i64 T)) := fun V hV => boxw hF hw0 hV
  have HUP : Hid (∀ V, Below w0.heap.size w0 V → Below w.heap.size w V) := fun V hV => below_step HB0.out HB0.out.size hV
  obtain ⟨z0, z1, z2, z3, z4, z5, z6, z7, z8⟩ := HBX.out w0 (Below.refl _ _)
  go_enter Try.func4, Try.ntmps4
  go_wp2_with fail
  clear hw0 hF
  refine (HS.out w0 HB0.out).mono ?_
  rintro e w1 ⟨⟨v1, v2, v3, rfl, hv1, hv2, hv3⟩, hb1⟩
  have HB1 : Hid (Below w0.heap.size w0 w1) := hb1
  obtain ⟨n1, hn1⟩ : ∃ n1, (spb L).length = n1 := ⟨_, rfl⟩
  obtain ⟨n2, hn2⟩ : ∃ n2, (spg L).length = n2 := ⟨_, rfl⟩
  obtain ⟨n3, hn3⟩ : ∃ n3, (spd L).length = n3 := ⟨_, rfl⟩
  have HN1 : Hid ((spb L).length = n1 ∧ n1 ≤ L.length) := ⟨hn1, by rw [← hn1]; exact flen _ _ _⟩
  have HN2 : Hid ((spg L).length = n2 ∧ n2 ≤ L.length) := ⟨hn2, by rw [← hn2]; exact flen _ _ _⟩
  have HN3 : Hid ((spd L).length = n3 ∧ n3 ≤ L.length) := ⟨hn3, by rw [← hn3]; exact flen _ _ _⟩
  obtain ⟨p1, c1, rfl, hr1⟩ := minef_form flt2 hv1 hn1
  obtain ⟨p2, c2, rfl, hr2⟩ := minef_form flt3 hv2 hn2
  obtain ⟨p3, c3, rfl, hr3⟩ := minef_form flt5 hv3 hn3
  have HR1 : Hid (∀ V, Below w1.heap.size w1 V → rowf to2 V p1 (spb L)) := fun V hV => rowf_below hr1 hV
  have HR2 : Hid (∀ V, Below w1.heap.size w1 V → rowf to3 V p2 (spg L)) := fun V hV => rowf_below hr2 hV
  have HR3 : Hid (∀ V, Below w1.heap.size w1 V → rowf to5 V p3 (spd L)) := fun V hV => rowf_below hr3 hV
  clear hv1 hv2 hv3 hb1 hn1 hn2 hn3 hr1 hr2 hr3 z0 z1 z2 z3 z4 z5 z6 z7 z8 HS
  go_wp2_with fail
  refine (HO.out w1 (HUP.out w1 HB1.out)).mono ?_
  rintro e w2 ⟨rfl, hb2⟩
  have HB2 : Hid (Below w0.heap.size w0 w2) := below_step HB1.out HB1.out.size hb2
  have HB12 : Hid (Below w1.heap.size w1 w2) := hb2
  clear hb2 HO
  obtain ⟨z0, z1, z2, z3, z4, z5, z6, z7, z8⟩ := HBX.out w2 HB2.out
  by_cases hZ : Z = 0
  rotate_left
  · have hSE : SE = Z := by have := HSE.out; rw [if_neg hZ] at this; exact this
    subst hSE
    have hL := HNIL.out hZ
    have h1 : n1 = 0 := by have := HN1.out.2; rw [hL] at this; simpa using this
    have h2 : n2 = 0 := by have := HN2.out.2; rw [hL] at this; simpa using this
    have h3 : n3 = 0 := by have := HN3.out.2; rw [hL] at this; simpa using this
    subst h1 h2 h3
    clear hL
    go_wp2_with fail
    go_ret
    exact ⟨rfl, HUP.out w2 HB2.out⟩
  have HSE1 : Hid (SE = E) := by have := HSE.out; rw [if_pos hZ] at this; exact this
  have HZ : Hid (Z = 0) := hZ
  subst hZ
  go_wp2_with fail
  refine (HW.out w2 (HUP.out w2 HB2.out)).mono ?_
  rintro e w3 ⟨rfl, hb3⟩
  have HB3 : Hid (Below w0.heap.size w0 w3) := below_step HB2.out HB2.out.size hb3
  have HB13 : Hid (Below w1.heap.size w1 w3) := below_step HB12.out HB12.out.size hb3
  clear hb3 HW z0 z1 z2 z3 z4 z5 z6 z7 z8
  obtain ⟨z0, z1, z2, z3, z4, z5, z6, z7, z8⟩ := HBX.out w3 HB3.out
  by_cases hE : E = 0
  rotate_left
  · have hSE : SE = E := HSE1.out
    subst hSE
    have hL := HNIL.out hE
    have h1 : n1 = 0 := by have := HN1.out.2; rw [hL] at this; simpa using this
    have h2 : n2 = 0 := by have := HN2.out.2; rw [hL] at this; simpa using this
    have h3 : n3 = 0 := by have := HN3.out.2; rw [hL] at this; simpa using this
    subst h1 h2 h3
    clear hL
    go_wp2_with fail
    go_ret
    exact ⟨rfl, HUP.out w3 HB3.out⟩
  subst hE
  have hSE : SE = 0 := HSE1.out
  subst hSE
  have HB : Hid (n1 ≤ 9223372036854775807 ∧ n2 ≤ 9223372036854775807 ∧ n3 ≤ 9223372036854775807) := by
    have h0 := HLN.out.2 (by first | rfl | trivial)
    have h1 := HN1.out.2
    have h2 := HN2.out.2
    have h3 := HN3.out.2
    exact ⟨by omega, by omega, by omega⟩
  have HZB : Hid (∀ V, Below w.heap.size w V → Calls Try.prog 20 #[.slice lp nl lc, .agg #[.int .i64 A, .int .i64 B, .slice p n c, .slice pb nb cb, .slice ps ns cs, .slice pm nm cm, .slice pt nt ct, .int .i64 N, .int .i64 T]] V fun e w' => (∃ v, e = .returned v ∧ minef 51 2 to2 V.heap.size w' v (spb L)) ∧ Below V.heap.size V w') := HYB.out (by first | rfl | trivial) (by first | rfl | trivial)
  have HZG : Hid (∀ V, Below w.heap.size w V → Calls Try.prog 22 #[.slice lp nl lc, .agg #[.int .i64 A, .int .i64 B, .slice p n c, .slice pb nb cb, .slice ps ns cs, .slice pm nm cm, .slice pt nt ct, .int .i64 N, .int .i64 T]] V fun e w' => (∃ v, e = .returned v ∧ minef 55 3 to3 V.heap.size w' v (spg L)) ∧ Below V.heap.size V w') := HYG.out (by first | rfl | trivial) (by first | rfl | trivial)
  have HZD : Hid (∀ V, Below w.heap.size w V → Calls Try.prog 24 #[.slice lp nl lc, .agg #[.int .i64 A, .int .i64 B, .slice p n c, .slice pb nb cb, .slice ps ns cs, .slice pm nm cm, .slice pt nt ct, .int .i64 N, .int .i64 T]] V fun e w' => (∃ v, e = .returned v ∧ minef 59 5 to5 V.heap.size w' v (spd L)) ∧ Below V.heap.size V w') := HYD.out (by first | rfl | trivial) (by first | rfl | trivial)
  clear HYB HYG HYD
  go_wp2_with fail
  refine (HZB.out w3 (HUP.out w3 HB3.out)).mono ?_
  rintro e w4 ⟨⟨v4, rfl, hv4⟩, hb4⟩
  obtain ⟨p4, c4, rfl, hr4⟩ := minef_form flt2 hv4 HN1.out.1
  have HB4 : Hid (Below w0.heap.size w0 w4) := below_step HB3.out HB3.out.size hb4
  have HB14 : Hid (Below w1.heap.size w1 w4) := below_step HB13.out HB13.out.size hb4
  have HR4 : Hid (rowf to2 w4 p4 (spb L)) := hr4
  clear hb4 hv4 hr4 z0 z1 z2 z3 z4 z5 z6 z7 z8
  go_wp2_with fail
  refine (Equalb_b _ _ n1 _ _ (spb L) w4 HN1.out.1 HB.out.1 (HR1.out w4 HB14.out) HR4.out).mono ?_
  rintro e w5 ⟨rfl, hb5⟩
  have HB5 : Hid (Below w0.heap.size w0 w5) := below_step HB4.out HB4.out.size hb5
  have HB15 : Hid (Below w1.heap.size w1 w5) := below_step HB14.out HB14.out.size hb5
  clear hb5
  obtain ⟨z0, z1, z2, z3, z4, z5, z6, z7, z8⟩ := HBX.out w5 HB5.out
  go_wp2_with fail
  refine (HZG.out w5 (HUP.out w5 HB5.out)).mono ?_
  rintro e w6 ⟨⟨v6, rfl, hv6⟩, hb6⟩
  obtain ⟨p6, c6, rfl, hr6⟩ := minef_form flt3 hv6 HN2.out.1
  have HB6 : Hid (Below w0.heap.size w0 w6) := below_step HB5.out HB5.out.size hb6
  have HB16 : Hid (Below w1.heap.size w1 w6) := below_step HB15.out HB15.out.size hb6
  have HR6 : Hid (rowf to3 w6 p6 (spg L)) := hr6
  clear hb6 hv6 hr6 z0 z1 z2 z3 z4 z5 z6 z7 z8
  go_wp2_with fail
  refine (Equalg_b _ _ n2 _ _ (spg L) w6 HN2.out.1 HB.out.2.1 (HR2.out w6 HB16.out) HR6.out).mono ?_
  rintro e w7 ⟨rfl, hb7⟩
  have HB7 : Hid (Below w0.heap.size w0 w7) := below_step HB6.out HB6.out.size hb7
  have HB17 : Hid (Below w1.heap.size w1 w7) := below_step HB16.out HB16.out.size hb7
  clear hb7
  obtain ⟨z0, z1, z2, z3, z4, z5, z6, z7, z8⟩ := HBX.out w7 HB7.out
  go_wp2_with fail
  refine (HZD.out w7 (HUP.out w7 HB7.out)).mono ?_
  rintro e w8 ⟨⟨v8, rfl, hv8⟩, hb8⟩
  obtain ⟨p8, c8, rfl, hr8⟩ := minef_form flt5 hv8 HN3.out.1
  have HB8 : Hid (Below w0.heap.size w0 w8) := below_step HB7.out HB7.out.size hb8
  have HB18 : Hid (Below w1.heap.size w1 w8) := below_step HB17.out HB17.out.size hb8
  have HR8 : Hid (rowf to5 w8 p8 (spd L)) := hr8
  clear hb8 hv8 hr8 z0 z1 z2 z3 z4 z5 z6 z7 z8
  go_wp2_with fail
  refine (Equald_b _ _ n3 _ _ (spd L) w8 HN3.out.1 HB.out.2.2 (HR3.out w8 HB18.out) HR8.out).mono ?_
  rintro e w9 ⟨rfl, hb9⟩
  have HB9 : Hid (Below w0.heap.size w0 w9) := below_step HB8.out HB8.out.size hb9
  clear hb9
  go_wp2_with fail
  go_ret
  exact ⟨rfl, HUP.out w9 HB9.out⟩

set_option maxRecDepth 100000 in
theorem lifted (os : Os) (started : os.Started) (H : Type) (enc : TypeId × Value → H) :
    ReturnsInHanded {} Try.checked os 4 .any (Rows.orderSplitsSpec.pre6 enc Try.prog Try.f4 Rows.orderSplitsRow.domain false) (Rows.orderSplitsSpec.post enc Try.prog Try.f4 false true false false) := by
  refine returnsInHanded_of_change_sized (C := Try.checked) own started (by kernel_rfl) Try.func4
    (ChangeSpec.witness6 (enc := enc) (C := Try.checked) false ⟨#[], #[.slice none 0 0, .agg #[.int .i64 0, .int .i64 0, .slice none 0 0, .slice none 0 0, .slice none 0 0, .slice none 0 0, .slice none 0 0, .int .i64 0, .int .i64 0]], []⟩ 8 (by kernel_rfl) (by kernel_rfl) (by kernel_rfl) (by kernel_rfl)) ?_
  intro W base args ds gs before hval0 hW hcnd hsz _
  have hval : ∀ (j : Nat) t v, Try.f4.params[j]? = some t → args[j]? = some v → Value.okWide Try.prog W .any base t v := hval0
  have hW' := hW
  obtain ⟨p, q, hA0, hV, rfl, hfz, hnd⟩ := hW
  have hA : DataW.TrodAll enc Try.prog W 0 (fun _ => true) true Try.f4.params.toList args.toList ds p := hA0
  rw [Try.params4] at hA hval
  obtain ⟨v0, vs0, d0, ds0, p0, q0, hargs, rfl, rfl, h0, r0⟩ := trodAll_cons hA
  obtain ⟨v1, vs1, d1, ds1, p1, q1, rfl, rfl, rfl, h1, r1⟩ := trodAll_cons r0
  obtain ⟨rfl, rfl, rfl⟩ := trodAll_nil r1
  obtain rfl : args = #[v0, v1] := by cases args; simp_all
  obtain ⟨rfl, rfl⟩ := trodVars_none hV
  obtain ⟨s0, rfl, k0, t0⟩ := open_ost (hval 0 26 v0 rfl rfl) h0
  obtain ⟨s1, rfl, k1⟩ := open_wld (hval 1 41 v1 rfl rfl) h1
  have hs0 : s0.l.length * 48 ≤ 140737488351232 := told_sized hsz (j := 0) rfl rfl Try.underlying26 (by kernel_rfl) t0
  clear hA0 hval0
  refine (walk s0 s1  W k0 hs0 k1).mono fun e W' ⟨he, hg⟩ => ?_
  subst he
  exact ⟨_, rfl, law_post (by kernel_rfl) (by kernel_rfl) rfl (by kernel_rfl) Try.underlying4 hW' rfl hg⟩

theorem over : Rows.orderSplitsRow.holds Try.pinned (OpenSpec.ofChange Rows.orderSplitsSpec) :=
  OpenClaim.holds_of_wide 4 Try.f4 rfl rfl rfl rfl rfl rfl rfl ⟨rfl, rfl, rfl, rfl, rfl⟩ rfl rfl rfl rfl rfl (by kernel_rfl) Try.func4 (by kernel_rfl)
    (of_decide_eq_true (by kernel_rfl)) (by unfold Func.isWrapper; first | (rw [if_pos (by decide +kernel)]; kernel_rfl) | (rw [if_neg (by decide +kernel)]; exact ⟨rfl, rfl⟩))
    (fun os started H enc _ => lifted os started H enc)

theorem proved : Rows.OrderSplitsSaid :=
  over
end Go.Proofs.Ytgebfpncapfaoaa.orderSplits

namespace Go.Proofs.Ytgebfpncapfaoaa
/-- Whatever list of orders and world is handed in, Split answers what the document says. -/
theorem orderSplits_holds : Rows.OrderSplitsSaid := orderSplits.proved
#print axioms orderSplits_holds
end Go.Proofs.Ytgebfpncapfaoaa
