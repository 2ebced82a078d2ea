/- Orders of two lists, one behind the other, are split as each of both. -/
import Derived.Test.YtgebfpncapfaoaaRows
import Derived.Test.YtgebfpncapfaoaaPost
import Derived.Test.YtgebfpncapfaoaaOr
import Derived.Test.YtgebfpncapfaoaaOl
import Derived.Test.YtgebfpncapfaoaaOs
import Derived.Test.YtgebfpncapfaoaaOq
import Derived.Test.YtgebfpncapfaoaaOz
import Derived.Test.YtgebfpncapfaoaaKx
import Derived.Deep.RegionHeld3
import Derived.Deep.DrawnRows
import Derived.WalkKit
import Derived.ProofKit
import Derived.OpenShut
import Derived.SizedLaws
import Derived.ChangeMaps5
import Derived.JoinedCond
namespace Go.Proofs.Ytgebfpncapfaoaa.orderParts
open Go.ChangeShapes Go.WideShapes Go.ChangeAt Go.RowKit
set_option linter.unusedVariables false

theorem own : ownKnob Try.prog.godebug = none := by kernel_rfl

theorem flen {α : Type} (P : Ord → Bool) (f : Ord → α) (l : List Ord) : ((l.filter P).map f).length ≤ l.length := by
  rw [List.length_map]; exact List.length_filter_le P l
theorem spe_zero {l : List Ord} {E : Int} (h : spe l E = 0) : oes l = 0 ∧ E = 0 := by
  unfold spe at h
  by_cases h0 : oes l = 0
  · rw [if_pos h0] at h; exact ⟨h0, h⟩
  · rw [if_neg h0] at h; exact absurd h h0
theorem spe_app {l m : List Ord} {E : Int} (h : spe l E = 0) (h2 : spe m E = 0) (hn : l.length + m.length ≤ 100) : spe (l ++ m) E = 0 := by
  obtain ⟨a1, a2⟩ := spe_zero h
  obtain ⟨b1, _⟩ := spe_zero h2
  have h0 : oes (l ++ m) = 0 := oes_ok (by rw [List.length_append]; exact hn) (fun o ho => by
    rcases List.mem_append.1 ho with ho | ho
    · exact (oes_zero a1).2 o ho
    · exact (oes_zero b1).2 o ho)
  unfold spe
  rw [if_pos h0]; exact a2
theorem spl_app {l m : List Ord} {s : Wld} {E : Int} (h : spe l E = 0) (h2 : spe m E = 0) (hn : l.length + m.length ≤ 100) : spl (l ++ m) s E = spl l s E ++ spl m s E := by
  rw [spl_ok h, spl_ok h2, spl_ok (spe_app h h2 hn), List.filter_append]
theorem spl_len {l : List Ord} {s : Wld} {E : Int} (h : spe l E = 0) : l.length ≤ 100 ∧ (spl l s E).length ≤ 100 := by
  have h0 := (oes_zero (spe_zero h).1).1
  rw [spl_ok h]
  exact ⟨h0, Nat.le_trans (List.length_filter_le _ _) h0⟩
theorem spb_app (l m : List Ord) : spb (l ++ m) = spb l ++ spb m := by unfold spb; rw [List.filter_append, List.map_append]
theorem spg_app (l m : List Ord) : spg (l ++ m) = spg l ++ spg m := by unfold spg; rw [List.filter_append, List.map_append]
theorem spd_app (l m : List Ord) : spd (l ++ m) = spd l ++ spd m := by unfold spd; rw [List.filter_append, List.map_append]
theorem wpList_append_run_w {P : Program} {ops : Array Oper} {rest : List Oper} {o : Oper} {a : Act} {w : World} {Q : Exit → Act → World → Prop} (hw : Region.wanted o (yielded ops a.tmps) = true) (s x : Operand) (t : TypeId)
    (ho : o.op = .call { callee := .builtin .append, args := #[s, x], argTypes := #[t, t] }) (v u : Value) (hs : a.eval s = v) (hx : a.eval x = u) {v' : Value} {w' : World} (hrun : (Builtin.append_ #[t, t] o.type #[v, u]).run P w = .ok v' w')
    (h : wpList P ops Q rest (a.put o.dst v') w') : wpList P ops Q (o :: rest) a w := by
  refine wpList_step fun K hK => ?_
  rw [if_pos hw]
  unfold Oper.wp
  simp [execOp, ho, resolve, invoke, builtin, hs, hx, hrun, Result.andThen]
  exact hK _ _ h

set_option maxRecDepth 20000 in
set_option maxHeartbeats 4000000 in
theorem walk (s0 : Ost) (s1 : Ost) (s2 : Wld)  (w : World) (h0 : s0.fit w) (hs0 : s0.l.length * 48 ≤ 140737488351232) (h1 : s1.fit w) (hs1 : s1.l.length * 48 ≤ 140737488351232) (h2 : s2.fit w) :
    Calls Try.prog 8 #[s0.val, s1.val, s2.val] w fun e w' => e = .returned (.bool true) ∧ Below w.heap.size w w' := by
  obtain ⟨E, hE⟩ := wre_total s2
  obtain ⟨hr, hf, hm, hp, hk⟩ := h0
  obtain ⟨hr2, hf2, hm2, hp2, hk2⟩ := h1
  have HEE : Hid (wre s2 E) := hE
  have HS : Hid (∀ V, Below w.heap.size w V → Calls Try.prog 16 #[.slice s0.p s0.l.length s0.c, s2.val] V (spt V s0.l s2 E)) := fun V hV => Split_any s0.p _ s0.c s0.l s2 E V (rowf_below hr hV) rfl hm hf (Wld.fit_below h2 hV) HEE.out
  have HM : Hid (∀ V, Below w.heap.size w V → Calls Try.prog 16 #[.slice s1.p s1.l.length s1.c, s2.val] V (spt V s1.l s2 E)) := fun V hV => Split_any s1.p _ s1.c s1.l s2 E V (rowf_below hr2 hV) rfl hm2 hf2 (Wld.fit_below h2 hV) HEE.out
  have HX : Hid (spe s0.l E = 0 → spe s1.l E = 0 → s0.l.length + s1.l.length ≤ 100 → ∀ V q d, Below w.heap.size w V → rowf to6 V q (s0.l ++ s1.l) → Calls Try.prog 16 #[.slice q (s0.l.length + s1.l.length) d, s2.val] V fun e w' => (∃ v1 v2 v3, e = .returned (.tuple #[v1, v2, v3, .int .i64 0]) ∧ minef 51 2 to2 V.heap.size w' v1 (spb (spl s0.l s2 E) ++ spb (spl s1.l s2 E)) ∧ minef 55 3 to3 V.heap.size w' v2 (spg (spl s0.l s2 E) ++ spg (spl s1.l s2 E)) ∧ minef 59 5 to5 V.heap.size w' v3 (spd (spl s0.l s2 E) ++ spd (spl s1.l s2 E))) ∧ Below V.heap.size V w') := fun e1 e2 hn V q d hV hq => by
    refine (Split_any q (s0.l.length + s1.l.length) d (s0.l ++ s1.l) s2 E V hq (by rw [List.length_append]) (by omega) (fun o ho => ?_) (Wld.fit_below h2 hV) HEE.out).mono ?_
    · rcases List.mem_append.1 ho with ho | ho
      · exact hf o ho
      · exact hf2 o ho
    · intro e w' h
      unfold spt at h
      rw [spe_app e1 e2 hn, spl_app e1 e2 hn, spb_app, spg_app, spd_app] at h
      exact h
  have HL1 : Hid (spe s0.l E = 0 → s0.l.length ≤ 100 ∧ (spl s0.l s2 E).length ≤ 100) := fun h => spl_len h
  have HL2 : Hid (spe s1.l E = 0 → s1.l.length ≤ 100 ∧ (spl s1.l s2 E).length ≤ 100) := fun h => spl_len h
  obtain ⟨E1, hE1⟩ : ∃ E1, spe s0.l E = E1 := ⟨_, rfl⟩
  obtain ⟨E2, hE2⟩ : ∃ E2, spe s1.l E = E2 := ⟨_, rfl⟩
  obtain ⟨L1, hL1⟩ : ∃ L, spl s0.l s2 E = L := ⟨_, rfl⟩
  obtain ⟨L2, hL2⟩ : ∃ L, spl s1.l s2 E = L := ⟨_, rfl⟩
  have HS : Hid (∀ V, Below w.heap.size w V → Calls Try.prog 16 #[.slice s0.p s0.l.length s0.c, s2.val] V fun e w' => (∃ v1 v2 v3, e = .returned (.tuple #[v1, v2, v3, .int .i64 E1]) ∧ minef 51 2 to2 V.heap.size w' v1 (spb L1) ∧ minef 55 3 to3 V.heap.size w' v2 (spg L1) ∧ minef 59 5 to5 V.heap.size w' v3 (spd L1)) ∧ Below V.heap.size V w') := fun V hV => by
    refine (HS.out V hV).mono ?_
    intro e w' h
    unfold spt at h
    rw [hE1, hL1] at h
    exact h
  have HM : Hid (∀ V, Below w.heap.size w V → Calls Try.prog 16 #[.slice s1.p s1.l.length s1.c, s2.val] V fun e w' => (∃ v1 v2 v3, e = .returned (.tuple #[v1, v2, v3, .int .i64 E2]) ∧ minef 51 2 to2 V.heap.size w' v1 (spb L2) ∧ minef 55 3 to3 V.heap.size w' v2 (spg L2) ∧ minef 59 5 to5 V.heap.size w' v3 (spd L2)) ∧ Below V.heap.size V w') := fun V hV => by
    refine (HM.out V hV).mono ?_
    intro e w' h
    unfold spt at h
    rw [hE2, hL2] at h
    exact h
  simp only [hE1, hE2, hL1, hL2] at HX HL1 HL2
  have HR1 : Hid (∀ V, Below w.heap.size w V → rowf to6 V s0.p s0.l) := fun V hV => rowf_below hr hV
  have HR2 : Hid (∀ V, Below w.heap.size w V → rowf to6 V s1.p s1.l) := fun V hV => rowf_below hr2 hV
  have HBN : Hid (s0.l.length ≤ 9223372036854775807 ∧ s1.l.length ≤ 9223372036854775807) := ⟨hm, hm2⟩
  clear hr hf hm hp hk hr2 hf2 hm2 hp2 hk2 h2 hs0 hs1 hE1 hE2 hL1 hL2 hE HEE
  obtain ⟨lp, lc, ll⟩ := s0
  obtain ⟨mp, mc, ml⟩ := s1
  obtain ⟨A, B, p, n, c, l, pb, nb, cb, lb, ps, ns, cs, ls, pm, nm, cm, lm, pt, nt, ct, lt, N, T⟩ := s2
  unfold Wld.val Ost.val at *
  dsimp only at *
  obtain ⟨nl, hnl⟩ : ∃ nl, ll.length = nl := ⟨_, rfl⟩
  obtain ⟨nn, hnn⟩ : ∃ nn, ml.length = nn := ⟨_, rfl⟩
  have HNL : Hid (ll.length = nl) := hnl
  have HNN : Hid (ml.length = nn) := hnn
  simp only [hnl, hnn] at HS HM HX HL1 HL2 HBN ⊢
  clear hnl hnn
  obtain ⟨F, hF⟩ : ∃ F, w.heap.size = F := ⟨_, rfl⟩
  obtain ⟨w0, hw0⟩ : ∃ w0, w.alloc (.cells #[.int .i64 A, .int .i64 B, .slice p n c, .slice pb nb cb, .slice ps ns cs, .slice pm nm cm, .slice pt nt ct, .int .i64 N, .int .i64 T] 41) = w0 := ⟨_, rfl⟩
  have HB0 : Hid (Below w.heap.size w w0) := by rw [← hw0]; exact alloc_below _ _
  have HBX : Hid (∀ V, Below w0.heap.size w0 V → c9 V F (.int .i64 A) (.int .i64 B) (.slice p n c) (.slice pb nb cb) (.slice ps ns cs) (.slice pm nm cm) (.slice pt nt ct) (.int .i64 N) (.int .i64 T)) := fun V hV => boxw hF hw0 hV
  have HUP : Hid (∀ V, Below w0.heap.size w0 V → Below w.heap.size w V) := fun V hV => below_step HB0.out HB0.out.size hV
  obtain ⟨z0, z1, z2, z3, z4, z5, z6, z7, z8⟩ := HBX.out w0 (Below.refl _ _)
  go_enter Try.func8, Try.ntmps8
  go_wp2_with fail
  clear hw0 hF
  refine (HS.out w0 HB0.out).mono ?_
  rintro e w1 ⟨⟨v1, v2, v3, rfl, hv1, hv2, hv3⟩, hb1⟩
  have HB1 : Hid (Below w0.heap.size w0 w1) := hb1
  obtain ⟨x1, hx1⟩ : ∃ k, (spb L1).length = k := ⟨_, rfl⟩
  have HAN1 : Hid ((spb L1).length = x1 ∧ x1 ≤ L1.length) := ⟨hx1, by rw [← hx1]; exact flen _ _ _⟩
  obtain ⟨Ap1, Ac1, rfl, Ar1⟩ := minef_form flt2 hv1 hx1
  have HAR1 : Hid (∀ V, Below w1.heap.size w1 V → rowf to2 V Ap1 (spb L1)) := fun V hV => rowf_below Ar1 hV
  obtain ⟨x2, hx2⟩ : ∃ k, (spg L1).length = k := ⟨_, rfl⟩
  have HAN2 : Hid ((spg L1).length = x2 ∧ x2 ≤ L1.length) := ⟨hx2, by rw [← hx2]; exact flen _ _ _⟩
  obtain ⟨Ap2, Ac2, rfl, Ar2⟩ := minef_form flt3 hv2 hx2
  have HAR2 : Hid (∀ V, Below w1.heap.size w1 V → rowf to3 V Ap2 (spg L1)) := fun V hV => rowf_below Ar2 hV
  obtain ⟨x3, hx3⟩ : ∃ k, (spd L1).length = k := ⟨_, rfl⟩
  have HAN3 : Hid ((spd L1).length = x3 ∧ x3 ≤ L1.length) := ⟨hx3, by rw [← hx3]; exact flen _ _ _⟩
  obtain ⟨Ap3, Ac3, rfl, Ar3⟩ := minef_form flt5 hv3 hx3
  have HAR3 : Hid (∀ V, Below w1.heap.size w1 V → rowf to5 V Ap3 (spd L1)) := fun V hV => rowf_below Ar3 hV
  clear hv1 hv2 hv3 hb1 hx1 hx2 hx3 Ar1 Ar2 Ar3 z0 z1 z2 z3 z4 z5 z6 z7 z8 HS
  obtain ⟨z0, z1, z2, z3, z4, z5, z6, z7, z8⟩ := HBX.out w1 HB1.out
  go_wp2_with fail
  refine (HM.out w1 (HUP.out w1 HB1.out)).mono ?_
  rintro e w2 ⟨⟨v1, v2, v3, rfl, hv1, hv2, hv3⟩, hb2⟩
  have HB2 : Hid (Below w0.heap.size w0 w2) := below_step HB1.out HB1.out.size hb2
  have HB12 : Hid (Below w1.heap.size w1 w2) := hb2
  obtain ⟨y1, hy1⟩ : ∃ k, (spb L2).length = k := ⟨_, rfl⟩
  have HCN1 : Hid ((spb L2).length = y1 ∧ y1 ≤ L2.length) := ⟨hy1, by rw [← hy1]; exact flen _ _ _⟩
  obtain ⟨Cp1, Cc1, rfl, Cr1⟩ := minef_form flt2 hv1 hy1
  have HCR1 : Hid (∀ V, Below w2.heap.size w2 V → rowf to2 V Cp1 (spb L2)) := fun V hV => rowf_below Cr1 hV
  obtain ⟨y2, hy2⟩ : ∃ k, (spg L2).length = k := ⟨_, rfl⟩
  have HCN2 : Hid ((spg L2).length = y2 ∧ y2 ≤ L2.length) := ⟨hy2, by rw [← hy2]; exact flen _ _ _⟩
  obtain ⟨Cp2, Cc2, rfl, Cr2⟩ := minef_form flt3 hv2 hy2
  have HCR2 : Hid (∀ V, Below w2.heap.size w2 V → rowf to3 V Cp2 (spg L2)) := fun V hV => rowf_below Cr2 hV
  obtain ⟨y3, hy3⟩ : ∃ k, (spd L2).length = k := ⟨_, rfl⟩
  have HCN3 : Hid ((spd L2).length = y3 ∧ y3 ≤ L2.length) := ⟨hy3, by rw [← hy3]; exact flen _ _ _⟩
  obtain ⟨Cp3, Cc3, rfl, Cr3⟩ := minef_form flt5 hv3 hy3
  have HCR3 : Hid (∀ V, Below w2.heap.size w2 V → rowf to5 V Cp3 (spd L2)) := fun V hV => rowf_below Cr3 hV
  clear hv1 hv2 hv3 hb2 hy1 hy2 hy3 Cr1 Cr2 Cr3 z0 z1 z2 z3 z4 z5 z6 z7 z8 HM
  go_wp2_with fail
  refine (lives_any w2).mono ?_
  rintro e w3 ⟨rfl, hb3⟩
  have HB3 : Hid (Below w0.heap.size w0 w3) := below_step HB2.out HB2.out.size hb3
  have HB13 : Hid (Below w1.heap.size w1 w3) := below_step HB12.out HB12.out.size hb3
  have HB23 : Hid (Below w2.heap.size w2 w3) := hb3
  clear hb3
  by_cases h1 : E1 = 0
  rotate_left
  · clear HX HL1 HL2
    go_wp2_with fail
    refine (lives_any w3).mono ?_
    rintro e w9 ⟨rfl, hb9⟩
    have HB9 : Hid (Below w0.heap.size w0 w9) := below_step HB3.out HB3.out.size hb9
    clear hb9
    go_wp2_with fail
    go_ret
    exact ⟨rfl, HUP.out w9 HB9.out⟩
  have HE1 : Hid (E1 = 0) := h1
  subst h1
  by_cases h2 : E2 = 0
  rotate_left
  · clear HX HL1 HL2
    go_wp2_with fail
    refine (lives_any w3).mono ?_
    rintro e w9 ⟨rfl, hb9⟩
    have HB9 : Hid (Below w0.heap.size w0 w9) := below_step HB3.out HB3.out.size hb9
    clear hb9
    go_wp2_with fail
    go_ret
    exact ⟨rfl, HUP.out w9 HB9.out⟩
  have HE2 : Hid (E2 = 0) := h2
  subst h2
  have HK1 : Hid (nl ≤ 100 ∧ L1.length ≤ 100) := HL1.out rfl
  have HK2 : Hid (nn ≤ 100 ∧ L2.length ≤ 100) := HL2.out rfl
  have a1 : (nl : Int) + (nn : Int) ≤ 200 := by have := HK1.out.1; have := HK2.out.1; omega
  have a2 : (0 : Int) ≤ (nl : Int) + (nn : Int) := by omega
  by_cases h3 : 100 < nl + nn
  · have h3' : (100 : Int) < (nl : Int) + (nn : Int) := by omega
    clear HX HL1 HL2
    go_wp2_with fail
    refine (lives_any w3).mono ?_
    rintro e w9 ⟨rfl, hb9⟩
    have HB9 : Hid (Below w0.heap.size w0 w9) := below_step HB3.out HB3.out.size hb9
    clear hb9
    go_wp2_with fail
    go_ret
    exact ⟨rfl, HUP.out w9 HB9.out⟩
  have h3' : ¬ (100 : Int) < (nl : Int) + (nn : Int) := by omega
  have h3d : decide ((100 : Int) < (nl : Int) + (nn : Int)) = false := by simp; omega
  have HS3 : Hid (∀ V q d, Below w.heap.size w V → rowf to6 V q (ll ++ ml) → Calls Try.prog 16 #[.slice q (nl + nn) d, .agg #[.int .i64 A, .int .i64 B, .slice p n c, .slice pb nb cb, .slice ps ns cs, .slice pm nm cm, .slice pt nt ct, .int .i64 N, .int .i64 T]] V fun e w' => (∃ v1 v2 v3, e = .returned (.tuple #[v1, v2, v3, .int .i64 0]) ∧ minef 51 2 to2 V.heap.size w' v1 (spb L1 ++ spb L2) ∧ minef 55 3 to3 V.heap.size w' v2 (spg L1 ++ spg L2) ∧ minef 59 5 to5 V.heap.size w' v3 (spd L1 ++ spd L2)) ∧ Below V.heap.size V w') := HX.out rfl rfl (by omega)
  have HAB : Hid ((ll ++ ml).length = nl + nn) := by show _ = _; rw [List.length_append, HNL.out, HNN.out]
  clear HX HL1 HL2 HE1 HE2
  have HK9 : Hid (∀ V, Below w3.heap.size w3 V → Below w3.heap.size w3 V ∧ V.cell? ⟨F, 0, none⟩ = some (.int .i64 A) ∧ V.cell? ⟨F, 1, none⟩ = some (.int .i64 B) ∧ V.cell? ⟨F, 2, none⟩ = some (.slice p n c) ∧ V.cell? ⟨F, 3, none⟩ = some (.slice pb nb cb) ∧ V.cell? ⟨F, 4, none⟩ = some (.slice ps ns cs) ∧ V.cell? ⟨F, 5, none⟩ = some (.slice pm nm cm) ∧ V.cell? ⟨F, 6, none⟩ = some (.slice pt nt ct) ∧ V.cell? ⟨F, 7, none⟩ = some (.int .i64 N) ∧ V.cell? ⟨F, 8, none⟩ = some (.int .i64 T)) := fun V hV => by
    obtain ⟨q0, q1, q2, q3, q4, q5, q6, q7, q8⟩ := HBX.out V (below_step HB3.out HB3.out.size hV)
    exact ⟨hV, q0, q1, q2, q3, q4, q5, q6, q7, q8⟩
  obtain ⟨z0, z1, z2, z3, z4, z5, z6, z7, z8⟩ := HBX.out w3 HB3.out
  have HU3 : Hid (∀ V, Below w3.heap.size w3 V → Below w.heap.size w V) := fun V hV => HUP.out V (below_step HB3.out HB3.out.size hV)
  go_wp2_with fail
  go_region_held3 (fun V => Below w3.heap.size w3 V ∧ V.cell? ⟨F, 0, none⟩ = some (.int .i64 A) ∧ V.cell? ⟨F, 1, none⟩ = some (.int .i64 B) ∧ V.cell? ⟨F, 2, none⟩ = some (.slice p n c) ∧ V.cell? ⟨F, 3, none⟩ = some (.slice pb nb cb) ∧ V.cell? ⟨F, 4, none⟩ = some (.slice ps ns cs) ∧ V.cell? ⟨F, 5, none⟩ = some (.slice pm nm cm) ∧ V.cell? ⟨F, 6, none⟩ = some (.slice pt nt ct) ∧ V.cell? ⟨F, 7, none⟩ = some (.int .i64 N) ∧ V.cell? ⟨F, 8, none⟩ = some (.int .i64 T)) (first | with_reducible assumption | with_reducible exact k9_drew (by assumption) | with_reducible exact HK9.out _ hB7 | with_reducible exact HK9.out _ hB6 | with_reducible exact HK9.out _ hB5 | with_reducible exact HK9.out _ (Below.drew (Below.refl _ _)) | with_reducible exact HK9.out _ (Below.refl _ _)) (first
    | (go_at_call 27; refine (Cloneo_any lp nl lc ll _ (HR1.out _ (HU3.out _ (And.left (by assumption)))) HNL.out (by have := HK1.out.1; omega)).mono ?_; rintro e w5 ⟨⟨v5, rfl, hm5⟩, hb5⟩; have hB5 : Below w3.heap.size w3 w5 := below_step (And.left (by assumption)) (Below.size (And.left (by assumption))) hb5; obtain ⟨v6, w6, hrun6, hm6, hg6⟩ := run_moref (d := mc) k6 hm5 (HR2.out _ (HU3.out _ hB5)) HNN.out (by have := HK1.out.1; have := HK2.out.1; have := HNL.out; omega) hb5.size; have hB6 : Below w3.heap.size w3 w6 := (hB5.grown hg6 hB5.size (fun k hk => Nat.le_trans (Below.size (And.left (by assumption))) (World.ownsRow.lt hm5 k hk).1)); obtain ⟨p6, c6, rfl, hr6⟩ := minef_form flt6 hm6 HAB.out)
    | (refine step_append_run rfl _ _ 26 rfl _ _ rfl rfl hrun6 ?_)
    | (go_at_call 16; refine (HS3.out w6 p6 c6 (HU3.out _ hB6) hr6).mono ?_; rintro e w7 ⟨⟨v1, v2, v3, rfl, hv1, hv2, hv3⟩, hb7⟩; have hB7 : Below w3.heap.size w3 w7 := below_step hB6 hB6.size hb7))
  have HB7 : Hid (Below w0.heap.size w0 w7 ∧ Below w1.heap.size w1 w7 ∧ Below w2.heap.size w2 w7) := ⟨below_step HB3.out HB3.out.size hB7, below_step HB13.out HB13.out.size hB7, below_step HB23.out HB23.out.size hB7⟩
  have hz1 : (spb L1 ++ spb L2).length = x1 + y1 := by rw [List.length_append, HAN1.out.1, HCN1.out.1]
  have HZN1 : Hid ((spb L1 ++ spb L2).length = x1 + y1) := hz1
  obtain ⟨Zp1, Zc1, rfl, Zr1⟩ := minef_form flt2 hv1 hz1
  have HZR1 : Hid (∀ V, Below w7.heap.size w7 V → rowf to2 V Zp1 (spb L1 ++ spb L2)) := fun V hV => rowf_below Zr1 hV
  have HXY1 : Hid (x1 ≤ 100 ∧ y1 ≤ 100) := ⟨by have := HAN1.out.2; have := HK1.out.2; omega, by have := HCN1.out.2; have := HK2.out.2; omega⟩
  have hz2 : (spg L1 ++ spg L2).length = x2 + y2 := by rw [List.length_append, HAN2.out.1, HCN2.out.1]
  have HZN2 : Hid ((spg L1 ++ spg L2).length = x2 + y2) := hz2
  obtain ⟨Zp2, Zc2, rfl, Zr2⟩ := minef_form flt3 hv2 hz2
  have HZR2 : Hid (∀ V, Below w7.heap.size w7 V → rowf to3 V Zp2 (spg L1 ++ spg L2)) := fun V hV => rowf_below Zr2 hV
  have HXY2 : Hid (x2 ≤ 100 ∧ y2 ≤ 100) := ⟨by have := HAN2.out.2; have := HK1.out.2; omega, by have := HCN2.out.2; have := HK2.out.2; omega⟩
  have hz3 : (spd L1 ++ spd L2).length = x3 + y3 := by rw [List.length_append, HAN3.out.1, HCN3.out.1]
  have HZN3 : Hid ((spd L1 ++ spd L2).length = x3 + y3) := hz3
  obtain ⟨Zp3, Zc3, rfl, Zr3⟩ := minef_form flt5 hv3 hz3
  have HZR3 : Hid (∀ V, Below w7.heap.size w7 V → rowf to5 V Zp3 (spd L1 ++ spd L2)) := fun V hV => rowf_below Zr3 hV
  have HXY3 : Hid (x3 ≤ 100 ∧ y3 ≤ 100) := ⟨by have := HAN3.out.2; have := HK1.out.2; omega, by have := HCN3.out.2; have := HK2.out.2; omega⟩
  have HBA7 : Hid (Below w7.heap.size w7 w7) := Below.refl _ _
  clear hm5 hb5 hB5 hrun6 hm6 hg6 hB6 hr6 hb7 hB7 hv1 hv2 hv3 hz1 hz2 hz3 Zr1 Zr2 Zr3 z0 z1 z2 z3 z4 z5 z6 z7 z8 h3' h3d a1 a2 h3
  go_wp2_with fail
  refine (Cloneb_any Ap1 x1 Ac1 (spb L1) w7 (HAR1.out _ HB7.out.2.1) HAN1.out.1 (by have := HXY1.out.1; omega)).mono ?_
  rintro e w8 ⟨⟨v1, rfl, hv1⟩, hb8⟩
  have HB8 : Hid (Below w0.heap.size w0 w8 ∧ Below w1.heap.size w1 w8 ∧ Below w2.heap.size w2 w8) := ⟨below_step HB7.out.1 HB7.out.1.size hb8, below_step HB7.out.2.1 HB7.out.2.1.size hb8, below_step HB7.out.2.2 HB7.out.2.2.size hb8⟩
  have HBA8 : Hid (Below w7.heap.size w7 w8) := below_step HBA7.out HBA7.out.size hb8
  obtain ⟨u1, w9, hrun, hu1, hg1⟩ := run_moref (d := Cc1) k2 hv1 (HCR1.out _ HB8.out.2.2) HCN1.out.1 (by have := HXY1.out; have := HAN1.out.1; omega) hb8.size
  have hlt1 : ∀ j, Value.ownBlock v1 = some j → w7.heap.size ≤ j := fun j hj => (World.ownsRow.lt hv1 j hj).1
  have HRUN1 : Hid _ := hrun
  have HB9 : Hid (Below w0.heap.size w0 w9 ∧ Below w1.heap.size w1 w9 ∧ Below w2.heap.size w2 w9) := ⟨HB8.out.1.grown hg1 HB8.out.1.size (fun j hj => Nat.le_trans HB7.out.1.size (hlt1 j hj)), HB8.out.2.1.grown hg1 HB8.out.2.1.size (fun j hj => Nat.le_trans HB7.out.2.1.size (hlt1 j hj)), HB8.out.2.2.grown hg1 HB8.out.2.2.size (fun j hj => Nat.le_trans HB7.out.2.2.size (hlt1 j hj))⟩
  have HBA9 : Hid (Below w7.heap.size w7 w9) := HBA8.out.grown hg1 HBA8.out.size (fun j hj => Nat.le_trans HBA7.out.size (hlt1 j hj))
  obtain ⟨Up1, Uc1, rfl, Ur1⟩ := minef_form flt2 hu1 HZN1.out
  have HUR1 : Hid (rowf to2 w9 Up1 (spb L1 ++ spb L2)) := Ur1
  clear hv1 hb8 hrun hu1 hg1 hlt1 Ur1
  go_wp2_with (at_builtin; refine wpList_append_run_w (by kernel_rfl) _ _ 42 rfl v1 (.slice Cp1 y1 Cc1) rfl rfl HRUN1.out ?_)
  clear HRUN1
  go_wp2_with fail
  refine (Equalb_b _ _ (x1 + y1) _ _ (spb L1 ++ spb L2) w9 HZN1.out (by have := HXY1.out; omega) (HZR1.out _ HBA9.out) HUR1.out).mono ?_
  rintro e w10 ⟨rfl, hb10⟩
  have HB10 : Hid (Below w0.heap.size w0 w10 ∧ Below w1.heap.size w1 w10 ∧ Below w2.heap.size w2 w10) := ⟨below_step HB9.out.1 HB9.out.1.size hb10, below_step HB9.out.2.1 HB9.out.2.1.size hb10, below_step HB9.out.2.2 HB9.out.2.2.size hb10⟩
  have HBA10 : Hid (Below w7.heap.size w7 w10) := below_step HBA9.out HBA9.out.size hb10
  clear hb10
  go_wp2_with fail
  refine (Cloneg_any Ap2 x2 Ac2 (spg L1) w10 (HAR2.out _ HB10.out.2.1) HAN2.out.1 (by have := HXY2.out.1; omega)).mono ?_
  rintro e w11 ⟨⟨v2, rfl, hv2⟩, hb11⟩
  have HB11 : Hid (Below w0.heap.size w0 w11 ∧ Below w1.heap.size w1 w11 ∧ Below w2.heap.size w2 w11) := ⟨below_step HB10.out.1 HB10.out.1.size hb11, below_step HB10.out.2.1 HB10.out.2.1.size hb11, below_step HB10.out.2.2 HB10.out.2.2.size hb11⟩
  have HBA11 : Hid (Below w7.heap.size w7 w11) := below_step HBA10.out HBA10.out.size hb11
  obtain ⟨u2, w12, hrun, hu2, hg2⟩ := run_moref (d := Cc2) k3 hv2 (HCR2.out _ HB11.out.2.2) HCN2.out.1 (by have := HXY2.out; have := HAN2.out.1; omega) hb11.size
  have hlt2 : ∀ j, Value.ownBlock v2 = some j → w10.heap.size ≤ j := fun j hj => (World.ownsRow.lt hv2 j hj).1
  have HRUN2 : Hid _ := hrun
  have HB12 : Hid (Below w0.heap.size w0 w12 ∧ Below w1.heap.size w1 w12 ∧ Below w2.heap.size w2 w12) := ⟨HB11.out.1.grown hg2 HB11.out.1.size (fun j hj => Nat.le_trans HB10.out.1.size (hlt2 j hj)), HB11.out.2.1.grown hg2 HB11.out.2.1.size (fun j hj => Nat.le_trans HB10.out.2.1.size (hlt2 j hj)), HB11.out.2.2.grown hg2 HB11.out.2.2.size (fun j hj => Nat.le_trans HB10.out.2.2.size (hlt2 j hj))⟩
  have HBA12 : Hid (Below w7.heap.size w7 w12) := HBA11.out.grown hg2 HBA11.out.size (fun j hj => Nat.le_trans HBA10.out.size (hlt2 j hj))
  obtain ⟨Up2, Uc2, rfl, Ur2⟩ := minef_form flt3 hu2 HZN2.out
  have HUR2 : Hid (rowf to3 w12 Up2 (spg L1 ++ spg L2)) := Ur2
  clear hv2 hb11 hrun hu2 hg2 hlt2 Ur2
  go_wp2_with (at_builtin; refine wpList_append_run_w (by kernel_rfl) _ _ 43 rfl v2 (.slice Cp2 y2 Cc2) rfl rfl HRUN2.out ?_)
  clear HRUN2
  go_wp2_with fail
  refine (Equalg_b _ _ (x2 + y2) _ _ (spg L1 ++ spg L2) w12 HZN2.out (by have := HXY2.out; omega) (HZR2.out _ HBA12.out) HUR2.out).mono ?_
  rintro e w13 ⟨rfl, hb13⟩
  have HB13 : Hid (Below w0.heap.size w0 w13 ∧ Below w1.heap.size w1 w13 ∧ Below w2.heap.size w2 w13) := ⟨below_step HB12.out.1 HB12.out.1.size hb13, below_step HB12.out.2.1 HB12.out.2.1.size hb13, below_step HB12.out.2.2 HB12.out.2.2.size hb13⟩
  have HBA13 : Hid (Below w7.heap.size w7 w13) := below_step HBA12.out HBA12.out.size hb13
  clear hb13
  go_wp2_with fail
  refine (Cloned_any Ap3 x3 Ac3 (spd L1) w13 (HAR3.out _ HB13.out.2.1) HAN3.out.1 (by have := HXY3.out.1; omega)).mono ?_
  rintro e w14 ⟨⟨v3, rfl, hv3⟩, hb14⟩
  have HB14 : Hid (Below w0.heap.size w0 w14 ∧ Below w1.heap.size w1 w14 ∧ Below w2.heap.size w2 w14) := ⟨below_step HB13.out.1 HB13.out.1.size hb14, below_step HB13.out.2.1 HB13.out.2.1.size hb14, below_step HB13.out.2.2 HB13.out.2.2.size hb14⟩
  have HBA14 : Hid (Below w7.heap.size w7 w14) := below_step HBA13.out HBA13.out.size hb14
  obtain ⟨u3, w15, hrun, hu3, hg3⟩ := run_moref (d := Cc3) k5 hv3 (HCR3.out _ HB14.out.2.2) HCN3.out.1 (by have := HXY3.out; have := HAN3.out.1; omega) hb14.size
  have hlt3 : ∀ j, Value.ownBlock v3 = some j → w13.heap.size ≤ j := fun j hj => (World.ownsRow.lt hv3 j hj).1
  have HRUN3 : Hid _ := hrun
  have HB15 : Hid (Below w0.heap.size w0 w15 ∧ Below w1.heap.size w1 w15 ∧ Below w2.heap.size w2 w15) := ⟨HB14.out.1.grown hg3 HB14.out.1.size (fun j hj => Nat.le_trans HB13.out.1.size (hlt3 j hj)), HB14.out.2.1.grown hg3 HB14.out.2.1.size (fun j hj => Nat.le_trans HB13.out.2.1.size (hlt3 j hj)), HB14.out.2.2.grown hg3 HB14.out.2.2.size (fun j hj => Nat.le_trans HB13.out.2.2.size (hlt3 j hj))⟩
  have HBA15 : Hid (Below w7.heap.size w7 w15) := HBA14.out.grown hg3 HBA14.out.size (fun j hj => Nat.le_trans HBA13.out.size (hlt3 j hj))
  obtain ⟨Up3, Uc3, rfl, Ur3⟩ := minef_form flt5 hu3 HZN3.out
  have HUR3 : Hid (rowf to5 w15 Up3 (spd L1 ++ spd L2)) := Ur3
  clear hv3 hb14 hrun hu3 hg3 hlt3 Ur3
  go_wp2_with (at_builtin; refine wpList_append_run_w (by kernel_rfl) _ _ 44 rfl v3 (.slice Cp3 y3 Cc3) rfl rfl HRUN3.out ?_)
  clear HRUN3
  go_wp2_with fail
  refine (Equald_b _ _ (x3 + y3) _ _ (spd L1 ++ spd L2) w15 HZN3.out (by have := HXY3.out; omega) (HZR3.out _ HBA15.out) HUR3.out).mono ?_
  rintro e w16 ⟨rfl, hb16⟩
  have HB16 : Hid (Below w0.heap.size w0 w16 ∧ Below w1.heap.size w1 w16 ∧ Below w2.heap.size w2 w16) := ⟨below_step HB15.out.1 HB15.out.1.size hb16, below_step HB15.out.2.1 HB15.out.2.1.size hb16, below_step HB15.out.2.2 HB15.out.2.2.size hb16⟩
  have HBA16 : Hid (Below w7.heap.size w7 w16) := below_step HBA15.out HBA15.out.size hb16
  clear hb16
  go_wp2_with fail
  go_ret
  exact ⟨rfl, HUP.out w16 HB16.out.1⟩

set_option maxRecDepth 100000 in
theorem lifted (os : Os) (started : os.Started) (H : Type) (enc : TypeId × Value → H) :
    ReturnsInHanded {} Try.checked os 8 .any (Rows.orderPartsSpec.pre6 enc Try.prog Try.f8 Rows.orderPartsRow.domain false) (Rows.orderPartsSpec.post enc Try.prog Try.f8 false true false false) := by
  refine returnsInHanded_of_change_sized (C := Try.checked) own started (by kernel_rfl) Try.func8
    (ChangeSpec.witness6 (enc := enc) (C := Try.checked) false ⟨#[], #[.slice none 0 0, .slice none 0 0, .agg #[.int .i64 0, .int .i64 0, .slice none 0 0, .slice none 0 0, .slice none 0 0, .slice none 0 0, .slice none 0 0, .int .i64 0, .int .i64 0]], []⟩ 8 (by kernel_rfl) (by kernel_rfl) (by kernel_rfl) (by kernel_rfl)) ?_
  intro W base args ds gs before hval0 hW hcnd hsz _
  have hval : ∀ (j : Nat) t v, Try.f8.params[j]? = some t → args[j]? = some v → Value.okWide Try.prog W .any base t v := hval0
  have hW' := hW
  obtain ⟨p, q, hA0, hV, rfl, hfz, hnd⟩ := hW
  have hA : DataW.TrodAll enc Try.prog W 0 (fun _ => true) true Try.f8.params.toList args.toList ds p := hA0
  rw [Try.params8] at hA hval
  obtain ⟨v0, vs0, d0, ds0, p0, q0, hargs, rfl, rfl, h0, r0⟩ := trodAll_cons hA
  obtain ⟨v1, vs1, d1, ds1, p1, q1, rfl, rfl, rfl, h1, r1⟩ := trodAll_cons r0
  obtain ⟨v2, vs2, d2, ds2, p2, q2, rfl, rfl, rfl, h2, r2⟩ := trodAll_cons r1
  obtain ⟨rfl, rfl, rfl⟩ := trodAll_nil r2
  obtain rfl : args = #[v0, v1, v2] := by cases args; simp_all
  obtain ⟨rfl, rfl⟩ := trodVars_none hV
  obtain ⟨s0, rfl, k0, t0⟩ := open_ost (hval 0 26 v0 rfl rfl) h0
  obtain ⟨s1, rfl, k1, t1⟩ := open_ost (hval 1 26 v1 rfl rfl) h1
  obtain ⟨s2, rfl, k2⟩ := open_wld (hval 2 41 v2 rfl rfl) h2
  have hs0 : s0.l.length * 48 ≤ 140737488351232 := told_sized hsz (j := 0) rfl rfl Try.underlying26 (by kernel_rfl) t0
  have hs1 : s1.l.length * 48 ≤ 140737488351232 := told_sized hsz (j := 1) rfl rfl Try.underlying26 (by kernel_rfl) t1
  clear hA0 hval0
  refine (walk s0 s1 s2  W k0 hs0 k1 hs1 k2).mono fun e W' ⟨he, hg⟩ => ?_
  subst he
  exact ⟨_, rfl, law_post (by kernel_rfl) (by kernel_rfl) rfl (by kernel_rfl) Try.underlying4 hW' rfl hg⟩

theorem over : Rows.orderPartsRow.holds Try.pinned (OpenSpec.ofChange Rows.orderPartsSpec) :=
  OpenClaim.holds_of_wide 8 Try.f8 rfl rfl rfl rfl rfl rfl rfl ⟨rfl, rfl, rfl, rfl, rfl⟩ rfl rfl rfl rfl rfl (by kernel_rfl) Try.func8 (by kernel_rfl)
    (of_decide_eq_true (by kernel_rfl)) (by unfold Func.isWrapper; first | (rw [if_pos (by decide +kernel)]; kernel_rfl) | (rw [if_neg (by decide +kernel)]; exact ⟨rfl, rfl⟩))
    (fun os started H enc _ => lifted os started H enc)

theorem proved : Rows.OrderPartsSaid :=
  over
end Go.Proofs.Ytgebfpncapfaoaa.orderParts

namespace Go.Proofs.Ytgebfpncapfaoaa
/-- Orders of two lists, one behind the other, are split as each of both. -/
theorem orderParts_holds : Rows.OrderPartsSaid := orderParts.proved
#print axioms orderParts_holds
end Go.Proofs.Ytgebfpncapfaoaa
