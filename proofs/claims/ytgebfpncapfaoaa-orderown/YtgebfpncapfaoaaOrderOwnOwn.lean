/- No one gives an order to another one's troop: all that is split of the orders of one player is of that player's troops. -/
import Derived.Test.YtgebfpncapfaoaaRows
import Derived.Test.YtgebfpncapfaoaaPost
import Derived.Test.YtgebfpncapfaoaaOr
import Derived.Test.YtgebfpncapfaoaaOl
import Derived.Test.YtgebfpncapfaoaaOs
import Derived.Test.YtgebfpncapfaoaaOz
import Derived.Test.YtgebfpncapfaoaaDz
import Derived.Test.YtgebfpncapfaoaaRg
import Derived.WalkKit
import Derived.ProofKit
import Derived.OpenShut
import Derived.SizedLaws
import Derived.ChangeMaps5
import Derived.JoinedCond
namespace Go.Proofs.Ytgebfpncapfaoaa.orderOwn
open Go.ChangeShapes Go.WideShapes Go.ChangeAt Go.RowKit
set_option linter.unusedVariables false

theorem own : ownKnob Try.prog.godebug = none := by kernel_rfl

theorem spe_zero {l : List Ord} {E : Int} (h : spe l E = 0) : oes l = 0 ∧ E = 0 := by
  unfold spe at h
  by_cases h0 : oes l = 0
  · rw [if_pos h0] at h; exact ⟨h0, h⟩
  · rw [if_neg h0] at h; exact absurd h h0
/-- An order that is split is of that player, and of a troop of its own, or to make one. -/
theorem spl_own {l : List Ord} {s : Wld} {E y : Int} (hE : wre s E) (h : spe (l.filter (kpo y)) E = 0) {o : Ord} (ho : o ∈ spl (l.filter (kpo y)) s E) : o.b = y ∧ oe o = 0 ∧ (o.k ≠ 5 → fown s.lt o.w = some y) := by
  obtain ⟨h0, h1⟩ := spe_zero h
  subst h1
  obtain ⟨W, H, hk⟩ := wre_ok hE
  rw [spl_ok h] at ho
  obtain ⟨m1, m2⟩ := List.mem_filter.1 ho
  have m3 := (oes_zero h0).2 o m1
  have m4 : o.b = y := by have := (List.mem_filter.1 m1).2; unfold kpo at this; simpa using this
  refine ⟨m4, m3, fun h5 => ?_⟩
  unfold alw at m2
  rw [if_neg h5, lown_first hk.tr.2.1] at m2
  rw [← m4]
  simpa using m2
theorem three_len : ∀ L : List Ord, (spb L).length + (spg L).length + (spd L).length ≤ L.length
  | [] => by simp [spb, spg, spd]
  | o :: L => by
    have ih := three_len L
    unfold spb spg spd at ih ⊢
    simp only [List.length_map] at ih ⊢
    by_cases h1 : o.k = 1
    · simp [isb, isg, isd, h1] at ih ⊢; omega
    · by_cases h2 : o.k = 2
      · simp [isb, isg, isd, h2] at ih ⊢; omega
      · by_cases h3 : 2 < o.k
        · simp [isb, isg, isd, h1, h2, h3] at ih ⊢; omega
        · simp [isb, isg, isd, h1, h2, h3] at ih ⊢; omega
theorem spl_le (l : List Ord) (s : Wld) (E : Int) : (spl l s E).length ≤ l.length := by
  unfold spl
  split
  · exact List.length_filter_le _ _
  · simp

set_option maxRecDepth 20000 in
set_option maxHeartbeats 4000000 in
theorem walk (s0 : Ost) (s1 : Wld) (a2 : Int) (w2 : (Lit.int .i64 a2).wf = true) (w : World) (h0 : s0.fit w) (hs0 : s0.l.length * 48 ≤ 140737488351232) (h1 : s1.fit w) :
    Calls Try.prog 7 #[s0.val, s1.val, .int .i64 a2] w fun e w' => e = .returned (.bool true) ∧ Below w.heap.size w w' := by
  obtain ⟨E, hE⟩ := wre_total s1
  obtain ⟨hr, hf, hm, hp, hk⟩ := h0
  have HEE : Hid (wre s1 E) := hE
  have HCL : Hid (∀ V, Below w.heap.size w V → Calls Try.prog 27 #[.slice s0.p s0.l.length s0.c] V fun e w' => (∃ v, e = .returned v ∧ minef 25 6 to6 V.heap.size w' v s0.l) ∧ Below V.heap.size V w') := fun V hV => Cloneo_any s0.p _ s0.c s0.l V (rowf_below hr hV) rfl (by omega)
  have HNB : Hid (s0.l.length ≤ 4000000000000) := by show _ ≤ _; omega
  obtain ⟨Q, hQ⟩ : ∃ Q, s0.l.filter (kpo a2) = Q := ⟨_, rfl⟩
  have HQL : Hid (Q.length ≤ s0.l.length) := by rw [← hQ]; exact List.length_filter_le _ _
  have HS : Hid (∀ V q m d, Below w.heap.size w V → rowf to6 V q Q → Q.length = m → Calls Try.prog 16 #[.slice q m d, s1.val] V fun e w' => (∃ v1 v2 v3, e = .returned (.tuple #[v1, v2, v3, .int .i64 (spe Q E)]) ∧ minef 51 2 to2 V.heap.size w' v1 (spb (spl Q s1 E)) ∧ minef 55 3 to3 V.heap.size w' v2 (spg (spl Q s1 E)) ∧ minef 59 5 to5 V.heap.size w' v3 (spd (spl Q s1 E))) ∧ Below V.heap.size V w') := fun V q m d hV hq hm' => by
    refine (Split_any q m d Q s1 E V hq hm' (by have := HQL.out; have := HNB.out; omega) (fun o ho => ?_) (Wld.fit_below h1 hV) HEE.out).mono ?_
    · rw [← hQ] at ho
      exact hf o (List.mem_filter.1 ho).1
    · intro e w' h
      exact h
  have HOW : Hid (spe Q E = 0 → ∀ o ∈ spl Q s1 E, o.b = a2 ∧ oe o = 0 ∧ (o.k ≠ 5 → fown s1.lt o.w = some a2)) := fun h o ho => by
    rw [← hQ] at h ho
    exact spl_own HEE.out h ho
  have HLN : Hid ((spl Q s1 E).length ≤ Q.length) := spl_le _ _ _
  have HFN : Hid (∀ V id F Bb, Below w.heap.size w V → c9 V F (.int .i64 s1.A) (.int .i64 s1.B) (.slice s1.p s1.n s1.c) (.slice s1.pb s1.nb s1.cb) (.slice s1.ps s1.ns s1.cs) (.slice s1.pm s1.nm s1.cm) (.slice s1.pt s1.nt s1.ct) (.int .i64 s1.N) (.int .i64 s1.T) → V.cell? ⟨Bb, 0, none⟩ = some (.int .i64 a2) → fown s1.lt id = some a2 → Calls Try.prog 29 #[.int .i64 id, .pointer (some ⟨F, 0, none⟩), .pointer (some ⟨Bb, 0, none⟩)] V fun e w' => e = .returned (.bool true) ∧ Below V.heap.size V w') := fun V id F Bb hV hb hc hi => by
    refine (owned_any id a2 s1 F Bb V (Wld.fit_below h1 hV) hb hc).mono ?_
    rintro e w' ⟨rfl, hb'⟩
    exact ⟨by rw [decide_eq_true hi], hb'⟩
  obtain ⟨L, hL⟩ : ∃ L, spl Q s1 E = L := ⟨_, rfl⟩
  obtain ⟨SE, hSE⟩ : ∃ SE, spe Q E = SE := ⟨_, rfl⟩
  have HSM : Hid ((spb L).length + (spg L).length + (spd L).length ≤ L.length) := three_len L
  simp only [hL, hSE] at HS HOW HLN
  have HQ : Hid (s0.l.filter (kpo a2) = Q) := hQ
  obtain ⟨FO, hFO⟩ : ∃ FO, fown s1.lt = FO := ⟨_, rfl⟩
  simp only [hFO] at HOW HFN
  have HDL : Hid (∀ V B p' c' Bb, minef 25 6 to6 B V (.slice p' s0.l.length c') s0.l → V.cell? ⟨Bb, 0, none⟩ = some (.int .i64 a2) → Bb < B → Calls Try.prog 26 #[.slice p' s0.l.length c', .func (.func 28) #[] #[.pointer (some ⟨Bb, 0, none⟩)]] V fun e w' => (∃ m, e = .returned (.slice p' m c') ∧ Q.length = m ∧ minef 25 6 to6 B w' (.slice p' m c') Q) ∧ Ex (fun k => some k = (Value.slice p' s0.l.length c').ownBlock) V w') := fun V B p' c' Bb hv hc hB => by
    have h := DeleteFunco_any B s0.l.length c' p' s0.l a2 Bb V hv rfl HNB.out hc hB
    rw [HQ.out] at h
    exact h
  clear hr hf hm hp hk h1 hs0 w2 hQ hL hSE hE HEE HQ hFO
  obtain ⟨lp, lc, ll⟩ := s0
  obtain ⟨A, B, p, n, c, l, pb, nb, cb, lb, ps, ns, cs, ls, pm, nm, cm, lm, pt, nt, ct, lt, N, T⟩ := s1
  unfold Wld.val Ost.val at *
  dsimp only at *
  obtain ⟨nl, hnl⟩ : ∃ nl, ll.length = nl := ⟨_, rfl⟩
  have HNL : Hid (ll.length = nl) := hnl
  simp only [hnl] at HCL HNB HQL HDL ⊢
  clear hnl
  obtain ⟨F, hF⟩ : ∃ F, w.heap.size = F := ⟨_, rfl⟩
  obtain ⟨wa, hwa⟩ : ∃ wa, w.alloc (.cells #[.int .i64 A, .int .i64 B, .slice p n c, .slice pb nb cb, .slice ps ns cs, .slice pm nm cm, .slice pt nt ct, .int .i64 N, .int .i64 T] 41) = wa := ⟨_, rfl⟩
  have sa : wa.heap.size = F + 1 := by rw [← hwa, World.size_alloc, hF]
  obtain ⟨w0, hw0⟩ : ∃ w0, wa.alloc (.cells #[.int .i64 a2] 3) = w0 := ⟨_, rfl⟩
  have ba : Below wa.heap.size wa w0 := by rw [← hw0]; exact alloc_below _ _
  have hba : Below w.heap.size w wa := by rw [← hwa]; exact alloc_below _ _
  have HB0 : Hid (Below w.heap.size w w0) := below_step hba hba.size ba
  have hs0 : w0.heap.size = F + 2 := by rw [← hw0, World.size_alloc, sa]
  have HSZ : Hid (w0.heap.size = F + 2) := hs0
  have HBX : Hid (∀ V, Below w0.heap.size w0 V → c9 V F (.int .i64 A) (.int .i64 B) (.slice p n c) (.slice pb nb cb) (.slice ps ns cs) (.slice pm nm cm) (.slice pt nt ct) (.int .i64 N) (.int .i64 T)) := fun V hV => boxw hF hwa (below_step ba ba.size hV)
  have hy0 : w0.cell? ⟨F + 1, 0, none⟩ = some (.int .i64 a2) := by rw [← hw0, ← sa]; exact new_one _ _ _
  have HBY : Hid (∀ V, Below w0.heap.size w0 V → V.cell? ⟨F + 1, 0, none⟩ = some (.int .i64 a2)) := fun V hV => cell_kept hy0 hV
  have HUP : Hid (∀ V, Below w0.heap.size w0 V → Below w.heap.size w V) := fun V hV => below_step HB0.out HB0.out.size hV
  clear ba hba hy0 hs0
  go_enter Try.func7, Try.ntmps7
  go_wp2_with fail
  clear hw0 hF hwa sa
  refine (HCL.out w0 HB0.out).mono ?_
  rintro e w1 ⟨⟨v1, rfl, hv1⟩, hb1⟩
  have HB1 : Hid (Below w0.heap.size w0 w1) := hb1
  obtain ⟨p1, c1, rfl, hr1⟩ := minef_form flt6 hv1 HNL.out
  have HD1 : Hid (minef 25 6 to6 w0.heap.size w1 (.slice p1 nl c1) ll) := hv1
  clear hv1 hr1 hb1 HCL
  go_wp2_with fail
  refine Calls.mono (HDL.out w1 w0.heap.size p1 c1 (F + 1) HD1.out (HBY.out w1 HB1.out) (by have := HSZ.out; omega)) ?_
  rintro e w2 ⟨⟨m, rfl, hqm, hv2⟩, hx2⟩
  have HB2 : Hid (Below w0.heap.size w0 w2) := HB1.out.trans (hx2.below HB1.out.size (fun k hk e => by have := (World.ownsRow.lt HD1.out k e.symm).1; omega))
  have HQM : Hid (Q.length = m) := hqm
  have hr2 : rowf to6 w2 p1 Q := by
    obtain ⟨p', c', e, h⟩ := minef_form flt6 hv2 hqm
    injection e with e1 e2 e3
    subst e1
    exact h
  have HR2 : Hid (rowf to6 w2 p1 Q) := hr2
  clear hqm hv2 hx2 hr2 HDL HD1
  obtain ⟨z0, z1, z2, z3, z4, z5, z6, z7, z8⟩ := HBX.out w2 HB2.out
  go_wp2_with fail
  refine (HS.out w2 p1 m c1 (HUP.out w2 HB2.out) HR2.out HQM.out).mono ?_
  rintro e w3 ⟨⟨v1, v2, v3, rfl, hv1, hv2, hv3⟩, hb3⟩
  have HB3 : Hid (Below w0.heap.size w0 w3) := below_step HB2.out HB2.out.size hb3
  obtain ⟨x1, hx1⟩ : ∃ k, (spb L).length = k := ⟨_, rfl⟩
  have HN1 : Hid ((spb L).length = x1) := hx1
  obtain ⟨q1, d1, rfl, r1⟩ := minef_form flt2 hv1 hx1
  have HR1' : Hid (∀ V, Below w3.heap.size w3 V → rowf to2 V q1 (spb L)) := fun V hV => rowf_below r1 hV
  obtain ⟨x2, hx2⟩ : ∃ k, (spg L).length = k := ⟨_, rfl⟩
  have HN2 : Hid ((spg L).length = x2) := hx2
  obtain ⟨q2, d2, rfl, r2⟩ := minef_form flt3 hv2 hx2
  have HR2' : Hid (∀ V, Below w3.heap.size w3 V → rowf to3 V q2 (spg L)) := fun V hV => rowf_below r2 hV
  obtain ⟨x3, hx3⟩ : ∃ k, (spd L).length = k := ⟨_, rfl⟩
  have HN3 : Hid ((spd L).length = x3) := hx3
  obtain ⟨q3, d3, rfl, r3⟩ := minef_form flt5 hv3 hx3
  have HR3' : Hid (∀ V, Below w3.heap.size w3 V → rowf to5 V q3 (spd L)) := fun V hV => rowf_below r3 hV
  clear hv1 hv2 hv3 hb3 hx1 hx2 hx3 r1 r2 r3 z0 z1 z2 z3 z4 z5 z6 z7 z8 HS HR2
  go_wp2_with fail
  refine (lives_any w3).mono ?_
  rintro e w4 ⟨rfl, hb4⟩
  have HB4 : Hid (Below w0.heap.size w0 w4) := below_step HB3.out HB3.out.size hb4
  have HB34 : Hid (Below w3.heap.size w3 w4) := hb4
  clear hb4
  by_cases hse : SE = 0
  rotate_left
  · clear HOW HFN
    go_wp2_with fail
    refine (lives_any w4).mono ?_
    rintro e w9 ⟨rfl, hb9⟩
    have HB9 : Hid (Below w0.heap.size w0 w9) := below_step HB4.out HB4.out.size hb9
    clear hb9
    go_wp2_with fail
    go_ret
    exact ⟨rfl, HUP.out w9 HB9.out⟩
  have HW : Hid (∀ o ∈ L, o.b = a2 ∧ oe o = 0 ∧ (o.k ≠ 5 → FO o.w = some a2)) := HOW.out hse
  subst hse
  have HFB : Hid (∀ x ∈ spb L, FO x.b = some a2) := fun x hx => by
    unfold spb at hx
    obtain ⟨o, ho, rfl⟩ := List.mem_map.1 hx
    obtain ⟨m1, m2⟩ := List.mem_filter.1 ho
    have hk : o.k = 1 := by unfold isb at m2; simpa using m2
    exact (HW.out o m1).2.2 (by omega)
  have HFG : Hid (∀ x ∈ spg L, FO x.i = some a2) := fun x hx => by
    unfold spg at hx
    obtain ⟨o, ho, rfl⟩ := List.mem_map.1 hx
    obtain ⟨m1, m2⟩ := List.mem_filter.1 ho
    have hk : o.k = 2 := by unfold isg at m2; simpa using m2
    exact (HW.out o m1).2.2 (by omega)
  have HFD : Hid (∀ x ∈ spd L, (x.k = 3 → x.w = a2) ∧ (x.k ≠ 3 → FO x.w = some a2)) := fun x hx => by
    unfold spd at hx
    obtain ⟨o, ho, rfl⟩ := List.mem_map.1 hx
    obtain ⟨m1, m2⟩ := List.mem_filter.1 ho
    have hk : 2 < o.k := by unfold isd at m2; simpa using m2
    obtain ⟨y1, y2, y3⟩ := HW.out o m1
    unfold ded
    by_cases k3 : o.k = 3
    · rw [if_pos k3]
      exact ⟨fun h => absurd (show (1 : Int) = 3 from h) (by decide), fun _ => y3 (by omega)⟩
    · rw [if_neg k3]
      by_cases k4 : o.k = 4
      · rw [if_pos k4]
        exact ⟨fun h => absurd (show (2 : Int) = 3 from h) (by decide), fun _ => y3 (by omega)⟩
      · rw [if_neg k4]
        exact ⟨fun _ => y1, fun h => absurd rfl h⟩
  have HOK : Hid (∀ V id, Below w0.heap.size w0 V → FO id = some a2 → Calls Try.prog 29 #[.int .i64 id, .pointer (some ⟨F, 0, none⟩), .pointer (some ⟨F + 1, 0, none⟩)] V fun e w' => e = .returned (.bool true) ∧ Below V.heap.size V w') := fun V id hV hi => HFN.out V id F (F + 1) (HUP.out V hV) (HBX.out V hV) (HBY.out V hV) hi
  have HXX : Hid (x1 + x2 + x3 ≤ m ∧ m ≤ 4000000000000) := by
    have e1 := HSM.out
    have e2 := HLN.out
    have e3 := HQL.out
    have e4 := HNB.out
    have e5 := HQM.out
    have e6 := HN1.out
    have e7 := HN2.out
    have e8 := HN3.out
    exact ⟨by omega, by omega⟩
  have HR1 : Hid (∀ V, Below w4.heap.size w4 V → rowf to2 V q1 (spb L)) := fun V hV => HR1'.out V (below_step HB34.out HB34.out.size hV)
  have HR2 : Hid (∀ V, Below w4.heap.size w4 V → rowf to3 V q2 (spg L)) := fun V hV => HR2'.out V (below_step HB34.out HB34.out.size hV)
  have HR3 : Hid (∀ V, Below w4.heap.size w4 V → rowf to5 V q3 (spd L)) := fun V hV => HR3'.out V (below_step HB34.out HB34.out.size hV)
  have HU4 : Hid (∀ V, Below w4.heap.size w4 V → Below w0.heap.size w0 V) := fun V hV => below_step HB4.out HB4.out.size hV
  have bx1 : x1 ≤ 4000000000000 := by have := HXX.out; omega
  have bx2 : x2 ≤ 4000000000000 := by have := HXX.out; omega
  have bx3 : x3 ≤ 4000000000000 := by have := HXX.out; omega
  clear HOW HFN HW HSM HLN HQL HNB HQM HR1' HR2' HR3' HB34
  go_wp2_with fail
  go_loopw [41] (fun i wr => ∃ k : Nat, i = .int .i64 (k : Int) ∧ k ≤ x1 ∧ Hid (Below w4.heap.size w4 wr)) (fun i _ => x1 - (intOf i).toNat)
  case atStart => exact ⟨0, rfl, by omega, Below.refl _ _⟩
  case round =>
    obtain ⟨k, rfl, hk, HK1⟩ := hrel
    by_cases hlt : k < x1
    · have hkl : k < (spb L).length := by rw [HN1.out]; exact hlt
      obtain ⟨ad, rfl, ha⟩ := rowf_at flt2 (HR1.out _ HK1.out) hkl
      have hmem := List.getElem_mem hkl
      obtain ⟨X, hX⟩ : ∃ X, (spb L)[k] = X := ⟨_, rfl⟩
      rw [hX] at ha hmem
      have hown := HFB.out X hmem
      obtain ⟨e0, e1⟩ := X
      dsimp only at hown
      have y0 : wr.cell? (ad.add (k * 2)) = some (.int .i64 e0) := by simpa [Addr.add] using ha 0 _ rfl
      have y1 : wr.cell? ⟨(ad.add (k * 2)).block, (ad.add (k * 2)).off + 1, none⟩ = some (.int .i64 e1) := ha 1 _ rfl
      obtain ⟨w5, hw5⟩ : ∃ w5, wr.alloc (.cells #[.int .i64 e0, .int .i64 e1] 51) = w5 := ⟨_, rfl⟩
      obtain ⟨G, hG⟩ : ∃ G, wr.heap.size = G := ⟨_, rfl⟩
      have hb5 : Below wr.heap.size wr w5 := by rw [← hw5]; exact alloc_below _ _
      have HB5 : Hid (Below w4.heap.size w4 w5) := below_step HK1.out HK1.out.size hb5
      have hblk : w5.heap[G]? = some (.cells #[.int .i64 e0, .int .i64 e1] 51) := by rw [← hw5, ← hG]; exact World.alloc_heap_new wr _
      have g0 : w5.cell? ⟨G, 0, none⟩ = some (.int .i64 e0) := by simp [World.cell?, hblk]
      have g1 : w5.cell? ⟨G, 1, none⟩ = some (.int .i64 e1) := by simp [World.cell?, hblk]
      have l1 : (k : Int) < x1 := by omega
      have l2 : (0 : Int) ≤ k := by omega
      clear ha hmem hX hkl hb5
      have HC5 : Hid (Calls Try.prog 29 #[.int .i64 e0, .pointer (some ⟨F, 0, none⟩), .pointer (some ⟨F + 1, 0, none⟩)] w5 fun e w' => e = .returned (.bool true) ∧ Below w5.heap.size w5 w') := HOK.out w5 e0 (HU4.out w5 HB5.out) hown
      clear hown hblk
      go_wp2_with fail
      refine Calls.mono HC5.out ?_
      rintro e w6 ⟨rfl, hb6⟩
      have HB6 : Hid (Below w4.heap.size w4 w6) := below_step HB5.out HB5.out.size hb6
      clear hb6 HC5 hw5 hG
      go_wp2_with fail
      go_roundw
      case rel => exact ⟨k + 1, by go_num, by omega, HB6.out⟩
      case measure => simp [intOf]; omega
    · obtain rfl : x1 = k := by omega
      have HS1 : Hid (Below w4.heap.size w4 wr) := HK1.out
      go_wp2_with fail
      go_loopw [53] (fun i wr => ∃ k : Nat, i = .int .i64 (k : Int) ∧ k ≤ x2 ∧ Hid (Below w4.heap.size w4 wr)) (fun i _ => x2 - (intOf i).toNat)
      case atStart => exact ⟨0, rfl, by omega, HS1.out⟩
      case round =>
        obtain ⟨k, rfl, hk, HK2⟩ := hrel
        by_cases hlt : k < x2
        · have hkl : k < (spg L).length := by rw [HN2.out]; exact hlt
          obtain ⟨ad, rfl, ha⟩ := rowf_at flt3 (HR2.out _ HK2.out) hkl
          have hmem := List.getElem_mem hkl
          obtain ⟨X, hX⟩ : ∃ X, (spg L)[k] = X := ⟨_, rfl⟩
          rw [hX] at ha hmem
          have hown := HFG.out X hmem
          obtain ⟨e0, e1, e2⟩ := X
          dsimp only at hown
          have y0 : wr.cell? (ad.add (k * 3)) = some (.int .i64 e0) := by simpa [Addr.add] using ha 0 _ rfl
          have y1 : wr.cell? ⟨(ad.add (k * 3)).block, (ad.add (k * 3)).off + 1, none⟩ = some (.int .i64 e1) := ha 1 _ rfl
          have y2 : wr.cell? ⟨(ad.add (k * 3)).block, (ad.add (k * 3)).off + 2, none⟩ = some (.int .i64 e2) := ha 2 _ rfl
          obtain ⟨w5, hw5⟩ : ∃ w5, wr.alloc (.cells #[.int .i64 e0, .int .i64 e1, .int .i64 e2] 55) = w5 := ⟨_, rfl⟩
          obtain ⟨G, hG⟩ : ∃ G, wr.heap.size = G := ⟨_, rfl⟩
          have hb5 : Below wr.heap.size wr w5 := by rw [← hw5]; exact alloc_below _ _
          have HB5 : Hid (Below w4.heap.size w4 w5) := below_step HK2.out HK2.out.size hb5
          have hblk : w5.heap[G]? = some (.cells #[.int .i64 e0, .int .i64 e1, .int .i64 e2] 55) := by rw [← hw5, ← hG]; exact World.alloc_heap_new wr _
          have g0 : w5.cell? ⟨G, 0, none⟩ = some (.int .i64 e0) := by simp [World.cell?, hblk]
          have g1 : w5.cell? ⟨G, 1, none⟩ = some (.int .i64 e1) := by simp [World.cell?, hblk]
          have g2 : w5.cell? ⟨G, 2, none⟩ = some (.int .i64 e2) := by simp [World.cell?, hblk]
          have l1 : (k : Int) < x2 := by omega
          have l2 : (0 : Int) ≤ k := by omega
          clear ha hmem hX hkl hb5
          have HC5 : Hid (Calls Try.prog 29 #[.int .i64 e0, .pointer (some ⟨F, 0, none⟩), .pointer (some ⟨F + 1, 0, none⟩)] w5 fun e w' => e = .returned (.bool true) ∧ Below w5.heap.size w5 w') := HOK.out w5 e0 (HU4.out w5 HB5.out) hown
          clear hown hblk
          go_wp2_with fail
          refine Calls.mono HC5.out ?_
          rintro e w6 ⟨rfl, hb6⟩
          have HB6 : Hid (Below w4.heap.size w4 w6) := below_step HB5.out HB5.out.size hb6
          clear hb6 HC5 hw5 hG
          go_wp2_with fail
          go_roundw
          case rel => exact ⟨k + 1, by go_num, by omega, HB6.out⟩
          case measure => simp [intOf]; omega
        · obtain rfl : x2 = k := by omega
          have HS2 : Hid (Below w4.heap.size w4 wr) := HK2.out
          go_wp2_with fail
          go_loopw [65] (fun i wr => ∃ k : Nat, i = .int .i64 (k : Int) ∧ k ≤ x3 ∧ Hid (Below w4.heap.size w4 wr)) (fun i _ => x3 - (intOf i).toNat)
          case atStart => exact ⟨0, rfl, by omega, HS2.out⟩
          case round =>
            obtain ⟨k, rfl, hk, HK3⟩ := hrel
            by_cases hlt : k < x3
            · have hkl : k < (spd L).length := by rw [HN3.out]; exact hlt
              obtain ⟨ad, rfl, ha⟩ := rowf_at flt5 (HR3.out _ HK3.out) hkl
              have hmem := List.getElem_mem hkl
              obtain ⟨X, hX⟩ : ∃ X, (spd L)[k] = X := ⟨_, rfl⟩
              rw [hX] at ha hmem
              have hown := HFD.out X hmem
              obtain ⟨e0, e1, e2, e3, e4⟩ := X
              dsimp only at hown
              have y0 : wr.cell? (ad.add (k * 5)) = some (.int .i64 e0) := by simpa [Addr.add] using ha 0 _ rfl
              have y1 : wr.cell? ⟨(ad.add (k * 5)).block, (ad.add (k * 5)).off + 1, none⟩ = some (.int .i64 e1) := ha 1 _ rfl
              have y2 : wr.cell? ⟨(ad.add (k * 5)).block, (ad.add (k * 5)).off + 2, none⟩ = some (.int .i64 e2) := ha 2 _ rfl
              have y3 : wr.cell? ⟨(ad.add (k * 5)).block, (ad.add (k * 5)).off + 3, none⟩ = some (.int .i64 e3) := ha 3 _ rfl
              have y4 : wr.cell? ⟨(ad.add (k * 5)).block, (ad.add (k * 5)).off + 4, none⟩ = some (.int .i64 e4) := ha 4 _ rfl
              obtain ⟨w5, hw5⟩ : ∃ w5, wr.alloc (.cells #[.int .i64 e0, .int .i64 e1, .int .i64 e2, .int .i64 e3, .int .i64 e4] 59) = w5 := ⟨_, rfl⟩
              obtain ⟨G, hG⟩ : ∃ G, wr.heap.size = G := ⟨_, rfl⟩
              have hb5 : Below wr.heap.size wr w5 := by rw [← hw5]; exact alloc_below _ _
              have HB5 : Hid (Below w4.heap.size w4 w5) := below_step HK3.out HK3.out.size hb5
              have hblk : w5.heap[G]? = some (.cells #[.int .i64 e0, .int .i64 e1, .int .i64 e2, .int .i64 e3, .int .i64 e4] 59) := by rw [← hw5, ← hG]; exact World.alloc_heap_new wr _
              have g0 : w5.cell? ⟨G, 0, none⟩ = some (.int .i64 e0) := by simp [World.cell?, hblk]
              have g1 : w5.cell? ⟨G, 1, none⟩ = some (.int .i64 e1) := by simp [World.cell?, hblk]
              have g2 : w5.cell? ⟨G, 2, none⟩ = some (.int .i64 e2) := by simp [World.cell?, hblk]
              have g3 : w5.cell? ⟨G, 3, none⟩ = some (.int .i64 e3) := by simp [World.cell?, hblk]
              have g4 : w5.cell? ⟨G, 4, none⟩ = some (.int .i64 e4) := by simp [World.cell?, hblk]
              have l1 : (k : Int) < x3 := by omega
              have l2 : (0 : Int) ≤ k := by omega
              clear ha hmem hX hkl hb5
              have hby : w5.cell? ⟨F + 1, 0, none⟩ = some (.int .i64 a2) := HBY.out w5 (HU4.out w5 HB5.out)
              by_cases h3 : e0 = 3
              · have hw : e1 = a2 := hown.1 h3
                subst h3
                subst hw
                have HB6 : Hid (Below w4.heap.size w4 w5) := HB5.out
                clear hown hblk
                go_wp2_with fail
                go_roundw
                case rel => exact ⟨k + 1, by go_num, by omega, HB6.out⟩
                case measure => simp [intOf]; omega
              · have HC5 : Hid (Calls Try.prog 29 #[.int .i64 e1, .pointer (some ⟨F, 0, none⟩), .pointer (some ⟨F + 1, 0, none⟩)] w5 fun e w' => e = .returned (.bool true) ∧ Below w5.heap.size w5 w') := HOK.out w5 e1 (HU4.out w5 HB5.out) (hown.2 h3)
                clear hown hblk
                go_wp2_with fail
                refine Calls.mono HC5.out ?_
                rintro e w6 ⟨rfl, hb6⟩
                have HB6 : Hid (Below w4.heap.size w4 w6) := below_step HB5.out HB5.out.size hb6
                clear hb6 HC5 hw5 hG
                go_wp2_with fail
                go_roundw
                case rel => exact ⟨k + 1, by go_num, by omega, HB6.out⟩
                case measure => simp [intOf]; omega
            · obtain rfl : x3 = k := by omega
              have HGG : Hid (Below w.heap.size w wr) := HUP.out _ (HU4.out _ HK3.out)
              have HLE : Hid ((x1 : Int) + (x2 : Int) + (x3 : Int) ≤ (m : Int)) := by have := HXX.out; show _ ≤ _; omega
              have hmm : m ≤ 4000000000000 := HXX.out.2
              go_wp2_with fail
              go_ret
              refine ⟨?_, HGG.out⟩
              show Ending.returned (.bool (decide ((x1 : Int) + (x2 : Int) + (x3 : Int) ≤ (m : Int)))) = _
              rw [decide_eq_true HLE.out]

set_option maxRecDepth 100000 in
theorem lifted (os : Os) (started : os.Started) (H : Type) (enc : TypeId × Value → H) :
    ReturnsInHanded {} Try.checked os 7 .any (Rows.orderOwnSpec.pre6 enc Try.prog Try.f7 Rows.orderOwnRow.domain false) (Rows.orderOwnSpec.post enc Try.prog Try.f7 false true false false) := by
  refine returnsInHanded_of_change_sized (C := Try.checked) own started (by kernel_rfl) Try.func7
    (ChangeSpec.witness6 (enc := enc) (C := Try.checked) false ⟨#[], #[.slice none 0 0, .agg #[.int .i64 0, .int .i64 0, .slice none 0 0, .slice none 0 0, .slice none 0 0, .slice none 0 0, .slice none 0 0, .int .i64 0, .int .i64 0], .int .i64 0], []⟩ 8 (by kernel_rfl) (by kernel_rfl) (by kernel_rfl) (by kernel_rfl)) ?_
  intro W base args ds gs before hval0 hW hcnd hsz _
  have hval : ∀ (j : Nat) t v, Try.f7.params[j]? = some t → args[j]? = some v → Value.okWide Try.prog W .any base t v := hval0
  have hW' := hW
  obtain ⟨p, q, hA0, hV, rfl, hfz, hnd⟩ := hW
  have hA : DataW.TrodAll enc Try.prog W 0 (fun _ => true) true Try.f7.params.toList args.toList ds p := hA0
  rw [Try.params7] at hA hval
  obtain ⟨v0, vs0, d0, ds0, p0, q0, hargs, rfl, rfl, h0, r0⟩ := trodAll_cons hA
  obtain ⟨v1, vs1, d1, ds1, p1, q1, rfl, rfl, rfl, h1, r1⟩ := trodAll_cons r0
  obtain ⟨v2, vs2, d2, ds2, p2, q2, rfl, rfl, rfl, h2, r2⟩ := trodAll_cons r1
  obtain ⟨rfl, rfl, rfl⟩ := trodAll_nil r2
  obtain rfl : args = #[v0, v1, v2] := by cases args; simp_all
  obtain ⟨rfl, rfl⟩ := trodVars_none hV
  obtain ⟨s0, rfl, k0, t0⟩ := open_ost (hval 0 26 v0 rfl rfl) h0
  obtain ⟨s1, rfl, k1⟩ := open_wld (hval 1 41 v1 rfl rfl) h1
  obtain ⟨a2, rfl, rfl, rfl, w2⟩ := open_int Try.underlying3 (hval 2 3 v2 rfl rfl) h2
  have hs0 : s0.l.length * 48 ≤ 140737488351232 := told_sized hsz (j := 0) rfl rfl Try.underlying26 (by kernel_rfl) t0
  clear hA0 hval0
  refine (walk s0 s1 a2 w2 W k0 hs0 k1).mono fun e W' ⟨he, hg⟩ => ?_
  subst he
  exact ⟨_, rfl, law_post (by kernel_rfl) (by kernel_rfl) rfl (by kernel_rfl) Try.underlying4 hW' rfl hg⟩

theorem over : Rows.orderOwnRow.holds Try.pinned (OpenSpec.ofChange Rows.orderOwnSpec) :=
  OpenClaim.holds_of_wide 7 Try.f7 rfl rfl rfl rfl rfl rfl rfl ⟨rfl, rfl, rfl, rfl, rfl⟩ rfl rfl rfl rfl rfl (by kernel_rfl) Try.func7 (by kernel_rfl)
    (of_decide_eq_true (by kernel_rfl)) (by unfold Func.isWrapper; first | (rw [if_pos (by decide +kernel)]; kernel_rfl) | (rw [if_neg (by decide +kernel)]; exact ⟨rfl, rfl⟩))
    (fun os started H enc _ => lifted os started H enc)

theorem proved : Rows.OrderOwnSaid :=
  over
end Go.Proofs.Ytgebfpncapfaoaa.orderOwn

namespace Go.Proofs.Ytgebfpncapfaoaa
/-- No one gives an order to another one's troop: all that is split of the orders of one player is of that player's troops. -/
theorem orderOwn_holds : Rows.OrderOwnSaid := orderOwn.proved
#print axioms orderOwn_holds
end Go.Proofs.Ytgebfpncapfaoaa
