/- What haveTroops returns. -/
import Derived.Test.YtgebfpncapfaoaaWt
namespace Go.Proofs.Ytgebfpncapfaoaa
open Go.RowKit
set_option linter.unusedVariables false
set_option linter.unusedSimpArgs false

/-- The Id of the troop ahead of the k-th, or 0. -/
def lastI (lt : List Trp) : Nat → Int
  | 0 => 0
  | k + 1 => ((lt[k]?).map Trp.i).getD 0
theorem lastI_succ {lt : List Trp} {k : Nat} (hk : k < lt.length) : lastI lt (k + 1) = lt[k].i := by
  show ((lt[k]?).map Trp.i).getD 0 = _
  rw [List.getElem?_eq_getElem hk]; rfl
theorem rise {lt : List Trp} (h : ∀ i (hi : i < lt.length), lastI lt i < lt[i].i) : lt.Pairwise (fun a b => a.i < b.i) ∧ ∀ i (hi : i < lt.length), 1 ≤ lt[i].i := by
  have key : ∀ j (hj : j < lt.length), (∀ i (hi : i < lt.length), i < j → lt[i].i < lt[j].i) ∧ 1 ≤ lt[j].i := by
    intro j
    induction j with
    | zero =>
      intro hj
      have := h 0 hj
      have e0 : lastI lt 0 = 0 := rfl
      exact ⟨fun i _ hi => by omega, by omega⟩
    | succ j ih =>
      intro hj
      have h1 := h (j + 1) hj
      rw [lastI_succ (by omega)] at h1
      obtain ⟨h2, h3⟩ := ih (by omega)
      refine ⟨fun i hi hij => ?_, by omega⟩
      by_cases e : i = j
      · subst e; exact h1
      · have := h2 i hi (by omega); omega
  refine ⟨?_, fun i hi => (key i hi).2⟩
  rw [List.pairwise_iff_getElem]
  intro i j hi hj hij
  exact (key j hj).1 i hi hij
theorem risen {lt : List Trp} (h : lt.Pairwise (fun a b => a.i < b.i)) (h1 : ∀ i (hi : i < lt.length), 1 ≤ lt[i].i) (i : Nat) (hi : i < lt.length) : lastI lt i < lt[i].i := by
  cases i with
  | zero => have := h1 0 hi; have e0 : lastI lt 0 = 0 := rfl; omega
  | succ k =>
    rw [lastI_succ (by omega)]
    exact List.pairwise_iff_getElem.1 h k (k + 1) (by omega) hi (by omega)
set_option maxRecDepth 20000 in
set_option maxHeartbeats 4000000 in
theorem haveTroops_at (s : Wld) (W H : Nat) (b : Bool) (w : World) (h : s.fit w) (hA : s.A = W) (hB : s.B = H) (hf : okf W H s.l) (hnb : s.nb ≤ 8) (hnt : s.nt ≤ 100) (hb : Hid (b = true ↔ TRr W H s.l s.nb s.N s.lt)) :
    Calls Try.prog 69 #[s.val] w fun e w' => e = .returned (.bool b) ∧ Below w.heap.size w w' := by
  have HT1 : Hid (∀ V t b, Below w.heap.size w V → (b = true ↔ T1r W H s.l s.nb t) → Calls Try.prog 83 #[s.val, tv t] V fun e w' => e = .returned (.bool b) ∧ Below V.heap.size V w') := fun V t b hV hb => isTroop_at s t W H b V (Wld.fit_below h hV) hA hB hf hnb hb
  obtain ⟨A, B, p, n, c, l, pb, nb, cb, lb, ps, ns, cs, ls, pm, nm, cm, lm, pt, nt, ct, lt, N, T⟩ := s
  have rt := h.rt
  have hlt := h.ht
  have xt := h.xt
  clear h
  unfold Wld.val at *
  dsimp only at *
  subst hA hB
  have HLT : Hid (lt.length = nt) := hlt
  have HXT : Hid (∀ t ∈ lt, fitt t) := xt
  obtain ⟨F, hF⟩ : ∃ F, w.heap.size = F := ⟨_, rfl⟩
  obtain ⟨w0, hw0⟩ : ∃ w0, w.alloc (.cells #[.int .i64 (W : Int), .int .i64 (H : Int), .slice p n c, .slice pb nb cb, .slice ps ns cs, .slice pm nm cm, .slice pt nt ct, .int .i64 N, .int .i64 T] 41) = w0 := ⟨_, rfl⟩
  have HBX : Hid (∀ V, Below w0.heap.size w0 V → c9 V F (.int .i64 (W : Int)) (.int .i64 (H : Int)) (.slice p n c) (.slice pb nb cb) (.slice ps ns cs) (.slice pm nm cm) (.slice pt nt ct) (.int .i64 N) (.int .i64 T)) := fun V hV => boxw hF hw0 hV
  have hB0 : Below w.heap.size w w0 := by rw [← hw0]; exact alloc_below _ _
  have HB0 : Hid (Below w.heap.size w w0) := hB0
  have HRT : Hid (trow w0 pt lt) := trow_below rt hB0
  have HIT : Hid (∀ V t b, Below w0.heap.size w0 V → (b = true ↔ T1r W H l nb t) → Calls Try.prog 83 #[.agg #[.int .i64 (W : Int), .int .i64 (H : Int), .slice p n c, .slice pb nb cb, .slice ps ns cs, .slice pm nm cm, .slice pt nt ct, .int .i64 N, .int .i64 T], tv t] V fun e w' => e = .returned (.bool b) ∧ Below V.heap.size V w') := fun V t b hV hb => HT1.out V t b (HB0.out.trans (hV.mono HB0.out.size)) hb
  have HST : Hid (∀ V, Below w0.heap.size w0 V → Calls Try.prog 84 #[.slice pt nt ct] V fun e w' => (∃ b, e = .returned (.map (some b)) ∧ mapc w' b (lt.map Trp.c)) ∧ Below V.heap.size V w') := fun V hV => standing_any pt nt ct lt V (trow_below HRT.out hV) HLT.out hnt HXT.out
  obtain ⟨z0, z1, z2, z3, z4, z5, z6, z7, z8⟩ := HBX.out w0 (Below.refl _ _)
  clear rt hB0 hlt hf xt HT1
  go_enter Try.func69, Try.ntmps69
  go_wp2_with fail
  clear hw0 hF z0 z1 z2 z3 z4 z5 z6 z7 z8
  go_loopw [3, 9] (fun la i wr => ∃ k : Nat, i = .int .i64 (k : Int) ∧ k ≤ nt ∧ la = .int .i64 (lastI lt k) ∧ Hid (Below w0.heap.size w0 wr ∧ ∀ i (h : i < lt.length), i < k → lastI lt i < lt[i].i ∧ lt[i].i < N ∧ T1r W H l nb lt[i])) (fun _ i _ => nt - (intOf i).toNat)
  case atStart => exact ⟨0, rfl, by omega, rfl, Below.refl _ _, fun i h hi => by omega⟩
  case round =>
    obtain ⟨k, rfl, hk, rfl, HS⟩ := hrel
    obtain ⟨L, hL⟩ : ∃ L, lastI lt k = L := ⟨_, rfl⟩
    rw [hL]
    have HL : Hid (lastI lt k = L) := hL
    clear hL
    by_cases hkn : k < nt
    · have hkl : k < lt.length := by rw [HLT.out]; exact hkn
      obtain ⟨a, rfl, hc⟩ := trow_at (trow_below HRT.out HS.out.1) hkl
      obtain ⟨t, ht⟩ : ∃ t, lt[k] = t := ⟨_, rfl⟩
      have HT : Hid (lt[k] = t) := ht
      rw [ht] at hc
      clear ht
      obtain ⟨ti, to_, tk, tx, ty, tf, td⟩ := t
      obtain ⟨c0, c1, c2, c3, c4, c5, c6⟩ := hc
      simp only at c0 c1 c2 c3 c4 c5 c6
      obtain ⟨w4, hw4⟩ : ∃ w4, wr.alloc (.cells #[.int .i64 ti, .int .i64 to_, .int .i64 tk, .int .i64 tx, .int .i64 ty, .int .i64 tf, .int .i64 td] 71) = w4 := ⟨_, rfl⟩
      obtain ⟨G, hG⟩ : ∃ G, wr.heap.size = G := ⟨_, rfl⟩
      have HBT : Hid (∀ V, Below w4.heap.size w4 V → V.cell? ⟨G, 0, none⟩ = some (.int .i64 ti) ∧ V.cell? ⟨G, 1, none⟩ = some (.int .i64 to_) ∧ V.cell? ⟨G, 2, none⟩ = some (.int .i64 tk) ∧ V.cell? ⟨G, 3, none⟩ = some (.int .i64 tx) ∧ V.cell? ⟨G, 4, none⟩ = some (.int .i64 ty) ∧ V.cell? ⟨G, 5, none⟩ = some (.int .i64 tf) ∧ V.cell? ⟨G, 6, none⟩ = some (.int .i64 td)) := fun V hV => boxt hG hw4 hV
      have hB4 : Below w0.heap.size w0 w4 := by rw [← hw4]; exact HS.out.1.alloc HS.out.1.size _
      have HB4 : Hid (Below w0.heap.size w0 w4) := hB4
      obtain ⟨t0, t1, t2, t3, t4, t5, t6, t7, t8⟩ := HBX.out w4 hB4
      obtain ⟨g0, g1, g2, g3, g4, g5, g6⟩ := HBT.out w4 (Below.refl _ _)
      obtain ⟨o, ho⟩ : ∃ o : Bool, o = true ↔ T1r W H l nb ⟨ti, to_, tk, tx, ty, tf, td⟩ := ⟨@decide _ (Classical.propDecidable _), @decide_eq_true_iff _ (Classical.propDecidable _)⟩
      have HCI : Hid (Calls Try.prog 83 #[.agg #[.int .i64 (W : Int), .int .i64 (H : Int), .slice p n c, .slice pb nb cb, .slice ps ns cs, .slice pm nm cm, .slice (some a) nt ct, .int .i64 N, .int .i64 T], .agg #[.int .i64 ti, .int .i64 to_, .int .i64 tk, .int .i64 tx, .int .i64 ty, .int .i64 tf, .int .i64 td]] w4 fun e w' => e = .returned (.bool o) ∧ Below w4.heap.size w4 w') := HIT.out w4 ⟨ti, to_, tk, tx, ty, tf, td⟩ o hB4 ho
      have HNX : Hid (L < ti → ti < N → o = true → ∀ i (h : i < lt.length), i < k + 1 → lastI lt i < lt[i].i ∧ lt[i].i < N ∧ T1r W H l nb lt[i]) := fun h1 h2 h3 i hi hik => by
        by_cases e : i = k
        · subst e; rw [HT.out, HL.out]; exact ⟨h1, h2, ho.1 h3⟩
        · exact HS.out.2 i hi (by omega)
      have HBN : Hid (¬ (L < ti ∧ ti < N ∧ o = true) → b = false) := fun h => bool_no hb.out (fun hp => h (by
        have h1 := hp.1 k hkl
        have h2 := risen hp.2.1 (fun i hi => (hp.1 i hi).1) k hkl
        rw [HT.out] at h1 h2
        rw [HL.out] at h2
        exact ⟨h2, h1.2.1, ho.2 h1.2.2⟩))
      have HNL : Hid (lastI lt (k + 1) = ti) := by unfold Hid; rw [lastI_succ hkl, HT.out]
      have l1 : (k : Int) < nt := by omega
      have l2 : (0 : Int) ≤ k := by omega
      clear ho hB4
      by_cases q1 : ti ≤ L
      · have HBF : Hid (b = false) := HBN.out (fun h => by omega)
        go_wp2_with fail
        go_ret
        exact ⟨by rw [HBF.out]; rfl, HB0.out.trans (HB4.out.mono HB0.out.size)⟩
      by_cases q2 : N ≤ ti
      · have HBF : Hid (b = false) := HBN.out (fun h => by omega)
        go_wp2_with fail
        go_ret
        exact ⟨by rw [HBF.out]; rfl, HB0.out.trans (HB4.out.mono HB0.out.size)⟩
      go_wp2_with fail
      refine (Calls.mono HCI.out ?_)
      rintro e w5 ⟨rfl, hb5⟩
      have HB5 : Hid (Below w0.heap.size w0 w5) := HB4.out.trans (hb5.mono HB4.out.size)
      clear t0 t1 t2 t3 t4 t5 t6 t7 t8 g0 g1 g2 g3 g4 g5 g6 hw4 c0 c1 c2 c3 c4 c5 c6
      obtain ⟨g0, -, -, -, -, -, -⟩ := HBT.out w5 hb5
      clear hb5
      cases o with
      | false =>
        have HBF : Hid (b = false) := HBN.out (fun h => by simp at h)
        go_wp2_with fail
        go_ret
        exact ⟨by rw [HBF.out]; rfl, HB0.out.trans (HB5.out.mono HB0.out.size)⟩
      | true =>
        have HN2 : Hid (∀ i (h : i < lt.length), i < k + 1 → lastI lt i < lt[i].i ∧ lt[i].i < N ∧ T1r W H l nb lt[i]) := HNX.out (by omega) (by omega) rfl
        go_wp2_with fail
        go_roundw
        case rel => exact ⟨k + 1, by go_num, by omega, by rw [HNL.out], HB5.out, HN2.out⟩
        case measure => simp [intOf]; omega
    · have hall : Hid (∀ i (h : i < lt.length), lastI lt i < lt[i].i ∧ lt[i].i < N ∧ T1r W H l nb lt[i]) := fun i hi => HS.out.2 i hi (by have := HLT.out; omega)
      have HBD : Hid (b = true ↔ (lt.map Trp.c).Nodup) := by
        have h1 := rise (fun i hi => (hall.out i hi).1)
        exact ⟨fun h => (hb.out.1 h).2.2, fun h => hb.out.2 ⟨fun i hi => ⟨h1.2 i hi, (hall.out i hi).2⟩, h1.1, h⟩⟩
      have HBr : Hid (Below w0.heap.size w0 wr) := HS.out.1
      obtain ⟨-, -, -, -, -, -, t6, t7, -⟩ := HBX.out wr HS.out.1
      have HST2 : Hid (∀ V, Below wr.heap.size wr V → Calls Try.prog 84 #[.slice pt nt ct] V fun e w' => (∃ b, e = .returned (.map (some b)) ∧ mapc w' b (lt.map Trp.c)) ∧ Below V.heap.size V w') := fun V hV => HST.out V (HBr.out.trans (hV.mono HBr.out.size))
      clear hall
      go_wp2_with fail
      refine wp_region_noPanic ?_
      refine wp_region_held_drew (S := (fun V => Below wr.heap.size wr V ∧ V.cell? ⟨F, 6, none⟩ = some (.slice pt nt ct) ∧ V.cell? ⟨F, 7, none⟩ = some (.int .i64 N))) (by kernel_rfl) ⟨Below.drew (Below.refl _ _), t6, t7⟩ (fun hHeld => ?_)
      refine wpAnyH_take (i := 0) (oi := ?o0) (v := .pointer (some ⟨F, 6, none⟩)) ?hi0 (by kernel_rfl) (by kernel_rfl) (by kernel_rfl) (fun _ _ _ h => h) ?hy0 hHeld ?rest0
      case hi0 => simp only [List.getElem?_toArray, List.getElem?_cons_zero, List.getElem?_cons_succ]; first | done | rfl
      case hy0 => exact Or.inl ⟨by rfl, by intro V hV; obtain ⟨s0, s1, s2⟩ := hV; go_simp⟩
      try simp only [Act.put, List.setIfInBounds_toArray, List.set_cons_zero, List.set_cons_succ]
      refine wpAnyH_take (i := 1) (oi := ?o1) (v := .slice pt nt ct) ?hi1 (by kernel_rfl) (by kernel_rfl) (by kernel_rfl) (fun _ _ _ h => h) ?hy1 hHeld ?rest1
      case hi1 => simp only [List.getElem?_toArray, List.getElem?_cons_zero, List.getElem?_cons_succ]; first | done | rfl
      case hy1 => exact Or.inl ⟨by rfl, by intro V hV; obtain ⟨s0, s1, s2⟩ := hV; go_simp⟩
      try simp only [Act.put, List.setIfInBounds_toArray, List.set_cons_zero, List.set_cons_succ]
      refine wpAnyH_take (i := 4) (oi := ?o4) (v := .pointer (some ⟨F, 6, none⟩)) ?hi4 (by kernel_rfl) (by kernel_rfl) (by kernel_rfl) (fun _ _ _ h => h) ?hy4 hHeld ?rest4
      case hi4 => simp only [List.getElem?_toArray, List.getElem?_cons_zero, List.getElem?_cons_succ]; first | done | rfl
      case hy4 => exact Or.inl ⟨by rfl, by intro V hV; obtain ⟨s0, s1, s2⟩ := hV; go_simp⟩
      try simp only [Act.put, List.setIfInBounds_toArray, List.set_cons_zero, List.set_cons_succ]
      refine wpAnyH_take (i := 5) (oi := ?o5) (v := .slice pt nt ct) ?hi5 (by kernel_rfl) (by kernel_rfl) (by kernel_rfl) (fun _ _ _ h => h) ?hy5 hHeld ?rest5
      case hi5 => simp only [List.getElem?_toArray, List.getElem?_cons_zero, List.getElem?_cons_succ]; first | done | rfl
      case hy5 => exact Or.inl ⟨by rfl, by intro V hV; obtain ⟨s0, s1, s2⟩ := hV; go_simp⟩
      try simp only [Act.put, List.setIfInBounds_toArray, List.set_cons_zero, List.set_cons_succ]
      refine wpAnyH_take (i := 6) (oi := ?o6) (v := .int .i64 (nt : Int)) ?hi6 (by kernel_rfl) (by kernel_rfl) (by kernel_rfl) (fun _ _ _ h => h) ?hy6 hHeld ?rest6
      case hi6 => simp only [List.getElem?_toArray, List.getElem?_cons_zero, List.getElem?_cons_succ]; first | done | rfl
      case hy6 => exact Or.inl ⟨by rfl, by intro V hV; obtain ⟨s0, s1, s2⟩ := hV; go_simp⟩
      try simp only [Act.put, List.setIfInBounds_toArray, List.set_cons_zero, List.set_cons_succ]
      refine wpAnyH_ready (rs := [2]) (by kernel_rfl) (by simp) ?_
      refine AllReadyH.cons (o := ?o2) ?hi2 (fun K hK => ?step2) AllReadyH.nil
      case hi2 => simp only [List.getElem?_toArray, List.getElem?_cons_zero, List.getElem?_cons_succ]; first | done | rfl
      go_simp
      go_at_call 84
      refine (HST2.out _ (And.left (by assumption))).mono ?_
      rintro e w5 ⟨⟨bm, rfl, hM⟩, hb5⟩
      obtain ⟨m, hlen, hle, hall⟩ := mapc_len hM
      go_wp2_with fail
      refine hK.out _ _ (k2_call hHeld hb5) (fun hHeld5 => ?_)
      clear hK K
      try simp only [Act.put, List.setIfInBounds_toArray, List.set_cons_zero, List.set_cons_succ]
      refine wpAnyH_ready (rs := [3]) (by kernel_rfl) (by simp) ?_
      refine AllReadyH.cons (o := ?o3) ?hi3 (fun K hK => ?step3) AllReadyH.nil
      case hi3 => simp only [List.getElem?_toArray, List.getElem?_cons_zero, List.getElem?_cons_succ]; first | done | rfl
      go_simp
      refine hK.out _ _ hHeld5 (fun hHeld6 => ?_)
      clear hK K
      try simp only [Act.put, List.setIfInBounds_toArray, List.set_cons_zero, List.set_cons_succ]
      refine wpAnyH_take (i := 7) (oi := ?o7) (v := .bool ((m : Int) == (nt : Int))) ?hi7 (by kernel_rfl) (by kernel_rfl) (by kernel_rfl) (fun _ _ _ h => h) ?hy7 hHeld6 ?rest7
      case hi7 => simp only [List.getElem?_toArray, List.getElem?_cons_zero, List.getElem?_cons_succ]; first | done | rfl
      case hy7 => exact Or.inl ⟨by rfl, by intro V hV; obtain ⟨s0, s1, s2⟩ := hV; go_simp⟩
      try simp only [Act.put, List.setIfInBounds_toArray, List.set_cons_zero, List.set_cons_succ]
      refine wpAnyH_take (i := 8) (oi := ?o8) (v := .bool ((m : Int) == (nt : Int))) ?hi8 (by kernel_rfl) (by kernel_rfl) (by kernel_rfl) (fun _ _ _ h => h) ?hy8 hHeld6 ?rest8
      case hi8 => simp only [List.getElem?_toArray, List.getElem?_cons_zero, List.getElem?_cons_succ]; first | done | rfl
      case hy8 => exact Or.inl ⟨by rfl, by intro V hV; obtain ⟨s0, s1, s2⟩ := hV; go_simp⟩
      try simp only [Act.put, List.setIfInBounds_toArray, List.set_cons_zero, List.set_cons_succ]
      refine wpAnyH_done (by kernel_rfl) ?_ _
      refine NoPanic.normal ?_
      have HALL : Hid (b = true ↔ m = nt) := by
        rw [List.length_map, HLT.out] at hall
        exact ⟨fun h => hall.2 (HBD.out.1 h), fun h => HBD.out.2 (hall.1 h)⟩
      have HB5 : Hid (Below w0.heap.size w0 w5) := HBr.out.trans (((Below.refl _ _).drew.trans hb5).mono HBr.out.size)
      clear hall hlen hle hM hb5
      go_wp2_with fail
      go_ret
      refine ⟨?_, HB0.out.trans (HB5.out.mono HB0.out.size)⟩
      by_cases hmn : m = nt
      · rw [HALL.out.2 hmn, hmn]; simp
      · rw [bool_no HALL.out hmn]; simp; omega
end Go.Proofs.Ytgebfpncapfaoaa
