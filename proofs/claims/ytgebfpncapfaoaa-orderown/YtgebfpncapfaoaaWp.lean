/- What havePlayers and haveMines return. -/
import Derived.Test.YtgebfpncapfaoaaKx
import Derived.Test.YtgebfpncapfaoaaCi
namespace Go.Proofs.Ytgebfpncapfaoaa
open Go.RowKit
set_option linter.unusedVariables false
set_option linter.unusedSimpArgs false

theorem bool_no {b : Bool} {P : Prop} (h : b = true ↔ P) (hn : ¬ P) : b = false := by
  cases b with
  | false => rfl
  | true => exact absurd (h.1 rfl) hn
theorem crow_take {w : World} {p : Option Addr} {cs : List Cel} (h : crow w p cs) (k : Nat) : crow w p (cs.take k) := by
  intro j c hj
  refine h j c ?_
  rw [List.getElem?_take] at hj
  split at hj
  · exact hj
  · cases hj
set_option maxRecDepth 20000 in
set_option maxHeartbeats 4000000 in
theorem havePlayers_at (s : Wld) (W H : Nat) (b : Bool) (w : World) (h : s.fit w) (hA : s.A = W) (hB : s.B = H) (hf : okf W H s.l) (hnb : s.nb ≤ 8) (hb : Hid (b = true ↔ PLr W H s.l s.lb s.ls)) :
    Calls Try.prog 67 #[s.val] w fun e w' => e = .returned (.bool b) ∧ Below w.heap.size w w' := by
  obtain ⟨A, B, p, n, c, l, pb, nb, cb, lb, ps, ns, cs, ls, pm, nm, cm, lm, pt, nt, ct, lt, N, T⟩ := s
  have hr := h.r
  have hn := h.h
  have rb := h.rb
  have hlb := h.hb
  have kb := h.kb
  have rs := h.rs
  have hls := h.hs
  have hms := h.ms
  clear h
  unfold Wld.val
  dsimp only at *
  subst hA hB
  have HF : Hid (okf W H l) := hf
  have HN : Hid (l.length = n) := hn
  have HLB : Hid (lb.length = nb) := hlb
  have HLS : Hid (ls.length = ns) := hls
  obtain ⟨F, hF⟩ : ∃ F, w.heap.size = F := ⟨_, rfl⟩
  obtain ⟨w0, hw0⟩ : ∃ w0, w.alloc (.cells #[.int .i64 (W : Int), .int .i64 (H : Int), .slice p n c, .slice pb nb cb, .slice ps ns cs, .slice pm nm cm, .slice pt nt ct, .int .i64 N, .int .i64 T] 41) = w0 := ⟨_, rfl⟩
  have HBX : Hid (∀ V, Below w0.heap.size w0 V → c9 V F (.int .i64 (W : Int)) (.int .i64 (H : Int)) (.slice p n c) (.slice pb nb cb) (.slice ps ns cs) (.slice pm nm cm) (.slice pt nt ct) (.int .i64 N) (.int .i64 T)) := fun V hV => boxw hF hw0 hV
  have hB0 : Below w.heap.size w w0 := by rw [← hw0]; exact alloc_below _ _
  have HB0 : Hid (Below w.heap.size w w0) := hB0
  have HR : Hid (row vi w0 p l) := row_below hr hB0
  have HRB : Hid (crow w0 pb lb) := crow_below rb hB0
  have HRS : Hid (row vi w0 ps ls) := row_below rs hB0
  obtain ⟨z0, z1, z2, z3, z4, z5, z6, z7, z8⟩ := HBX.out w0 (Below.refl _ _)
  clear hr rb rs hB0 hn hlb hls hf
  by_cases hne : ns = nb
  rotate_left
  · have hne2 : ¬ ((ns : Int) = nb) := by omega
    have d1 : ((ns : Int) != (nb : Int)) = true := by simp [hne2]
    have d2 : (ns != nb) = true := by simp [hne]
    have eb : b = false := bool_no hb.out (fun h => hne (by have := h.1; rw [HLS.out, HLB.out] at this; exact this))
    subst eb
    clear hne
    go_enter Try.func67, Try.ntmps67
    go_wp2_with fail
    go_ret
    exact ⟨rfl, HB0.out⟩
  subst hne
  cases hq : ls.any am with
  | true =>
    have HQ : Hid (ls.any am = true) := hq
    have eb : b = false := bool_no hb.out (fun h => by have := h.2.1; rw [hq] at this; cases this)
    subst eb
    clear hq
    go_enter Try.func67, Try.ntmps67
    go_wp2_with fail
    refine (ContainsFunc_any isNoAmount_asks ps ns cs ls true _ HRS.out HLS.out hms HQ).mono ?_
    rintro e w' ⟨rfl, hw⟩; subst w'
    go_wp2_with fail
    go_ret
    exact ⟨rfl, HB0.out⟩
  | false =>
    have HQ : Hid (ls.any am = false) := hq
    clear hq
    go_enter Try.func67, Try.ntmps67
    go_wp2_with fail
    refine (ContainsFunc_any isNoAmount_asks ps ns cs ls false _ HRS.out HLS.out hms HQ).mono ?_
    rintro e w' ⟨rfl, hw⟩; subst w'
    go_wp2_with fail
    clear hw0 z0 z1 z2 z3 z4 z5 z6 z7 z8
    go_loopw [20] (fun i wr => ∃ k : Nat, i = .int .i64 (k : Int) ∧ k ≤ ns ∧ Hid (Below w0.heap.size w0 wr ∧ (∀ i (h : i < lb.length), i < k → opn W H l lb[i].x lb[i].y = true) ∧ (lb.take k).Nodup)) (fun i _ => ns - (intOf i).toNat)
    case atStart => exact ⟨0, rfl, by omega, Below.refl _ _, fun i h hi => by omega, by simp⟩
    case round =>
      obtain ⟨k, rfl, hk, HS⟩ := hrel
      by_cases hlt : k < ns
      · have hkl : k < lb.length := by rw [HLB.out]; exact hlt
        obtain ⟨a, rfl, ha, hay⟩ := crow_at (crow_below HRB.out HS.out.1) hkl
        obtain ⟨x, hX⟩ : ∃ X, lb[k].x = X := ⟨_, rfl⟩
        obtain ⟨y, hY⟩ : ∃ Y, lb[k].y = Y := ⟨_, rfl⟩
        have HXY : Hid (lb[k] = ⟨x, y⟩) := by unfold Hid; rw [← hX, ← hY]
        rw [hX] at ha
        rw [hY] at hay
        have ha' : wr.cell? (a.add (k * 2)) = some (.int .i64 x) := ha
        have hay' : wr.cell? ⟨(a.add (k * 2)).block, (a.add (k * 2)).off + 1, none⟩ = some (.int .i64 y) := cell_two hay
        obtain ⟨w4, hw4⟩ : ∃ w4, wr.alloc (.cells #[.int .i64 x, .int .i64 y] 23) = w4 := ⟨_, rfl⟩
        obtain ⟨G, hG⟩ : ∃ G, wr.heap.size = G := ⟨_, rfl⟩
        have hB4 : Below w0.heap.size w0 w4 := by rw [← hw4]; exact HS.out.1.alloc HS.out.1.size _
        have HB4 : Hid (Below w0.heap.size w0 w4) := hB4
        obtain ⟨t0, t1, t2, t3, -, -, -, -, -⟩ := HBX.out w4 hB4
        have g0 : w4.cell? ⟨G, 0, none⟩ = some (.int .i64 x) := by rw [← hw4, ← hG]; simp [go_sem]
        have g1 : w4.cell? ⟨G, 1, none⟩ = some (.int .i64 y) := by rw [← hw4, ← hG]; simp [go_sem]
        obtain ⟨o, ho⟩ : ∃ o, opn W H l x y = o := ⟨_, rfl⟩
        obtain ⟨d, hd⟩ : ∃ d : Bool, d = true ↔ (⟨x, y⟩ : Cel) ∈ lb.take k := ⟨@decide _ (Classical.propDecidable _), @decide_eq_true_iff _ (Classical.propDecidable _)⟩
        have HOP : Hid (∀ V, Below w4.heap.size w4 V → Calls Try.prog 81 #[.agg #[.int .i64 (W : Int), .int .i64 (H : Int), .slice p n c], .agg #[.int .i64 x, .int .i64 y]] V fun e w' => e = .returned (.bool o) ∧ Below V.heap.size V w') := fun V hV =>
          isOpen_at W H p n c l x y o V (row_below HR.out (HB4.out.trans (hV.mono HB4.out.size))) HF.out.1 HF.out.2.1 HN.out (by rw [← HN.out]; exact HF.out.2.2.1) ho
        have HCT : Hid (∀ V, Below w4.heap.size w4 V → Calls Try.prog 82 #[.slice (some a) k cb, .agg #[.int .i64 x, .int .i64 y]] V fun e w' => e = .returned (.bool d) ∧ Below V.heap.size V w') := fun V hV =>
          Containsc_any (some a) k cb (lb.take k) x y d V (by rw [List.length_take, HLB.out]; omega) (by omega) (crow_take (crow_below HRB.out (HB4.out.trans (hV.mono HB4.out.size))) k) hd
        have HOD : Hid ((o = true ∧ d = false → (∀ i (h : i < lb.length), i < k + 1 → opn W H l lb[i].x lb[i].y = true) ∧ (lb.take (k + 1)).Nodup) ∧ (¬ (o = true ∧ d = false) → b = false)) := by
          refine ⟨fun h => ⟨fun i hi hik => ?_, ?_⟩, fun h => bool_no hb.out (fun hp => h ⟨?_, ?_⟩)⟩
          · by_cases e : i = k
            · subst e; rw [hX, hY, ho]; exact h.1
            · exact HS.out.2.1 i hi (by omega)
          · refine (take_nodup hkl).2 ⟨HS.out.2.2, fun hm => ?_⟩
            rw [HXY.out] at hm
            have := hd.2 hm
            rw [h.2] at this; cases this
          · have := hp.2.2.1 k hkl
            rw [hX, hY, ho] at this; exact this
          · refine bool_no hd (fun hm => ?_)
            have := ((take_nodup hkl).1 (nodup_take (k := k + 1) hp.2.2.2)).2
            rw [HXY.out] at this
            exact this hm
        have l1 : (k : Int) < ns := by omega
        have l2 : (0 : Int) ≤ k := by omega
        have l3 : (k : Int) ≤ cb := by omega
        clear hX hY ha hay ho hd hB4
        cases o with
        | false =>
          have HBN : Hid (b = false) := HOD.out.2 (by simp)
          go_wp2_with fail
          refine wp_region_noPanic ?_
          refine wp_region_held_drew (S := (fun V => Below w4.heap.size w4 V ∧ V.cell? ⟨F, 0, none⟩ = some (.int .i64 (W : Int)) ∧ V.cell? ⟨F, 1, none⟩ = some (.int .i64 (H : Int)) ∧ V.cell? ⟨F, 2, none⟩ = some (.slice p n c) ∧ V.cell? ⟨F, 3, none⟩ = some (.slice (some a) ns cb) ∧ V.cell? ⟨G, 0, none⟩ = some (.int .i64 x) ∧ V.cell? ⟨G, 1, none⟩ = some (.int .i64 y))) (by kernel_rfl) ⟨Below.drew (Below.refl _ _), t0, t1, t2, t3, g0, g1⟩ (fun hHeld => ?_)
          refine wpAnyH_take (i := 0) (oi := ?o0) (v := .pointer (some ⟨F, 0, none⟩)) ?hi0 (by kernel_rfl) (by kernel_rfl) (by kernel_rfl) (fun _ _ _ h => h) ?hy0 hHeld ?rest0
          case hi0 => simp only [List.getElem?_toArray, List.getElem?_cons_zero, List.getElem?_cons_succ]; first | done | rfl
          case hy0 => exact Or.inl ⟨by rfl, by intro V hV; obtain ⟨s0, s1, s2, s3, s4, s5, s6⟩ := hV; go_simp⟩
          try simp only [Act.put, List.setIfInBounds_toArray, List.set_cons_zero, List.set_cons_succ]
          refine wpAnyH_take (i := 1) (oi := ?o1) (v := .agg #[.int .i64 (W : Int), .int .i64 (H : Int), .slice p n c]) ?hi1 (by kernel_rfl) (by kernel_rfl) (by kernel_rfl) (fun _ _ _ h => h) ?hy1 hHeld ?rest1
          case hi1 => simp only [List.getElem?_toArray, List.getElem?_cons_zero, List.getElem?_cons_succ]; first | done | rfl
          case hy1 => exact Or.inl ⟨by rfl, by intro V hV; obtain ⟨s0, s1, s2, s3, s4, s5, s6⟩ := hV; go_simp⟩
          try simp only [Act.put, List.setIfInBounds_toArray, List.set_cons_zero, List.set_cons_succ]
          refine wpAnyH_take (i := 2) (oi := ?o2) (v := .agg #[.int .i64 x, .int .i64 y]) ?hi2 (by kernel_rfl) (by kernel_rfl) (by kernel_rfl) (fun _ _ _ h => h) ?hy2 hHeld ?rest2
          case hi2 => simp only [List.getElem?_toArray, List.getElem?_cons_zero, List.getElem?_cons_succ]; first | done | rfl
          case hy2 => exact Or.inl ⟨by rfl, by intro V hV; obtain ⟨s0, s1, s2, s3, s4, s5, s6⟩ := hV; go_simp⟩
          try simp only [Act.put, List.setIfInBounds_toArray, List.set_cons_zero, List.set_cons_succ]
          refine wpAnyH_ready (rs := [3]) (by kernel_rfl) (by simp) ?_
          refine AllReadyH.cons (o := ?o3) ?hi3 (fun K hK => ?step3) AllReadyH.nil
          case hi3 => simp only [List.getElem?_toArray, List.getElem?_cons_zero, List.getElem?_cons_succ]; first | done | rfl
          go_simp
          go_at_call 81
          refine (HOP.out _ (And.left (by assumption))).mono ?_
          rintro e w5 ⟨rfl, hb5⟩
          go_wp2_with fail
          refine hK.out _ _ (k6_call hHeld hb5) (fun hHeld5 => ?_)
          clear hK K
          try simp only [Act.put, List.setIfInBounds_toArray, List.set_cons_zero, List.set_cons_succ]
          refine wpAnyH_take (i := 4) (oi := ?o4) (v := .bool true) ?hi4 (by kernel_rfl) (by kernel_rfl) (by kernel_rfl) (fun _ _ _ h => h) ?hy4 hHeld5 ?rest4
          case hi4 => simp only [List.getElem?_toArray, List.getElem?_cons_zero, List.getElem?_cons_succ]; first | done | rfl
          case hy4 => exact Or.inl ⟨by rfl, by intro V hV; obtain ⟨s0, s1, s2, s3, s4, s5, s6⟩ := hV; go_simp⟩
          try simp only [Act.put, List.setIfInBounds_toArray, List.set_cons_zero, List.set_cons_succ]
          refine wpAnyH_take (i := 5) (oi := ?o5) (v := .bool true) ?hi5 (by kernel_rfl) (by kernel_rfl) (by kernel_rfl) (fun _ _ _ h => h) ?hy5 hHeld5 ?rest5
          case hi5 => simp only [List.getElem?_toArray, List.getElem?_cons_zero, List.getElem?_cons_succ]; first | done | rfl
          case hy5 => exact Or.inl ⟨by rfl, by intro V hV; obtain ⟨s0, s1, s2, s3, s4, s5, s6⟩ := hV; go_simp⟩
          try simp only [Act.put, List.setIfInBounds_toArray, List.set_cons_zero, List.set_cons_succ]
          refine wpAnyH_take (i := 6) (oi := ?o6) (v := undef) ?hi6 (by kernel_rfl) (by kernel_rfl) (by kernel_rfl) (fun _ _ _ h => h) ?hy6 hHeld5 ?rest6
          case hi6 => simp only [List.getElem?_toArray, List.getElem?_cons_zero, List.getElem?_cons_succ]; first | done | rfl
          case hy6 => exact Or.inr ⟨by rfl, rfl⟩
          try simp only [Act.put, List.setIfInBounds_toArray, List.set_cons_zero, List.set_cons_succ]
          refine wpAnyH_take (i := 7) (oi := ?o7) (v := undef) ?hi7 (by kernel_rfl) (by kernel_rfl) (by kernel_rfl) (fun _ _ _ h => h) ?hy7 hHeld5 ?rest7
          case hi7 => simp only [List.getElem?_toArray, List.getElem?_cons_zero, List.getElem?_cons_succ]; first | done | rfl
          case hy7 => exact Or.inr ⟨by rfl, rfl⟩
          try simp only [Act.put, List.setIfInBounds_toArray, List.set_cons_zero, List.set_cons_succ]
          refine wpAnyH_take (i := 8) (oi := ?o8) (v := undef) ?hi8 (by kernel_rfl) (by kernel_rfl) (by kernel_rfl) (fun _ _ _ h => h) ?hy8 hHeld5 ?rest8
          case hi8 => simp only [List.getElem?_toArray, List.getElem?_cons_zero, List.getElem?_cons_succ]; first | done | rfl
          case hy8 => exact Or.inr ⟨by rfl, rfl⟩
          try simp only [Act.put, List.setIfInBounds_toArray, List.set_cons_zero, List.set_cons_succ]
          refine wpAnyH_take (i := 9) (oi := ?o9) (v := undef) ?hi9 (by kernel_rfl) (by kernel_rfl) (by kernel_rfl) (fun _ _ _ h => h) ?hy9 hHeld5 ?rest9
          case hi9 => simp only [List.getElem?_toArray, List.getElem?_cons_zero, List.getElem?_cons_succ]; first | done | rfl
          case hy9 => exact Or.inr ⟨by rfl, rfl⟩
          try simp only [Act.put, List.setIfInBounds_toArray, List.set_cons_zero, List.set_cons_succ]
          refine wpAnyH_take (i := 10) (oi := ?o10) (v := undef) ?hi10 (by kernel_rfl) (by kernel_rfl) (by kernel_rfl) (fun _ _ _ h => h) ?hy10 hHeld5 ?rest10
          case hi10 => simp only [List.getElem?_toArray, List.getElem?_cons_zero, List.getElem?_cons_succ]; first | done | rfl
          case hy10 => exact Or.inr ⟨by rfl, rfl⟩
          try simp only [Act.put, List.setIfInBounds_toArray, List.set_cons_zero, List.set_cons_succ]
          refine wpAnyH_take (i := 11) (oi := ?o11) (v := undef) ?hi11 (by kernel_rfl) (by kernel_rfl) (by kernel_rfl) (fun _ _ _ h => h) ?hy11 hHeld5 ?rest11
          case hi11 => simp only [List.getElem?_toArray, List.getElem?_cons_zero, List.getElem?_cons_succ]; first | done | rfl
          case hy11 => exact Or.inr ⟨by rfl, rfl⟩
          try simp only [Act.put, List.setIfInBounds_toArray, List.set_cons_zero, List.set_cons_succ]
          refine wpAnyH_take (i := 12) (oi := ?o12) (v := .bool true) ?hi12 (by kernel_rfl) (by kernel_rfl) (by kernel_rfl) (fun _ _ _ h => h) ?hy12 hHeld5 ?rest12
          case hi12 => simp only [List.getElem?_toArray, List.getElem?_cons_zero, List.getElem?_cons_succ]; first | done | rfl
          case hy12 => exact Or.inl ⟨by rfl, by intro V hV; obtain ⟨s0, s1, s2, s3, s4, s5, s6⟩ := hV; go_simp⟩
          try simp only [Act.put, List.setIfInBounds_toArray, List.set_cons_zero, List.set_cons_succ]
          refine wpAnyH_done (by kernel_rfl) ?_ _
          refine NoPanic.normal ?_
          have HB5 : Hid (Below w0.heap.size w0 w5) := HB4.out.trans (hHeld5.1.mono HB4.out.size)
          clear hHeld hHeld5 hb5
          go_wp2_with fail
          go_ret
          exact ⟨by rw [HBN.out]; rfl, HB0.out.trans (HB5.out.mono HB0.out.size)⟩
        | true =>
          go_wp2_with fail
          go_region_held3 (fun V => Below w4.heap.size w4 V ∧ V.cell? ⟨F, 0, none⟩ = some (.int .i64 (W : Int)) ∧ V.cell? ⟨F, 1, none⟩ = some (.int .i64 (H : Int)) ∧ V.cell? ⟨F, 2, none⟩ = some (.slice p n c) ∧ V.cell? ⟨F, 3, none⟩ = some (.slice (some a) ns cb) ∧ V.cell? ⟨G, 0, none⟩ = some (.int .i64 x) ∧ V.cell? ⟨G, 1, none⟩ = some (.int .i64 y)) (first | with_reducible assumption | with_reducible exact k6_drew (by assumption) | with_reducible exact k6_call (by assumption) (by assumption) | exact ⟨Below.drew (Below.refl _ _), t0, t1, t2, t3, g0, g1⟩) (first
            | (go_at_call 81; with_reducible refine (HOP.out _ (And.left (by assumption))).mono ?_; rintro e w5 ⟨rfl, hb5⟩)
            | (go_at_call 82; with_reducible refine (HCT.out _ (And.left (by assumption))).mono ?_; rintro e w6 ⟨rfl, hb6⟩))
          have hb46 : Below w4.heap.size w4 w6 := ((Below.refl _ _).drew.trans hb5).trans (hb6.mono ((Below.refl _ _).drew.trans hb5).size)
          have HB6 : Hid (Below w0.heap.size w0 w6) := HB4.out.trans (hb46.mono HB4.out.size)
          clear hb46 hb5 hb6
          cases d with
          | true =>
            have HBN : Hid (b = false) := HOD.out.2 (by simp)
            go_wp2_with fail
            go_ret
            exact ⟨by rw [HBN.out]; rfl, HB0.out.trans (HB6.out.mono HB0.out.size)⟩
          | false =>
            have HNX := HOD.out.1 (by simp)
            have HNX2 : Hid ((∀ i (h : i < lb.length), i < k + 1 → opn W H l lb[i].x lb[i].y = true) ∧ (lb.take (k + 1)).Nodup) := HNX
            clear HNX t0 t1 t2 t3 g0 g1 hw4
            go_wp2_with fail
            go_roundw
            case rel => exact ⟨k + 1, by go_num, by omega, HB6.out, HNX2.out⟩
            case measure => simp [intOf]; omega
      · have HBT : Hid (b = true) := hb.out.2 ⟨by rw [HLS.out, HLB.out], HQ.out, fun i hi => HS.out.2.1 i hi (by have := HLB.out; omega), by
          have := HS.out.2.2
          rw [List.take_of_length_le (by have := HLB.out; omega)] at this; exact this⟩
        go_wp2_with fail
        go_ret
        exact ⟨by rw [HBT.out]; rfl, HB0.out.trans (HS.out.1.mono HB0.out.size)⟩
end Go.Proofs.Ytgebfpncapfaoaa
