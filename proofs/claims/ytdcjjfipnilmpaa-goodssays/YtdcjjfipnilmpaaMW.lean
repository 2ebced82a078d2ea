/- What havePlayers, haveMines, isTroop, haveTroops and Check tell -/
import Derived.Test.YtdcjjfipnilmpaaMR
import Derived.Test.YtdcjjfipnilmpaaMS
/- What havePlayers and haveMines return. -/
namespace Go.Proofs.Ytdcjjfipnilmpaa
open Go.RowKit
set_option linter.unusedVariables false
set_option linter.unusedSimpArgs false

theorem bool_no {b : Bool} {P : Prop} (h : b = true ↔ P) (hn : ¬ P) : b = false := by
  cases b with
  | false => rfl
  | true => exact absurd (h.1 rfl) hn
theorem crow_take {w : World} {p : Option Addr} {cs : List Cel} (h : crow w p cs) (k : Nat) : crow w p (cs.take k) := by
  intro j c hj
  refine h j c ?_
  rw [List.getElem?_take] at hj
  split at hj
  · exact hj
  · cases hj
set_option maxRecDepth 20000 in
set_option maxHeartbeats 4000000 in
theorem havePlayers_at (s : Wld) (W H : Nat) (b : Bool) (w : World) (h : s.fit w) (hA : s.A = W) (hB : s.B = H) (hf : okf W H s.l) (hnb : s.nb ≤ 8) (hb : Hid (b = true ↔ PLr W H s.l s.lb s.ls)) :
    Calls Try.prog 41 #[s.val] w fun e w' => e = .returned (.bool b) ∧ Below w.heap.size w w' := by
  obtain ⟨A, B, p, n, c, l, pb, nb, cb, lb, ps, ns, cs, ls, pm, nm, cm, lm, pt, nt, ct, lt, N, T⟩ := s
  have hr := h.r
  have hn := h.h
  have rb := h.rb
  have hlb := h.hb
  have kb := h.kb
  have rs := h.rs
  have hls := h.hs
  have hms := h.ms
  clear h
  unfold Wld.val
  dsimp only at *
  subst hA hB
  have HF : Hid (okf W H l) := hf
  have HN : Hid (l.length = n) := hn
  have HLB : Hid (lb.length = nb) := hlb
  have HLS : Hid (ls.length = ns) := hls
  obtain ⟨F, hF⟩ : ∃ F, w.heap.size = F := ⟨_, rfl⟩
  obtain ⟨w0, hw0⟩ : ∃ w0, w.alloc (.cells #[.int .i64 (W : Int), .int .i64 (H : Int), .slice p n c, .slice pb nb cb, .slice ps ns cs, .slice pm nm cm, .slice pt nt ct, .int .i64 N, .int .i64 T] 28) = w0 := ⟨_, rfl⟩
  have HBX : Hid (∀ V, Below w0.heap.size w0 V → c9 V F (.int .i64 (W : Int)) (.int .i64 (H : Int)) (.slice p n c) (.slice pb nb cb) (.slice ps ns cs) (.slice pm nm cm) (.slice pt nt ct) (.int .i64 N) (.int .i64 T)) := fun V hV => boxw hF hw0 hV
  have hB0 : Below w.heap.size w w0 := by rw [← hw0]; exact alloc_below _ _
  have HB0 : Hid (Below w.heap.size w w0) := hB0
  have HR : Hid (row vi w0 p l) := row_below hr hB0
  have HRB : Hid (crow w0 pb lb) := crow_below rb hB0
  have HRS : Hid (row vi w0 ps ls) := row_below rs hB0
  obtain ⟨z0, z1, z2, z3, z4, z5, z6, z7, z8⟩ := HBX.out w0 (Below.refl _ _)
  clear hr rb rs hB0 hn hlb hls hf
  by_cases hne : ns = nb
  rotate_left
  · have hne2 : ¬ ((ns : Int) = nb) := by omega
    have d1 : ((ns : Int) != (nb : Int)) = true := by simp [hne2]
    have d2 : (ns != nb) = true := by simp [hne]
    have eb : b = false := bool_no hb.out (fun h => hne (by have := h.1; rw [HLS.out, HLB.out] at this; exact this))
    subst eb
    clear hne
    go_enter Try.func41, Try.ntmps41
    go_wp2_with fail
    go_ret
    exact ⟨rfl, HB0.out⟩
  subst hne
  cases hq : ls.any am with
  | true =>
    have HQ : Hid (ls.any am = true) := hq
    have eb : b = false := bool_no hb.out (fun h => by have := h.2.1; rw [hq] at this; cases this)
    subst eb
    clear hq
    go_enter Try.func41, Try.ntmps41
    go_wp2_with fail
    refine (ContainsFunc_any isNoAmount_asks ps ns cs ls true _ HRS.out HLS.out hms HQ).mono ?_
    rintro e w' ⟨rfl, hw⟩; subst w'
    go_wp2_with fail
    go_ret
    exact ⟨rfl, HB0.out⟩
  | false =>
    have HQ : Hid (ls.any am = false) := hq
    clear hq
    go_enter Try.func41, Try.ntmps41
    go_wp2_with fail
    refine (ContainsFunc_any isNoAmount_asks ps ns cs ls false _ HRS.out HLS.out hms HQ).mono ?_
    rintro e w' ⟨rfl, hw⟩; subst w'
    go_wp2_with fail
    clear hw0 z0 z1 z2 z3 z4 z5 z6 z7 z8
    go_loopw [20] (fun i wr => ∃ k : Nat, i = .int .i64 (k : Int) ∧ k ≤ ns ∧ Hid (Below w0.heap.size w0 wr ∧ (∀ i (h : i < lb.length), i < k → opn W H l lb[i].x lb[i].y = true) ∧ (lb.take k).Nodup)) (fun i _ => ns - (intOf i).toNat)
    case atStart => exact ⟨0, rfl, by omega, Below.refl _ _, fun i h hi => by omega, by simp⟩
    case round =>
      obtain ⟨k, rfl, hk, HS⟩ := hrel
      by_cases hlt : k < ns
      · have hkl : k < lb.length := by rw [HLB.out]; exact hlt
        obtain ⟨a, rfl, ha, hay⟩ := crow_at (crow_below HRB.out HS.out.1) hkl
        obtain ⟨x, hX⟩ : ∃ X, lb[k].x = X := ⟨_, rfl⟩
        obtain ⟨y, hY⟩ : ∃ Y, lb[k].y = Y := ⟨_, rfl⟩
        have HXY : Hid (lb[k] = ⟨x, y⟩) := by unfold Hid; rw [← hX, ← hY]
        rw [hX] at ha
        rw [hY] at hay
        have ha' : wr.cell? (a.add (k * 2)) = some (.int .i64 x) := ha
        have hay' : wr.cell? ⟨(a.add (k * 2)).block, (a.add (k * 2)).off + 1, none⟩ = some (.int .i64 y) := cell_two hay
        obtain ⟨w4, hw4⟩ : ∃ w4, wr.alloc (.cells #[.int .i64 x, .int .i64 y] 45) = w4 := ⟨_, rfl⟩
        obtain ⟨G, hG⟩ : ∃ G, wr.heap.size = G := ⟨_, rfl⟩
        have hB4 : Below w0.heap.size w0 w4 := by rw [← hw4]; exact HS.out.1.alloc HS.out.1.size _
        have HB4 : Hid (Below w0.heap.size w0 w4) := hB4
        obtain ⟨t0, t1, t2, t3, -, -, -, -, -⟩ := HBX.out w4 hB4
        have g0 : w4.cell? ⟨G, 0, none⟩ = some (.int .i64 x) := by rw [← hw4, ← hG]; simp [go_sem]
        have g1 : w4.cell? ⟨G, 1, none⟩ = some (.int .i64 y) := by rw [← hw4, ← hG]; simp [go_sem]
        obtain ⟨o, ho⟩ : ∃ o, opn W H l x y = o := ⟨_, rfl⟩
        obtain ⟨d, hd⟩ : ∃ d : Bool, d = true ↔ (⟨x, y⟩ : Cel) ∈ lb.take k := ⟨@decide _ (Classical.propDecidable _), @decide_eq_true_iff _ (Classical.propDecidable _)⟩
        have HOP : Hid (∀ V, Below w4.heap.size w4 V → Calls Try.prog 59 #[.agg #[.int .i64 (W : Int), .int .i64 (H : Int), .slice p n c], .agg #[.int .i64 x, .int .i64 y]] V fun e w' => e = .returned (.bool o) ∧ Below V.heap.size V w') := fun V hV =>
          isOpen_at W H p n c l x y o V (row_below HR.out (HB4.out.trans (hV.mono HB4.out.size))) HF.out.1 HF.out.2.1 HN.out (by rw [← HN.out]; exact HF.out.2.2.1) ho
        have HCT : Hid (∀ V, Below w4.heap.size w4 V → Calls Try.prog 60 #[.slice (some a) k cb, .agg #[.int .i64 x, .int .i64 y]] V fun e w' => e = .returned (.bool d) ∧ Below V.heap.size V w') := fun V hV =>
          Containsc_any (some a) k cb (lb.take k) x y d V (by rw [List.length_take, HLB.out]; omega) (by omega) (crow_take (crow_below HRB.out (HB4.out.trans (hV.mono HB4.out.size))) k) hd
        have HOD : Hid ((o = true ∧ d = false → (∀ i (h : i < lb.length), i < k + 1 → opn W H l lb[i].x lb[i].y = true) ∧ (lb.take (k + 1)).Nodup) ∧ (¬ (o = true ∧ d = false) → b = false)) := by
          refine ⟨fun h => ⟨fun i hi hik => ?_, ?_⟩, fun h => bool_no hb.out (fun hp => h ⟨?_, ?_⟩)⟩
          · by_cases e : i = k
            · subst e; rw [hX, hY, ho]; exact h.1
            · exact HS.out.2.1 i hi (by omega)
          · refine (take_nodup hkl).2 ⟨HS.out.2.2, fun hm => ?_⟩
            rw [HXY.out] at hm
            have := hd.2 hm
            rw [h.2] at this; cases this
          · have := hp.2.2.1 k hkl
            rw [hX, hY, ho] at this; exact this
          · refine bool_no hd (fun hm => ?_)
            have := ((take_nodup hkl).1 (nodup_take (k := k + 1) hp.2.2.2)).2
            rw [HXY.out] at this
            exact this hm
        have l1 : (k : Int) < ns := by omega
        have l2 : (0 : Int) ≤ k := by omega
        have l3 : (k : Int) ≤ cb := by omega
        clear hX hY ha hay ho hd hB4
        cases o with
        | false =>
          have HBN : Hid (b = false) := HOD.out.2 (by simp)
          go_wp2_with fail
          refine wp_region_noPanic ?_
          refine wp_region_held_drew (S := (fun V => Below w4.heap.size w4 V ∧ V.cell? ⟨F, 0, none⟩ = some (.int .i64 (W : Int)) ∧ V.cell? ⟨F, 1, none⟩ = some (.int .i64 (H : Int)) ∧ V.cell? ⟨F, 2, none⟩ = some (.slice p n c) ∧ V.cell? ⟨F, 3, none⟩ = some (.slice (some a) ns cb) ∧ V.cell? ⟨G, 0, none⟩ = some (.int .i64 x) ∧ V.cell? ⟨G, 1, none⟩ = some (.int .i64 y))) (by kernel_rfl) ⟨Below.drew (Below.refl _ _), t0, t1, t2, t3, g0, g1⟩ (fun hHeld => ?_)
          refine wpAnyH_take (i := 0) (oi := ?o0) (v := .pointer (some ⟨F, 0, none⟩)) ?hi0 (by kernel_rfl) (by kernel_rfl) (by kernel_rfl) (fun _ _ _ h => h) ?hy0 hHeld ?rest0
          case hi0 => simp only [List.getElem?_toArray, List.getElem?_cons_zero, List.getElem?_cons_succ]; first | done | rfl
          case hy0 => exact Or.inl ⟨by rfl, by intro V hV; obtain ⟨s0, s1, s2, s3, s4, s5, s6⟩ := hV; go_simp⟩
          try simp only [Act.put, List.setIfInBounds_toArray, List.set_cons_zero, List.set_cons_succ]
          refine wpAnyH_take (i := 1) (oi := ?o1) (v := .agg #[.int .i64 (W : Int), .int .i64 (H : Int), .slice p n c]) ?hi1 (by kernel_rfl) (by kernel_rfl) (by kernel_rfl) (fun _ _ _ h => h) ?hy1 hHeld ?rest1
          case hi1 => simp only [List.getElem?_toArray, List.getElem?_cons_zero, List.getElem?_cons_succ]; first | done | rfl
          case hy1 => exact Or.inl ⟨by rfl, by intro V hV; obtain ⟨s0, s1, s2, s3, s4, s5, s6⟩ := hV; go_simp⟩
          try simp only [Act.put, List.setIfInBounds_toArray, List.set_cons_zero, List.set_cons_succ]
          refine wpAnyH_take (i := 2) (oi := ?o2) (v := .agg #[.int .i64 x, .int .i64 y]) ?hi2 (by kernel_rfl) (by kernel_rfl) (by kernel_rfl) (fun _ _ _ h => h) ?hy2 hHeld ?rest2
          case hi2 => simp only [List.getElem?_toArray, List.getElem?_cons_zero, List.getElem?_cons_succ]; first | done | rfl
          case hy2 => exact Or.inl ⟨by rfl, by intro V hV; obtain ⟨s0, s1, s2, s3, s4, s5, s6⟩ := hV; go_simp⟩
          try simp only [Act.put, List.setIfInBounds_toArray, List.set_cons_zero, List.set_cons_succ]
          refine wpAnyH_ready (rs := [3]) (by kernel_rfl) (by simp) ?_
          refine AllReadyH.cons (o := ?o3) ?hi3 (fun K hK => ?step3) AllReadyH.nil
          case hi3 => simp only [List.getElem?_toArray, List.getElem?_cons_zero, List.getElem?_cons_succ]; first | done | rfl
          go_simp
          go_at_call 59
          refine (HOP.out _ (And.left (by assumption))).mono ?_
          rintro e w5 ⟨rfl, hb5⟩
          go_wp2_with fail
          refine hK.out _ _ (k6_call hHeld hb5) (fun hHeld5 => ?_)
          clear hK K
          try simp only [Act.put, List.setIfInBounds_toArray, List.set_cons_zero, List.set_cons_succ]
          refine wpAnyH_take (i := 4) (oi := ?o4) (v := .bool true) ?hi4 (by kernel_rfl) (by kernel_rfl) (by kernel_rfl) (fun _ _ _ h => h) ?hy4 hHeld5 ?rest4
          case hi4 => simp only [List.getElem?_toArray, List.getElem?_cons_zero, List.getElem?_cons_succ]; first | done | rfl
          case hy4 => exact Or.inl ⟨by rfl, by intro V hV; obtain ⟨s0, s1, s2, s3, s4, s5, s6⟩ := hV; go_simp⟩
          try simp only [Act.put, List.setIfInBounds_toArray, List.set_cons_zero, List.set_cons_succ]
          refine wpAnyH_take (i := 5) (oi := ?o5) (v := .bool true) ?hi5 (by kernel_rfl) (by kernel_rfl) (by kernel_rfl) (fun _ _ _ h => h) ?hy5 hHeld5 ?rest5
          case hi5 => simp only [List.getElem?_toArray, List.getElem?_cons_zero, List.getElem?_cons_succ]; first | done | rfl
          case hy5 => exact Or.inl ⟨by rfl, by intro V hV; obtain ⟨s0, s1, s2, s3, s4, s5, s6⟩ := hV; go_simp⟩
          try simp only [Act.put, List.setIfInBounds_toArray, List.set_cons_zero, List.set_cons_succ]
          refine wpAnyH_take (i := 6) (oi := ?o6) (v := undef) ?hi6 (by kernel_rfl) (by kernel_rfl) (by kernel_rfl) (fun _ _ _ h => h) ?hy6 hHeld5 ?rest6
          case hi6 => simp only [List.getElem?_toArray, List.getElem?_cons_zero, List.getElem?_cons_succ]; first | done | rfl
          case hy6 => exact Or.inr ⟨by rfl, rfl⟩
          try simp only [Act.put, List.setIfInBounds_toArray, List.set_cons_zero, List.set_cons_succ]
          refine wpAnyH_take (i := 7) (oi := ?o7) (v := undef) ?hi7 (by kernel_rfl) (by kernel_rfl) (by kernel_rfl) (fun _ _ _ h => h) ?hy7 hHeld5 ?rest7
          case hi7 => simp only [List.getElem?_toArray, List.getElem?_cons_zero, List.getElem?_cons_succ]; first | done | rfl
          case hy7 => exact Or.inr ⟨by rfl, rfl⟩
          try simp only [Act.put, List.setIfInBounds_toArray, List.set_cons_zero, List.set_cons_succ]
          refine wpAnyH_take (i := 8) (oi := ?o8) (v := undef) ?hi8 (by kernel_rfl) (by kernel_rfl) (by kernel_rfl) (fun _ _ _ h => h) ?hy8 hHeld5 ?rest8
          case hi8 => simp only [List.getElem?_toArray, List.getElem?_cons_zero, List.getElem?_cons_succ]; first | done | rfl
          case hy8 => exact Or.inr ⟨by rfl, rfl⟩
          try simp only [Act.put, List.setIfInBounds_toArray, List.set_cons_zero, List.set_cons_succ]
          refine wpAnyH_take (i := 9) (oi := ?o9) (v := undef) ?hi9 (by kernel_rfl) (by kernel_rfl) (by kernel_rfl) (fun _ _ _ h => h) ?hy9 hHeld5 ?rest9
          case hi9 => simp only [List.getElem?_toArray, List.getElem?_cons_zero, List.getElem?_cons_succ]; first | done | rfl
          case hy9 => exact Or.inr ⟨by rfl, rfl⟩
          try simp only [Act.put, List.setIfInBounds_toArray, List.set_cons_zero, List.set_cons_succ]
          refine wpAnyH_take (i := 10) (oi := ?o10) (v := undef) ?hi10 (by kernel_rfl) (by kernel_rfl) (by kernel_rfl) (fun _ _ _ h => h) ?hy10 hHeld5 ?rest10
          case hi10 => simp only [List.getElem?_toArray, List.getElem?_cons_zero, List.getElem?_cons_succ]; first | done | rfl
          case hy10 => exact Or.inr ⟨by rfl, rfl⟩
          try simp only [Act.put, List.setIfInBounds_toArray, List.set_cons_zero, List.set_cons_succ]
          refine wpAnyH_take (i := 11) (oi := ?o11) (v := undef) ?hi11 (by kernel_rfl) (by kernel_rfl) (by kernel_rfl) (fun _ _ _ h => h) ?hy11 hHeld5 ?rest11
          case hi11 => simp only [List.getElem?_toArray, List.getElem?_cons_zero, List.getElem?_cons_succ]; first | done | rfl
          case hy11 => exact Or.inr ⟨by rfl, rfl⟩
          try simp only [Act.put, List.setIfInBounds_toArray, List.set_cons_zero, List.set_cons_succ]
          refine wpAnyH_take (i := 12) (oi := ?o12) (v := .bool true) ?hi12 (by kernel_rfl) (by kernel_rfl) (by kernel_rfl) (fun _ _ _ h => h) ?hy12 hHeld5 ?rest12
          case hi12 => simp only [List.getElem?_toArray, List.getElem?_cons_zero, List.getElem?_cons_succ]; first | done | rfl
          case hy12 => exact Or.inl ⟨by rfl, by intro V hV; obtain ⟨s0, s1, s2, s3, s4, s5, s6⟩ := hV; go_simp⟩
          try simp only [Act.put, List.setIfInBounds_toArray, List.set_cons_zero, List.set_cons_succ]
          refine wpAnyH_done (by kernel_rfl) ?_ _
          refine NoPanic.normal ?_
          have HB5 : Hid (Below w0.heap.size w0 w5) := HB4.out.trans (hHeld5.1.mono HB4.out.size)
          clear hHeld hHeld5 hb5
          go_wp2_with fail
          go_ret
          exact ⟨by rw [HBN.out]; rfl, HB0.out.trans (HB5.out.mono HB0.out.size)⟩
        | true =>
          go_wp2_with fail
          go_region_held3 (fun V => Below w4.heap.size w4 V ∧ V.cell? ⟨F, 0, none⟩ = some (.int .i64 (W : Int)) ∧ V.cell? ⟨F, 1, none⟩ = some (.int .i64 (H : Int)) ∧ V.cell? ⟨F, 2, none⟩ = some (.slice p n c) ∧ V.cell? ⟨F, 3, none⟩ = some (.slice (some a) ns cb) ∧ V.cell? ⟨G, 0, none⟩ = some (.int .i64 x) ∧ V.cell? ⟨G, 1, none⟩ = some (.int .i64 y)) (first | with_reducible assumption | with_reducible exact k6_drew (by assumption) | with_reducible exact k6_call (by assumption) (by assumption) | exact ⟨Below.drew (Below.refl _ _), t0, t1, t2, t3, g0, g1⟩) (first
            | (go_at_call 59; with_reducible refine (HOP.out _ (And.left (by assumption))).mono ?_; rintro e w5 ⟨rfl, hb5⟩)
            | (go_at_call 60; with_reducible refine (HCT.out _ (And.left (by assumption))).mono ?_; rintro e w6 ⟨rfl, hb6⟩))
          have hb46 : Below w4.heap.size w4 w6 := ((Below.refl _ _).drew.trans hb5).trans (hb6.mono ((Below.refl _ _).drew.trans hb5).size)
          have HB6 : Hid (Below w0.heap.size w0 w6) := HB4.out.trans (hb46.mono HB4.out.size)
          clear hb46 hb5 hb6
          cases d with
          | true =>
            have HBN : Hid (b = false) := HOD.out.2 (by simp)
            go_wp2_with fail
            go_ret
            exact ⟨by rw [HBN.out]; rfl, HB0.out.trans (HB6.out.mono HB0.out.size)⟩
          | false =>
            have HNX := HOD.out.1 (by simp)
            have HNX2 : Hid ((∀ i (h : i < lb.length), i < k + 1 → opn W H l lb[i].x lb[i].y = true) ∧ (lb.take (k + 1)).Nodup) := HNX
            clear HNX t0 t1 t2 t3 g0 g1 hw4
            go_wp2_with fail
            go_roundw
            case rel => exact ⟨k + 1, by go_num, by omega, HB6.out, HNX2.out⟩
            case measure => simp [intOf]; omega
      · have HBT : Hid (b = true) := hb.out.2 ⟨by rw [HLS.out, HLB.out], HQ.out, fun i hi => HS.out.2.1 i hi (by have := HLB.out; omega), by
          have := HS.out.2.2
          rw [List.take_of_length_le (by have := HLB.out; omega)] at this; exact this⟩
        go_wp2_with fail
        go_ret
        exact ⟨by rw [HBT.out]; rfl, HB0.out.trans (HS.out.1.mono HB0.out.size)⟩
end Go.Proofs.Ytdcjjfipnilmpaa
/- What haveMines returns. -/
namespace Go.Proofs.Ytdcjjfipnilmpaa
open Go.RowKit
set_option linter.unusedVariables false

set_option maxRecDepth 20000 in
set_option maxHeartbeats 4000000 in
theorem haveMines_at (s : Wld) (W H : Nat) (b : Bool) (w : World) (h : s.fit w) (hA : s.A = W) (hB : s.B = H) (hf : okf W H s.l) (hb : Hid (b = true ↔ MNr s.l s.lm)) :
    Calls Try.prog 42 #[s.val] w fun e w' => e = .returned (.bool b) ∧ Below w.heap.size w w' := by
  obtain ⟨A, B, p, n, c, l, pb, nb, cb, lb, ps, ns, cs, ls, pm, nm, cm, lm, pt, nt, ct, lt, N, T⟩ := s
  have hr := h.r
  have hn := h.h
  have hm := h.m
  have rm := h.rm
  have hlm := h.hm
  have mm := h.mm
  clear h
  unfold Wld.val
  dsimp only at *
  subst hA hB
  have HN : Hid (l.length = n) := hn
  have HLM : Hid (lm.length = nm) := hlm
  have hn1600 : n ≤ 1600 := by rw [← hn, hf.2.2.1]; exact wh_le hf.1 hf.2.1
  obtain ⟨F, hF⟩ : ∃ F, w.heap.size = F := ⟨_, rfl⟩
  obtain ⟨w0, hw0⟩ : ∃ w0, w.alloc (.cells #[.int .i64 (W : Int), .int .i64 (H : Int), .slice p n c, .slice pb nb cb, .slice ps ns cs, .slice pm nm cm, .slice pt nt ct, .int .i64 N, .int .i64 T] 28) = w0 := ⟨_, rfl⟩
  have HBX : Hid (∀ V, Below w0.heap.size w0 V → c9 V F (.int .i64 (W : Int)) (.int .i64 (H : Int)) (.slice p n c) (.slice pb nb cb) (.slice ps ns cs) (.slice pm nm cm) (.slice pt nt ct) (.int .i64 N) (.int .i64 T)) := fun V hV => boxw hF hw0 hV
  have hB0 : Below w.heap.size w w0 := by rw [← hw0]; exact alloc_below _ _
  have HB0 : Hid (Below w.heap.size w w0) := hB0
  have HR : Hid (row vi w0 p l) := row_below hr hB0
  have HRM : Hid (row vi w0 pm lm) := row_below rm hB0
  obtain ⟨z0, z1, z2, z3, z4, z5, z6, z7, z8⟩ := HBX.out w0 (Below.refl _ _)
  clear hr rm hB0 hn hlm hf
  by_cases hne : nm = n
  rotate_left
  · have hne2 : ¬ ((nm : Int) = n) := by omega
    have d1 : ((nm : Int) != (n : Int)) = true := by simp [hne2]
    have d2 : (nm != n) = true := by simp [hne]
    have eb : b = false := bool_no hb.out (fun h => hne (by have := h.1; rw [HLM.out, HN.out] at this; exact this))
    subst eb
    clear hne
    go_enter Try.func42, Try.ntmps42
    go_wp2_with fail
    go_ret
    exact ⟨rfl, HB0.out⟩
  subst hne
  cases hq : lm.any am with
  | true =>
    have HQ : Hid (lm.any am = true) := hq
    have eb : b = false := bool_no hb.out (fun h => by have := h.2.1; rw [hq] at this; cases this)
    subst eb
    clear hq
    go_enter Try.func42, Try.ntmps42
    go_wp2_with fail
    refine (ContainsFunc_any isNoAmount_asks pm nm cm lm true _ HRM.out HLM.out mm HQ).mono ?_
    rintro e w' ⟨rfl, hw⟩; subst w'
    go_wp2_with fail
    go_ret
    exact ⟨rfl, HB0.out⟩
  | false =>
    have HQ : Hid (lm.any am = false) := hq
    clear hq
    go_enter Try.func42, Try.ntmps42
    go_wp2_with fail
    refine (ContainsFunc_any isNoAmount_asks pm nm cm lm false _ HRM.out HLM.out mm HQ).mono ?_
    rintro e w' ⟨rfl, hw⟩; subst w'
    go_wp2_with fail
    clear hw0 hF
    go_loop [21] (fun i => ∃ k : Nat, i = .int .i64 (k : Int) ∧ k ≤ nm ∧ Hid (∀ i (h : i < lm.length), i < k → lm[i] ≠ 0 → l.getD i 0 = 3)) (fun i => nm - (intOf i).toNat)
    case atStart => exact ⟨0, rfl, by omega, fun i h hi => by omega⟩
    case round =>
      obtain ⟨k, rfl, hk, HS⟩ := hrel
      by_cases hlt : k < nm
      · have hkl : k < lm.length := by rw [HLM.out]; exact hlt
        have hkl2 : k < l.length := by rw [HN.out]; exact hlt
        obtain ⟨am_, rfl, ha⟩ := row_at HRM.out hkl
        obtain ⟨ap, rfl, hc⟩ := row_at HR.out hkl2
        obtain ⟨X, hX⟩ : ∃ X, lm[k] = X := ⟨_, rfl⟩
        obtain ⟨Z, hZ⟩ : ∃ Z, l[k] = Z := ⟨_, rfl⟩
        have HZ : Hid (l.getD k 0 = Z) := by unfold Hid; rw [List.getD_eq_getElem?_getD, List.getElem?_eq_getElem hkl2, ← hZ]; rfl
        have HX : Hid (lm[k] = X) := hX
        rw [hX] at ha
        rw [hZ] at hc
        have ha' : w0.cell? (am_.add k) = some (.int .i64 X) := ha
        have hc' : w0.cell? (ap.add k) = some (.int .i64 Z) := hc
        have l1 : (k : Int) < nm := by omega
        have l2 : (0 : Int) ≤ k := by omega
        have HNX : Hid ((X = 0 ∨ Z = 3) → ∀ i (h : i < lm.length), i < k + 1 → lm[i] ≠ 0 → l.getD i 0 = 3) := fun h i hi hik hne => by
          by_cases e : i = k
          · subst e
            rw [HX.out] at hne
            rcases h with h | h
            · exact absurd h hne
            · rw [HZ.out]; exact h
          · exact HS.out i hi (by omega) hne
        have HBN : Hid (X ≠ 0 → Z ≠ 3 → b = false) := fun h1 h2 => bool_no hb.out (fun hp => h2 (by rw [← HZ.out]; exact hp.2.2 k hkl (by rw [HX.out]; exact h1)))
        clear hX hZ ha hc
        by_cases hx : X = 0
        · subst hx
          have HN2 := HNX.out (.inl rfl)
          have HN3 : Hid (∀ i (h : i < lm.length), i < k + 1 → lm[i] ≠ 0 → l.getD i 0 = 3) := HN2
          clear HN2
          go_wp2_with fail
          go_round
          case rel => exact ⟨k + 1, by go_num, by omega, HN3.out⟩
          case measure => simp [intOf]; omega
        · have d1 : (X != 0) = true := by simp [hx]
          by_cases hz : Z = 3
          · subst hz
            have HN3 : Hid (∀ i (h : i < lm.length), i < k + 1 → lm[i] ≠ 0 → l.getD i 0 = 3) := HNX.out (.inr rfl)
            go_wp2_with fail
            go_round
            case rel => exact ⟨k + 1, by go_num, by omega, HN3.out⟩
            case measure => simp [intOf]; omega
          · have d2 : (Z != 3) = true := by simp [hz]
            have HB2 : Hid (b = false) := HBN.out hx hz
            go_wp2_with fail
            go_ret
            exact ⟨by rw [HB2.out]; rfl, HB0.out⟩
      · have HBT : Hid (b = true) := hb.out.2 ⟨by rw [HLM.out, HN.out], HQ.out, fun i hi => HS.out i hi (by have := HLM.out; omega)⟩
        go_wp2_with fail
        go_ret
        exact ⟨by rw [HBT.out]; rfl, HB0.out⟩
end Go.Proofs.Ytdcjjfipnilmpaa
/- What isTroop returns. -/
namespace Go.Proofs.Ytdcjjfipnilmpaa
open Go.RowKit
set_option linter.unusedVariables false

theorem mostLoad_at (k M : Int) (w : World) (h : Hid (loadOf k = M)) : Calls Try.prog 68 #[.int .i64 k] w fun e w' => e = .returned (.int .i64 M) ∧ w' = w := by
  have := mostLoad_any k w
  rw [← h.out]; exact this
theorem Kind_no (k : Int) (w : World) (h1 : k ≠ 1) (h2 : k ≠ 2) : Calls Try.prog 33 #[.int .i64 k] w fun e w' => e = .returned (.tuple #[.agg #[.int .i64 0, .int .i64 0, .int .i64 0, .int .i64 0], .int .i64 1]) ∧ Below w.heap.size w w' := by
  have := Kind_any k w
  have e1 : kdv k = .agg #[.int .i64 0, .int .i64 0, .int .i64 0, .int .i64 0] := by unfold kdv; simp [h1, h2]
  have e2 : kde k = 1 := by unfold kde; simp [h1, h2]
  rw [e1, e2] at this; exact this
theorem Kind_yes (k : Int) (h : k = 1 ∨ k = 2) : ∃ r g q : Int, ∀ (w : World), Calls Try.prog 33 #[.int .i64 k] w fun e w' => e = .returned (.tuple #[.agg #[.int .i64 (lifeOf k), .int .i64 r, .int .i64 g, .int .i64 q], .int .i64 0]) ∧ Below w.heap.size w w' := by
  rcases h with rfl | rfl
  · exact ⟨1, 1, 5, fun w => Kind_any 1 w⟩
  · exact ⟨2, 4, 12, fun w => Kind_any 2 w⟩
/-- The cells of a world's box and of a troop's at a call's head. -/
theorem box97 {w w0 V : World} {a b c d e f g h i : Value} {a' b' c' d' e' f' g' : Value} {t t' : TypeId} {F : Nat} (hF : w.heap.size = F) (hw : (w.alloc (.cells #[a, b, c, d, e, f, g, h, i] t)).alloc (.cells #[a', b', c', d', e', f', g'] t') = w0) (hb : Below w0.heap.size w0 V) :
    c9 V F a b c d e f g h i ∧ (V.cell? ⟨F + 1, 0, none⟩ = some a' ∧ V.cell? ⟨F + 1, 1, none⟩ = some b' ∧ V.cell? ⟨F + 1, 2, none⟩ = some c' ∧ V.cell? ⟨F + 1, 3, none⟩ = some d' ∧ V.cell? ⟨F + 1, 4, none⟩ = some e' ∧ V.cell? ⟨F + 1, 5, none⟩ = some f' ∧ V.cell? ⟨F + 1, 6, none⟩ = some g') := by
  have hb1 : Below (w.alloc (.cells #[a, b, c, d, e, f, g, h, i] t)).heap.size (w.alloc (.cells #[a, b, c, d, e, f, g, h, i] t)) V := by
    have : Below (w.alloc (.cells #[a, b, c, d, e, f, g, h, i] t)).heap.size (w.alloc (.cells #[a, b, c, d, e, f, g, h, i] t)) w0 := by rw [← hw]; exact alloc_below _ _
    exact this.trans (hb.mono this.size)
  exact ⟨boxw hF rfl hb1, boxt (by rw [World.size_alloc, hF]) hw hb⟩
/-- A box of four. -/
theorem box4_ {w w0 V : World} {a b c d : Value} {t : TypeId} {F : Nat} (hF : w.heap.size = F) (hw : w.alloc (.cells #[a, b, c, d] t) = w0) (hb : Below w0.heap.size w0 V) :
    V.cell? ⟨F, 0, none⟩ = some a ∧ V.cell? ⟨F, 1, none⟩ = some b ∧ V.cell? ⟨F, 2, none⟩ = some c ∧ V.cell? ⟨F, 3, none⟩ = some d := by
  subst hw hF
  refine ⟨?_, ?_, ?_, ?_⟩
  all_goals
    rw [hb.cell (by simp)]
    simp [go_sem]
set_option maxRecDepth 20000 in
set_option maxHeartbeats 4000000 in
theorem isTroop_at (s : Wld) (t : Trp) (W H : Nat) (b : Bool) (w : World) (h : s.fit w) (hA : s.A = W) (hB : s.B = H) (hf : okf W H s.l) (hnb : s.nb ≤ 8) (hb : Hid (b = true ↔ T1r W H s.l s.nb t)) :
    Calls Try.prog 61 #[s.val, tv t] w fun e w' => e = .returned (.bool b) ∧ Below w.heap.size w w' := by
  obtain ⟨A, B, p, n, c, l, pb, nb, cb, lb, ps, ns, cs, ls, pm, nm, cm, lm, pt, nt, ct, lt, N, T⟩ := s
  obtain ⟨ti, to_, tk, tx, ty, tf, td⟩ := t
  have hr := h.r
  have hn := h.h
  clear h
  unfold Wld.val tv
  dsimp only at *
  subst hA hB
  have HF : Hid (okf W H l) := hf
  have HN : Hid (l.length = n) := hn
  obtain ⟨F, hF⟩ : ∃ F, w.heap.size = F := ⟨_, rfl⟩
  obtain ⟨w0, hw0⟩ : ∃ w0, (w.alloc (.cells #[.int .i64 (W : Int), .int .i64 (H : Int), .slice p n c, .slice pb nb cb, .slice ps ns cs, .slice pm nm cm, .slice pt nt ct, .int .i64 N, .int .i64 T] 28)).alloc (.cells #[.int .i64 ti, .int .i64 to_, .int .i64 tk, .int .i64 tx, .int .i64 ty, .int .i64 tf, .int .i64 td] 47) = w0 := ⟨_, rfl⟩
  have HBX : Hid (∀ V, Below w0.heap.size w0 V → c9 V F (.int .i64 (W : Int)) (.int .i64 (H : Int)) (.slice p n c) (.slice pb nb cb) (.slice ps ns cs) (.slice pm nm cm) (.slice pt nt ct) (.int .i64 N) (.int .i64 T) ∧ (V.cell? ⟨F + 1, 0, none⟩ = some (.int .i64 ti) ∧ V.cell? ⟨F + 1, 1, none⟩ = some (.int .i64 to_) ∧ V.cell? ⟨F + 1, 2, none⟩ = some (.int .i64 tk) ∧ V.cell? ⟨F + 1, 3, none⟩ = some (.int .i64 tx) ∧ V.cell? ⟨F + 1, 4, none⟩ = some (.int .i64 ty) ∧ V.cell? ⟨F + 1, 5, none⟩ = some (.int .i64 tf) ∧ V.cell? ⟨F + 1, 6, none⟩ = some (.int .i64 td))) := fun V hV => box97 hF hw0 hV
  have hB0 : Below w.heap.size w w0 := by rw [← hw0]; exact (alloc_below w _).alloc (by simp) _
  have HB0 : Hid (Below w.heap.size w w0) := hB0
  have HR : Hid (row vi w0 p l) := row_below hr hB0
  obtain ⟨⟨z0, z1, z2, z3, z4, z5, z6, z7, z8⟩, y0, y1, y2, y3, y4, y5, y6⟩ := HBX.out w0 (Below.refl _ _)
  clear hr hB0 hn hf
  by_cases hk : tk = 1 ∨ tk = 2
  rotate_left
  · have eb : b = false := bool_no hb.out (fun h => hk h.1)
    subst eb
    have k1 : tk ≠ 1 := fun e => hk (.inl e)
    have k2 : tk ≠ 2 := fun e => hk (.inr e)
    clear hk
    go_enter Try.func61, Try.ntmps61
    go_wp2_with fail
    refine (Kind_no tk w0 k1 k2).mono ?_
    rintro e w1 ⟨rfl, hb1⟩
    have HB1 : Hid (Below w0.heap.size w0 w1) := hb1
    clear hb1
    go_wp2_with fail
    go_ret
    exact ⟨rfl, HB0.out.trans (((HB1.out.alloc HB1.out.size _)).mono HB0.out.size)⟩
  obtain ⟨r, g, q, hK⟩ := Kind_yes tk hk
  obtain ⟨L, hL⟩ : ∃ L, lifeOf tk = L := ⟨_, rfl⟩
  obtain ⟨M, hM⟩ : ∃ M, loadOf tk = M := ⟨_, rfl⟩
  rw [hL] at hK
  have HL : Hid (lifeOf tk = L) := hL
  have HM : Hid (loadOf tk = M) := hM
  have HK : Hid (∀ (w : World), Calls Try.prog 33 #[.int .i64 tk] w fun e w' => e = .returned (.tuple #[.agg #[.int .i64 L, .int .i64 r, .int .i64 g, .int .i64 q], .int .i64 0]) ∧ Below w.heap.size w w') := hK
  have HKK : Hid (tk = 1 ∨ tk = 2) := hk
  obtain ⟨o, ho⟩ : ∃ o, opn W H l tx ty = o := ⟨_, rfl⟩
  have HO : Hid (opn W H l tx ty = o) := ho
  have HBT : Hid (0 ≤ to_ → to_ < nb → o = true → 1 ≤ tf → tf ≤ L → 0 ≤ td → td ≤ M → b = true) := fun h1 h2 h3 h4 h5 h6 h7 => hb.out.2 ⟨HKK.out, h1, h2, by dsimp only; rw [HO.out]; exact h3, h4, by dsimp only; rw [HL.out]; exact h5, h6, by dsimp only; rw [HM.out]; exact h7⟩
  have HBN : Hid (¬ (0 ≤ to_ ∧ to_ < nb ∧ o = true ∧ 1 ≤ tf ∧ tf ≤ L ∧ 0 ≤ td ∧ td ≤ M) → b = false) := fun h => bool_no hb.out (fun hp => h ⟨hp.2.1, hp.2.2.1, by rw [← HO.out]; exact hp.2.2.2.1, hp.2.2.2.2.1, by rw [← HL.out]; exact hp.2.2.2.2.2.1, hp.2.2.2.2.2.2.1, by rw [← HM.out]; exact hp.2.2.2.2.2.2.2⟩)
  clear hk hK hL hM ho hb
  go_enter Try.func61, Try.ntmps61
  go_wp2_with fail
  refine (HK.out w0).mono ?_
  rintro e w1 ⟨rfl, hb1⟩
  obtain ⟨G, hG⟩ : ∃ G, w1.heap.size = G := ⟨_, rfl⟩
  obtain ⟨w2, hw2⟩ : ∃ w2, w1.alloc (.cells #[.int .i64 L, .int .i64 r, .int .i64 g, .int .i64 q] 71) = w2 := ⟨_, rfl⟩
  have hb2 : Below w0.heap.size w0 w2 := by rw [← hw2]; exact hb1.alloc hb1.size _
  have HB2 : Hid (Below w0.heap.size w0 w2) := hb2
  have HBG : Hid (∀ V, Below w2.heap.size w2 V → V.cell? ⟨G, 0, none⟩ = some (.int .i64 L)) := fun V hV => (box4_ hG hw2 hV).1
  clear z0 z1 z2 z3 z4 z5 z6 z7 z8 y0 y1 y2 y3 y4 y5 y6 hw0 hb1
  obtain ⟨⟨z0, z1, z2, z3, -, -, -, -, -⟩, y0, y1, y2, y3, y4, y5, y6⟩ := HBX.out w2 hb2
  have g0 := HBG.out w2 (Below.refl _ _)
  have HOP := isOpen_at W H p n c l tx ty o w2 (row_below HR.out hb2) HF.out.1 HF.out.2.1 HN.out (by rw [← HN.out]; exact HF.out.2.2.1) HO
  have HOP2 : Hid (Calls Try.prog 59 #[.agg #[.int .i64 (W : Int), .int .i64 (H : Int), .slice p n c], .agg #[.int .i64 tx, .int .i64 ty]] w2 fun e w' => e = .returned (.bool o) ∧ Below w2.heap.size w2 w') := HOP
  clear hb2 HOP
  by_cases o1 : to_ < 0
  · have HB3 : Hid (Below w0.heap.size w0 w2) := HB2.out
    have HBF : Hid (b = false) := HBN.out (fun h => by omega)
    go_wp2_with fail
    go_ret
    exact ⟨by rw [HBF.out]; rfl, HB0.out.trans (HB3.out.mono HB0.out.size)⟩
  by_cases o2 : (nb : Int) ≤ to_
  · have HB3 : Hid (Below w0.heap.size w0 w2) := HB2.out
    have HBF : Hid (b = false) := HBN.out (fun h => by omega)
    go_wp2_with fail
    go_ret
    exact ⟨by rw [HBF.out]; rfl, HB0.out.trans (HB3.out.mono HB0.out.size)⟩
  have o3 : to_ < nb := by omega
  have o4 : 0 ≤ to_ := by omega
  go_wp2_with fail
  refine HOP2.out.mono ?_
  rintro e w3 ⟨rfl, hb3⟩
  have HB3 : Hid (Below w0.heap.size w0 w3) := HB2.out.trans (hb3.mono HB2.out.size)
  clear z0 z1 z2 z3 y0 y1 y2 y3 y4 y5 y6 g0 hw2
  cases o with
  | false =>
    have HBF : Hid (b = false) := HBN.out (fun h => by simp at h)
    go_wp2_with fail
    go_ret
    exact ⟨by rw [HBF.out]; rfl, HB0.out.trans (HB3.out.mono HB0.out.size)⟩
  | true =>
    obtain ⟨-, y0, y1, y2, y3, y4, y5, y6⟩ := HBX.out w3 HB3.out
    have g0 := HBG.out w3 hb3
    clear hb3 HOP2
    by_cases f1 : 1 ≤ tf
    rotate_left
    · have d1 : decide (1 ≤ tf) = false := by simp; omega
      have HBF : Hid (b = false) := HBN.out (fun h => by omega)
      go_wp2_with fail
      go_quiet ((go_at_call 68; exact Calls.quiet_of_same (mostLoad_at tk M _ HM)))
      go_wp2_with fail
      go_ret
      exact ⟨by rw [HBF.out]; rfl, below_drewN (HB0.out.trans (HB3.out.mono HB0.out.size)) _⟩
    have d1 : decide (1 ≤ tf) = true := by simp; omega
    by_cases f2 : tf ≤ L
    rotate_left
    · have d2 : decide (tf ≤ L) = false := by simp; omega
      have HBF : Hid (b = false) := HBN.out (fun h => by omega)
      go_wp2_with fail
      go_quiet ((go_at_call 68; exact Calls.quiet_of_same (mostLoad_at tk M _ HM)))
      go_wp2_with fail
      go_ret
      exact ⟨by rw [HBF.out]; rfl, below_drewN (HB0.out.trans (HB3.out.mono HB0.out.size)) _⟩
    have d2 : decide (tf ≤ L) = true := by simp; omega
    by_cases f3 : 0 ≤ td
    rotate_left
    · have d3 : decide (0 ≤ td) = false := by simp; omega
      have HBF : Hid (b = false) := HBN.out (fun h => by omega)
      go_wp2_with fail
      go_quiet ((go_at_call 68; exact Calls.quiet_of_same (mostLoad_at tk M _ HM)))
      go_wp2_with fail
      go_ret
      exact ⟨by rw [HBF.out]; rfl, below_drewN (HB0.out.trans (HB3.out.mono HB0.out.size)) _⟩
    have d3 : decide (0 ≤ td) = true := by simp; omega
    by_cases f4 : td ≤ M
    rotate_left
    · have d4 : decide (td ≤ M) = false := by simp; omega
      have HBF : Hid (b = false) := HBN.out (fun h => by omega)
      go_wp2_with fail
      go_quiet ((go_at_call 68; exact Calls.quiet_of_same (mostLoad_at tk M _ HM)))
      go_wp2_with fail
      go_ret
      exact ⟨by rw [HBF.out]; first | rfl | (simp; done) | (simp; omega), below_drewN (HB0.out.trans (HB3.out.mono HB0.out.size)) _⟩
    have d4 : decide (td ≤ M) = true := by simp; omega
    have HBF : Hid (b = true) := HBT.out o4 o3 rfl f1 f2 f3 f4
    go_wp2_with fail
    go_quiet ((go_at_call 68; exact Calls.quiet_of_same (mostLoad_at tk M _ HM)))
    go_wp2_with fail
    go_ret
    exact ⟨by rw [HBF.out]; first | rfl | (simp; done) | (simp; omega), below_drewN (HB0.out.trans (HB3.out.mono HB0.out.size)) _⟩
end Go.Proofs.Ytdcjjfipnilmpaa
/- What haveTroops returns. -/
namespace Go.Proofs.Ytdcjjfipnilmpaa
open Go.RowKit
set_option linter.unusedVariables false
set_option linter.unusedSimpArgs false

/-- The Id of the troop ahead of the k-th, or 0. -/
def lastI (lt : List Trp) : Nat → Int
  | 0 => 0
  | k + 1 => ((lt[k]?).map Trp.i).getD 0
theorem lastI_succ {lt : List Trp} {k : Nat} (hk : k < lt.length) : lastI lt (k + 1) = lt[k].i := by
  show ((lt[k]?).map Trp.i).getD 0 = _
  rw [List.getElem?_eq_getElem hk]; rfl
theorem rise {lt : List Trp} (h : ∀ i (hi : i < lt.length), lastI lt i < lt[i].i) : lt.Pairwise (fun a b => a.i < b.i) ∧ ∀ i (hi : i < lt.length), 1 ≤ lt[i].i := by
  have key : ∀ j (hj : j < lt.length), (∀ i (hi : i < lt.length), i < j → lt[i].i < lt[j].i) ∧ 1 ≤ lt[j].i := by
    intro j
    induction j with
    | zero =>
      intro hj
      have := h 0 hj
      have e0 : lastI lt 0 = 0 := rfl
      exact ⟨fun i _ hi => by omega, by omega⟩
    | succ j ih =>
      intro hj
      have h1 := h (j + 1) hj
      rw [lastI_succ (by omega)] at h1
      obtain ⟨h2, h3⟩ := ih (by omega)
      refine ⟨fun i hi hij => ?_, by omega⟩
      by_cases e : i = j
      · subst e; exact h1
      · have := h2 i hi (by omega); omega
  refine ⟨?_, fun i hi => (key i hi).2⟩
  rw [List.pairwise_iff_getElem]
  intro i j hi hj hij
  exact (key j hj).1 i hi hij
theorem risen {lt : List Trp} (h : lt.Pairwise (fun a b => a.i < b.i)) (h1 : ∀ i (hi : i < lt.length), 1 ≤ lt[i].i) (i : Nat) (hi : i < lt.length) : lastI lt i < lt[i].i := by
  cases i with
  | zero => have := h1 0 hi; have e0 : lastI lt 0 = 0 := rfl; omega
  | succ k =>
    rw [lastI_succ (by omega)]
    exact List.pairwise_iff_getElem.1 h k (k + 1) (by omega) hi (by omega)
set_option maxRecDepth 20000 in
set_option maxHeartbeats 4000000 in
theorem haveTroops_at (s : Wld) (W H : Nat) (b : Bool) (w : World) (h : s.fit w) (hA : s.A = W) (hB : s.B = H) (hf : okf W H s.l) (hnb : s.nb ≤ 8) (hnt : s.nt ≤ 100) (hb : Hid (b = true ↔ TRr W H s.l s.nb s.N s.lt)) :
    Calls Try.prog 43 #[s.val] w fun e w' => e = .returned (.bool b) ∧ Below w.heap.size w w' := by
  have HT1 : Hid (∀ V t b, Below w.heap.size w V → (b = true ↔ T1r W H s.l s.nb t) → Calls Try.prog 61 #[s.val, tv t] V fun e w' => e = .returned (.bool b) ∧ Below V.heap.size V w') := fun V t b hV hb => isTroop_at s t W H b V (Wld.fit_below h hV) hA hB hf hnb hb
  obtain ⟨A, B, p, n, c, l, pb, nb, cb, lb, ps, ns, cs, ls, pm, nm, cm, lm, pt, nt, ct, lt, N, T⟩ := s
  have rt := h.rt
  have hlt := h.ht
  have xt := h.xt
  clear h
  unfold Wld.val at *
  dsimp only at *
  subst hA hB
  have HLT : Hid (lt.length = nt) := hlt
  have HXT : Hid (∀ t ∈ lt, fitt t) := xt
  obtain ⟨F, hF⟩ : ∃ F, w.heap.size = F := ⟨_, rfl⟩
  obtain ⟨w0, hw0⟩ : ∃ w0, w.alloc (.cells #[.int .i64 (W : Int), .int .i64 (H : Int), .slice p n c, .slice pb nb cb, .slice ps ns cs, .slice pm nm cm, .slice pt nt ct, .int .i64 N, .int .i64 T] 28) = w0 := ⟨_, rfl⟩
  have HBX : Hid (∀ V, Below w0.heap.size w0 V → c9 V F (.int .i64 (W : Int)) (.int .i64 (H : Int)) (.slice p n c) (.slice pb nb cb) (.slice ps ns cs) (.slice pm nm cm) (.slice pt nt ct) (.int .i64 N) (.int .i64 T)) := fun V hV => boxw hF hw0 hV
  have hB0 : Below w.heap.size w w0 := by rw [← hw0]; exact alloc_below _ _
  have HB0 : Hid (Below w.heap.size w w0) := hB0
  have HRT : Hid (trow w0 pt lt) := trow_below rt hB0
  have HIT : Hid (∀ V t b, Below w0.heap.size w0 V → (b = true ↔ T1r W H l nb t) → Calls Try.prog 61 #[.agg #[.int .i64 (W : Int), .int .i64 (H : Int), .slice p n c, .slice pb nb cb, .slice ps ns cs, .slice pm nm cm, .slice pt nt ct, .int .i64 N, .int .i64 T], tv t] V fun e w' => e = .returned (.bool b) ∧ Below V.heap.size V w') := fun V t b hV hb => HT1.out V t b (HB0.out.trans (hV.mono HB0.out.size)) hb
  have HST : Hid (∀ V, Below w0.heap.size w0 V → Calls Try.prog 62 #[.slice pt nt ct] V fun e w' => (∃ b, e = .returned (.map (some b)) ∧ mapc w' b (lt.map Trp.c)) ∧ Below V.heap.size V w') := fun V hV => standing_any pt nt ct lt V (trow_below HRT.out hV) HLT.out hnt HXT.out
  obtain ⟨z0, z1, z2, z3, z4, z5, z6, z7, z8⟩ := HBX.out w0 (Below.refl _ _)
  clear rt hB0 hlt hf xt HT1
  go_enter Try.func43, Try.ntmps43
  go_wp2_with fail
  clear hw0 hF z0 z1 z2 z3 z4 z5 z6 z7 z8
  go_loopw [3, 9] (fun la i wr => ∃ k : Nat, i = .int .i64 (k : Int) ∧ k ≤ nt ∧ la = .int .i64 (lastI lt k) ∧ Hid (Below w0.heap.size w0 wr ∧ ∀ i (h : i < lt.length), i < k → lastI lt i < lt[i].i ∧ lt[i].i < N ∧ T1r W H l nb lt[i])) (fun _ i _ => nt - (intOf i).toNat)
  case atStart => exact ⟨0, rfl, by omega, rfl, Below.refl _ _, fun i h hi => by omega⟩
  case round =>
    obtain ⟨k, rfl, hk, rfl, HS⟩ := hrel
    obtain ⟨L, hL⟩ : ∃ L, lastI lt k = L := ⟨_, rfl⟩
    rw [hL]
    have HL : Hid (lastI lt k = L) := hL
    clear hL
    by_cases hkn : k < nt
    · have hkl : k < lt.length := by rw [HLT.out]; exact hkn
      obtain ⟨a, rfl, hc⟩ := trow_at (trow_below HRT.out HS.out.1) hkl
      obtain ⟨t, ht⟩ : ∃ t, lt[k] = t := ⟨_, rfl⟩
      have HT : Hid (lt[k] = t) := ht
      rw [ht] at hc
      clear ht
      obtain ⟨ti, to_, tk, tx, ty, tf, td⟩ := t
      obtain ⟨c0, c1, c2, c3, c4, c5, c6⟩ := hc
      simp only at c0 c1 c2 c3 c4 c5 c6
      obtain ⟨w4, hw4⟩ : ∃ w4, wr.alloc (.cells #[.int .i64 ti, .int .i64 to_, .int .i64 tk, .int .i64 tx, .int .i64 ty, .int .i64 tf, .int .i64 td] 47) = w4 := ⟨_, rfl⟩
      obtain ⟨G, hG⟩ : ∃ G, wr.heap.size = G := ⟨_, rfl⟩
      have HBT : Hid (∀ V, Below w4.heap.size w4 V → V.cell? ⟨G, 0, none⟩ = some (.int .i64 ti) ∧ V.cell? ⟨G, 1, none⟩ = some (.int .i64 to_) ∧ V.cell? ⟨G, 2, none⟩ = some (.int .i64 tk) ∧ V.cell? ⟨G, 3, none⟩ = some (.int .i64 tx) ∧ V.cell? ⟨G, 4, none⟩ = some (.int .i64 ty) ∧ V.cell? ⟨G, 5, none⟩ = some (.int .i64 tf) ∧ V.cell? ⟨G, 6, none⟩ = some (.int .i64 td)) := fun V hV => boxt hG hw4 hV
      have hB4 : Below w0.heap.size w0 w4 := by rw [← hw4]; exact HS.out.1.alloc HS.out.1.size _
      have HB4 : Hid (Below w0.heap.size w0 w4) := hB4
      obtain ⟨t0, t1, t2, t3, t4, t5, t6, t7, t8⟩ := HBX.out w4 hB4
      obtain ⟨g0, g1, g2, g3, g4, g5, g6⟩ := HBT.out w4 (Below.refl _ _)
      obtain ⟨o, ho⟩ : ∃ o : Bool, o = true ↔ T1r W H l nb ⟨ti, to_, tk, tx, ty, tf, td⟩ := ⟨@decide _ (Classical.propDecidable _), @decide_eq_true_iff _ (Classical.propDecidable _)⟩
      have HCI : Hid (Calls Try.prog 61 #[.agg #[.int .i64 (W : Int), .int .i64 (H : Int), .slice p n c, .slice pb nb cb, .slice ps ns cs, .slice pm nm cm, .slice (some a) nt ct, .int .i64 N, .int .i64 T], .agg #[.int .i64 ti, .int .i64 to_, .int .i64 tk, .int .i64 tx, .int .i64 ty, .int .i64 tf, .int .i64 td]] w4 fun e w' => e = .returned (.bool o) ∧ Below w4.heap.size w4 w') := HIT.out w4 ⟨ti, to_, tk, tx, ty, tf, td⟩ o hB4 ho
      have HNX : Hid (L < ti → ti < N → o = true → ∀ i (h : i < lt.length), i < k + 1 → lastI lt i < lt[i].i ∧ lt[i].i < N ∧ T1r W H l nb lt[i]) := fun h1 h2 h3 i hi hik => by
        by_cases e : i = k
        · subst e; rw [HT.out, HL.out]; exact ⟨h1, h2, ho.1 h3⟩
        · exact HS.out.2 i hi (by omega)
      have HBN : Hid (¬ (L < ti ∧ ti < N ∧ o = true) → b = false) := fun h => bool_no hb.out (fun hp => h (by
        have h1 := hp.1 k hkl
        have h2 := risen hp.2.1 (fun i hi => (hp.1 i hi).1) k hkl
        rw [HT.out] at h1 h2
        rw [HL.out] at h2
        exact ⟨h2, h1.2.1, ho.2 h1.2.2⟩))
      have HNL : Hid (lastI lt (k + 1) = ti) := by unfold Hid; rw [lastI_succ hkl, HT.out]
      have l1 : (k : Int) < nt := by omega
      have l2 : (0 : Int) ≤ k := by omega
      clear ho hB4
      by_cases q1 : ti ≤ L
      · have HBF : Hid (b = false) := HBN.out (fun h => by omega)
        go_wp2_with fail
        go_ret
        exact ⟨by rw [HBF.out]; rfl, HB0.out.trans (HB4.out.mono HB0.out.size)⟩
      by_cases q2 : N ≤ ti
      · have HBF : Hid (b = false) := HBN.out (fun h => by omega)
        go_wp2_with fail
        go_ret
        exact ⟨by rw [HBF.out]; rfl, HB0.out.trans (HB4.out.mono HB0.out.size)⟩
      go_wp2_with fail
      refine (Calls.mono HCI.out ?_)
      rintro e w5 ⟨rfl, hb5⟩
      have HB5 : Hid (Below w0.heap.size w0 w5) := HB4.out.trans (hb5.mono HB4.out.size)
      clear t0 t1 t2 t3 t4 t5 t6 t7 t8 g0 g1 g2 g3 g4 g5 g6 hw4 c0 c1 c2 c3 c4 c5 c6
      obtain ⟨g0, -, -, -, -, -, -⟩ := HBT.out w5 hb5
      clear hb5
      cases o with
      | false =>
        have HBF : Hid (b = false) := HBN.out (fun h => by simp at h)
        go_wp2_with fail
        go_ret
        exact ⟨by rw [HBF.out]; rfl, HB0.out.trans (HB5.out.mono HB0.out.size)⟩
      | true =>
        have HN2 : Hid (∀ i (h : i < lt.length), i < k + 1 → lastI lt i < lt[i].i ∧ lt[i].i < N ∧ T1r W H l nb lt[i]) := HNX.out (by omega) (by omega) rfl
        go_wp2_with fail
        go_roundw
        case rel => exact ⟨k + 1, by go_num, by omega, by rw [HNL.out], HB5.out, HN2.out⟩
        case measure => simp [intOf]; omega
    · have hall : Hid (∀ i (h : i < lt.length), lastI lt i < lt[i].i ∧ lt[i].i < N ∧ T1r W H l nb lt[i]) := fun i hi => HS.out.2 i hi (by have := HLT.out; omega)
      have HBD : Hid (b = true ↔ (lt.map Trp.c).Nodup) := by
        have h1 := rise (fun i hi => (hall.out i hi).1)
        exact ⟨fun h => (hb.out.1 h).2.2, fun h => hb.out.2 ⟨fun i hi => ⟨h1.2 i hi, (hall.out i hi).2⟩, h1.1, h⟩⟩
      have HBr : Hid (Below w0.heap.size w0 wr) := HS.out.1
      obtain ⟨-, -, -, -, -, -, t6, t7, -⟩ := HBX.out wr HS.out.1
      have HST2 : Hid (∀ V, Below wr.heap.size wr V → Calls Try.prog 62 #[.slice pt nt ct] V fun e w' => (∃ b, e = .returned (.map (some b)) ∧ mapc w' b (lt.map Trp.c)) ∧ Below V.heap.size V w') := fun V hV => HST.out V (HBr.out.trans (hV.mono HBr.out.size))
      clear hall
      go_wp2_with fail
      refine wp_region_noPanic ?_
      refine wp_region_held_drew (S := (fun V => Below wr.heap.size wr V ∧ V.cell? ⟨F, 6, none⟩ = some (.slice pt nt ct) ∧ V.cell? ⟨F, 7, none⟩ = some (.int .i64 N))) (by kernel_rfl) ⟨Below.drew (Below.refl _ _), t6, t7⟩ (fun hHeld => ?_)
      refine wpAnyH_take (i := 0) (oi := ?o0) (v := .pointer (some ⟨F, 6, none⟩)) ?hi0 (by kernel_rfl) (by kernel_rfl) (by kernel_rfl) (fun _ _ _ h => h) ?hy0 hHeld ?rest0
      case hi0 => simp only [List.getElem?_toArray, List.getElem?_cons_zero, List.getElem?_cons_succ]; first | done | rfl
      case hy0 => exact Or.inl ⟨by rfl, by intro V hV; obtain ⟨s0, s1, s2⟩ := hV; go_simp⟩
      try simp only [Act.put, List.setIfInBounds_toArray, List.set_cons_zero, List.set_cons_succ]
      refine wpAnyH_take (i := 1) (oi := ?o1) (v := .slice pt nt ct) ?hi1 (by kernel_rfl) (by kernel_rfl) (by kernel_rfl) (fun _ _ _ h => h) ?hy1 hHeld ?rest1
      case hi1 => simp only [List.getElem?_toArray, List.getElem?_cons_zero, List.getElem?_cons_succ]; first | done | rfl
      case hy1 => exact Or.inl ⟨by rfl, by intro V hV; obtain ⟨s0, s1, s2⟩ := hV; go_simp⟩
      try simp only [Act.put, List.setIfInBounds_toArray, List.set_cons_zero, List.set_cons_succ]
      refine wpAnyH_take (i := 4) (oi := ?o4) (v := .pointer (some ⟨F, 6, none⟩)) ?hi4 (by kernel_rfl) (by kernel_rfl) (by kernel_rfl) (fun _ _ _ h => h) ?hy4 hHeld ?rest4
      case hi4 => simp only [List.getElem?_toArray, List.getElem?_cons_zero, List.getElem?_cons_succ]; first | done | rfl
      case hy4 => exact Or.inl ⟨by rfl, by intro V hV; obtain ⟨s0, s1, s2⟩ := hV; go_simp⟩
      try simp only [Act.put, List.setIfInBounds_toArray, List.set_cons_zero, List.set_cons_succ]
      refine wpAnyH_take (i := 5) (oi := ?o5) (v := .slice pt nt ct) ?hi5 (by kernel_rfl) (by kernel_rfl) (by kernel_rfl) (fun _ _ _ h => h) ?hy5 hHeld ?rest5
      case hi5 => simp only [List.getElem?_toArray, List.getElem?_cons_zero, List.getElem?_cons_succ]; first | done | rfl
      case hy5 => exact Or.inl ⟨by rfl, by intro V hV; obtain ⟨s0, s1, s2⟩ := hV; go_simp⟩
      try simp only [Act.put, List.setIfInBounds_toArray, List.set_cons_zero, List.set_cons_succ]
      refine wpAnyH_take (i := 6) (oi := ?o6) (v := .int .i64 (nt : Int)) ?hi6 (by kernel_rfl) (by kernel_rfl) (by kernel_rfl) (fun _ _ _ h => h) ?hy6 hHeld ?rest6
      case hi6 => simp only [List.getElem?_toArray, List.getElem?_cons_zero, List.getElem?_cons_succ]; first | done | rfl
      case hy6 => exact Or.inl ⟨by rfl, by intro V hV; obtain ⟨s0, s1, s2⟩ := hV; go_simp⟩
      try simp only [Act.put, List.setIfInBounds_toArray, List.set_cons_zero, List.set_cons_succ]
      refine wpAnyH_ready (rs := [2]) (by kernel_rfl) (by simp) ?_
      refine AllReadyH.cons (o := ?o2) ?hi2 (fun K hK => ?step2) AllReadyH.nil
      case hi2 => simp only [List.getElem?_toArray, List.getElem?_cons_zero, List.getElem?_cons_succ]; first | done | rfl
      go_simp
      go_at_call 62
      refine (HST2.out _ (And.left (by assumption))).mono ?_
      rintro e w5 ⟨⟨bm, rfl, hM⟩, hb5⟩
      obtain ⟨m, hlen, hle, hall⟩ := mapc_len hM
      go_wp2_with fail
      refine hK.out _ _ (k2_call hHeld hb5) (fun hHeld5 => ?_)
      clear hK K
      try simp only [Act.put, List.setIfInBounds_toArray, List.set_cons_zero, List.set_cons_succ]
      refine wpAnyH_ready (rs := [3]) (by kernel_rfl) (by simp) ?_
      refine AllReadyH.cons (o := ?o3) ?hi3 (fun K hK => ?step3) AllReadyH.nil
      case hi3 => simp only [List.getElem?_toArray, List.getElem?_cons_zero, List.getElem?_cons_succ]; first | done | rfl
      go_simp
      refine hK.out _ _ hHeld5 (fun hHeld6 => ?_)
      clear hK K
      try simp only [Act.put, List.setIfInBounds_toArray, List.set_cons_zero, List.set_cons_succ]
      refine wpAnyH_take (i := 7) (oi := ?o7) (v := .bool ((m : Int) == (nt : Int))) ?hi7 (by kernel_rfl) (by kernel_rfl) (by kernel_rfl) (fun _ _ _ h => h) ?hy7 hHeld6 ?rest7
      case hi7 => simp only [List.getElem?_toArray, List.getElem?_cons_zero, List.getElem?_cons_succ]; first | done | rfl
      case hy7 => exact Or.inl ⟨by rfl, by intro V hV; obtain ⟨s0, s1, s2⟩ := hV; go_simp⟩
      try simp only [Act.put, List.setIfInBounds_toArray, List.set_cons_zero, List.set_cons_succ]
      refine wpAnyH_take (i := 8) (oi := ?o8) (v := .bool ((m : Int) == (nt : Int))) ?hi8 (by kernel_rfl) (by kernel_rfl) (by kernel_rfl) (fun _ _ _ h => h) ?hy8 hHeld6 ?rest8
      case hi8 => simp only [List.getElem?_toArray, List.getElem?_cons_zero, List.getElem?_cons_succ]; first | done | rfl
      case hy8 => exact Or.inl ⟨by rfl, by intro V hV; obtain ⟨s0, s1, s2⟩ := hV; go_simp⟩
      try simp only [Act.put, List.setIfInBounds_toArray, List.set_cons_zero, List.set_cons_succ]
      refine wpAnyH_done (by kernel_rfl) ?_ _
      refine NoPanic.normal ?_
      have HALL : Hid (b = true ↔ m = nt) := by
        rw [List.length_map, HLT.out] at hall
        exact ⟨fun h => hall.2 (HBD.out.1 h), fun h => HBD.out.2 (hall.1 h)⟩
      have HB5 : Hid (Below w0.heap.size w0 w5) := HBr.out.trans (((Below.refl _ _).drew.trans hb5).mono HBr.out.size)
      clear hall hlen hle hM hb5
      go_wp2_with fail
      go_ret
      refine ⟨?_, HB0.out.trans (HB5.out.mono HB0.out.size)⟩
      by_cases hmn : m = nt
      · rw [HALL.out.2 hmn, hmn]; simp
      · rw [bool_no HALL.out hmn]; simp; omega
end Go.Proofs.Ytdcjjfipnilmpaa
/- What Check returns of a world. -/
namespace Go.Proofs.Ytdcjjfipnilmpaa
open Go.RowKit
set_option linter.unusedVariables false

theorem the_bool (P : Prop) : ∃ b : Bool, b = true ↔ P := ⟨@decide _ (Classical.propDecidable _), @decide_eq_true_iff _ (Classical.propDecidable _)⟩
set_option maxRecDepth 20000 in
set_option maxHeartbeats 4000000 in
theorem Check_world (s : Wld) (E : Int) (w : World) (h : s.fit w) (hE : Hid (wre s E)) :
    Calls Try.prog 17 #[s.val] w fun e w' => e = .returned (.int .i64 E) ∧ Below w.heap.size w w' := by
  obtain ⟨K, hK⟩ : ∃ K, ck s.A s.B s.l = K := ⟨_, rfl⟩
  have HFC : Hid (∀ V, Below w.heap.size w V → Calls Try.prog 39 #[.agg #[.int .i64 s.A, .int .i64 s.B, .slice s.p s.n s.c]] V fun e w' => e = .returned (.int .i64 K) ∧ Below V.heap.size V w') := fun V hV => by
    have := Check_any s.A s.B s.p s.n s.c s.l V (row_below h.r hV) h.h h.m
    rw [hK] at this; exact this
  have HCO : Hid (∀ V, Calls Try.prog 40 #[s.val] V fun e w' => e = .returned (.bool (cok s.N s.T)) ∧ Below V.heap.size V w') := fun V => haveCounts_any s V
  have HPL : Hid (∀ (V : World) (W H : Nat) (b : Bool), Below w.heap.size w V → s.A = W → s.B = H → okf W H s.l → s.nb ≤ 8 → (b = true ↔ PLr W H s.l s.lb s.ls) → Calls Try.prog 41 #[s.val] V fun e w' => e = .returned (.bool b) ∧ Below V.heap.size V w') := fun V W H b hV hA hB hf hnb hb => havePlayers_at s W H b V (Wld.fit_below h hV) hA hB hf hnb hb
  have HMN : Hid (∀ (V : World) (W H : Nat) (b : Bool), Below w.heap.size w V → s.A = W → s.B = H → okf W H s.l → (b = true ↔ MNr s.l s.lm) → Calls Try.prog 42 #[s.val] V fun e w' => e = .returned (.bool b) ∧ Below V.heap.size V w') := fun V W H b hV hA hB hf hb => haveMines_at s W H b V (Wld.fit_below h hV) hA hB hf hb
  have HTR : Hid (∀ (V : World) (W H : Nat) (b : Bool), Below w.heap.size w V → s.A = W → s.B = H → okf W H s.l → s.nb ≤ 8 → s.nt ≤ 100 → (b = true ↔ TRr W H s.l s.nb s.N s.lt) → Calls Try.prog 43 #[s.val] V fun e w' => e = .returned (.bool b) ∧ Below V.heap.size V w') := fun V W H b hV hA hB hf hnb hnt hb => haveTroops_at s W H b V (Wld.fit_below h hV) hA hB hf hnb hnt hb
  clear h
  obtain ⟨A, B, p, n, c, l, pb, nb, cb, lb, ps, ns, cs, ls, pm, nm, cm, lm, pt, nt, ct, lt, N, T⟩ := s
  unfold Wld.val at *
  dsimp only at *
  obtain ⟨F, hF⟩ : ∃ F, w.heap.size = F := ⟨_, rfl⟩
  obtain ⟨w0, hw0⟩ : ∃ w0, w.alloc (.cells #[.int .i64 A, .int .i64 B, .slice p n c, .slice pb nb cb, .slice ps ns cs, .slice pm nm cm, .slice pt nt ct, .int .i64 N, .int .i64 T] 28) = w0 := ⟨_, rfl⟩
  have HBX : Hid (∀ V, Below w0.heap.size w0 V → c9 V F (.int .i64 A) (.int .i64 B) (.slice p n c) (.slice pb nb cb) (.slice ps ns cs) (.slice pm nm cm) (.slice pt nt ct) (.int .i64 N) (.int .i64 T)) := fun V hV => boxw hF hw0 hV
  have hB0 : Below w.heap.size w w0 := by rw [← hw0]; exact alloc_below _ _
  have HB0 : Hid (Below w.heap.size w w0) := hB0
  have HUP : Hid (∀ V, Below w0.heap.size w0 V → Below w.heap.size w V) := fun V hV => HB0.out.trans (hV.mono HB0.out.size)
  obtain ⟨z0, z1, z2, z3, z4, z5, z6, z7, z8⟩ := HBX.out w0 (Below.refl _ _)
  have HCK : Hid (ck A B l = K) := hK
  have HS0 : Hid (wre ⟨A, B, p, n, c, l, pb, nb, cb, lb, ps, ns, cs, ls, pm, nm, cm, lm, pt, nt, ct, lt, N, T⟩ E) := hE
  clear hK hB0 hE
  go_enter Try.func17, Try.ntmps17
  go_wp2_with fail
  refine (HFC.out w0 HB0.out).mono ?_
  rintro e w1 ⟨rfl, hb1⟩
  have HB1 : Hid (Below w0.heap.size w0 w1) := hb1
  clear z0 z1 z2 z3 z4 z5 z6 z7 z8 hw0 hb1
  obtain ⟨z0, z1, z2, z3, z4, z5, z6, z7, z8⟩ := HBX.out w1 HB1.out
  by_cases hK0 : K = 0
  rotate_left
  · have d1 : (K != 0) = true := by simp [hK0]
    have eE : E = K := by
      rcases HS0.out with ⟨_, h⟩ | ⟨h, _⟩ | ⟨h, _⟩
      · rw [h]; exact HCK.out
      · exact absurd (HCK.out.symm.trans h) hK0
      · exact absurd (HCK.out.symm.trans h) hK0
    subst eE
    go_wp2_with fail
    go_ret
    exact ⟨rfl, HUP.out w1 HB1.out⟩
  subst hK0
  obtain ⟨W, H, rfl, rfl, hf⟩ := ck_zero HCK.out
  have HF : Hid (okf W H l) := hf
  clear hf
  by_cases hnb : 8 < nb
  · have HE : Hid (E = 2) := by
      rcases HS0.out with ⟨h, _⟩ | ⟨_, _, h⟩ | ⟨_, h, _⟩
      · exact absurd HCK.out h
      · exact h
      · dsimp only at h; omega
    have d1 : (8 : Int) < nb := by omega
    go_wp2_with fail
    go_ret
    exact ⟨by rw [HE.out]; rfl, HUP.out w1 HB1.out⟩
  have d1 : (nb : Int) ≤ 8 := by omega
  by_cases hnt : 100 < nt
  · have HE : Hid (E = 2) := by
      rcases HS0.out with ⟨h, _⟩ | ⟨_, _, h⟩ | ⟨_, _, h, _⟩
      · exact absurd HCK.out h
      · exact h
      · dsimp only at h; omega
    have d2 : (100 : Int) < nt := by omega
    go_wp2_with fail
    go_ret
    exact ⟨by rw [HE.out]; rfl, HUP.out w1 HB1.out⟩
  have d2 : (nt : Int) ≤ 100 := by omega
  obtain ⟨b0, hb0⟩ : ∃ b0, cok N T = b0 := ⟨_, rfl⟩
  obtain ⟨b1, hb1⟩ := the_bool (PLr W H l lb ls)
  obtain ⟨b2, hb2⟩ := the_bool (MNr l lm)
  obtain ⟨b3, hb3⟩ := the_bool (TRr W H l nb N lt)
  have HE0 : Hid (b0 = true → b1 = true → b2 = true → b3 = true → E = 0) := fun h0 h1 h2 h3 => by
    rcases HS0.out with ⟨h, _⟩ | ⟨_, h, _⟩ | ⟨_, _, _, h⟩
    · exact absurd HCK.out h
    · dsimp only at h; omega
    · rcases h with ⟨_, h⟩ | ⟨h, _⟩
      · exact h
      · exact absurd ⟨W, H, rfl, rfl, HF.out, by dsimp only; omega, by dsimp only; omega, hb0.trans h0, hb1.1 h1, hb2.1 h2, hb3.1 h3⟩ h
  have HE4 : Hid (¬ (b0 = true ∧ b1 = true ∧ b2 = true ∧ b3 = true) → E = 4) := fun hn => by
    rcases HS0.out with ⟨h, _⟩ | ⟨_, h, _⟩ | ⟨_, _, _, h⟩
    · exact absurd HCK.out h
    · dsimp only at h; omega
    · rcases h with ⟨⟨W', H', hk⟩, _⟩ | ⟨_, h⟩
      · obtain ⟨hA, hB, _, _, _, h0, h1, h2, h3⟩ := hk
        dsimp only at hA hB h0 h1 h2 h3
        obtain rfl : W = W' := by omega
        obtain rfl : H = H' := by omega
        exact absurd ⟨hb0.symm.trans h0, hb1.2 h1, hb2.2 h2, hb3.2 h3⟩ hn
      · exact h
  have HC0 : Hid (∀ V, Calls Try.prog 40 #[.agg #[.int .i64 (W : Int), .int .i64 (H : Int), .slice p n c, .slice pb nb cb, .slice ps ns cs, .slice pm nm cm, .slice pt nt ct, .int .i64 N, .int .i64 T]] V fun e w' => e = .returned (.bool b0) ∧ Below V.heap.size V w') := fun V => by have := HCO.out V; rw [hb0] at this; exact this
  have HC1 : Hid (∀ V, Below w0.heap.size w0 V → Calls Try.prog 41 #[.agg #[.int .i64 (W : Int), .int .i64 (H : Int), .slice p n c, .slice pb nb cb, .slice ps ns cs, .slice pm nm cm, .slice pt nt ct, .int .i64 N, .int .i64 T]] V fun e w' => e = .returned (.bool b1) ∧ Below V.heap.size V w') := fun V hV => HPL.out V W H b1 (HUP.out V hV) rfl rfl HF.out (by omega) hb1
  have HC2 : Hid (∀ V, Below w0.heap.size w0 V → Calls Try.prog 42 #[.agg #[.int .i64 (W : Int), .int .i64 (H : Int), .slice p n c, .slice pb nb cb, .slice ps ns cs, .slice pm nm cm, .slice pt nt ct, .int .i64 N, .int .i64 T]] V fun e w' => e = .returned (.bool b2) ∧ Below V.heap.size V w') := fun V hV => HMN.out V W H b2 (HUP.out V hV) rfl rfl HF.out hb2
  have HC3 : Hid (∀ V, Below w0.heap.size w0 V → Calls Try.prog 43 #[.agg #[.int .i64 (W : Int), .int .i64 (H : Int), .slice p n c, .slice pb nb cb, .slice ps ns cs, .slice pm nm cm, .slice pt nt ct, .int .i64 N, .int .i64 T]] V fun e w' => e = .returned (.bool b3) ∧ Below V.heap.size V w') := fun V hV => HTR.out V W H b3 (HUP.out V hV) rfl rfl HF.out (by omega) (by omega) hb3
  clear hb0 hb1 hb2 hb3 HFC HCO HPL HMN HTR hF
  go_wp2_with fail
  refine (HC0.out w1).mono ?_
  rintro e w2 ⟨rfl, hb2⟩
  have HB2 : Hid (Below w0.heap.size w0 w2) := HB1.out.trans (hb2.mono HB1.out.size)
  clear z0 z1 z2 z3 z4 z5 z6 z7 z8 hb2
  obtain ⟨z0, z1, z2, z3, z4, z5, z6, z7, z8⟩ := HBX.out w2 HB2.out
  cases b0 with
  | false =>
    have HE : Hid (E = 4) := HE4.out (by simp)
    go_wp2_with fail
    go_ret
    exact ⟨by rw [HE.out]; rfl, HUP.out w2 HB2.out⟩
  | true =>
  go_wp2_with fail
  refine (HC1.out w2 HB2.out).mono ?_
  rintro e w3 ⟨rfl, hb3⟩
  have HB3 : Hid (Below w0.heap.size w0 w3) := HB2.out.trans (hb3.mono HB2.out.size)
  clear z0 z1 z2 z3 z4 z5 z6 z7 z8 hb3
  obtain ⟨z0, z1, z2, z3, z4, z5, z6, z7, z8⟩ := HBX.out w3 HB3.out
  cases b1 with
  | false =>
    have HE : Hid (E = 4) := HE4.out (by simp)
    go_wp2_with fail
    go_ret
    exact ⟨by rw [HE.out]; rfl, HUP.out w3 HB3.out⟩
  | true =>
  go_wp2_with fail
  refine (HC2.out w3 HB3.out).mono ?_
  rintro e w4 ⟨rfl, hb4⟩
  have HB4 : Hid (Below w0.heap.size w0 w4) := HB3.out.trans (hb4.mono HB3.out.size)
  clear z0 z1 z2 z3 z4 z5 z6 z7 z8 hb4
  obtain ⟨z0, z1, z2, z3, z4, z5, z6, z7, z8⟩ := HBX.out w4 HB4.out
  cases b2 with
  | false =>
    have HE : Hid (E = 4) := HE4.out (by simp)
    go_wp2_with fail
    go_ret
    exact ⟨by rw [HE.out]; rfl, HUP.out w4 HB4.out⟩
  | true =>
  go_wp2_with fail
  refine (HC3.out w4 HB4.out).mono ?_
  rintro e w5 ⟨rfl, hb5⟩
  have HB5 : Hid (Below w0.heap.size w0 w5) := HB4.out.trans (hb5.mono HB4.out.size)
  clear z0 z1 z2 z3 z4 z5 z6 z7 z8 hb5
  cases b3 with
  | false =>
    have HE : Hid (E = 4) := HE4.out (by simp)
    go_wp2_with fail
    go_ret
    exact ⟨by rw [HE.out]; rfl, HUP.out w5 HB5.out⟩
  | true =>
  have he : E = 0 := by simpa using HE0.out
  have HE : Hid (E = 0) := he
  clear he
  go_wp2_with fail
  go_ret
  exact ⟨by rw [HE.out]; rfl, HUP.out w5 HB5.out⟩
end Go.Proofs.Ytdcjjfipnilmpaa
