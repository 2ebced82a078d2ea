/- What the document's own WorldRight returns. -/
import Derived.Test.YtgebfpncapfaoaaWx
import Derived.Test.YtgebfpncapfaoaaCut
namespace Go.Proofs.Ytgebfpncapfaoaa
open Go.RowKit
set_option linter.unusedVariables false
set_option linter.unusedSimpArgs false

theorem am_between (x : Int) : (decide (0 ≤ x) && decide (x ≤ 1000000)) = !am x := by
  unfold am
  by_cases h1 : 0 ≤ x <;> by_cases h2 : x ≤ 1000000 <;> simp [h1, h2] <;> omega
theorem crow_cel {w : World} {p : Option Addr} {cs : List Cel} (h : crow w p cs) {k : Nat} (hk : k < cs.length) : ∃ a x y, p = some a ∧ cs[k] = ⟨x, y⟩ ∧ w.cell? (a.add (k * 2)) = some (.int .i64 x) ∧ w.cell? ⟨(a.add (k * 2)).block, (a.add (k * 2)).off + 1, none⟩ = some (.int .i64 y) := by
  obtain ⟨a, ha, h1, h2⟩ := crow_at h hk
  exact ⟨a, cs[k].x, cs[k].y, ha, rfl, h1, cell_two h2⟩
theorem field30 (V : World) (a b c d : Value) : (Instr.field 95 (.agg #[a, b, c, d]) 0).run Try.prog V = .ok a V := by
  simp [Instr.field, run_underlying Try.underlying95, asAgg, Go.part, go_sem]
theorem below_up {w0 w4 V : World} (h : Below w0.heap.size w0 w4) (hV : Below w4.heap.size w4 V) : Below w0.heap.size w0 V := h.trans (hV.mono h.size)
set_option maxRecDepth 20000 in
set_option maxHeartbeats 8000000 in
theorem WorldRight_at (s : Wld) (E : Int) (w : World) (h : s.fit w) (hE : Hid (wre s E)) :
    Calls Try.prog 18 #[s.val] w fun e w' => e = .returned (.int .i64 E) ∧ Below w.heap.size w w' := by
  obtain ⟨K, hK⟩ : ∃ K, ck s.A s.B s.l = K := ⟨_, rfl⟩
  have HFC : Hid (∀ V, Below w.heap.size w V → Calls Try.prog 50 #[.agg #[.int .i64 s.A, .int .i64 s.B, .slice s.p s.n s.c]] V fun e w' => e = .returned (.int .i64 K) ∧ Below V.heap.size V w') := fun V hV =>
    Right_any s.A s.B s.p s.n s.c s.l K V (row_below h.r hV) h.h h.m hK
  obtain ⟨A, B, p, n, c, l, pb, nb, cb, lb, ps, ns, cs, ls, pm, nm, cm, lm, pt, nt, ct, lt, N, T⟩ := s
  have hr := h.r
  have hn := h.h
  have rb := h.rb
  have hlb := h.hb
  have kb := h.kb
  have rs := h.rs
  have hls := h.hs
  have hms := h.ms
  have rm := h.rm
  have hlm := h.hm
  have mm := h.mm
  have rt := h.rt
  have hlt := h.ht
  have kt := h.kt
  clear h
  unfold Wld.val at *
  dsimp only at *
  have HN : Hid (l.length = n) := hn
  have HLB : Hid (lb.length = nb) := hlb
  have HLS : Hid (ls.length = ns) := hls
  have HLM : Hid (lm.length = nm) := hlm
  have HLT : Hid (lt.length = nt) := hlt
  obtain ⟨F, hF⟩ : ∃ F, w.heap.size = F := ⟨_, rfl⟩
  obtain ⟨w0, hw0⟩ : ∃ w0, w.alloc (.cells #[.int .i64 A, .int .i64 B, .slice p n c, .slice pb nb cb, .slice ps ns cs, .slice pm nm cm, .slice pt nt ct, .int .i64 N, .int .i64 T] 41) = w0 := ⟨_, rfl⟩
  have HBX : Hid (∀ V, Below w0.heap.size w0 V → c9 V F (.int .i64 A) (.int .i64 B) (.slice p n c) (.slice pb nb cb) (.slice ps ns cs) (.slice pm nm cm) (.slice pt nt ct) (.int .i64 N) (.int .i64 T)) := fun V hV => boxw hF hw0 hV
  have hB0 : Below w.heap.size w w0 := by rw [← hw0]; exact alloc_below _ _
  have HB0 : Hid (Below w.heap.size w w0) := hB0
  have HUP : Hid (∀ V, Below w0.heap.size w0 V → Below w.heap.size w V) := fun V hV => HB0.out.trans (hV.mono HB0.out.size)
  have HR : Hid (row vi w0 p l) := row_below hr hB0
  have HRB : Hid (crow w0 pb lb) := crow_below rb hB0
  have HRS : Hid (row vi w0 ps ls) := row_below rs hB0
  have HRM : Hid (row vi w0 pm lm) := row_below rm hB0
  have HRT : Hid (trow w0 pt lt) := trow_below rt hB0
  obtain ⟨z0, z1, z2, z3, z4, z5, z6, z7, z8⟩ := HBX.out w0 (Below.refl _ _)
  have HCK : Hid (ck A B l = K) := hK
  have HS0 : Hid (wre ⟨A, B, p, n, c, l, pb, nb, cb, lb, ps, ns, cs, ls, pm, nm, cm, lm, pt, nt, ct, lt, N, T⟩ E) := hE
  clear hK hB0 hE hr rb rs rm rt hn hlb hls hlm hlt
  go_enter Try.func18, Try.ntmps18
  go_wp2_with fail
  refine (HFC.out w0 HB0.out).mono ?_
  rintro e w1 ⟨rfl, hb1⟩
  have HB1 : Hid (Below w0.heap.size w0 w1) := hb1
  clear z0 z1 z2 z3 z4 z5 z6 z7 z8 hw0 hb1 HFC hF
  obtain ⟨z0, z1, z2, z3, z4, z5, z6, z7, z8⟩ := HBX.out w1 HB1.out
  by_cases hK0 : K = 0
  rotate_left
  · have d1 : (K != 0) = true := by simp [hK0]
    have eE : E = K := by
      rcases HS0.out with ⟨_, h⟩ | ⟨h, _⟩ | ⟨h, _⟩
      · rw [h]; exact HCK.out
      · exact absurd (HCK.out.symm.trans h) hK0
      · exact absurd (HCK.out.symm.trans h) hK0
    subst eE
    go_wp2_with fail
    go_ret
    exact ⟨rfl, HUP.out w1 HB1.out⟩
  subst hK0
  obtain ⟨W, H, rfl, rfl, hf⟩ := ck_zero HCK.out
  have HF : Hid (okf W H l) := hf
  clear hf
  by_cases hnb : 8 < nb
  · have HE : Hid (E = 2) := by
      rcases HS0.out with ⟨h, _⟩ | ⟨_, _, h⟩ | ⟨_, h, _⟩
      · exact absurd HCK.out h
      · exact h
      · dsimp only at h; omega
    have d1 : (8 : Int) < nb := by omega
    go_wp2_with fail
    go_ret
    exact ⟨by rw [HE.out]; rfl, HUP.out w1 HB1.out⟩
  have d1 : (nb : Int) ≤ 8 := by omega
  by_cases hnt : 100 < nt
  · have HE : Hid (E = 2) := by
      rcases HS0.out with ⟨h, _⟩ | ⟨_, _, h⟩ | ⟨_, _, h, _⟩
      · exact absurd HCK.out h
      · exact h
      · dsimp only at h; omega
    have d2 : (100 : Int) < nt := by omega
    go_wp2_with fail
    go_ret
    exact ⟨by rw [HE.out]; rfl, HUP.out w1 HB1.out⟩
  have d2 : (nt : Int) ≤ 100 := by omega
  have HE0 : Hid (cok N T = true → PLr W H l lb ls → MNr l lm → TRr W H l nb N lt → E = 0) := fun h0 h1 h2 h3 => by
    rcases HS0.out with ⟨h, _⟩ | ⟨_, h, _⟩ | ⟨_, _, _, h⟩
    · exact absurd HCK.out h
    · dsimp only at h; omega
    · rcases h with ⟨_, h⟩ | ⟨h, _⟩
      · exact h
      · exact absurd ⟨W, H, rfl, rfl, HF.out, by dsimp only; omega, by dsimp only; omega, h0, h1, h2, h3⟩ h
  have HE4 : Hid (¬ (cok N T = true ∧ PLr W H l lb ls ∧ MNr l lm ∧ TRr W H l nb N lt) → E = 4) := fun hn => by
    rcases HS0.out with ⟨h, _⟩ | ⟨_, h, _⟩ | ⟨_, _, _, h⟩
    · exact absurd HCK.out h
    · dsimp only at h; omega
    · rcases h with ⟨⟨W', H', hk⟩, _⟩ | ⟨_, h⟩
      · obtain ⟨hA, hB, _, _, _, h0, h1, h2, h3⟩ := hk
        dsimp only at hA hB h0 h1 h2 h3
        obtain rfl : W = W' := by omega
        obtain rfl : H = H' := by omega
        exact absurd ⟨h0, h1, h2, h3⟩ hn
      · exact h
  clear HS0 HCK
  by_cases hne : ns = nb
  rotate_left
  · have hne2 : ¬ ((ns : Int) = nb) := by omega
    have d3 : ((ns : Int) != (nb : Int)) = true := by simp [hne2]
    have d4 : (ns != nb) = true := by simp [hne]
    have HE : Hid (E = 4) := HE4.out (fun h => hne (by have := h.2.1.1; rw [HLS.out, HLB.out] at this; exact this))
    clear hne
    go_wp2_with fail
    go_ret
    exact ⟨by rw [HE.out]; rfl, HUP.out w1 HB1.out⟩
  subst hne
  by_cases hme : nm = n
  rotate_left
  · have hne2 : ¬ ((nm : Int) = n) := by omega
    have d3 : ((nm : Int) != (n : Int)) = true := by simp [hne2]
    have d4 : (nm != n) = true := by simp [hme]
    have HE : Hid (E = 4) := HE4.out (fun h => hme (by have := h.2.2.1.1; rw [HLM.out, HN.out] at this; exact this))
    clear hme
    go_wp2_with fail
    go_ret
    exact ⟨by rw [HE.out]; rfl, HUP.out w1 HB1.out⟩
  subst hme
  obtain ⟨q1, hq1⟩ : ∃ b, (decide (1 ≤ N) && decide (N ≤ 1000000)) = b := ⟨_, rfl⟩
  obtain ⟨q2, hq2⟩ : ∃ b, (decide (0 ≤ T) && decide (T ≤ 1000000)) = b := ⟨_, rfl⟩
  have HQ1 : Hid ((decide (1 ≤ N) && decide (N ≤ 1000000)) = q1) := hq1
  have HQ2 : Hid ((decide (0 ≤ T) && decide (T ≤ 1000000)) = q2) := hq2
  have HCQ : Hid (cok N T = (q1 && q2)) := by unfold Hid cok; rw [← hq1, ← hq2]; simp only [Bool.and_assoc]
  clear hq1 hq2
  go_wp2_with fail
  refine (Between_at N 1 1000000 q1 w1 HQ1).mono ?_
  rintro e w' ⟨rfl, hw⟩; subst w'
  cases q1 with
  | false =>
    have HE : Hid (E = 4) := HE4.out (fun h => by have := h.1; rw [HCQ.out] at this; cases this)
    go_wp2_with fail
    go_ret
    exact ⟨by rw [HE.out]; rfl, HUP.out w1 HB1.out⟩
  | true =>
  go_wp2_with fail
  refine (Between_at T 0 1000000 q2 w1 HQ2).mono ?_
  rintro e w' ⟨rfl, hw⟩; subst w'
  cases q2 with
  | false =>
    have HE : Hid (E = 4) := HE4.out (fun h => by have := h.1; rw [HCQ.out] at this; cases this)
    go_wp2_with fail
    go_ret
    exact ⟨by rw [HE.out]; rfl, HUP.out w1 HB1.out⟩
  | true =>
  have HCO : Hid (cok N T = true) := by unfold Hid; rw [HCQ.out]; rfl
  have hN1 : 1 ≤ N ∧ N ≤ 1000000 := by have := HQ1.out; simpa using this
  obtain ⟨hN1, hN2⟩ := hN1
  have hn1600 : nm ≤ 1600 := by have := HF.out.2.2.1; rw [HN.out] at this; rw [this]; exact wh_le HF.out.1 HF.out.2.1
  go_wp2_with fail
  clear z0 z1 z2 z3 z4 z5 z6 z7 z8 HQ1 HQ2 HCQ
  go_loopw [4, 61] (fun f i wr => ∃ (k : Nat) (fb : Bool), i = .int .i64 (k : Int) ∧ k ≤ ns ∧ f = .bool fb ∧ Hid (Below w0.heap.size w0 wr ∧ (fb = true ↔ QA W H l lb ls k))) (fun _ i _ => ns - (intOf i).toNat)
  case atStart => exact ⟨0, true, rfl, by omega, rfl, HB1.out, by simp [QA_zero]⟩
  case round =>
    obtain ⟨k, f0, rfl, hk, rfl, HS⟩ := hrel
    by_cases hlt : k < ns
    · have hkl : k < lb.length := by rw [HLB.out]; exact hlt
      obtain ⟨a, x, y, rfl, hcx, ha', hay'⟩ := crow_cel (crow_below HRB.out HS.out.1) hkl
      obtain ⟨q, rfl, hz⟩ := row_at (row_below HRS.out HS.out.1) (j := k) (by rw [HLS.out]; exact hlt)
      obtain ⟨Z, hZ⟩ : ∃ Z, ls[k]'(by rw [HLS.out]; exact hlt) = Z := ⟨_, rfl⟩
      rw [hZ] at hz
      have hz' : wr.cell? (q.add k) = some (.int .i64 Z) := hz
      have HZ : Hid (ls.getD k 0 = Z) := by unfold Hid; rw [List.getD_eq_getElem?_getD, List.getElem?_eq_getElem (by rw [HLS.out]; exact hlt), ← hZ]; rfl
      have HX : Hid (lb[k] = ⟨x, y⟩) := hcx
      obtain ⟨t0, t1, t2, t3, t4, t5, t6, t7, t8⟩ := HBX.out wr HS.out.1
      obtain ⟨o, ho⟩ : ∃ o, opn W H l x y = o := ⟨_, rfl⟩
      obtain ⟨g, hg⟩ : ∃ g, (!am Z) = g := ⟨_, rfl⟩
      have HG : Hid ((decide (0 ≤ Z) && decide (Z ≤ 1000000)) = g) := by unfold Hid; rw [am_between]; exact hg
      have HGR : Hid (∀ V, Below wr.heap.size wr V → Calls Try.prog 51 #[.agg #[.int .i64 (W : Int), .int .i64 (H : Int), .slice p nm c], .agg #[.int .i64 x, .int .i64 y]] V fun e w' => e = .returned (.bool o) ∧ Below V.heap.size V w') := fun V hV =>
        Ground_at W H p nm c l x y o V (row_below HR.out (below_up HS.out.1 hV)) HF.out.1 HF.out.2.1 HN.out (by rw [← HN.out]; exact HF.out.2.2.1) ho
      have HBr : Hid (Below w0.heap.size w0 wr) := HS.out.1
      obtain ⟨F1, hF1⟩ : ∃ F1 : Prop, F1 ↔ (f0 = true ∧ o = true ∧ g = true) := ⟨_, Iff.rfl⟩
      have HF1 : Hid (F1 ↔ QA W H l lb ls k ∧ opn W H l lb[k].x lb[k].y = true ∧ am (ls.getD k 0) = false) := by
        unfold Hid
        rw [hF1, HS.out.2, HX.out, HZ.out, ← ho, ← hg]
        simp
      have HF2 : Hid (F1 ↔ (f0 = true ∧ o = true ∧ g = true)) := hF1
      have l1 : (k : Int) < ns := by omega
      have l2 : (0 : Int) ≤ k := by omega
      clear hz hZ hcx ho hg hF1
      go_wp2_with fail
      refine cut_set [4, 64, 65, 66, 67, 68, 69, 70, 71, 72, 73, 74, 75, 76, 77, 78, 79, 80, 81, 82] (fun u w' => ∃ b, u 4 = .bool b ∧ (b = true ↔ F1) ∧ Below wr.heap.size wr w') ?first1 ?rest1
      case first1 =>
        cases f0 with
        | false =>
          refine wp_region_noPanic ?_
          refine wp_region_held_drew (S := (fun V => Below wr.heap.size wr V ∧ V.cell? ⟨F, 0, none⟩ = some (.int .i64 (W : Int)) ∧ V.cell? ⟨F, 1, none⟩ = some (.int .i64 (H : Int)) ∧ V.cell? ⟨F, 2, none⟩ = some (.slice p nm c) ∧ V.cell? ⟨F, 3, none⟩ = some (.slice (some a) ns cb) ∧ V.cell? ⟨F, 4, none⟩ = some (.slice (some q) ns cs) ∧ V.cell? (a.add (k * 2)) = some (.int .i64 x) ∧ V.cell? ⟨(a.add (k * 2)).block, (a.add (k * 2)).off + 1, none⟩ = some (.int .i64 y) ∧ V.cell? (q.add k) = some (.int .i64 Z))) (by kernel_rfl) ⟨Below.drew (Below.refl _ _), t0, t1, t2, t3, t4, ha', hay', hz'⟩ (fun hHeld => ?_)
          refine wpAnyH_take (i := 0) (oi := ?of0) (v := .bool false) ?hif0 (by kernel_rfl) (by kernel_rfl) (by kernel_rfl) (fun _ _ _ h => h) ?hyf0 hHeld ?restf0
          case hif0 => simp only [List.getElem?_toArray, List.getElem?_cons_zero, List.getElem?_cons_succ]; first | done | rfl
          case hyf0 => exact Or.inl ⟨by rfl, by intro V hV; obtain ⟨s0, s1, s2, s3, s4, s5, s6, s7, s8⟩ := hV; go_simp⟩
          try simp only [Act.put, List.setIfInBounds_toArray, List.set_cons_zero, List.set_cons_succ]
          refine wpAnyH_take (i := 1) (oi := ?of1) (v := .bool false) ?hif1 (by kernel_rfl) (by kernel_rfl) (by kernel_rfl) (fun _ _ _ h => h) ?hyf1 hHeld ?restf1
          case hif1 => simp only [List.getElem?_toArray, List.getElem?_cons_zero, List.getElem?_cons_succ]; first | done | rfl
          case hyf1 => exact Or.inl ⟨by rfl, by intro V hV; obtain ⟨s0, s1, s2, s3, s4, s5, s6, s7, s8⟩ := hV; go_simp⟩
          try simp only [Act.put, List.setIfInBounds_toArray, List.set_cons_zero, List.set_cons_succ]
          refine wpAnyH_take (i := 2) (oi := ?of2) (v := undef) ?hif2 (by kernel_rfl) (by kernel_rfl) (by kernel_rfl) (fun _ _ _ h => h) ?hyf2 hHeld ?restf2
          case hif2 => simp only [List.getElem?_toArray, List.getElem?_cons_zero, List.getElem?_cons_succ]; first | done | rfl
          case hyf2 => exact Or.inr ⟨by rfl, rfl⟩
          try simp only [Act.put, List.setIfInBounds_toArray, List.set_cons_zero, List.set_cons_succ]
          refine wpAnyH_take (i := 3) (oi := ?of3) (v := undef) ?hif3 (by kernel_rfl) (by kernel_rfl) (by kernel_rfl) (fun _ _ _ h => h) ?hyf3 hHeld ?restf3
          case hif3 => simp only [List.getElem?_toArray, List.getElem?_cons_zero, List.getElem?_cons_succ]; first | done | rfl
          case hyf3 => exact Or.inr ⟨by rfl, rfl⟩
          try simp only [Act.put, List.setIfInBounds_toArray, List.set_cons_zero, List.set_cons_succ]
          refine wpAnyH_take (i := 4) (oi := ?of4) (v := undef) ?hif4 (by kernel_rfl) (by kernel_rfl) (by kernel_rfl) (fun _ _ _ h => h) ?hyf4 hHeld ?restf4
          case hif4 => simp only [List.getElem?_toArray, List.getElem?_cons_zero, List.getElem?_cons_succ]; first | done | rfl
          case hyf4 => exact Or.inr ⟨by rfl, rfl⟩
          try simp only [Act.put, List.setIfInBounds_toArray, List.set_cons_zero, List.set_cons_succ]
          refine wpAnyH_take (i := 5) (oi := ?of5) (v := undef) ?hif5 (by kernel_rfl) (by kernel_rfl) (by kernel_rfl) (fun _ _ _ h => h) ?hyf5 hHeld ?restf5
          case hif5 => simp only [List.getElem?_toArray, List.getElem?_cons_zero, List.getElem?_cons_succ]; first | done | rfl
          case hyf5 => exact Or.inr ⟨by rfl, rfl⟩
          try simp only [Act.put, List.setIfInBounds_toArray, List.set_cons_zero, List.set_cons_succ]
          refine wpAnyH_take (i := 6) (oi := ?of6) (v := undef) ?hif6 (by kernel_rfl) (by kernel_rfl) (by kernel_rfl) (fun _ _ _ h => h) ?hyf6 hHeld ?restf6
          case hif6 => simp only [List.getElem?_toArray, List.getElem?_cons_zero, List.getElem?_cons_succ]; first | done | rfl
          case hyf6 => exact Or.inr ⟨by rfl, rfl⟩
          try simp only [Act.put, List.setIfInBounds_toArray, List.set_cons_zero, List.set_cons_succ]
          refine wpAnyH_take (i := 7) (oi := ?of7) (v := undef) ?hif7 (by kernel_rfl) (by kernel_rfl) (by kernel_rfl) (fun _ _ _ h => h) ?hyf7 hHeld ?restf7
          case hif7 => simp only [List.getElem?_toArray, List.getElem?_cons_zero, List.getElem?_cons_succ]; first | done | rfl
          case hyf7 => exact Or.inr ⟨by rfl, rfl⟩
          try simp only [Act.put, List.setIfInBounds_toArray, List.set_cons_zero, List.set_cons_succ]
          refine wpAnyH_take (i := 8) (oi := ?of8) (v := undef) ?hif8 (by kernel_rfl) (by kernel_rfl) (by kernel_rfl) (fun _ _ _ h => h) ?hyf8 hHeld ?restf8
          case hif8 => simp only [List.getElem?_toArray, List.getElem?_cons_zero, List.getElem?_cons_succ]; first | done | rfl
          case hyf8 => exact Or.inr ⟨by rfl, rfl⟩
          try simp only [Act.put, List.setIfInBounds_toArray, List.set_cons_zero, List.set_cons_succ]
          refine wpAnyH_take (i := 9) (oi := ?of9) (v := undef) ?hif9 (by kernel_rfl) (by kernel_rfl) (by kernel_rfl) (fun _ _ _ h => h) ?hyf9 hHeld ?restf9
          case hif9 => simp only [List.getElem?_toArray, List.getElem?_cons_zero, List.getElem?_cons_succ]; first | done | rfl
          case hyf9 => exact Or.inr ⟨by rfl, rfl⟩
          try simp only [Act.put, List.setIfInBounds_toArray, List.set_cons_zero, List.set_cons_succ]
          refine wpAnyH_take (i := 10) (oi := ?of10) (v := .bool false) ?hif10 (by kernel_rfl) (by kernel_rfl) (by kernel_rfl) (fun _ _ _ h => h) ?hyf10 hHeld ?restf10
          case hif10 => simp only [List.getElem?_toArray, List.getElem?_cons_zero, List.getElem?_cons_succ]; first | done | rfl
          case hyf10 => exact Or.inl ⟨by rfl, by intro V hV; obtain ⟨s0, s1, s2, s3, s4, s5, s6, s7, s8⟩ := hV; go_simp⟩
          try simp only [Act.put, List.setIfInBounds_toArray, List.set_cons_zero, List.set_cons_succ]
          refine wpAnyH_take (i := 11) (oi := ?of11) (v := .bool false) ?hif11 (by kernel_rfl) (by kernel_rfl) (by kernel_rfl) (fun _ _ _ h => h) ?hyf11 hHeld ?restf11
          case hif11 => simp only [List.getElem?_toArray, List.getElem?_cons_zero, List.getElem?_cons_succ]; first | done | rfl
          case hyf11 => exact Or.inl ⟨by rfl, by intro V hV; obtain ⟨s0, s1, s2, s3, s4, s5, s6, s7, s8⟩ := hV; go_simp⟩
          try simp only [Act.put, List.setIfInBounds_toArray, List.set_cons_zero, List.set_cons_succ]
          refine wpAnyH_take (i := 12) (oi := ?of12) (v := undef) ?hif12 (by kernel_rfl) (by kernel_rfl) (by kernel_rfl) (fun _ _ _ h => h) ?hyf12 hHeld ?restf12
          case hif12 => simp only [List.getElem?_toArray, List.getElem?_cons_zero, List.getElem?_cons_succ]; first | done | rfl
          case hyf12 => exact Or.inr ⟨by rfl, rfl⟩
          try simp only [Act.put, List.setIfInBounds_toArray, List.set_cons_zero, List.set_cons_succ]
          refine wpAnyH_take (i := 13) (oi := ?of13) (v := undef) ?hif13 (by kernel_rfl) (by kernel_rfl) (by kernel_rfl) (fun _ _ _ h => h) ?hyf13 hHeld ?restf13
          case hif13 => simp only [List.getElem?_toArray, List.getElem?_cons_zero, List.getElem?_cons_succ]; first | done | rfl
          case hyf13 => exact Or.inr ⟨by rfl, rfl⟩
          try simp only [Act.put, List.setIfInBounds_toArray, List.set_cons_zero, List.set_cons_succ]
          refine wpAnyH_take (i := 14) (oi := ?of14) (v := undef) ?hif14 (by kernel_rfl) (by kernel_rfl) (by kernel_rfl) (fun _ _ _ h => h) ?hyf14 hHeld ?restf14
          case hif14 => simp only [List.getElem?_toArray, List.getElem?_cons_zero, List.getElem?_cons_succ]; first | done | rfl
          case hyf14 => exact Or.inr ⟨by rfl, rfl⟩
          try simp only [Act.put, List.setIfInBounds_toArray, List.set_cons_zero, List.set_cons_succ]
          refine wpAnyH_take (i := 15) (oi := ?of15) (v := undef) ?hif15 (by kernel_rfl) (by kernel_rfl) (by kernel_rfl) (fun _ _ _ h => h) ?hyf15 hHeld ?restf15
          case hif15 => simp only [List.getElem?_toArray, List.getElem?_cons_zero, List.getElem?_cons_succ]; first | done | rfl
          case hyf15 => exact Or.inr ⟨by rfl, rfl⟩
          try simp only [Act.put, List.setIfInBounds_toArray, List.set_cons_zero, List.set_cons_succ]
          refine wpAnyH_take (i := 16) (oi := ?of16) (v := undef) ?hif16 (by kernel_rfl) (by kernel_rfl) (by kernel_rfl) (fun _ _ _ h => h) ?hyf16 hHeld ?restf16
          case hif16 => simp only [List.getElem?_toArray, List.getElem?_cons_zero, List.getElem?_cons_succ]; first | done | rfl
          case hyf16 => exact Or.inr ⟨by rfl, rfl⟩
          try simp only [Act.put, List.setIfInBounds_toArray, List.set_cons_zero, List.set_cons_succ]
          refine wpAnyH_take (i := 17) (oi := ?of17) (v := undef) ?hif17 (by kernel_rfl) (by kernel_rfl) (by kernel_rfl) (fun _ _ _ h => h) ?hyf17 hHeld ?restf17
          case hif17 => simp only [List.getElem?_toArray, List.getElem?_cons_zero, List.getElem?_cons_succ]; first | done | rfl
          case hyf17 => exact Or.inr ⟨by rfl, rfl⟩
          try simp only [Act.put, List.setIfInBounds_toArray, List.set_cons_zero, List.set_cons_succ]
          refine wpAnyH_take (i := 18) (oi := ?of18) (v := .bool false) ?hif18 (by kernel_rfl) (by kernel_rfl) (by kernel_rfl) (fun _ _ _ h => h) ?hyf18 hHeld ?restf18
          case hif18 => simp only [List.getElem?_toArray, List.getElem?_cons_zero, List.getElem?_cons_succ]; first | done | rfl
          case hyf18 => exact Or.inl ⟨by rfl, by intro V hV; obtain ⟨s0, s1, s2, s3, s4, s5, s6, s7, s8⟩ := hV; go_simp⟩
          try simp only [Act.put, List.setIfInBounds_toArray, List.set_cons_zero, List.set_cons_succ]
          refine wpAnyH_take (i := 19) (oi := ?of19) (v := .bool false) ?hif19 (by kernel_rfl) (by kernel_rfl) (by kernel_rfl) (fun _ _ _ h => h) ?hyf19 hHeld ?restf19
          case hif19 => simp only [List.getElem?_toArray, List.getElem?_cons_zero, List.getElem?_cons_succ]; first | done | rfl
          case hyf19 => exact Or.inl ⟨by rfl, by intro V hV; obtain ⟨s0, s1, s2, s3, s4, s5, s6, s7, s8⟩ := hV; go_simp⟩
          try simp only [Act.put, List.setIfInBounds_toArray, List.set_cons_zero, List.set_cons_succ]
          refine wpAnyH_done (by kernel_rfl) ?_ _
          refine NoPanic.normal ?_
          exact ⟨by kernel_rfl, false, by kernel_rfl, by rw [HF2.out]; simp, hHeld.1⟩
        | true =>
          cases o with
          | false =>
            refine wp_region_noPanic ?_
            refine wp_region_held_drew (S := (fun V => Below wr.heap.size wr V ∧ V.cell? ⟨F, 0, none⟩ = some (.int .i64 (W : Int)) ∧ V.cell? ⟨F, 1, none⟩ = some (.int .i64 (H : Int)) ∧ V.cell? ⟨F, 2, none⟩ = some (.slice p nm c) ∧ V.cell? ⟨F, 3, none⟩ = some (.slice (some a) ns cb) ∧ V.cell? ⟨F, 4, none⟩ = some (.slice (some q) ns cs) ∧ V.cell? (a.add (k * 2)) = some (.int .i64 x) ∧ V.cell? ⟨(a.add (k * 2)).block, (a.add (k * 2)).off + 1, none⟩ = some (.int .i64 y) ∧ V.cell? (q.add k) = some (.int .i64 Z))) (by kernel_rfl) ⟨Below.drew (Below.refl _ _), t0, t1, t2, t3, t4, ha', hay', hz'⟩ (fun hHeld => ?_)
            refine wpAnyH_take (i := 0) (oi := ?oo0) (v := .bool true) ?hio0 (by kernel_rfl) (by kernel_rfl) (by kernel_rfl) (fun _ _ _ h => h) ?hyo0 hHeld ?resto0
            case hio0 => simp only [List.getElem?_toArray, List.getElem?_cons_zero, List.getElem?_cons_succ]; first | done | rfl
            case hyo0 => exact Or.inl ⟨by rfl, by intro V hV; obtain ⟨s0, s1, s2, s3, s4, s5, s6, s7, s8⟩ := hV; go_simp⟩
            try simp only [Act.put, List.setIfInBounds_toArray, List.set_cons_zero, List.set_cons_succ]
            refine wpAnyH_take (i := 1) (oi := ?oo1) (v := .bool true) ?hio1 (by kernel_rfl) (by kernel_rfl) (by kernel_rfl) (fun _ _ _ h => h) ?hyo1 hHeld ?resto1
            case hio1 => simp only [List.getElem?_toArray, List.getElem?_cons_zero, List.getElem?_cons_succ]; first | done | rfl
            case hyo1 => exact Or.inl ⟨by rfl, by intro V hV; obtain ⟨s0, s1, s2, s3, s4, s5, s6, s7, s8⟩ := hV; go_simp⟩
            try simp only [Act.put, List.setIfInBounds_toArray, List.set_cons_zero, List.set_cons_succ]
            refine wpAnyH_take (i := 2) (oi := ?oo2) (v := .pointer (some ⟨F, 0, none⟩)) ?hio2 (by kernel_rfl) (by kernel_rfl) (by kernel_rfl) (fun _ _ _ h => h) ?hyo2 hHeld ?resto2
            case hio2 => simp only [List.getElem?_toArray, List.getElem?_cons_zero, List.getElem?_cons_succ]; first | done | rfl
            case hyo2 => exact Or.inl ⟨by rfl, by intro V hV; obtain ⟨s0, s1, s2, s3, s4, s5, s6, s7, s8⟩ := hV; go_simp⟩
            try simp only [Act.put, List.setIfInBounds_toArray, List.set_cons_zero, List.set_cons_succ]
            refine wpAnyH_take (i := 3) (oi := ?oo3) (v := .agg #[.int .i64 (W : Int), .int .i64 (H : Int), .slice p nm c]) ?hio3 (by kernel_rfl) (by kernel_rfl) (by kernel_rfl) (fun _ _ _ h => h) ?hyo3 hHeld ?resto3
            case hio3 => simp only [List.getElem?_toArray, List.getElem?_cons_zero, List.getElem?_cons_succ]; first | done | rfl
            case hyo3 => exact Or.inl ⟨by rfl, by intro V hV; obtain ⟨s0, s1, s2, s3, s4, s5, s6, s7, s8⟩ := hV; go_simp⟩
            try simp only [Act.put, List.setIfInBounds_toArray, List.set_cons_zero, List.set_cons_succ]
            refine wpAnyH_take (i := 4) (oi := ?oo4) (v := .pointer (some ⟨F, 3, none⟩)) ?hio4 (by kernel_rfl) (by kernel_rfl) (by kernel_rfl) (fun _ _ _ h => h) ?hyo4 hHeld ?resto4
            case hio4 => simp only [List.getElem?_toArray, List.getElem?_cons_zero, List.getElem?_cons_succ]; first | done | rfl
            case hyo4 => exact Or.inl ⟨by rfl, by intro V hV; obtain ⟨s0, s1, s2, s3, s4, s5, s6, s7, s8⟩ := hV; go_simp⟩
            try simp only [Act.put, List.setIfInBounds_toArray, List.set_cons_zero, List.set_cons_succ]
            refine wpAnyH_take (i := 5) (oi := ?oo5) (v := .slice (some a) ns cb) ?hio5 (by kernel_rfl) (by kernel_rfl) (by kernel_rfl) (fun _ _ _ h => h) ?hyo5 hHeld ?resto5
            case hio5 => simp only [List.getElem?_toArray, List.getElem?_cons_zero, List.getElem?_cons_succ]; first | done | rfl
            case hyo5 => exact Or.inl ⟨by rfl, by intro V hV; obtain ⟨s0, s1, s2, s3, s4, s5, s6, s7, s8⟩ := hV; go_simp⟩
            try simp only [Act.put, List.setIfInBounds_toArray, List.set_cons_zero, List.set_cons_succ]
            refine wpAnyH_take (i := 6) (oi := ?oo6) (v := .int .i64 (k : Int)) ?hio6 (by kernel_rfl) (by kernel_rfl) (by kernel_rfl) (fun _ _ _ h => h) ?hyo6 hHeld ?resto6
            case hio6 => simp only [List.getElem?_toArray, List.getElem?_cons_zero, List.getElem?_cons_succ]; first | done | rfl
            case hyo6 => exact Or.inl ⟨by rfl, by intro V hV; obtain ⟨s0, s1, s2, s3, s4, s5, s6, s7, s8⟩ := hV; go_simp⟩
            try simp only [Act.put, List.setIfInBounds_toArray, List.set_cons_zero, List.set_cons_succ]
            refine wpAnyH_take (i := 7) (oi := ?oo7) (v := .pointer (some (a.add (k * 2)))) ?hio7 (by kernel_rfl) (by kernel_rfl) (by kernel_rfl) (fun _ _ _ h => h) ?hyo7 hHeld ?resto7
            case hio7 => simp only [List.getElem?_toArray, List.getElem?_cons_zero, List.getElem?_cons_succ]; first | done | rfl
            case hyo7 => exact Or.inl ⟨by rfl, by intro V hV; obtain ⟨s0, s1, s2, s3, s4, s5, s6, s7, s8⟩ := hV; go_simp⟩
            try simp only [Act.put, List.setIfInBounds_toArray, List.set_cons_zero, List.set_cons_succ]
            refine wpAnyH_take (i := 8) (oi := ?oo8) (v := .agg #[.int .i64 x, .int .i64 y]) ?hio8 (by kernel_rfl) (by kernel_rfl) (by kernel_rfl) (fun _ _ _ h => h) ?hyo8 hHeld ?resto8
            case hio8 => simp only [List.getElem?_toArray, List.getElem?_cons_zero, List.getElem?_cons_succ]; first | done | rfl
            case hyo8 => exact Or.inl ⟨by rfl, by intro V hV; obtain ⟨s0, s1, s2, s3, s4, s5, s6, s7, s8⟩ := hV; go_simp⟩
            try simp only [Act.put, List.setIfInBounds_toArray, List.set_cons_zero, List.set_cons_succ]
            refine wpAnyH_ready (rs := [9]) (by kernel_rfl) (by simp) ?_
            refine AllReadyH.cons (o := ?oo9) ?hio9 (fun K hK => ?stepo9) AllReadyH.nil
            case hio9 => simp only [List.getElem?_toArray, List.getElem?_cons_zero, List.getElem?_cons_succ]; first | done | rfl
            go_simp
            go_at_call 51
            refine (HGR.out _ (And.left (by assumption))).mono ?_
            rintro e w5 ⟨rfl, hb5⟩
            go_wp2_with fail
            refine hK.out _ _ (k8_call hHeld hb5) (fun hHeld5 => ?_)
            clear hK K
            try simp only [Act.put, List.setIfInBounds_toArray, List.set_cons_zero, List.set_cons_succ]
            refine wpAnyH_take (i := 10) (oi := ?oo10) (v := .bool false) ?hio10 (by kernel_rfl) (by kernel_rfl) (by kernel_rfl) (fun _ _ _ h => h) ?hyo10 hHeld5 ?resto10
            case hio10 => simp only [List.getElem?_toArray, List.getElem?_cons_zero, List.getElem?_cons_succ]; first | done | rfl
            case hyo10 => exact Or.inl ⟨by rfl, by intro V hV; obtain ⟨s0, s1, s2, s3, s4, s5, s6, s7, s8⟩ := hV; go_simp⟩
            try simp only [Act.put, List.setIfInBounds_toArray, List.set_cons_zero, List.set_cons_succ]
            refine wpAnyH_take (i := 11) (oi := ?oo11) (v := .bool false) ?hio11 (by kernel_rfl) (by kernel_rfl) (by kernel_rfl) (fun _ _ _ h => h) ?hyo11 hHeld5 ?resto11
            case hio11 => simp only [List.getElem?_toArray, List.getElem?_cons_zero, List.getElem?_cons_succ]; first | done | rfl
            case hyo11 => exact Or.inl ⟨by rfl, by intro V hV; obtain ⟨s0, s1, s2, s3, s4, s5, s6, s7, s8⟩ := hV; go_simp⟩
            try simp only [Act.put, List.setIfInBounds_toArray, List.set_cons_zero, List.set_cons_succ]
            refine wpAnyH_take (i := 12) (oi := ?oo12) (v := undef) ?hio12 (by kernel_rfl) (by kernel_rfl) (by kernel_rfl) (fun _ _ _ h => h) ?hyo12 hHeld5 ?resto12
            case hio12 => simp only [List.getElem?_toArray, List.getElem?_cons_zero, List.getElem?_cons_succ]; first | done | rfl
            case hyo12 => exact Or.inr ⟨by rfl, rfl⟩
            try simp only [Act.put, List.setIfInBounds_toArray, List.set_cons_zero, List.set_cons_succ]
            refine wpAnyH_take (i := 13) (oi := ?oo13) (v := undef) ?hio13 (by kernel_rfl) (by kernel_rfl) (by kernel_rfl) (fun _ _ _ h => h) ?hyo13 hHeld5 ?resto13
            case hio13 => simp only [List.getElem?_toArray, List.getElem?_cons_zero, List.getElem?_cons_succ]; first | done | rfl
            case hyo13 => exact Or.inr ⟨by rfl, rfl⟩
            try simp only [Act.put, List.setIfInBounds_toArray, List.set_cons_zero, List.set_cons_succ]
            refine wpAnyH_take (i := 14) (oi := ?oo14) (v := undef) ?hio14 (by kernel_rfl) (by kernel_rfl) (by kernel_rfl) (fun _ _ _ h => h) ?hyo14 hHeld5 ?resto14
            case hio14 => simp only [List.getElem?_toArray, List.getElem?_cons_zero, List.getElem?_cons_succ]; first | done | rfl
            case hyo14 => exact Or.inr ⟨by rfl, rfl⟩
            try simp only [Act.put, List.setIfInBounds_toArray, List.set_cons_zero, List.set_cons_succ]
            refine wpAnyH_take (i := 15) (oi := ?oo15) (v := undef) ?hio15 (by kernel_rfl) (by kernel_rfl) (by kernel_rfl) (fun _ _ _ h => h) ?hyo15 hHeld5 ?resto15
            case hio15 => simp only [List.getElem?_toArray, List.getElem?_cons_zero, List.getElem?_cons_succ]; first | done | rfl
            case hyo15 => exact Or.inr ⟨by rfl, rfl⟩
            try simp only [Act.put, List.setIfInBounds_toArray, List.set_cons_zero, List.set_cons_succ]
            refine wpAnyH_take (i := 16) (oi := ?oo16) (v := undef) ?hio16 (by kernel_rfl) (by kernel_rfl) (by kernel_rfl) (fun _ _ _ h => h) ?hyo16 hHeld5 ?resto16
            case hio16 => simp only [List.getElem?_toArray, List.getElem?_cons_zero, List.getElem?_cons_succ]; first | done | rfl
            case hyo16 => exact Or.inr ⟨by rfl, rfl⟩
            try simp only [Act.put, List.setIfInBounds_toArray, List.set_cons_zero, List.set_cons_succ]
            refine wpAnyH_take (i := 17) (oi := ?oo17) (v := undef) ?hio17 (by kernel_rfl) (by kernel_rfl) (by kernel_rfl) (fun _ _ _ h => h) ?hyo17 hHeld5 ?resto17
            case hio17 => simp only [List.getElem?_toArray, List.getElem?_cons_zero, List.getElem?_cons_succ]; first | done | rfl
            case hyo17 => exact Or.inr ⟨by rfl, rfl⟩
            try simp only [Act.put, List.setIfInBounds_toArray, List.set_cons_zero, List.set_cons_succ]
            refine wpAnyH_take (i := 18) (oi := ?oo18) (v := .bool false) ?hio18 (by kernel_rfl) (by kernel_rfl) (by kernel_rfl) (fun _ _ _ h => h) ?hyo18 hHeld5 ?resto18
            case hio18 => simp only [List.getElem?_toArray, List.getElem?_cons_zero, List.getElem?_cons_succ]; first | done | rfl
            case hyo18 => exact Or.inl ⟨by rfl, by intro V hV; obtain ⟨s0, s1, s2, s3, s4, s5, s6, s7, s8⟩ := hV; go_simp⟩
            try simp only [Act.put, List.setIfInBounds_toArray, List.set_cons_zero, List.set_cons_succ]
            refine wpAnyH_take (i := 19) (oi := ?oo19) (v := .bool false) ?hio19 (by kernel_rfl) (by kernel_rfl) (by kernel_rfl) (fun _ _ _ h => h) ?hyo19 hHeld5 ?resto19
            case hio19 => simp only [List.getElem?_toArray, List.getElem?_cons_zero, List.getElem?_cons_succ]; first | done | rfl
            case hyo19 => exact Or.inl ⟨by rfl, by intro V hV; obtain ⟨s0, s1, s2, s3, s4, s5, s6, s7, s8⟩ := hV; go_simp⟩
            try simp only [Act.put, List.setIfInBounds_toArray, List.set_cons_zero, List.set_cons_succ]
            refine wpAnyH_done (by kernel_rfl) ?_ _
            refine NoPanic.normal ?_
            exact ⟨by kernel_rfl, false, by kernel_rfl, by rw [HF2.out]; simp, hHeld5.1⟩
          | true =>
            refine wp_region_noPanic ?_
            refine wp_region_held_drew (S := (fun V => Below wr.heap.size wr V ∧ V.cell? ⟨F, 0, none⟩ = some (.int .i64 (W : Int)) ∧ V.cell? ⟨F, 1, none⟩ = some (.int .i64 (H : Int)) ∧ V.cell? ⟨F, 2, none⟩ = some (.slice p nm c) ∧ V.cell? ⟨F, 3, none⟩ = some (.slice (some a) ns cb) ∧ V.cell? ⟨F, 4, none⟩ = some (.slice (some q) ns cs) ∧ V.cell? (a.add (k * 2)) = some (.int .i64 x) ∧ V.cell? ⟨(a.add (k * 2)).block, (a.add (k * 2)).off + 1, none⟩ = some (.int .i64 y) ∧ V.cell? (q.add k) = some (.int .i64 Z))) (by kernel_rfl) ⟨Below.drew (Below.refl _ _), t0, t1, t2, t3, t4, ha', hay', hz'⟩ (fun hHeld => ?_)
            refine wpAnyH_take (i := 0) (oi := ?og0) (v := .bool true) ?hig0 (by kernel_rfl) (by kernel_rfl) (by kernel_rfl) (fun _ _ _ h => h) ?hyg0 hHeld ?restg0
            case hig0 => simp only [List.getElem?_toArray, List.getElem?_cons_zero, List.getElem?_cons_succ]; first | done | rfl
            case hyg0 => exact Or.inl ⟨by rfl, by intro V hV; obtain ⟨s0, s1, s2, s3, s4, s5, s6, s7, s8⟩ := hV; go_simp⟩
            try simp only [Act.put, List.setIfInBounds_toArray, List.set_cons_zero, List.set_cons_succ]
            refine wpAnyH_take (i := 1) (oi := ?og1) (v := .bool true) ?hig1 (by kernel_rfl) (by kernel_rfl) (by kernel_rfl) (fun _ _ _ h => h) ?hyg1 hHeld ?restg1
            case hig1 => simp only [List.getElem?_toArray, List.getElem?_cons_zero, List.getElem?_cons_succ]; first | done | rfl
            case hyg1 => exact Or.inl ⟨by rfl, by intro V hV; obtain ⟨s0, s1, s2, s3, s4, s5, s6, s7, s8⟩ := hV; go_simp⟩
            try simp only [Act.put, List.setIfInBounds_toArray, List.set_cons_zero, List.set_cons_succ]
            refine wpAnyH_take (i := 2) (oi := ?og2) (v := .pointer (some ⟨F, 0, none⟩)) ?hig2 (by kernel_rfl) (by kernel_rfl) (by kernel_rfl) (fun _ _ _ h => h) ?hyg2 hHeld ?restg2
            case hig2 => simp only [List.getElem?_toArray, List.getElem?_cons_zero, List.getElem?_cons_succ]; first | done | rfl
            case hyg2 => exact Or.inl ⟨by rfl, by intro V hV; obtain ⟨s0, s1, s2, s3, s4, s5, s6, s7, s8⟩ := hV; go_simp⟩
            try simp only [Act.put, List.setIfInBounds_toArray, List.set_cons_zero, List.set_cons_succ]
            refine wpAnyH_take (i := 3) (oi := ?og3) (v := .agg #[.int .i64 (W : Int), .int .i64 (H : Int), .slice p nm c]) ?hig3 (by kernel_rfl) (by kernel_rfl) (by kernel_rfl) (fun _ _ _ h => h) ?hyg3 hHeld ?restg3
            case hig3 => simp only [List.getElem?_toArray, List.getElem?_cons_zero, List.getElem?_cons_succ]; first | done | rfl
            case hyg3 => exact Or.inl ⟨by rfl, by intro V hV; obtain ⟨s0, s1, s2, s3, s4, s5, s6, s7, s8⟩ := hV; go_simp⟩
            try simp only [Act.put, List.setIfInBounds_toArray, List.set_cons_zero, List.set_cons_succ]
            refine wpAnyH_take (i := 4) (oi := ?og4) (v := .pointer (some ⟨F, 3, none⟩)) ?hig4 (by kernel_rfl) (by kernel_rfl) (by kernel_rfl) (fun _ _ _ h => h) ?hyg4 hHeld ?restg4
            case hig4 => simp only [List.getElem?_toArray, List.getElem?_cons_zero, List.getElem?_cons_succ]; first | done | rfl
            case hyg4 => exact Or.inl ⟨by rfl, by intro V hV; obtain ⟨s0, s1, s2, s3, s4, s5, s6, s7, s8⟩ := hV; go_simp⟩
            try simp only [Act.put, List.setIfInBounds_toArray, List.set_cons_zero, List.set_cons_succ]
            refine wpAnyH_take (i := 5) (oi := ?og5) (v := .slice (some a) ns cb) ?hig5 (by kernel_rfl) (by kernel_rfl) (by kernel_rfl) (fun _ _ _ h => h) ?hyg5 hHeld ?restg5
            case hig5 => simp only [List.getElem?_toArray, List.getElem?_cons_zero, List.getElem?_cons_succ]; first | done | rfl
            case hyg5 => exact Or.inl ⟨by rfl, by intro V hV; obtain ⟨s0, s1, s2, s3, s4, s5, s6, s7, s8⟩ := hV; go_simp⟩
            try simp only [Act.put, List.setIfInBounds_toArray, List.set_cons_zero, List.set_cons_succ]
            refine wpAnyH_take (i := 6) (oi := ?og6) (v := .int .i64 (k : Int)) ?hig6 (by kernel_rfl) (by kernel_rfl) (by kernel_rfl) (fun _ _ _ h => h) ?hyg6 hHeld ?restg6
            case hig6 => simp only [List.getElem?_toArray, List.getElem?_cons_zero, List.getElem?_cons_succ]; first | done | rfl
            case hyg6 => exact Or.inl ⟨by rfl, by intro V hV; obtain ⟨s0, s1, s2, s3, s4, s5, s6, s7, s8⟩ := hV; go_simp⟩
            try simp only [Act.put, List.setIfInBounds_toArray, List.set_cons_zero, List.set_cons_succ]
            refine wpAnyH_take (i := 7) (oi := ?og7) (v := .pointer (some (a.add (k * 2)))) ?hig7 (by kernel_rfl) (by kernel_rfl) (by kernel_rfl) (fun _ _ _ h => h) ?hyg7 hHeld ?restg7
            case hig7 => simp only [List.getElem?_toArray, List.getElem?_cons_zero, List.getElem?_cons_succ]; first | done | rfl
            case hyg7 => exact Or.inl ⟨by rfl, by intro V hV; obtain ⟨s0, s1, s2, s3, s4, s5, s6, s7, s8⟩ := hV; go_simp⟩
            try simp only [Act.put, List.setIfInBounds_toArray, List.set_cons_zero, List.set_cons_succ]
            refine wpAnyH_take (i := 8) (oi := ?og8) (v := .agg #[.int .i64 x, .int .i64 y]) ?hig8 (by kernel_rfl) (by kernel_rfl) (by kernel_rfl) (fun _ _ _ h => h) ?hyg8 hHeld ?restg8
            case hig8 => simp only [List.getElem?_toArray, List.getElem?_cons_zero, List.getElem?_cons_succ]; first | done | rfl
            case hyg8 => exact Or.inl ⟨by rfl, by intro V hV; obtain ⟨s0, s1, s2, s3, s4, s5, s6, s7, s8⟩ := hV; go_simp⟩
            try simp only [Act.put, List.setIfInBounds_toArray, List.set_cons_zero, List.set_cons_succ]
            refine wpAnyH_ready (rs := [9]) (by kernel_rfl) (by simp) ?_
            refine AllReadyH.cons (o := ?og9) ?hig9 (fun K hK => ?stepg9) AllReadyH.nil
            case hig9 => simp only [List.getElem?_toArray, List.getElem?_cons_zero, List.getElem?_cons_succ]; first | done | rfl
            go_simp
            go_at_call 51
            refine (HGR.out _ (And.left (by assumption))).mono ?_
            rintro e w5 ⟨rfl, hb5⟩
            go_wp2_with fail
            refine hK.out _ _ (k8_call hHeld hb5) (fun hHeld5 => ?_)
            clear hK K
            try simp only [Act.put, List.setIfInBounds_toArray, List.set_cons_zero, List.set_cons_succ]
            refine wpAnyH_take (i := 10) (oi := ?og10) (v := .bool true) ?hig10 (by kernel_rfl) (by kernel_rfl) (by kernel_rfl) (fun _ _ _ h => h) ?hyg10 hHeld5 ?restg10
            case hig10 => simp only [List.getElem?_toArray, List.getElem?_cons_zero, List.getElem?_cons_succ]; first | done | rfl
            case hyg10 => exact Or.inl ⟨by rfl, by intro V hV; obtain ⟨s0, s1, s2, s3, s4, s5, s6, s7, s8⟩ := hV; go_simp⟩
            try simp only [Act.put, List.setIfInBounds_toArray, List.set_cons_zero, List.set_cons_succ]
            refine wpAnyH_take (i := 11) (oi := ?og11) (v := .bool true) ?hig11 (by kernel_rfl) (by kernel_rfl) (by kernel_rfl) (fun _ _ _ h => h) ?hyg11 hHeld5 ?restg11
            case hig11 => simp only [List.getElem?_toArray, List.getElem?_cons_zero, List.getElem?_cons_succ]; first | done | rfl
            case hyg11 => exact Or.inl ⟨by rfl, by intro V hV; obtain ⟨s0, s1, s2, s3, s4, s5, s6, s7, s8⟩ := hV; go_simp⟩
            try simp only [Act.put, List.setIfInBounds_toArray, List.set_cons_zero, List.set_cons_succ]
            refine wpAnyH_take (i := 12) (oi := ?og12) (v := .pointer (some ⟨F, 4, none⟩)) ?hig12 (by kernel_rfl) (by kernel_rfl) (by kernel_rfl) (fun _ _ _ h => h) ?hyg12 hHeld5 ?restg12
            case hig12 => simp only [List.getElem?_toArray, List.getElem?_cons_zero, List.getElem?_cons_succ]; first | done | rfl
            case hyg12 => exact Or.inl ⟨by rfl, by intro V hV; obtain ⟨s0, s1, s2, s3, s4, s5, s6, s7, s8⟩ := hV; go_simp⟩
            try simp only [Act.put, List.setIfInBounds_toArray, List.set_cons_zero, List.set_cons_succ]
            refine wpAnyH_take (i := 13) (oi := ?og13) (v := .slice (some q) ns cs) ?hig13 (by kernel_rfl) (by kernel_rfl) (by kernel_rfl) (fun _ _ _ h => h) ?hyg13 hHeld5 ?restg13
            case hig13 => simp only [List.getElem?_toArray, List.getElem?_cons_zero, List.getElem?_cons_succ]; first | done | rfl
            case hyg13 => exact Or.inl ⟨by rfl, by intro V hV; obtain ⟨s0, s1, s2, s3, s4, s5, s6, s7, s8⟩ := hV; go_simp⟩
            try simp only [Act.put, List.setIfInBounds_toArray, List.set_cons_zero, List.set_cons_succ]
            refine wpAnyH_take (i := 14) (oi := ?og14) (v := .int .i64 (k : Int)) ?hig14 (by kernel_rfl) (by kernel_rfl) (by kernel_rfl) (fun _ _ _ h => h) ?hyg14 hHeld5 ?restg14
            case hig14 => simp only [List.getElem?_toArray, List.getElem?_cons_zero, List.getElem?_cons_succ]; first | done | rfl
            case hyg14 => exact Or.inl ⟨by rfl, by intro V hV; obtain ⟨s0, s1, s2, s3, s4, s5, s6, s7, s8⟩ := hV; go_simp⟩
            try simp only [Act.put, List.setIfInBounds_toArray, List.set_cons_zero, List.set_cons_succ]
            refine wpAnyH_take (i := 15) (oi := ?og15) (v := .pointer (some (q.add k))) ?hig15 (by kernel_rfl) (by kernel_rfl) (by kernel_rfl) (fun _ _ _ h => h) ?hyg15 hHeld5 ?restg15
            case hig15 => simp only [List.getElem?_toArray, List.getElem?_cons_zero, List.getElem?_cons_succ]; first | done | rfl
            case hyg15 => exact Or.inl ⟨by rfl, by intro V hV; obtain ⟨s0, s1, s2, s3, s4, s5, s6, s7, s8⟩ := hV; go_simp⟩
            try simp only [Act.put, List.setIfInBounds_toArray, List.set_cons_zero, List.set_cons_succ]
            refine wpAnyH_take (i := 16) (oi := ?og16) (v := .int .i64 Z) ?hig16 (by kernel_rfl) (by kernel_rfl) (by kernel_rfl) (fun _ _ _ h => h) ?hyg16 hHeld5 ?restg16
            case hig16 => simp only [List.getElem?_toArray, List.getElem?_cons_zero, List.getElem?_cons_succ]; first | done | rfl
            case hyg16 => exact Or.inl ⟨by rfl, by intro V hV; obtain ⟨s0, s1, s2, s3, s4, s5, s6, s7, s8⟩ := hV; go_simp⟩
            try simp only [Act.put, List.setIfInBounds_toArray, List.set_cons_zero, List.set_cons_succ]
            refine wpAnyH_ready (rs := [17]) (by kernel_rfl) (by simp) ?_
            refine AllReadyH.cons (o := ?og17) ?hig17 (fun K hK => ?stepg17) AllReadyH.nil
            case hig17 => simp only [List.getElem?_toArray, List.getElem?_cons_zero, List.getElem?_cons_succ]; first | done | rfl
            go_simp
            go_at_call 46
            refine (Between_at Z 0 1000000 g _ HG).mono ?_
            rintro e w' ⟨rfl, hw⟩; subst w'
            go_wp2_with fail
            refine hK.out _ _ hHeld5 (fun hHeld6 => ?_)
            clear hK K
            try simp only [Act.put, List.setIfInBounds_toArray, List.set_cons_zero, List.set_cons_succ]
            refine wpAnyH_take (i := 18) (oi := ?og18) (v := .bool g) ?hig18 (by kernel_rfl) (by kernel_rfl) (by kernel_rfl) (fun _ _ _ h => h) ?hyg18 hHeld6 ?restg18
            case hig18 => simp only [List.getElem?_toArray, List.getElem?_cons_zero, List.getElem?_cons_succ]; first | done | rfl
            case hyg18 => exact Or.inl ⟨by rfl, by intro V hV; obtain ⟨s0, s1, s2, s3, s4, s5, s6, s7, s8⟩ := hV; go_simp⟩
            try simp only [Act.put, List.setIfInBounds_toArray, List.set_cons_zero, List.set_cons_succ]
            refine wpAnyH_take (i := 19) (oi := ?og19) (v := .bool g) ?hig19 (by kernel_rfl) (by kernel_rfl) (by kernel_rfl) (fun _ _ _ h => h) ?hyg19 hHeld6 ?restg19
            case hig19 => simp only [List.getElem?_toArray, List.getElem?_cons_zero, List.getElem?_cons_succ]; first | done | rfl
            case hyg19 => exact Or.inl ⟨by rfl, by intro V hV; obtain ⟨s0, s1, s2, s3, s4, s5, s6, s7, s8⟩ := hV; go_simp⟩
            try simp only [Act.put, List.setIfInBounds_toArray, List.set_cons_zero, List.set_cons_succ]
            refine wpAnyH_done (by kernel_rfl) ?_ _
            refine NoPanic.normal ?_
            exact ⟨by kernel_rfl, g, by kernel_rfl, by rw [HF2.out]; simp, hHeld6.1⟩
      case rest1 =>
        rintro u w6 ⟨b6, hu6, hv6, hb6⟩
        have HV6 : Hid (b6 = true ↔ F1) := hv6
        have HB7 : Hid (Below w0.heap.size w0 w6) := below_up HBr.out hb6
        simp only [setAll, List.foldl, Act.put, List.setIfInBounds_toArray, List.set_cons_zero, List.set_cons_succ, hu6]
        clear hu6 hv6 hb6 t0 t1 t2 t3 t4 t5 t6 t7 t8
        have HCK : Hid (∀ V, Below w0.heap.size w0 V → V.cell? (a.add (k * 2)) = some (.int .i64 x) ∧ V.cell? ⟨(a.add (k * 2)).block, (a.add (k * 2)).off + 1, none⟩ = some (.int .i64 y)) := fun V hV => by
          obtain ⟨a2, x2, y2, e1, e2, h1, h2⟩ := crow_cel (crow_below HRB.out hV) hkl
          cases e1
          rw [HX.out] at e2
          cases e2
          exact ⟨h1, h2⟩
        clear ha' hay' hz'
        go_wp2_with fail
        go_loopw [4, 84] (fun f i wr => ∃ (j : Nat) (fb : Bool), i = .int .i64 (j : Int) ∧ j ≤ k ∧ f = .bool fb ∧ Hid (Below w0.heap.size w0 wr ∧ (fb = true ↔ F1 ∧ ∀ i (h : i < lb.length), i < j → lb[i] ≠ lb[k]))) (fun _ i _ => k - (intOf i).toNat)
        case atStart =>
          exact ⟨0, b6, rfl, by omega, rfl, HB7.out, by rw [HV6.out]; exact ⟨fun h => ⟨h, fun i _ hi => by omega⟩, fun h => h.1⟩⟩
        case round =>
          obtain ⟨j, f1, rfl, hj, rfl, HS2⟩ := hrel
          by_cases hjk : j < k
          · have hjl : j < lb.length := by omega
            obtain ⟨t0, t1, t2, t3, t4, t5, t6, t7, t8⟩ := HBX.out wr HS2.out.1
            obtain ⟨c0, c1⟩ := HCK.out wr HS2.out.1
            obtain ⟨a2, x2, y2, e1, hcj, e0, e3⟩ := crow_cel (crow_below HRB.out HS2.out.1) hjl
            cases e1
            have HXJ : Hid (lb[j] = ⟨x2, y2⟩) := hcj
            have HSTEP : Hid (∀ f2 : Bool, (f2 = true ↔ f1 = true ∧ ¬ (x2 = x ∧ y2 = y)) → (f2 = true ↔ F1 ∧ ∀ i (h : i < lb.length), i < j + 1 → lb[i] ≠ lb[k])) := fun f2 h2 => by
              rw [h2, HS2.out.2]
              constructor
              · rintro ⟨⟨h3, h4⟩, h5⟩
                refine ⟨h3, fun i hi hij => ?_⟩
                by_cases e : i = j
                · subst e; rw [HXJ.out, HX.out]; intro e; cases e; exact h5 ⟨rfl, rfl⟩
                · exact h4 i hi (by omega)
              · rintro ⟨h3, h4⟩
                refine ⟨⟨h3, fun i hi hij => h4 i hi (by omega)⟩, fun h5 => h4 j hjl (by omega) ?_⟩
                rw [HXJ.out, HX.out, h5.1, h5.2]
            have HBW : Hid (Below w0.heap.size w0 wr) := HS2.out.1
            have j1 : (j : Int) < k := by omega
            have j2 : (0 : Int) ≤ j := by omega
            have j3 : (j : Int) < ns := by omega
            clear hcj
            cases f1 with
            | false =>
              go_wp2_with fail
              go_quiet (fail)
              go_wp2_with fail
              go_roundw
              case rel => exact ⟨j + 1, false, by go_num, by omega, rfl, below_drewN HBW.out _, HSTEP.out false (by simp)⟩
              case measure => simp [intOf]; omega
            | true =>
              by_cases hx : x2 = x
              · subst hx
                have m1 : (x2 == x2) = true := by simp
                by_cases hy : y2 = y
                · subst hy
                  have m2 : (y2 == y2) = true := by simp
                  go_wp2_with fail
                  go_quiet (fail)
                  go_wp2_with fail
                  go_roundw
                  case rel => exact ⟨j + 1, false, by go_num, by omega, rfl, below_drewN HBW.out _, HSTEP.out false (by simp)⟩
                  case measure => simp [intOf]; omega
                · have m2 : (y2 == y) = false := by simp [hy]
                  have m3 : decide (y2 = y) = false := by simp [hy]
                  go_wp2_with fail
                  go_quiet (fail)
                  go_wp2_with fail
                  go_roundw
                  case rel => exact ⟨j + 1, true, by go_num, by omega, rfl, below_drewN HBW.out _, HSTEP.out true (by simp [hy])⟩
                  case measure => simp [intOf]; omega
              · have m1 : (x2 == x) = false := by simp [hx]
                have m3 : decide (x2 = x) = false := by simp [hx]
                go_wp2_with fail
                go_quiet (fail)
                go_wp2_with fail
                go_roundw
                case rel => exact ⟨j + 1, true, by go_num, by omega, rfl, below_drewN HBW.out _, HSTEP.out true (by simp [hx])⟩
                case measure => simp [intOf]; omega
          · have HNX : Hid (Below w0.heap.size w0 wr ∧ (f1 = true ↔ QA W H l lb ls (k + 1))) := by
              refine ⟨HS2.out.1, ?_⟩
              obtain rfl : j = k := by omega
              rw [QA_succ hkl, HS2.out.2, HF1.out]
              exact ⟨fun h => ⟨h.1.1, h.1.2.1, h.1.2.2, h.2⟩, fun h => ⟨⟨h.1, h.2.1, h.2.2.1⟩, h.2.2.2⟩⟩
            go_wp2_with fail
            go_roundw
            case rel => exact ⟨k + 1, f1, by go_num, by omega, rfl, HNX.out⟩
            case measure => simp [intOf]; omega
    · obtain rfl : ns = k := by omega
      obtain ⟨w9, hw9⟩ : ∃ w9 : World, w9 = wr := ⟨_, rfl⟩
      subst hw9
      obtain ⟨P1, hP1⟩ : ∃ P1 : Prop, P1 ↔ PLr W H l lb ls := ⟨_, Iff.rfl⟩
      have HP1 : Hid (P1 ↔ PLr W H l lb ls) := hP1
      have HS9 : Hid (Below w0.heap.size w0 w9 ∧ (f0 = true ↔ P1)) := ⟨HS.out.1, by
        rw [HS.out.2, hP1]
        have := QA_all (W := W) (H := H) (l := l) (lb := lb) (ls := ls) (by rw [HLS.out, HLB.out])
        rw [HLB.out] at this; exact this⟩
      obtain ⟨z0, z1, z2, z3, z4, z5, z6, z7, z8⟩ := HBX.out w9 HS9.out.1
      have HRM9 : Hid (row vi w9 pm lm) := row_below HRM.out HS9.out.1
      have HR9 : Hid (row vi w9 p l) := row_below HR.out HS9.out.1
      clear hP1 HS
      go_wp2_with fail
      go_loop [4, 106] (fun f i => ∃ (k : Nat) (fb : Bool), i = .int .i64 (k : Int) ∧ k ≤ nm ∧ f = .bool fb ∧ Hid (fb = true ↔ P1 ∧ QM l lm k)) (fun _ i => nm - (intOf i).toNat)
      case atStart => exact ⟨0, f0, rfl, by omega, rfl, by unfold Hid; rw [HS9.out.2]; exact ⟨fun h => ⟨h, fun i hi h0 => by omega⟩, fun h => h.1⟩⟩
      case round =>
        obtain ⟨k, f1, rfl, hk, rfl, HS⟩ := hrel
        by_cases hlt : k < nm
        · have hkl : k < lm.length := by rw [HLM.out]; exact hlt
          have hkl2 : k < l.length := by rw [HN.out]; exact hlt
          obtain ⟨am_, rfl, ha⟩ := row_at HRM9.out hkl
          obtain ⟨ap, rfl, hc⟩ := row_at HR9.out hkl2
          obtain ⟨X, hX⟩ : ∃ X, lm[k] = X := ⟨_, rfl⟩
          obtain ⟨Z, hZ⟩ : ∃ Z, l[k] = Z := ⟨_, rfl⟩
          have HZ : Hid (l.getD k 0 = Z) := by unfold Hid; rw [List.getD_eq_getElem?_getD, List.getElem?_eq_getElem hkl2, ← hZ]; rfl
          have HX : Hid (lm[k] = X) := hX
          rw [hX] at ha
          rw [hZ] at hc
          have ha' : w9.cell? (am_.add k) = some (.int .i64 X) := ha
          have hc' : w9.cell? (ap.add k) = some (.int .i64 Z) := hc
          obtain ⟨g, hg⟩ : ∃ g, (!am X) = g := ⟨_, rfl⟩
          have HG : Hid ((decide (0 ≤ X) && decide (X ≤ 1000000)) = g) := by unfold Hid; rw [am_between]; exact hg
          have HSTEP : Hid (∀ f2 : Bool, (f2 = true ↔ f1 = true ∧ g = true ∧ (X = 0 ∨ Z = 3)) → (f2 = true ↔ P1 ∧ QM l lm (k + 1))) := fun f2 h2 => by
            rw [h2, QM_succ hkl, HS.out, HX.out, HZ.out, ← hg]
            simp
            exact ⟨fun h => ⟨h.1.1, h.1.2, h.2⟩, fun h => ⟨⟨h.1, h.2.1⟩, h.2.2⟩⟩
          have l1 : (k : Int) < nm := by omega
          have l2 : (0 : Int) ≤ k := by omega
          clear hX hZ ha hc hg
          cases f1 with
          | false =>
            go_wp2_with fail
            go_round
            case rel => exact ⟨k + 1, false, by go_num, by omega, rfl, HSTEP.out false (by simp)⟩
            case measure => simp [intOf]; omega
          | true =>
            go_wp2_with fail
            refine (Between_at X 0 1000000 g w9 HG).mono ?_
            rintro e w' ⟨rfl, hw⟩; subst w'
            cases g with
            | false =>
              go_wp2_with fail
              go_round
              case rel => exact ⟨k + 1, false, by go_num, by omega, rfl, HSTEP.out false (by simp)⟩
              case measure => simp [intOf]; omega
            | true =>
              by_cases hx : X = 0
              · subst hx
                go_wp2_with fail
                go_round
                case rel => exact ⟨k + 1, true, by go_num, by omega, rfl, HSTEP.out true (by simp)⟩
                case measure => simp [intOf]; omega
              · have m1 : (X == 0) = false := by simp [hx]
                by_cases hz : Z = 3
                · subst hz
                  go_wp2_with fail
                  go_round
                  case rel => exact ⟨k + 1, true, by go_num, by omega, rfl, HSTEP.out true (by simp)⟩
                  case measure => simp [intOf]; omega
                · have m2 : (Z == 3) = false := by simp [hz]
                  go_wp2_with fail
                  go_round
                  case rel => exact ⟨k + 1, false, by go_num, by omega, rfl, HSTEP.out false (by simp [hx, hz])⟩
                  case measure => simp [intOf]; omega
        · obtain rfl : nm = k := by omega
          obtain ⟨P2, hP2⟩ : ∃ P2 : Prop, P2 ↔ PLr W H l lb ls ∧ MNr l lm := ⟨_, Iff.rfl⟩
          have HP2 : Hid (P2 ↔ PLr W H l lb ls ∧ MNr l lm) := hP2
          have HF3 : Hid (f1 = true ↔ P2) := by
            unfold Hid
            have := QM_all (l := l) (lm := lm) (by rw [HLM.out, HN.out])
            rw [HLM.out] at this
            rw [HS.out, hP2, HP1.out, this]
          have HB9 : Hid (Below w0.heap.size w0 w9) := HS9.out.1
          clear hP2 HS HS9 HRM9 HR9
          go_wp2_with fail
          clear z0 z1 z2 z3 z4 z5 z6 z7 z8
          go_loopw [4, 133] (fun f i wr => ∃ (k : Nat) (fb : Bool), i = .int .i64 (k : Int) ∧ k ≤ nt ∧ f = .bool fb ∧ Hid (Below w0.heap.size w0 wr ∧ (fb = true ↔ P2 ∧ QT W H l ns N lt k))) (fun _ i _ => nt - (intOf i).toNat)
          case atStart => exact ⟨0, f1, rfl, by omega, rfl, HB9.out, by rw [HF3.out]; exact ⟨fun h => ⟨h, fun i hi h0 => by omega⟩, fun h => h.1⟩⟩
          case round =>
            obtain ⟨k, f1, rfl, hk, rfl, HS⟩ := hrel
            by_cases hkn : k < nt
            · have hkl : k < lt.length := by rw [HLT.out]; exact hkn
              obtain ⟨a, rfl, hc⟩ := trow_at (trow_below HRT.out HS.out.1) hkl
              obtain ⟨t, ht⟩ : ∃ t, lt[k] = t := ⟨_, rfl⟩
              have HT : Hid (lt[k] = t) := ht
              rw [ht] at hc
              clear ht
              obtain ⟨ti, to_, tk, tx, ty, tf, td⟩ := t
              obtain ⟨c0, c1, c2, c3, c4, c5, c6⟩ := hc
              simp only at c0 c1 c2 c3 c4 c5 c6
              obtain ⟨w4, hw4⟩ : ∃ w4, wr.alloc (.cells #[.int .i64 ti, .int .i64 to_, .int .i64 tk, .int .i64 tx, .int .i64 ty, .int .i64 tf, .int .i64 td] 71) = w4 := ⟨_, rfl⟩
              obtain ⟨G, hG⟩ : ∃ G, wr.heap.size = G := ⟨_, rfl⟩
              have HBT : Hid (∀ V, Below w4.heap.size w4 V → V.cell? ⟨G, 0, none⟩ = some (.int .i64 ti) ∧ V.cell? ⟨G, 1, none⟩ = some (.int .i64 to_) ∧ V.cell? ⟨G, 2, none⟩ = some (.int .i64 tk) ∧ V.cell? ⟨G, 3, none⟩ = some (.int .i64 tx) ∧ V.cell? ⟨G, 4, none⟩ = some (.int .i64 ty) ∧ V.cell? ⟨G, 5, none⟩ = some (.int .i64 tf) ∧ V.cell? ⟨G, 6, none⟩ = some (.int .i64 td)) := fun V hV => boxt hG hw4 hV
              have hB4 : Below w0.heap.size w0 w4 := by rw [← hw4]; exact HS.out.1.alloc HS.out.1.size _
              have HB4 : Hid (Below w0.heap.size w0 w4) := hB4
              obtain ⟨t0, t1, t2, t3, t4, t5, t6, t7, t8⟩ := HBX.out w4 hB4
              obtain ⟨g0, g1, g2, g3, g4, g5, g6⟩ := HBT.out w4 (Below.refl _ _)
              obtain ⟨qk, hqk⟩ : ∃ b, (decide (1 ≤ tk) && decide (tk ≤ 2)) = b := ⟨_, rfl⟩
              have HQK : Hid ((decide (1 ≤ tk) && decide (tk ≤ 2)) = qk) := hqk
              have l1 : (k : Int) < nt := by omega
              have l2 : (0 : Int) ≤ k := by omega
              clear hB4 hqk
              go_wp2_with fail
              clear hw4 c0 c1 c2 c3 c4 c5 c6
              refine (Between_at tk 1 2 qk w4 HQK).mono ?_
              rintro e w' ⟨rfl, hw⟩; subst w'
              cases qk with
              | false =>
                have HE : Hid (E = 4) := HE4.out (fun h => by
                  have h1 := (h.2.2.2.1 k hkl).2.2.1
                  rw [HT.out] at h1
                  have h2 := HQK.out
                  rcases h1 with h1 | h1 <;> (dsimp only at h1; subst h1; simp at h2))
                go_wp2_with fail
                go_ret
                exact ⟨by rw [HE.out]; rfl, HUP.out w4 HB4.out⟩
              | true =>
                have hkk : 1 ≤ tk ∧ tk ≤ 2 := by have := HQK.out; simpa using this
                obtain ⟨kk1, kk2⟩ := hkk
                have HKK : Hid (tk = 1 ∨ tk = 2) := by unfold Hid; omega
                have u1 : IntKind.i64.wrap (N - 1) = N - 1 := wrp (by omega) (by omega)
                have u2 : IntKind.i64.wrap ((ns : Int) - 1) = (ns : Int) - 1 := wrp (by omega) (by omega)
                have u3 : IntKind.i64.wrap (2 - tk) = 2 - tk := wrp (by omega) (by omega)
                have u4 : IntKind.i64.wrap (5 * (2 - tk)) = 5 * (2 - tk) := wrp (by omega) (by omega)
                have u5 := fun (V : World) (a b c d : Value) => field30 V a b c d
                obtain ⟨r_, g_, q_, hko⟩ := KindOf_at tk HKK.out
                obtain ⟨L, hL⟩ : ∃ L, lifeOf tk = L := ⟨_, rfl⟩
                rw [hL] at hko
                have HKO : Hid (∀ (w : World), Calls Try.prog 52 #[.int .i64 tk] w fun e w' => e = .returned (.agg #[.int .i64 L, .int .i64 r_, .int .i64 g_, .int .i64 q_]) ∧ Below w.heap.size w w') := hko
                obtain ⟨b1, hb1⟩ : ∃ b, (decide (1 ≤ ti) && decide (ti ≤ N - 1)) = b := ⟨_, rfl⟩
                obtain ⟨b2, hb2⟩ : ∃ b, (decide (0 ≤ to_) && decide (to_ ≤ (ns : Int) - 1)) = b := ⟨_, rfl⟩
                obtain ⟨b3, hb3⟩ : ∃ b, opn W H l tx ty = b := ⟨_, rfl⟩
                obtain ⟨b4, hb4⟩ : ∃ b, (decide (1 ≤ tf) && decide (tf ≤ L)) = b := ⟨_, rfl⟩
                obtain ⟨b5, hb5⟩ : ∃ b, (decide (0 ≤ td) && decide (td ≤ 5 * (2 - tk))) = b := ⟨_, rfl⟩
                have HB1_ : Hid ((decide (1 ≤ ti) && decide (ti ≤ N - 1)) = b1) := hb1
                have HB2_ : Hid ((decide (0 ≤ to_) && decide (to_ ≤ (ns : Int) - 1)) = b2) := hb2
                have HB4_ : Hid ((decide (1 ≤ tf) && decide (tf ≤ L)) = b4) := hb4
                have HB5_ : Hid ((decide (0 ≤ td) && decide (td ≤ 5 * (2 - tk))) = b5) := hb5
                have HGR : Hid (∀ V, Below w4.heap.size w4 V → Calls Try.prog 51 #[.agg #[.int .i64 (W : Int), .int .i64 (H : Int), .slice p nm c], .agg #[.int .i64 tx, .int .i64 ty]] V fun e w' => e = .returned (.bool b3) ∧ Below V.heap.size V w') := fun V hV =>
                  Ground_at W H p nm c l tx ty b3 V (row_below HR.out (below_up HB4.out hV)) HF.out.1 HF.out.2.1 HN.out (by rw [← HN.out]; exact HF.out.2.2.1) hb3
                obtain ⟨F1, hF1⟩ : ∃ F1 : Prop, F1 ↔ (f1 = true ∧ b1 = true ∧ b2 = true ∧ b3 = true ∧ b4 = true ∧ b5 = true) := ⟨_, Iff.rfl⟩
                have HF2 : Hid (F1 ↔ (f1 = true ∧ b1 = true ∧ b2 = true ∧ b3 = true ∧ b4 = true ∧ b5 = true)) := hF1
                have HF1 : Hid (F1 ↔ (P2 ∧ QT W H l ns N lt k) ∧ (1 ≤ lt[k].i ∧ lt[k].i < N ∧ T1r W H l ns lt[k])) := by
                  unfold Hid T1r
                  rw [hF1, HS.out.2, HT.out, ← hb1, ← hb2, ← hb3, ← hb4, ← hb5, ← hL]
                  have e5 : 5 * (2 - tk) = loadOf tk := by unfold loadOf; split <;> omega
                  rw [e5]
                  simp only [Bool.and_eq_true, decide_eq_true_eq]
                  constructor
                  · rintro ⟨h0, ⟨h1, h2⟩, ⟨h3, h4⟩, h5, ⟨h6, h7⟩, h8, h9⟩
                    exact ⟨h0, h1, by omega, HKK.out, h3, by omega, h5, h6, h7, h8, h9⟩
                  · rintro ⟨h0, h1, h2, _, h3, h4, h5, h6, h7, h8, h9⟩
                    exact ⟨h0, ⟨h1, by omega⟩, ⟨h3, by omega⟩, h5, ⟨h6, h7⟩, h8, h9⟩
                clear hb1 hb2 hb3 hb4 hb5 hF1 hL hko
                go_wp2_with fail
                refine cut_set [4, 142, 143, 144, 145, 146, 147, 148, 149, 150, 151, 152, 153, 154, 155, 156, 157, 158, 159, 160, 161, 162, 163, 164, 165, 166, 167, 168, 169, 170, 171, 172, 173, 174, 175, 176, 177, 178, 179, 180, 181, 182, 183, 184] (fun u w' => ∃ b, u 4 = .bool b ∧ (b = true ↔ F1) ∧ Below w4.heap.size w4 w') ?first2 ?rest2
                case first2 =>
                  cases f1 with
                  | false =>
                    refine wp_region_noPanic ?_
                    refine wp_region_held_drew (S := (fun V => Below w4.heap.size w4 V ∧ V.cell? ⟨F, 0, none⟩ = some (.int .i64 (W : Int)) ∧ V.cell? ⟨F, 1, none⟩ = some (.int .i64 (H : Int)) ∧ V.cell? ⟨F, 2, none⟩ = some (.slice p nm c) ∧ V.cell? ⟨F, 3, none⟩ = some (.slice pb ns cb) ∧ V.cell? ⟨F, 7, none⟩ = some (.int .i64 N) ∧ V.cell? ⟨G, 0, none⟩ = some (.int .i64 ti) ∧ V.cell? ⟨G, 1, none⟩ = some (.int .i64 to_) ∧ V.cell? ⟨G, 2, none⟩ = some (.int .i64 tk) ∧ V.cell? ⟨G, 3, none⟩ = some (.int .i64 tx) ∧ V.cell? ⟨G, 4, none⟩ = some (.int .i64 ty) ∧ V.cell? ⟨G, 5, none⟩ = some (.int .i64 tf) ∧ V.cell? ⟨G, 6, none⟩ = some (.int .i64 td))) (by kernel_rfl) ⟨Below.drew (Below.refl _ _), t0, t1, t2, t3, t7, g0, g1, g2, g3, g4, g5, g6⟩ (fun hHeld => ?_)
                    refine wpAnyH_take (i := 0) (oi := ?oqf0) (v := .bool false) ?hiqf0 (by kernel_rfl) (by kernel_rfl) (by kernel_rfl) (fun _ _ _ h => h) ?hyqf0 hHeld ?restqf0
                    case hiqf0 => simp only [List.getElem?_toArray, List.getElem?_cons_zero, List.getElem?_cons_succ]; first | done | rfl
                    case hyqf0 => exact Or.inl ⟨by rfl, by intro V hV; obtain ⟨s0, s1, s2, s3, s4, s5, s6, s7, s8, s9, s10, s11, s12⟩ := hV; go_simp⟩
                    try simp only [Act.put, List.setIfInBounds_toArray, List.set_cons_zero, List.set_cons_succ]
                    refine wpAnyH_take (i := 1) (oi := ?oqf1) (v := .bool false) ?hiqf1 (by kernel_rfl) (by kernel_rfl) (by kernel_rfl) (fun _ _ _ h => h) ?hyqf1 hHeld ?restqf1
                    case hiqf1 => simp only [List.getElem?_toArray, List.getElem?_cons_zero, List.getElem?_cons_succ]; first | done | rfl
                    case hyqf1 => exact Or.inl ⟨by rfl, by intro V hV; obtain ⟨s0, s1, s2, s3, s4, s5, s6, s7, s8, s9, s10, s11, s12⟩ := hV; go_simp⟩
                    try simp only [Act.put, List.setIfInBounds_toArray, List.set_cons_zero, List.set_cons_succ]
                    refine wpAnyH_take (i := 2) (oi := ?oqf2) (v := undef) ?hiqf2 (by kernel_rfl) (by kernel_rfl) (by kernel_rfl) (fun _ _ _ h => h) ?hyqf2 hHeld ?restqf2
                    case hiqf2 => simp only [List.getElem?_toArray, List.getElem?_cons_zero, List.getElem?_cons_succ]; first | done | rfl
                    case hyqf2 => exact Or.inr ⟨by rfl, rfl⟩
                    try simp only [Act.put, List.setIfInBounds_toArray, List.set_cons_zero, List.set_cons_succ]
                    refine wpAnyH_take (i := 3) (oi := ?oqf3) (v := undef) ?hiqf3 (by kernel_rfl) (by kernel_rfl) (by kernel_rfl) (fun _ _ _ h => h) ?hyqf3 hHeld ?restqf3
                    case hiqf3 => simp only [List.getElem?_toArray, List.getElem?_cons_zero, List.getElem?_cons_succ]; first | done | rfl
                    case hyqf3 => exact Or.inr ⟨by rfl, rfl⟩
                    try simp only [Act.put, List.setIfInBounds_toArray, List.set_cons_zero, List.set_cons_succ]
                    refine wpAnyH_take (i := 4) (oi := ?oqf4) (v := undef) ?hiqf4 (by kernel_rfl) (by kernel_rfl) (by kernel_rfl) (fun _ _ _ h => h) ?hyqf4 hHeld ?restqf4
                    case hiqf4 => simp only [List.getElem?_toArray, List.getElem?_cons_zero, List.getElem?_cons_succ]; first | done | rfl
                    case hyqf4 => exact Or.inr ⟨by rfl, rfl⟩
                    try simp only [Act.put, List.setIfInBounds_toArray, List.set_cons_zero, List.set_cons_succ]
                    refine wpAnyH_take (i := 5) (oi := ?oqf5) (v := undef) ?hiqf5 (by kernel_rfl) (by kernel_rfl) (by kernel_rfl) (fun _ _ _ h => h) ?hyqf5 hHeld ?restqf5
                    case hiqf5 => simp only [List.getElem?_toArray, List.getElem?_cons_zero, List.getElem?_cons_succ]; first | done | rfl
                    case hyqf5 => exact Or.inr ⟨by rfl, rfl⟩
                    try simp only [Act.put, List.setIfInBounds_toArray, List.set_cons_zero, List.set_cons_succ]
                    refine wpAnyH_take (i := 6) (oi := ?oqf6) (v := undef) ?hiqf6 (by kernel_rfl) (by kernel_rfl) (by kernel_rfl) (fun _ _ _ h => h) ?hyqf6 hHeld ?restqf6
                    case hiqf6 => simp only [List.getElem?_toArray, List.getElem?_cons_zero, List.getElem?_cons_succ]; first | done | rfl
                    case hyqf6 => exact Or.inr ⟨by rfl, rfl⟩
                    try simp only [Act.put, List.setIfInBounds_toArray, List.set_cons_zero, List.set_cons_succ]
                    refine wpAnyH_take (i := 7) (oi := ?oqf7) (v := undef) ?hiqf7 (by kernel_rfl) (by kernel_rfl) (by kernel_rfl) (fun _ _ _ h => h) ?hyqf7 hHeld ?restqf7
                    case hiqf7 => simp only [List.getElem?_toArray, List.getElem?_cons_zero, List.getElem?_cons_succ]; first | done | rfl
                    case hyqf7 => exact Or.inr ⟨by rfl, rfl⟩
                    try simp only [Act.put, List.setIfInBounds_toArray, List.set_cons_zero, List.set_cons_succ]
                    refine wpAnyH_take (i := 8) (oi := ?oqf8) (v := .bool false) ?hiqf8 (by kernel_rfl) (by kernel_rfl) (by kernel_rfl) (fun _ _ _ h => h) ?hyqf8 hHeld ?restqf8
                    case hiqf8 => simp only [List.getElem?_toArray, List.getElem?_cons_zero, List.getElem?_cons_succ]; first | done | rfl
                    case hyqf8 => exact Or.inl ⟨by rfl, by intro V hV; obtain ⟨s0, s1, s2, s3, s4, s5, s6, s7, s8, s9, s10, s11, s12⟩ := hV; go_simp⟩
                    try simp only [Act.put, List.setIfInBounds_toArray, List.set_cons_zero, List.set_cons_succ]
                    refine wpAnyH_take (i := 9) (oi := ?oqf9) (v := .bool false) ?hiqf9 (by kernel_rfl) (by kernel_rfl) (by kernel_rfl) (fun _ _ _ h => h) ?hyqf9 hHeld ?restqf9
                    case hiqf9 => simp only [List.getElem?_toArray, List.getElem?_cons_zero, List.getElem?_cons_succ]; first | done | rfl
                    case hyqf9 => exact Or.inl ⟨by rfl, by intro V hV; obtain ⟨s0, s1, s2, s3, s4, s5, s6, s7, s8, s9, s10, s11, s12⟩ := hV; go_simp⟩
                    try simp only [Act.put, List.setIfInBounds_toArray, List.set_cons_zero, List.set_cons_succ]
                    refine wpAnyH_take (i := 10) (oi := ?oqf10) (v := undef) ?hiqf10 (by kernel_rfl) (by kernel_rfl) (by kernel_rfl) (fun _ _ _ h => h) ?hyqf10 hHeld ?restqf10
                    case hiqf10 => simp only [List.getElem?_toArray, List.getElem?_cons_zero, List.getElem?_cons_succ]; first | done | rfl
                    case hyqf10 => exact Or.inr ⟨by rfl, rfl⟩
                    try simp only [Act.put, List.setIfInBounds_toArray, List.set_cons_zero, List.set_cons_succ]
                    refine wpAnyH_take (i := 11) (oi := ?oqf11) (v := undef) ?hiqf11 (by kernel_rfl) (by kernel_rfl) (by kernel_rfl) (fun _ _ _ h => h) ?hyqf11 hHeld ?restqf11
                    case hiqf11 => simp only [List.getElem?_toArray, List.getElem?_cons_zero, List.getElem?_cons_succ]; first | done | rfl
                    case hyqf11 => exact Or.inr ⟨by rfl, rfl⟩
                    try simp only [Act.put, List.setIfInBounds_toArray, List.set_cons_zero, List.set_cons_succ]
                    refine wpAnyH_take (i := 12) (oi := ?oqf12) (v := undef) ?hiqf12 (by kernel_rfl) (by kernel_rfl) (by kernel_rfl) (fun _ _ _ h => h) ?hyqf12 hHeld ?restqf12
                    case hiqf12 => simp only [List.getElem?_toArray, List.getElem?_cons_zero, List.getElem?_cons_succ]; first | done | rfl
                    case hyqf12 => exact Or.inr ⟨by rfl, rfl⟩
                    try simp only [Act.put, List.setIfInBounds_toArray, List.set_cons_zero, List.set_cons_succ]
                    refine wpAnyH_take (i := 13) (oi := ?oqf13) (v := undef) ?hiqf13 (by kernel_rfl) (by kernel_rfl) (by kernel_rfl) (fun _ _ _ h => h) ?hyqf13 hHeld ?restqf13
                    case hiqf13 => simp only [List.getElem?_toArray, List.getElem?_cons_zero, List.getElem?_cons_succ]; first | done | rfl
                    case hyqf13 => exact Or.inr ⟨by rfl, rfl⟩
                    try simp only [Act.put, List.setIfInBounds_toArray, List.set_cons_zero, List.set_cons_succ]
                    refine wpAnyH_take (i := 14) (oi := ?oqf14) (v := undef) ?hiqf14 (by kernel_rfl) (by kernel_rfl) (by kernel_rfl) (fun _ _ _ h => h) ?hyqf14 hHeld ?restqf14
                    case hiqf14 => simp only [List.getElem?_toArray, List.getElem?_cons_zero, List.getElem?_cons_succ]; first | done | rfl
                    case hyqf14 => exact Or.inr ⟨by rfl, rfl⟩
                    try simp only [Act.put, List.setIfInBounds_toArray, List.set_cons_zero, List.set_cons_succ]
                    refine wpAnyH_take (i := 15) (oi := ?oqf15) (v := undef) ?hiqf15 (by kernel_rfl) (by kernel_rfl) (by kernel_rfl) (fun _ _ _ h => h) ?hyqf15 hHeld ?restqf15
                    case hiqf15 => simp only [List.getElem?_toArray, List.getElem?_cons_zero, List.getElem?_cons_succ]; first | done | rfl
                    case hyqf15 => exact Or.inr ⟨by rfl, rfl⟩
                    try simp only [Act.put, List.setIfInBounds_toArray, List.set_cons_zero, List.set_cons_succ]
                    refine wpAnyH_take (i := 16) (oi := ?oqf16) (v := undef) ?hiqf16 (by kernel_rfl) (by kernel_rfl) (by kernel_rfl) (fun _ _ _ h => h) ?hyqf16 hHeld ?restqf16
                    case hiqf16 => simp only [List.getElem?_toArray, List.getElem?_cons_zero, List.getElem?_cons_succ]; first | done | rfl
                    case hyqf16 => exact Or.inr ⟨by rfl, rfl⟩
                    try simp only [Act.put, List.setIfInBounds_toArray, List.set_cons_zero, List.set_cons_succ]
                    refine wpAnyH_take (i := 17) (oi := ?oqf17) (v := .bool false) ?hiqf17 (by kernel_rfl) (by kernel_rfl) (by kernel_rfl) (fun _ _ _ h => h) ?hyqf17 hHeld ?restqf17
                    case hiqf17 => simp only [List.getElem?_toArray, List.getElem?_cons_zero, List.getElem?_cons_succ]; first | done | rfl
                    case hyqf17 => exact Or.inl ⟨by rfl, by intro V hV; obtain ⟨s0, s1, s2, s3, s4, s5, s6, s7, s8, s9, s10, s11, s12⟩ := hV; go_simp⟩
                    try simp only [Act.put, List.setIfInBounds_toArray, List.set_cons_zero, List.set_cons_succ]
                    refine wpAnyH_take (i := 18) (oi := ?oqf18) (v := .bool false) ?hiqf18 (by kernel_rfl) (by kernel_rfl) (by kernel_rfl) (fun _ _ _ h => h) ?hyqf18 hHeld ?restqf18
                    case hiqf18 => simp only [List.getElem?_toArray, List.getElem?_cons_zero, List.getElem?_cons_succ]; first | done | rfl
                    case hyqf18 => exact Or.inl ⟨by rfl, by intro V hV; obtain ⟨s0, s1, s2, s3, s4, s5, s6, s7, s8, s9, s10, s11, s12⟩ := hV; go_simp⟩
                    try simp only [Act.put, List.setIfInBounds_toArray, List.set_cons_zero, List.set_cons_succ]
                    refine wpAnyH_take (i := 19) (oi := ?oqf19) (v := undef) ?hiqf19 (by kernel_rfl) (by kernel_rfl) (by kernel_rfl) (fun _ _ _ h => h) ?hyqf19 hHeld ?restqf19
                    case hiqf19 => simp only [List.getElem?_toArray, List.getElem?_cons_zero, List.getElem?_cons_succ]; first | done | rfl
                    case hyqf19 => exact Or.inr ⟨by rfl, rfl⟩
                    try simp only [Act.put, List.setIfInBounds_toArray, List.set_cons_zero, List.set_cons_succ]
                    refine wpAnyH_take (i := 20) (oi := ?oqf20) (v := undef) ?hiqf20 (by kernel_rfl) (by kernel_rfl) (by kernel_rfl) (fun _ _ _ h => h) ?hyqf20 hHeld ?restqf20
                    case hiqf20 => simp only [List.getElem?_toArray, List.getElem?_cons_zero, List.getElem?_cons_succ]; first | done | rfl
                    case hyqf20 => exact Or.inr ⟨by rfl, rfl⟩
                    try simp only [Act.put, List.setIfInBounds_toArray, List.set_cons_zero, List.set_cons_succ]
                    refine wpAnyH_take (i := 21) (oi := ?oqf21) (v := undef) ?hiqf21 (by kernel_rfl) (by kernel_rfl) (by kernel_rfl) (fun _ _ _ h => h) ?hyqf21 hHeld ?restqf21
                    case hiqf21 => simp only [List.getElem?_toArray, List.getElem?_cons_zero, List.getElem?_cons_succ]; first | done | rfl
                    case hyqf21 => exact Or.inr ⟨by rfl, rfl⟩
                    try simp only [Act.put, List.setIfInBounds_toArray, List.set_cons_zero, List.set_cons_succ]
                    refine wpAnyH_take (i := 22) (oi := ?oqf22) (v := undef) ?hiqf22 (by kernel_rfl) (by kernel_rfl) (by kernel_rfl) (fun _ _ _ h => h) ?hyqf22 hHeld ?restqf22
                    case hiqf22 => simp only [List.getElem?_toArray, List.getElem?_cons_zero, List.getElem?_cons_succ]; first | done | rfl
                    case hyqf22 => exact Or.inr ⟨by rfl, rfl⟩
                    try simp only [Act.put, List.setIfInBounds_toArray, List.set_cons_zero, List.set_cons_succ]
                    refine wpAnyH_take (i := 23) (oi := ?oqf23) (v := undef) ?hiqf23 (by kernel_rfl) (by kernel_rfl) (by kernel_rfl) (fun _ _ _ h => h) ?hyqf23 hHeld ?restqf23
                    case hiqf23 => simp only [List.getElem?_toArray, List.getElem?_cons_zero, List.getElem?_cons_succ]; first | done | rfl
                    case hyqf23 => exact Or.inr ⟨by rfl, rfl⟩
                    try simp only [Act.put, List.setIfInBounds_toArray, List.set_cons_zero, List.set_cons_succ]
                    refine wpAnyH_take (i := 24) (oi := ?oqf24) (v := .bool false) ?hiqf24 (by kernel_rfl) (by kernel_rfl) (by kernel_rfl) (fun _ _ _ h => h) ?hyqf24 hHeld ?restqf24
                    case hiqf24 => simp only [List.getElem?_toArray, List.getElem?_cons_zero, List.getElem?_cons_succ]; first | done | rfl
                    case hyqf24 => exact Or.inl ⟨by rfl, by intro V hV; obtain ⟨s0, s1, s2, s3, s4, s5, s6, s7, s8, s9, s10, s11, s12⟩ := hV; go_simp⟩
                    try simp only [Act.put, List.setIfInBounds_toArray, List.set_cons_zero, List.set_cons_succ]
                    refine wpAnyH_take (i := 25) (oi := ?oqf25) (v := .bool false) ?hiqf25 (by kernel_rfl) (by kernel_rfl) (by kernel_rfl) (fun _ _ _ h => h) ?hyqf25 hHeld ?restqf25
                    case hiqf25 => simp only [List.getElem?_toArray, List.getElem?_cons_zero, List.getElem?_cons_succ]; first | done | rfl
                    case hyqf25 => exact Or.inl ⟨by rfl, by intro V hV; obtain ⟨s0, s1, s2, s3, s4, s5, s6, s7, s8, s9, s10, s11, s12⟩ := hV; go_simp⟩
                    try simp only [Act.put, List.setIfInBounds_toArray, List.set_cons_zero, List.set_cons_succ]
                    refine wpAnyH_take (i := 26) (oi := ?oqf26) (v := undef) ?hiqf26 (by kernel_rfl) (by kernel_rfl) (by kernel_rfl) (fun _ _ _ h => h) ?hyqf26 hHeld ?restqf26
                    case hiqf26 => simp only [List.getElem?_toArray, List.getElem?_cons_zero, List.getElem?_cons_succ]; first | done | rfl
                    case hyqf26 => exact Or.inr ⟨by rfl, rfl⟩
                    try simp only [Act.put, List.setIfInBounds_toArray, List.set_cons_zero, List.set_cons_succ]
                    refine wpAnyH_take (i := 27) (oi := ?oqf27) (v := undef) ?hiqf27 (by kernel_rfl) (by kernel_rfl) (by kernel_rfl) (fun _ _ _ h => h) ?hyqf27 hHeld ?restqf27
                    case hiqf27 => simp only [List.getElem?_toArray, List.getElem?_cons_zero, List.getElem?_cons_succ]; first | done | rfl
                    case hyqf27 => exact Or.inr ⟨by rfl, rfl⟩
                    try simp only [Act.put, List.setIfInBounds_toArray, List.set_cons_zero, List.set_cons_succ]
                    refine wpAnyH_take (i := 28) (oi := ?oqf28) (v := undef) ?hiqf28 (by kernel_rfl) (by kernel_rfl) (by kernel_rfl) (fun _ _ _ h => h) ?hyqf28 hHeld ?restqf28
                    case hiqf28 => simp only [List.getElem?_toArray, List.getElem?_cons_zero, List.getElem?_cons_succ]; first | done | rfl
                    case hyqf28 => exact Or.inr ⟨by rfl, rfl⟩
                    try simp only [Act.put, List.setIfInBounds_toArray, List.set_cons_zero, List.set_cons_succ]
                    refine wpAnyH_take (i := 29) (oi := ?oqf29) (v := undef) ?hiqf29 (by kernel_rfl) (by kernel_rfl) (by kernel_rfl) (fun _ _ _ h => h) ?hyqf29 hHeld ?restqf29
                    case hiqf29 => simp only [List.getElem?_toArray, List.getElem?_cons_zero, List.getElem?_cons_succ]; first | done | rfl
                    case hyqf29 => exact Or.inr ⟨by rfl, rfl⟩
                    try simp only [Act.put, List.setIfInBounds_toArray, List.set_cons_zero, List.set_cons_succ]
                    refine wpAnyH_take (i := 30) (oi := ?oqf30) (v := undef) ?hiqf30 (by kernel_rfl) (by kernel_rfl) (by kernel_rfl) (fun _ _ _ h => h) ?hyqf30 hHeld ?restqf30
                    case hiqf30 => simp only [List.getElem?_toArray, List.getElem?_cons_zero, List.getElem?_cons_succ]; first | done | rfl
                    case hyqf30 => exact Or.inr ⟨by rfl, rfl⟩
                    try simp only [Act.put, List.setIfInBounds_toArray, List.set_cons_zero, List.set_cons_succ]
                    refine wpAnyH_take (i := 31) (oi := ?oqf31) (v := undef) ?hiqf31 (by kernel_rfl) (by kernel_rfl) (by kernel_rfl) (fun _ _ _ h => h) ?hyqf31 hHeld ?restqf31
                    case hiqf31 => simp only [List.getElem?_toArray, List.getElem?_cons_zero, List.getElem?_cons_succ]; first | done | rfl
                    case hyqf31 => exact Or.inr ⟨by rfl, rfl⟩
                    try simp only [Act.put, List.setIfInBounds_toArray, List.set_cons_zero, List.set_cons_succ]
                    refine wpAnyH_take (i := 32) (oi := ?oqf32) (v := undef) ?hiqf32 (by kernel_rfl) (by kernel_rfl) (by kernel_rfl) (fun _ _ _ h => h) ?hyqf32 hHeld ?restqf32
                    case hiqf32 => simp only [List.getElem?_toArray, List.getElem?_cons_zero, List.getElem?_cons_succ]; first | done | rfl
                    case hyqf32 => exact Or.inr ⟨by rfl, rfl⟩
                    try simp only [Act.put, List.setIfInBounds_toArray, List.set_cons_zero, List.set_cons_succ]
                    refine wpAnyH_take (i := 33) (oi := ?oqf33) (v := .bool false) ?hiqf33 (by kernel_rfl) (by kernel_rfl) (by kernel_rfl) (fun _ _ _ h => h) ?hyqf33 hHeld ?restqf33
                    case hiqf33 => simp only [List.getElem?_toArray, List.getElem?_cons_zero, List.getElem?_cons_succ]; first | done | rfl
                    case hyqf33 => exact Or.inl ⟨by rfl, by intro V hV; obtain ⟨s0, s1, s2, s3, s4, s5, s6, s7, s8, s9, s10, s11, s12⟩ := hV; go_simp⟩
                    try simp only [Act.put, List.setIfInBounds_toArray, List.set_cons_zero, List.set_cons_succ]
                    refine wpAnyH_take (i := 34) (oi := ?oqf34) (v := .bool false) ?hiqf34 (by kernel_rfl) (by kernel_rfl) (by kernel_rfl) (fun _ _ _ h => h) ?hyqf34 hHeld ?restqf34
                    case hiqf34 => simp only [List.getElem?_toArray, List.getElem?_cons_zero, List.getElem?_cons_succ]; first | done | rfl
                    case hyqf34 => exact Or.inl ⟨by rfl, by intro V hV; obtain ⟨s0, s1, s2, s3, s4, s5, s6, s7, s8, s9, s10, s11, s12⟩ := hV; go_simp⟩
                    try simp only [Act.put, List.setIfInBounds_toArray, List.set_cons_zero, List.set_cons_succ]
                    refine wpAnyH_take (i := 35) (oi := ?oqf35) (v := undef) ?hiqf35 (by kernel_rfl) (by kernel_rfl) (by kernel_rfl) (fun _ _ _ h => h) ?hyqf35 hHeld ?restqf35
                    case hiqf35 => simp only [List.getElem?_toArray, List.getElem?_cons_zero, List.getElem?_cons_succ]; first | done | rfl
                    case hyqf35 => exact Or.inr ⟨by rfl, rfl⟩
                    try simp only [Act.put, List.setIfInBounds_toArray, List.set_cons_zero, List.set_cons_succ]
                    refine wpAnyH_take (i := 36) (oi := ?oqf36) (v := undef) ?hiqf36 (by kernel_rfl) (by kernel_rfl) (by kernel_rfl) (fun _ _ _ h => h) ?hyqf36 hHeld ?restqf36
                    case hiqf36 => simp only [List.getElem?_toArray, List.getElem?_cons_zero, List.getElem?_cons_succ]; first | done | rfl
                    case hyqf36 => exact Or.inr ⟨by rfl, rfl⟩
                    try simp only [Act.put, List.setIfInBounds_toArray, List.set_cons_zero, List.set_cons_succ]
                    refine wpAnyH_take (i := 37) (oi := ?oqf37) (v := undef) ?hiqf37 (by kernel_rfl) (by kernel_rfl) (by kernel_rfl) (fun _ _ _ h => h) ?hyqf37 hHeld ?restqf37
                    case hiqf37 => simp only [List.getElem?_toArray, List.getElem?_cons_zero, List.getElem?_cons_succ]; first | done | rfl
                    case hyqf37 => exact Or.inr ⟨by rfl, rfl⟩
                    try simp only [Act.put, List.setIfInBounds_toArray, List.set_cons_zero, List.set_cons_succ]
                    refine wpAnyH_take (i := 38) (oi := ?oqf38) (v := undef) ?hiqf38 (by kernel_rfl) (by kernel_rfl) (by kernel_rfl) (fun _ _ _ h => h) ?hyqf38 hHeld ?restqf38
                    case hiqf38 => simp only [List.getElem?_toArray, List.getElem?_cons_zero, List.getElem?_cons_succ]; first | done | rfl
                    case hyqf38 => exact Or.inr ⟨by rfl, rfl⟩
                    try simp only [Act.put, List.setIfInBounds_toArray, List.set_cons_zero, List.set_cons_succ]
                    refine wpAnyH_take (i := 39) (oi := ?oqf39) (v := undef) ?hiqf39 (by kernel_rfl) (by kernel_rfl) (by kernel_rfl) (fun _ _ _ h => h) ?hyqf39 hHeld ?restqf39
                    case hiqf39 => simp only [List.getElem?_toArray, List.getElem?_cons_zero, List.getElem?_cons_succ]; first | done | rfl
                    case hyqf39 => exact Or.inr ⟨by rfl, rfl⟩
                    try simp only [Act.put, List.setIfInBounds_toArray, List.set_cons_zero, List.set_cons_succ]
                    refine wpAnyH_take (i := 40) (oi := ?oqf40) (v := undef) ?hiqf40 (by kernel_rfl) (by kernel_rfl) (by kernel_rfl) (fun _ _ _ h => h) ?hyqf40 hHeld ?restqf40
                    case hiqf40 => simp only [List.getElem?_toArray, List.getElem?_cons_zero, List.getElem?_cons_succ]; first | done | rfl
                    case hyqf40 => exact Or.inr ⟨by rfl, rfl⟩
                    try simp only [Act.put, List.setIfInBounds_toArray, List.set_cons_zero, List.set_cons_succ]
                    refine wpAnyH_take (i := 41) (oi := ?oqf41) (v := undef) ?hiqf41 (by kernel_rfl) (by kernel_rfl) (by kernel_rfl) (fun _ _ _ h => h) ?hyqf41 hHeld ?restqf41
                    case hiqf41 => simp only [List.getElem?_toArray, List.getElem?_cons_zero, List.getElem?_cons_succ]; first | done | rfl
                    case hyqf41 => exact Or.inr ⟨by rfl, rfl⟩
                    try simp only [Act.put, List.setIfInBounds_toArray, List.set_cons_zero, List.set_cons_succ]
                    refine wpAnyH_take (i := 42) (oi := ?oqf42) (v := .bool false) ?hiqf42 (by kernel_rfl) (by kernel_rfl) (by kernel_rfl) (fun _ _ _ h => h) ?hyqf42 hHeld ?restqf42
                    case hiqf42 => simp only [List.getElem?_toArray, List.getElem?_cons_zero, List.getElem?_cons_succ]; first | done | rfl
                    case hyqf42 => exact Or.inl ⟨by rfl, by intro V hV; obtain ⟨s0, s1, s2, s3, s4, s5, s6, s7, s8, s9, s10, s11, s12⟩ := hV; go_simp⟩
                    try simp only [Act.put, List.setIfInBounds_toArray, List.set_cons_zero, List.set_cons_succ]
                    refine wpAnyH_take (i := 43) (oi := ?oqf43) (v := .bool false) ?hiqf43 (by kernel_rfl) (by kernel_rfl) (by kernel_rfl) (fun _ _ _ h => h) ?hyqf43 hHeld ?restqf43
                    case hiqf43 => simp only [List.getElem?_toArray, List.getElem?_cons_zero, List.getElem?_cons_succ]; first | done | rfl
                    case hyqf43 => exact Or.inl ⟨by rfl, by intro V hV; obtain ⟨s0, s1, s2, s3, s4, s5, s6, s7, s8, s9, s10, s11, s12⟩ := hV; go_simp⟩
                    try simp only [Act.put, List.setIfInBounds_toArray, List.set_cons_zero, List.set_cons_succ]
                    refine wpAnyH_done (by kernel_rfl) ?_ _
                    refine NoPanic.normal ?_
                    exact ⟨by kernel_rfl, false, by kernel_rfl, by rw [HF2.out]; simp, hHeld.1⟩
                  | true =>
                    refine wp_region_noPanic ?_
                    refine wp_region_held_drew (S := (fun V => Below w4.heap.size w4 V ∧ V.cell? ⟨F, 0, none⟩ = some (.int .i64 (W : Int)) ∧ V.cell? ⟨F, 1, none⟩ = some (.int .i64 (H : Int)) ∧ V.cell? ⟨F, 2, none⟩ = some (.slice p nm c) ∧ V.cell? ⟨F, 3, none⟩ = some (.slice pb ns cb) ∧ V.cell? ⟨F, 7, none⟩ = some (.int .i64 N) ∧ V.cell? ⟨G, 0, none⟩ = some (.int .i64 ti) ∧ V.cell? ⟨G, 1, none⟩ = some (.int .i64 to_) ∧ V.cell? ⟨G, 2, none⟩ = some (.int .i64 tk) ∧ V.cell? ⟨G, 3, none⟩ = some (.int .i64 tx) ∧ V.cell? ⟨G, 4, none⟩ = some (.int .i64 ty) ∧ V.cell? ⟨G, 5, none⟩ = some (.int .i64 tf) ∧ V.cell? ⟨G, 6, none⟩ = some (.int .i64 td))) (by kernel_rfl) ⟨Below.drew (Below.refl _ _), t0, t1, t2, t3, t7, g0, g1, g2, g3, g4, g5, g6⟩ (fun hHeld => ?_)
                    refine wpAnyH_take (i := 0) (oi := ?oqa0) (v := .bool true) ?hiqa0 (by kernel_rfl) (by kernel_rfl) (by kernel_rfl) (fun _ _ _ h => h) ?hyqa0 hHeld ?restqa0
                    case hiqa0 => simp only [List.getElem?_toArray, List.getElem?_cons_zero, List.getElem?_cons_succ]; first | done | rfl
                    case hyqa0 => exact Or.inl ⟨by rfl, by intro V hV; obtain ⟨s0, s1, s2, s3, s4, s5, s6, s7, s8, s9, s10, s11, s12⟩ := hV; go_simp⟩
                    try simp only [Act.put, List.setIfInBounds_toArray, List.set_cons_zero, List.set_cons_succ]
                    refine wpAnyH_take (i := 1) (oi := ?oqa1) (v := .bool true) ?hiqa1 (by kernel_rfl) (by kernel_rfl) (by kernel_rfl) (fun _ _ _ h => h) ?hyqa1 hHeld ?restqa1
                    case hiqa1 => simp only [List.getElem?_toArray, List.getElem?_cons_zero, List.getElem?_cons_succ]; first | done | rfl
                    case hyqa1 => exact Or.inl ⟨by rfl, by intro V hV; obtain ⟨s0, s1, s2, s3, s4, s5, s6, s7, s8, s9, s10, s11, s12⟩ := hV; go_simp⟩
                    try simp only [Act.put, List.setIfInBounds_toArray, List.set_cons_zero, List.set_cons_succ]
                    refine wpAnyH_take (i := 2) (oi := ?oqa2) (v := .pointer (some ⟨G, 0, none⟩)) ?hiqa2 (by kernel_rfl) (by kernel_rfl) (by kernel_rfl) (fun _ _ _ h => h) ?hyqa2 hHeld ?restqa2
                    case hiqa2 => simp only [List.getElem?_toArray, List.getElem?_cons_zero, List.getElem?_cons_succ]; first | done | rfl
                    case hyqa2 => exact Or.inl ⟨by rfl, by intro V hV; obtain ⟨s0, s1, s2, s3, s4, s5, s6, s7, s8, s9, s10, s11, s12⟩ := hV; go_simp⟩
                    try simp only [Act.put, List.setIfInBounds_toArray, List.set_cons_zero, List.set_cons_succ]
                    refine wpAnyH_take (i := 3) (oi := ?oqa3) (v := .int .i64 ti) ?hiqa3 (by kernel_rfl) (by kernel_rfl) (by kernel_rfl) (fun _ _ _ h => h) ?hyqa3 hHeld ?restqa3
                    case hiqa3 => simp only [List.getElem?_toArray, List.getElem?_cons_zero, List.getElem?_cons_succ]; first | done | rfl
                    case hyqa3 => exact Or.inl ⟨by rfl, by intro V hV; obtain ⟨s0, s1, s2, s3, s4, s5, s6, s7, s8, s9, s10, s11, s12⟩ := hV; go_simp⟩
                    try simp only [Act.put, List.setIfInBounds_toArray, List.set_cons_zero, List.set_cons_succ]
                    refine wpAnyH_take (i := 4) (oi := ?oqa4) (v := .pointer (some ⟨F, 7, none⟩)) ?hiqa4 (by kernel_rfl) (by kernel_rfl) (by kernel_rfl) (fun _ _ _ h => h) ?hyqa4 hHeld ?restqa4
                    case hiqa4 => simp only [List.getElem?_toArray, List.getElem?_cons_zero, List.getElem?_cons_succ]; first | done | rfl
                    case hyqa4 => exact Or.inl ⟨by rfl, by intro V hV; obtain ⟨s0, s1, s2, s3, s4, s5, s6, s7, s8, s9, s10, s11, s12⟩ := hV; go_simp⟩
                    try simp only [Act.put, List.setIfInBounds_toArray, List.set_cons_zero, List.set_cons_succ]
                    refine wpAnyH_take (i := 5) (oi := ?oqa5) (v := .int .i64 N) ?hiqa5 (by kernel_rfl) (by kernel_rfl) (by kernel_rfl) (fun _ _ _ h => h) ?hyqa5 hHeld ?restqa5
                    case hiqa5 => simp only [List.getElem?_toArray, List.getElem?_cons_zero, List.getElem?_cons_succ]; first | done | rfl
                    case hyqa5 => exact Or.inl ⟨by rfl, by intro V hV; obtain ⟨s0, s1, s2, s3, s4, s5, s6, s7, s8, s9, s10, s11, s12⟩ := hV; go_simp⟩
                    try simp only [Act.put, List.setIfInBounds_toArray, List.set_cons_zero, List.set_cons_succ]
                    refine wpAnyH_take (i := 6) (oi := ?oqa6) (v := .int .i64 (N - 1)) ?hiqa6 (by kernel_rfl) (by kernel_rfl) (by kernel_rfl) (fun _ _ _ h => h) ?hyqa6 hHeld ?restqa6
                    case hiqa6 => simp only [List.getElem?_toArray, List.getElem?_cons_zero, List.getElem?_cons_succ]; first | done | rfl
                    case hyqa6 => exact Or.inl ⟨by rfl, by intro V hV; obtain ⟨s0, s1, s2, s3, s4, s5, s6, s7, s8, s9, s10, s11, s12⟩ := hV; go_simp⟩
                    try simp only [Act.put, List.setIfInBounds_toArray, List.set_cons_zero, List.set_cons_succ]
                    refine wpAnyH_ready (rs := [7]) (by kernel_rfl) (by simp) ?_
                    refine AllReadyH.cons (o := ?oqa7) ?hiqa7 (fun K hK => ?stepqa7) AllReadyH.nil
                    case hiqa7 => simp only [List.getElem?_toArray, List.getElem?_cons_zero, List.getElem?_cons_succ]; first | done | rfl
                    go_simp
                    go_at_call 46
                    refine (Between_at ti 1 (N - 1) b1 _ HB1_).mono ?_
                    rintro e w' ⟨rfl, hw⟩; subst w'
                    go_wp2_with fail
                    refine hK.out _ _ hHeld (fun hHeldx => ?_)
                    clear hK K
                    try simp only [Act.put, List.setIfInBounds_toArray, List.set_cons_zero, List.set_cons_succ]
                    cases b1 with
                    | false =>
                      refine wpAnyH_take (i := 8) (oi := ?oqan8) (v := .bool false) ?hiqan8 (by kernel_rfl) (by kernel_rfl) (by kernel_rfl) (fun _ _ _ h => h) ?hyqan8 hHeldx ?restqan8
                      case hiqan8 => simp only [List.getElem?_toArray, List.getElem?_cons_zero, List.getElem?_cons_succ]; first | done | rfl
                      case hyqan8 => exact Or.inl ⟨by rfl, by intro V hV; obtain ⟨s0, s1, s2, s3, s4, s5, s6, s7, s8, s9, s10, s11, s12⟩ := hV; go_simp⟩
                      try simp only [Act.put, List.setIfInBounds_toArray, List.set_cons_zero, List.set_cons_succ]
                      refine wpAnyH_take (i := 9) (oi := ?oqan9) (v := .bool false) ?hiqan9 (by kernel_rfl) (by kernel_rfl) (by kernel_rfl) (fun _ _ _ h => h) ?hyqan9 hHeldx ?restqan9
                      case hiqan9 => simp only [List.getElem?_toArray, List.getElem?_cons_zero, List.getElem?_cons_succ]; first | done | rfl
                      case hyqan9 => exact Or.inl ⟨by rfl, by intro V hV; obtain ⟨s0, s1, s2, s3, s4, s5, s6, s7, s8, s9, s10, s11, s12⟩ := hV; go_simp⟩
                      try simp only [Act.put, List.setIfInBounds_toArray, List.set_cons_zero, List.set_cons_succ]
                      refine wpAnyH_take (i := 10) (oi := ?oqan10) (v := undef) ?hiqan10 (by kernel_rfl) (by kernel_rfl) (by kernel_rfl) (fun _ _ _ h => h) ?hyqan10 hHeldx ?restqan10
                      case hiqan10 => simp only [List.getElem?_toArray, List.getElem?_cons_zero, List.getElem?_cons_succ]; first | done | rfl
                      case hyqan10 => exact Or.inr ⟨by rfl, rfl⟩
                      try simp only [Act.put, List.setIfInBounds_toArray, List.set_cons_zero, List.set_cons_succ]
                      refine wpAnyH_take (i := 11) (oi := ?oqan11) (v := undef) ?hiqan11 (by kernel_rfl) (by kernel_rfl) (by kernel_rfl) (fun _ _ _ h => h) ?hyqan11 hHeldx ?restqan11
                      case hiqan11 => simp only [List.getElem?_toArray, List.getElem?_cons_zero, List.getElem?_cons_succ]; first | done | rfl
                      case hyqan11 => exact Or.inr ⟨by rfl, rfl⟩
                      try simp only [Act.put, List.setIfInBounds_toArray, List.set_cons_zero, List.set_cons_succ]
                      refine wpAnyH_take (i := 12) (oi := ?oqan12) (v := undef) ?hiqan12 (by kernel_rfl) (by kernel_rfl) (by kernel_rfl) (fun _ _ _ h => h) ?hyqan12 hHeldx ?restqan12
                      case hiqan12 => simp only [List.getElem?_toArray, List.getElem?_cons_zero, List.getElem?_cons_succ]; first | done | rfl
                      case hyqan12 => exact Or.inr ⟨by rfl, rfl⟩
                      try simp only [Act.put, List.setIfInBounds_toArray, List.set_cons_zero, List.set_cons_succ]
                      refine wpAnyH_take (i := 13) (oi := ?oqan13) (v := undef) ?hiqan13 (by kernel_rfl) (by kernel_rfl) (by kernel_rfl) (fun _ _ _ h => h) ?hyqan13 hHeldx ?restqan13
                      case hiqan13 => simp only [List.getElem?_toArray, List.getElem?_cons_zero, List.getElem?_cons_succ]; first | done | rfl
                      case hyqan13 => exact Or.inr ⟨by rfl, rfl⟩
                      try simp only [Act.put, List.setIfInBounds_toArray, List.set_cons_zero, List.set_cons_succ]
                      refine wpAnyH_take (i := 14) (oi := ?oqan14) (v := undef) ?hiqan14 (by kernel_rfl) (by kernel_rfl) (by kernel_rfl) (fun _ _ _ h => h) ?hyqan14 hHeldx ?restqan14
                      case hiqan14 => simp only [List.getElem?_toArray, List.getElem?_cons_zero, List.getElem?_cons_succ]; first | done | rfl
                      case hyqan14 => exact Or.inr ⟨by rfl, rfl⟩
                      try simp only [Act.put, List.setIfInBounds_toArray, List.set_cons_zero, List.set_cons_succ]
                      refine wpAnyH_take (i := 15) (oi := ?oqan15) (v := undef) ?hiqan15 (by kernel_rfl) (by kernel_rfl) (by kernel_rfl) (fun _ _ _ h => h) ?hyqan15 hHeldx ?restqan15
                      case hiqan15 => simp only [List.getElem?_toArray, List.getElem?_cons_zero, List.getElem?_cons_succ]; first | done | rfl
                      case hyqan15 => exact Or.inr ⟨by rfl, rfl⟩
                      try simp only [Act.put, List.setIfInBounds_toArray, List.set_cons_zero, List.set_cons_succ]
                      refine wpAnyH_take (i := 16) (oi := ?oqan16) (v := undef) ?hiqan16 (by kernel_rfl) (by kernel_rfl) (by kernel_rfl) (fun _ _ _ h => h) ?hyqan16 hHeldx ?restqan16
                      case hiqan16 => simp only [List.getElem?_toArray, List.getElem?_cons_zero, List.getElem?_cons_succ]; first | done | rfl
                      case hyqan16 => exact Or.inr ⟨by rfl, rfl⟩
                      try simp only [Act.put, List.setIfInBounds_toArray, List.set_cons_zero, List.set_cons_succ]
                      refine wpAnyH_take (i := 17) (oi := ?oqan17) (v := .bool false) ?hiqan17 (by kernel_rfl) (by kernel_rfl) (by kernel_rfl) (fun _ _ _ h => h) ?hyqan17 hHeldx ?restqan17
                      case hiqan17 => simp only [List.getElem?_toArray, List.getElem?_cons_zero, List.getElem?_cons_succ]; first | done | rfl
                      case hyqan17 => exact Or.inl ⟨by rfl, by intro V hV; obtain ⟨s0, s1, s2, s3, s4, s5, s6, s7, s8, s9, s10, s11, s12⟩ := hV; go_simp⟩
                      try simp only [Act.put, List.setIfInBounds_toArray, List.set_cons_zero, List.set_cons_succ]
                      refine wpAnyH_take (i := 18) (oi := ?oqan18) (v := .bool false) ?hiqan18 (by kernel_rfl) (by kernel_rfl) (by kernel_rfl) (fun _ _ _ h => h) ?hyqan18 hHeldx ?restqan18
                      case hiqan18 => simp only [List.getElem?_toArray, List.getElem?_cons_zero, List.getElem?_cons_succ]; first | done | rfl
                      case hyqan18 => exact Or.inl ⟨by rfl, by intro V hV; obtain ⟨s0, s1, s2, s3, s4, s5, s6, s7, s8, s9, s10, s11, s12⟩ := hV; go_simp⟩
                      try simp only [Act.put, List.setIfInBounds_toArray, List.set_cons_zero, List.set_cons_succ]
                      refine wpAnyH_take (i := 19) (oi := ?oqan19) (v := undef) ?hiqan19 (by kernel_rfl) (by kernel_rfl) (by kernel_rfl) (fun _ _ _ h => h) ?hyqan19 hHeldx ?restqan19
                      case hiqan19 => simp only [List.getElem?_toArray, List.getElem?_cons_zero, List.getElem?_cons_succ]; first | done | rfl
                      case hyqan19 => exact Or.inr ⟨by rfl, rfl⟩
                      try simp only [Act.put, List.setIfInBounds_toArray, List.set_cons_zero, List.set_cons_succ]
                      refine wpAnyH_take (i := 20) (oi := ?oqan20) (v := undef) ?hiqan20 (by kernel_rfl) (by kernel_rfl) (by kernel_rfl) (fun _ _ _ h => h) ?hyqan20 hHeldx ?restqan20
                      case hiqan20 => simp only [List.getElem?_toArray, List.getElem?_cons_zero, List.getElem?_cons_succ]; first | done | rfl
                      case hyqan20 => exact Or.inr ⟨by rfl, rfl⟩
                      try simp only [Act.put, List.setIfInBounds_toArray, List.set_cons_zero, List.set_cons_succ]
                      refine wpAnyH_take (i := 21) (oi := ?oqan21) (v := undef) ?hiqan21 (by kernel_rfl) (by kernel_rfl) (by kernel_rfl) (fun _ _ _ h => h) ?hyqan21 hHeldx ?restqan21
                      case hiqan21 => simp only [List.getElem?_toArray, List.getElem?_cons_zero, List.getElem?_cons_succ]; first | done | rfl
                      case hyqan21 => exact Or.inr ⟨by rfl, rfl⟩
                      try simp only [Act.put, List.setIfInBounds_toArray, List.set_cons_zero, List.set_cons_succ]
                      refine wpAnyH_take (i := 22) (oi := ?oqan22) (v := undef) ?hiqan22 (by kernel_rfl) (by kernel_rfl) (by kernel_rfl) (fun _ _ _ h => h) ?hyqan22 hHeldx ?restqan22
                      case hiqan22 => simp only [List.getElem?_toArray, List.getElem?_cons_zero, List.getElem?_cons_succ]; first | done | rfl
                      case hyqan22 => exact Or.inr ⟨by rfl, rfl⟩
                      try simp only [Act.put, List.setIfInBounds_toArray, List.set_cons_zero, List.set_cons_succ]
                      refine wpAnyH_take (i := 23) (oi := ?oqan23) (v := undef) ?hiqan23 (by kernel_rfl) (by kernel_rfl) (by kernel_rfl) (fun _ _ _ h => h) ?hyqan23 hHeldx ?restqan23
                      case hiqan23 => simp only [List.getElem?_toArray, List.getElem?_cons_zero, List.getElem?_cons_succ]; first | done | rfl
                      case hyqan23 => exact Or.inr ⟨by rfl, rfl⟩
                      try simp only [Act.put, List.setIfInBounds_toArray, List.set_cons_zero, List.set_cons_succ]
                      refine wpAnyH_take (i := 24) (oi := ?oqan24) (v := .bool false) ?hiqan24 (by kernel_rfl) (by kernel_rfl) (by kernel_rfl) (fun _ _ _ h => h) ?hyqan24 hHeldx ?restqan24
                      case hiqan24 => simp only [List.getElem?_toArray, List.getElem?_cons_zero, List.getElem?_cons_succ]; first | done | rfl
                      case hyqan24 => exact Or.inl ⟨by rfl, by intro V hV; obtain ⟨s0, s1, s2, s3, s4, s5, s6, s7, s8, s9, s10, s11, s12⟩ := hV; go_simp⟩
                      try simp only [Act.put, List.setIfInBounds_toArray, List.set_cons_zero, List.set_cons_succ]
                      refine wpAnyH_take (i := 25) (oi := ?oqan25) (v := .bool false) ?hiqan25 (by kernel_rfl) (by kernel_rfl) (by kernel_rfl) (fun _ _ _ h => h) ?hyqan25 hHeldx ?restqan25
                      case hiqan25 => simp only [List.getElem?_toArray, List.getElem?_cons_zero, List.getElem?_cons_succ]; first | done | rfl
                      case hyqan25 => exact Or.inl ⟨by rfl, by intro V hV; obtain ⟨s0, s1, s2, s3, s4, s5, s6, s7, s8, s9, s10, s11, s12⟩ := hV; go_simp⟩
                      try simp only [Act.put, List.setIfInBounds_toArray, List.set_cons_zero, List.set_cons_succ]
                      refine wpAnyH_take (i := 26) (oi := ?oqan26) (v := undef) ?hiqan26 (by kernel_rfl) (by kernel_rfl) (by kernel_rfl) (fun _ _ _ h => h) ?hyqan26 hHeldx ?restqan26
                      case hiqan26 => simp only [List.getElem?_toArray, List.getElem?_cons_zero, List.getElem?_cons_succ]; first | done | rfl
                      case hyqan26 => exact Or.inr ⟨by rfl, rfl⟩
                      try simp only [Act.put, List.setIfInBounds_toArray, List.set_cons_zero, List.set_cons_succ]
                      refine wpAnyH_take (i := 27) (oi := ?oqan27) (v := undef) ?hiqan27 (by kernel_rfl) (by kernel_rfl) (by kernel_rfl) (fun _ _ _ h => h) ?hyqan27 hHeldx ?restqan27
                      case hiqan27 => simp only [List.getElem?_toArray, List.getElem?_cons_zero, List.getElem?_cons_succ]; first | done | rfl
                      case hyqan27 => exact Or.inr ⟨by rfl, rfl⟩
                      try simp only [Act.put, List.setIfInBounds_toArray, List.set_cons_zero, List.set_cons_succ]
                      refine wpAnyH_take (i := 28) (oi := ?oqan28) (v := undef) ?hiqan28 (by kernel_rfl) (by kernel_rfl) (by kernel_rfl) (fun _ _ _ h => h) ?hyqan28 hHeldx ?restqan28
                      case hiqan28 => simp only [List.getElem?_toArray, List.getElem?_cons_zero, List.getElem?_cons_succ]; first | done | rfl
                      case hyqan28 => exact Or.inr ⟨by rfl, rfl⟩
                      try simp only [Act.put, List.setIfInBounds_toArray, List.set_cons_zero, List.set_cons_succ]
                      refine wpAnyH_take (i := 29) (oi := ?oqan29) (v := undef) ?hiqan29 (by kernel_rfl) (by kernel_rfl) (by kernel_rfl) (fun _ _ _ h => h) ?hyqan29 hHeldx ?restqan29
                      case hiqan29 => simp only [List.getElem?_toArray, List.getElem?_cons_zero, List.getElem?_cons_succ]; first | done | rfl
                      case hyqan29 => exact Or.inr ⟨by rfl, rfl⟩
                      try simp only [Act.put, List.setIfInBounds_toArray, List.set_cons_zero, List.set_cons_succ]
                      refine wpAnyH_take (i := 30) (oi := ?oqan30) (v := undef) ?hiqan30 (by kernel_rfl) (by kernel_rfl) (by kernel_rfl) (fun _ _ _ h => h) ?hyqan30 hHeldx ?restqan30
                      case hiqan30 => simp only [List.getElem?_toArray, List.getElem?_cons_zero, List.getElem?_cons_succ]; first | done | rfl
                      case hyqan30 => exact Or.inr ⟨by rfl, rfl⟩
                      try simp only [Act.put, List.setIfInBounds_toArray, List.set_cons_zero, List.set_cons_succ]
                      refine wpAnyH_take (i := 31) (oi := ?oqan31) (v := undef) ?hiqan31 (by kernel_rfl) (by kernel_rfl) (by kernel_rfl) (fun _ _ _ h => h) ?hyqan31 hHeldx ?restqan31
                      case hiqan31 => simp only [List.getElem?_toArray, List.getElem?_cons_zero, List.getElem?_cons_succ]; first | done | rfl
                      case hyqan31 => exact Or.inr ⟨by rfl, rfl⟩
                      try simp only [Act.put, List.setIfInBounds_toArray, List.set_cons_zero, List.set_cons_succ]
                      refine wpAnyH_take (i := 32) (oi := ?oqan32) (v := undef) ?hiqan32 (by kernel_rfl) (by kernel_rfl) (by kernel_rfl) (fun _ _ _ h => h) ?hyqan32 hHeldx ?restqan32
                      case hiqan32 => simp only [List.getElem?_toArray, List.getElem?_cons_zero, List.getElem?_cons_succ]; first | done | rfl
                      case hyqan32 => exact Or.inr ⟨by rfl, rfl⟩
                      try simp only [Act.put, List.setIfInBounds_toArray, List.set_cons_zero, List.set_cons_succ]
                      refine wpAnyH_take (i := 33) (oi := ?oqan33) (v := .bool false) ?hiqan33 (by kernel_rfl) (by kernel_rfl) (by kernel_rfl) (fun _ _ _ h => h) ?hyqan33 hHeldx ?restqan33
                      case hiqan33 => simp only [List.getElem?_toArray, List.getElem?_cons_zero, List.getElem?_cons_succ]; first | done | rfl
                      case hyqan33 => exact Or.inl ⟨by rfl, by intro V hV; obtain ⟨s0, s1, s2, s3, s4, s5, s6, s7, s8, s9, s10, s11, s12⟩ := hV; go_simp⟩
                      try simp only [Act.put, List.setIfInBounds_toArray, List.set_cons_zero, List.set_cons_succ]
                      refine wpAnyH_take (i := 34) (oi := ?oqan34) (v := .bool false) ?hiqan34 (by kernel_rfl) (by kernel_rfl) (by kernel_rfl) (fun _ _ _ h => h) ?hyqan34 hHeldx ?restqan34
                      case hiqan34 => simp only [List.getElem?_toArray, List.getElem?_cons_zero, List.getElem?_cons_succ]; first | done | rfl
                      case hyqan34 => exact Or.inl ⟨by rfl, by intro V hV; obtain ⟨s0, s1, s2, s3, s4, s5, s6, s7, s8, s9, s10, s11, s12⟩ := hV; go_simp⟩
                      try simp only [Act.put, List.setIfInBounds_toArray, List.set_cons_zero, List.set_cons_succ]
                      refine wpAnyH_take (i := 35) (oi := ?oqan35) (v := undef) ?hiqan35 (by kernel_rfl) (by kernel_rfl) (by kernel_rfl) (fun _ _ _ h => h) ?hyqan35 hHeldx ?restqan35
                      case hiqan35 => simp only [List.getElem?_toArray, List.getElem?_cons_zero, List.getElem?_cons_succ]; first | done | rfl
                      case hyqan35 => exact Or.inr ⟨by rfl, rfl⟩
                      try simp only [Act.put, List.setIfInBounds_toArray, List.set_cons_zero, List.set_cons_succ]
                      refine wpAnyH_take (i := 36) (oi := ?oqan36) (v := undef) ?hiqan36 (by kernel_rfl) (by kernel_rfl) (by kernel_rfl) (fun _ _ _ h => h) ?hyqan36 hHeldx ?restqan36
                      case hiqan36 => simp only [List.getElem?_toArray, List.getElem?_cons_zero, List.getElem?_cons_succ]; first | done | rfl
                      case hyqan36 => exact Or.inr ⟨by rfl, rfl⟩
                      try simp only [Act.put, List.setIfInBounds_toArray, List.set_cons_zero, List.set_cons_succ]
                      refine wpAnyH_take (i := 37) (oi := ?oqan37) (v := undef) ?hiqan37 (by kernel_rfl) (by kernel_rfl) (by kernel_rfl) (fun _ _ _ h => h) ?hyqan37 hHeldx ?restqan37
                      case hiqan37 => simp only [List.getElem?_toArray, List.getElem?_cons_zero, List.getElem?_cons_succ]; first | done | rfl
                      case hyqan37 => exact Or.inr ⟨by rfl, rfl⟩
                      try simp only [Act.put, List.setIfInBounds_toArray, List.set_cons_zero, List.set_cons_succ]
                      refine wpAnyH_take (i := 38) (oi := ?oqan38) (v := undef) ?hiqan38 (by kernel_rfl) (by kernel_rfl) (by kernel_rfl) (fun _ _ _ h => h) ?hyqan38 hHeldx ?restqan38
                      case hiqan38 => simp only [List.getElem?_toArray, List.getElem?_cons_zero, List.getElem?_cons_succ]; first | done | rfl
                      case hyqan38 => exact Or.inr ⟨by rfl, rfl⟩
                      try simp only [Act.put, List.setIfInBounds_toArray, List.set_cons_zero, List.set_cons_succ]
                      refine wpAnyH_take (i := 39) (oi := ?oqan39) (v := undef) ?hiqan39 (by kernel_rfl) (by kernel_rfl) (by kernel_rfl) (fun _ _ _ h => h) ?hyqan39 hHeldx ?restqan39
                      case hiqan39 => simp only [List.getElem?_toArray, List.getElem?_cons_zero, List.getElem?_cons_succ]; first | done | rfl
                      case hyqan39 => exact Or.inr ⟨by rfl, rfl⟩
                      try simp only [Act.put, List.setIfInBounds_toArray, List.set_cons_zero, List.set_cons_succ]
                      refine wpAnyH_take (i := 40) (oi := ?oqan40) (v := undef) ?hiqan40 (by kernel_rfl) (by kernel_rfl) (by kernel_rfl) (fun _ _ _ h => h) ?hyqan40 hHeldx ?restqan40
                      case hiqan40 => simp only [List.getElem?_toArray, List.getElem?_cons_zero, List.getElem?_cons_succ]; first | done | rfl
                      case hyqan40 => exact Or.inr ⟨by rfl, rfl⟩
                      try simp only [Act.put, List.setIfInBounds_toArray, List.set_cons_zero, List.set_cons_succ]
                      refine wpAnyH_take (i := 41) (oi := ?oqan41) (v := undef) ?hiqan41 (by kernel_rfl) (by kernel_rfl) (by kernel_rfl) (fun _ _ _ h => h) ?hyqan41 hHeldx ?restqan41
                      case hiqan41 => simp only [List.getElem?_toArray, List.getElem?_cons_zero, List.getElem?_cons_succ]; first | done | rfl
                      case hyqan41 => exact Or.inr ⟨by rfl, rfl⟩
                      try simp only [Act.put, List.setIfInBounds_toArray, List.set_cons_zero, List.set_cons_succ]
                      refine wpAnyH_take (i := 42) (oi := ?oqan42) (v := .bool false) ?hiqan42 (by kernel_rfl) (by kernel_rfl) (by kernel_rfl) (fun _ _ _ h => h) ?hyqan42 hHeldx ?restqan42
                      case hiqan42 => simp only [List.getElem?_toArray, List.getElem?_cons_zero, List.getElem?_cons_succ]; first | done | rfl
                      case hyqan42 => exact Or.inl ⟨by rfl, by intro V hV; obtain ⟨s0, s1, s2, s3, s4, s5, s6, s7, s8, s9, s10, s11, s12⟩ := hV; go_simp⟩
                      try simp only [Act.put, List.setIfInBounds_toArray, List.set_cons_zero, List.set_cons_succ]
                      refine wpAnyH_take (i := 43) (oi := ?oqan43) (v := .bool false) ?hiqan43 (by kernel_rfl) (by kernel_rfl) (by kernel_rfl) (fun _ _ _ h => h) ?hyqan43 hHeldx ?restqan43
                      case hiqan43 => simp only [List.getElem?_toArray, List.getElem?_cons_zero, List.getElem?_cons_succ]; first | done | rfl
                      case hyqan43 => exact Or.inl ⟨by rfl, by intro V hV; obtain ⟨s0, s1, s2, s3, s4, s5, s6, s7, s8, s9, s10, s11, s12⟩ := hV; go_simp⟩
                      try simp only [Act.put, List.setIfInBounds_toArray, List.set_cons_zero, List.set_cons_succ]
                      refine wpAnyH_done (by kernel_rfl) ?_ _
                      refine NoPanic.normal ?_
                      exact ⟨by kernel_rfl, false, by kernel_rfl, by rw [HF2.out]; simp, hHeldx.1⟩
                    | true =>
                      refine wpAnyH_take (i := 8) (oi := ?oqb8) (v := .bool true) ?hiqb8 (by kernel_rfl) (by kernel_rfl) (by kernel_rfl) (fun _ _ _ h => h) ?hyqb8 hHeldx ?restqb8
                      case hiqb8 => simp only [List.getElem?_toArray, List.getElem?_cons_zero, List.getElem?_cons_succ]; first | done | rfl
                      case hyqb8 => exact Or.inl ⟨by rfl, by intro V hV; obtain ⟨s0, s1, s2, s3, s4, s5, s6, s7, s8, s9, s10, s11, s12⟩ := hV; go_simp⟩
                      try simp only [Act.put, List.setIfInBounds_toArray, List.set_cons_zero, List.set_cons_succ]
                      refine wpAnyH_take (i := 9) (oi := ?oqb9) (v := .bool true) ?hiqb9 (by kernel_rfl) (by kernel_rfl) (by kernel_rfl) (fun _ _ _ h => h) ?hyqb9 hHeldx ?restqb9
                      case hiqb9 => simp only [List.getElem?_toArray, List.getElem?_cons_zero, List.getElem?_cons_succ]; first | done | rfl
                      case hyqb9 => exact Or.inl ⟨by rfl, by intro V hV; obtain ⟨s0, s1, s2, s3, s4, s5, s6, s7, s8, s9, s10, s11, s12⟩ := hV; go_simp⟩
                      try simp only [Act.put, List.setIfInBounds_toArray, List.set_cons_zero, List.set_cons_succ]
                      refine wpAnyH_take (i := 10) (oi := ?oqb10) (v := .pointer (some ⟨G, 1, none⟩)) ?hiqb10 (by kernel_rfl) (by kernel_rfl) (by kernel_rfl) (fun _ _ _ h => h) ?hyqb10 hHeldx ?restqb10
                      case hiqb10 => simp only [List.getElem?_toArray, List.getElem?_cons_zero, List.getElem?_cons_succ]; first | done | rfl
                      case hyqb10 => exact Or.inl ⟨by rfl, by intro V hV; obtain ⟨s0, s1, s2, s3, s4, s5, s6, s7, s8, s9, s10, s11, s12⟩ := hV; go_simp⟩
                      try simp only [Act.put, List.setIfInBounds_toArray, List.set_cons_zero, List.set_cons_succ]
                      refine wpAnyH_take (i := 11) (oi := ?oqb11) (v := .int .i64 to_) ?hiqb11 (by kernel_rfl) (by kernel_rfl) (by kernel_rfl) (fun _ _ _ h => h) ?hyqb11 hHeldx ?restqb11
                      case hiqb11 => simp only [List.getElem?_toArray, List.getElem?_cons_zero, List.getElem?_cons_succ]; first | done | rfl
                      case hyqb11 => exact Or.inl ⟨by rfl, by intro V hV; obtain ⟨s0, s1, s2, s3, s4, s5, s6, s7, s8, s9, s10, s11, s12⟩ := hV; go_simp⟩
                      try simp only [Act.put, List.setIfInBounds_toArray, List.set_cons_zero, List.set_cons_succ]
                      refine wpAnyH_take (i := 12) (oi := ?oqb12) (v := .pointer (some ⟨F, 3, none⟩)) ?hiqb12 (by kernel_rfl) (by kernel_rfl) (by kernel_rfl) (fun _ _ _ h => h) ?hyqb12 hHeldx ?restqb12
                      case hiqb12 => simp only [List.getElem?_toArray, List.getElem?_cons_zero, List.getElem?_cons_succ]; first | done | rfl
                      case hyqb12 => exact Or.inl ⟨by rfl, by intro V hV; obtain ⟨s0, s1, s2, s3, s4, s5, s6, s7, s8, s9, s10, s11, s12⟩ := hV; go_simp⟩
                      try simp only [Act.put, List.setIfInBounds_toArray, List.set_cons_zero, List.set_cons_succ]
                      refine wpAnyH_take (i := 13) (oi := ?oqb13) (v := .slice pb ns cb) ?hiqb13 (by kernel_rfl) (by kernel_rfl) (by kernel_rfl) (fun _ _ _ h => h) ?hyqb13 hHeldx ?restqb13
                      case hiqb13 => simp only [List.getElem?_toArray, List.getElem?_cons_zero, List.getElem?_cons_succ]; first | done | rfl
                      case hyqb13 => exact Or.inl ⟨by rfl, by intro V hV; obtain ⟨s0, s1, s2, s3, s4, s5, s6, s7, s8, s9, s10, s11, s12⟩ := hV; go_simp⟩
                      try simp only [Act.put, List.setIfInBounds_toArray, List.set_cons_zero, List.set_cons_succ]
                      refine wpAnyH_take (i := 14) (oi := ?oqb14) (v := .int .i64 (ns : Int)) ?hiqb14 (by kernel_rfl) (by kernel_rfl) (by kernel_rfl) (fun _ _ _ h => h) ?hyqb14 hHeldx ?restqb14
                      case hiqb14 => simp only [List.getElem?_toArray, List.getElem?_cons_zero, List.getElem?_cons_succ]; first | done | rfl
                      case hyqb14 => exact Or.inl ⟨by rfl, by intro V hV; obtain ⟨s0, s1, s2, s3, s4, s5, s6, s7, s8, s9, s10, s11, s12⟩ := hV; go_simp⟩
                      try simp only [Act.put, List.setIfInBounds_toArray, List.set_cons_zero, List.set_cons_succ]
                      refine wpAnyH_take (i := 15) (oi := ?oqb15) (v := .int .i64 ((ns : Int) - 1)) ?hiqb15 (by kernel_rfl) (by kernel_rfl) (by kernel_rfl) (fun _ _ _ h => h) ?hyqb15 hHeldx ?restqb15
                      case hiqb15 => simp only [List.getElem?_toArray, List.getElem?_cons_zero, List.getElem?_cons_succ]; first | done | rfl
                      case hyqb15 => exact Or.inl ⟨by rfl, by intro V hV; obtain ⟨s0, s1, s2, s3, s4, s5, s6, s7, s8, s9, s10, s11, s12⟩ := hV; go_simp⟩
                      try simp only [Act.put, List.setIfInBounds_toArray, List.set_cons_zero, List.set_cons_succ]
                      refine wpAnyH_ready (rs := [16]) (by kernel_rfl) (by simp) ?_
                      refine AllReadyH.cons (o := ?oqb16) ?hiqb16 (fun K hK => ?stepqb16) AllReadyH.nil
                      case hiqb16 => simp only [List.getElem?_toArray, List.getElem?_cons_zero, List.getElem?_cons_succ]; first | done | rfl
                      go_simp
                      go_at_call 46
                      refine (Between_at to_ 0 ((ns : Int) - 1) b2 _ HB2_).mono ?_
                      rintro e w' ⟨rfl, hw⟩; subst w'
                      go_wp2_with fail
                      refine hK.out _ _ hHeldx (fun hHeldxx => ?_)
                      clear hK K
                      try simp only [Act.put, List.setIfInBounds_toArray, List.set_cons_zero, List.set_cons_succ]
                      cases b2 with
                      | false =>
                        refine wpAnyH_take (i := 17) (oi := ?oqbn17) (v := .bool false) ?hiqbn17 (by kernel_rfl) (by kernel_rfl) (by kernel_rfl) (fun _ _ _ h => h) ?hyqbn17 hHeldxx ?restqbn17
                        case hiqbn17 => simp only [List.getElem?_toArray, List.getElem?_cons_zero, List.getElem?_cons_succ]; first | done | rfl
                        case hyqbn17 => exact Or.inl ⟨by rfl, by intro V hV; obtain ⟨s0, s1, s2, s3, s4, s5, s6, s7, s8, s9, s10, s11, s12⟩ := hV; go_simp⟩
                        try simp only [Act.put, List.setIfInBounds_toArray, List.set_cons_zero, List.set_cons_succ]
                        refine wpAnyH_take (i := 18) (oi := ?oqbn18) (v := .bool false) ?hiqbn18 (by kernel_rfl) (by kernel_rfl) (by kernel_rfl) (fun _ _ _ h => h) ?hyqbn18 hHeldxx ?restqbn18
                        case hiqbn18 => simp only [List.getElem?_toArray, List.getElem?_cons_zero, List.getElem?_cons_succ]; first | done | rfl
                        case hyqbn18 => exact Or.inl ⟨by rfl, by intro V hV; obtain ⟨s0, s1, s2, s3, s4, s5, s6, s7, s8, s9, s10, s11, s12⟩ := hV; go_simp⟩
                        try simp only [Act.put, List.setIfInBounds_toArray, List.set_cons_zero, List.set_cons_succ]
                        refine wpAnyH_take (i := 19) (oi := ?oqbn19) (v := undef) ?hiqbn19 (by kernel_rfl) (by kernel_rfl) (by kernel_rfl) (fun _ _ _ h => h) ?hyqbn19 hHeldxx ?restqbn19
                        case hiqbn19 => simp only [List.getElem?_toArray, List.getElem?_cons_zero, List.getElem?_cons_succ]; first | done | rfl
                        case hyqbn19 => exact Or.inr ⟨by rfl, rfl⟩
                        try simp only [Act.put, List.setIfInBounds_toArray, List.set_cons_zero, List.set_cons_succ]
                        refine wpAnyH_take (i := 20) (oi := ?oqbn20) (v := undef) ?hiqbn20 (by kernel_rfl) (by kernel_rfl) (by kernel_rfl) (fun _ _ _ h => h) ?hyqbn20 hHeldxx ?restqbn20
                        case hiqbn20 => simp only [List.getElem?_toArray, List.getElem?_cons_zero, List.getElem?_cons_succ]; first | done | rfl
                        case hyqbn20 => exact Or.inr ⟨by rfl, rfl⟩
                        try simp only [Act.put, List.setIfInBounds_toArray, List.set_cons_zero, List.set_cons_succ]
                        refine wpAnyH_take (i := 21) (oi := ?oqbn21) (v := undef) ?hiqbn21 (by kernel_rfl) (by kernel_rfl) (by kernel_rfl) (fun _ _ _ h => h) ?hyqbn21 hHeldxx ?restqbn21
                        case hiqbn21 => simp only [List.getElem?_toArray, List.getElem?_cons_zero, List.getElem?_cons_succ]; first | done | rfl
                        case hyqbn21 => exact Or.inr ⟨by rfl, rfl⟩
                        try simp only [Act.put, List.setIfInBounds_toArray, List.set_cons_zero, List.set_cons_succ]
                        refine wpAnyH_take (i := 22) (oi := ?oqbn22) (v := undef) ?hiqbn22 (by kernel_rfl) (by kernel_rfl) (by kernel_rfl) (fun _ _ _ h => h) ?hyqbn22 hHeldxx ?restqbn22
                        case hiqbn22 => simp only [List.getElem?_toArray, List.getElem?_cons_zero, List.getElem?_cons_succ]; first | done | rfl
                        case hyqbn22 => exact Or.inr ⟨by rfl, rfl⟩
                        try simp only [Act.put, List.setIfInBounds_toArray, List.set_cons_zero, List.set_cons_succ]
                        refine wpAnyH_take (i := 23) (oi := ?oqbn23) (v := undef) ?hiqbn23 (by kernel_rfl) (by kernel_rfl) (by kernel_rfl) (fun _ _ _ h => h) ?hyqbn23 hHeldxx ?restqbn23
                        case hiqbn23 => simp only [List.getElem?_toArray, List.getElem?_cons_zero, List.getElem?_cons_succ]; first | done | rfl
                        case hyqbn23 => exact Or.inr ⟨by rfl, rfl⟩
                        try simp only [Act.put, List.setIfInBounds_toArray, List.set_cons_zero, List.set_cons_succ]
                        refine wpAnyH_take (i := 24) (oi := ?oqbn24) (v := .bool false) ?hiqbn24 (by kernel_rfl) (by kernel_rfl) (by kernel_rfl) (fun _ _ _ h => h) ?hyqbn24 hHeldxx ?restqbn24
                        case hiqbn24 => simp only [List.getElem?_toArray, List.getElem?_cons_zero, List.getElem?_cons_succ]; first | done | rfl
                        case hyqbn24 => exact Or.inl ⟨by rfl, by intro V hV; obtain ⟨s0, s1, s2, s3, s4, s5, s6, s7, s8, s9, s10, s11, s12⟩ := hV; go_simp⟩
                        try simp only [Act.put, List.setIfInBounds_toArray, List.set_cons_zero, List.set_cons_succ]
                        refine wpAnyH_take (i := 25) (oi := ?oqbn25) (v := .bool false) ?hiqbn25 (by kernel_rfl) (by kernel_rfl) (by kernel_rfl) (fun _ _ _ h => h) ?hyqbn25 hHeldxx ?restqbn25
                        case hiqbn25 => simp only [List.getElem?_toArray, List.getElem?_cons_zero, List.getElem?_cons_succ]; first | done | rfl
                        case hyqbn25 => exact Or.inl ⟨by rfl, by intro V hV; obtain ⟨s0, s1, s2, s3, s4, s5, s6, s7, s8, s9, s10, s11, s12⟩ := hV; go_simp⟩
                        try simp only [Act.put, List.setIfInBounds_toArray, List.set_cons_zero, List.set_cons_succ]
                        refine wpAnyH_take (i := 26) (oi := ?oqbn26) (v := undef) ?hiqbn26 (by kernel_rfl) (by kernel_rfl) (by kernel_rfl) (fun _ _ _ h => h) ?hyqbn26 hHeldxx ?restqbn26
                        case hiqbn26 => simp only [List.getElem?_toArray, List.getElem?_cons_zero, List.getElem?_cons_succ]; first | done | rfl
                        case hyqbn26 => exact Or.inr ⟨by rfl, rfl⟩
                        try simp only [Act.put, List.setIfInBounds_toArray, List.set_cons_zero, List.set_cons_succ]
                        refine wpAnyH_take (i := 27) (oi := ?oqbn27) (v := undef) ?hiqbn27 (by kernel_rfl) (by kernel_rfl) (by kernel_rfl) (fun _ _ _ h => h) ?hyqbn27 hHeldxx ?restqbn27
                        case hiqbn27 => simp only [List.getElem?_toArray, List.getElem?_cons_zero, List.getElem?_cons_succ]; first | done | rfl
                        case hyqbn27 => exact Or.inr ⟨by rfl, rfl⟩
                        try simp only [Act.put, List.setIfInBounds_toArray, List.set_cons_zero, List.set_cons_succ]
                        refine wpAnyH_take (i := 28) (oi := ?oqbn28) (v := undef) ?hiqbn28 (by kernel_rfl) (by kernel_rfl) (by kernel_rfl) (fun _ _ _ h => h) ?hyqbn28 hHeldxx ?restqbn28
                        case hiqbn28 => simp only [List.getElem?_toArray, List.getElem?_cons_zero, List.getElem?_cons_succ]; first | done | rfl
                        case hyqbn28 => exact Or.inr ⟨by rfl, rfl⟩
                        try simp only [Act.put, List.setIfInBounds_toArray, List.set_cons_zero, List.set_cons_succ]
                        refine wpAnyH_take (i := 29) (oi := ?oqbn29) (v := undef) ?hiqbn29 (by kernel_rfl) (by kernel_rfl) (by kernel_rfl) (fun _ _ _ h => h) ?hyqbn29 hHeldxx ?restqbn29
                        case hiqbn29 => simp only [List.getElem?_toArray, List.getElem?_cons_zero, List.getElem?_cons_succ]; first | done | rfl
                        case hyqbn29 => exact Or.inr ⟨by rfl, rfl⟩
                        try simp only [Act.put, List.setIfInBounds_toArray, List.set_cons_zero, List.set_cons_succ]
                        refine wpAnyH_take (i := 30) (oi := ?oqbn30) (v := undef) ?hiqbn30 (by kernel_rfl) (by kernel_rfl) (by kernel_rfl) (fun _ _ _ h => h) ?hyqbn30 hHeldxx ?restqbn30
                        case hiqbn30 => simp only [List.getElem?_toArray, List.getElem?_cons_zero, List.getElem?_cons_succ]; first | done | rfl
                        case hyqbn30 => exact Or.inr ⟨by rfl, rfl⟩
                        try simp only [Act.put, List.setIfInBounds_toArray, List.set_cons_zero, List.set_cons_succ]
                        refine wpAnyH_take (i := 31) (oi := ?oqbn31) (v := undef) ?hiqbn31 (by kernel_rfl) (by kernel_rfl) (by kernel_rfl) (fun _ _ _ h => h) ?hyqbn31 hHeldxx ?restqbn31
                        case hiqbn31 => simp only [List.getElem?_toArray, List.getElem?_cons_zero, List.getElem?_cons_succ]; first | done | rfl
                        case hyqbn31 => exact Or.inr ⟨by rfl, rfl⟩
                        try simp only [Act.put, List.setIfInBounds_toArray, List.set_cons_zero, List.set_cons_succ]
                        refine wpAnyH_take (i := 32) (oi := ?oqbn32) (v := undef) ?hiqbn32 (by kernel_rfl) (by kernel_rfl) (by kernel_rfl) (fun _ _ _ h => h) ?hyqbn32 hHeldxx ?restqbn32
                        case hiqbn32 => simp only [List.getElem?_toArray, List.getElem?_cons_zero, List.getElem?_cons_succ]; first | done | rfl
                        case hyqbn32 => exact Or.inr ⟨by rfl, rfl⟩
                        try simp only [Act.put, List.setIfInBounds_toArray, List.set_cons_zero, List.set_cons_succ]
                        refine wpAnyH_take (i := 33) (oi := ?oqbn33) (v := .bool false) ?hiqbn33 (by kernel_rfl) (by kernel_rfl) (by kernel_rfl) (fun _ _ _ h => h) ?hyqbn33 hHeldxx ?restqbn33
                        case hiqbn33 => simp only [List.getElem?_toArray, List.getElem?_cons_zero, List.getElem?_cons_succ]; first | done | rfl
                        case hyqbn33 => exact Or.inl ⟨by rfl, by intro V hV; obtain ⟨s0, s1, s2, s3, s4, s5, s6, s7, s8, s9, s10, s11, s12⟩ := hV; go_simp⟩
                        try simp only [Act.put, List.setIfInBounds_toArray, List.set_cons_zero, List.set_cons_succ]
                        refine wpAnyH_take (i := 34) (oi := ?oqbn34) (v := .bool false) ?hiqbn34 (by kernel_rfl) (by kernel_rfl) (by kernel_rfl) (fun _ _ _ h => h) ?hyqbn34 hHeldxx ?restqbn34
                        case hiqbn34 => simp only [List.getElem?_toArray, List.getElem?_cons_zero, List.getElem?_cons_succ]; first | done | rfl
                        case hyqbn34 => exact Or.inl ⟨by rfl, by intro V hV; obtain ⟨s0, s1, s2, s3, s4, s5, s6, s7, s8, s9, s10, s11, s12⟩ := hV; go_simp⟩
                        try simp only [Act.put, List.setIfInBounds_toArray, List.set_cons_zero, List.set_cons_succ]
                        refine wpAnyH_take (i := 35) (oi := ?oqbn35) (v := undef) ?hiqbn35 (by kernel_rfl) (by kernel_rfl) (by kernel_rfl) (fun _ _ _ h => h) ?hyqbn35 hHeldxx ?restqbn35
                        case hiqbn35 => simp only [List.getElem?_toArray, List.getElem?_cons_zero, List.getElem?_cons_succ]; first | done | rfl
                        case hyqbn35 => exact Or.inr ⟨by rfl, rfl⟩
                        try simp only [Act.put, List.setIfInBounds_toArray, List.set_cons_zero, List.set_cons_succ]
                        refine wpAnyH_take (i := 36) (oi := ?oqbn36) (v := undef) ?hiqbn36 (by kernel_rfl) (by kernel_rfl) (by kernel_rfl) (fun _ _ _ h => h) ?hyqbn36 hHeldxx ?restqbn36
                        case hiqbn36 => simp only [List.getElem?_toArray, List.getElem?_cons_zero, List.getElem?_cons_succ]; first | done | rfl
                        case hyqbn36 => exact Or.inr ⟨by rfl, rfl⟩
                        try simp only [Act.put, List.setIfInBounds_toArray, List.set_cons_zero, List.set_cons_succ]
                        refine wpAnyH_take (i := 37) (oi := ?oqbn37) (v := undef) ?hiqbn37 (by kernel_rfl) (by kernel_rfl) (by kernel_rfl) (fun _ _ _ h => h) ?hyqbn37 hHeldxx ?restqbn37
                        case hiqbn37 => simp only [List.getElem?_toArray, List.getElem?_cons_zero, List.getElem?_cons_succ]; first | done | rfl
                        case hyqbn37 => exact Or.inr ⟨by rfl, rfl⟩
                        try simp only [Act.put, List.setIfInBounds_toArray, List.set_cons_zero, List.set_cons_succ]
                        refine wpAnyH_take (i := 38) (oi := ?oqbn38) (v := undef) ?hiqbn38 (by kernel_rfl) (by kernel_rfl) (by kernel_rfl) (fun _ _ _ h => h) ?hyqbn38 hHeldxx ?restqbn38
                        case hiqbn38 => simp only [List.getElem?_toArray, List.getElem?_cons_zero, List.getElem?_cons_succ]; first | done | rfl
                        case hyqbn38 => exact Or.inr ⟨by rfl, rfl⟩
                        try simp only [Act.put, List.setIfInBounds_toArray, List.set_cons_zero, List.set_cons_succ]
                        refine wpAnyH_take (i := 39) (oi := ?oqbn39) (v := undef) ?hiqbn39 (by kernel_rfl) (by kernel_rfl) (by kernel_rfl) (fun _ _ _ h => h) ?hyqbn39 hHeldxx ?restqbn39
                        case hiqbn39 => simp only [List.getElem?_toArray, List.getElem?_cons_zero, List.getElem?_cons_succ]; first | done | rfl
                        case hyqbn39 => exact Or.inr ⟨by rfl, rfl⟩
                        try simp only [Act.put, List.setIfInBounds_toArray, List.set_cons_zero, List.set_cons_succ]
                        refine wpAnyH_take (i := 40) (oi := ?oqbn40) (v := undef) ?hiqbn40 (by kernel_rfl) (by kernel_rfl) (by kernel_rfl) (fun _ _ _ h => h) ?hyqbn40 hHeldxx ?restqbn40
                        case hiqbn40 => simp only [List.getElem?_toArray, List.getElem?_cons_zero, List.getElem?_cons_succ]; first | done | rfl
                        case hyqbn40 => exact Or.inr ⟨by rfl, rfl⟩
                        try simp only [Act.put, List.setIfInBounds_toArray, List.set_cons_zero, List.set_cons_succ]
                        refine wpAnyH_take (i := 41) (oi := ?oqbn41) (v := undef) ?hiqbn41 (by kernel_rfl) (by kernel_rfl) (by kernel_rfl) (fun _ _ _ h => h) ?hyqbn41 hHeldxx ?restqbn41
                        case hiqbn41 => simp only [List.getElem?_toArray, List.getElem?_cons_zero, List.getElem?_cons_succ]; first | done | rfl
                        case hyqbn41 => exact Or.inr ⟨by rfl, rfl⟩
                        try simp only [Act.put, List.setIfInBounds_toArray, List.set_cons_zero, List.set_cons_succ]
                        refine wpAnyH_take (i := 42) (oi := ?oqbn42) (v := .bool false) ?hiqbn42 (by kernel_rfl) (by kernel_rfl) (by kernel_rfl) (fun _ _ _ h => h) ?hyqbn42 hHeldxx ?restqbn42
                        case hiqbn42 => simp only [List.getElem?_toArray, List.getElem?_cons_zero, List.getElem?_cons_succ]; first | done | rfl
                        case hyqbn42 => exact Or.inl ⟨by rfl, by intro V hV; obtain ⟨s0, s1, s2, s3, s4, s5, s6, s7, s8, s9, s10, s11, s12⟩ := hV; go_simp⟩
                        try simp only [Act.put, List.setIfInBounds_toArray, List.set_cons_zero, List.set_cons_succ]
                        refine wpAnyH_take (i := 43) (oi := ?oqbn43) (v := .bool false) ?hiqbn43 (by kernel_rfl) (by kernel_rfl) (by kernel_rfl) (fun _ _ _ h => h) ?hyqbn43 hHeldxx ?restqbn43
                        case hiqbn43 => simp only [List.getElem?_toArray, List.getElem?_cons_zero, List.getElem?_cons_succ]; first | done | rfl
                        case hyqbn43 => exact Or.inl ⟨by rfl, by intro V hV; obtain ⟨s0, s1, s2, s3, s4, s5, s6, s7, s8, s9, s10, s11, s12⟩ := hV; go_simp⟩
                        try simp only [Act.put, List.setIfInBounds_toArray, List.set_cons_zero, List.set_cons_succ]
                        refine wpAnyH_done (by kernel_rfl) ?_ _
                        refine NoPanic.normal ?_
                        exact ⟨by kernel_rfl, false, by kernel_rfl, by rw [HF2.out]; simp, hHeldxx.1⟩
                      | true =>
                        refine wpAnyH_take (i := 17) (oi := ?oqc17) (v := .bool true) ?hiqc17 (by kernel_rfl) (by kernel_rfl) (by kernel_rfl) (fun _ _ _ h => h) ?hyqc17 hHeldxx ?restqc17
                        case hiqc17 => simp only [List.getElem?_toArray, List.getElem?_cons_zero, List.getElem?_cons_succ]; first | done | rfl
                        case hyqc17 => exact Or.inl ⟨by rfl, by intro V hV; obtain ⟨s0, s1, s2, s3, s4, s5, s6, s7, s8, s9, s10, s11, s12⟩ := hV; go_simp⟩
                        try simp only [Act.put, List.setIfInBounds_toArray, List.set_cons_zero, List.set_cons_succ]
                        refine wpAnyH_take (i := 18) (oi := ?oqc18) (v := .bool true) ?hiqc18 (by kernel_rfl) (by kernel_rfl) (by kernel_rfl) (fun _ _ _ h => h) ?hyqc18 hHeldxx ?restqc18
                        case hiqc18 => simp only [List.getElem?_toArray, List.getElem?_cons_zero, List.getElem?_cons_succ]; first | done | rfl
                        case hyqc18 => exact Or.inl ⟨by rfl, by intro V hV; obtain ⟨s0, s1, s2, s3, s4, s5, s6, s7, s8, s9, s10, s11, s12⟩ := hV; go_simp⟩
                        try simp only [Act.put, List.setIfInBounds_toArray, List.set_cons_zero, List.set_cons_succ]
                        refine wpAnyH_take (i := 19) (oi := ?oqc19) (v := .pointer (some ⟨F, 0, none⟩)) ?hiqc19 (by kernel_rfl) (by kernel_rfl) (by kernel_rfl) (fun _ _ _ h => h) ?hyqc19 hHeldxx ?restqc19
                        case hiqc19 => simp only [List.getElem?_toArray, List.getElem?_cons_zero, List.getElem?_cons_succ]; first | done | rfl
                        case hyqc19 => exact Or.inl ⟨by rfl, by intro V hV; obtain ⟨s0, s1, s2, s3, s4, s5, s6, s7, s8, s9, s10, s11, s12⟩ := hV; go_simp⟩
                        try simp only [Act.put, List.setIfInBounds_toArray, List.set_cons_zero, List.set_cons_succ]
                        refine wpAnyH_take (i := 20) (oi := ?oqc20) (v := .agg #[.int .i64 (W : Int), .int .i64 (H : Int), .slice p nm c]) ?hiqc20 (by kernel_rfl) (by kernel_rfl) (by kernel_rfl) (fun _ _ _ h => h) ?hyqc20 hHeldxx ?restqc20
                        case hiqc20 => simp only [List.getElem?_toArray, List.getElem?_cons_zero, List.getElem?_cons_succ]; first | done | rfl
                        case hyqc20 => exact Or.inl ⟨by rfl, by intro V hV; obtain ⟨s0, s1, s2, s3, s4, s5, s6, s7, s8, s9, s10, s11, s12⟩ := hV; go_simp⟩
                        try simp only [Act.put, List.setIfInBounds_toArray, List.set_cons_zero, List.set_cons_succ]
                        refine wpAnyH_take (i := 21) (oi := ?oqc21) (v := .pointer (some ⟨G, 3, none⟩)) ?hiqc21 (by kernel_rfl) (by kernel_rfl) (by kernel_rfl) (fun _ _ _ h => h) ?hyqc21 hHeldxx ?restqc21
                        case hiqc21 => simp only [List.getElem?_toArray, List.getElem?_cons_zero, List.getElem?_cons_succ]; first | done | rfl
                        case hyqc21 => exact Or.inl ⟨by rfl, by intro V hV; obtain ⟨s0, s1, s2, s3, s4, s5, s6, s7, s8, s9, s10, s11, s12⟩ := hV; go_simp⟩
                        try simp only [Act.put, List.setIfInBounds_toArray, List.set_cons_zero, List.set_cons_succ]
                        refine wpAnyH_take (i := 22) (oi := ?oqc22) (v := .agg #[.int .i64 tx, .int .i64 ty]) ?hiqc22 (by kernel_rfl) (by kernel_rfl) (by kernel_rfl) (fun _ _ _ h => h) ?hyqc22 hHeldxx ?restqc22
                        case hiqc22 => simp only [List.getElem?_toArray, List.getElem?_cons_zero, List.getElem?_cons_succ]; first | done | rfl
                        case hyqc22 => exact Or.inl ⟨by rfl, by intro V hV; obtain ⟨s0, s1, s2, s3, s4, s5, s6, s7, s8, s9, s10, s11, s12⟩ := hV; go_simp⟩
                        try simp only [Act.put, List.setIfInBounds_toArray, List.set_cons_zero, List.set_cons_succ]
                        refine wpAnyH_ready (rs := [23]) (by kernel_rfl) (by simp) ?_
                        refine AllReadyH.cons (o := ?oqc23) ?hiqc23 (fun K hK => ?stepqc23) AllReadyH.nil
                        case hiqc23 => simp only [List.getElem?_toArray, List.getElem?_cons_zero, List.getElem?_cons_succ]; first | done | rfl
                        go_simp
                        go_at_call 51
                        refine (HGR.out _ (And.left hHeldxx)).mono ?_
                        rintro e w5 ⟨rfl, hb5⟩
                        go_wp2_with fail
                        refine hK.out _ _ (k12_call hHeldxx hb5) (fun hHeld5 => ?_)
                        clear hK K
                        try simp only [Act.put, List.setIfInBounds_toArray, List.set_cons_zero, List.set_cons_succ]
                        cases b3 with
                        | false =>
                          refine wpAnyH_take (i := 24) (oi := ?oqcn24) (v := .bool false) ?hiqcn24 (by kernel_rfl) (by kernel_rfl) (by kernel_rfl) (fun _ _ _ h => h) ?hyqcn24 hHeld5 ?restqcn24
                          case hiqcn24 => simp only [List.getElem?_toArray, List.getElem?_cons_zero, List.getElem?_cons_succ]; first | done | rfl
                          case hyqcn24 => exact Or.inl ⟨by rfl, by intro V hV; obtain ⟨s0, s1, s2, s3, s4, s5, s6, s7, s8, s9, s10, s11, s12⟩ := hV; go_simp⟩
                          try simp only [Act.put, List.setIfInBounds_toArray, List.set_cons_zero, List.set_cons_succ]
                          refine wpAnyH_take (i := 25) (oi := ?oqcn25) (v := .bool false) ?hiqcn25 (by kernel_rfl) (by kernel_rfl) (by kernel_rfl) (fun _ _ _ h => h) ?hyqcn25 hHeld5 ?restqcn25
                          case hiqcn25 => simp only [List.getElem?_toArray, List.getElem?_cons_zero, List.getElem?_cons_succ]; first | done | rfl
                          case hyqcn25 => exact Or.inl ⟨by rfl, by intro V hV; obtain ⟨s0, s1, s2, s3, s4, s5, s6, s7, s8, s9, s10, s11, s12⟩ := hV; go_simp⟩
                          try simp only [Act.put, List.setIfInBounds_toArray, List.set_cons_zero, List.set_cons_succ]
                          refine wpAnyH_take (i := 26) (oi := ?oqcn26) (v := undef) ?hiqcn26 (by kernel_rfl) (by kernel_rfl) (by kernel_rfl) (fun _ _ _ h => h) ?hyqcn26 hHeld5 ?restqcn26
                          case hiqcn26 => simp only [List.getElem?_toArray, List.getElem?_cons_zero, List.getElem?_cons_succ]; first | done | rfl
                          case hyqcn26 => exact Or.inr ⟨by rfl, rfl⟩
                          try simp only [Act.put, List.setIfInBounds_toArray, List.set_cons_zero, List.set_cons_succ]
                          refine wpAnyH_take (i := 27) (oi := ?oqcn27) (v := undef) ?hiqcn27 (by kernel_rfl) (by kernel_rfl) (by kernel_rfl) (fun _ _ _ h => h) ?hyqcn27 hHeld5 ?restqcn27
                          case hiqcn27 => simp only [List.getElem?_toArray, List.getElem?_cons_zero, List.getElem?_cons_succ]; first | done | rfl
                          case hyqcn27 => exact Or.inr ⟨by rfl, rfl⟩
                          try simp only [Act.put, List.setIfInBounds_toArray, List.set_cons_zero, List.set_cons_succ]
                          refine wpAnyH_take (i := 28) (oi := ?oqcn28) (v := undef) ?hiqcn28 (by kernel_rfl) (by kernel_rfl) (by kernel_rfl) (fun _ _ _ h => h) ?hyqcn28 hHeld5 ?restqcn28
                          case hiqcn28 => simp only [List.getElem?_toArray, List.getElem?_cons_zero, List.getElem?_cons_succ]; first | done | rfl
                          case hyqcn28 => exact Or.inr ⟨by rfl, rfl⟩
                          try simp only [Act.put, List.setIfInBounds_toArray, List.set_cons_zero, List.set_cons_succ]
                          refine wpAnyH_take (i := 29) (oi := ?oqcn29) (v := undef) ?hiqcn29 (by kernel_rfl) (by kernel_rfl) (by kernel_rfl) (fun _ _ _ h => h) ?hyqcn29 hHeld5 ?restqcn29
                          case hiqcn29 => simp only [List.getElem?_toArray, List.getElem?_cons_zero, List.getElem?_cons_succ]; first | done | rfl
                          case hyqcn29 => exact Or.inr ⟨by rfl, rfl⟩
                          try simp only [Act.put, List.setIfInBounds_toArray, List.set_cons_zero, List.set_cons_succ]
                          refine wpAnyH_take (i := 30) (oi := ?oqcn30) (v := undef) ?hiqcn30 (by kernel_rfl) (by kernel_rfl) (by kernel_rfl) (fun _ _ _ h => h) ?hyqcn30 hHeld5 ?restqcn30
                          case hiqcn30 => simp only [List.getElem?_toArray, List.getElem?_cons_zero, List.getElem?_cons_succ]; first | done | rfl
                          case hyqcn30 => exact Or.inr ⟨by rfl, rfl⟩
                          try simp only [Act.put, List.setIfInBounds_toArray, List.set_cons_zero, List.set_cons_succ]
                          refine wpAnyH_take (i := 31) (oi := ?oqcn31) (v := undef) ?hiqcn31 (by kernel_rfl) (by kernel_rfl) (by kernel_rfl) (fun _ _ _ h => h) ?hyqcn31 hHeld5 ?restqcn31
                          case hiqcn31 => simp only [List.getElem?_toArray, List.getElem?_cons_zero, List.getElem?_cons_succ]; first | done | rfl
                          case hyqcn31 => exact Or.inr ⟨by rfl, rfl⟩
                          try simp only [Act.put, List.setIfInBounds_toArray, List.set_cons_zero, List.set_cons_succ]
                          refine wpAnyH_take (i := 32) (oi := ?oqcn32) (v := undef) ?hiqcn32 (by kernel_rfl) (by kernel_rfl) (by kernel_rfl) (fun _ _ _ h => h) ?hyqcn32 hHeld5 ?restqcn32
                          case hiqcn32 => simp only [List.getElem?_toArray, List.getElem?_cons_zero, List.getElem?_cons_succ]; first | done | rfl
                          case hyqcn32 => exact Or.inr ⟨by rfl, rfl⟩
                          try simp only [Act.put, List.setIfInBounds_toArray, List.set_cons_zero, List.set_cons_succ]
                          refine wpAnyH_take (i := 33) (oi := ?oqcn33) (v := .bool false) ?hiqcn33 (by kernel_rfl) (by kernel_rfl) (by kernel_rfl) (fun _ _ _ h => h) ?hyqcn33 hHeld5 ?restqcn33
                          case hiqcn33 => simp only [List.getElem?_toArray, List.getElem?_cons_zero, List.getElem?_cons_succ]; first | done | rfl
                          case hyqcn33 => exact Or.inl ⟨by rfl, by intro V hV; obtain ⟨s0, s1, s2, s3, s4, s5, s6, s7, s8, s9, s10, s11, s12⟩ := hV; go_simp⟩
                          try simp only [Act.put, List.setIfInBounds_toArray, List.set_cons_zero, List.set_cons_succ]
                          refine wpAnyH_take (i := 34) (oi := ?oqcn34) (v := .bool false) ?hiqcn34 (by kernel_rfl) (by kernel_rfl) (by kernel_rfl) (fun _ _ _ h => h) ?hyqcn34 hHeld5 ?restqcn34
                          case hiqcn34 => simp only [List.getElem?_toArray, List.getElem?_cons_zero, List.getElem?_cons_succ]; first | done | rfl
                          case hyqcn34 => exact Or.inl ⟨by rfl, by intro V hV; obtain ⟨s0, s1, s2, s3, s4, s5, s6, s7, s8, s9, s10, s11, s12⟩ := hV; go_simp⟩
                          try simp only [Act.put, List.setIfInBounds_toArray, List.set_cons_zero, List.set_cons_succ]
                          refine wpAnyH_take (i := 35) (oi := ?oqcn35) (v := undef) ?hiqcn35 (by kernel_rfl) (by kernel_rfl) (by kernel_rfl) (fun _ _ _ h => h) ?hyqcn35 hHeld5 ?restqcn35
                          case hiqcn35 => simp only [List.getElem?_toArray, List.getElem?_cons_zero, List.getElem?_cons_succ]; first | done | rfl
                          case hyqcn35 => exact Or.inr ⟨by rfl, rfl⟩
                          try simp only [Act.put, List.setIfInBounds_toArray, List.set_cons_zero, List.set_cons_succ]
                          refine wpAnyH_take (i := 36) (oi := ?oqcn36) (v := undef) ?hiqcn36 (by kernel_rfl) (by kernel_rfl) (by kernel_rfl) (fun _ _ _ h => h) ?hyqcn36 hHeld5 ?restqcn36
                          case hiqcn36 => simp only [List.getElem?_toArray, List.getElem?_cons_zero, List.getElem?_cons_succ]; first | done | rfl
                          case hyqcn36 => exact Or.inr ⟨by rfl, rfl⟩
                          try simp only [Act.put, List.setIfInBounds_toArray, List.set_cons_zero, List.set_cons_succ]
                          refine wpAnyH_take (i := 37) (oi := ?oqcn37) (v := undef) ?hiqcn37 (by kernel_rfl) (by kernel_rfl) (by kernel_rfl) (fun _ _ _ h => h) ?hyqcn37 hHeld5 ?restqcn37
                          case hiqcn37 => simp only [List.getElem?_toArray, List.getElem?_cons_zero, List.getElem?_cons_succ]; first | done | rfl
                          case hyqcn37 => exact Or.inr ⟨by rfl, rfl⟩
                          try simp only [Act.put, List.setIfInBounds_toArray, List.set_cons_zero, List.set_cons_succ]
                          refine wpAnyH_take (i := 38) (oi := ?oqcn38) (v := undef) ?hiqcn38 (by kernel_rfl) (by kernel_rfl) (by kernel_rfl) (fun _ _ _ h => h) ?hyqcn38 hHeld5 ?restqcn38
                          case hiqcn38 => simp only [List.getElem?_toArray, List.getElem?_cons_zero, List.getElem?_cons_succ]; first | done | rfl
                          case hyqcn38 => exact Or.inr ⟨by rfl, rfl⟩
                          try simp only [Act.put, List.setIfInBounds_toArray, List.set_cons_zero, List.set_cons_succ]
                          refine wpAnyH_take (i := 39) (oi := ?oqcn39) (v := undef) ?hiqcn39 (by kernel_rfl) (by kernel_rfl) (by kernel_rfl) (fun _ _ _ h => h) ?hyqcn39 hHeld5 ?restqcn39
                          case hiqcn39 => simp only [List.getElem?_toArray, List.getElem?_cons_zero, List.getElem?_cons_succ]; first | done | rfl
                          case hyqcn39 => exact Or.inr ⟨by rfl, rfl⟩
                          try simp only [Act.put, List.setIfInBounds_toArray, List.set_cons_zero, List.set_cons_succ]
                          refine wpAnyH_take (i := 40) (oi := ?oqcn40) (v := undef) ?hiqcn40 (by kernel_rfl) (by kernel_rfl) (by kernel_rfl) (fun _ _ _ h => h) ?hyqcn40 hHeld5 ?restqcn40
                          case hiqcn40 => simp only [List.getElem?_toArray, List.getElem?_cons_zero, List.getElem?_cons_succ]; first | done | rfl
                          case hyqcn40 => exact Or.inr ⟨by rfl, rfl⟩
                          try simp only [Act.put, List.setIfInBounds_toArray, List.set_cons_zero, List.set_cons_succ]
                          refine wpAnyH_take (i := 41) (oi := ?oqcn41) (v := undef) ?hiqcn41 (by kernel_rfl) (by kernel_rfl) (by kernel_rfl) (fun _ _ _ h => h) ?hyqcn41 hHeld5 ?restqcn41
                          case hiqcn41 => simp only [List.getElem?_toArray, List.getElem?_cons_zero, List.getElem?_cons_succ]; first | done | rfl
                          case hyqcn41 => exact Or.inr ⟨by rfl, rfl⟩
                          try simp only [Act.put, List.setIfInBounds_toArray, List.set_cons_zero, List.set_cons_succ]
                          refine wpAnyH_take (i := 42) (oi := ?oqcn42) (v := .bool false) ?hiqcn42 (by kernel_rfl) (by kernel_rfl) (by kernel_rfl) (fun _ _ _ h => h) ?hyqcn42 hHeld5 ?restqcn42
                          case hiqcn42 => simp only [List.getElem?_toArray, List.getElem?_cons_zero, List.getElem?_cons_succ]; first | done | rfl
                          case hyqcn42 => exact Or.inl ⟨by rfl, by intro V hV; obtain ⟨s0, s1, s2, s3, s4, s5, s6, s7, s8, s9, s10, s11, s12⟩ := hV; go_simp⟩
                          try simp only [Act.put, List.setIfInBounds_toArray, List.set_cons_zero, List.set_cons_succ]
                          refine wpAnyH_take (i := 43) (oi := ?oqcn43) (v := .bool false) ?hiqcn43 (by kernel_rfl) (by kernel_rfl) (by kernel_rfl) (fun _ _ _ h => h) ?hyqcn43 hHeld5 ?restqcn43
                          case hiqcn43 => simp only [List.getElem?_toArray, List.getElem?_cons_zero, List.getElem?_cons_succ]; first | done | rfl
                          case hyqcn43 => exact Or.inl ⟨by rfl, by intro V hV; obtain ⟨s0, s1, s2, s3, s4, s5, s6, s7, s8, s9, s10, s11, s12⟩ := hV; go_simp⟩
                          try simp only [Act.put, List.setIfInBounds_toArray, List.set_cons_zero, List.set_cons_succ]
                          refine wpAnyH_done (by kernel_rfl) ?_ _
                          refine NoPanic.normal ?_
                          exact ⟨by kernel_rfl, false, by kernel_rfl, by rw [HF2.out]; simp, hHeld5.1⟩
                        | true =>
                          refine wpAnyH_take (i := 24) (oi := ?oqd24) (v := .bool true) ?hiqd24 (by kernel_rfl) (by kernel_rfl) (by kernel_rfl) (fun _ _ _ h => h) ?hyqd24 hHeld5 ?restqd24
                          case hiqd24 => simp only [List.getElem?_toArray, List.getElem?_cons_zero, List.getElem?_cons_succ]; first | done | rfl
                          case hyqd24 => exact Or.inl ⟨by rfl, by intro V hV; obtain ⟨s0, s1, s2, s3, s4, s5, s6, s7, s8, s9, s10, s11, s12⟩ := hV; go_simp⟩
                          try simp only [Act.put, List.setIfInBounds_toArray, List.set_cons_zero, List.set_cons_succ]
                          refine wpAnyH_take (i := 25) (oi := ?oqd25) (v := .bool true) ?hiqd25 (by kernel_rfl) (by kernel_rfl) (by kernel_rfl) (fun _ _ _ h => h) ?hyqd25 hHeld5 ?restqd25
                          case hiqd25 => simp only [List.getElem?_toArray, List.getElem?_cons_zero, List.getElem?_cons_succ]; first | done | rfl
                          case hyqd25 => exact Or.inl ⟨by rfl, by intro V hV; obtain ⟨s0, s1, s2, s3, s4, s5, s6, s7, s8, s9, s10, s11, s12⟩ := hV; go_simp⟩
                          try simp only [Act.put, List.setIfInBounds_toArray, List.set_cons_zero, List.set_cons_succ]
                          refine wpAnyH_take (i := 26) (oi := ?oqd26) (v := .pointer (some ⟨G, 5, none⟩)) ?hiqd26 (by kernel_rfl) (by kernel_rfl) (by kernel_rfl) (fun _ _ _ h => h) ?hyqd26 hHeld5 ?restqd26
                          case hiqd26 => simp only [List.getElem?_toArray, List.getElem?_cons_zero, List.getElem?_cons_succ]; first | done | rfl
                          case hyqd26 => exact Or.inl ⟨by rfl, by intro V hV; obtain ⟨s0, s1, s2, s3, s4, s5, s6, s7, s8, s9, s10, s11, s12⟩ := hV; go_simp⟩
                          try simp only [Act.put, List.setIfInBounds_toArray, List.set_cons_zero, List.set_cons_succ]
                          refine wpAnyH_take (i := 27) (oi := ?oqd27) (v := .int .i64 tf) ?hiqd27 (by kernel_rfl) (by kernel_rfl) (by kernel_rfl) (fun _ _ _ h => h) ?hyqd27 hHeld5 ?restqd27
                          case hiqd27 => simp only [List.getElem?_toArray, List.getElem?_cons_zero, List.getElem?_cons_succ]; first | done | rfl
                          case hyqd27 => exact Or.inl ⟨by rfl, by intro V hV; obtain ⟨s0, s1, s2, s3, s4, s5, s6, s7, s8, s9, s10, s11, s12⟩ := hV; go_simp⟩
                          try simp only [Act.put, List.setIfInBounds_toArray, List.set_cons_zero, List.set_cons_succ]
                          refine wpAnyH_take (i := 28) (oi := ?oqd28) (v := .pointer (some ⟨G, 2, none⟩)) ?hiqd28 (by kernel_rfl) (by kernel_rfl) (by kernel_rfl) (fun _ _ _ h => h) ?hyqd28 hHeld5 ?restqd28
                          case hiqd28 => simp only [List.getElem?_toArray, List.getElem?_cons_zero, List.getElem?_cons_succ]; first | done | rfl
                          case hyqd28 => exact Or.inl ⟨by rfl, by intro V hV; obtain ⟨s0, s1, s2, s3, s4, s5, s6, s7, s8, s9, s10, s11, s12⟩ := hV; go_simp⟩
                          try simp only [Act.put, List.setIfInBounds_toArray, List.set_cons_zero, List.set_cons_succ]
                          refine wpAnyH_take (i := 29) (oi := ?oqd29) (v := .int .i64 tk) ?hiqd29 (by kernel_rfl) (by kernel_rfl) (by kernel_rfl) (fun _ _ _ h => h) ?hyqd29 hHeld5 ?restqd29
                          case hiqd29 => simp only [List.getElem?_toArray, List.getElem?_cons_zero, List.getElem?_cons_succ]; first | done | rfl
                          case hyqd29 => exact Or.inl ⟨by rfl, by intro V hV; obtain ⟨s0, s1, s2, s3, s4, s5, s6, s7, s8, s9, s10, s11, s12⟩ := hV; go_simp⟩
                          try simp only [Act.put, List.setIfInBounds_toArray, List.set_cons_zero, List.set_cons_succ]
                          refine wpAnyH_ready (rs := [30]) (by kernel_rfl) (by simp) ?_
                          refine AllReadyH.cons (o := ?oqd30) ?hiqd30 (fun K hK => ?stepqd30) AllReadyH.nil
                          case hiqd30 => simp only [List.getElem?_toArray, List.getElem?_cons_zero, List.getElem?_cons_succ]; first | done | rfl
                          go_simp
                          go_at_call 52
                          refine (HKO.out _).mono ?_
                          rintro e w7 ⟨rfl, hb7⟩
                          go_wp2_with fail
                          refine hK.out _ _ (k12_call hHeld5 hb7) (fun hHeld7 => ?_)
                          clear hK K
                          try simp only [Act.put, List.setIfInBounds_toArray, List.set_cons_zero, List.set_cons_succ]
                          refine wpAnyH_take (i := 31) (oi := ?oqd31) (v := .int .i64 L) ?hiqd31 (by kernel_rfl) (by kernel_rfl) (by kernel_rfl) (fun _ _ _ h => h) ?hyqd31 hHeld7 ?restqd31
                          case hiqd31 => simp only [List.getElem?_toArray, List.getElem?_cons_zero, List.getElem?_cons_succ]; first | done | rfl
                          case hyqd31 => exact Or.inl ⟨by rfl, by intro V hV; obtain ⟨s0, s1, s2, s3, s4, s5, s6, s7, s8, s9, s10, s11, s12⟩ := hV; go_simp⟩
                          try simp only [Act.put, List.setIfInBounds_toArray, List.set_cons_zero, List.set_cons_succ]
                          refine wpAnyH_ready (rs := [32]) (by kernel_rfl) (by simp) ?_
                          refine AllReadyH.cons (o := ?oqd32) ?hiqd32 (fun K hK => ?stepqd32) AllReadyH.nil
                          case hiqd32 => simp only [List.getElem?_toArray, List.getElem?_cons_zero, List.getElem?_cons_succ]; first | done | rfl
                          go_simp
                          go_at_call 46
                          refine (Between_at tf 1 L b4 _ HB4_).mono ?_
                          rintro e w' ⟨rfl, hw⟩; subst w'
                          go_wp2_with fail
                          refine hK.out _ _ hHeld7 (fun hHeld7x => ?_)
                          clear hK K
                          try simp only [Act.put, List.setIfInBounds_toArray, List.set_cons_zero, List.set_cons_succ]
                          cases b4 with
                          | false =>
                            refine wpAnyH_take (i := 33) (oi := ?oqdn33) (v := .bool false) ?hiqdn33 (by kernel_rfl) (by kernel_rfl) (by kernel_rfl) (fun _ _ _ h => h) ?hyqdn33 hHeld7x ?restqdn33
                            case hiqdn33 => simp only [List.getElem?_toArray, List.getElem?_cons_zero, List.getElem?_cons_succ]; first | done | rfl
                            case hyqdn33 => exact Or.inl ⟨by rfl, by intro V hV; obtain ⟨s0, s1, s2, s3, s4, s5, s6, s7, s8, s9, s10, s11, s12⟩ := hV; go_simp⟩
                            try simp only [Act.put, List.setIfInBounds_toArray, List.set_cons_zero, List.set_cons_succ]
                            refine wpAnyH_take (i := 34) (oi := ?oqdn34) (v := .bool false) ?hiqdn34 (by kernel_rfl) (by kernel_rfl) (by kernel_rfl) (fun _ _ _ h => h) ?hyqdn34 hHeld7x ?restqdn34
                            case hiqdn34 => simp only [List.getElem?_toArray, List.getElem?_cons_zero, List.getElem?_cons_succ]; first | done | rfl
                            case hyqdn34 => exact Or.inl ⟨by rfl, by intro V hV; obtain ⟨s0, s1, s2, s3, s4, s5, s6, s7, s8, s9, s10, s11, s12⟩ := hV; go_simp⟩
                            try simp only [Act.put, List.setIfInBounds_toArray, List.set_cons_zero, List.set_cons_succ]
                            refine wpAnyH_take (i := 35) (oi := ?oqdn35) (v := undef) ?hiqdn35 (by kernel_rfl) (by kernel_rfl) (by kernel_rfl) (fun _ _ _ h => h) ?hyqdn35 hHeld7x ?restqdn35
                            case hiqdn35 => simp only [List.getElem?_toArray, List.getElem?_cons_zero, List.getElem?_cons_succ]; first | done | rfl
                            case hyqdn35 => exact Or.inr ⟨by rfl, rfl⟩
                            try simp only [Act.put, List.setIfInBounds_toArray, List.set_cons_zero, List.set_cons_succ]
                            refine wpAnyH_take (i := 36) (oi := ?oqdn36) (v := undef) ?hiqdn36 (by kernel_rfl) (by kernel_rfl) (by kernel_rfl) (fun _ _ _ h => h) ?hyqdn36 hHeld7x ?restqdn36
                            case hiqdn36 => simp only [List.getElem?_toArray, List.getElem?_cons_zero, List.getElem?_cons_succ]; first | done | rfl
                            case hyqdn36 => exact Or.inr ⟨by rfl, rfl⟩
                            try simp only [Act.put, List.setIfInBounds_toArray, List.set_cons_zero, List.set_cons_succ]
                            refine wpAnyH_take (i := 37) (oi := ?oqdn37) (v := undef) ?hiqdn37 (by kernel_rfl) (by kernel_rfl) (by kernel_rfl) (fun _ _ _ h => h) ?hyqdn37 hHeld7x ?restqdn37
                            case hiqdn37 => simp only [List.getElem?_toArray, List.getElem?_cons_zero, List.getElem?_cons_succ]; first | done | rfl
                            case hyqdn37 => exact Or.inr ⟨by rfl, rfl⟩
                            try simp only [Act.put, List.setIfInBounds_toArray, List.set_cons_zero, List.set_cons_succ]
                            refine wpAnyH_take (i := 38) (oi := ?oqdn38) (v := undef) ?hiqdn38 (by kernel_rfl) (by kernel_rfl) (by kernel_rfl) (fun _ _ _ h => h) ?hyqdn38 hHeld7x ?restqdn38
                            case hiqdn38 => simp only [List.getElem?_toArray, List.getElem?_cons_zero, List.getElem?_cons_succ]; first | done | rfl
                            case hyqdn38 => exact Or.inr ⟨by rfl, rfl⟩
                            try simp only [Act.put, List.setIfInBounds_toArray, List.set_cons_zero, List.set_cons_succ]
                            refine wpAnyH_take (i := 39) (oi := ?oqdn39) (v := undef) ?hiqdn39 (by kernel_rfl) (by kernel_rfl) (by kernel_rfl) (fun _ _ _ h => h) ?hyqdn39 hHeld7x ?restqdn39
                            case hiqdn39 => simp only [List.getElem?_toArray, List.getElem?_cons_zero, List.getElem?_cons_succ]; first | done | rfl
                            case hyqdn39 => exact Or.inr ⟨by rfl, rfl⟩
                            try simp only [Act.put, List.setIfInBounds_toArray, List.set_cons_zero, List.set_cons_succ]
                            refine wpAnyH_take (i := 40) (oi := ?oqdn40) (v := undef) ?hiqdn40 (by kernel_rfl) (by kernel_rfl) (by kernel_rfl) (fun _ _ _ h => h) ?hyqdn40 hHeld7x ?restqdn40
                            case hiqdn40 => simp only [List.getElem?_toArray, List.getElem?_cons_zero, List.getElem?_cons_succ]; first | done | rfl
                            case hyqdn40 => exact Or.inr ⟨by rfl, rfl⟩
                            try simp only [Act.put, List.setIfInBounds_toArray, List.set_cons_zero, List.set_cons_succ]
                            refine wpAnyH_take (i := 41) (oi := ?oqdn41) (v := undef) ?hiqdn41 (by kernel_rfl) (by kernel_rfl) (by kernel_rfl) (fun _ _ _ h => h) ?hyqdn41 hHeld7x ?restqdn41
                            case hiqdn41 => simp only [List.getElem?_toArray, List.getElem?_cons_zero, List.getElem?_cons_succ]; first | done | rfl
                            case hyqdn41 => exact Or.inr ⟨by rfl, rfl⟩
                            try simp only [Act.put, List.setIfInBounds_toArray, List.set_cons_zero, List.set_cons_succ]
                            refine wpAnyH_take (i := 42) (oi := ?oqdn42) (v := .bool false) ?hiqdn42 (by kernel_rfl) (by kernel_rfl) (by kernel_rfl) (fun _ _ _ h => h) ?hyqdn42 hHeld7x ?restqdn42
                            case hiqdn42 => simp only [List.getElem?_toArray, List.getElem?_cons_zero, List.getElem?_cons_succ]; first | done | rfl
                            case hyqdn42 => exact Or.inl ⟨by rfl, by intro V hV; obtain ⟨s0, s1, s2, s3, s4, s5, s6, s7, s8, s9, s10, s11, s12⟩ := hV; go_simp⟩
                            try simp only [Act.put, List.setIfInBounds_toArray, List.set_cons_zero, List.set_cons_succ]
                            refine wpAnyH_take (i := 43) (oi := ?oqdn43) (v := .bool false) ?hiqdn43 (by kernel_rfl) (by kernel_rfl) (by kernel_rfl) (fun _ _ _ h => h) ?hyqdn43 hHeld7x ?restqdn43
                            case hiqdn43 => simp only [List.getElem?_toArray, List.getElem?_cons_zero, List.getElem?_cons_succ]; first | done | rfl
                            case hyqdn43 => exact Or.inl ⟨by rfl, by intro V hV; obtain ⟨s0, s1, s2, s3, s4, s5, s6, s7, s8, s9, s10, s11, s12⟩ := hV; go_simp⟩
                            try simp only [Act.put, List.setIfInBounds_toArray, List.set_cons_zero, List.set_cons_succ]
                            refine wpAnyH_done (by kernel_rfl) ?_ _
                            refine NoPanic.normal ?_
                            exact ⟨by kernel_rfl, false, by kernel_rfl, by rw [HF2.out]; simp, hHeld7x.1⟩
                          | true =>
                            refine wpAnyH_take (i := 33) (oi := ?oqe33) (v := .bool true) ?hiqe33 (by kernel_rfl) (by kernel_rfl) (by kernel_rfl) (fun _ _ _ h => h) ?hyqe33 hHeld7x ?restqe33
                            case hiqe33 => simp only [List.getElem?_toArray, List.getElem?_cons_zero, List.getElem?_cons_succ]; first | done | rfl
                            case hyqe33 => exact Or.inl ⟨by rfl, by intro V hV; obtain ⟨s0, s1, s2, s3, s4, s5, s6, s7, s8, s9, s10, s11, s12⟩ := hV; go_simp⟩
                            try simp only [Act.put, List.setIfInBounds_toArray, List.set_cons_zero, List.set_cons_succ]
                            refine wpAnyH_take (i := 34) (oi := ?oqe34) (v := .bool true) ?hiqe34 (by kernel_rfl) (by kernel_rfl) (by kernel_rfl) (fun _ _ _ h => h) ?hyqe34 hHeld7x ?restqe34
                            case hiqe34 => simp only [List.getElem?_toArray, List.getElem?_cons_zero, List.getElem?_cons_succ]; first | done | rfl
                            case hyqe34 => exact Or.inl ⟨by rfl, by intro V hV; obtain ⟨s0, s1, s2, s3, s4, s5, s6, s7, s8, s9, s10, s11, s12⟩ := hV; go_simp⟩
                            try simp only [Act.put, List.setIfInBounds_toArray, List.set_cons_zero, List.set_cons_succ]
                            refine wpAnyH_take (i := 35) (oi := ?oqe35) (v := .pointer (some ⟨G, 6, none⟩)) ?hiqe35 (by kernel_rfl) (by kernel_rfl) (by kernel_rfl) (fun _ _ _ h => h) ?hyqe35 hHeld7x ?restqe35
                            case hiqe35 => simp only [List.getElem?_toArray, List.getElem?_cons_zero, List.getElem?_cons_succ]; first | done | rfl
                            case hyqe35 => exact Or.inl ⟨by rfl, by intro V hV; obtain ⟨s0, s1, s2, s3, s4, s5, s6, s7, s8, s9, s10, s11, s12⟩ := hV; go_simp⟩
                            try simp only [Act.put, List.setIfInBounds_toArray, List.set_cons_zero, List.set_cons_succ]
                            refine wpAnyH_take (i := 36) (oi := ?oqe36) (v := .int .i64 td) ?hiqe36 (by kernel_rfl) (by kernel_rfl) (by kernel_rfl) (fun _ _ _ h => h) ?hyqe36 hHeld7x ?restqe36
                            case hiqe36 => simp only [List.getElem?_toArray, List.getElem?_cons_zero, List.getElem?_cons_succ]; first | done | rfl
                            case hyqe36 => exact Or.inl ⟨by rfl, by intro V hV; obtain ⟨s0, s1, s2, s3, s4, s5, s6, s7, s8, s9, s10, s11, s12⟩ := hV; go_simp⟩
                            try simp only [Act.put, List.setIfInBounds_toArray, List.set_cons_zero, List.set_cons_succ]
                            refine wpAnyH_take (i := 37) (oi := ?oqe37) (v := .pointer (some ⟨G, 2, none⟩)) ?hiqe37 (by kernel_rfl) (by kernel_rfl) (by kernel_rfl) (fun _ _ _ h => h) ?hyqe37 hHeld7x ?restqe37
                            case hiqe37 => simp only [List.getElem?_toArray, List.getElem?_cons_zero, List.getElem?_cons_succ]; first | done | rfl
                            case hyqe37 => exact Or.inl ⟨by rfl, by intro V hV; obtain ⟨s0, s1, s2, s3, s4, s5, s6, s7, s8, s9, s10, s11, s12⟩ := hV; go_simp⟩
                            try simp only [Act.put, List.setIfInBounds_toArray, List.set_cons_zero, List.set_cons_succ]
                            refine wpAnyH_take (i := 38) (oi := ?oqe38) (v := .int .i64 tk) ?hiqe38 (by kernel_rfl) (by kernel_rfl) (by kernel_rfl) (fun _ _ _ h => h) ?hyqe38 hHeld7x ?restqe38
                            case hiqe38 => simp only [List.getElem?_toArray, List.getElem?_cons_zero, List.getElem?_cons_succ]; first | done | rfl
                            case hyqe38 => exact Or.inl ⟨by rfl, by intro V hV; obtain ⟨s0, s1, s2, s3, s4, s5, s6, s7, s8, s9, s10, s11, s12⟩ := hV; go_simp⟩
                            try simp only [Act.put, List.setIfInBounds_toArray, List.set_cons_zero, List.set_cons_succ]
                            refine wpAnyH_take (i := 39) (oi := ?oqe39) (v := .int .i64 (2 - tk)) ?hiqe39 (by kernel_rfl) (by kernel_rfl) (by kernel_rfl) (fun _ _ _ h => h) ?hyqe39 hHeld7x ?restqe39
                            case hiqe39 => simp only [List.getElem?_toArray, List.getElem?_cons_zero, List.getElem?_cons_succ]; first | done | rfl
                            case hyqe39 => exact Or.inl ⟨by rfl, by intro V hV; obtain ⟨s0, s1, s2, s3, s4, s5, s6, s7, s8, s9, s10, s11, s12⟩ := hV; go_simp⟩
                            try simp only [Act.put, List.setIfInBounds_toArray, List.set_cons_zero, List.set_cons_succ]
                            refine wpAnyH_take (i := 40) (oi := ?oqe40) (v := .int .i64 (5 * (2 - tk))) ?hiqe40 (by kernel_rfl) (by kernel_rfl) (by kernel_rfl) (fun _ _ _ h => h) ?hyqe40 hHeld7x ?restqe40
                            case hiqe40 => simp only [List.getElem?_toArray, List.getElem?_cons_zero, List.getElem?_cons_succ]; first | done | rfl
                            case hyqe40 => exact Or.inl ⟨by rfl, by intro V hV; obtain ⟨s0, s1, s2, s3, s4, s5, s6, s7, s8, s9, s10, s11, s12⟩ := hV; go_simp⟩
                            try simp only [Act.put, List.setIfInBounds_toArray, List.set_cons_zero, List.set_cons_succ]
                            refine wpAnyH_ready (rs := [41]) (by kernel_rfl) (by simp) ?_
                            refine AllReadyH.cons (o := ?oqe41) ?hiqe41 (fun K hK => ?stepqe41) AllReadyH.nil
                            case hiqe41 => simp only [List.getElem?_toArray, List.getElem?_cons_zero, List.getElem?_cons_succ]; first | done | rfl
                            go_simp
                            go_at_call 46
                            refine (Between_at td 0 (5 * (2 - tk)) b5 _ HB5_).mono ?_
                            rintro e w' ⟨rfl, hw⟩; subst w'
                            go_wp2_with fail
                            refine hK.out _ _ hHeld7x (fun hHeld7xx => ?_)
                            clear hK K
                            try simp only [Act.put, List.setIfInBounds_toArray, List.set_cons_zero, List.set_cons_succ]
                            refine wpAnyH_take (i := 42) (oi := ?oqe42) (v := .bool b5) ?hiqe42 (by kernel_rfl) (by kernel_rfl) (by kernel_rfl) (fun _ _ _ h => h) ?hyqe42 hHeld7xx ?restqe42
                            case hiqe42 => simp only [List.getElem?_toArray, List.getElem?_cons_zero, List.getElem?_cons_succ]; first | done | rfl
                            case hyqe42 => exact Or.inl ⟨by rfl, by intro V hV; obtain ⟨s0, s1, s2, s3, s4, s5, s6, s7, s8, s9, s10, s11, s12⟩ := hV; go_simp⟩
                            try simp only [Act.put, List.setIfInBounds_toArray, List.set_cons_zero, List.set_cons_succ]
                            refine wpAnyH_take (i := 43) (oi := ?oqe43) (v := .bool b5) ?hiqe43 (by kernel_rfl) (by kernel_rfl) (by kernel_rfl) (fun _ _ _ h => h) ?hyqe43 hHeld7xx ?restqe43
                            case hiqe43 => simp only [List.getElem?_toArray, List.getElem?_cons_zero, List.getElem?_cons_succ]; first | done | rfl
                            case hyqe43 => exact Or.inl ⟨by rfl, by intro V hV; obtain ⟨s0, s1, s2, s3, s4, s5, s6, s7, s8, s9, s10, s11, s12⟩ := hV; go_simp⟩
                            try simp only [Act.put, List.setIfInBounds_toArray, List.set_cons_zero, List.set_cons_succ]
                            refine wpAnyH_done (by kernel_rfl) ?_ _
                            refine NoPanic.normal ?_
                            exact ⟨by kernel_rfl, b5, by kernel_rfl, by rw [HF2.out]; simp, hHeld7xx.1⟩
                case rest2 =>
                  rintro u w8 ⟨b8, hu8, hv8, hb8⟩
                  have HV8 : Hid (b8 = true ↔ F1) := hv8
                  have HB6 : Hid (Below w4.heap.size w4 w8) := hb8
                  have HB8 : Hid (Below w0.heap.size w0 w8) := below_up HB4.out hb8
                  simp only [setAll, List.foldl, Act.put, List.setIfInBounds_toArray, List.set_cons_zero, List.set_cons_succ, hu8]
                  clear hu8 hv8 hb8 t0 t1 t2 t3 t4 t5 t6 t7 t8 g0 g1 g2 g3 g4 g5 g6
                  obtain ⟨t0, t1, t2, t3, t4, t5, t6, t7, t8⟩ := HBX.out w8 HB8.out
                  have l3 : (k : Int) ≤ ct := by omega
                  go_wp2_with fail
                  clear t0 t1 t2 t3 t4 t5 t6 t7 t8
                  go_loopw [4, 190] (fun f i wr => ∃ (j : Nat) (fb : Bool), i = .int .i64 (j : Int) ∧ j ≤ k ∧ f = .bool fb ∧ Hid (Below w4.heap.size w4 wr ∧ (fb = true ↔ F1 ∧ ∀ i (h : i < lt.length), i < j → lt[i].i < lt[k].i ∧ lt[i].c ≠ lt[k].c))) (fun _ i _ => k - (intOf i).toNat)
                  case atStart =>
                    exact ⟨0, b8, rfl, by omega, rfl, HB6.out, by rw [HV8.out]; exact ⟨fun h => ⟨h, fun i _ hi => by omega⟩, fun h => h.1⟩⟩
                  case round =>
                    obtain ⟨j, f3, rfl, hj, rfl, HS2⟩ := hrel
                    by_cases hjk : j < k
                    · have hjl : j < lt.length := by omega
                      obtain ⟨a2, ea, hc⟩ := trow_at (trow_below HRT.out (below_up HB4.out HS2.out.1)) hjl
                      cases ea
                      obtain ⟨u, hu⟩ : ∃ u, lt[j] = u := ⟨_, rfl⟩
                      have HU : Hid (lt[j] = u) := hu
                      rw [hu] at hc
                      clear hu
                      obtain ⟨oi, oo, ok, ox, oy, of_, od⟩ := u
                      obtain ⟨c0, c1, c2, c3, c4, c5, c6⟩ := hc
                      simp only at c0 c1 c2 c3 c4 c5 c6
                      obtain ⟨w10, hw10⟩ : ∃ w10, wr.alloc (.cells #[.int .i64 oi, .int .i64 oo, .int .i64 ok, .int .i64 ox, .int .i64 oy, .int .i64 of_, .int .i64 od] 71) = w10 := ⟨_, rfl⟩
                      obtain ⟨G2, hG2⟩ : ∃ G, wr.heap.size = G := ⟨_, rfl⟩
                      obtain ⟨v0, v1, v2, v3, v4, v5, v6⟩ := boxt hG2 hw10 (Below.refl _ _)
                      have hb10 : Below w4.heap.size w4 w10 := by rw [← hw10]; exact HS2.out.1.alloc HS2.out.1.size _
                      have HB10 : Hid (Below w4.heap.size w4 w10) := hb10
                      obtain ⟨g0, g1, g2, g3, g4, g5, g6⟩ := HBT.out w10 hb10
                      have HSTEP : Hid (∀ f2 : Bool, (f2 = true ↔ f3 = true ∧ oi < ti ∧ ¬ (ox = tx ∧ oy = ty)) → (f2 = true ↔ F1 ∧ ∀ i (h : i < lt.length), i < j + 1 → lt[i].i < lt[k].i ∧ lt[i].c ≠ lt[k].c)) := fun f2 h2 => by
                        rw [h2, HS2.out.2]
                        constructor
                        · rintro ⟨⟨h3, h4⟩, h5, h6⟩
                          refine ⟨h3, fun i hi hij => ?_⟩
                          by_cases e : i = j
                          · subst e; rw [HU.out, HT.out]; exact ⟨h5, fun e => by injection e with e1 e2; exact h6 ⟨e1, e2⟩⟩
                          · exact h4 i hi (by omega)
                        · rintro ⟨h3, h4⟩
                          have h5 := h4 j hjl (by omega)
                          rw [HU.out, HT.out] at h5
                          exact ⟨⟨h3, fun i hi hij => h4 i hi (by omega)⟩, h5.1, fun h6 => h5.2 (by show (⟨ox, oy⟩ : Cel) = ⟨tx, ty⟩; rw [h6.1, h6.2])⟩
                      have j1 : (j : Int) < k := by omega
                      have j2 : (0 : Int) ≤ j := by omega
                      clear hb10
                      cases f3 with
                      | false =>
                        go_wp2_with fail
                        go_roundw
                        case rel => exact ⟨j + 1, false, by go_num, by omega, rfl, HB10.out, HSTEP.out false (by simp)⟩
                        case measure => simp [intOf]; omega
                      | true =>
                        by_cases ho : oi < ti
                        rotate_left
                        · have ho2 : ti ≤ oi := by omega
                          have HSN : Hid (false = true ↔ F1 ∧ ∀ i (h : i < lt.length), i < j + 1 → lt[i].i < lt[k].i ∧ lt[i].c ≠ lt[k].c) := HSTEP.out false (by simp; omega)
                          go_wp2_with fail
                          go_roundw
                          case rel => exact ⟨j + 1, false, by go_num, by omega, rfl, HB10.out, HSN.out⟩
                          case measure => simp [intOf]; omega
                        · by_cases hx : ox = tx
                          · subst hx
                            have m1 : (ox == ox) = true := by simp
                            by_cases hy : oy = ty
                            · subst hy
                              have m2 : (oy == oy) = true := by simp
                              go_wp2_with fail
                              go_roundw
                              case rel => exact ⟨j + 1, false, by go_num, by omega, rfl, HB10.out, HSTEP.out false (by simp)⟩
                              case measure => simp [intOf]; omega
                            · have m2 : (oy == ty) = false := by simp [hy]
                              have m3 : decide (oy = ty) = false := by simp [hy]
                              have HSN : Hid (true = true ↔ F1 ∧ ∀ i (h : i < lt.length), i < j + 1 → lt[i].i < lt[k].i ∧ lt[i].c ≠ lt[k].c) := HSTEP.out true (by simp [hy]; omega)
                              go_wp2_with fail
                              go_roundw
                              case rel => exact ⟨j + 1, true, by go_num, by omega, rfl, HB10.out, HSN.out⟩
                              case measure => simp [intOf]; omega
                          · have m1 : (ox == tx) = false := by simp [hx]
                            have m3 : decide (ox = tx) = false := by simp [hx]
                            have HSN : Hid (true = true ↔ F1 ∧ ∀ i (h : i < lt.length), i < j + 1 → lt[i].i < lt[k].i ∧ lt[i].c ≠ lt[k].c) := HSTEP.out true (by simp [hx]; omega)
                            go_wp2_with fail
                            go_roundw
                            case rel => exact ⟨j + 1, true, by go_num, by omega, rfl, HB10.out, HSN.out⟩
                            case measure => simp [intOf]; omega
                    · have HNX : Hid (Below w0.heap.size w0 wr ∧ (f3 = true ↔ P2 ∧ QT W H l ns N lt (k + 1))) := by
                        refine ⟨below_up HB4.out HS2.out.1, ?_⟩
                        obtain rfl : j = k := by omega
                        rw [QT_succ hkl, HS2.out.2, HF1.out]
                        exact ⟨fun h => ⟨h.1.1.1, h.1.1.2, h.1.2, h.2⟩, fun h => ⟨⟨⟨h.1, h.2.1⟩, h.2.2.1⟩, h.2.2.2⟩⟩
                      go_wp2_with fail
                      go_roundw
                      case rel => exact ⟨k + 1, f3, by go_num, by omega, rfl, HNX.out⟩
                      case measure => simp [intOf]; omega
            · obtain rfl : nt = k := by omega
              have HALL : Hid (f1 = true ↔ PLr W H l lb ls ∧ MNr l lm ∧ TRr W H l ns N lt) := by
                have := QT_all (W := W) (H := H) (l := l) (nb := ns) (N := N) (lt := lt)
                rw [HLT.out] at this
                rw [Hid, HS.out.2, HP2.out, this]
                exact ⟨fun h => ⟨h.1.1, h.1.2, h.2⟩, fun h => ⟨⟨h.1, h.2.1⟩, h.2.2⟩⟩
              have HBr : Hid (Below w0.heap.size w0 wr) := HS.out.1
              cases f1 with
              | false =>
                have HE : Hid (E = 4) := HE4.out (fun h => by have := HALL.out.2 h.2; cases this)
                go_wp2_with fail
                go_ret
                exact ⟨by rw [HE.out]; rfl, HUP.out wr HBr.out⟩
              | true =>
                have h3 := HALL.out.1 rfl
                have HE : Hid (E = 0) := HE0.out HCO.out h3.1 h3.2.1 h3.2.2
                clear h3
                go_wp2_with fail
                go_ret
                exact ⟨by rw [HE.out]; rfl, HUP.out wr HBr.out⟩
end Go.Proofs.Ytgebfpncapfaoaa
