/- What the document's own WorthOf returns. -/
import Derived.Test.YtdcjjfipnilmpaaWo
import Derived.Test.YtdcjjfipnilmpaaCb
import Derived.Test.YtdcjjfipnilmpaaKg
import Derived.Test.YtdcjjfipnilmpaaMR
import Derived.Deep.RegionHeld3
import Derived.Deep.DrawnRows
import Derived.RegionTactic
namespace Go.Proofs.Ytdcjjfipnilmpaa
open Go.RowKit Go.Maps
set_option linter.unusedVariables false

theorem run_morei {B : Nat} {w : World} {v : Value} {Q R : List Int} {p : Option Addr} {d m : Nat} (h : mine 3 vi B w v Q) (hq : row vi w p R) (hm : R.length = m) (hl : Q.length + m ≤ 2000000) (hB : B ≤ w.heap.size) :
    ∃ v' w', (Builtin.append_ #[22, 22] 22 #[v, .slice p m d]).run Try.prog w = .ok v' w' ∧ mine 3 vi B w' v' (Q ++ R) ∧ w.grownBy w' v.ownBlock := by
  obtain ⟨i0, hi, hz0, hz1, hz2⟩ := info_parts kini
  cases p with
  | none =>
    have h0 : R = [] := by
      rcases R with _ | ⟨x, R⟩
      · rfl
      · obtain ⟨a, ha, _⟩ := hq 0 x rfl
        cases ha
    subst h0
    obtain rfl : 0 = m := hm
    rw [List.append_nil]
    exact ⟨v, w, append_none 22 22 3 i0 1 Try.underlying22 hi v _ _ h d, h, grown_self w _⟩
  | some a =>
    obtain ⟨v', w', h1, h2, h3, _⟩ := run_append_own (P := Try.prog) w B 22 22 3 i0 _ 1 8 Try.underlying22 hi hz0 hz1 hz2 rfl (by decide) v Q.length (Q.map vi) h a m d (R.map vi) (by simpa using hm) (fun j u hj => by obtain ⟨b, hb, hc⟩ := row_map hq j u hj; cases hb; exact hc) (fun u hu => by obtain ⟨x, _, rfl⟩ := List.mem_map.1 hu; rfl) (by unfold maxLen; omega) (by omega) hB
    refine ⟨v', w', h1, ?_, h3⟩
    unfold mine
    rw [List.map_append, List.length_append, hm]; exact h2
theorem sum_bdl {l : List Int} {k : Nat} (h : ∀ x ∈ l, 0 ≤ x ∧ x ≤ 1000000) (hl : l.length ≤ 1608) : 0 ≤ (l.take k).sum ∧ (l.take k).sum ≤ 1608000000 := by
  have h1 := sum_bd (M := 1000000) (l := l.take k) (fun x hx => h x (List.mem_of_mem_take hx))
  have h2 : (l.take k).length ≤ 1608 := by rw [List.length_take]; omega
  omega
set_option maxRecDepth 20000 in
set_option maxHeartbeats 8000000 in
theorem WorthOf_at (s : Wld) (W H : Nat) (R : Int) (w : World) (h : s.fit w) (hk : okw s W H) (hR : Hid (wth s.shp = R)) :
    Calls Try.prog 12 #[s.val] w fun e w' => e = .returned (.int .i64 R) ∧ Below w.heap.size w w' := by
  have hsz : s.ns ≤ 8 ∧ s.nm ≤ 1600 ∧ s.nt ≤ 100 := by
    have h1 := h.h; have h2 := hk.f.2.2.1; have h3 := wh_le hk.f.1 hk.f.2.1; have h4 := hk.pl.1; have h5 := h.hs; have h6 := h.hb; have h7 := hk.nb; have h8 := hk.mn.1; have h9 := h.hm; have h10 := hk.nt
    omega
  have HCL : Hid (∀ V, Below w.heap.size w V → Calls Try.prog 24 #[.slice s.pm s.nm s.cm] V fun e w' => (∃ v, e = .returned v ∧ mine 3 vi V.heap.size w' v s.lm) ∧ Below V.heap.size V w') := fun V hV => by
    refine (Clonei_any s.pm s.nm s.cm s.lm V (row_below h.rm hV) h.hm (by omega)).mono ?_
    rintro e w' ⟨⟨v, rfl, hv, _⟩, hb⟩
    exact ⟨⟨v, rfl, hv⟩, hb⟩
  have HS : Hid (row vi w s.ps s.ls ∧ s.ls.length = s.ns ∧ s.lm.length = s.nm) := ⟨h.rs, h.hs, h.hm⟩
  have HAM : Hid (∀ x ∈ s.lm ++ s.ls, 0 ≤ x ∧ x ≤ 1000000) := fun x hx => by
    rcases List.mem_append.1 hx with h1 | h1
    · exact any_am.1 hk.mn.2.1 x h1
    · exact any_am.1 hk.pl.2.1 x h1
  have HT : Hid (trow w s.pt s.lt) := h.rt
  have HLT : Hid (s.lt.length = s.nt) := h.ht
  have HTK : Hid (∀ k (hk : k < s.lt.length), (s.lt[k].k = 1 ∨ s.lt[k].k = 2) ∧ 0 ≤ s.lt[k].d ∧ s.lt[k].d ≤ 5) := fun k hkl => by
    have h1 := (hk.tr.1 k hkl).2.2
    have h2 : loadOf s.lt[k].k ≤ 5 := by unfold loadOf; split <;> omega
    exact ⟨h1.1, h1.2.2.2.2.2.2.1, Int.le_trans h1.2.2.2.2.2.2.2 h2⟩
  have HRR : Hid ((s.lm ++ s.ls).sum + tws s.lt = R) := by rw [List.sum_append]; exact hR.out
  have HSZ : Hid (s.ns ≤ 8 ∧ s.nm ≤ 1600) := ⟨hsz.1, hsz.2.1⟩
  have hnt := hsz.2.2
  clear h hk hR hsz
  obtain ⟨A, B, p, n, c, l, pb, nb, cb, lb, ps, ns, cs, ls, pm, nm, cm, lm, pt, nt, ct, lt, N, T⟩ := s
  unfold Wld.val at *
  dsimp only at *
  obtain ⟨F, hF⟩ : ∃ F, w.heap.size = F := ⟨_, rfl⟩
  obtain ⟨w0, hw0⟩ : ∃ w0, w.alloc (.cells #[.int .i64 A, .int .i64 B, .slice p n c, .slice pb nb cb, .slice ps ns cs, .slice pm nm cm, .slice pt nt ct, .int .i64 N, .int .i64 T] 28) = w0 := ⟨_, rfl⟩
  have hB0 : Below w.heap.size w w0 := by rw [← hw0]; exact alloc_below _ _
  have HB0 : Hid (Below w.heap.size w w0) := hB0
  have HZ : Hid (∀ V, Below w0.heap.size w0 V → c9 V F (.int .i64 A) (.int .i64 B) (.slice p n c) (.slice pb nb cb) (.slice ps ns cs) (.slice pm nm cm) (.slice pt nt ct) (.int .i64 N) (.int .i64 T)) := fun V hV => boxw hF hw0 hV
  have HFS : Hid (w.heap.size = F) := hF
  have HS1 : Hid (Below w0.heap.size w0 w0.drew ∧ w0.drew.cell? ⟨F, 5, none⟩ = some (.slice pm nm cm) ∧ w0.drew.cell? ⟨F, 4, none⟩ = some (.slice ps ns cs)) := by
    have h := HZ.out w0.drew (Below.refl _ _).drew
    exact ⟨(Below.refl _ _).drew, h.2.2.2.2.2.1, h.2.2.2.2.1⟩
  clear hB0
  go_enter Try.func12, Try.ntmps12
  go_wp2_with fail
  clear hw0 hF
  refine wp_region_noPanic ?_
  refine wp_region_held_drew (S := (fun U => Below w0.heap.size w0 U ∧ U.cell? ⟨F, 5, none⟩ = some (.slice pm nm cm) ∧ U.cell? ⟨F, 4, none⟩ = some (.slice ps ns cs))) (by kernel_rfl) HS1.out (fun hHeld => ?_)
  refine wpAnyH_take (i := 0) (oi := ?o0) (v := .pointer (some ⟨F, 5, none⟩)) ?hi0 (by kernel_rfl) (by kernel_rfl) (by kernel_rfl) (fun _ _ _ h => h) ?hy0 hHeld ?rest0
  case hi0 => simp only [List.getElem?_toArray, List.getElem?_cons_zero]; first | done | rfl
  case hy0 => exact Or.inl ⟨by rfl, by intro V hV; obtain ⟨s0, s1, s2⟩ := hV; go_simp⟩
  try simp only [Act.put, List.setIfInBounds_toArray, List.set_cons_zero, List.set_cons_succ]
  refine wpAnyH_take (i := 1) (oi := ?o1) (v := .slice pm nm cm) ?hi1 (by kernel_rfl) (by kernel_rfl) (by kernel_rfl) (fun _ _ _ h => h) ?hy1 hHeld ?rest1
  case hi1 => simp only [List.getElem?_toArray, List.getElem?_cons_zero, List.getElem?_cons_succ]; first | done | rfl
  case hy1 => exact Or.inl ⟨by rfl, by intro V hV; obtain ⟨s0, s1, s2⟩ := hV; go_simp⟩
  try simp only [Act.put, List.setIfInBounds_toArray, List.set_cons_zero, List.set_cons_succ]
  refine wpAnyH_take (i := 3) (oi := ?o3) (v := .pointer (some ⟨F, 4, none⟩)) ?hi3 (by kernel_rfl) (by kernel_rfl) (by kernel_rfl) (fun _ _ _ h => h) ?hy3 hHeld ?rest3
  case hi3 => simp only [List.getElem?_toArray, List.getElem?_cons_zero, List.getElem?_cons_succ]; first | done | rfl
  case hy3 => exact Or.inl ⟨by rfl, by intro V hV; obtain ⟨s0, s1, s2⟩ := hV; go_simp⟩
  try simp only [Act.put, List.setIfInBounds_toArray, List.set_cons_zero, List.set_cons_succ]
  refine wpAnyH_take (i := 4) (oi := ?o4) (v := .slice ps ns cs) ?hi4 (by kernel_rfl) (by kernel_rfl) (by kernel_rfl) (fun _ _ _ h => h) ?hy4 hHeld ?rest4
  case hi4 => simp only [List.getElem?_toArray, List.getElem?_cons_zero, List.getElem?_cons_succ]; first | done | rfl
  case hy4 => exact Or.inl ⟨by rfl, by intro V hV; obtain ⟨s0, s1, s2⟩ := hV; go_simp⟩
  try simp only [Act.put, List.setIfInBounds_toArray, List.set_cons_zero, List.set_cons_succ]
  refine wpAnyH_take (i := 7) (oi := ?o7) (v := .int .i64 0) ?hi7 (by kernel_rfl) (by kernel_rfl) (by kernel_rfl) (fun _ _ _ h => h) ?hy7 hHeld ?rest7
  case hi7 => simp only [List.getElem?_toArray, List.getElem?_cons_zero, List.getElem?_cons_succ]; first | done | rfl
  case hy7 => exact Or.inl ⟨by rfl, by intro V hV; obtain ⟨s0, s1, s2⟩ := hV; go_simp⟩
  try simp only [Act.put, List.setIfInBounds_toArray, List.set_cons_zero, List.set_cons_succ]
  refine wpAnyH_ready (rs := [2]) (by kernel_rfl) (by simp) ?_
  refine AllReadyH.cons (o := ?o2) ?hi2 (fun K hK => ?step2) AllReadyH.nil
  case hi2 => simp only [List.getElem?_toArray, List.getElem?_cons_zero, List.getElem?_cons_succ]; first | done | rfl
  go_simp
  go_at_call 24
  refine (HCL.out _ (HB0.out.trans (hHeld.1.mono HB0.out.size))).mono ?_
  rintro e w2 ⟨⟨v2, rfl, hm2⟩, hb2⟩
  go_wp2_with fail
  refine hK.out _ _ (k2_call hHeld hb2) (fun hHeld2 => ?_)
  clear hK K
  try simp only [Act.put, List.setIfInBounds_toArray, List.set_cons_zero, List.set_cons_succ]
  have hBw2 : Below w.heap.size w w2 := HB0.out.trans (hHeld2.1.mono HB0.out.size)
  obtain ⟨v3, w3, hrun3, hm3, hg3⟩ := run_morei (d := cs) hm2 (row_below HS.out.1 hBw2) HS.out.2.1 (by have := HSZ.out; have := HS.out.2.2; omega) hb2.size
  obtain ⟨q3, d3, rfl, hr3, _⟩ : ∃ q d, v3 = .slice q (lm ++ ls).length d ∧ row vi w3 q (lm ++ ls) ∧ True := by
    obtain ⟨q, d, e, hr, _⟩ := mine_full hm3
    exact ⟨q, d, e, hr, trivial⟩
  obtain ⟨nz, hnz⟩ : ∃ nz, (lm ++ ls).length = nz := ⟨_, rfl⟩
  rw [hnz] at hrun3
  have hb23 : Below w0.heap.size w2 w3 := ((Below.refl _ _).grown hg3 hHeld2.1.size (fun k hk => Nat.le_trans hHeld.1.size (own_base hm2 k hk)))
  have HRUN3 : Hid ((Builtin.append_ #[22, 22] 22 #[v2, .slice ps ns cs]).run Try.prog w2 = .ok (.slice q3 nz d3) w3) := hrun3
  have HS3 : Hid (Below w0.heap.size w0 w3 ∧ w3.cell? ⟨F, 5, none⟩ = some (.slice pm nm cm) ∧ w3.cell? ⟨F, 4, none⟩ = some (.slice ps ns cs)) := by
    have hb := hHeld2.1.trans hb23
    have h := HZ.out w3 hb
    exact ⟨hb, h.2.2.2.2.2.1, h.2.2.2.2.1⟩
  have HLL : Hid (row vi w3 q3 (lm ++ ls) ∧ (lm ++ ls).length = nz ∧ nz ≤ 1608) := ⟨hr3, hnz, by have h1 := HSZ.out; have h2 := HS.out.2; have h3 := hnz; rw [List.length_append] at h3; omega⟩
  have HB3 : Hid (Below w.heap.size w w3) := HB0.out.trans (HS3.out.1.mono HB0.out.size)
  clear hBw2 hm2 hb2 hrun3 hm3 hg3 hb23 hr3 hnz
  refine wpAnyH_ready (rs := [5]) (by kernel_rfl) (by simp) ?_
  refine AllReadyH.cons (o := ?o5) ?hi5 (fun K hK => ?step5) AllReadyH.nil
  case hi5 => simp only [List.getElem?_toArray, List.getElem?_cons_zero, List.getElem?_cons_succ]; first | done | rfl
  refine step_append_run rfl _ _ 22 rfl _ _ rfl rfl HRUN3.out ?_
  refine hK.out _ _ HS3.out (fun hHeld3 => ?_)
  clear hK K
  try simp only [Act.put, List.setIfInBounds_toArray, List.set_cons_zero, List.set_cons_succ]
  refine wpAnyH_take (i := 6) (oi := ?o6) (v := .int .i64 (nz : Int)) ?hi6 (by kernel_rfl) (by kernel_rfl) (by kernel_rfl) (fun _ _ _ h => h) ?hy6 hHeld3 ?rest6
  case hi6 => simp only [List.getElem?_toArray, List.getElem?_cons_zero, List.getElem?_cons_succ]; first | done | rfl
  case hy6 => exact Or.inl ⟨by rfl, by intro V hV; obtain ⟨s0, s1, s2⟩ := hV; go_simp⟩
  try simp only [Act.put, List.setIfInBounds_toArray, List.set_cons_zero, List.set_cons_succ]
  refine wpAnyH_done (by kernel_rfl) ?_ _
  refine NoPanic.normal ?_
  clear hHeld hHeld2 hHeld3
  go_wp2_with fail
  have hz := HLL.out.2.2
  go_loop [3, 15] (fun s i => ∃ (k : Nat) (S : Int), i = .int .i64 (k : Int) ∧ k ≤ nz ∧ s = .int .i64 S ∧ Hid (((lm ++ ls).take k).sum = S)) (fun _ i => nz - (intOf i).toNat)
  case atStart => exact ⟨0, 0, rfl, by omega, rfl, by unfold Hid; simp⟩
  case round =>
    obtain ⟨k, S, rfl, hk, rfl, HSS⟩ := hrel
    by_cases hlt : k < nz
    · have hkl : k < (lm ++ ls).length := by rw [HLL.out.2.1]; exact hlt
      obtain ⟨a, rfl, hc⟩ := row_at HLL.out.1 hkl
      obtain ⟨X, hX⟩ : ∃ X, (lm ++ ls)[k] = X := ⟨_, rfl⟩
      have hs := sum_take hkl
      rw [hX] at hc hs
      have hc' : w3.cell? (a.add k) = some (.int .i64 X) := hc
      have hSb := sum_bdl (k := k) HAM.out (by rw [HLL.out.2.1]; exact HLL.out.2.2)
      rw [HSS.out] at hSb hs
      have hXb : 0 ≤ X ∧ X ≤ 1000000 := by rw [← hX]; exact HAM.out _ (List.getElem_mem hkl)
      have HS2 : Hid (((lm ++ ls).take (k + 1)).sum = S + X) := hs
      have l1 : (k : Int) < nz := by omega
      have l2 : (0 : Int) ≤ k := by omega
      have b1 := hSb.1
      have b2 := hSb.2
      have b3 := hXb.1
      have b4 := hXb.2
      clear hc hs hX hSb hXb
      go_wp2_with fail
      go_round
      case rel => exact ⟨k + 1, S + X, by go_num, by omega, rfl, HS2.out⟩
      case measure => simp [intOf]; omega
    · obtain rfl : k = nz := by omega
      have hta : (lm ++ ls).take k = lm ++ ls := List.take_of_length_le (by rw [HLL.out.2.1]; exact Nat.le_refl _)
      obtain ⟨RL, hRL⟩ : ∃ RL, (lm ++ ls).sum = RL := ⟨_, rfl⟩
      have hSR : S = RL := by rw [← HSS.out, hta, hRL]
      subst hSR
      have HRL : Hid (S + tws lt = R) := by
        have := HRR.out
        rw [hRL] at this
        exact this
      have hSb := sum_bdl (k := k) HAM.out (by rw [HLL.out.2.1]; exact HLL.out.2.2)
      rw [hta, hRL] at hSb
      have b1 := hSb.1
      have b2 := hSb.2
      obtain ⟨z0, z1, z2, z3, z4, z5, z6, z7, z8⟩ := HZ.out w3 HS3.out.1
      clear hta hRL hSb
      go_wp2_with fail
      clear z0 z1 z2 z3 z4 z5 z6 z7 z8
      go_loopw [3, 26] (fun s i wr => ∃ (k : Nat) (S2 : Int), i = .int .i64 (k : Int) ∧ k ≤ nt ∧ s = .int .i64 S2 ∧ Hid (S + tws (lt.take k) = S2 ∧ Below w.heap.size w wr)) (fun _ i _ => nt - (intOf i).toNat)
      case atStart => exact ⟨0, _, rfl, by omega, rfl, by simp [tws], HB3.out⟩
      case round =>
        obtain ⟨j, S2, rfl, hj, rfl, HJ⟩ := hrel
        have hbd := tws_bd (lt := lt) (fun t ht => by obtain ⟨j, hj, rfl⟩ := List.getElem_of_mem ht; exact (HTK.out j hj).2) (by rw [HLT.out]; exact hnt) j
        by_cases hlt : j < nt
        · have hjl : j < lt.length := by rw [HLT.out]; exact hlt
          obtain ⟨a, rfl, hc⟩ := trow_at (trow_below HT.out HJ.out.2) hjl
          obtain ⟨t, ht⟩ : ∃ t, lt[j] = t := ⟨_, rfl⟩
          have htk := HTK.out j hjl
          have hsn := tws_take hjl
          rw [ht] at hc htk hsn
          obtain ⟨ti, to_, tk, tx, ty, tf, td⟩ := t
          obtain ⟨c0, c1, c2, c3, c4, c5, c6⟩ := hc
          simp only at c0 c1 c2 c3 c4 c5 c6 htk hsn
          obtain ⟨P, hP⟩ : ∃ P, priceOf tk = P := ⟨_, rfl⟩
          have hPb : 0 ≤ P ∧ P ≤ 12 := by rw [← hP]; unfold priceOf; split <;> omega
          obtain ⟨L, hL⟩ : ∃ L, lifeOf tk = L := ⟨_, rfl⟩
          obtain ⟨r0, hr0⟩ : ∃ r0 : Int, (if tk = 2 then (2 : Int) else 1) = r0 := ⟨_, rfl⟩
          obtain ⟨g0, hg0⟩ : ∃ g0 : Int, (if tk = 2 then (4 : Int) else 1) = g0 := ⟨_, rfl⟩
          have HKD : Hid (∀ (w : World), Calls Try.prog 37 #[.int .i64 tk] w fun e w' => e = .returned (.agg #[.int .i64 L, .int .i64 r0, .int .i64 g0, .int .i64 P]) ∧ Below w.heap.size w w') := fun w => by rw [← hP, ← hL, ← hr0, ← hg0]; exact kindOf_12 tk htk.1 w
          have HS2 : Hid (S + tws (lt.take (j + 1)) = S2 + (td + P)) := by
            have := HJ.out.1
            rw [hP] at hsn
            unfold Hid; omega
          obtain ⟨w4, hw4⟩ : ∃ w4, wr.alloc (.cells #[.int .i64 ti, .int .i64 to_, .int .i64 tk, .int .i64 tx, .int .i64 ty, .int .i64 tf, .int .i64 td] 47) = w4 := ⟨_, rfl⟩
          obtain ⟨G, hG⟩ : ∃ G, wr.heap.size = G := ⟨_, rfl⟩
          obtain ⟨-, -, g2, -, -, -, g6⟩ := boxt hG hw4 (Below.refl _ _)
          have HB4 : Hid (Below w.heap.size w w4) := by unfold Hid; rw [← hw4]; exact HJ.out.2.alloc HJ.out.2.size _
          have l1 : (j : Int) < nt := by omega
          have l2 : (0 : Int) ≤ j := by omega
          have s1 := hbd.1
          have s2 := hbd.2
          have hSe := HJ.out.1
          have s3 : 0 ≤ S2 := by omega
          have s4 : S2 ≤ 1608001700 := by omega
          have s5 := htk.2.1
          have s6 := htk.2.2
          have s7 := hPb.1
          have s8 := hPb.2
          have eW1 : IntKind.i64.wrap (td + P) = td + P := wrp (by omega) (by omega)
          have eW2 : IntKind.i64.wrap (S2 + (td + P)) = S2 + (td + P) := wrp (by omega) (by omega)
          clear hsn htk hP hPb hbd ht s1 s2 hSe hL hr0 hg0
          have kf := kfield3
          go_wp2_with fail
          go_region_held3 (fun U => Below w4.heap.size w4 U ∧ U.cell? ⟨G, 2, none⟩ = some (.int .i64 tk) ∧ U.cell? ⟨G, 6, none⟩ = some (.int .i64 td)) (first | with_reducible assumption | with_reducible exact k2_drew (by assumption) | with_reducible exact k2_call (by assumption) (by assumption) | exact ⟨Below.drew (Below.refl _ _), g2, g6⟩) (first | (go_at_call 37; with_reducible refine (HKD.out _).mono ?_; rintro e w5 ⟨rfl, hb5⟩))
          have HB5 : Hid (Below w.heap.size w w5) := below_step HB4.out HB4.out.size ((Below.refl _ _).drew.trans hb5)
          clear hb5 g2 g6 hw4
          go_wp2_with fail
          go_roundw
          case rel => exact ⟨j + 1, S2 + (td + P), by go_num, by omega, rfl, HS2.out, HB5.out⟩
          case measure => simp [intOf]; omega
        · obtain rfl : j = nt := by omega
          have hta : lt.take j = lt := List.take_of_length_le (by rw [HLT.out]; exact Nat.le_refl _)
          have hSR : S2 = R := by rw [← HJ.out.1, hta, HRL.out]
          subst hSR
          have HBE : Hid (Below w.heap.size w wr) := HJ.out.2
          clear hta
          go_wp2_with fail
          go_ret
          exact ⟨rfl, by first | exact HBE.out | (rw [← HFS.out]; exact HBE.out)⟩
end Go.Proofs.Ytdcjjfipnilmpaa
