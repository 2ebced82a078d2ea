/- What goods.sum and goods.Worth return. -/
import Derived.Test.YtdcjjfipnilmpaaMG
namespace Go.Proofs.Ytdcjjfipnilmpaa
open Go.RowKit Go.Maps
set_option linter.unusedVariables false

theorem sum_take {l : List Int} {k : Nat} (hk : k < l.length) : (l.take (k + 1)).sum = (l.take k).sum + l[k] := by
  rw [List.take_succ_eq_append_getElem hk, List.sum_append]; simp
theorem sum_bd {M : Int} : ∀ {l : List Int}, (∀ x ∈ l, 0 ≤ x ∧ x ≤ M) → 0 ≤ l.sum ∧ l.sum ≤ l.length * M
  | [], _ => by simp
  | x :: l, h => by
    have h1 := h x (by simp)
    have h2 := sum_bd (l := l) (fun y hy => h y (by simp [hy]))
    have h3 : ((l.length + 1 : Nat) : Int) * M = l.length * M + M := by rw [Int.natCast_add, Int.add_mul]; simp
    rw [List.sum_cons, List.length_cons, h3]
    omega
theorem sum_bdt {l : List Int} (h : ∀ x ∈ l, 0 ≤ x ∧ x ≤ 1000000) (hl : l.length ≤ 1600) (k : Nat) : 0 ≤ (l.take k).sum ∧ (l.take k).sum ≤ 1600000000 := by
  have h1 := sum_bd (M := 1000000) (l := l.take k) (fun x hx => h x (List.mem_of_mem_take hx))
  have h2 : (l.take k).length ≤ 1600 := by rw [List.length_take]; omega
  omega
set_option maxRecDepth 20000 in
set_option maxHeartbeats 1000000 in
theorem sum_at (p : Option Addr) (n c : Nat) (l : List Int) (R : Int) (w : World) (hr : row vi w p l) (hn : l.length = n) (hm : n ≤ 1600) (ha : l.any am = false) (hR : Hid (l.sum = R)) :
    Calls Try.prog 32 #[.slice p n c] w fun e w' => e = .returned (.int .i64 R) ∧ w' = w := by
  have H1 : Hid (row vi w p l) := hr
  have HN : Hid (l.length = n) := hn
  have HA : Hid (∀ x ∈ l, 0 ≤ x ∧ x ≤ 1000000) := any_am.1 ha
  clear hr hn ha
  go_enter Try.func32, Try.ntmps32
  go_wp2_with fail
  go_loop [3, 8] (fun s i => ∃ (k : Nat) (S : Int), i = .int .i64 (k : Int) ∧ k ≤ n ∧ s = .int .i64 S ∧ Hid ((l.take k).sum = S)) (fun _ i => n - (intOf i).toNat)
  case atStart => exact ⟨0, 0, rfl, by omega, rfl, by unfold Hid; simp⟩
  case round =>
    obtain ⟨k, S, rfl, hk, rfl, HS⟩ := hrel
    by_cases hlt : k < n
    · have hkl : k < l.length := by rw [HN.out]; exact hlt
      obtain ⟨a, rfl, hc⟩ := row_at H1.out hkl
      obtain ⟨X, hX⟩ : ∃ X, l[k] = X := ⟨_, rfl⟩
      have hs := sum_take hkl
      rw [hX] at hc hs
      have hc' : w.cell? (a.add k) = some (.int .i64 X) := hc
      have hSb := sum_bdt HA.out (by rw [HN.out]; exact hm) k
      rw [HS.out] at hSb hs
      have hXb : 0 ≤ X ∧ X ≤ 1000000 := by rw [← hX]; exact HA.out _ (List.getElem_mem hkl)
      have HS2 : Hid ((l.take (k + 1)).sum = S + X) := hs
      have l1 : (k : Int) < n := by omega
      have l2 : (0 : Int) ≤ k := by omega
      have b1 := hSb.1
      have b2 := hSb.2
      have b3 := hXb.1
      have b4 := hXb.2
      clear hc hs hX hSb hXb
      go_wp2_with fail
      go_round
      case rel => exact ⟨k + 1, S + X, by go_num, by omega, rfl, HS2.out⟩
      case measure => simp [intOf]; omega
    · have hkn : k = n := by omega
      have hta : l.take k = l := List.take_of_length_le (by rw [HN.out]; omega)
      have hSR : S = R := by rw [← HS.out, hta]; exact hR.out
      subst hSR
      clear hR
      go_wp2_with fail
      go_ret
      exact ⟨rfl, rfl⟩
theorem tws_take {lt : List Trp} {k : Nat} (hk : k < lt.length) : tws (lt.take (k + 1)) = tws (lt.take k) + (lt[k].d + priceOf lt[k].k) := by
  unfold tws
  rw [List.take_succ_eq_append_getElem hk, List.map_append, List.sum_append]; simp
theorem tws_bd {lt : List Trp} (h : ∀ t ∈ lt, 0 ≤ t.d ∧ t.d ≤ 5) (hl : lt.length ≤ 100) (k : Nat) : 0 ≤ tws (lt.take k) ∧ tws (lt.take k) ≤ 1700 := by
  have h1 := sum_bd (M := 17) (l := (lt.take k).map fun t => t.d + priceOf t.k) (fun x hx => by
    obtain ⟨t, ht, rfl⟩ := List.mem_map.1 hx
    have h2 := h t (List.mem_of_mem_take ht)
    have h3 : 0 ≤ priceOf t.k ∧ priceOf t.k ≤ 12 := by unfold priceOf; split <;> omega
    omega)
  have h2 : ((lt.take k).map fun t => t.d + priceOf t.k).length ≤ 100 := by rw [List.length_map, List.length_take]; omega
  unfold tws
  omega
theorem kd_any {a : Int} (h : a = 1 ∨ a = 2) : ∃ r g : Int, ∀ (w : World), Calls Try.prog 33 #[.int .i64 a] w fun e w' => e = .returned (.tuple #[.agg #[.int .i64 (lifeOf a), .int .i64 r, .int .i64 g, .int .i64 (priceOf a)], .int .i64 0]) ∧ Below w.heap.size w w' := by
  obtain ⟨r, g, h1, h2⟩ := kd_12 h
  exact ⟨r, g, fun w => by rw [← h1, ← h2]; exact Kind_any a w⟩
set_option maxRecDepth 20000 in
set_option maxHeartbeats 2000000 in
theorem Worth_no (s : Wld) (E : Int) (w : World) (h : s.fit w) (hE : Hid (wre s E)) (hE0 : E ≠ 0) :
    Calls Try.prog 10 #[s.val] w fun e w' => e = .returned (.tuple #[.int .i64 0, .int .i64 E]) ∧ Below w.heap.size w w' := by
  have HC : Hid (∀ V, Below w.heap.size w V → Calls Try.prog 17 #[s.val] V fun e w' => e = .returned (.int .i64 E) ∧ Below V.heap.size V w') := fun V hV => Check_world s E V (Wld.fit_below h hV) hE
  clear h hE
  obtain ⟨A, B, p, n, c, l, pb, nb, cb, lb, ps, ns, cs, ls, pm, nm, cm, lm, pt, nt, ct, lt, N, T⟩ := s
  unfold Wld.val at *
  dsimp only at *
  obtain ⟨F, hF⟩ : ∃ F, w.heap.size = F := ⟨_, rfl⟩
  obtain ⟨w0, hw0⟩ : ∃ w0, w.alloc (.cells #[.int .i64 A, .int .i64 B, .slice p n c, .slice pb nb cb, .slice ps ns cs, .slice pm nm cm, .slice pt nt ct, .int .i64 N, .int .i64 T] 28) = w0 := ⟨_, rfl⟩
  have hB0 : Below w.heap.size w w0 := by rw [← hw0]; exact alloc_below _ _
  have HB0 : Hid (Below w.heap.size w w0) := hB0
  obtain ⟨z0, z1, z2, z3, z4, z5, z6, z7, z8⟩ := boxw hF hw0 (Below.refl _ _)
  have d1 : (E != 0) = true := by simp [hE0]
  clear hB0
  go_enter Try.func10, Try.ntmps10
  go_wp2_with fail
  refine (HC.out w0 HB0.out).mono ?_
  rintro e w1 ⟨rfl, hb1⟩
  have HB1 : Hid (Below w.heap.size w w1) := below_call HB0.out HB0.out.size hb1
  clear hb1 z0 z1 z2 z3 z4 z5 z6 z7 z8 hw0
  go_wp2_with fail
  go_ret2
  exact ⟨rfl, by first | exact HB1.out | (rw [← hF]; exact HB1.out)⟩
set_option maxRecDepth 20000 in
set_option maxHeartbeats 8000000 in
theorem Worth_ok (s : Wld) (W H : Nat) (R : Int) (w : World) (h : s.fit w) (hk : okw s W H) (hR : Hid (wth s.shp = R)) :
    Calls Try.prog 10 #[s.val] w fun e w' => e = .returned (.tuple #[.int .i64 R, .int .i64 0]) ∧ Below w.heap.size w w' := by
  have HC : Hid (∀ V, Below w.heap.size w V → Calls Try.prog 17 #[s.val] V fun e w' => e = .returned (.int .i64 0) ∧ Below V.heap.size V w') := fun V hV => Check_world s 0 V (Wld.fit_below h hV) (wre_of hk)
  have hsz : s.ns ≤ 8 ∧ s.nm ≤ 1600 ∧ s.nt ≤ 100 := by
    have h1 := h.h; have h2 := hk.f.2.2.1; have h3 := wh_le hk.f.1 hk.f.2.1; have h4 := hk.pl.1; have h5 := h.hs; have h6 := h.hb; have h7 := hk.nb; have h8 := hk.mn.1; have h9 := h.hm; have h10 := hk.nt
    omega
  obtain ⟨RM, hRM⟩ : ∃ RM, s.lm.sum = RM := ⟨_, rfl⟩
  obtain ⟨RS, hRS⟩ : ∃ RS, s.ls.sum = RS := ⟨_, rfl⟩
  have hbM := sum_bdt (any_am.1 hk.mn.2.1) (by rw [h.hm]; omega) s.lm.length
  have hbS := sum_bdt (any_am.1 hk.pl.2.1) (by rw [h.hs]; omega) s.ls.length
  rw [List.take_length] at hbM hbS
  rw [hRM] at hbM
  rw [hRS] at hbS
  have HSM : Hid (∀ V, Below w.heap.size w V → Calls Try.prog 32 #[.slice s.pm s.nm s.cm] V fun e w' => e = .returned (.int .i64 RM) ∧ w' = V) := fun V hV => sum_at s.pm s.nm s.cm s.lm RM V (row_below h.rm hV) h.hm hsz.2.1 hk.mn.2.1 hRM
  have HSS : Hid (∀ V, Below w.heap.size w V → Calls Try.prog 32 #[.slice s.ps s.ns s.cs] V fun e w' => e = .returned (.int .i64 RS) ∧ w' = V) := fun V hV => sum_at s.ps s.ns s.cs s.ls RS V (row_below h.rs hV) h.hs (by omega) hk.pl.2.1 hRS
  have HT : Hid (trow w s.pt s.lt) := h.rt
  have HLT : Hid (s.lt.length = s.nt) := h.ht
  have HTK : Hid (∀ k (hk : k < s.lt.length), (s.lt[k].k = 1 ∨ s.lt[k].k = 2) ∧ 0 ≤ s.lt[k].d ∧ s.lt[k].d ≤ 5) := fun k hkl => by
    have h1 := (hk.tr.1 k hkl).2.2
    have h2 : loadOf s.lt[k].k ≤ 5 := by unfold loadOf; split <;> omega
    exact ⟨h1.1, h1.2.2.2.2.2.2.1, Int.le_trans h1.2.2.2.2.2.2.2 h2⟩
  have HRR : Hid (RM + RS + tws s.lt = R) := by rw [← hRM, ← hRS]; exact hR.out
  have hnt := hsz.2.2
  clear h hk hR hRM hRS hsz
  obtain ⟨A, B, p, n, c, l, pb, nb, cb, lb, ps, ns, cs, ls, pm, nm, cm, lm, pt, nt, ct, lt, N, T⟩ := s
  unfold Wld.val at *
  dsimp only at *
  obtain ⟨F, hF⟩ : ∃ F, w.heap.size = F := ⟨_, rfl⟩
  obtain ⟨w0, hw0⟩ : ∃ w0, w.alloc (.cells #[.int .i64 A, .int .i64 B, .slice p n c, .slice pb nb cb, .slice ps ns cs, .slice pm nm cm, .slice pt nt ct, .int .i64 N, .int .i64 T] 28) = w0 := ⟨_, rfl⟩
  have hB0 : Below w.heap.size w w0 := by rw [← hw0]; exact alloc_below _ _
  have HB0 : Hid (Below w.heap.size w w0) := hB0
  have HZ : Hid (∀ V, Below w0.heap.size w0 V → c9 V F (.int .i64 A) (.int .i64 B) (.slice p n c) (.slice pb nb cb) (.slice ps ns cs) (.slice pm nm cm) (.slice pt nt ct) (.int .i64 N) (.int .i64 T)) := fun V hV => boxw hF hw0 hV
  obtain ⟨z0, z1, z2, z3, z4, z5, z6, z7, z8⟩ := HZ.out w0 (Below.refl _ _)
  clear hB0
  go_enter Try.func10, Try.ntmps10
  go_wp2_with fail
  refine (HC.out w0 HB0.out).mono ?_
  rintro e w1 ⟨rfl, hb1⟩
  have HB1 : Hid (Below w.heap.size w w1) := below_call HB0.out HB0.out.size hb1
  have HB01 : Hid (Below w0.heap.size w0 w1) := hb1
  clear hb1 z0 z1 z2 z3 z4 z5 z6 z7 z8 hw0
  obtain ⟨z0, z1, z2, z3, z4, z5, z6, z7, z8⟩ := HZ.out w1 HB01.out
  have HSM1 : Hid (∀ m, Calls Try.prog 32 #[.slice pm nm cm] (w1.drewN m) fun e w' => e = .returned (.int .i64 RM) ∧ w' = w1.drewN m) := fun m => HSM.out _ (below_drewN HB1.out m)
  have HSS1 : Hid (∀ m, Calls Try.prog 32 #[.slice ps ns cs] (w1.drewN m) fun e w' => e = .returned (.int .i64 RS) ∧ w' = w1.drewN m) := fun m => HSS.out _ (below_drewN HB1.out m)
  have b1 := hbM.1
  have b2 := hbM.2
  have b3 := hbS.1
  have b4 := hbS.2
  have eW : IntKind.i64.wrap (RM + RS) = RM + RS := wrp (by omega) (by omega)
  clear hbM hbS
  go_wp2_with fail
  go_quiet ((go_at_call 32; first | (with_reducible exact Calls.quiet_of_same (HSM1.out _)) | (with_reducible exact Calls.quiet_of_same (HSS1.out _))))
  rename_i nq
  obtain ⟨w2, hw2⟩ : ∃ w2, w1.drewN nq = w2 := ⟨_, rfl⟩
  rw [hw2]
  have hb12 : Below w1.heap.size w1 w2 := by rw [← hw2]; exact below_drewN (Below.refl _ _) _
  have HB2 : Hid (Below w.heap.size w w2) := below_step HB1.out HB1.out.size hb12
  clear z0 z1 z2 z3 z4 z5 z6 z7 z8 hw2
  obtain ⟨z0, z1, z2, z3, z4, z5, z6, z7, z8⟩ := HZ.out w2 (below_step HB01.out HB01.out.size hb12)
  clear hb12
  go_wp2_with fail
  clear z0 z1 z2 z3 z4 z5 z6 z7 z8 eW
  go_loopw [5, 25] (fun s i wr => ∃ (k : Nat) (S : Int), i = .int .i64 (k : Int) ∧ k ≤ nt ∧ s = .int .i64 S ∧ Hid (RM + RS + tws (lt.take k) = S ∧ Below w.heap.size w wr)) (fun _ i _ => nt - (intOf i).toNat)
  case atStart => exact ⟨0, _, rfl, by omega, rfl, by simp [tws], HB2.out⟩
  case round =>
    obtain ⟨k, S, rfl, hk, rfl, HS⟩ := hrel
    have hbd := tws_bd (lt := lt) (fun t ht => by obtain ⟨j, hj, rfl⟩ := List.getElem_of_mem ht; exact (HTK.out j hj).2) (by rw [HLT.out]; exact hnt) k
    by_cases hlt : k < nt
    · have hkl : k < lt.length := by rw [HLT.out]; exact hlt
      obtain ⟨a, rfl, hc⟩ := trow_at (trow_below HT.out HS.out.2) hkl
      obtain ⟨t, ht⟩ : ∃ t, lt[k] = t := ⟨_, rfl⟩
      have htk := HTK.out k hkl
      have hsn := tws_take hkl
      rw [ht] at hc htk hsn
      obtain ⟨ti, to_, tk, tx, ty, tf, td⟩ := t
      obtain ⟨c0, c1, c2, c3, c4, c5, c6⟩ := hc
      simp only at c0 c1 c2 c3 c4 c5 c6 htk hsn
      obtain ⟨r0, g0, hkd⟩ := kd_any htk.1
      obtain ⟨L, hL⟩ : ∃ L, lifeOf tk = L := ⟨_, rfl⟩
      obtain ⟨P, hP⟩ : ∃ P, priceOf tk = P := ⟨_, rfl⟩
      rw [hL, hP] at hkd
      have hPb : 0 ≤ P ∧ P ≤ 12 := by rw [← hP]; unfold priceOf; split <;> omega
      have HKD : Hid (∀ (w : World), Calls Try.prog 33 #[.int .i64 tk] w fun e w' => e = .returned (.tuple #[.agg #[.int .i64 L, .int .i64 r0, .int .i64 g0, .int .i64 P], .int .i64 0]) ∧ Below w.heap.size w w') := hkd
      have HS2 : Hid (RM + RS + tws (lt.take (k + 1)) = S + (td + P)) := by
        have := HS.out.1
        rw [hP] at hsn
        unfold Hid; omega
      obtain ⟨w4, hw4⟩ : ∃ w4, wr.alloc (.cells #[.int .i64 ti, .int .i64 to_, .int .i64 tk, .int .i64 tx, .int .i64 ty, .int .i64 tf, .int .i64 td] 47) = w4 := ⟨_, rfl⟩
      obtain ⟨G, hG⟩ : ∃ G, wr.heap.size = G := ⟨_, rfl⟩
      obtain ⟨-, -, g2, -, -, -, -⟩ := boxt hG hw4 (Below.refl _ _)
      have HGD : Hid (∀ V, Below w4.heap.size w4 V → V.cell? ⟨G, 5, none⟩ = some (.int .i64 tf) ∧ V.cell? ⟨G, 6, none⟩ = some (.int .i64 td)) := fun V hV => ⟨(boxt hG hw4 hV).2.2.2.2.2.1, (boxt hG hw4 hV).2.2.2.2.2.2⟩
      have HB4 : Hid (Below w.heap.size w w4) := by unfold Hid; rw [← hw4]; exact HS.out.2.alloc HS.out.2.size _
      have l1 : (k : Int) < nt := by omega
      have l2 : (0 : Int) ≤ k := by omega
      have s1 := hbd.1
      have s2 := hbd.2
      have hSe := HS.out.1
      have s3 : 0 ≤ S := by omega
      have s4 : S ≤ 3200001700 := by omega
      have s5 := htk.2.1
      have s6 := htk.2.2
      have s7 := hPb.1
      have s8 := hPb.2
      clear hkd hsn htk hL hP hPb hbd ht s1 s2 hSe
      go_wp2_with fail
      refine (HKD.out w4).mono ?_
      rintro e w5 ⟨rfl, hb5⟩
      obtain ⟨g5, g6⟩ := HGD.out w5 hb5
      obtain ⟨w6, hw6⟩ : ∃ w6, w5.alloc (.cells #[.int .i64 L, .int .i64 r0, .int .i64 g0, .int .i64 P] 71) = w6 := ⟨_, rfl⟩
      obtain ⟨K, hK⟩ : ∃ K, w5.heap.size = K := ⟨_, rfl⟩
      have hk6 : w6.heap[K]? = some (.cells #[.int .i64 L, .int .i64 r0, .int .i64 g0, .int .i64 P] 71) := by rw [← hw6, ← hK]; exact World.alloc_heap_new w5 _
      obtain ⟨-, -, -, k3⟩ := free4 hk6
      have hb56 : Below w5.heap.size w5 w6 := by rw [← hw6]; exact alloc_below _ _
      have q6 := cell_call2 g6 hb56
      have HB6 : Hid (Below w.heap.size w w6) := below_step (below_step HB4.out HB4.out.size hb5) (below_step HB4.out HB4.out.size hb5).size hb56
      clear hb5 hb56 g2 g5 g6 hk6 c0 c1 c2 c3 c4 c5 c6 hw4
      go_wp2_with fail
      go_roundw
      case rel => exact ⟨k + 1, _, by go_num, by omega, rfl, HS2.out, HB6.out⟩
      case measure => simp [intOf]; omega
    · have hkn : k = nt := by omega
      have hta : lt.take k = lt := List.take_of_length_le (by rw [HLT.out]; omega)
      have hSR : S = R := by rw [← HS.out.1, hta]; exact HRR.out
      subst hSR
      subst hkn
      clear hbd
      go_wp2_with fail
      go_ret2
      exact ⟨rfl, by first | exact HS.out.2 | (rw [← hF]; exact HS.out.2)⟩
/-- Worth, whatever is handed in. -/
theorem Worth_any (s : Wld) (E R : Int) (w : World) (h : s.fit w) (hE : Hid (wre s E)) (hR : Hid ((E = 0 ∧ R = wth s.shp) ∨ (E ≠ 0 ∧ R = 0))) :
    Calls Try.prog 10 #[s.val] w fun e w' => e = .returned (.tuple #[.int .i64 R, .int .i64 E]) ∧ Below w.heap.size w w' := by
  rcases hR.out with ⟨rfl, rfl⟩ | ⟨h0, rfl⟩
  · obtain ⟨W, H, hk⟩ := wre_ok hE.out
    exact Worth_ok s W H _ w h hk rfl
  · exact Worth_no s E w h hE h0
end Go.Proofs.Ytdcjjfipnilmpaa
