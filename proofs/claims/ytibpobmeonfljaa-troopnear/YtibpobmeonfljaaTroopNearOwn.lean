/- Who looks farther sees all that there was, and more, and who sees is seen; for every world, every cell and any two reaches, with no condition. -/
import Derived.Test.YtibpobmeonfljaaRows
import Derived.Test.YtibpobmeonfljaaPost
import Derived.Test.YtibpobmeonfljaaLi
import Derived.WalkKit
import Derived.ProofKit
import Derived.OpenShut

namespace Go.Proofs.Ytibpobmeonfljaa.troopNear
open Go.ChangeShapes Go.WideShapes Go.ChangeAt Go.RowKit
set_option linter.unusedVariables false

theorem own : ownKnob Try.prog.godebug = none := by kernel_rfl

theorem nrb_mono {ox oy cx cy a b : Int} (h : nrb ox oy cx cy a = true) (hab : a ≤ b) : nrb ox oy cx cy b = true := by
  rw [nrb_iff] at h ⊢; omega
theorem nrb_comm {ox oy cx cy a : Int} (h : nrb ox oy cx cy a = true) : nrb cx cy ox oy a = true := by
  rw [nrb_iff] at h ⊢; omega
theorem id_inj {lt : List Trp} (hp : lt.Pairwise (fun a b => a.i < b.i)) {i j : Nat} (hi : i < lt.length) (hj : j < lt.length) (h : lt[i].i = lt[j].i) : i = j := by
  have hp := List.pairwise_iff_getElem.1 hp
  rcases Nat.lt_trichotomy i j with hlt | rfl | hlt
  · have := hp i j hi hj hlt; omega
  · rfl
  · have := hp j i hj hi hlt; omega
theorem idl_rise {P : Trp → Bool} {lt : List Trp} (hp : lt.Pairwise (fun a b => a.i < b.i)) : ∀ k, k ≤ lt.length → (idl lt (ixs P lt k)).Pairwise (· < ·)
  | 0, _ => List.Pairwise.nil
  | k + 1, hk => by
    have ih := idl_rise (P := P) hp k (by omega)
    have e : idl lt (ixs P lt (k + 1)) = idl lt (ixs P lt k) ++ if P lt[k] then [lt[k].i] else [] := by
      rw [ixs_succ (by omega)]
      unfold idl
      rw [List.map_append]
      split
      · simp [List.getElem?_eq_getElem (show k < lt.length by omega)]
      · simp
    rw [e, List.pairwise_append]
    refine ⟨ih, by split <;> simp, fun x hx y hy => ?_⟩
    split at hy
    · simp at hy
      subst hy
      unfold idl at hx
      obtain ⟨z, hz, e2⟩ := List.mem_map.1 hx
      obtain ⟨i, rfl, hi, h1, _⟩ := (ixs_mem (by omega)).1 hz
      have := List.pairwise_iff_getElem.1 hp i k h1 (by omega) hi
      rw [← e2]
      simp [h1]
      exact this
    · cases hy
theorem has_of {x : Int} {l : List Int} (h : x ∈ l) : has x l = true := by
  unfold has
  exact List.any_eq_true.2 ⟨x, h, by simp⟩
/-- What Near's two answers are to one another in a right world. -/
structure nall (s : Wld) (x y a b : Int) (L1 L2 : List Int) : Prop where
  len1 : L1.length ≤ s.nt
  len2 : L2.length ≤ s.nt
  nt : s.nt ≤ 100
  sub : ∀ k (h : k < L1.length), L1[k] ∈ L2
  srt : ∀ k, k + 1 < L2.length → L2.getD k 0 ≤ L2.getD (k + 1) 0
  find : ∀ k (h : k < L1.length), ∀ r b, fndr s (fun t => t.i = L1[k]) 0 r b → b = true ∧ ∃ i : Nat, ∃ hi : i < s.lt.length, r = i ∧ nrb s.lt[i].x s.lt[i].y x y a = true
  back : ∀ i (hi : i < s.lt.length), nrb s.lt[i].x s.lt[i].y x y a = true → ∀ j (hj : j < s.lt.length), s.lt[j].x = x → s.lt[j].y = y → s.lt[j].i ∈ nel s 0 s.lt[i].x s.lt[i].y a
theorem nall_ok {s : Wld} {W H : Nat} {x y a b : Int} (hk : okw s W H) (hl : s.lt.length = s.nt) (ha : ner 0 a = 0) (hb : ner 0 b = 0) (hab : a ≤ b) : nall s x y a b (nel s 0 x y a) (nel s 0 x y b) := by
  have hp := hk.tr.2.1
  have el : ∀ r, ner 0 r = 0 → nel s 0 x y r = idl s.lt (ixs (fun t => nrb t.x t.y x y r) s.lt s.nt) := fun r h => by unfold nel; rw [if_pos h]
  have ll : ∀ r, ner 0 r = 0 → (nel s 0 x y r).length ≤ s.nt := fun r h => by
    rw [el r h]; unfold idl; rw [List.length_map]; exact ixs_len _ _ _
  refine ⟨ll a ha, ll b hb, hk.nt, fun k h => ?_, fun k h => ?_, fun k h r b' hf => ?_, fun i hi hn j hj hx hy => ?_⟩
  · obtain ⟨i, hi, e, hn⟩ := (nel_mem hl ha).1 (List.getElem_mem h)
    exact (nel_mem hl hb).2 ⟨i, hi, e, nrb_mono hn hab⟩
  · have := idl_rise (P := fun t => nrb t.x t.y x y b) hp s.nt (by omega)
    rw [← el b hb] at this
    have := List.pairwise_iff_getElem.1 this k (k + 1) (by omega) h (by omega)
    rw [List.getD_eq_getElem?_getD, List.getD_eq_getElem?_getD, List.getElem?_eq_getElem (by omega), List.getElem?_eq_getElem h]
    simp only [Option.getD_some]
    omega
  · obtain ⟨i, hi, e, hn⟩ := (nel_mem hl ha).1 (List.getElem_mem h)
    rcases hf with ⟨h0, _⟩ | ⟨_, ⟨_, _, h1⟩ | ⟨h1, j, hj, h2, h3⟩⟩
    · exact absurd rfl h0
    · exact absurd e (h1 _ (List.getElem_mem hi))
    · have : j = i := id_inj hp hj hi (by rw [h3, e])
      subst this
      exact ⟨h1, j, hj, h2, hn⟩
  · refine (nel_mem hl ha).2 ⟨j, hj, rfl, ?_⟩
    rw [hx, hy]; exact nrb_comm hn

set_option maxRecDepth 20000 in
set_option maxHeartbeats 4000000 in
theorem walk (s0 : Wld) (x1 y1 : Int) (a2 : Int) (a3 : Int) (w1x : (Lit.int .i64 x1).wf = true) (w1y : (Lit.int .i64 y1).wf = true) (w2 : (Lit.int .i64 a2).wf = true) (w3 : (Lit.int .i64 a3).wf = true) (w : World) (h0 : s0.fit w) :
    Calls Try.prog 6 #[s0.val, .agg #[.int .i64 x1, .int .i64 y1], .int .i64 a2, .int .i64 a3] w fun e w' => e = .returned (.bool true) ∧ Below w.heap.size w w' := by
  clear w1x w1y w2 w3
  obtain ⟨E, hE⟩ := wre_total s0
  have HFI : Hid (∀ V id, Below w.heap.size w V → Calls Try.prog 17 #[s0.val, .int .i64 id] V fun e w' => (∃ r b, e = .returned (.tuple #[.int .i64 r, .bool b, .int .i64 E]) ∧ Hid (fndr s0 (fun t => t.i = id) E r b)) ∧ Below V.heap.size V w') := fun V id hV => Find_any s0 id E V (Wld.fit_below h0 hV) hE
  have HNR : Hid (∀ V x y r, Below w.heap.size w V → Calls Try.prog 21 #[s0.val, .agg #[.int .i64 x, .int .i64 y], .int .i64 r] V fun e w' => (∃ v, e = .returned (.tuple #[v, .int .i64 (ner E r)]) ∧ mine 3 vi V.heap.size w' v (nel s0 E x y r)) ∧ Below V.heap.size V w') := fun V x y r hV => Near_any s0 x y r E V (Wld.fit_below h0 hV) hE
  have HOK : Hid (ner E a2 = 0 → ner E a3 = 0 → a2 ≤ a3 → E = 0 ∧ nall s0 x1 y1 a2 a3 (nel s0 0 x1 y1 a2) (nel s0 0 x1 y1 a3)) := fun h1 h2 h3 => by
    have e0 : E = 0 := by
      unfold ner at h1
      split at h1
      · assumption
      · exact h1
    subst e0
    obtain ⟨W, H, hk⟩ := wre_ok hE
    exact ⟨rfl, nall_ok hk h0.ht h1 h2 h3⟩
  have rt := h0.rt
  have hlt := h0.ht
  clear h0 hE
  obtain ⟨A, B, p, n, c, l, pb, nb, cb, lb, ps, ns, cs, ls, pm, nm, cm, lm, pt, nt, ct, lt, N, T⟩ := s0
  obtain ⟨s0, hs0⟩ : ∃ s : Wld, (⟨A, B, p, n, c, l, pb, nb, cb, lb, ps, ns, cs, ls, pm, nm, cm, lm, pt, nt, ct, lt, N, T⟩ : Wld) = s := ⟨_, rfl⟩
  have HS0 : Hid (s0.lt = lt ∧ s0.nt = nt) := by rw [← hs0]; exact ⟨rfl, rfl⟩
  have esv : Wld.val s0 = .agg #[.int .i64 A, .int .i64 B, .slice p n c, .slice pb nb cb, .slice ps ns cs, .slice pm nm cm, .slice pt nt ct, .int .i64 N, .int .i64 T] := by rw [← hs0]; rfl
  rw [hs0, esv] at HFI HNR
  rw [hs0] at HOK
  rw [hs0, esv]
  have HLT : Hid (lt.length = nt) := hlt
  obtain ⟨F, hF⟩ : ∃ F, w.heap.size = F := ⟨_, rfl⟩
  obtain ⟨w0, hw0⟩ : ∃ w0, (w.alloc (.cells #[.int .i64 A, .int .i64 B, .slice p n c, .slice pb nb cb, .slice ps ns cs, .slice pm nm cm, .slice pt nt ct, .int .i64 N, .int .i64 T] 28)).alloc (.cells #[.int .i64 x1, .int .i64 y1] 43) = w0 := ⟨_, rfl⟩
  have HBX : Hid (∀ V, Below w0.heap.size w0 V → c9 V F (.int .i64 A) (.int .i64 B) (.slice p n c) (.slice pb nb cb) (.slice ps ns cs) (.slice pm nm cm) (.slice pt nt ct) (.int .i64 N) (.int .i64 T) ∧ V.cell? ⟨F + 1, 0, none⟩ = some (.int .i64 x1) ∧ V.cell? ⟨F + 1, 1, none⟩ = some (.int .i64 y1)) := fun V hV => box92 hF hw0 hV
  have hB0 : Below w.heap.size w w0 := by rw [← hw0]; exact (alloc_below _ _).alloc (by simp) _
  have HB0 : Hid (Below w.heap.size w w0) := hB0
  have HUP : Hid (∀ V, Below w0.heap.size w0 V → Below w.heap.size w V) := fun V hV => HB0.out.trans (hV.mono HB0.out.size)
  have HRT : Hid (trow w0 pt lt) := trow_below rt hB0
  obtain ⟨⟨z0, z1, z2, z3, z4, z5, z6, z7, z8⟩, y0, y2⟩ := HBX.out w0 (Below.refl _ _)
  clear hB0 rt hlt hs0 esv
  go_enter Try.func6, Try.ntmps6
  go_wp2_with fail
  refine (HNR.out w0 x1 y1 a2 HB0.out).mono ?_
  rintro e V1 ⟨⟨v1, rfl, hm1⟩, hb1⟩
  have HB1 : Hid (Below w0.heap.size w0 V1) := hb1
  obtain ⟨E1, hE1⟩ : ∃ E1, ner E a2 = E1 := ⟨_, rfl⟩
  have HE1 : Hid (ner E a2 = E1) := hE1
  have HM1 : Hid (mine 3 vi w0.heap.size V1 v1 (nel s0 E x1 y1 a2)) := hm1
  rw [hE1]
  clear z0 z1 z2 z3 z4 z5 z6 z7 z8 y0 y2 hb1 hw0 hF hE1 hm1
  obtain ⟨⟨z0, z1, z2, z3, z4, z5, z6, z7, z8⟩, y0, y2⟩ := HBX.out V1 HB1.out
  go_wp2_with fail
  refine (HNR.out V1 x1 y1 a3 (HUP.out V1 HB1.out)).mono ?_
  rintro e V2 ⟨⟨v2, rfl, hm2⟩, hb2⟩
  have HB2 : Hid (Below w0.heap.size w0 V2) := below_upF HB1.out hb2
  obtain ⟨E2, hE2⟩ : ∃ E2, ner E a3 = E2 := ⟨_, rfl⟩
  have HE2 : Hid (ner E a3 = E2) := hE2
  have HM2 : Hid (mine 3 vi V1.heap.size V2 v2 (nel s0 E x1 y1 a3)) := hm2
  have HM12 : Hid (mine 3 vi w0.heap.size V2 v1 (nel s0 E x1 y1 a2)) := mine_below HM1.out hb2
  rw [hE2]
  clear z0 z1 z2 z3 z4 z5 z6 z7 z8 y0 y2 hb2 hE2 hm2 HM1
  go_wp2_with fail
  refine (lives_any V2).mono ?_
  rintro e V3 ⟨rfl, hb3⟩
  have HB3 : Hid (Below w0.heap.size w0 V3) := below_upF HB2.out hb3
  have HM13 : Hid (mine 3 vi w0.heap.size V3 v1 (nel s0 E x1 y1 a2)) := mine_below HM12.out hb3
  have HM23 : Hid (mine 3 vi V1.heap.size V3 v2 (nel s0 E x1 y1 a3)) := mine_below HM2.out hb3
  clear hb3 HM12 HM2
  by_cases h1 : E1 = 0
  rotate_left
  · have d1 : (E1 != 0) = true := by simp [h1]
    go_wp2_with fail
    refine (lives_any V3).mono ?_
    rintro e V4 ⟨rfl, hb4⟩
    have HB4 : Hid (Below w0.heap.size w0 V4) := below_upF HB3.out hb4
    clear hb4
    go_wp2_with fail
    go_ret
    exact ⟨rfl, HUP.out V4 HB4.out⟩
  subst h1
  by_cases h2 : E2 = 0
  rotate_left
  · have d1 : (E2 != 0) = true := by simp [h2]
    go_wp2_with fail
    refine (lives_any V3).mono ?_
    rintro e V4 ⟨rfl, hb4⟩
    have HB4 : Hid (Below w0.heap.size w0 V4) := below_upF HB3.out hb4
    clear hb4
    go_wp2_with fail
    go_ret
    exact ⟨rfl, HUP.out V4 HB4.out⟩
  subst h2
  by_cases h3 : a3 < a2
  · go_wp2_with fail
    refine (lives_any V3).mono ?_
    rintro e V4 ⟨rfl, hb4⟩
    have HB4 : Hid (Below w0.heap.size w0 V4) := below_upF HB3.out hb4
    clear hb4
    go_wp2_with fail
    go_ret
    exact ⟨rfl, HUP.out V4 HB4.out⟩
  obtain ⟨e0, hall⟩ := HOK.out HE1.out HE2.out (by omega)
  subst e0
  obtain ⟨L1, hL1⟩ : ∃ L, nel s0 0 x1 y1 a2 = L := ⟨_, rfl⟩
  obtain ⟨L2, hL2⟩ : ∃ L, nel s0 0 x1 y1 a3 = L := ⟨_, rfl⟩
  rw [hL1, hL2] at hall
  rw [hL1] at HM13
  rw [hL2] at HM23
  have HALL : Hid (nall s0 x1 y1 a2 a3 L1 L2) := hall
  have HE10 : Hid (ner 0 a2 = 0) := HE1.out
  obtain ⟨q1, c1, rfl, hr1, -, -⟩ := mine_full HM13.out
  obtain ⟨q2, c2, rfl, hr2, -, -⟩ := mine_full HM23.out
  have HR1 : Hid (row vi V3 q1 L1) := hr1
  have HR2 : Hid (row vi V3 q2 L2) := hr2
  obtain ⟨m1, hm1⟩ : ∃ m, L1.length = m := ⟨_, rfl⟩
  obtain ⟨m2, hm2⟩ : ∃ m, L2.length = m := ⟨_, rfl⟩
  have HL1 : Hid (L1.length = m1) := hm1
  have HL2 : Hid (L2.length = m2) := hm2
  have hb1 : m1 ≤ 100 := by have := hall.len1; have := hall.nt; omega
  have hb2 : m2 ≤ 100 := by have := hall.len2; have := hall.nt; omega
  have HM2T : Hid (m2 ≤ nt) := by have := hall.len2; rw [HS0.out.2] at this; unfold Hid; omega
  have hnt100 : nt ≤ 100 := by have := hall.nt; rw [HS0.out.2] at this; exact this
  rw [hm1, hm2]
  have HUP3 : Hid (∀ V, Below V3.heap.size V3 V → Below w0.heap.size w0 V) := fun V hV => below_upF HB3.out hV
  clear hL1 hL2 hall hr1 hr2 hm1 hm2 HM13 HM23 HOK HE1 HE2
  go_wp2_with fail
  go_loopw [54] (fun i wr => ∃ k : Nat, i = .int .i64 (k : Int) ∧ k ≤ m1 ∧ Hid (Below V3.heap.size V3 wr)) (fun i _ => m1 - (intOf i).toNat)
  case atStart => exact ⟨0, rfl, by omega, Below.refl _ _⟩
  case round =>
    obtain ⟨k, rfl, hk, HS⟩ := hrel
    by_cases hkm : k < m1
    · have hkl : k < L1.length := by rw [HL1.out]; exact hkm
      obtain ⟨b1, rfl, hbc⟩ := row_at (row_below HR1.out HS.out) hkl
      obtain ⟨id, hid⟩ : ∃ id, L1[k] = id := ⟨_, rfl⟩
      rw [hid] at hbc
      have hb' : wr.cell? (b1.add k) = some (.int .i64 id) := hbc
      have hfind := HALL.out.find k hkl
      have hsub := HALL.out.sub k hkl
      rw [hid] at hfind hsub
      have HFND : Hid (∀ r b, fndr s0 (fun t => t.i = id) 0 r b → b = true ∧ ∃ i : Nat, ∃ hi : i < s0.lt.length, r = i ∧ nrb s0.lt[i].x s0.lt[i].y x1 y1 a2 = true) := hfind
      have HSUB : Hid (has id L2 = true) := has_of hsub
      obtain ⟨⟨z0, z1, z2, z3, z4, z5, z6, z7, z8⟩, y0, y2⟩ := HBX.out wr (HUP3.out wr HS.out)
      have l1 : (k : Int) < m1 := by omega
      have l2 : (0 : Int) ≤ k := by omega
      clear hbc hid hfind hsub
      go_wp2_with fail
      refine (HFI.out wr id (HUP.out wr (HUP3.out wr HS.out))).mono ?_
      rintro e V5 ⟨⟨r, b, rfl, hfd⟩, hb5⟩
      have HB35 : Hid (Below V3.heap.size V3 V5) := below_upF HS.out hb5
      obtain ⟨rfl, J, hJ, rfl, hnr⟩ := HFND.out r b hfd.out
      have hback := HALL.out.back J hJ hnr
      clear z0 z1 z2 z3 z4 z5 z6 z7 z8 y0 y2 hb5 hfd hb'
      go_wp2_with fail
      have HCN := Containsi_any q2 m2 c2 L2 id true V5 (row_below HR2.out HB35.out) HL2.out (by omega) HSUB
      have HCN2 : Hid (Calls Try.prog 24 #[.slice q2 m2 c2, .int .i64 id] V5 fun e w' => e = .returned (.bool true) ∧ w' = V5) := HCN
      clear HCN
      refine (Calls.mono HCN2.out ?_)
      rintro e w' ⟨rfl, hw⟩; subst w'
      obtain ⟨a, ea, hc⟩ := trow_at (trow_below HRT.out (HUP3.out V5 HB35.out)) (k := J) (by rw [← HS0.out.1]; exact hJ)
      cases ea
      have HRJ : Hid (∀ V, Below V3.heap.size V3 V → tcl V (a.add (J * 7)) (s0.lt[J])) := fun V hV => by
        obtain ⟨a', ea, hc⟩ := trow_at (trow_below HRT.out (HUP3.out V hV)) (k := J) (by rw [← HS0.out.1]; exact hJ)
        cases ea
        have e : lt[J]'(by rw [← HS0.out.1]; exact hJ) = s0.lt[J] := by congr 1; exact HS0.out.1.symm
        rw [← e]; exact hc
      obtain ⟨u, hu⟩ : ∃ u, s0.lt[J] = u := ⟨_, rfl⟩
      rw [hu] at HRJ hback
      have HJL : Hid (J < nt) := by unfold Hid; rw [← HLT.out, ← HS0.out.1]; exact hJ
      obtain ⟨ti, to_, tk, tx, ty, tf, td⟩ := u
      simp only at hback
      have HBACK : Hid (∀ j (hj : j < s0.lt.length), s0.lt[j].x = x1 → s0.lt[j].y = y1 → s0.lt[j].i ∈ nel s0 0 tx ty a2) := hback
      obtain ⟨⟨z0, z1, z2, z3, z4, z5, z6, z7, z8⟩, y0, y2⟩ := HBX.out V5 (HUP3.out V5 HB35.out)
      clear hu hback hnr hc HFND HSUB HCN2 hJ
      go_wp2_with fail
      clear z0 z1 z2 z3 z4 z5 z6 z7 z8 y0 y2
      go_loopw [80] (fun i wr => ∃ j : Nat, i = .int .i64 (j : Int) ∧ j ≤ nt ∧ Hid (Below V3.heap.size V3 wr)) (fun i _ => nt - (intOf i).toNat)
      case atStart => exact ⟨0, rfl, by omega, HB35.out⟩
      case round =>
        obtain ⟨j, rfl, hj, HS2⟩ := hrel
        by_cases hjm : j < nt
        · have hjl : j < lt.length := by rw [HLT.out]; exact hjm
          obtain ⟨a3', ea, hc⟩ := trow_at (trow_below HRT.out (HUP3.out wr HS2.out)) hjl
          cases ea
          obtain ⟨t, ht⟩ : ∃ t, lt[j] = t := ⟨_, rfl⟩
          have HBK : Hid (t.x = x1 → t.y = y1 → has t.i (nel s0 0 tx ty a2) = true) := fun hx hy => by
            have hj' : j < s0.lt.length := by rw [HS0.out.1]; exact hjl
            have e : s0.lt[j] = t := by rw [← ht]; congr 1; exact HS0.out.1
            have := HBACK.out j hj' (by rw [e]; exact hx) (by rw [e]; exact hy)
            rw [e] at this
            exact has_of this
          rw [ht] at hc
          clear ht
          obtain ⟨oi, oo, ok, ox, oy, of_, od⟩ := t
          obtain ⟨c0', c1', c2', c3', c4', c5', c6'⟩ := hc
          simp only at c0' c1' c2' c3' c4' c5' c6' HBK
          obtain ⟨V6, hV6⟩ : ∃ V6, wr.alloc (.cells #[.int .i64 oi, .int .i64 oo, .int .i64 ok, .int .i64 ox, .int .i64 oy, .int .i64 of_, .int .i64 od] 47) = V6 := ⟨_, rfl⟩
          obtain ⟨G, hG⟩ : ∃ G, wr.heap.size = G := ⟨_, rfl⟩
          have HBT : Hid (∀ V, Below V6.heap.size V6 V → V.cell? ⟨G, 0, none⟩ = some (.int .i64 oi) ∧ V.cell? ⟨G, 1, none⟩ = some (.int .i64 oo) ∧ V.cell? ⟨G, 2, none⟩ = some (.int .i64 ok) ∧ V.cell? ⟨G, 3, none⟩ = some (.int .i64 ox) ∧ V.cell? ⟨G, 4, none⟩ = some (.int .i64 oy) ∧ V.cell? ⟨G, 5, none⟩ = some (.int .i64 of_) ∧ V.cell? ⟨G, 6, none⟩ = some (.int .i64 od)) := fun V hV => boxt hG hV6 hV
          have hB6 : Below V3.heap.size V3 V6 := by rw [← hV6]; exact HS2.out.alloc HS2.out.size _
          have HB6 : Hid (Below V3.heap.size V3 V6) := hB6
          obtain ⟨⟨z0, z1, z2, z3, z4, z5, z6, z7, z8⟩, y0, y2⟩ := HBX.out V6 (HUP3.out V6 hB6)
          obtain ⟨g0, g1, g2, g3, g4, g5, g6⟩ := HBT.out V6 (Below.refl _ _)
          have j1 : (j : Int) < nt := by omega
          have j2 : (0 : Int) ≤ j := by omega
          clear hB6
          by_cases hx : ox = x1
          rotate_left
          · have m1_ : (ox == x1) = false := by simp [hx]
            have m3_ : decide (ox = x1) = false := by simp [hx]
            go_wp2_with fail
            go_roundw
            case rel => exact ⟨j + 1, by go_num, by omega, HB6.out⟩
            case measure => simp [intOf]; omega
          by_cases hy : oy = y1
          rotate_left
          · subst hx
            have m0_ : (ox == ox) = true := by simp
            have m1_ : (oy == y1) = false := by simp [hy]
            have m3_ : decide (oy = y1) = false := by simp [hy]
            go_wp2_with fail
            go_roundw
            case rel => exact ⟨j + 1, by go_num, by omega, HB6.out⟩
            case measure => simp [intOf]; omega
          have HHAS : Hid (has oi (nel s0 0 tx ty a2) = true) := HBK.out hx hy
          subst hx hy
          have m0_ : (ox == ox) = true := by simp
          have m1_ : (oy == oy) = true := by simp
          obtain ⟨-, -, -, d3, d4, -, -⟩ := HRJ.out V6 HB6.out
          simp only at d3 d4
          have HJ1 : (J : Int) < nt := by have := HJL.out; omega
          have HJ2 : (0 : Int) ≤ J := by omega
          have HNR2 : Hid (∀ V, Below V6.heap.size V6 V → Calls Try.prog 21 #[.agg #[.int .i64 A, .int .i64 B, .slice p n c, .slice pb nb cb, .slice ps ns cs, .slice pm nm cm, .slice (some a) nt ct, .int .i64 N, .int .i64 T], .agg #[.int .i64 tx, .int .i64 ty], .int .i64 a2] V fun e w' => (∃ v, e = .returned (.tuple #[v, .int .i64 (ner 0 a2)]) ∧ mine 3 vi V.heap.size w' v (nel s0 0 tx ty a2)) ∧ Below V.heap.size V w') := fun V hV => HNR.out V tx ty a2 (HUP.out V (HUP3.out V (below_upF HB6.out hV)))
          clear HBK
          go_wp2_with fail
          go_region_held3 (fun V => Below V6.heap.size V6 V ∧ V.cell? ⟨F, 0, none⟩ = some (.int .i64 A) ∧ V.cell? ⟨F, 1, none⟩ = some (.int .i64 B) ∧ V.cell? ⟨F, 2, none⟩ = some (.slice p n c) ∧ V.cell? ⟨F, 3, none⟩ = some (.slice pb nb cb) ∧ V.cell? ⟨F, 4, none⟩ = some (.slice ps ns cs) ∧ V.cell? ⟨F, 5, none⟩ = some (.slice pm nm cm) ∧ V.cell? ⟨F, 6, none⟩ = some (.slice (some a) nt ct) ∧ V.cell? ⟨F, 7, none⟩ = some (.int .i64 N) ∧ V.cell? ⟨F, 8, none⟩ = some (.int .i64 T) ∧ V.cell? ⟨(a.add (J * 7)).block, (a.add (J * 7)).off + 3, none⟩ = some (.int .i64 tx) ∧ V.cell? ⟨(a.add (J * 7)).block, (a.add (J * 7)).off + 4, none⟩ = some (.int .i64 ty)) (first | with_reducible assumption | with_reducible exact k11_drew (by assumption) | with_reducible exact k11_call (by assumption) (by assumption) | exact ⟨Below.drew (Below.refl _ _), z0, z1, z2, z3, z4, z5, z6, z7, z8, d3, d4⟩) (first
            | (go_at_call 21; with_reducible refine (HNR2.out _ (And.left (by assumption))).mono ?_; rintro e V7 ⟨⟨v3, rfl, hm3⟩, hb7⟩))
          have hb67 : Below V6.heap.size V6 V7 := (Below.refl _ _).drew.trans hb7
          have HB7 : Hid (Below V3.heap.size V3 V7) := below_upF HB6.out hb67
          obtain ⟨q3, c3, rfl, hr3, -, -⟩ := mine_full hm3
          obtain ⟨L3, hL3⟩ : ∃ L, nel s0 0 tx ty a2 = L := ⟨_, rfl⟩
          have hlen3 : L3.length ≤ 9223372036854775807 := by
            rw [← hL3]
            unfold nel
            split
            · unfold idl
              rw [List.length_map]
              have := ixs_len (fun t => nrb t.x t.y tx ty a2) s0.lt s0.nt
              have := HALL.out.nt
              omega
            · simp
          rw [hL3] at hr3 HHAS
          rw [hL3]
          obtain ⟨m3, hm3'⟩ : ∃ m, L3.length = m := ⟨_, rfl⟩
          have HCN := Containsi_any q3 m3 c3 L3 oi true V7 hr3 hm3' (by omega) HHAS
          rw [hm3']
          have HCN2 : Hid (Calls Try.prog 24 #[.slice q3 m3 c3, .int .i64 oi] V7 fun e w' => e = .returned (.bool true) ∧ w' = V7) := HCN
          obtain ⟨E3, hE3⟩ : ∃ E3, ner 0 a2 = E3 := ⟨_, rfl⟩
          have HE3 : Hid (ner 0 a2 = E3) := hE3
          rw [hE3]
          obtain ⟨g0', -, -, -, -, -, -⟩ := HBT.out V7 hb67
          clear HCN hm3' hL3 hr3 hm3 hb7 hb67 z0 z1 z2 z3 z4 z5 z6 z7 z8 y0 y2 g0 g1 g2 g3 g4 g5 g6 d3 d4 hV6 hE3 hlen3 c0' c1' c2' c3' c4' c5' c6'
          have e30 : E3 = 0 := by
            have h := HE3.out
            unfold ner at h
            simp at h
            have h1 := HE10.out
            unfold ner at h1
            simp at h1
            omega
          subst e30
          go_wp2_with fail
          refine (Calls.mono HCN2.out ?_)
          rintro e w' ⟨rfl, hw⟩; subst w'
          go_wp2_with fail
          go_roundw
          case rel => exact ⟨j + 1, by go_num, by omega, HB7.out⟩
          case measure => simp [intOf]; omega
        · have HB9 : Hid (Below V3.heap.size V3 wr) := HS2.out
          go_wp2_with fail
          go_roundw
          case rel => exact ⟨k + 1, by go_num, by omega, HB9.out⟩
          case measure => simp [intOf]; omega
    · obtain ⟨⟨z0, z1, z2, z3, z4, z5, z6, z7, z8⟩, y0, y2⟩ := HBX.out wr (HUP3.out wr HS.out)
      go_wp2_with fail
      refine (IsSorted_yes q2 m2 c2 L2 wr HL2.out (by omega) (row_below HR2.out HS.out) HALL.out.srt).mono ?_
      rintro e V9 ⟨rfl, hb9⟩
      have HB9 : Hid (Below V3.heap.size V3 V9) := below_upF HS.out hb9
      clear z0 z1 z2 z3 z4 z5 z6 z7 z8 y0 y2 hb9
      obtain ⟨⟨z0, z1, z2, z3, z4, z5, z6, z7, z8⟩, y0, y2⟩ := HBX.out V9 (HUP3.out V9 HB9.out)
      have l1 : (m2 : Int) ≤ nt := by have := HM2T.out; omega
      go_wp2_with fail
      go_ret
      exact ⟨by first | rfl | (simp; omega), HUP.out V9 (HUP3.out V9 HB9.out)⟩

set_option maxRecDepth 100000 in
theorem lifted (os : Os) (started : os.Started) (H : Type) (enc : TypeId × Value → H) :
    ReturnsInHanded {} Try.checked os 6 .any (Rows.troopNearSpec.pre6 enc Try.prog Try.f6 Rows.troopNearRow.domain false) (Rows.troopNearSpec.post enc Try.prog Try.f6 false true false false) := by
  refine returnsInHanded_of_change (C := Try.checked) own started (by kernel_rfl) Try.func6
    (ChangeSpec.witness6 (enc := enc) (C := Try.checked) false ⟨#[], #[.agg #[.int .i64 0, .int .i64 0, .slice none 0 0, .slice none 0 0, .slice none 0 0, .slice none 0 0, .slice none 0 0, .int .i64 0, .int .i64 0], .agg #[.int .i64 0, .int .i64 0], .int .i64 0, .int .i64 0], []⟩ 8 (by kernel_rfl) (by kernel_rfl) (by kernel_rfl) (by kernel_rfl)) ?_
  intro W base args ds gs before hval0 hW hcnd _
  have hval : ∀ (j : Nat) t v, Try.f6.params[j]? = some t → args[j]? = some v → Value.okWide Try.prog W .any base t v := hval0
  have hW' := hW
  obtain ⟨p, q, hA0, hV, rfl, hfz, hnd⟩ := hW
  have hA : DataW.TrodAll enc Try.prog W 0 (fun _ => true) true Try.f6.params.toList args.toList ds p := hA0
  rw [Try.params6] at hA hval
  obtain ⟨v0, vs0, d0, ds0, p0, q0, hargs, rfl, rfl, h0, r0⟩ := trodAll_cons hA
  obtain ⟨v1, vs1, d1, ds1, p1, q1, rfl, rfl, rfl, h1, r1⟩ := trodAll_cons r0
  obtain ⟨v2, vs2, d2, ds2, p2, q2, rfl, rfl, rfl, h2, r2⟩ := trodAll_cons r1
  obtain ⟨v3, vs3, d3, ds3, p3, q3, rfl, rfl, rfl, h3, r3⟩ := trodAll_cons r2
  obtain ⟨rfl, rfl, rfl⟩ := trodAll_nil r3
  obtain rfl : args = #[v0, v1, v2, v3] := by cases args; simp_all
  obtain ⟨rfl, rfl⟩ := trodVars_none hV
  obtain ⟨s0, rfl, k0⟩ := open_wld (hval 0 28 v0 rfl rfl) h0
  obtain ⟨x1, y1, rfl, rfl, rfl, w1x, w1y⟩ := open_two Try.underlying43 Try.underlying3 Try.underlying3 rfl rfl (by kernel_rfl) (by kernel_rfl) (by kernel_rfl) (hval 1 43 v1 rfl rfl) h1
  obtain ⟨a2, rfl, rfl, rfl, w2⟩ := open_int Try.underlying3 (hval 2 3 v2 rfl rfl) h2
  obtain ⟨a3, rfl, rfl, rfl, w3⟩ := open_int Try.underlying3 (hval 3 3 v3 rfl rfl) h3

  clear hA0 hval0
  refine (walk s0 x1 y1 a2 a3 w1x w1y w2 w3 W k0).mono fun e W' ⟨he, hg⟩ => ?_
  subst he
  exact ⟨_, rfl, law_post (by kernel_rfl) (by kernel_rfl) rfl (by kernel_rfl) Try.underlying4 hW' rfl hg⟩

theorem over : Rows.troopNearRow.holds Try.pinned (OpenSpec.ofChange Rows.troopNearSpec) :=
  OpenClaim.holds_of_wide 6 Try.f6 rfl rfl rfl rfl rfl rfl rfl ⟨rfl, rfl, rfl, rfl, rfl⟩ rfl rfl rfl rfl rfl (by kernel_rfl) Try.func6 (by kernel_rfl)
    (of_decide_eq_true (by kernel_rfl)) (by unfold Func.isWrapper; first | (rw [if_pos (by decide +kernel)]; kernel_rfl) | (rw [if_neg (by decide +kernel)]; exact ⟨rfl, rfl⟩))
    (fun os started H enc _ => lifted os started H enc)

theorem proved : Rows.TroopNearSaid :=
  over
end Go.Proofs.Ytibpobmeonfljaa.troopNear

namespace Go.Proofs.Ytibpobmeonfljaa
/-- Who looks farther sees all that there was, and more, and who sees is seen; for every world, every cell and any two reaches, with no condition. -/
theorem troopNear_holds : Rows.TroopNearSaid := troopNear.proved
#print axioms troopNear_holds
end Go.Proofs.Ytibpobmeonfljaa
