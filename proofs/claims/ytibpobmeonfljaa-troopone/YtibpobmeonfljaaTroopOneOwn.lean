/- Who is found by its number is found where it stands, and nowhere else, and by whoever looks from there; for every world and every number, with no condition. -/
import Derived.Test.YtibpobmeonfljaaRows
import Derived.Test.YtibpobmeonfljaaPost
import Derived.Test.YtibpobmeonfljaaLi
import Derived.WalkKit
import Derived.ProofKit
import Derived.OpenShut

namespace Go.Proofs.Ytibpobmeonfljaa.troopOne
open Go.ChangeShapes Go.WideShapes Go.ChangeAt Go.RowKit
set_option linter.unusedVariables false

theorem own : ownKnob Try.prog.godebug = none := by kernel_rfl

theorem ixs_none {P : Trp → Bool} {lt : List Trp} {i : Nat} (h : ∀ j (hj : j < lt.length), P lt[j] = true ↔ j = i) : ∀ k, k ≤ i → k ≤ lt.length → ixs P lt k = []
  | 0, _, _ => rfl
  | k + 1, h1, h2 => by
    rw [ixs_succ (by omega), ixs_none h k (by omega) (by omega)]
    have : P lt[k] ≠ true := fun e => by have := (h k (by omega)).1 e; omega
    simp [this]
theorem ixs_single {P : Trp → Bool} {lt : List Trp} {i : Nat} (h : ∀ j (hj : j < lt.length), P lt[j] = true ↔ j = i) (hi : i < lt.length) : ∀ k, i < k → k ≤ lt.length → ixs P lt k = [(i : Int)] := by
  intro k
  induction k with
  | zero => intro h1; omega
  | succ k ih =>
    intro h1 h2
    rw [ixs_succ (by omega)]
    by_cases e : k = i
    · subst e
      rw [ixs_none h k (Nat.le_refl _) (by omega), if_pos ((h k (by omega)).2 rfl)]; rfl
    · rw [ih (by omega) (by omega), if_neg (fun e2 => e ((h k (by omega)).1 e2))]; rfl
theorem cell_inj {lt : List Trp} (hnd : (lt.map Trp.c).Nodup) {i j : Nat} (hi : i < lt.length) (hj : j < lt.length) (h : lt[i].c = lt[j].c) : i = j := by
  have hp := List.pairwise_iff_getElem.1 hnd
  rcases Nat.lt_trichotomy i j with hlt | rfl | hlt
  · exact absurd (by rw [List.getElem_map, List.getElem_map]; exact h) (hp i j (by simpa using hi) (by simpa using hj) hlt)
  · rfl
  · exact absurd (by rw [List.getElem_map, List.getElem_map]; exact h.symm) (hp j i (by simpa using hj) (by simpa using hi) hlt)
/-- Who is found stands there, and nobody else is as near. -/
theorem one_all {s : Wld} {W H i : Nat} (hk : okw s W H) (hl : s.lt.length = s.nt) (hi : i < s.lt.length) :
    (∀ r b, fndr s (fun t => t.c = ⟨s.lt[i].x, s.lt[i].y⟩) 0 r b → r = i ∧ b = true) ∧ ner 0 0 = 0 ∧ nel s 0 s.lt[i].x s.lt[i].y 0 = [s.lt[i].i] := by
  have hnd := hk.tr.2.2
  refine ⟨fun r b h => ?_, by decide, ?_⟩
  · rcases h with ⟨h, _⟩ | ⟨_, ⟨_, _, h⟩ | ⟨h1, j, hj, h2, h3⟩⟩
    · exact absurd rfl h
    · exact absurd rfl (h s.lt[i] (List.getElem_mem hi))
    · have := cell_inj hnd hj hi h3
      subst this
      exact ⟨h2, h1⟩
  · unfold nel
    rw [if_pos (by decide)]
    rw [ixs_single (i := i) (fun j hj => ?_) hi s.nt (by omega) (by omega)]
    · simp [idl, hi]
    · rw [nrb_iff]
      constructor
      · intro h
        refine cell_inj hnd hj hi ?_
        show (⟨s.lt[j].x, s.lt[j].y⟩ : Cel) = ⟨s.lt[i].x, s.lt[i].y⟩
        rw [show s.lt[j].x = s.lt[i].x by omega, show s.lt[j].y = s.lt[i].y by omega]
      · intro e; subst e; omega

set_option maxRecDepth 20000 in
set_option maxHeartbeats 4000000 in
theorem walk (s0 : Wld) (a1 : Int) (w1 : (Lit.int .i64 a1).wf = true) (w : World) (h0 : s0.fit w) :
    Calls Try.prog 5 #[s0.val, .int .i64 a1] w fun e w' => e = .returned (.bool true) ∧ Below w.heap.size w w' := by
  clear w1
  obtain ⟨E, hE⟩ := wre_total s0
  have HFI : Hid (∀ V, Below w.heap.size w V → Calls Try.prog 17 #[s0.val, .int .i64 a1] V fun e w' => (∃ r b, e = .returned (.tuple #[.int .i64 r, .bool b, .int .i64 E]) ∧ Hid (fndr s0 (fun t => t.i = a1) E r b)) ∧ Below V.heap.size V w') := fun V hV => Find_any s0 a1 E V (Wld.fit_below h0 hV) hE
  have HON : Hid (∀ V i (hi : i < s0.lt.length), E = 0 → Below w.heap.size w V → Calls Try.prog 19 #[s0.val, .agg #[.int .i64 s0.lt[i].x, .int .i64 s0.lt[i].y]] V fun e w' => e = .returned (.tuple #[.int .i64 (i : Int), .bool true, .int .i64 0]) ∧ Below V.heap.size V w') := fun V i hi he hV => by
    subst he
    obtain ⟨W, H, hk⟩ := wre_ok hE
    have hf := h0.xt _ (List.getElem_mem hi)
    refine (On_any s0 _ _ 0 V (Wld.fit_below h0 hV) hf.2.2.2.1 hf.2.2.2.2.1 hE).mono ?_
    rintro e w' ⟨⟨r, b, rfl, hfd⟩, hb⟩
    obtain ⟨rfl, rfl⟩ := (one_all hk h0.ht hi).1 r b hfd.out
    exact ⟨rfl, hb⟩
  have HNR : Hid (∀ V i (hi : i < s0.lt.length), E = 0 → Below w.heap.size w V → Calls Try.prog 21 #[s0.val, .agg #[.int .i64 s0.lt[i].x, .int .i64 s0.lt[i].y], .int .i64 0] V fun e w' => (∃ v, e = .returned (.tuple #[v, .int .i64 0]) ∧ mine 3 vi V.heap.size w' v [s0.lt[i].i]) ∧ Below V.heap.size V w') := fun V i hi he hV => by
    subst he
    obtain ⟨W, H, hk⟩ := wre_ok hE
    have := Near_any s0 s0.lt[i].x s0.lt[i].y 0 0 V (Wld.fit_below h0 hV) hE
    rw [(one_all hk h0.ht hi).2.1, (one_all hk h0.ht hi).2.2] at this
    exact this
  have rt := h0.rt
  have hlt := h0.ht
  clear h0 hE
  obtain ⟨A, B, p, n, c, l, pb, nb, cb, lb, ps, ns, cs, ls, pm, nm, cm, lm, pt, nt, ct, lt, N, T⟩ := s0
  have HFD : Hid (∀ r b, fndr ⟨A, B, p, n, c, l, pb, nb, cb, lb, ps, ns, cs, ls, pm, nm, cm, lm, pt, nt, ct, lt, N, T⟩ (fun t => t.i = a1) E r b → (b = false ∧ r = 0) ∨ (E = 0 ∧ b = true ∧ ∃ i : Nat, ∃ h : i < lt.length, r = i ∧ lt[i].i = a1)) := fun r b h => by
    rcases h with ⟨h, h1, h2⟩ | ⟨h, ⟨h1, h2, _⟩ | ⟨h1, h2⟩⟩
    · exact .inl ⟨h2, h1⟩
    · exact .inl ⟨h1, h2⟩
    · exact .inr ⟨h, h1, h2⟩
  unfold Wld.val at *
  dsimp only at *
  have HLT : Hid (lt.length = nt) := hlt
  obtain ⟨F, hF⟩ : ∃ F, w.heap.size = F := ⟨_, rfl⟩
  obtain ⟨w0, hw0⟩ : ∃ w0, w.alloc (.cells #[.int .i64 A, .int .i64 B, .slice p n c, .slice pb nb cb, .slice ps ns cs, .slice pm nm cm, .slice pt nt ct, .int .i64 N, .int .i64 T] 28) = w0 := ⟨_, rfl⟩
  have HBX : Hid (∀ V, Below w0.heap.size w0 V → c9 V F (.int .i64 A) (.int .i64 B) (.slice p n c) (.slice pb nb cb) (.slice ps ns cs) (.slice pm nm cm) (.slice pt nt ct) (.int .i64 N) (.int .i64 T)) := fun V hV => boxw hF hw0 hV
  have hB0 : Below w.heap.size w w0 := by rw [← hw0]; exact alloc_below _ _
  have HB0 : Hid (Below w.heap.size w w0) := hB0
  have HUP : Hid (∀ V, Below w0.heap.size w0 V → Below w.heap.size w V) := fun V hV => HB0.out.trans (hV.mono HB0.out.size)
  have HRT : Hid (trow w0 pt lt) := trow_below rt hB0
  obtain ⟨z0, z1, z2, z3, z4, z5, z6, z7, z8⟩ := HBX.out w0 (Below.refl _ _)
  clear hB0 rt hlt
  go_enter Try.func5, Try.ntmps5
  go_wp2_with fail
  refine (HFI.out w0 HB0.out).mono ?_
  rintro e w1 ⟨⟨r, b, rfl, hfd⟩, hb1⟩
  have HB1 : Hid (Below w0.heap.size w0 w1) := hb1
  have hcase := HFD.out r b hfd.out
  have HCASE : Hid ((b = false ∧ r = 0) ∨ (E = 0 ∧ b = true ∧ ∃ i : Nat, ∃ h : i < lt.length, r = i ∧ lt[i].i = a1)) := hcase
  clear z0 z1 z2 z3 z4 z5 z6 z7 z8 hb1 hw0 hfd hcase hF
  go_wp2_with fail
  refine (lives_any w1).mono ?_
  rintro e w2 ⟨rfl, hb2⟩
  have HB2 : Hid (Below w0.heap.size w0 w2) := below_upF HB1.out hb2
  clear hb2
  rcases HCASE.out with ⟨rfl, rfl⟩ | ⟨rfl, rfl, i, hi, rfl, hid⟩
  · by_cases hE0 : E = 0
    · subst hE0
      go_wp2_with fail
      refine (lives_any w2).mono ?_
      rintro e w3 ⟨rfl, hb3⟩
      have HB3 : Hid (Below w0.heap.size w0 w3) := below_upF HB2.out hb3
      clear hb3
      go_wp2_with fail
      go_ret
      exact ⟨rfl, HUP.out w3 HB3.out⟩
    · have d1 : (E != 0) = true := by simp [hE0]
      go_wp2_with fail
      refine (lives_any w2).mono ?_
      rintro e w3 ⟨rfl, hb3⟩
      have HB3 : Hid (Below w0.heap.size w0 w3) := below_upF HB2.out hb3
      clear hb3
      go_wp2_with fail
      go_ret
      exact ⟨rfl, HUP.out w3 HB3.out⟩
  · obtain ⟨a, rfl, hc⟩ := trow_at (trow_below HRT.out HB2.out) hi
    have HON1 := fun V hV => HON.out V i hi rfl hV
    have HNR1 := fun V hV => HNR.out V i hi rfl hV
    obtain ⟨t, ht⟩ : ∃ t, lt[i] = t := ⟨_, rfl⟩
    rw [ht] at hc hid HON1 HNR1
    obtain ⟨ti, to_, tk, tx, ty, tf, td⟩ := t
    obtain ⟨c0, c1, c2, c3, c4, c5, c6⟩ := hc
    simp only at c0 c1 c2 c3 c4 c5 c6 hid HON1 HNR1
    subst hid
    have HON2 : Hid (∀ V, Below w.heap.size w V → Calls Try.prog 19 #[.agg #[.int .i64 A, .int .i64 B, .slice p n c, .slice pb nb cb, .slice ps ns cs, .slice pm nm cm, .slice (some a) nt ct, .int .i64 N, .int .i64 T], .agg #[.int .i64 tx, .int .i64 ty]] V fun e w' => e = .returned (.tuple #[.int .i64 (i : Int), .bool true, .int .i64 0]) ∧ Below V.heap.size V w') := HON1
    have HNR2 : Hid (∀ V, Below w.heap.size w V → Calls Try.prog 21 #[.agg #[.int .i64 A, .int .i64 B, .slice p n c, .slice pb nb cb, .slice ps ns cs, .slice pm nm cm, .slice (some a) nt ct, .int .i64 N, .int .i64 T], .agg #[.int .i64 tx, .int .i64 ty], .int .i64 0] V fun e w' => (∃ v, e = .returned (.tuple #[v, .int .i64 0]) ∧ mine 3 vi V.heap.size w' v [ti]) ∧ Below V.heap.size V w') := HNR1
    obtain ⟨w4, hw4⟩ : ∃ w4, w2.alloc (.cells #[.int .i64 ti, .int .i64 to_, .int .i64 tk, .int .i64 tx, .int .i64 ty, .int .i64 tf, .int .i64 td] 47) = w4 := ⟨_, rfl⟩
    obtain ⟨G, hG⟩ : ∃ G, w2.heap.size = G := ⟨_, rfl⟩
    have HBT : Hid (∀ V, Below w4.heap.size w4 V → V.cell? ⟨G, 0, none⟩ = some (.int .i64 ti) ∧ V.cell? ⟨G, 1, none⟩ = some (.int .i64 to_) ∧ V.cell? ⟨G, 2, none⟩ = some (.int .i64 tk) ∧ V.cell? ⟨G, 3, none⟩ = some (.int .i64 tx) ∧ V.cell? ⟨G, 4, none⟩ = some (.int .i64 ty) ∧ V.cell? ⟨G, 5, none⟩ = some (.int .i64 tf) ∧ V.cell? ⟨G, 6, none⟩ = some (.int .i64 td)) := fun V hV => boxt hG hw4 hV
    have hB4 : Below w0.heap.size w0 w4 := by rw [← hw4]; exact HB2.out.alloc HB2.out.size _
    have HB4 : Hid (Below w0.heap.size w0 w4) := hB4
    obtain ⟨u0, u1, u2, u3, u4, u5, u6, u7, u8⟩ := HBX.out w2 HB2.out
    obtain ⟨t0, t1, t2, t3, t4, t5, t6, t7, t8⟩ := HBX.out w4 hB4
    obtain ⟨g0, g1, g2, g3, g4, g5, g6⟩ := HBT.out w4 (Below.refl _ _)
    have l1 : (i : Int) < nt := by rw [← HLT.out]; omega
    have l2 : (0 : Int) ≤ i := by omega
    clear hB4 ht HON HNR HON1 HNR1 hi
    go_wp2_with fail
    refine (HON2.out w4 (HUP.out w4 HB4.out)).mono ?_
    rintro e w5 ⟨rfl, hb5⟩
    have HB45 : Hid (Below w4.heap.size w4 w5) := hb5
    have HB5 : Hid (Below w0.heap.size w0 w5) := below_upF HB4.out hb5
    clear t0 t1 t2 t3 t4 t5 t6 t7 t8 g0 g1 g2 g3 g4 g5 g6 u0 u1 u2 u3 u4 u5 u6 u7 u8 hw4 hb5 c0 c1 c2 c3 c4 c5 c6
    obtain ⟨t0, t1, t2, t3, t4, t5, t6, t7, t8⟩ := HBX.out w5 HB5.out
    obtain ⟨g0, g1, g2, g3, g4, g5, g6⟩ := HBT.out w5 HB45.out
    go_wp2_with fail
    refine (HNR2.out w5 (HUP.out w5 HB5.out)).mono ?_
    rintro e w6 ⟨⟨v, rfl, hm⟩, hb6⟩
    have HB46 : Hid (Below w4.heap.size w4 w6) := below_upF HB45.out hb6
    have HB6 : Hid (Below w0.heap.size w0 w6) := below_upF HB5.out hb6
    obtain ⟨q, cap, rfl, hr, -, -⟩ := mine_full hm
    have HR : Hid (row vi w6 q [ti]) := hr
    have e1 : ([ti] : List Int).length = 1 := rfl
    rw [e1]
    clear t0 t1 t2 t3 t4 t5 t6 t7 t8 g0 g1 g2 g3 g4 g5 g6 hb6 hm hr e1
    obtain ⟨g0, -, -, -, -, -, -⟩ := HBT.out w6 HB46.out
    go_wp2_with fail
    have HB7 : Hid (Below w6.heap.size w6 (w6.alloc (.cells #[.int .i64 ti] 3))) := alloc_below _ _
    have HR2 : Hid (row vi (w6.alloc (.cells #[.int .i64 ti] 3)) (some ⟨w6.heap.size, 0, none⟩) [ti]) := row_heap (L := [ti]) (World.alloc_heap_new w6 _)
    refine (Equal_b q (some ⟨w6.heap.size, 0, none⟩) 1 cap 1 [ti] _ rfl (by omega) (row_below HR.out HB7.out) HR2.out).mono ?_
    rintro e w8 ⟨rfl, hb8⟩
    have HB8 : Hid (Below w0.heap.size w0 w8) := below_upF (below_upF HB6.out HB7.out) hb8
    clear hb8
    go_wp2_with fail
    go_ret
    exact ⟨rfl, HUP.out w8 HB8.out⟩

set_option maxRecDepth 100000 in
theorem lifted (os : Os) (started : os.Started) (H : Type) (enc : TypeId × Value → H) :
    ReturnsInHanded {} Try.checked os 5 .any (Rows.troopOneSpec.pre6 enc Try.prog Try.f5 Rows.troopOneRow.domain false) (Rows.troopOneSpec.post enc Try.prog Try.f5 false true false false) := by
  refine returnsInHanded_of_change (C := Try.checked) own started (by kernel_rfl) Try.func5
    (ChangeSpec.witness6 (enc := enc) (C := Try.checked) false ⟨#[], #[.agg #[.int .i64 0, .int .i64 0, .slice none 0 0, .slice none 0 0, .slice none 0 0, .slice none 0 0, .slice none 0 0, .int .i64 0, .int .i64 0], .int .i64 0], []⟩ 8 (by kernel_rfl) (by kernel_rfl) (by kernel_rfl) (by kernel_rfl)) ?_
  intro W base args ds gs before hval0 hW hcnd _
  have hval : ∀ (j : Nat) t v, Try.f5.params[j]? = some t → args[j]? = some v → Value.okWide Try.prog W .any base t v := hval0
  have hW' := hW
  obtain ⟨p, q, hA0, hV, rfl, hfz, hnd⟩ := hW
  have hA : DataW.TrodAll enc Try.prog W 0 (fun _ => true) true Try.f5.params.toList args.toList ds p := hA0
  rw [Try.params5] at hA hval
  obtain ⟨v0, vs0, d0, ds0, p0, q0, hargs, rfl, rfl, h0, r0⟩ := trodAll_cons hA
  obtain ⟨v1, vs1, d1, ds1, p1, q1, rfl, rfl, rfl, h1, r1⟩ := trodAll_cons r0
  obtain ⟨rfl, rfl, rfl⟩ := trodAll_nil r1
  obtain rfl : args = #[v0, v1] := by cases args; simp_all
  obtain ⟨rfl, rfl⟩ := trodVars_none hV
  obtain ⟨s0, rfl, k0⟩ := open_wld (hval 0 28 v0 rfl rfl) h0
  obtain ⟨a1, rfl, rfl, rfl, w1⟩ := open_int Try.underlying3 (hval 1 3 v1 rfl rfl) h1

  clear hA0 hval0
  refine (walk s0 a1 w1 W k0).mono fun e W' ⟨he, hg⟩ => ?_
  subst he
  exact ⟨_, rfl, law_post (by kernel_rfl) (by kernel_rfl) rfl (by kernel_rfl) Try.underlying4 hW' rfl hg⟩

theorem over : Rows.troopOneRow.holds Try.pinned (OpenSpec.ofChange Rows.troopOneSpec) :=
  OpenClaim.holds_of_wide 5 Try.f5 rfl rfl rfl rfl rfl rfl rfl ⟨rfl, rfl, rfl, rfl, rfl⟩ rfl rfl rfl rfl rfl (by kernel_rfl) Try.func5 (by kernel_rfl)
    (of_decide_eq_true (by kernel_rfl)) (by unfold Func.isWrapper; first | (rw [if_pos (by decide +kernel)]; kernel_rfl) | (rw [if_neg (by decide +kernel)]; exact ⟨rfl, rfl⟩))
    (fun os started H enc _ => lifted os started H enc)

theorem proved : Rows.TroopOneSaid :=
  over
end Go.Proofs.Ytibpobmeonfljaa.troopOne

namespace Go.Proofs.Ytibpobmeonfljaa
/-- Who is found by its number is found where it stands, and nowhere else, and by whoever looks from there; for every world and every number, with no condition. -/
theorem troopOne_holds : Rows.TroopOneSaid := troopOne.proved
#print axioms troopOne_holds
end Go.Proofs.Ytibpobmeonfljaa
