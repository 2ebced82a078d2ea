/- Whatever is handed in, Find, On and Near answer what the document says; for every world, number, cell and reach, with no condition. -/
import Derived.Test.YtibpobmeonfljaaRows
import Derived.Test.YtibpobmeonfljaaPost
import Derived.Test.YtibpobmeonfljaaFc
import Derived.WalkKit
import Derived.ProofKit
import Derived.OpenShut

namespace Go.Proofs.Ytibpobmeonfljaa.troopFinds
open Go.ChangeShapes Go.WideShapes Go.ChangeAt Go.RowKit
set_option linter.unusedVariables false

theorem own : ownKnob Try.prog.godebug = none := by kernel_rfl

theorem box912 {w w0 V : World} {a b c d e f g h i : Value} {r' a' b' : Value} {t t' t2 : TypeId} {F : Nat} (hF : w.heap.size = F) (hw : ((w.alloc (.cells #[a, b, c, d, e, f, g, h, i] t)).alloc (.cells #[r'] t')).alloc (.cells #[a', b'] t2) = w0) (hb : Below w0.heap.size w0 V) :
    c9 V F a b c d e f g h i ∧ V.cell? ⟨F + 1, 0, none⟩ = some r' ∧ V.cell? ⟨F + 1 + 1, 0, none⟩ = some a' ∧ V.cell? ⟨F + 1 + 1, 1, none⟩ = some b' := by
  have hb1 : Below ((w.alloc (.cells #[a, b, c, d, e, f, g, h, i] t)).alloc (.cells #[r'] t')).heap.size ((w.alloc (.cells #[a, b, c, d, e, f, g, h, i] t)).alloc (.cells #[r'] t')) V := by
    have : Below ((w.alloc (.cells #[a, b, c, d, e, f, g, h, i] t)).alloc (.cells #[r'] t')).heap.size ((w.alloc (.cells #[a, b, c, d, e, f, g, h, i] t)).alloc (.cells #[r'] t')) w0 := by rw [← hw]; exact alloc_below _ _
    exact this.trans (hb.mono this.size)
  obtain ⟨k1, k2⟩ := box91 hF rfl hb1
  refine ⟨k1, k2, ?_, ?_⟩
  all_goals
    subst hw hF
    rw [hb.cell (by simp)]
    simp [go_sem]
theorem id_one {lt : List Trp} (hp : lt.Pairwise (fun a b => a.i < b.i)) {i j : Nat} (hi : i < lt.length) (hj : j < lt.length) (h : lt[i].i = lt[j].i) : i = j := by
  have hp := List.pairwise_iff_getElem.1 hp
  rcases Nat.lt_trichotomy i j with hlt | rfl | hlt
  · have := hp i j hi hj hlt; omega
  · rfl
  · have := hp j i hj hi hlt; omega
theorem cell_one {lt : List Trp} (hnd : (lt.map Trp.c).Nodup) {i j : Nat} (hi : i < lt.length) (hj : j < lt.length) (h : lt[i].c = lt[j].c) : i = j := by
  have hp := List.pairwise_iff_getElem.1 hnd
  rcases Nat.lt_trichotomy i j with hlt | rfl | hlt
  · exact absurd (by rw [List.getElem_map, List.getElem_map]; exact h) (hp i j (by simpa using hi) (by simpa using hj) hlt)
  · rfl
  · exact absurd (by rw [List.getElem_map, List.getElem_map]; exact h.symm) (hp j i (by simpa using hj) (by simpa using hi) hlt)
theorem idl_snoc {P : Trp → Bool} {lt : List Trp} {k : Nat} (hk : k < lt.length) : idl lt (ixs P lt (k + 1)) = idl lt (ixs P lt k) ++ if P lt[k] then [lt[k].i] else [] := by
  rw [ixs_succ hk]
  unfold idl
  rw [List.map_append]
  split
  · simp [List.getElem?_eq_getElem hk]
  · simp

set_option maxRecDepth 20000 in
set_option maxHeartbeats 4000000 in
theorem walk (s0 : Wld) (a1 : Int) (x2 y2 : Int) (a3 : Int) (w1 : (Lit.int .i64 a1).wf = true) (w2x : (Lit.int .i64 x2).wf = true) (w2y : (Lit.int .i64 y2).wf = true) (w3 : (Lit.int .i64 a3).wf = true) (w : World) (h0 : s0.fit w) :
    Calls Try.prog 4 #[s0.val, .int .i64 a1, .agg #[.int .i64 x2, .int .i64 y2], .int .i64 a3] w fun e w' => e = .returned (.bool true) ∧ Below w.heap.size w w' := by
  have hx2 : fits x2 := int_of w2x
  have hy2 : fits y2 := int_of w2y
  clear w1 w2x w2y w3
  obtain ⟨E, hE⟩ := wre_total s0
  have HWR : Hid (∀ V, Below w.heap.size w V → Calls Try.prog 12 #[s0.val] V fun e w' => e = .returned (.int .i64 E) ∧ Below V.heap.size V w') := fun V hV => WorldRight_at s0 E V (Wld.fit_below h0 hV) hE
  have HFI : Hid (∀ V, Below w.heap.size w V → Calls Try.prog 17 #[s0.val, .int .i64 a1] V fun e w' => (∃ r b, e = .returned (.tuple #[.int .i64 r, .bool b, .int .i64 E]) ∧ Hid (fndr s0 (fun t => t.i = a1) E r b)) ∧ Below V.heap.size V w') := fun V hV => Find_any s0 a1 E V (Wld.fit_below h0 hV) hE
  have HON : Hid (∀ V, Below w.heap.size w V → Calls Try.prog 19 #[s0.val, .agg #[.int .i64 x2, .int .i64 y2]] V fun e w' => (∃ r b, e = .returned (.tuple #[.int .i64 r, .bool b, .int .i64 E]) ∧ Hid (fndr s0 (fun t => t.c = ⟨x2, y2⟩) E r b)) ∧ Below V.heap.size V w') := fun V hV => On_any s0 x2 y2 E V (Wld.fit_below h0 hV) hx2 hy2 hE
  have HNR : Hid (∀ V, Below w.heap.size w V → Calls Try.prog 21 #[s0.val, .agg #[.int .i64 x2, .int .i64 y2], .int .i64 a3] V fun e w' => (∃ v, e = .returned (.tuple #[v, .int .i64 (ner E a3)]) ∧ mine 3 vi V.heap.size w' v (nel s0 E x2 y2 a3)) ∧ Below V.heap.size V w') := fun V hV => Near_any s0 x2 y2 a3 E V (Wld.fit_below h0 hV) hE
  have HT2 : Hid (∀ V F R, Below w.heap.size w V → V.cell? ⟨F, 6, none⟩ = some (.slice s0.pt s0.nt s0.ct) → V.cell? ⟨R, 0, none⟩ = some (.int .i64 E) → V.cell? ⟨F + 1, 0, none⟩ = some (.int .i64 a1) → Calls Try.prog 15 #[.func (.func 18) #[] #[.pointer (some ⟨F + 1, 0, none⟩)], .pointer (some ⟨F, 0, none⟩), .pointer (some ⟨R, 0, none⟩)] V fun e w' => (∃ r b, e = .returned (.tuple #[.int .i64 r, .bool b]) ∧ Hid (fndr s0 (fun t => (t.i == a1) = true) E r b)) ∧ Below V.heap.size V w') := fun V F R hV k0 k1 k2 =>
    TF1_at Try.call18 _ s0 (fun t => t.i == a1) E F R V k0 k1 (trow_below h0.rt hV) h0.ht h0.mt (fun t V' ht hV' => TF2_at t a1 _ V' ((hV'.cell (cell_lt k2)).trans k2))
  have HT3 : Hid (∀ V F R, Below w.heap.size w V → V.cell? ⟨F, 6, none⟩ = some (.slice s0.pt s0.nt s0.ct) → V.cell? ⟨R, 0, none⟩ = some (.int .i64 E) → V.cell? ⟨F + 1 + 1, 0, none⟩ = some (.int .i64 x2) → V.cell? ⟨F + 1 + 1, 1, none⟩ = some (.int .i64 y2) → Calls Try.prog 15 #[.func (.func 20) #[] #[.pointer (some ⟨F + 1 + 1, 0, none⟩)], .pointer (some ⟨F, 0, none⟩), .pointer (some ⟨R, 0, none⟩)] V fun e w' => (∃ r b, e = .returned (.tuple #[.int .i64 r, .bool b]) ∧ Hid (fndr s0 (fun t => onb x2 y2 t = true) E r b)) ∧ Below V.heap.size V w') := fun V F R hV k0 k1 k2 k3 =>
    TF1_at Try.call20 _ s0 (fun t => onb x2 y2 t) E F R V k0 k1 (trow_below h0.rt hV) h0.ht h0.mt (fun t V' ht hV' => TF3_at t x2 y2 _ V' ((hV'.cell (cell_lt k2)).trans k2) ((hV'.cell (cell_lt k3)).trans k3))
  have HU1 : Hid (∀ r b r' b', fndr s0 (fun t => t.i = a1) E r b → fndr s0 (fun t => (t.i == a1) = true) E r' b' → r = r' ∧ b = b') := fun r b r' b' h h' =>
    fnd_one (fun t => by simp) (fun e i hi j hj h1 h2 => by
      subst e
      obtain ⟨W, H, hk⟩ := wre_ok hE
      exact id_one hk.tr.2.1 hi hj (by rw [h1, h2])) h h'
  have HU2 : Hid (∀ r b r' b', fndr s0 (fun t => t.c = ⟨x2, y2⟩) E r b → fndr s0 (fun t => onb x2 y2 t = true) E r' b' → r = r' ∧ b = b') := fun r b r' b' h h' =>
    fnd_one (fun t => onb_iff.symm) (fun e i hi j hj h1 h2 => by
      subst e
      obtain ⟨W, H, hk⟩ := wre_ok hE
      exact cell_one hk.tr.2.2 hi hj (by rw [h1, h2])) h h'
  have HOK : Hid (E = 0 → s0.nt ≤ 100 ∧ ∀ t ∈ s0.lt, 0 ≤ t.x ∧ t.x ≤ 40 ∧ 0 ≤ t.y ∧ t.y ≤ 40) := fun e => by
    subst e
    obtain ⟨W, H, hk⟩ := wre_ok hE
    refine ⟨hk.nt, fun t ht => ?_⟩
    obtain ⟨i, hi, e⟩ := List.getElem_of_mem ht
    have := (hk.tr.1 i hi).2.2.2.2.2.1
    rw [e] at this
    exact opn_near hk.f.1.2 hk.f.2.1.2 this
  have rt := h0.rt
  have hlt := h0.ht
  have mt := h0.mt
  clear h0 hE hx2 hy2
  obtain ⟨A, B, p, n, c, l, pb, nb, cb, lb, ps, ns, cs, ls, pm, nm, cm, lm, pt, nt, ct, lt, N, T⟩ := s0
  obtain ⟨s0, hs0⟩ : ∃ s : Wld, (⟨A, B, p, n, c, l, pb, nb, cb, lb, ps, ns, cs, ls, pm, nm, cm, lm, pt, nt, ct, lt, N, T⟩ : Wld) = s := ⟨_, rfl⟩
  have HS0 : Hid (s0.lt = lt ∧ s0.nt = nt ∧ s0.pt = pt ∧ s0.ct = ct) := by rw [← hs0]; exact ⟨rfl, rfl, rfl, rfl⟩
  have esv : Wld.val s0 = .agg #[.int .i64 A, .int .i64 B, .slice p n c, .slice pb nb cb, .slice ps ns cs, .slice pm nm cm, .slice pt nt ct, .int .i64 N, .int .i64 T] := by rw [← hs0]; rfl
  rw [hs0, esv] at HWR HFI HON HNR
  rw [hs0] at HT2 HT3 HU1 HU2 HOK
  rw [HS0.out.2.1, HS0.out.2.2.1, HS0.out.2.2.2] at HT2 HT3
  rw [HS0.out.1, HS0.out.2.1] at HOK
  rw [hs0, esv]
  have HLT : Hid (lt.length = nt) := hlt
  obtain ⟨F, hF⟩ : ∃ F, w.heap.size = F := ⟨_, rfl⟩
  obtain ⟨w0, hw0⟩ : ∃ w0, ((w.alloc (.cells #[.int .i64 A, .int .i64 B, .slice p n c, .slice pb nb cb, .slice ps ns cs, .slice pm nm cm, .slice pt nt ct, .int .i64 N, .int .i64 T] 28)).alloc (.cells #[.int .i64 a1] 3)).alloc (.cells #[.int .i64 x2, .int .i64 y2] 43) = w0 := ⟨_, rfl⟩
  have HBX : Hid (∀ V, Below w0.heap.size w0 V → c9 V F (.int .i64 A) (.int .i64 B) (.slice p n c) (.slice pb nb cb) (.slice ps ns cs) (.slice pm nm cm) (.slice pt nt ct) (.int .i64 N) (.int .i64 T) ∧ V.cell? ⟨F + 1, 0, none⟩ = some (.int .i64 a1) ∧ V.cell? ⟨F + 1 + 1, 0, none⟩ = some (.int .i64 x2) ∧ V.cell? ⟨F + 1 + 1, 1, none⟩ = some (.int .i64 y2)) := fun V hV => box912 hF hw0 hV
  have hB0 : Below w.heap.size w w0 := by rw [← hw0]; exact ((alloc_below _ _).alloc (by simp) _).alloc (by simp; omega) _
  have HB0 : Hid (Below w.heap.size w w0) := hB0
  have HUP : Hid (∀ V, Below w0.heap.size w0 V → Below w.heap.size w V) := fun V hV => HB0.out.trans (hV.mono HB0.out.size)
  have HRT : Hid (trow w0 pt lt) := trow_below rt hB0
  obtain ⟨⟨z0, z1, z2, z3, z4, z5, z6, z7, z8⟩, y0, y1, y3⟩ := HBX.out w0 (Below.refl _ _)
  clear hB0 rt hlt hs0 esv
  go_enter Try.func4, Try.ntmps4
  go_wp2_with fail
  refine (HWR.out w0 HB0.out).mono ?_
  rintro e V1 ⟨rfl, hb1⟩
  clear z0 z1 z2 z3 z4 z5 z6 z7 z8 y0 y1 y3 hw0 hF
  obtain ⟨R, hR⟩ : ∃ R, V1.heap.size = R := ⟨_, rfl⟩
  obtain ⟨V2, hV2⟩ : ∃ V, V1.alloc (.cells #[.int .i64 E] 31) = V := ⟨_, rfl⟩
  have hb2 : Below w0.heap.size w0 V2 := by rw [← hV2]; exact hb1.alloc hb1.size _
  have HB2 : Hid (Below w0.heap.size w0 V2) := hb2
  have HBR : Hid (∀ V, Below V2.heap.size V2 V → V.cell? ⟨R, 0, none⟩ = some (.int .i64 E)) := fun V hV => by
    have h1 : V2.cell? ⟨R, 0, none⟩ = some (.int .i64 E) := by rw [← hV2, ← hR]; exact new_one _ _ _
    exact (hV.cell (cell_lt h1)).trans h1
  obtain ⟨⟨z0, z1, z2, z3, z4, z5, z6, z7, z8⟩, y0, y1, y3⟩ := HBX.out V2 hb2
  have yr := HBR.out V2 (Below.refl _ _)
  clear hb1 hb2
  go_wp2_with fail
  refine (HFI.out V2 (HUP.out V2 HB2.out)).mono ?_
  rintro e V3 ⟨⟨r1, b1, rfl, hf1⟩, hb3⟩
  have HB23 : Hid (Below V2.heap.size V2 V3) := hb3
  have HB3 : Hid (Below w0.heap.size w0 V3) := below_upF HB2.out hb3
  have HF1 : Hid (fndr s0 (fun t => t.i = a1) E r1 b1) := hf1.out
  clear z0 z1 z2 z3 z4 z5 z6 z7 z8 y0 y1 y3 yr hb3 hf1 hV2 hR
  obtain ⟨⟨z0, z1, z2, z3, z4, z5, z6, z7, z8⟩, y0, y1, y3⟩ := HBX.out V3 HB3.out
  have yr := HBR.out V3 HB23.out
  go_wp2_with fail
  refine (HT2.out V3 F R (HUP.out V3 HB3.out) z6 yr y0).mono ?_
  rintro e V4 ⟨⟨r2, b2, rfl, hf2⟩, hb4⟩
  have HB24 : Hid (Below V2.heap.size V2 V4) := below_upF HB23.out hb4
  have HB4 : Hid (Below w0.heap.size w0 V4) := below_upF HB3.out hb4
  obtain ⟨e1, e2⟩ := HU1.out r1 b1 r2 b2 HF1.out hf2.out
  subst e1 e2
  clear z0 z1 z2 z3 z4 z5 z6 z7 z8 y0 y1 y3 yr hb4 hf2
  obtain ⟨⟨z0, z1, z2, z3, z4, z5, z6, z7, z8⟩, y0, y1, y3⟩ := HBX.out V4 HB4.out
  have yr := HBR.out V4 HB24.out
  go_wp2_with fail
  refine (HON.out V4 (HUP.out V4 HB4.out)).mono ?_
  rintro e V5 ⟨⟨r3, b3, rfl, hf3⟩, hb5⟩
  have HB25 : Hid (Below V2.heap.size V2 V5) := below_upF HB24.out hb5
  have HB5 : Hid (Below w0.heap.size w0 V5) := below_upF HB4.out hb5
  have HF3 : Hid (fndr s0 (fun t => t.c = ⟨x2, y2⟩) E r3 b3) := hf3.out
  clear z0 z1 z2 z3 z4 z5 z6 z7 z8 y0 y1 y3 yr hb5 hf3
  obtain ⟨⟨z0, z1, z2, z3, z4, z5, z6, z7, z8⟩, y0, y1, y3⟩ := HBX.out V5 HB5.out
  have yr := HBR.out V5 HB25.out
  go_wp2_with fail
  refine (HT3.out V5 F R (HUP.out V5 HB5.out) z6 yr y1 y3).mono ?_
  rintro e V6 ⟨⟨r4, b4, rfl, hf4⟩, hb6⟩
  have HB26 : Hid (Below V2.heap.size V2 V6) := below_upF HB25.out hb6
  have HB6 : Hid (Below w0.heap.size w0 V6) := below_upF HB5.out hb6
  obtain ⟨e1, e2⟩ := HU2.out r3 b3 r4 b4 HF3.out hf4.out
  subst e1 e2
  clear z0 z1 z2 z3 z4 z5 z6 z7 z8 y0 y1 y3 yr hb6 hf4
  obtain ⟨⟨z0, z1, z2, z3, z4, z5, z6, z7, z8⟩, y0, y1, y3⟩ := HBX.out V6 HB6.out
  have yr := HBR.out V6 HB26.out
  go_wp2_with fail
  refine (HNR.out V6 (HUP.out V6 HB6.out)).mono ?_
  rintro e V7 ⟨⟨v7, rfl, hm7⟩, hb7⟩
  have HB27 : Hid (Below V2.heap.size V2 V7) := below_upF HB26.out hb7
  have HB7 : Hid (Below w0.heap.size w0 V7) := below_upF HB6.out hb7
  obtain ⟨L, hL⟩ : ∃ L, nel s0 E x2 y2 a3 = L := ⟨_, rfl⟩
  obtain ⟨S, hS⟩ : ∃ S, ner E a3 = S := ⟨_, rfl⟩
  have HL : Hid (nel s0 E x2 y2 a3 = L) := hL
  have HSY : Hid (ner E a3 = S) := hS
  rw [hL] at hm7
  rw [hS]
  obtain ⟨q7, c7, rfl, hr7, -, -⟩ := mine_full hm7
  have HR7 : Hid (row vi V7 q7 L) := hr7
  obtain ⟨m7, hm7'⟩ : ∃ m, L.length = m := ⟨_, rfl⟩
  have HM7 : Hid (L.length = m7) := hm7'
  have HML : Hid (m7 ≤ 9223372036854775807) := by
    rw [← hm7', ← hL]
    unfold Hid nel
    split
    · unfold idl
      rw [List.length_map]
      have h1 := ixs_len (fun t => nrb t.x t.y x2 y2 a3) s0.lt s0.nt
      rw [HS0.out.2.1] at h1
      have h2 := ixs_len (fun t => nrb t.x t.y x2 y2 a3) s0.lt nt
      rw [HS0.out.2.1]
      omega
    · simp
  rw [hm7']
  clear z0 z1 z2 z3 z4 z5 z6 z7 z8 y0 y1 y3 yr hb7 hm7 hL hS hr7 hm7' HFI HON HNR HT2 HT3 HU1 HU2 HWR HF1 HF3
  obtain ⟨⟨z0, z1, z2, z3, z4, z5, z6, z7, z8⟩, y0, y1, y3⟩ := HBX.out V7 HB7.out
  have yr := HBR.out V7 HB27.out
  by_cases hE0 : E = 0
  · subst hE0
    obtain ⟨g, hg⟩ : ∃ g, (decide (0 ≤ a3) && decide (a3 ≤ 12)) = g := ⟨_, rfl⟩
    have HG : Hid ((decide (0 ≤ a3) && decide (a3 ≤ 12)) = g) := hg
    clear hg
    go_wp2_with fail
    refine (Between_at a3 0 12 g V7 HG).mono ?_
    rintro e w' ⟨rfl, hw⟩; subst w'
    cases g with
    | false =>
      have hS1 : S = 1 := by
        rw [← HSY.out]
        unfold ner
        rw [if_pos rfl, if_pos]
        have := HG.out
        simp at this
        omega
      subst hS1
      have hS0 : ¬ (1 : Int) = 0 := by omega
      have HLE : Hid (L = []) := by
        rw [← HL.out]
        unfold Hid nel
        rw [HSY.out, if_neg hS0]
      have d9 : ((1 : Int) == 0) = false := by decide
      go_wp2_with fail
      clear z0 z1 z2 z3 z4 z5 z6 z7 z8 y0 y1 y3 yr
      go_loopw [23, 74] (fun v i wr => ∃ k : Nat, i = .int .i64 (k : Int) ∧ k ≤ nt ∧ v = .slice none 0 0 ∧ Hid (Below V7.heap.size V7 wr ∧ True)) (fun _ i _ => nt - (intOf i).toNat)
      case atStart => exact ⟨0, rfl, by omega, rfl, Below.refl _ _, trivial⟩
      case round =>
        obtain ⟨k, rfl, hk, rfl, HS⟩ := hrel
        by_cases hkn : k < nt
        · have hkl : k < lt.length := by rw [HLT.out]; exact hkn
          obtain ⟨a, rfl, hc⟩ := trow_at (trow_below HRT.out (below_upF HB7.out HS.out.1)) hkl
          obtain ⟨t, ht⟩ : ∃ t, lt[k] = t := ⟨_, rfl⟩
          have HT : Hid (lt[k] = t) := ht
          rw [ht] at hc
          clear ht
          obtain ⟨ti, to_, tk, tx, ty, tf, td⟩ := t
          obtain ⟨c0, c1, c2, c3, c4, c5, c6⟩ := hc
          simp only at c0 c1 c2 c3 c4 c5 c6
          obtain ⟨V8, hV8⟩ : ∃ V, wr.alloc (.cells #[.int .i64 ti, .int .i64 to_, .int .i64 tk, .int .i64 tx, .int .i64 ty, .int .i64 tf, .int .i64 td] 47) = V := ⟨_, rfl⟩
          obtain ⟨G, hG⟩ : ∃ G, wr.heap.size = G := ⟨_, rfl⟩
          have HBT : Hid (∀ V, Below V8.heap.size V8 V → V.cell? ⟨G, 0, none⟩ = some (.int .i64 ti) ∧ V.cell? ⟨G, 1, none⟩ = some (.int .i64 to_) ∧ V.cell? ⟨G, 2, none⟩ = some (.int .i64 tk) ∧ V.cell? ⟨G, 3, none⟩ = some (.int .i64 tx) ∧ V.cell? ⟨G, 4, none⟩ = some (.int .i64 ty) ∧ V.cell? ⟨G, 5, none⟩ = some (.int .i64 tf) ∧ V.cell? ⟨G, 6, none⟩ = some (.int .i64 td)) := fun V hV => boxt hG hV8 hV
          have hb8 : Below wr.heap.size wr V8 := by rw [← hV8]; exact alloc_below _ _
          have HB78 : Hid (Below V7.heap.size V7 V8) := below_upF HS.out.1 hb8
          obtain ⟨⟨z0, z1, z2, z3, z4, z5, z6, z7, z8⟩, y0, y1, y3⟩ := HBX.out V8 (below_upF HB7.out HB78.out)
          obtain ⟨g0, g1, g2, g3, g4, g5, g6⟩ := HBT.out V8 (Below.refl _ _)
          have l1 : (k : Int) < nt := by omega
          have l2 : (0 : Int) ≤ k := by omega
          clear hb8
          go_wp2_with fail
          go_roundw
          case rel => exact ⟨k + 1, by go_num, by omega, rfl, HB78.out, trivial⟩
          case measure => simp [intOf]; omega
        · obtain ⟨V9, hV9⟩ : ∃ V9 : World, V9 = wr := ⟨_, rfl⟩
          subst hV9
          have HB79 : Hid (Below V7.heap.size V7 V9) := HS.out.1
          have hm0 : m7 = 0 := by rw [← HM7.out, HLE.out]; rfl
          subst hm0
          have HR9 : Hid (row vi V9 none L) := by unfold Hid; rw [HLE.out]; exact row_nil _ _ _
          have yr := HBR.out V9 (below_upF HB27.out HB79.out)
          go_wp2_with fail
          refine (Equal_b q7 none 0 c7 0 L V9 HM7.out HML.out (row_below HR7.out HB79.out) HR9.out).mono ?_
          rintro e V10 ⟨rfl, hb10⟩
          have HB10 : Hid (Below w0.heap.size w0 V10) := below_upF HB7.out (below_upF HB79.out hb10)
          clear hb10 yr
          go_wp2_with fail
          go_ret
          exact ⟨by simp, HUP.out V10 HB10.out⟩
    | true =>
      have hr03 : 0 ≤ a3 ∧ a3 ≤ 12 := by have := HG.out; simpa using this
      obtain ⟨r03, r12⟩ := hr03
      have hS1 : S = 0 := by
        rw [← HSY.out]
        unfold ner
        rw [if_pos rfl, if_neg (by omega)]
      subst hS1
      have HLE : Hid (L = idl lt (ixs (fun t => nrb t.x t.y x2 y2 a3) lt nt)) := by
        rw [← HL.out]
        unfold Hid nel
        rw [HSY.out, if_pos rfl, HS0.out.1, HS0.out.2.1]
      obtain ⟨hnt, hcells⟩ := HOK.out (by first | rfl | trivial)
      have HCE : Hid (∀ t ∈ lt, 0 ≤ t.x ∧ t.x ≤ 40 ∧ 0 ≤ t.y ∧ t.y ≤ 40) := hcells
      clear hcells
      go_wp2_with fail
      clear z0 z1 z2 z3 z4 z5 z6 z7 z8 y0 y1 y3 yr
      go_loopw [23, 74] (fun v i wr => ∃ k : Nat, i = .int .i64 (k : Int) ∧ k ≤ nt ∧ Hid (Below V7.heap.size V7 wr ∧ mine 3 vi V7.heap.size wr v (idl lt (ixs (fun t => nrb t.x t.y x2 y2 a3) lt k)))) (fun _ i _ => nt - (intOf i).toNat)
      case atStart => exact ⟨0, rfl, by omega, Below.refl _ _, mine_nil _ _ _ _⟩
      case round =>
        obtain ⟨k, rfl, hk, HS⟩ := hrel
        by_cases hkn : k < nt
        · have hkl : k < lt.length := by rw [HLT.out]; exact hkn
          have hcl := HCE.out _ (List.getElem_mem hkl)
          obtain ⟨a, rfl, hc⟩ := trow_at (trow_below HRT.out (below_upF HB7.out HS.out.1)) hkl
          obtain ⟨t, ht⟩ : ∃ t, lt[k] = t := ⟨_, rfl⟩
          have HT : Hid (lt[k] = t) := ht
          rw [ht] at hc hcl
          clear ht
          obtain ⟨ti, to_, tk, tx, ty, tf, td⟩ := t
          obtain ⟨c0, c1, c2, c3, c4, c5, c6⟩ := hc
          simp only at c0 c1 c2 c3 c4 c5 c6
          obtain ⟨V8, hV8⟩ : ∃ V, wr.alloc (.cells #[.int .i64 ti, .int .i64 to_, .int .i64 tk, .int .i64 tx, .int .i64 ty, .int .i64 tf, .int .i64 td] 47) = V := ⟨_, rfl⟩
          obtain ⟨G, hG⟩ : ∃ G, wr.heap.size = G := ⟨_, rfl⟩
          have HBT : Hid (∀ V, Below V8.heap.size V8 V → V.cell? ⟨G, 0, none⟩ = some (.int .i64 ti) ∧ V.cell? ⟨G, 1, none⟩ = some (.int .i64 to_) ∧ V.cell? ⟨G, 2, none⟩ = some (.int .i64 tk) ∧ V.cell? ⟨G, 3, none⟩ = some (.int .i64 tx) ∧ V.cell? ⟨G, 4, none⟩ = some (.int .i64 ty) ∧ V.cell? ⟨G, 5, none⟩ = some (.int .i64 tf) ∧ V.cell? ⟨G, 6, none⟩ = some (.int .i64 td)) := fun V hV => boxt hG hV8 hV
          have hb8 : Below wr.heap.size wr V8 := by rw [← hV8]; exact alloc_below _ _
          have HB78 : Hid (Below V7.heap.size V7 V8) := below_upF HS.out.1 hb8
          obtain ⟨⟨z0, z1, z2, z3, z4, z5, z6, z7, z8⟩, y0, y1, y3⟩ := HBX.out V8 (below_upF HB7.out HB78.out)
          obtain ⟨g0, g1, g2, g3, g4, g5, g6⟩ := HBT.out V8 (Below.refl _ _)
          have l1 : (k : Int) < nt := by omega
          have l2 : (0 : Int) ≤ k := by omega
          clear hb8
          simp only at hcl
          obtain ⟨o1, o2, o3, o4⟩ := hcl
          have HM8 : Hid (mine 3 vi V7.heap.size V8 u23 (idl lt (ixs (fun t => nrb t.x t.y x2 y2 a3) lt k))) := mine_below HS.out.2 (by rw [← hV8]; exact alloc_below _ _)
          obtain ⟨f1, hf1⟩ : ∃ b, (decide (tx - a3 ≤ x2) && decide (x2 ≤ tx + a3)) = b := ⟨_, rfl⟩
          obtain ⟨f2, hf2⟩ : ∃ b, (decide (ty - a3 ≤ y2) && decide (y2 ≤ ty + a3)) = b := ⟨_, rfl⟩
          have HF1 : Hid ((decide (tx - a3 ≤ x2) && decide (x2 ≤ tx + a3)) = f1) := hf1
          have HF2 : Hid ((decide (ty - a3 ≤ y2) && decide (y2 ≤ ty + a3)) = f2) := hf2
          have HNB : Hid (idl lt (ixs (fun t => nrb t.x t.y x2 y2 a3) lt (k + 1)) = idl lt (ixs (fun t => nrb t.x t.y x2 y2 a3) lt k) ++ if (f1 && f2) = true then [ti] else []) := by
            unfold Hid
            rw [idl_snoc hkl, HT.out]
            have : nrb tx ty x2 y2 a3 = (f1 && f2) := by rw [← hf1, ← hf2]; unfold nrb; simp only [Bool.and_assoc]
            dsimp only
            rw [this]
          have hle : (idl lt (ixs (fun t => nrb t.x t.y x2 y2 a3) lt k)).length ≤ 1000000 := by unfold idl; rw [List.length_map]; exact Nat.le_trans (ixs_len _ _ _) (by omega)
          clear hf1 hf2
          go_wp2_with fail
          clear hV8 c0 c1 c2 c3 c4 c5 c6
          refine (Between_at x2 (tx - a3) (tx + a3) f1 V8 HF1).mono ?_
          rintro e w' ⟨rfl, hw⟩; subst w'
          cases f1 with
          | false =>
            have HN2 : Hid (idl lt (ixs (fun t => nrb t.x t.y x2 y2 a3) lt (k + 1)) = idl lt (ixs (fun t => nrb t.x t.y x2 y2 a3) lt k)) := by unfold Hid; rw [HNB.out]; simp
            go_wp2_with fail
            go_roundw
            case rel => exact ⟨k + 1, by go_num, by omega, HB78.out, by rw [HN2.out]; exact HM8.out⟩
            case measure => simp [intOf]; omega
          | true =>
            go_wp2_with fail
            refine (Between_at y2 (ty - a3) (ty + a3) f2 V8 HF2).mono ?_
            rintro e w' ⟨rfl, hw⟩; subst w'
            cases f2 with
            | false =>
              have HN2 : Hid (idl lt (ixs (fun t => nrb t.x t.y x2 y2 a3) lt (k + 1)) = idl lt (ixs (fun t => nrb t.x t.y x2 y2 a3) lt k)) := by unfold Hid; rw [HNB.out]; simp
              go_wp2_with fail
              go_roundw
              case rel => exact ⟨k + 1, by go_num, by omega, HB78.out, by rw [HN2.out]; exact HM8.out⟩
              case measure => simp [intOf]; omega
            | true =>
              have HN2 : Hid (idl lt (ixs (fun t => nrb t.x t.y x2 y2 a3) lt (k + 1)) = idl lt (ixs (fun t => nrb t.x t.y x2 y2 a3) lt k) ++ [ti]) := by unfold Hid; rw [HNB.out]; simp
              clear z0 z1 z2 z3 z4 z5 z6 z7 z8 y0 y1 y3
              go_wp2_with (at_builtin; refine list_one ki _ rfl _ _ rfl V7.heap.size u23 (idl lt (ixs (fun t => nrb t.x t.y x2 y2 a3) lt k)) rfl (mine_below HM8.out (alloc_below _ _)) ⟨V8.heap.size, 0, none⟩ 1 ti rfl (new_one _ _ _) hle (by rw [World.size_alloc]; exact Nat.le_succ_of_le HB78.out.size) ?_)
              intro g cap V9 hm9 hg9
              have HB79 : Hid (Below V7.heap.size V7 V9) := mine_grown (mine_below HM8.out (alloc_below _ _)) (HB78.out.alloc HB78.out.size _) (by rw [World.size_alloc]; exact Nat.le_succ_of_le HB78.out.size) hg9
              have HM9 : Hid (mine 3 vi V7.heap.size V9 (.slice (some ⟨g, 0, none⟩) ((idl lt (ixs (fun t => nrb t.x t.y x2 y2 a3) lt k)).length + 1) cap) (idl lt (ixs (fun t => nrb t.x t.y x2 y2 a3) lt (k + 1)))) := by unfold Hid; rw [HN2.out]; exact hm9
              clear hm9 hg9 hle g0 g1 g2 g3 g4 g5 g6
              go_wp2_with fail
              go_roundw
              case rel => exact ⟨k + 1, by go_num, by omega, HB79.out, HM9.out⟩
              case measure => simp [intOf]; omega
        · obtain rfl : nt = k := by omega
          obtain ⟨V9, hV9⟩ : ∃ V9 : World, V9 = wr := ⟨_, rfl⟩
          subst hV9
          have HB79 : Hid (Below V7.heap.size V7 V9) := HS.out.1
          have hm9 := HS.out.2
          rw [← HLE.out] at hm9
          obtain ⟨q9, c9_, e9, hr9, -, -⟩ := mine_full hm9
          rw [HM7.out] at e9
          subst e9
          have HR9 : Hid (row vi V9 q9 L) := hr9
          clear hm9 hr9
          have yr := HBR.out V9 (below_upF HB27.out HB79.out)
          go_wp2_with fail
          refine (Equal_b q7 q9 m7 c7 c9_ L V9 HM7.out HML.out (row_below HR7.out HB79.out) HR9.out).mono ?_
          rintro e V10 ⟨rfl, hb10⟩
          have HB10 : Hid (Below w0.heap.size w0 V10) := below_upF HB7.out (below_upF HB79.out hb10)
          clear hb10 yr
          go_wp2_with fail
          go_ret
          exact ⟨by simp, HUP.out V10 HB10.out⟩
  · have d1 : (E == 0) = false := by simp [hE0]
    have hS1 : S = E := by
      rw [← HSY.out]
      unfold ner
      rw [if_neg hE0]
    subst hS1
    have hS0 : ¬ S = 0 := hE0
    have HLE : Hid (L = []) := by
      rw [← HL.out]
      unfold Hid nel
      rw [HSY.out, if_neg hS0]
    have d9 : (S == 0) = false := by simp [hS0]
    go_wp2_with fail
    clear z0 z1 z2 z3 z4 z5 z6 z7 z8 y0 y1 y3 yr
    go_loopw [23, 74] (fun v i wr => ∃ k : Nat, i = .int .i64 (k : Int) ∧ k ≤ nt ∧ v = .slice none 0 0 ∧ Hid (Below V7.heap.size V7 wr ∧ True)) (fun _ i _ => nt - (intOf i).toNat)
    case atStart => exact ⟨0, rfl, by omega, rfl, Below.refl _ _, trivial⟩
    case round =>
      obtain ⟨k, rfl, hk, rfl, HS⟩ := hrel
      by_cases hkn : k < nt
      · have hkl : k < lt.length := by rw [HLT.out]; exact hkn
        obtain ⟨a, rfl, hc⟩ := trow_at (trow_below HRT.out (below_upF HB7.out HS.out.1)) hkl
        obtain ⟨t, ht⟩ : ∃ t, lt[k] = t := ⟨_, rfl⟩
        have HT : Hid (lt[k] = t) := ht
        rw [ht] at hc
        clear ht
        obtain ⟨ti, to_, tk, tx, ty, tf, td⟩ := t
        obtain ⟨c0, c1, c2, c3, c4, c5, c6⟩ := hc
        simp only at c0 c1 c2 c3 c4 c5 c6
        obtain ⟨V8, hV8⟩ : ∃ V, wr.alloc (.cells #[.int .i64 ti, .int .i64 to_, .int .i64 tk, .int .i64 tx, .int .i64 ty, .int .i64 tf, .int .i64 td] 47) = V := ⟨_, rfl⟩
        obtain ⟨G, hG⟩ : ∃ G, wr.heap.size = G := ⟨_, rfl⟩
        have HBT : Hid (∀ V, Below V8.heap.size V8 V → V.cell? ⟨G, 0, none⟩ = some (.int .i64 ti) ∧ V.cell? ⟨G, 1, none⟩ = some (.int .i64 to_) ∧ V.cell? ⟨G, 2, none⟩ = some (.int .i64 tk) ∧ V.cell? ⟨G, 3, none⟩ = some (.int .i64 tx) ∧ V.cell? ⟨G, 4, none⟩ = some (.int .i64 ty) ∧ V.cell? ⟨G, 5, none⟩ = some (.int .i64 tf) ∧ V.cell? ⟨G, 6, none⟩ = some (.int .i64 td)) := fun V hV => boxt hG hV8 hV
        have hb8 : Below wr.heap.size wr V8 := by rw [← hV8]; exact alloc_below _ _
        have HB78 : Hid (Below V7.heap.size V7 V8) := below_upF HS.out.1 hb8
        obtain ⟨⟨z0, z1, z2, z3, z4, z5, z6, z7, z8⟩, y0, y1, y3⟩ := HBX.out V8 (below_upF HB7.out HB78.out)
        obtain ⟨g0, g1, g2, g3, g4, g5, g6⟩ := HBT.out V8 (Below.refl _ _)
        have l1 : (k : Int) < nt := by omega
        have l2 : (0 : Int) ≤ k := by omega
        clear hb8
        go_wp2_with fail
        go_roundw
        case rel => exact ⟨k + 1, by go_num, by omega, rfl, HB78.out, trivial⟩
        case measure => simp [intOf]; omega
      · obtain ⟨V9, hV9⟩ : ∃ V9 : World, V9 = wr := ⟨_, rfl⟩
        subst hV9
        have HB79 : Hid (Below V7.heap.size V7 V9) := HS.out.1
        have hm0 : m7 = 0 := by rw [← HM7.out, HLE.out]; rfl
        subst hm0
        have HR9 : Hid (row vi V9 none L) := by unfold Hid; rw [HLE.out]; exact row_nil _ _ _
        have yr := HBR.out V9 (below_upF HB27.out HB79.out)
        go_wp2_with fail
        refine (Equal_b q7 none 0 c7 0 L V9 HM7.out HML.out (row_below HR7.out HB79.out) HR9.out).mono ?_
        rintro e V10 ⟨rfl, hb10⟩
        have HB10 : Hid (Below w0.heap.size w0 V10) := below_upF HB7.out (below_upF HB79.out hb10)
        clear hb10 yr
        go_wp2_with fail
        go_ret
        exact ⟨by simp, HUP.out V10 HB10.out⟩

set_option maxRecDepth 100000 in
theorem lifted (os : Os) (started : os.Started) (H : Type) (enc : TypeId × Value → H) :
    ReturnsInHanded {} Try.checked os 4 .any (Rows.troopFindsSpec.pre6 enc Try.prog Try.f4 Rows.troopFindsRow.domain false) (Rows.troopFindsSpec.post enc Try.prog Try.f4 false true false false) := by
  refine returnsInHanded_of_change (C := Try.checked) own started (by kernel_rfl) Try.func4
    (ChangeSpec.witness6 (enc := enc) (C := Try.checked) false ⟨#[], #[.agg #[.int .i64 0, .int .i64 0, .slice none 0 0, .slice none 0 0, .slice none 0 0, .slice none 0 0, .slice none 0 0, .int .i64 0, .int .i64 0], .int .i64 0, .agg #[.int .i64 0, .int .i64 0], .int .i64 0], []⟩ 8 (by kernel_rfl) (by kernel_rfl) (by kernel_rfl) (by kernel_rfl)) ?_
  intro W base args ds gs before hval0 hW hcnd _
  have hval : ∀ (j : Nat) t v, Try.f4.params[j]? = some t → args[j]? = some v → Value.okWide Try.prog W .any base t v := hval0
  have hW' := hW
  obtain ⟨p, q, hA0, hV, rfl, hfz, hnd⟩ := hW
  have hA : DataW.TrodAll enc Try.prog W 0 (fun _ => true) true Try.f4.params.toList args.toList ds p := hA0
  rw [Try.params4] at hA hval
  obtain ⟨v0, vs0, d0, ds0, p0, q0, hargs, rfl, rfl, h0, r0⟩ := trodAll_cons hA
  obtain ⟨v1, vs1, d1, ds1, p1, q1, rfl, rfl, rfl, h1, r1⟩ := trodAll_cons r0
  obtain ⟨v2, vs2, d2, ds2, p2, q2, rfl, rfl, rfl, h2, r2⟩ := trodAll_cons r1
  obtain ⟨v3, vs3, d3, ds3, p3, q3, rfl, rfl, rfl, h3, r3⟩ := trodAll_cons r2
  obtain ⟨rfl, rfl, rfl⟩ := trodAll_nil r3
  obtain rfl : args = #[v0, v1, v2, v3] := by cases args; simp_all
  obtain ⟨rfl, rfl⟩ := trodVars_none hV
  obtain ⟨s0, rfl, k0⟩ := open_wld (hval 0 28 v0 rfl rfl) h0
  obtain ⟨a1, rfl, rfl, rfl, w1⟩ := open_int Try.underlying3 (hval 1 3 v1 rfl rfl) h1
  obtain ⟨x2, y2, rfl, rfl, rfl, w2x, w2y⟩ := open_two Try.underlying43 Try.underlying3 Try.underlying3 rfl rfl (by kernel_rfl) (by kernel_rfl) (by kernel_rfl) (hval 2 43 v2 rfl rfl) h2
  obtain ⟨a3, rfl, rfl, rfl, w3⟩ := open_int Try.underlying3 (hval 3 3 v3 rfl rfl) h3

  clear hA0 hval0
  refine (walk s0 a1 x2 y2 a3 w1 w2x w2y w3 W k0).mono fun e W' ⟨he, hg⟩ => ?_
  subst he
  exact ⟨_, rfl, law_post (by kernel_rfl) (by kernel_rfl) rfl (by kernel_rfl) Try.underlying4 hW' rfl hg⟩

theorem over : Rows.troopFindsRow.holds Try.pinned (OpenSpec.ofChange Rows.troopFindsSpec) :=
  OpenClaim.holds_of_wide 4 Try.f4 rfl rfl rfl rfl rfl rfl rfl ⟨rfl, rfl, rfl, rfl, rfl⟩ rfl rfl rfl rfl rfl (by kernel_rfl) Try.func4 (by kernel_rfl)
    (of_decide_eq_true (by kernel_rfl)) (by unfold Func.isWrapper; first | (rw [if_pos (by decide +kernel)]; kernel_rfl) | (rw [if_neg (by decide +kernel)]; exact ⟨rfl, rfl⟩))
    (fun os started H enc _ => lifted os started H enc)

theorem proved : Rows.TroopFindsSaid :=
  over
end Go.Proofs.Ytibpobmeonfljaa.troopFinds

namespace Go.Proofs.Ytibpobmeonfljaa
/-- Whatever is handed in, Find, On and Near answer what the document says; for every world, number, cell and reach, with no condition. -/
theorem troopFinds_holds : Rows.TroopFindsSaid := troopFinds.proved
#print axioms troopFinds_holds
end Go.Proofs.Ytibpobmeonfljaa
