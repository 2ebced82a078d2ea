/- What isNear and Near return. -/
import Derived.Test.YtibpobmeonfljaaFi
import Derived.Test.YtibpobmeonfljaaAp
namespace Go.Proofs.Ytibpobmeonfljaa
open Go.RowKit
set_option linter.unusedVariables false

/-- Whether a cell is within so many steps of a king. -/
def nrb (ox oy cx cy r : Int) : Bool := decide (ox - r ≤ cx) && decide (cx ≤ ox + r) && decide (oy - r ≤ cy) && decide (cy ≤ oy + r)
theorem nrb_iff {ox oy cx cy r : Int} : nrb ox oy cx cy r = true ↔ ox - r ≤ cx ∧ cx ≤ ox + r ∧ oy - r ≤ cy ∧ cy ≤ oy + r := by unfold nrb; simp [and_assoc]
theorem nrb_kg {ox oy cx cy r : Int} : nrb ox oy cx cy r = decide (kg ox oy cx cy ≤ r) := by
  rw [Bool.eq_iff_iff, nrb_iff, decide_eq_true_eq]
  have := kg_cases ox oy cx cy
  have := ds_nonneg ox cx
  have := ds_nonneg oy cy
  unfold ds at *
  omega
set_option maxRecDepth 20000 in
set_option maxHeartbeats 1000000 in
theorem isNear_at (ox oy cx cy r : Int) (g : Bool) (w : World) (h1 : 0 ≤ ox) (h2 : ox ≤ 40) (h3 : 0 ≤ oy) (h4 : oy ≤ 40) (h5 : 0 ≤ r) (h6 : r ≤ 12) (hg : Hid (nrb ox oy cx cy r = g)) :
    Calls Try.prog 45 #[.agg #[.int .i64 ox, .int .i64 oy], .agg #[.int .i64 cx, .int .i64 cy], .int .i64 r] w fun e w' => e = .returned (.bool g) ∧ Below w.heap.size w w' := by
  have HO : Hid (near ox oy = true) := near_mk ⟨by omega, by omega, by omega, by omega⟩
  have hB : Below w.heap.size w ((w.alloc (.cells #[.int .i64 ox, .int .i64 oy] 43)).alloc (.cells #[.int .i64 cx, .int .i64 cy] 43)) := (alloc_below w _).alloc (by simp) _
  have HB : Hid (Below w.heap.size w ((w.alloc (.cells #[.int .i64 ox, .int .i64 oy] 43)).alloc (.cells #[.int .i64 cx, .int .i64 cy] 43))) := hB
  clear hB
  cases hn : near cx cy with
  | false =>
    have HN : Hid (near cx cy = false) := hn
    have eg : g = false := by
      rw [← hg.out]
      cases hh : nrb ox oy cx cy r with
      | false => rfl
      | true =>
        have := nrb_iff.1 hh
        rw [near_mk ⟨by omega, by omega, by omega, by omega⟩] at hn; cases hn
    subst eg
    clear hn hg h1 h2 h3 h4 h5 h6
    go_enter Try.func45, Try.ntmps45
    go_wp2_with fail
    refine (Apart_no ox oy cx cy _ (.inr HN.out)).mono ?_
    rintro e w1 ⟨rfl, hb1⟩
    have HB1 : Hid (Below w.heap.size w w1) := HB.out.trans (hb1.mono (by simp; omega))
    clear hb1
    go_wp2_with fail
    go_ret
    exact ⟨rfl, HB1.out⟩
  | true =>
    have HN : Hid (near cx cy = true) := hn
    obtain ⟨K, hK⟩ : ∃ K, kg ox oy cx cy = K := ⟨_, rfl⟩
    obtain ⟨M, hM⟩ : ∃ M, ds ox cx + ds oy cy = M := ⟨_, rfl⟩
    have HA : Hid (∀ V, Calls Try.prog 64 #[.agg #[.int .i64 ox, .int .i64 oy], .agg #[.int .i64 cx, .int .i64 cy]] V fun e w' => e = .returned (.tuple #[.int .i64 K, .int .i64 M, .int .i64 0]) ∧ Below V.heap.size V w') := fun V => by
      have := Apart_yes ox oy cx cy V HO.out hn
      rw [hK, hM] at this; exact this
    have HG : Hid (g = decide (K ≤ r)) := by unfold Hid; rw [← hg.out, nrb_kg, hK]
    clear hn hg h1 h2 h3 h4 h5 h6 hK hM
    go_enter Try.func45, Try.ntmps45
    go_wp2_with fail
    refine Calls.mono (HA.out _) ?_
    rintro e w1 ⟨rfl, hb1⟩
    have HB1 : Hid (Below w.heap.size w w1) := HB.out.trans (hb1.mono (by simp; omega))
    clear hb1
    by_cases hk : K ≤ r
    · have eg : g = true := by rw [HG.out]; simpa using hk
      subst eg
      go_wp2_with fail
      go_ret
      exact ⟨by first | rfl | (simp; omega), HB1.out⟩
    · have eg : g = false := by rw [HG.out]; simpa using hk
      subst eg
      have hk2 : r < K := by omega
      go_wp2_with fail
      go_ret
      exact ⟨by first | rfl | (simp; omega), HB1.out⟩
set_option maxRecDepth 20000 in
set_option maxHeartbeats 1000000 in
theorem Near1_at (t : Trp) (cx cy r : Int) (q q2 : Nat) (V : World) (h1 : 0 ≤ t.x) (h2 : t.x ≤ 40) (h3 : 0 ≤ t.y) (h4 : t.y ≤ 40) (h5 : 0 ≤ r) (h6 : r ≤ 12) (hq0 : V.cell? ⟨q, 0, none⟩ = some (.int .i64 cx)) (hq1 : V.cell? ⟨q, 1, none⟩ = some (.int .i64 cy)) (hq2 : V.cell? ⟨q2, 0, none⟩ = some (.int .i64 r)) :
    Calls Try.prog 44 #[tv t, .pointer (some ⟨q, 0, none⟩), .pointer (some ⟨q2, 0, none⟩)] V fun e w' => e = .returned (.bool (nrb t.x t.y cx cy r)) ∧ Below V.heap.size V w' := by
  obtain ⟨ti, to_, tk, tx, ty, tf, td⟩ := t
  unfold tv
  dsimp only at *
  obtain ⟨g, hg⟩ : ∃ g, nrb tx ty cx cy r = g := ⟨_, rfl⟩
  rw [hg]
  have HG : Hid (nrb tx ty cx cy r = g) := hg
  obtain ⟨w0, hw0⟩ : ∃ w0, V.alloc (.cells #[.int .i64 ti, .int .i64 to_, .int .i64 tk, .int .i64 tx, .int .i64 ty, .int .i64 tf, .int .i64 td] 47) = w0 := ⟨_, rfl⟩
  obtain ⟨G, hG⟩ : ∃ G, V.heap.size = G := ⟨_, rfl⟩
  obtain ⟨g0, g1, g2, g3, g4, g5, g6⟩ := boxt hG hw0 (Below.refl _ _)
  have hb : Below V.heap.size V w0 := by rw [← hw0]; exact alloc_below _ _
  have e0 := (hb.cell (cell_lt hq0)).trans hq0
  have e1 := (hb.cell (cell_lt hq1)).trans hq1
  have e2 := (hb.cell (cell_lt hq2)).trans hq2
  have HB : Hid (Below V.heap.size V w0) := hb
  clear hq0 hq1 hq2 hb hg
  go_enter Try.func44, Try.ntmps44
  go_wp2_with fail
  clear hG hw0
  refine (isNear_at tx ty cx cy r g w0 h1 h2 h3 h4 h5 h6 HG).mono ?_
  rintro e w1 ⟨rfl, hb1⟩
  have HB1 : Hid (Below V.heap.size V w1) := HB.out.trans (hb1.mono HB.out.size)
  clear hb1
  go_wp2_with fail
  go_ret
  exact ⟨rfl, HB1.out⟩
/-- The boxes of a world, of a cell and of a number at a call's head. -/
theorem box921 {w w0 V : World} {a b c d e f g h i : Value} {a' b' r' : Value} {t t' t2 : TypeId} {F : Nat} (hF : w.heap.size = F) (hw : ((w.alloc (.cells #[a, b, c, d, e, f, g, h, i] t)).alloc (.cells #[a', b'] t')).alloc (.cells #[r'] t2) = w0) (hb : Below w0.heap.size w0 V) :
    c9 V F a b c d e f g h i ∧ V.cell? ⟨F + 1, 0, none⟩ = some a' ∧ V.cell? ⟨F + 1, 1, none⟩ = some b' ∧ V.cell? ⟨F + 2, 0, none⟩ = some r' := by
  have hb1 : Below ((w.alloc (.cells #[a, b, c, d, e, f, g, h, i] t)).alloc (.cells #[a', b'] t')).heap.size ((w.alloc (.cells #[a, b, c, d, e, f, g, h, i] t)).alloc (.cells #[a', b'] t')) V := by
    have : Below ((w.alloc (.cells #[a, b, c, d, e, f, g, h, i] t)).alloc (.cells #[a', b'] t')).heap.size ((w.alloc (.cells #[a, b, c, d, e, f, g, h, i] t)).alloc (.cells #[a', b'] t')) w0 := by rw [← hw]; exact alloc_below _ _
    exact this.trans (hb.mono this.size)
  obtain ⟨k1, k2, k3⟩ := box92 hF rfl hb1
  refine ⟨k1, k2, k3, ?_⟩
  subst hw hF
  rw [hb.cell (by simp)]
  simp [go_sem]
/-- Which error Near tells, and which numbers. -/
def ner (E r : Int) : Int := if E = 0 then (if r < 0 ∨ 12 < r then 1 else 0) else E
def idl (lt : List Trp) (I : List Int) : List Int := I.map fun x => ((lt[x.toNat]?).map Trp.i).getD 0
def nel (s : Wld) (E cx cy r : Int) : List Int := if ner E r = 0 then idl s.lt (ixs (fun t => nrb t.x t.y cx cy r) s.lt s.nt) else []
theorem nel_mem {s : Wld} {cx cy r x : Int} {E : Int} (hl : s.lt.length = s.nt) (h : ner E r = 0) : x ∈ nel s E cx cy r ↔ ∃ i, ∃ h : i < s.lt.length, s.lt[i].i = x ∧ nrb s.lt[i].x s.lt[i].y cx cy r = true := by
  unfold nel
  rw [if_pos h]
  unfold idl
  rw [List.mem_map]
  constructor
  · rintro ⟨y, hy, e⟩
    obtain ⟨i, rfl, hi, h1, h2⟩ := (ixs_mem (by rw [hl]; exact Nat.le_refl _)).1 hy
    refine ⟨i, h1, ?_, h2⟩
    rw [← e]
    simp [h1]
  · rintro ⟨i, hi, e, h2⟩
    refine ⟨(i : Int), (ixs_mem (by rw [hl]; exact Nat.le_refl _)).2 ⟨i, rfl, by omega, hi, h2⟩, ?_⟩
    rw [← e]
    simp [hi]
theorem opn_near {W H : Nat} {l : List Int} {x y : Int} (hW : W ≤ 40) (hH : H ≤ 40) (h : opn W H l x y = true) : 0 ≤ x ∧ x ≤ 40 ∧ 0 ≤ y ∧ y ≤ 40 := by
  unfold opn inb at h
  simp at h
  omega
set_option maxRecDepth 20000 in
set_option maxHeartbeats 4000000 in
theorem Near_any (s : Wld) (cx cy r E : Int) (w : World) (h : s.fit w) (hE : Hid (wre s E)) :
    Calls Try.prog 21 #[s.val, .agg #[.int .i64 cx, .int .i64 cy], .int .i64 r] w fun e w' => (∃ v, e = .returned (.tuple #[v, .int .i64 (ner E r)]) ∧ mine 3 vi w.heap.size w' v (nel s E cx cy r)) ∧ Below w.heap.size w w' := by
  have HC : Hid (∀ V, Below w.heap.size w V → Calls Try.prog 14 #[s.val] V fun e w' => e = .returned (.int .i64 E) ∧ Below V.heap.size V w') := fun V hV => Check_world s E V (Wld.fit_below h hV) hE
  have HNT : Hid (E = 0 → s.nt ≤ 100 ∧ ∀ t ∈ s.lt, 0 ≤ t.x ∧ t.x ≤ 40 ∧ 0 ≤ t.y ∧ t.y ≤ 40) := fun e => by
    subst e
    obtain ⟨W, H, hk⟩ := wre_ok hE.out
    refine ⟨hk.nt, fun t ht => ?_⟩
    obtain ⟨i, hi, e⟩ := List.getElem_of_mem ht
    have := (hk.tr.1 i hi).2.2.2.2.2.1
    rw [e] at this
    exact opn_near hk.f.1.2 hk.f.2.1.2 this
  have HL : Hid (∀ V (q q2 : Nat), E = 0 → 0 ≤ r → r ≤ 12 → Below w.heap.size w V → V.cell? ⟨q, 0, none⟩ = some (.int .i64 cx) → V.cell? ⟨q, 1, none⟩ = some (.int .i64 cy) → V.cell? ⟨q2, 0, none⟩ = some (.int .i64 r) → Calls Try.prog 41 #[s.val, .func (.func 44) #[] #[.pointer (some ⟨q, 0, none⟩), .pointer (some ⟨q2, 0, none⟩)]] V fun e w' => (∃ v, e = .returned v ∧ mine 3 vi V.heap.size w' v (ixs (fun t => nrb t.x t.y cx cy r) s.lt s.nt)) ∧ Below V.heap.size V w') := fun V q q2 he h0 h1 hV k0 k1 k2 =>
    look2_any Try.call44 _ _ s _ V (Wld.fit_below h hV) (HNT.out he).1 (fun t V' ht hV' => by
      obtain ⟨b1, b2, b3, b4⟩ := (HNT.out he).2 t ht
      exact Near1_at t cx cy r q q2 V' b1 b2 b3 b4 h0 h1 ((hV'.cell (cell_lt k0)).trans k0) ((hV'.cell (cell_lt k1)).trans k1) ((hV'.cell (cell_lt k2)).trans k2))
  have HLT : Hid (s.lt.length = s.nt) := h.ht
  have HRT : Hid (trow w s.pt s.lt) := h.rt
  obtain ⟨I, hI⟩ : ∃ I, ixs (fun t => nrb t.x t.y cx cy r) s.lt s.nt = I := ⟨_, rfl⟩
  have HIX : Hid (I.length ≤ s.nt ∧ ∀ x ∈ I, ∃ i : Nat, x = i ∧ i < s.lt.length) := by
    rw [← hI]
    refine ⟨ixs_len _ _ _, fun x hx => ?_⟩
    obtain ⟨i, h1, _, h2, _⟩ := (ixs_mem (by rw [HLT.out]; exact Nat.le_refl _)).1 hx
    exact ⟨i, h1, h2⟩
  rw [hI] at HL
  have HNE : Hid (E ≠ 0 → ner E r = E ∧ nel s E cx cy r = []) := fun he => by
    have : ner E r = E := by unfold ner; rw [if_neg he]
    exact ⟨this, by unfold nel; rw [this, if_neg he]⟩
  have HN1 : Hid (E = 0 → (r < 0 ∨ 12 < r) → ner E r = 1 ∧ nel s E cx cy r = []) := fun he hr => by
    have : ner E r = 1 := by unfold ner; rw [if_pos he, if_pos hr]
    exact ⟨this, by unfold nel; rw [this]; rfl⟩
  have HN0 : Hid (E = 0 → ¬ (r < 0 ∨ 12 < r) → ner E r = 0 ∧ nel s E cx cy r = idl s.lt I) := fun he hr => by
    have : ner E r = 0 := by unfold ner; rw [if_pos he, if_neg hr]
    exact ⟨this, by unfold nel; rw [if_pos this, hI]⟩
  obtain ⟨E2, hE2⟩ : ∃ E2, ner E r = E2 := ⟨_, rfl⟩
  obtain ⟨R, hR⟩ : ∃ R, nel s E cx cy r = R := ⟨_, rfl⟩
  rw [hE2, hR] at HNE HN1 HN0
  rw [hE2, hR]
  clear h hE hI hE2 hR
  obtain ⟨A, B, p, n, c, l, pb, nb, cb, lb, ps, ns, cs, ls, pm, nm, cm, lm, pt, nt, ct, lt, N, T⟩ := s
  unfold Wld.val at *
  dsimp only at *
  obtain ⟨F, hF⟩ : ∃ F, w.heap.size = F := ⟨_, rfl⟩
  obtain ⟨w0, hw0⟩ : ∃ w0, ((w.alloc (.cells #[.int .i64 A, .int .i64 B, .slice p n c, .slice pb nb cb, .slice ps ns cs, .slice pm nm cm, .slice pt nt ct, .int .i64 N, .int .i64 T] 28)).alloc (.cells #[.int .i64 cx, .int .i64 cy] 43)).alloc (.cells #[.int .i64 r] 3) = w0 := ⟨_, rfl⟩
  have HBX : Hid (∀ V, Below w0.heap.size w0 V → c9 V F (.int .i64 A) (.int .i64 B) (.slice p n c) (.slice pb nb cb) (.slice ps ns cs) (.slice pm nm cm) (.slice pt nt ct) (.int .i64 N) (.int .i64 T) ∧ V.cell? ⟨F + 1, 0, none⟩ = some (.int .i64 cx) ∧ V.cell? ⟨F + 1, 1, none⟩ = some (.int .i64 cy) ∧ V.cell? ⟨F + 1 + 1, 0, none⟩ = some (.int .i64 r)) := fun V hV => box921 hF hw0 hV
  have hB0 : Below w.heap.size w w0 := by rw [← hw0]; exact ((alloc_below _ _).alloc (by simp) _).alloc (by simp; omega) _
  have HB0 : Hid (Below w.heap.size w w0) := hB0
  have HUP : Hid (∀ V, Below w0.heap.size w0 V → Below w.heap.size w V) := fun V hV => HB0.out.trans (hV.mono HB0.out.size)
  obtain ⟨⟨z0, z1, z2, z3, z4, z5, z6, z7, z8⟩, y0, y1, y2⟩ := HBX.out w0 (Below.refl _ _)
  clear hB0
  go_enter Try.func21, Try.ntmps21
  go_wp2_with fail
  refine (HC.out w0 HB0.out).mono ?_
  rintro e w1 ⟨rfl, hb1⟩
  have HB1 : Hid (Below w0.heap.size w0 w1) := hb1
  clear z0 z1 z2 z3 z4 z5 z6 z7 z8 y0 y1 y2 hw0 hb1 hF
  by_cases hE0 : E = 0
  rotate_left
  · have d1 : (E != 0) = true := by simp [hE0]
    obtain ⟨e1, e2⟩ := HNE.out hE0
    subst e1 e2
    clear hE0 HNE HN1 HN0
    go_wp2_with fail
    go_ret2
    exact ⟨⟨_, rfl, mine_nil _ _ _ _⟩, HUP.out w1 HB1.out⟩
  subst hE0
  obtain ⟨⟨z0, z1, z2, z3, z4, z5, z6, z7, z8⟩, y0, y1, y2⟩ := HBX.out w1 HB1.out
  by_cases hr0 : r < 0
  · obtain ⟨e1, e2⟩ := HN1.out rfl (.inl hr0)
    subst e1 e2
    clear HNE HN1 HN0
    go_wp2_with fail
    go_ret2
    exact ⟨⟨_, rfl, mine_nil _ _ _ _⟩, HUP.out w1 HB1.out⟩
  by_cases hr1 : 12 < r
  · obtain ⟨e1, e2⟩ := HN1.out rfl (.inr hr1)
    subst e1 e2
    clear HNE HN1 HN0
    go_wp2_with fail
    go_ret2
    exact ⟨⟨_, rfl, mine_nil _ _ _ _⟩, HUP.out w1 HB1.out⟩
  obtain ⟨e1, e2⟩ := HN0.out rfl (by omega)
  subst e1 e2
  have hnt := (HNT.out rfl).1
  have HL2 : Hid (Calls Try.prog 41 #[.agg #[.int .i64 A, .int .i64 B, .slice p n c, .slice pb nb cb, .slice ps ns cs, .slice pm nm cm, .slice pt nt ct, .int .i64 N, .int .i64 T], .func (.func 44) #[] #[.pointer (some ⟨F + 1, 0, none⟩), .pointer (some ⟨F + 1 + 1, 0, none⟩)]] w1 fun e w' => (∃ v, e = .returned v ∧ mine 3 vi w1.heap.size w' v I) ∧ Below w1.heap.size w1 w') := HL.out w1 (F + 1) (F + 1 + 1) rfl (by omega) (by omega) (HUP.out w1 HB1.out) y0 y1 y2
  clear HNE HN1 HN0 HC HL HNT
  go_wp2_with fail
  refine Calls.mono HL2.out ?_
  rintro e w2 ⟨⟨v, rfl, hm⟩, hb2⟩
  have HB2 : Hid (Below w0.heap.size w0 w2) := below_upF HB1.out hb2
  clear z0 z1 z2 z3 z4 z5 z6 z7 z8 y0 y1 y2 hb2 HL2
  obtain ⟨q, cap, rfl, hr, hc, hz⟩ := mine_full hm
  obtain ⟨m, hm1⟩ : ∃ m, I.length = m := ⟨_, rfl⟩
  have hm2 : m ≤ 100 := by have := HIX.out.1; omega
  have HIM : Hid (I.length = m) := hm1
  have HRI : Hid (row vi w2 q I) := hr
  rw [hm1]
  clear hm hz hc hr hm1
  go_wp2_with fail
  go_loopw [9, 27] (fun v i wr => ∃ k : Nat, i = .int .i64 (k : Int) ∧ k ≤ m ∧ Hid (Below w2.heap.size w2 wr ∧ Below w0.heap.size w0 wr ∧ mine 3 vi w2.heap.size wr v (idl lt (I.take k)))) (fun _ i _ => m - (intOf i).toNat)
  case atStart => exact ⟨0, rfl, by omega, Below.refl _ _, HB2.out, mine_nil _ _ _ _⟩
  case round =>
    obtain ⟨k, rfl, hk, HS⟩ := hrel
    by_cases hkm : k < m
    · have hkl : k < I.length := by rw [HIM.out]; exact hkm
      obtain ⟨b, rfl, hbc⟩ := row_at (row_below HRI.out HS.out.1) hkl
      obtain ⟨J, hJ, hJl⟩ := HIX.out.2 _ (List.getElem_mem hkl)
      rw [hJ] at hbc
      have hb' : wr.cell? (b.add k) = some (.int .i64 (J : Int)) := hbc
      obtain ⟨a, rfl, hc⟩ := trow_at (trow_below HRT.out (HUP.out wr HS.out.2.1)) hJl
      obtain ⟨t, ht⟩ : ∃ t, lt[J] = t := ⟨_, rfl⟩
      rw [ht] at hc
      have HT : Hid (idl lt (I.take (k + 1)) = idl lt (I.take k) ++ [t.i]) := by
        unfold Hid idl
        rw [List.take_succ_eq_append_getElem hkl, List.map_append, hJ]
        simp [hJl, ht]
      obtain ⟨ti, to_, tk, tx, ty, tf, td⟩ := t
      obtain ⟨c0, c1, c2, c3, c4, c5, c6⟩ := hc
      simp only at c0 c1 c2 c3 c4 c5 c6
      obtain ⟨⟨z0, z1, z2, z3, z4, z5, z6, z7, z8⟩, -, -, -⟩ := HBX.out wr HS.out.2.1
      have l1 : (k : Int) < m := by omega
      have l2 : (0 : Int) ≤ k := by omega
      have l3 : (J : Int) < nt := by rw [← HLT.out]; omega
      have l4 : (0 : Int) ≤ J := by omega
      have hle : (idl lt (I.take k)).length ≤ 1000000 := by unfold idl; rw [List.length_map, List.length_take]; omega
      clear hbc hJ ht hJl
      go_wp2_with (at_builtin; refine list_one ki _ rfl _ _ rfl w2.heap.size u9 (idl lt (I.take k)) rfl (mine_below HS.out.2.2 (alloc_below _ _)) ⟨wr.heap.size, 0, none⟩ 1 ti rfl (new_one _ _ _) hle (by rw [World.size_alloc]; exact Nat.le_succ_of_le HS.out.1.size) ?_)
      intro g cap w6 hm6 hg6
      have HB6 : Hid (Below w2.heap.size w2 w6) := mine_grown (mine_below HS.out.2.2 (alloc_below _ _)) (HS.out.1.alloc HS.out.1.size _) (by rw [World.size_alloc]; exact Nat.le_succ_of_le HS.out.1.size) hg6
      have HB06 : Hid (Below w0.heap.size w0 w6) := below_upF HB2.out HB6.out
      have HM6 : Hid (mine 3 vi w2.heap.size w6 (.slice (some ⟨g, 0, none⟩) ((idl lt (I.take k)).length + 1) cap) (idl lt (I.take (k + 1)))) := by unfold Hid; rw [HT.out]; exact hm6
      clear hm6 hg6 hle z0 z1 z2 z3 z4 z5 z6 z7 z8 c0 c1 c2 c3 c4 c5 c6
      go_wp2_with fail
      go_roundw
      case rel => exact ⟨k + 1, by go_num, by omega, HB6.out, HB06.out, HM6.out⟩
      case measure => simp [intOf]; omega
    · obtain rfl : m = k := by omega
      have HM : Hid (mine 3 vi w.heap.size wr u9 (idl lt I)) := by
        have := HS.out.2.2
        rw [List.take_of_length_le (by rw [HIM.out]; exact Nat.le_refl _)] at this
        exact mine_mono this (Nat.le_trans HB0.out.size HB2.out.size)
      go_wp2_with fail
      go_ret2
      exact ⟨⟨_, rfl, HM.out⟩, HUP.out wr HS.out.2.1⟩
end Go.Proofs.Ytibpobmeonfljaa
