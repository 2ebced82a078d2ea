/- Whatever is handed in, no one is harmed by its own side, nor by who is too far, nor more than by all others together; for every world and every list of blows, with no condition. -/
import Derived.Test.YtjbfnibhmojlfaaRows
import Derived.Test.YtjbfnibhmojlfaaPost
import Derived.Test.YtjbfnibhmojlfaaOpc
import Derived.Test.YtjbfnibhmojlfaaHl
import Derived.Test.YtjbfnibhmojlfaaFb
import Derived.WalkKit
import Derived.ProofKit
import Derived.OpenShut
import Derived.SizedLaws
import Derived.ChangeMaps5
import Derived.JoinedCond
namespace Go.Proofs.Ytjbfnibhmojlfaa.hitFriends
open Go.ChangeShapes Go.WideShapes Go.ChangeAt Go.RowKit
set_option linter.unusedVariables false

theorem own : ownKnob Try.prog.godebug = none := by kernel_rfl

theorem opn_lt {W H : Nat} {l : List Int} {x y : Int} (hW : W ≤ 40) (hH : H ≤ 40) (h : opn W H l x y = true) : 0 ≤ x ∧ x ≤ 40 ∧ 0 ≤ y ∧ y ≤ 40 := by
  have := opn_inb h
  unfold inb at this
  simp at this
  omega
/-- What one troop can do to another one at most. -/
def frm (bl : List Cel) (t o : Trp) : Int := if (!(o.o == t.o) && decide (kg o.x o.y t.x t.y ≤ rch o.k) && bl.any (fun b => b.x == o.i && b.y == t.i)) = true then hrk o.k else 0
theorem frm_bd (bl : List Cel) (t o : Trp) : 0 ≤ frm bl t o ∧ frm bl t o ≤ 4 := by
  unfold frm
  have := hrk_bd o.k
  split <;> omega
theorem harm_le {W : Nat} {l : List Int} {ts : List Trp} {bl : List Cel} (hd : (ts.map Trp.i).Nodup) {t : Trp} (ht : t ∈ ts) : hm (cnt W l ts) ts bl t.i ≤ sumh (frm bl t) ts := by
  unfold hm
  refine sumh_le fun o ho => ?_
  unfold oneh
  cases hf : fsb (cnt W l ts) o.i bl with
  | none => exact (frm_bd bl t o).1
  | some b =>
    obtain ⟨hb, hx, hc⟩ := fsb_some hf
    by_cases hy : b.y = t.i
    · simp only
      rw [if_pos hy]
      obtain ⟨s, u, hs, hu, hsi, hui, hh⟩ := cnt_yes hc
      have e1 : s = o := by
        obtain ⟨i, hi, rfl⟩ := List.getElem_of_mem hs
        obtain ⟨j, hj, rfl⟩ := List.getElem_of_mem ho
        have := ids_inj hd hi hj (by rw [hsi, hx])
        subst this; rfl
      have e2 : u = t := by
        obtain ⟨i, hi, rfl⟩ := List.getElem_of_mem hu
        obtain ⟨j, hj, rfl⟩ := List.getElem_of_mem ht
        have := ids_inj hd hi hj (by rw [hui, hy])
        subst this; rfl
      subst e1 e2
      unfold hit at hh
      simp only [Bool.and_eq_true] at hh
      have h3 : bl.any (fun b => b.x == s.i && b.y == u.i) = true := List.any_eq_true.2 ⟨b, hb, by simp [hx, hy]⟩
      unfold frm
      rw [h3, hh.1, hh.2.1]
      simp
    · simp only
      rw [if_neg hy]
      exact (frm_bd bl t o).1

set_option maxRecDepth 20000 in
set_option maxHeartbeats 4000000 in
theorem walk (s0 : Wld) (s1 : Cst)  (w : World) (h0 : s0.fit w) (h1 : s1.fit w) (hs1 : s1.l.length * 16 ≤ 140737488351232) :
    Calls Try.prog 6 #[s0.val, s1.val] w fun e w' => e = .returned (.bool true) ∧ Below w.heap.size w w' := by
  obtain ⟨E, hE⟩ := ber_total s0 s1.l.length
  obtain ⟨hcr, hxb, hmx, -, -⟩ := h1
  have HBL : Hid (∀ V, Below w.heap.size w V → Calls Try.prog 8 #[s0.val, .slice s1.p s1.l.length s1.c] V fun e w' => (∃ v, e = .returned (.tuple #[v, .int .i64 E]) ∧ bres s0 s1.l E v w') ∧ Below V.heap.size V w') := fun V hV => Blows_any s0 E s1.p s1.l.length s1.c s1.l V (Wld.fit_below h0 hV) (crow_below hcr hV) hxb rfl hmx hE
  have HCR : Hid (crow w s1.p s1.l) := hcr
  have HMX : Hid (s1.l.length ≤ 9223372036854775807) := hmx
  have HRT : Hid (trow w s0.pt s0.lt) := h0.rt
  have HLT : Hid (s0.lt.length = s0.nt) := h0.ht
  have HOK : Hid (E = 0 → (∃ W H, okw s0 W H) ∧ s1.l.length ≤ 200) := fun he => by subst he; exact ber_ok hE
  obtain ⟨pl, cl, bl⟩ := s1
  unfold Cst.val
  dsimp only at *
  clear hs1 h0 hE hcr hxb hmx
  obtain ⟨A, B, p, n, c, l, pb, nb, cb, lb, ps, ns, cs, ls, pm, nm, cm, lm, pt, nt, ct, lt, N, T⟩ := s0
  unfold Wld.val at *
  dsimp only at *
  obtain ⟨nl, hnl⟩ : ∃ nl, bl.length = nl := ⟨_, rfl⟩
  have HNL : Hid (bl.length = nl) := hnl
  rw [hnl] at HBL HMX HOK ⊢
  clear hnl
  obtain ⟨F, hF⟩ : ∃ F, w.heap.size = F := ⟨_, rfl⟩
  obtain ⟨w0, hw0⟩ : ∃ w0, w.alloc (.cells #[.int .i64 A, .int .i64 B, .slice p n c, .slice pb nb cb, .slice ps ns cs, .slice pm nm cm, .slice pt nt ct, .int .i64 N, .int .i64 T] 28) = w0 := ⟨_, rfl⟩
  have HBX : Hid (∀ V, Below w0.heap.size w0 V → c9 V F (.int .i64 A) (.int .i64 B) (.slice p n c) (.slice pb nb cb) (.slice ps ns cs) (.slice pm nm cm) (.slice pt nt ct) (.int .i64 N) (.int .i64 T)) := fun V hV => boxw hF hw0 hV
  have hB0 : Below w.heap.size w w0 := by rw [← hw0]; exact alloc_below _ _
  have HB0 : Hid (Below w.heap.size w w0) := hB0
  have HUP : Hid (∀ V, Below w0.heap.size w0 V → Below w.heap.size w V) := fun V hV => HB0.out.trans (hV.mono HB0.out.size)
  obtain ⟨z0, z1, z2, z3, z4, z5, z6, z7, z8⟩ := HBX.out w0 (Below.refl _ _)
  clear hB0
  go_enter Try.func6, Try.ntmps6
  go_wp2_with fail
  refine (HBL.out w0 HB0.out).mono ?_
  rintro e w1 ⟨⟨v, rfl, hr⟩, hb1⟩
  have HB1 : Hid (Below w0.heap.size w0 w1) := hb1
  clear z0 z1 z2 z3 z4 z5 z6 z7 z8 hb1 hw0 hF HBL
  obtain ⟨z0, z1, z2, z3, z4, z5, z6, z7, z8⟩ := HBX.out w1 HB1.out
  rcases hr with ⟨hE0, rfl⟩ | ⟨hE0, gH, cH, rfl, hrow⟩
  · have d1 : (E != 0) = true := by simp [hE0]
    go_wp2_with fail
    refine (lives_any w1).mono ?_
    rintro e w2 ⟨rfl, hb2⟩
    have HB2 : Hid (Below w.heap.size w w2) := below_call (HUP.out w1 HB1.out) (HUP.out w1 HB1.out).size hb2
    clear hb2 z0 z1 z2 z3 z4 z5 z6 z7 z8
    go_wp2_with fail
    refine (lives_any w2).mono ?_
    rintro e w3 ⟨rfl, hb3⟩
    have HB3 : Hid (Below w.heap.size w w3) := below_call HB2.out HB2.out.size hb3
    clear hb3
    go_wp2_with fail
    go_ret
    exact ⟨rfl, HB3.out⟩
  subst hE0
  obtain ⟨⟨W, H, hk⟩, h200⟩ := HOK.out rfl
  have hA : A = W := hk.a
  have hB : B = H := hk.b
  subst hA hB
  have hW := hk.f.1
  have hH := hk.f.2.1
  have hnt : nt ≤ 100 := hk.nt
  have HTR : Hid (∀ k (hk : k < lt.length), (lt[k].k = 1 ∨ lt[k].k = 2) ∧ 0 ≤ lt[k].x ∧ lt[k].x ≤ 40 ∧ 0 ≤ lt[k].y ∧ lt[k].y ≤ 40) := fun k hkl => ⟨(hk.tr.1 k hkl).2.2.1, opn_lt hW.2 hH.2 (hk.tr.1 k hkl).2.2.2.2.2.1⟩
  have HND : Hid ((lt.map Trp.i).Nodup) := tr_nodup hk.tr
  have hAn : (W : Int).toNat = W := rfl
  rw [hAn] at hrow
  have HRH : Hid (row vi w1 (some ⟨gH, 0, none⟩) (harms (cnt W l lt) lt bl)) := hrow
  have HHM : Hid (∀ k (hk : k < lt.length), (harms (cnt W l lt) lt bl)[k]? = some (hm (cnt W l lt) lt bl lt[k].i) ∧ 0 ≤ hm (cnt W l lt) lt bl lt[k].i ∧ hm (cnt W l lt) lt bl lt[k].i ≤ sumh (frm bl lt[k]) lt) := fun k hkl => by
    refine ⟨?_, (hm_bd _ _ _).1, harm_le HND.out (List.getElem_mem hkl)⟩
    rw [List.getElem?_eq_getElem (by rw [harms_len]; exact hkl), harms_at _ _ _ _ hkl]
  obtain ⟨hf, hhf⟩ : ∃ hf, hm (cnt W l lt) lt bl = hf := ⟨_, rfl⟩
  obtain ⟨HL, hHL⟩ : ∃ HL, harms (cnt W l lt) lt bl = HL := ⟨_, rfl⟩
  rw [hHL] at HRH HHM
  rw [hhf] at HHM
  clear hrow hhf hHL hk HOK hW hH hAn
  have m4 := @run_max4 Try.prog
  go_wp2_with fail
  refine (lives_any w1).mono ?_
  rintro e w2 ⟨rfl, hb2⟩
  have HB2 : Hid (Below w0.heap.size w0 w2) := below_call HB1.out HB1.out.size hb2
  have HB12 : Hid (Below w1.heap.size w1 w2) := hb2
  clear hb2 z0 z1 z2 z3 z4 z5 z6 z7 z8
  obtain ⟨z0, z1, z2, z3, z4, z5, z6, z7, z8⟩ := HBX.out w2 HB2.out
  go_wp2_with fail
  clear z0 z1 z2 z3 z4 z5 z6 z7 z8
  go_loopw [43] (fun i wr => ∃ k : Nat, i = .int .i64 k ∧ k ≤ nt ∧ Hid (Below w2.heap.size w2 wr)) (fun i _ => nt - (intOf i).toNat)
  case atStart => exact ⟨0, rfl, by omega, Below.refl _ _⟩
  case round =>
    obtain ⟨wo, hwo⟩ : ∃ wo : World, wo = wr := ⟨_, rfl⟩
    subst hwo
    obtain ⟨k, rfl, hk, HS⟩ := hrel
    have HB0r : Hid (Below w0.heap.size w0 wo) := below_call HB2.out HB2.out.size HS.out
    obtain ⟨z0, z1, z2, z3, z4, z5, z6, z7, z8⟩ := HBX.out wo HB0r.out
    by_cases hlt : k < nt
    · have hkl : k < lt.length := by rw [HLT.out]; exact hlt
      obtain ⟨a, rfl, c0, c1, c2, c3, c4, c5, c6⟩ := trow_at (trow_below HRT.out (HUP.out wo HB0r.out)) hkl
      have HTK := HTR.out k hkl
      obtain ⟨hh1, hh2, hh3⟩ := HHM.out k hkl
      have hq := row_below HRH.out (below_call HB12.out HB12.out.size HS.out) k _ hh1
      obtain ⟨t, ht⟩ : ∃ t, lt[k] = t := ⟨_, rfl⟩
      rw [ht] at c0 c1 c2 c3 c4 c5 c6 HTK hh2 hh3 hq
      obtain ⟨hv, ehv⟩ : ∃ hv, hf t.i = hv := ⟨_, rfl⟩
      rw [ehv] at hh2 hh3 hq
      obtain ⟨ti, to_, tk, tx, ty, tf, td⟩ := t
      simp only at c0 c1 c2 c3 c4 c5 c6 HTK
      have HHV : Hid (0 ≤ hv ∧ hv ≤ sumh (frm bl ⟨ti, to_, tk, tx, ty, tf, td⟩) lt) := ⟨hh2, hh3⟩
      obtain ⟨-, htx0, htx1, hty0, hty1⟩ := HTK
      have HQ : Hid (∀ V, Below wo.heap.size wo V → V.cell? ⟨gH, k, none⟩ = some (.int .i64 hv)) := fun V hV => by
        obtain ⟨b, hb, hc⟩ := hq
        cases hb
        rw [add_zero_at] at hc
        exact (hV.cell (cell_lt hc)).trans hc
      obtain ⟨w4, hw4⟩ : ∃ w4, wo.alloc (.cells #[.int .i64 ti, .int .i64 to_, .int .i64 tk, .int .i64 tx, .int .i64 ty, .int .i64 tf, .int .i64 td] 42) = w4 := ⟨_, rfl⟩
      obtain ⟨G, hG⟩ : ∃ G, wo.heap.size = G := ⟨_, rfl⟩
      have hb4 : Below wo.heap.size wo w4 := by rw [← hw4]; exact alloc_below _ _
      have HBT : Hid (∀ V, Below w4.heap.size w4 V → c7 V G ti to_ tk tx ty tf td) := fun V hV => boxt hG hw4 hV
      have HB4 : Hid (Below wo.heap.size wo w4) := hb4
      have HB04 : Hid (Below w0.heap.size w0 w4) := below_call HB0r.out HB0r.out.size hb4
      have l1 : (k : Int) < nt := by omega
      have l2 : (0 : Int) ≤ k := by omega
      have HKL : Hid (k < lt.length) := hkl
      clear hb4 ht hh1 hh2 hh3 hq ehv hkl z0 z1 z2 z3 z4 z5 z6 z7 z8
      obtain ⟨z0, z1, z2, z3, z4, z5, z6, z7, z8⟩ := HBX.out w4 HB04.out
      obtain ⟨u0, u1, u2, u3, u4, u5, u6⟩ := HBT.out w4 (Below.refl _ _)
      go_wp2_with fail
      clear z0 z1 z2 z3 z4 z5 z6 z7 z8 c0 c1 c2 c3 c4 c5 c6 u0 u1 u2 u3 u4 u5 u6 hw4 hG
      have HSM0 : Hid (sumh (frm bl ⟨ti, to_, tk, tx, ty, tf, td⟩) (lt.take 0) = 0) := rfl
      go_loopw [9, 51] (fun m i wr => ∃ (j : Nat) (X : Int), i = .int .i64 j ∧ j ≤ nt ∧ m = .int .i64 X ∧ 0 ≤ X ∧ X ≤ 400 ∧ Hid (Below w4.heap.size w4 wr ∧ sumh (frm bl ⟨ti, to_, tk, tx, ty, tf, td⟩) (lt.take j) = X)) (fun _ i _ => nt - (intOf i).toNat)
      case atStart => exact ⟨0, 0, rfl, by omega, rfl, by omega, by omega, Below.refl _ _, HSM0.out⟩
      case round =>
        obtain ⟨j, X, rfl, hj, rfl, hX0, hX1, HI⟩ := hrel
        have HB0q : Hid (Below w0.heap.size w0 wr) := below_call HB04.out HB04.out.size HI.out.1
        by_cases hlj : j < nt
        · have hjl : j < lt.length := by rw [HLT.out]; exact hlj
          obtain ⟨a', ea, c0, c1, c2, c3, c4, c5, c6⟩ := trow_at (trow_below HRT.out (HUP.out wr HB0q.out)) hjl
          cases ea
          have HOJ := HTR.out j hjl
          have HSUM := sumh_take (frm bl ⟨ti, to_, tk, tx, ty, tf, td⟩) hjl
          rw [HI.out.2] at HSUM
          have HBD : 0 ≤ sumh (frm bl ⟨ti, to_, tk, tx, ty, tf, td⟩) (lt.take (j + 1)) ∧ sumh (frm bl ⟨ti, to_, tk, tx, ty, tf, td⟩) (lt.take (j + 1)) ≤ 400 := by
            have := sumh_bd (f := frm bl ⟨ti, to_, tk, tx, ty, tf, td⟩) (ts := lt.take (j + 1)) (fun o _ => frm_bd bl _ o)
            rw [List.length_take] at this
            omega
          obtain ⟨SJ, hSJ⟩ : ∃ SJ, sumh (frm bl ⟨ti, to_, tk, tx, ty, tf, td⟩) (lt.take (j + 1)) = SJ := ⟨_, rfl⟩
          rw [hSJ] at HSUM HBD
          have HSJ : Hid (sumh (frm bl ⟨ti, to_, tk, tx, ty, tf, td⟩) (lt.take (j + 1)) = SJ ∧ 0 ≤ SJ ∧ SJ ≤ 400) := ⟨hSJ, HBD⟩
          obtain ⟨o, ho⟩ : ∃ o, lt[j] = o := ⟨_, rfl⟩
          rw [ho] at c0 c1 c2 c3 c4 c5 c6 HOJ HSUM
          obtain ⟨oi, oo, ok, ox, oy, of_, od⟩ := o
          simp only at c0 c1 c2 c3 c4 c5 c6 HOJ
          obtain ⟨hok, hox0, hox1, hoy0, hoy1⟩ := HOJ
          obtain ⟨ka, kd, hkd⟩ := kdv_at hok
          obtain ⟨R, hR⟩ : ∃ R, rch ok = R := ⟨_, rfl⟩
          obtain ⟨M, hM⟩ : ∃ M, hrk ok = M := ⟨_, rfl⟩
          have hMb := hrk_bd ok
          rw [hM] at hMb
          rw [hR, hM] at hkd
          have HKD : Hid (∀ V, Calls Try.prog 24 #[.int .i64 ok] V fun e w' => e = .returned (.tuple #[.agg #[.int .i64 ka, .int .i64 R, .int .i64 M, .int .i64 kd], .int .i64 (kde ok)]) ∧ Below V.heap.size V w') := fun V => by have := Kind_any ok V; rw [hkd] at this; exact this
          obtain ⟨EK, hEK⟩ : ∃ EK, kde ok = EK := ⟨_, rfl⟩
          rw [hEK] at HKD
          obtain ⟨K, hK⟩ : ∃ K, kg ox oy tx ty = K := ⟨_, rfl⟩
          have hmx := mx4_both ox oy tx ty
          rw [hK] at hmx
          obtain ⟨bb, hbb⟩ : ∃ bb, bl.any (fun b => b.x == oi && b.y == ti) = bb := ⟨_, rfl⟩
          have hfr : frm bl ⟨ti, to_, tk, tx, ty, tf, td⟩ ⟨oi, oo, ok, ox, oy, of_, od⟩ = if (!(oo == to_) && decide (K ≤ R) && bb) = true then M else 0 := by
            unfold frm
            simp only
            rw [hK, hR, hM, hbb]
          rw [hfr] at HSUM
          have HSM : Hid (SJ = X + if (!(oo == to_) && decide (K ≤ R) && bb) = true then M else 0) := HSUM
          have HBB : Hid (bl.any (fun b => b.x == oi && b.y == ti) = bb) := hbb
          clear HSUM HBD hSJ ho hkd hR hM hEK hK hbb hfr hjl hok
          obtain ⟨w5, hw5⟩ : ∃ w5, wr.alloc (.cells #[.int .i64 oi, .int .i64 oo, .int .i64 ok, .int .i64 ox, .int .i64 oy, .int .i64 of_, .int .i64 od] 42) = w5 := ⟨_, rfl⟩
          obtain ⟨G2, hG2⟩ : ∃ G2, wr.heap.size = G2 := ⟨_, rfl⟩
          have hb5 : Below wr.heap.size wr w5 := by rw [← hw5]; exact alloc_below _ _
          have HBO : Hid (∀ V, Below w5.heap.size w5 V → c7 V G2 oi oo ok ox oy of_ od) := fun V hV => boxt hG2 hw5 hV
          have HB45 : Hid (Below w4.heap.size w4 w5) := below_call HI.out.1 HI.out.1.size hb5
          have HB05 : Hid (Below w0.heap.size w0 w5) := below_call HB0q.out HB0q.out.size hb5
          have q1 : (j : Int) < nt := by omega
          have q2 : (0 : Int) ≤ j := by omega
          obtain ⟨v0, v1, v2, v3, v4, v5, v6⟩ := HBO.out w5 (Below.refl _ _)
          clear hb5
          go_wp2_with fail
          refine (HKD.out w5).mono ?_
          rintro e w6 ⟨rfl, hb6⟩
          have HB56 : Hid (Below w5.heap.size w5 w6) := hb6
          clear hb6 c0 c1 c2 c3 c4 c5 c6 v0 v1 v2 v3 v4 v5 v6 hw5 hG2
          obtain ⟨w7, hw7⟩ : ∃ w7, w6.alloc (.cells #[.int .i64 ka, .int .i64 R, .int .i64 M, .int .i64 kd] 58) = w7 := ⟨_, rfl⟩
          obtain ⟨G3, hG3⟩ : ∃ G3, w6.heap.size = G3 := ⟨_, rfl⟩
          have hb7 : Below w6.heap.size w6 w7 := by rw [← hw7]; exact alloc_below _ _
          have HB57 : Hid (Below w5.heap.size w5 w7) := below_call HB56.out HB56.out.size hb7
          have HB47 : Hid (Below w4.heap.size w4 w7) := below_call HB45.out HB45.out.size HB57.out
          have HK3 : Hid (∀ V, Below w7.heap.size w7 V → V.cell? ⟨G3, 1, none⟩ = some (.int .i64 R) ∧ V.cell? ⟨G3, 2, none⟩ = some (.int .i64 M)) := fun V hV => by
            have hh : w7.heap[G3]? = some (.cells #[.int .i64 ka, .int .i64 R, .int .i64 M, .int .i64 kd] 58) := by rw [← hw7, ← hG3]; exact World.alloc_heap_new w6 _
            have hV3 : V.heap[G3]? = some (.cells #[.int .i64 ka, .int .i64 R, .int .i64 M, .int .i64 kd] 58) := (hV.block G3 (heap_lt hh)).trans hh
            simp [World.cell?, hV3]
          obtain ⟨r1, r2⟩ := HK3.out w7 (Below.refl _ _)
          obtain ⟨v0, v1, v2, v3, v4, v5, v6⟩ := HBO.out w7 HB57.out
          obtain ⟨u0, u1, u2, u3, u4, u5, u6⟩ := HBT.out w7 HB47.out
          clear hb7
          have HRND : Hid (∀ V, Below w7.heap.size w7 V → Below w4.heap.size w4 V) := fun V hV => below_call HB47.out HB47.out.size hV
          by_cases hoo : oo = to_
          · have d1 : (oo != to_) = false := by simp [hoo]
            have HEQ : Hid (SJ = X) := by unfold Hid; rw [HSM.out]; simp [hoo]
            clear hoo
            by_cases hKR : K ≤ R
            all_goals
              clear hKR
              go_wp2_with fail
              clear r1 r2 v0 v1 v2 v3 v4 v5 v6 u0 u1 u2 u3 u4 u5 u6 hw7 hG3
              go_roundw
              case rel => exact ⟨j + 1, SJ, by go_num, by omega, by rw [HEQ.out], HSJ.out.2.1, HSJ.out.2.2, HB47.out, HSJ.out.1⟩
              case measure => simp [intOf]; omega
          · have d1 : (oo != to_) = true := by simp [hoo]
            have d0 : (oo == to_) = false := by simp [hoo]
            rw [d0] at HSM
            clear hoo
            by_cases hKR : K ≤ R
            · have HSM2 : Hid (SJ = X + if bb = true then M else 0) := by unfold Hid; rw [HSM.out]; simp [hKR]
              have HCF : Hid (Calls Try.prog 18 #[.slice pl nl cl, .func (.func 25) #[] #[.pointer (some ⟨G2, 0, none⟩), .pointer (some ⟨G, 0, none⟩)]] w7 fun e w' => e = .returned (.bool bb) ∧ Below w7.heap.size w7 w') :=
                ContainsFuncb2 Try.call25 _ _ (fun b => b.x == oi && b.y == ti) pl nl cl bl bb w7 (crow_below HCR.out (HUP.out w7 (below_call HB05.out HB05.out.size HB57.out))) HNL.out HMX.out HBB.out (fun V x y hV _ => Friends1_any x y oi ti G2 G V (HBO.out V (below_call HB57.out HB57.out.size hV)).1 (HBT.out V (below_call HB47.out HB47.out.size hV)).1)
              go_wp2_with fail
              refine Calls.mono HCF.out ?_
              rintro e w8 ⟨rfl, hb8⟩
              have HB48 : Hid (Below w4.heap.size w4 w8) := HRND.out w8 hb8
              obtain ⟨s1, s2⟩ := HK3.out w8 hb8
              clear hb8 r1 r2 v0 v1 v2 v3 v4 v5 v6 u0 u1 u2 u3 u4 u5 u6 hw7 hG3
              cases bb with
              | true =>
                have HEQ : Hid (SJ = X + M) := by unfold Hid; rw [HSM2.out]; simp
                go_wp2_with fail
                go_roundw
                case rel => exact ⟨j + 1, SJ, by go_num, by omega, by rw [HEQ.out], HSJ.out.2.1, HSJ.out.2.2, HB48.out, HSJ.out.1⟩
                case measure => simp [intOf]; omega
              | false =>
                have HEQ : Hid (SJ = X) := by unfold Hid; rw [HSM2.out]; simp
                go_wp2_with fail
                go_roundw
                case rel => exact ⟨j + 1, SJ, by go_num, by omega, by rw [HEQ.out], HSJ.out.2.1, HSJ.out.2.2, HB48.out, HSJ.out.1⟩
                case measure => simp [intOf]; omega
            · have HEQ : Hid (SJ = X) := by unfold Hid; rw [HSM.out]; simp [hKR]
              go_wp2_with fail
              clear r1 r2 v0 v1 v2 v3 v4 v5 v6 u0 u1 u2 u3 u4 u5 u6 hw7 hG3
              go_roundw
              case rel => exact ⟨j + 1, SJ, by go_num, by omega, by rw [HEQ.out], HSJ.out.2.1, HSJ.out.2.2, HB47.out, HSJ.out.1⟩
              case measure => simp [intOf]; omega
        · have hjn : j = nt := by omega
          subst hjn
          have hSX : hv ≤ X := by
            have h1 := HI.out.2
            rw [List.take_of_length_le (by rw [HLT.out]; exact Nat.le_refl _)] at h1
            rw [← h1]; exact HHV.out.2
          have hv0 : 0 ≤ hv := HHV.out.1
          have HBrq : Hid (Below wo.heap.size wo wr) := below_call HB4.out HB4.out.size HI.out.1
          have hcq := HQ.out wr HBrq.out
          have HB2q : Hid (Below w2.heap.size w2 wr) := below_call HS.out HS.out.size HBrq.out
          go_wp2_with fail
          go_roundw
          case rel => exact ⟨k + 1, by go_num, by omega, HB2q.out⟩
          case measure => simp [intOf]; omega
    · go_wp2_with fail
      go_ret
      exact ⟨rfl, HUP.out wo HB0r.out⟩

set_option maxRecDepth 100000 in
theorem lifted (os : Os) (started : os.Started) (H : Type) (enc : TypeId × Value → H) :
    ReturnsInHanded {} Try.checked os 6 .any (Rows.hitFriendsSpec.pre6 enc Try.prog Try.f6 Rows.hitFriendsRow.domain false) (Rows.hitFriendsSpec.post enc Try.prog Try.f6 false true false false) := by
  refine returnsInHanded_of_change_sized (C := Try.checked) own started (by kernel_rfl) Try.func6
    (ChangeSpec.witness6 (enc := enc) (C := Try.checked) false ⟨#[], #[.agg #[.int .i64 0, .int .i64 0, .slice none 0 0, .slice none 0 0, .slice none 0 0, .slice none 0 0, .slice none 0 0, .int .i64 0, .int .i64 0], .slice none 0 0], []⟩ 8 (by kernel_rfl) (by kernel_rfl) (by kernel_rfl) (by kernel_rfl)) ?_
  intro W base args ds gs before hval0 hW hcnd hsz _
  have hval : ∀ (j : Nat) t v, Try.f6.params[j]? = some t → args[j]? = some v → Value.okWide Try.prog W .any base t v := hval0
  have hW' := hW
  obtain ⟨p, q, hA0, hV, rfl, hfz, hnd⟩ := hW
  have hA : DataW.TrodAll enc Try.prog W 0 (fun _ => true) true Try.f6.params.toList args.toList ds p := hA0
  rw [Try.params6] at hA hval
  obtain ⟨v0, vs0, d0, ds0, p0, q0, hargs, rfl, rfl, h0, r0⟩ := trodAll_cons hA
  obtain ⟨v1, vs1, d1, ds1, p1, q1, rfl, rfl, rfl, h1, r1⟩ := trodAll_cons r0
  obtain ⟨rfl, rfl, rfl⟩ := trodAll_nil r1
  obtain rfl : args = #[v0, v1] := by cases args; simp_all
  obtain ⟨rfl, rfl⟩ := trodVars_none hV
  obtain ⟨s0, rfl, k0⟩ := open_wld (hval 0 28 v0 rfl rfl) h0
  obtain ⟨s1, rfl, k1, t1⟩ := open_cst Try.underlying29 Try.underlying48 Try.underlying3 Try.underlying3 rfl rfl (by kernel_rfl) (by kernel_rfl) (by kernel_rfl) (hval 1 29 v1 rfl rfl) h1
  have hs1 : s1.l.length * 16 ≤ 140737488351232 := told_sized hsz (j := 1) rfl rfl Try.underlying29 (by kernel_rfl) t1
  clear hA0 hval0
  refine (walk s0 s1  W k0 k1 hs1).mono fun e W' ⟨he, hg⟩ => ?_
  subst he
  exact ⟨_, rfl, law_post (by kernel_rfl) (by kernel_rfl) rfl (by kernel_rfl) Try.underlying4 hW' rfl hg⟩

theorem over : Rows.hitFriendsRow.holds Try.pinned (OpenSpec.ofChange Rows.hitFriendsSpec) :=
  OpenClaim.holds_of_wide 6 Try.f6 rfl rfl rfl rfl rfl rfl rfl ⟨rfl, rfl, rfl, rfl, rfl⟩ rfl rfl rfl rfl rfl (by kernel_rfl) Try.func6 (by kernel_rfl)
    (of_decide_eq_true (by kernel_rfl)) (by unfold Func.isWrapper; first | (rw [if_pos (by decide +kernel)]; kernel_rfl) | (rw [if_neg (by decide +kernel)]; exact ⟨rfl, rfl⟩))
    (fun os started H enc _ => lifted os started H enc)

theorem proved : Rows.HitFriendsSaid :=
  over
end Go.Proofs.Ytjbfnibhmojlfaa.hitFriends

namespace Go.Proofs.Ytjbfnibhmojlfaa
/-- Whatever is handed in, no one is harmed by its own side, nor by who is too far, nor more than by all others together; for every world and every list of blows, with no condition. -/
theorem hitFriends_holds : Rows.HitFriendsSaid := hitFriends.proved
#print axioms hitFriends_holds
end Go.Proofs.Ytjbfnibhmojlfaa
