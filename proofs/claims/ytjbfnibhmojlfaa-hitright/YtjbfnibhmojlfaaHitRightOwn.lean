/- Whatever is handed in, a right world is right behind blows; no one has more Life than before, none moves, and all that is no troop's is as it was; for every world and every list of blows, with no condition. -/
import Derived.Test.YtjbfnibhmojlfaaRows
import Derived.Test.YtjbfnibhmojlfaaPost
import Derived.Test.YtjbfnibhmojlfaaOpc
import Derived.Test.YtjbfnibhmojlfaaHl
import Derived.Test.YtjbfnibhmojlfaaHr
import Derived.Test.YtjbfnibhmojlfaaSf
import Derived.WalkKit
import Derived.ProofKit
import Derived.OpenShut
import Derived.SizedLaws
import Derived.ChangeMaps5
import Derived.JoinedCond
namespace Go.Proofs.Ytjbfnibhmojlfaa.hitRight
open Go.ChangeShapes Go.WideShapes Go.ChangeAt Go.RowKit
set_option linter.unusedVariables false

theorem own : ownKnob Try.prog.godebug = none := by kernel_rfl


set_option maxRecDepth 20000 in
set_option maxHeartbeats 4000000 in
theorem walk (s0 : Wld) (s1 : Cst)  (w : World) (h0 : s0.fit w) (h1 : s1.fit w) (hs1 : s1.l.length * 16 ≤ 140737488351232) :
    Calls Try.prog 5 #[s0.val, s1.val] w fun e w' => e = .returned (.bool true) ∧ Below w.heap.size w w' := by
  obtain ⟨E, hE⟩ := ber_total s0 s1.l.length
  obtain ⟨hcr, hxb, hmx, hzp, hkc⟩ := h1
  have HS1 : Hid (∀ V, Below w.heap.size w V → Calls Try.prog 9 #[s0.val, .slice s1.p s1.l.length s1.c] V fun e w' => (∃ (s' : Wld) (gp : Option Addr) (gc : Nat) (gl : List Int), e = .returned (.tuple #[s'.val, .slice gp gl.length gc, .int .i64 E]) ∧ row vi w' gp gl ∧ wown V.heap.size w' s' ∧ sok s0 s1.l E s' gl) ∧ Below V.heap.size V w') := fun V hV => Struck_any s0 E s1.p s1.l.length s1.c s1.l V (Wld.fit_below h0 hV) (crow_below hcr hV) hxb rfl hmx hE
  have HFT : Hid (∀ V B s' gl, wown B V s' → sok s0 s1.l E s' gl → s'.fit V) := fun V B s' gl hw ho => struck_fit h0 (nl := s1.l.length) hE hw ho
  have HOKS : Hid (∀ s' gl, E = 0 → sok s0 s1.l E s' gl → wre s' 0 ∧ likew s0 s' ∧ s'.lt = lft (hms s0 s1.l) s0.lt ∧ gl = gon (hms s0 s1.l) s0.lt ∧ s'.nt + gl.length = s0.nt ∧ s0.nt ≤ 100 ∧ (∀ k, k + 1 < gl.length → gl.getD k 0 ≤ gl.getD (k + 1) 0) ∧ (s0.lt.map Trp.i).Nodup ∧ (∀ id, 0 ≤ hms s0 s1.l id)) := fun s' gl he ho => by
    subst he
    obtain ⟨⟨W, H, hk⟩, _⟩ := ber_ok hE
    rcases ho with ⟨hbad, _⟩ | ⟨_, hl, ht, hn, hg⟩
    · exact absurd rfl hbad
    have hp : ∀ id, 0 ≤ hms s0 s1.l id := fun id => (hm_bd _ _ _).1
    have hbl := both_len (hms s0 s1.l) s0.lt
    rw [← ht, ← hg, hn, h0.ht] at hbl
    exact ⟨wre_of (okw_struck hk hp hl ht hn h0.ht), hl, ht, hg, hbl, hk.nt, by rw [hg]; exact gon_sorted hk.tr.2.1, tr_nodup hk.tr, hp⟩
  have HF0 : Hid (∀ V, Below w.heap.size w V → s0.fit V) := fun V hV => Wld.fit_below h0 hV
  have HRT : Hid (trow w s0.pt s0.lt) := h0.rt
  have HLT : Hid (s0.lt.length = s0.nt) := h0.ht
  obtain ⟨hf, hhf⟩ : ∃ hf, hms s0 s1.l = hf := ⟨_, rfl⟩
  rw [hhf] at HOKS
  obtain ⟨SO, hSO⟩ : ∃ SO : Wld → List Int → Prop, (fun s' gl => sok s0 s1.l E s' gl) = SO := ⟨_, rfl⟩
  have e1 : ∀ s' gl, sok s0 s1.l E s' gl = SO s' gl := fun s' gl => by rw [← hSO]
  simp only [e1] at HS1 HFT HOKS
  obtain ⟨pl, cl, bl⟩ := s1
  unfold Cst.val
  dsimp only at *
  clear hs1 h0 hE hcr hxb hmx hzp hkc hSO e1 hhf
  obtain ⟨A, B, p, n, c, l, pb, nb, cb, lb, ps, ns, cs, ls, pm, nm, cm, lm, pt, nt, ct, lt, N, T⟩ := s0
  unfold Wld.val at *
  dsimp only at *
  obtain ⟨nl, hnl⟩ : ∃ nl, bl.length = nl := ⟨_, rfl⟩
  rw [hnl] at HS1 ⊢
  clear hnl
  obtain ⟨F, hF⟩ : ∃ F, w.heap.size = F := ⟨_, rfl⟩
  obtain ⟨w0, hw0⟩ : ∃ w0, w.alloc (.cells #[.int .i64 A, .int .i64 B, .slice p n c, .slice pb nb cb, .slice ps ns cs, .slice pm nm cm, .slice pt nt ct, .int .i64 N, .int .i64 T] 28) = w0 := ⟨_, rfl⟩
  have HBX : Hid (∀ V, Below w0.heap.size w0 V → c9 V F (.int .i64 A) (.int .i64 B) (.slice p n c) (.slice pb nb cb) (.slice ps ns cs) (.slice pm nm cm) (.slice pt nt ct) (.int .i64 N) (.int .i64 T)) := fun V hV => boxw hF hw0 hV
  have hB0 : Below w.heap.size w w0 := by rw [← hw0]; exact alloc_below _ _
  have HB0 : Hid (Below w.heap.size w w0) := hB0
  have HUP : Hid (∀ V, Below w0.heap.size w0 V → Below w.heap.size w V) := fun V hV => HB0.out.trans (hV.mono HB0.out.size)
  obtain ⟨z0, z1, z2, z3, z4, z5, z6, z7, z8⟩ := HBX.out w0 (Below.refl _ _)
  clear hB0
  go_enter Try.func5, Try.ntmps5
  go_wp2_with fail
  refine (HS1.out w0 HB0.out).mono ?_
  rintro e w1 ⟨⟨sa, gpa, gca, gla, rfl, hra, hwa, hsa⟩, hb1⟩
  have hfa := HFT.out w1 _ sa gla hwa hsa
  have HB1 : Hid (Below w0.heap.size w0 w1) := hb1
  have HA : Hid (sa.fit w1 ∧ row vi w1 gpa gla ∧ SO sa gla) := ⟨hfa, hra, hsa⟩
  clear hfa hra hwa hsa hb1 z0 z1 z2 z3 z4 z5 z6 z7 z8 hw0 hF HS1 HFT
  obtain ⟨A1, B1, p1, n1, c1, l1_, pb1, nb1, cb1, lb1, ps1, ns1, cs1, ls1, pm1, nm1, cm1, lm1, pt1, nt1, ct1, lt1, N1, T1⟩ := sa
  dsimp only
  obtain ⟨ga, hga⟩ : ∃ ga, gla.length = ga := ⟨_, rfl⟩
  have HGA : Hid (gla.length = ga) := hga
  rw [hga]
  obtain ⟨w2, hw2⟩ : ∃ w2, w1.alloc (.cells #[.int .i64 A1, .int .i64 B1, .slice p1 n1 c1, .slice pb1 nb1 cb1, .slice ps1 ns1 cs1, .slice pm1 nm1 cm1, .slice pt1 nt1 ct1, .int .i64 N1, .int .i64 T1] 28) = w2 := ⟨_, rfl⟩
  obtain ⟨G1, hG1⟩ : ∃ G1, w1.heap.size = G1 := ⟨_, rfl⟩
  have hb2 : Below w1.heap.size w1 w2 := by rw [← hw2]; exact alloc_below _ _
  have hx2 : bx9 w2 G1 (.int .i64 A1) (.int .i64 B1) (.slice p1 n1 c1) (.slice pb1 nb1 cb1) (.slice ps1 ns1 cs1) (.slice pm1 nm1 cm1) (.slice pt1 nt1 ct1) (.int .i64 N1) (.int .i64 T1) := by rw [← hw2, ← hG1]; exact box9_new _ _ _ _ _ _ _ _ _ _
  have HBA : Hid (∀ V, Below w2.heap.size w2 V → bx9 V G1 (.int .i64 A1) (.int .i64 B1) (.slice p1 n1 c1) (.slice pb1 nb1 cb1) (.slice ps1 ns1 cs1) (.slice pm1 nm1 cm1) (.slice pt1 nt1 ct1) (.int .i64 N1) (.int .i64 T1)) := fun V hV => bx9_below hx2 hV
  have HB12 : Hid (Below w1.heap.size w1 w2) := hb2
  have HB2 : Hid (Below w0.heap.size w0 w2) := below_call HB1.out HB1.out.size hb2
  have HG11 : Hid (w1.heap.size ≤ G1) := Nat.le_of_eq hG1
  have HG1 : Hid (w0.heap.size ≤ G1) := by unfold Hid; rw [← hG1]; exact HB1.out.size
  clear hga hb2 hx2
  go_wp2_with fail
  clear hw2 hG1
  refine (lives_any w2).mono ?_
  rintro e w3 ⟨rfl, hb3⟩
  have HB23 : Hid (Below w2.heap.size w2 w3) := hb3
  have HB3 : Hid (Below w0.heap.size w0 w3) := below_call HB2.out HB2.out.size hb3
  have HB13 : Hid (Below w1.heap.size w1 w3) := below_call HB12.out HB12.out.size hb3
  clear hb3
  by_cases hE0 : E = 0
  rotate_left
  · have d1 : (E != 0) = true := by simp [hE0]
    go_wp2_with fail
    refine (lives_any w3).mono ?_
    rintro e w4 ⟨rfl, hb4⟩
    have HB4 : Hid (Below w.heap.size w w4) := HUP.out w4 (below_call HB3.out HB3.out.size hb4)
    clear hb4
    go_wp2_with fail
    go_ret
    exact ⟨rfl, HB4.out⟩
  subst hE0
  obtain ⟨hwre, hlk, hlt1, hgl, hsum, hnt, hsrt, hnd, hpos⟩ := HOKS.out _ _ rfl HA.out.2.2
  rw [HGA.out] at hsum
  have hck := Check_world _ 0 w3 (Wld.fit_below HA.out.1 HB13.out) hwre
  unfold Wld.val at hck
  dsimp only at hck hlk hlt1 hsum
  have HCK : Hid (Calls Try.prog 20 #[.agg #[.int .i64 A1, .int .i64 B1, .slice p1 n1 c1, .slice pb1 nb1 cb1, .slice ps1 ns1 cs1, .slice pm1 nm1 cm1, .slice pt1 nt1 ct1, .int .i64 N1, .int .i64 T1]] w3 fun e w' => e = .returned (.int .i64 0) ∧ Below w3.heap.size w3 w') := hck
  have HIS : Hid (∀ V, Below w1.heap.size w1 V → Calls Try.prog 21 #[.slice gpa ga gca] V fun e w' => e = .returned (.bool true) ∧ Below V.heap.size V w') := fun V hV => IsSorted_yes gpa ga gca gla V HGA.out (by omega) (row_below HA.out.2.1 hV) hsrt
  have HT1 : Hid (lt1 = lft hf lt ∧ gla = gon hf lt ∧ (lt.map Trp.i).Nodup ∧ ∀ id, 0 ≤ hf id) := ⟨hlt1, hgl, hnd, hpos⟩
  have HLK : Hid (likew ⟨A, B, p, n, c, l, pb, nb, cb, lb, ps, ns, cs, ls, pm, nm, cm, lm, pt, nt, ct, lt, N, T⟩ ⟨A1, B1, p1, n1, c1, l1_, pb1, nb1, cb1, lb1, ps1, ns1, cs1, ls1, pm1, nm1, cm1, lm1, pt1, nt1, ct1, lt1, N1, T1⟩) := hlk
  have hs1 : (nt1 : Int) + (ga : Int) = (nt : Int) := by omega
  have hs2 : ((nt1 : Int) + (ga : Int) != (nt : Int)) = false := by rw [hs1]; simp
  have hga100 : ga ≤ 100 := by omega
  have hnt1 : nt1 ≤ 100 := by omega
  clear hwre hlk hlt1 hgl hsrt hnd hpos hck HOKS
  obtain ⟨y0, y1, y2, y3, y4, y5, y6, y7, y8⟩ := bx9_c9 (HBA.out w3 HB23.out)
  go_wp2_with fail
  refine Calls.mono HCK.out ?_
  rintro e w4 ⟨rfl, hb4⟩
  have HB34 : Hid (Below w3.heap.size w3 w4) := hb4
  have HB24 : Hid (Below w2.heap.size w2 w4) := below_call HB23.out HB23.out.size hb4
  have HB14 : Hid (Below w1.heap.size w1 w4) := below_call HB13.out HB13.out.size hb4
  have HB4 : Hid (Below w0.heap.size w0 w4) := below_call HB3.out HB3.out.size hb4
  clear hb4 y0 y1 y2 y3 y4 y5 y6 y7 y8 HCK
  obtain ⟨y0, y1, y2, y3, y4, y5, y6, y7, y8⟩ := bx9_c9 (HBA.out w4 HB24.out)
  obtain ⟨z0, z1, z2, z3, z4, z5, z6, z7, z8⟩ := HBX.out w4 HB4.out
  go_wp2_with fail
  refine (HIS.out w4 HB14.out).mono ?_
  rintro e w5 ⟨rfl, hb5⟩
  have HB25 : Hid (Below w2.heap.size w2 w5) := below_call HB24.out HB24.out.size hb5
  have HB15 : Hid (Below w1.heap.size w1 w5) := below_call HB14.out HB14.out.size hb5
  have HB5 : Hid (Below w0.heap.size w0 w5) := below_call HB4.out HB4.out.size hb5
  clear hb5 y0 y1 y2 y3 y4 y5 y6 y7 y8 z0 z1 z2 z3 z4 z5 z6 z7 z8 HIS
  obtain ⟨z0, z1, z2, z3, z4, z5, z6, z7, z8⟩ := HBX.out w5 HB5.out
  go_wp2_with fail
  clear z0 z1 z2 z3 z4 z5 z6 z7 z8
  go_loopw [49] (fun i wr => ∃ k : Nat, i = .int .i64 k ∧ k ≤ nt ∧ Hid (Below w5.heap.size w5 wr)) (fun i _ => nt - (intOf i).toNat)
  case atStart => exact ⟨0, rfl, by omega, Below.refl _ _⟩
  case round =>
    obtain ⟨k, rfl, hk, HS⟩ := hrel
    have HB0r : Hid (Below w0.heap.size w0 wr) := below_call HB5.out HB5.out.size HS.out
    have HB2r : Hid (Below w2.heap.size w2 wr) := below_call HB25.out HB25.out.size HS.out
    have HB1r : Hid (Below w1.heap.size w1 wr) := below_call HB15.out HB15.out.size HS.out
    obtain ⟨z0, z1, z2, z3, z4, z5, z6, z7, z8⟩ := HBX.out wr HB0r.out
    by_cases hlt : k < nt
    · have hkl : k < lt.length := by rw [HLT.out]; exact hlt
      obtain ⟨a, rfl, c0, c1_, c2, c3, c4, c5, c6⟩ := trow_at (trow_below HRT.out (HUP.out wr HB0r.out)) hkl
      have hL : 0 < lt[k].f - hf lt[k].i → trf lt1 lt[k].i = some (upd hf lt[k]) := fun h => by rw [HT1.out.1]; exact trf_left HT1.out.2.2.1 hkl h
      have hGn : ¬ 0 < lt[k].f - hf lt[k].i → trf lt1 lt[k].i = none := fun h => by rw [HT1.out.1]; exact trf_gone HT1.out.2.2.1 hkl h
      have hHS : has lt[k].i gla = !decide (0 < lt[k].f - hf lt[k].i) := by rw [HT1.out.2.1]; exact gon_has HT1.out.2.2.1 hkl
      have hps := HT1.out.2.2.2 lt[k].i
      have hTO := fun V hV => TroopOf_any ⟨A1, B1, p1, n1, c1, l1_, pb1, nb1, cb1, lb1, ps1, ns1, cs1, ls1, pm1, nm1, cm1, lm1, pt1, nt1, ct1, lt1, N1, T1⟩ lt[k].i V (Wld.fit_below HA.out.1 hV)
      obtain ⟨t, ht⟩ : ∃ t, lt[k] = t := ⟨_, rfl⟩
      rw [ht] at c0 c1_ c2 c3 c4 c5 c6 hL hGn hHS hps hTO
      obtain ⟨ti, to_, tk, tx, ty, tf, td⟩ := t
      unfold upd at hL
      unfold Wld.val at hTO
      simp only at c0 c1_ c2 c3 c4 c5 c6 hL hGn hHS hps hTO
      obtain ⟨hv, ehv⟩ : ∃ hv, hf ti = hv := ⟨_, rfl⟩
      rw [ehv] at hL hGn hHS hps
      obtain ⟨w6, hw6⟩ : ∃ w6, wr.alloc (.cells #[.int .i64 ti, .int .i64 to_, .int .i64 tk, .int .i64 tx, .int .i64 ty, .int .i64 tf, .int .i64 td] 42) = w6 := ⟨_, rfl⟩
      obtain ⟨G, hG⟩ : ∃ G, wr.heap.size = G := ⟨_, rfl⟩
      have hb6 : Below wr.heap.size wr w6 := by rw [← hw6]; exact alloc_below _ _
      have HBT : Hid (∀ V, Below w6.heap.size w6 V → c7 V G ti to_ tk tx ty tf td) := fun V hV => boxt hG hw6 hV
      have HBr6 : Hid (Below wr.heap.size wr w6) := hb6
      have HGG : Hid (wr.heap.size = G) := hG
      have HB26 : Hid (Below w2.heap.size w2 w6) := below_call HB2r.out HB2r.out.size hb6
      have HB16 : Hid (Below w1.heap.size w1 w6) := below_call HB1r.out HB1r.out.size hb6
      have HB56 : Hid (Below w5.heap.size w5 w6) := below_call HS.out HS.out.size hb6
      have l1 : (k : Int) < nt := by omega
      have l2 : (0 : Int) ≤ k := by omega
      by_cases hlv : 0 < tf - hv
      · have HTO : Hid (∀ V, Below w1.heap.size w1 V → Calls Try.prog 22 #[.agg #[.int .i64 A1, .int .i64 B1, .slice p1 n1 c1, .slice pb1 nb1 cb1, .slice ps1 ns1 cs1, .slice pm1 nm1 cm1, .slice pt1 nt1 ct1, .int .i64 N1, .int .i64 T1], .int .i64 ti] V fun e w' => e = .returned (.tuple #[.agg #[.int .i64 ti, .int .i64 to_, .int .i64 tk, .int .i64 tx, .int .i64 ty, .int .i64 (tf - hv), .int .i64 td], .bool true]) ∧ Below V.heap.size V w') := fun V hV => by
          have := hTO V hV
          unfold tof at this
          rw [hL hlv] at this
          simp only [Option.getD_some, Option.isSome_some, tv] at this
          exact this
        have HCT : Hid (∀ V, Below w1.heap.size w1 V → Calls Try.prog 23 #[.slice gpa ga gca, .int .i64 ti] V fun e w' => e = .returned (.bool false) ∧ w' = V) := fun V hV => Containsi_any gpa ga gca gla ti false V (row_below HA.out.2.1 hV) HGA.out (by omega) (by unfold Hid; rw [hHS, decide_eq_true hlv]; rfl)
        have hng : ¬ tf < tf - hv := by omega
        have hng2 : tf - hv ≤ tf := by omega
        obtain ⟨fv, hfv⟩ : ∃ fv, tf - hv = fv := ⟨_, rfl⟩
        rw [hfv] at HTO hng hng2
        clear hlv hL hGn hHS hps hTO ht hkl hb6 ehv z0 z1 z2 z3 z4 z5 z6 z7 z8 hfv
        obtain ⟨y0, y1, y2, y3, y4, y5, y6, y7, y8⟩ := bx9_c9 (HBA.out w6 HB26.out)
        obtain ⟨u0, u1, u2, u3, u4, u5, u6⟩ := HBT.out w6 (Below.refl _ _)
        go_wp2_with fail
        refine (HTO.out w6 HB16.out).mono ?_
        rintro e w7 ⟨rfl, hb7⟩
        have HB67 : Hid (Below w6.heap.size w6 w7) := hb7
        clear c0 c1_ c2 c3 c4 c5 c6 u0 u1 u2 u3 u4 u5 u6 y0 y1 y2 y3 y4 y5 y6 y7 y8 hb7 hw6 hG
        obtain ⟨w8, hw8⟩ : ∃ w8, w7.alloc (.cells #[.int .i64 ti, .int .i64 to_, .int .i64 tk, .int .i64 tx, .int .i64 ty, .int .i64 fv, .int .i64 td] 42) = w8 := ⟨_, rfl⟩
        obtain ⟨G3, hG3⟩ : ∃ G3, w7.heap.size = G3 := ⟨_, rfl⟩
        have hb8 : Below w7.heap.size w7 w8 := by rw [← hw8]; exact alloc_below _ _
        have HB68 : Hid (Below w6.heap.size w6 w8) := below_call HB67.out HB67.out.size hb8
        have HB18 : Hid (Below w1.heap.size w1 w8) := below_call HB16.out HB16.out.size HB68.out
        have hh8 : w8.heap[G3]? = some (.cells #[.int .i64 ti, .int .i64 to_, .int .i64 tk, .int .i64 tx, .int .i64 ty, .int .i64 fv, .int .i64 td] 42) := by rw [← hw8, ← hG3]; exact World.alloc_heap_new w7 _
        have HFZ : Hid (w8.frozen? ⟨G3, 5, none⟩ = false ∧ w5.heap.size ≤ G3) := ⟨by simp [World.frozen?, hh8], by rw [← hG3]; exact Nat.le_trans HB56.out.size HB67.out.size⟩
        obtain ⟨v0, v1, v2, v3, v4, v5, v6⟩ := boxt hG3 hw8 (Below.refl _ _)
        obtain ⟨u0, u1, u2, u3, u4, u5, u6⟩ := HBT.out w8 HB68.out
        have fz := HFZ.out.1
        have hGne : ¬ G3 = G := by
          have h1 := HB67.out.size
          have h2 : G < w6.heap.size := cell_lt (HBT.out w6 (Below.refl _ _)).1
          rw [hG3] at h1; omega
        have hGne2 : ¬ G = G3 := fun e => hGne e.symm
        clear hb8 hh8
        go_wp2_with fail
        refine (HCT.out w8 HB18.out).mono ?_
        rintro e w' ⟨rfl, hw⟩; subst w'
        have HBE : Hid (Below w5.heap.size w5 (w8.setCell ⟨G3, 5, none⟩ (.int .i64 tf))) := (below_call HB56.out HB56.out.size HB68.out).setCell HFZ.out.2 _
        go_wp2_with fail
        clear u0 u1 u2 u3 u4 u5 u6 v0 v1 v2 v3 v4 v5 v6 fz hw8 hG3
        go_roundw
        case rel => exact ⟨k + 1, by go_num, by omega, HBE.out⟩
        case measure => simp [intOf]; omega
      · have HTO : Hid (∀ V, Below w1.heap.size w1 V → Calls Try.prog 22 #[.agg #[.int .i64 A1, .int .i64 B1, .slice p1 n1 c1, .slice pb1 nb1 cb1, .slice ps1 ns1 cs1, .slice pm1 nm1 cm1, .slice pt1 nt1 ct1, .int .i64 N1, .int .i64 T1], .int .i64 ti] V fun e w' => e = .returned (.tuple #[.agg #[.int .i64 0, .int .i64 0, .int .i64 0, .int .i64 0, .int .i64 0, .int .i64 0, .int .i64 0], .bool false]) ∧ Below V.heap.size V w') := fun V hV => by
          have := hTO V hV
          unfold tof at this
          rw [hGn hlv] at this
          exact this
        have HCT : Hid (∀ V, Below w1.heap.size w1 V → Calls Try.prog 23 #[.slice gpa ga gca, .int .i64 ti] V fun e w' => e = .returned (.bool true) ∧ w' = V) := fun V hV => Containsi_any gpa ga gca gla ti true V (row_below HA.out.2.1 hV) HGA.out (by omega) (by unfold Hid; rw [hHS, decide_eq_false hlv]; rfl)
        clear hlv hL hGn hHS hps hTO ht hkl hb6 ehv z0 z1 z2 z3 z4 z5 z6 z7 z8
        obtain ⟨y0, y1, y2, y3, y4, y5, y6, y7, y8⟩ := bx9_c9 (HBA.out w6 HB26.out)
        obtain ⟨u0, u1, u2, u3, u4, u5, u6⟩ := HBT.out w6 (Below.refl _ _)
        go_wp2_with fail
        refine (HTO.out w6 HB16.out).mono ?_
        rintro e w7 ⟨rfl, hb7⟩
        have HB67 : Hid (Below w6.heap.size w6 w7) := hb7
        clear c0 c1_ c2 c3 c4 c5 c6 u0 u1 u2 u3 u4 u5 u6 y0 y1 y2 y3 y4 y5 y6 y7 y8 hb7 hw6 hG
        obtain ⟨G3, hG3⟩ : ∃ G3, w7.heap.size = G3 := ⟨_, rfl⟩
        obtain ⟨w8, hw8⟩ : ∃ w8, w7.alloc (.cells #[.int .i64 0, .int .i64 0, .int .i64 0, .int .i64 0, .int .i64 0, .int .i64 0, .int .i64 0] 42) = w8 := ⟨_, rfl⟩
        have hb8 : Below w7.heap.size w7 w8 := by rw [← hw8]; exact alloc_below _ _
        have HB68 : Hid (Below w6.heap.size w6 w8) := below_call HB67.out HB67.out.size hb8
        have HB18 : Hid (Below w1.heap.size w1 w8) := below_call HB16.out HB16.out.size HB68.out
        have hh8 : w8.heap[G3]? = some (.cells #[.int .i64 0, .int .i64 0, .int .i64 0, .int .i64 0, .int .i64 0, .int .i64 0, .int .i64 0] 42) := by rw [← hw8, ← hG3]; exact World.alloc_heap_new w7 _
        have HFZ : Hid (w8.frozen? ⟨G3, 5, none⟩ = false ∧ w5.heap.size ≤ G3) := ⟨by simp [World.frozen?, hh8], by rw [← hG3]; exact Nat.le_trans HB56.out.size HB67.out.size⟩
        have HW8 : Hid (_ = w8) := hw8
        have HV0 := boxt hG3 hw8 (Below.refl _ _)
        obtain ⟨u0, u1, u2, u3, u4, u5, u6⟩ := HBT.out w7 HB67.out
        have hg2 : G < w7.heap.size := cell_lt u0
        have hg1 : G < G3 := by rw [← hG3]; exact hg2
        clear hb8 hh8 hw8
        go_wp2_with fail
        rw [HW8.out]
        obtain ⟨v0, v1, v2, v3, v4, v5, v6⟩ := HV0
        clear u0 u1 u2 u3 u4 u5 u6
        obtain ⟨u0, u1, u2, u3, u4, u5, u6⟩ := HBT.out w8 HB68.out
        have fz := HFZ.out.1
        refine (HCT.out w8 HB18.out).mono ?_
        rintro e w' ⟨rfl, hw⟩; subst w'
        have HBE : Hid (Below w5.heap.size w5 (w8.setCell ⟨G3, 5, none⟩ (.int .i64 tf))) := (below_call HB56.out HB56.out.size HB68.out).setCell HFZ.out.2 _
        go_wp2_with fail
        clear u0 u1 u2 u3 u4 u5 u6 v0 v1 v2 v3 v4 v5 v6 fz hG3
        go_roundw
        case rel => exact ⟨k + 1, by go_num, by omega, HBE.out⟩
        case measure => simp [intOf]; omega
    · have hkn : k = nt := by omega
      subst hkn
      have hxr := HBA.out wr HB2r.out
      obtain ⟨y0, y1, y2, y3, y4, y5, y6, y7, y8⟩ := bx9_c9 hxr
      have fz6 := bx9_free hxr 6
      have hG1F : ¬ G1 = F := by have h1 := HG1.out; have h2 : F < w0.heap.size := cell_lt (HBX.out w0 (Below.refl _ _)).1; omega
      have hFG1 : ¬ F = G1 := fun e => hG1F e.symm
      obtain ⟨w6, hw6⟩ : ∃ w6, wr.setCell ⟨G1, 6, none⟩ (.slice pt k ct) = w6 := ⟨_, rfl⟩
      have hB6 : Below w0.heap.size w0 w6 := by rw [← hw6]; exact HB0r.out.setCell HG1.out _
      have hx6 : Ex (fun g => g = G1) wr w6 := by rw [← hw6]; exact Ex.set (S := fun g => g = G1) wr ⟨G1, 6, none⟩ rfl _
      have hB1 : Below w1.heap.size w1 w6 := by
        have hq : w1.heap.size ≤ G1 := HG11.out
        exact HB1r.out.trans (hx6.below HB1r.out.size (fun j hj e => by omega))
      have hfs := HF0.out w6 (HUP.out w6 hB6)
      have hfa := Wld.fit_below HA.out.1 hB1
      have HSW : Hid (Calls Try.prog 11 #[_, _] w6 fun e w' => e = .returned (.bool true) ∧ Below w6.heap.size w6 w') := SameWorld_yes ⟨A1, B1, p1, n1, c1, l1_, pb1, nb1, cb1, lb1, ps1, ns1, cs1, ls1, pm1, nm1, cm1, lm1, pt, k, ct, lt, N1, T1⟩ ⟨A, B, p, n, c, l, pb, nb, cb, lb, ps, ns, cs, ls, pm, nm, cm, lm, pt, k, ct, lt, N, T⟩ w6 { hfa with rt := hfs.rt, xt := hfs.xt, ht := hfs.ht, mt := hfs.mt, zt := hfs.zt, kt := hfs.kt } hfs (by
        obtain ⟨x1, x2, _, x3, _, x4, _, x5, _, x6, x7, x8⟩ := HLK.out
        exact ⟨x1, x2, x3, x4, x5, x6, rfl, x7, x8⟩)
      have HBE : Hid (Below w.heap.size w w6) := HUP.out w6 hB6
      unfold Wld.val at HSW
      dsimp only at HSW
      have HW6 : Hid (wr.setCell ⟨G1, 6, none⟩ (.slice pt k ct) = w6) := hw6
      clear hfs hfa hB6 hx6 hB1 hxr hw6
      go_wp2_with fail
      rw [HW6.out]
      refine Calls.mono HSW.out ?_
      rintro e w7 ⟨rfl, hb7⟩
      have HB7 : Hid (Below w.heap.size w w7) := below_call HBE.out HBE.out.size hb7
      clear hb7
      go_wp2_with fail
      go_ret
      exact ⟨rfl, HB7.out⟩

set_option maxRecDepth 100000 in
theorem lifted (os : Os) (started : os.Started) (H : Type) (enc : TypeId × Value → H) :
    ReturnsInHanded {} Try.checked os 5 .any (Rows.hitRightSpec.pre6 enc Try.prog Try.f5 Rows.hitRightRow.domain false) (Rows.hitRightSpec.post enc Try.prog Try.f5 false true false false) := by
  refine returnsInHanded_of_change_sized (C := Try.checked) own started (by kernel_rfl) Try.func5
    (ChangeSpec.witness6 (enc := enc) (C := Try.checked) false ⟨#[], #[.agg #[.int .i64 0, .int .i64 0, .slice none 0 0, .slice none 0 0, .slice none 0 0, .slice none 0 0, .slice none 0 0, .int .i64 0, .int .i64 0], .slice none 0 0], []⟩ 8 (by kernel_rfl) (by kernel_rfl) (by kernel_rfl) (by kernel_rfl)) ?_
  intro W base args ds gs before hval0 hW hcnd hsz _
  have hval : ∀ (j : Nat) t v, Try.f5.params[j]? = some t → args[j]? = some v → Value.okWide Try.prog W .any base t v := hval0
  have hW' := hW
  obtain ⟨p, q, hA0, hV, rfl, hfz, hnd⟩ := hW
  have hA : DataW.TrodAll enc Try.prog W 0 (fun _ => true) true Try.f5.params.toList args.toList ds p := hA0
  rw [Try.params5] at hA hval
  obtain ⟨v0, vs0, d0, ds0, p0, q0, hargs, rfl, rfl, h0, r0⟩ := trodAll_cons hA
  obtain ⟨v1, vs1, d1, ds1, p1, q1, rfl, rfl, rfl, h1, r1⟩ := trodAll_cons r0
  obtain ⟨rfl, rfl, rfl⟩ := trodAll_nil r1
  obtain rfl : args = #[v0, v1] := by cases args; simp_all
  obtain ⟨rfl, rfl⟩ := trodVars_none hV
  obtain ⟨s0, rfl, k0⟩ := open_wld (hval 0 28 v0 rfl rfl) h0
  obtain ⟨s1, rfl, k1, t1⟩ := open_cst Try.underlying29 Try.underlying48 Try.underlying3 Try.underlying3 rfl rfl (by kernel_rfl) (by kernel_rfl) (by kernel_rfl) (hval 1 29 v1 rfl rfl) h1
  have hs1 : s1.l.length * 16 ≤ 140737488351232 := told_sized hsz (j := 1) rfl rfl Try.underlying29 (by kernel_rfl) t1
  clear hA0 hval0
  refine (walk s0 s1  W k0 k1 hs1).mono fun e W' ⟨he, hg⟩ => ?_
  subst he
  exact ⟨_, rfl, law_post (by kernel_rfl) (by kernel_rfl) rfl (by kernel_rfl) Try.underlying4 hW' rfl hg⟩

theorem over : Rows.hitRightRow.holds Try.pinned (OpenSpec.ofChange Rows.hitRightSpec) :=
  OpenClaim.holds_of_wide 5 Try.f5 rfl rfl rfl rfl rfl rfl rfl ⟨rfl, rfl, rfl, rfl, rfl⟩ rfl rfl rfl rfl rfl (by kernel_rfl) Try.func5 (by kernel_rfl)
    (of_decide_eq_true (by kernel_rfl)) (by unfold Func.isWrapper; first | (rw [if_pos (by decide +kernel)]; kernel_rfl) | (rw [if_neg (by decide +kernel)]; exact ⟨rfl, rfl⟩))
    (fun os started H enc _ => lifted os started H enc)

theorem proved : Rows.HitRightSaid :=
  over
end Go.Proofs.Ytjbfnibhmojlfaa.hitRight

namespace Go.Proofs.Ytjbfnibhmojlfaa
/-- Whatever is handed in, a right world is right behind blows; no one has more Life than before, none moves, and all that is no troop's is as it was; for every world and every list of blows, with no condition. -/
theorem hitRight_holds : Rows.HitRightSaid := hitRight.proved
#print axioms hitRight_holds
end Go.Proofs.Ytjbfnibhmojlfaa
