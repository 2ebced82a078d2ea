/- What hitSays returns -/
import Derived.Test.YtjbfnibhmojlfaaRows
import Derived.Test.YtjbfnibhmojlfaaPost
import Derived.Test.YtjbfnibhmojlfaaOpc
import Derived.Test.YtjbfnibhmojlfaaSv
import Derived.Test.YtjbfnibhmojlfaaSf
import Derived.Test.YtjbfnibhmojlfaaWy
import Derived.WalkKit
import Derived.ProofKit
import Derived.OpenShut
import Derived.SizedLaws
import Derived.ChangeMaps5
import Derived.JoinedCond
namespace Go.Proofs.Ytjbfnibhmojlfaa.hitSays
open Go.ChangeShapes Go.WideShapes Go.ChangeAt Go.RowKit
set_option linter.unusedVariables false

theorem own : ownKnob Try.prog.godebug = none := by kernel_rfl


set_option maxRecDepth 20000 in
set_option maxHeartbeats 4000000 in
theorem walk (s0 : Wld) (s1 : Cst)  (w : World) (h0 : s0.fit w) (h1 : s1.fit w) (hs1 : s1.l.length * 16 ≤ 140737488351232) :
    Calls Try.prog 3 #[s0.val, s1.val] w fun e w' => e = .returned (.bool true) ∧ Below w.heap.size w w' := by
  obtain ⟨E, hE⟩ := ber_total s0 s1.l.length
  obtain ⟨hcr, hxb, hmx, hzp, hkc⟩ := h1
  have HBL : Hid (∀ V, Below w.heap.size w V → Calls Try.prog 8 #[s0.val, .slice s1.p s1.l.length s1.c] V fun e w' => (∃ v, e = .returned (.tuple #[v, .int .i64 E]) ∧ bres s0 s1.l E v w') ∧ Below V.heap.size V w') := fun V hV => Blows_any s0 E s1.p s1.l.length s1.c s1.l V (Wld.fit_below h0 hV) (crow_below hcr hV) hxb rfl hmx hE
  have HS1 : Hid (∀ V, Below w.heap.size w V → Calls Try.prog 9 #[s0.val, .slice s1.p s1.l.length s1.c] V fun e w' => (∃ (s' : Wld) (gp : Option Addr) (gc : Nat) (gl : List Int), e = .returned (.tuple #[s'.val, .slice gp gl.length gc, .int .i64 E]) ∧ row vi w' gp gl ∧ wown V.heap.size w' s' ∧ sok s0 s1.l E s' gl) ∧ Below V.heap.size V w') := fun V hV => Struck_any s0 E s1.p s1.l.length s1.c s1.l V (Wld.fit_below h0 hV) (crow_below hcr hV) hxb rfl hmx hE
  have HFT : Hid (∀ V B s' gl, wown B V s' → sok s0 s1.l E s' gl → s'.fit V) := fun V B s' gl hw ho => struck_fit h0 (nl := s1.l.length) hE hw ho
  have hko : E = 0 → ∃ W H, okw s0 W H ∧ hms s0 s1.l = hm (cnt W s0.l s0.lt) s0.lt s1.l := fun e => by
    subst e
    obtain ⟨⟨W, H, hk⟩, _⟩ := ber_ok hE
    have hA : s0.A.toNat = W := by rw [hk.a]; rfl
    exact ⟨W, H, hk, by funext id; unfold hms; rw [hA]⟩
  have HHM : Hid (E = 0 → ∀ V id, Below w.heap.size w V → Calls Try.prog 13 #[s0.val, .slice s1.p s1.l.length s1.c, .int .i64 id] V fun e w' => e = .returned (.int .i64 (hms s0 s1.l id)) ∧ Below V.heap.size V w') := fun e V id hV => by
    obtain ⟨W, H, hk, hh⟩ := hko e
    rw [hh]
    exact HarmOf_any s0 W H s1.p s1.l.length s1.c s1.l id V (Wld.fit_below h0 hV) hk (crow_below hcr hV) rfl hmx
  have HSV : Hid (E = 0 → ∀ V, Below w.heap.size w V → Calls Try.prog 12 #[s0.val, .slice s1.p s1.l.length s1.c] V fun e w' => (∃ (p' : Option Addr) (n' c' : Nat) (gp : Option Addr) (gc : Nat), e = .returned (.tuple #[({ s0 with pt := p', nt := n', ct := c', lt := lft (hms s0 s1.l) s0.lt } : Wld).val, .slice gp (gon (hms s0 s1.l) s0.lt).length gc]) ∧ row vi w' gp (gon (hms s0 s1.l) s0.lt) ∧ ({ s0 with pt := p', nt := n', ct := c', lt := lft (hms s0 s1.l) s0.lt } : Wld).fit w') ∧ Below V.heap.size V w') := fun e V hV => by
    obtain ⟨W, H, hk, hh⟩ := hko e
    rw [hh]
    exact StruckWorld_any s0 W H s1.p s1.l.length s1.c s1.l V (Wld.fit_below h0 hV) hk (crow_below hcr hV) rfl hmx
  have HN100 : Hid (E = 0 → s0.nt ≤ 100) := fun e => by obtain ⟨W, H, hk, _⟩ := hko e; exact hk.nt
  have HHL : Hid (∀ k (hk : k < s0.lt.length), (harms (cnt s0.A.toNat s0.l s0.lt) s0.lt s1.l)[k]? = some (hms s0 s1.l s0.lt[k].i)) := fun k hk => by
    rw [List.getElem?_eq_getElem (by rw [harms_len]; exact hk), harms_at _ _ _ _ hk]; rfl
  have HSAM : Hid (∀ s' gl p' n' c', E = 0 → sok s0 s1.l E s' gl → samew s' { s0 with pt := p', nt := n', ct := c', lt := lft (hms s0 s1.l) s0.lt } ∧ gl = gon (hms s0 s1.l) s0.lt ∧ gl.length ≤ 9223372036854775807) := fun s' gl p' n' c' e ho => by
    subst e
    rcases ho with ⟨hbad, _⟩ | ⟨_, hl, ht, hn, hg⟩
    · exact absurd rfl hbad
    obtain ⟨hA, hB, _, g1, _, g2, _, g3, _, g4, hN, hT⟩ := hl
    refine ⟨⟨hA, hB, g1, g2, g3, g4, ht, hN, hT⟩, hg, ?_⟩
    have := gon_len (hms s0 s1.l) s0.lt
    have h1 := h0.ht
    have h2 := h0.mt
    rw [hg]; omega
  have HZ : Hid (∀ s' gl, E ≠ 0 → sok s0 s1.l E s' gl → s' = wz ∧ gl = []) := fun s' gl e ho => by
    rcases ho with ⟨_, hw, hg⟩ | ⟨hbad, _⟩
    · exact ⟨hw, hg⟩
    · exact absurd hbad e
  have HSW0 : Hid (∀ V, Calls Try.prog 11 #[wz.val, wz.val] V fun e w' => e = .returned (.bool true) ∧ Below V.heap.size V w') := fun V => by
    have h0' : fits 0 := by unfold fits; omega
    have hz : wz.fit V := fit_of_own (wz_own 0 V) h0' h0' h0' h0' (fun x hx => by cases hx) (fun x hx => by cases hx) (fun x hx => by cases hx) (fun x hx => by cases hx) (fun x hx => by cases hx)
    exact SameWorld_yes wz wz V hz hz ⟨rfl, rfl, rfl, rfl, rfl, rfl, rfl, rfl, rfl⟩
  obtain ⟨E0, he0, hal⟩ := hE
  have HWR : Hid (∀ V, Below w.heap.size w V → Calls Try.prog 10 #[s0.val] V fun e w' => e = .returned (.int .i64 E0) ∧ Below V.heap.size V w') := fun V hV => WorldRight_at s0 E0 V (Wld.fit_below h0 hV) he0
  have HAL : Hid _ := hal
  have HF0 : Hid (∀ V, Below w.heap.size w V → s0.fit V) := fun V hV => Wld.fit_below h0 hV
  have HRT : Hid (trow w s0.pt s0.lt) := h0.rt
  have HLT : Hid (s0.lt.length = s0.nt) := h0.ht
  obtain ⟨HLS, hHLS⟩ : ∃ HLS, harms (cnt s0.A.toNat s0.l s0.lt) s0.lt s1.l = HLS := ⟨_, rfl⟩
  have HBR : Hid (∀ v w', bres s0 s1.l E v w' → (E ≠ 0 ∧ v = .slice none 0 0) ∨ (E = 0 ∧ ∃ g c, v = .slice (some ⟨g, 0, none⟩) s0.nt c ∧ row vi w' (some ⟨g, 0, none⟩) HLS)) := fun v w' h => by
    unfold bres at h; rw [hHLS] at h; exact h
  rw [hHLS] at HHL
  obtain ⟨BR, hBR⟩ : ∃ BR : Value → World → Prop, (fun v w' => bres s0 s1.l E v w') = BR := ⟨_, rfl⟩
  have e0 : ∀ v w', bres s0 s1.l E v w' = BR v w' := fun v w' => by rw [← hBR]
  obtain ⟨hf, hhf⟩ : ∃ hf, hms s0 s1.l = hf := ⟨_, rfl⟩
  obtain ⟨SO, hSO⟩ : ∃ SO : Wld → List Int → Prop, (fun s' gl => sok s0 s1.l E s' gl) = SO := ⟨_, rfl⟩
  have e1 : ∀ s' gl, sok s0 s1.l E s' gl = SO s' gl := fun s' gl => by rw [← hSO]
  simp only [e1] at HS1 HFT HSAM HZ
  simp only [e0] at HBL HBR
  rw [hhf] at HHM HSV HHL HSAM
  obtain ⟨pl, cl, bl⟩ := s1
  unfold Cst.val
  dsimp only at *
  clear hs1 h0 he0 hal hcr hxb hmx hzp hkc hSO e1 hhf hko hBR e0 hHLS
  obtain ⟨A, B, p, n, c, l, pb, nb, cb, lb, ps, ns, cs, ls, pm, nm, cm, lm, pt, nt, ct, lt, N, T⟩ := s0
  unfold Wld.val at *
  dsimp only at *
  obtain ⟨nl, hnl⟩ : ∃ nl, bl.length = nl := ⟨_, rfl⟩
  rw [hnl] at HBL HS1 HHM HSV HAL ⊢
  clear hnl
  obtain ⟨F, hF⟩ : ∃ F, w.heap.size = F := ⟨_, rfl⟩
  obtain ⟨w0, hw0⟩ : ∃ w0, w.alloc (.cells #[.int .i64 A, .int .i64 B, .slice p n c, .slice pb nb cb, .slice ps ns cs, .slice pm nm cm, .slice pt nt ct, .int .i64 N, .int .i64 T] 28) = w0 := ⟨_, rfl⟩
  have HBX : Hid (∀ V, Below w0.heap.size w0 V → c9 V F (.int .i64 A) (.int .i64 B) (.slice p n c) (.slice pb nb cb) (.slice ps ns cs) (.slice pm nm cm) (.slice pt nt ct) (.int .i64 N) (.int .i64 T)) := fun V hV => boxw hF hw0 hV
  have hB0 : Below w.heap.size w w0 := by rw [← hw0]; exact alloc_below _ _
  have HB0 : Hid (Below w.heap.size w w0) := hB0
  have HUP : Hid (∀ V, Below w0.heap.size w0 V → Below w.heap.size w V) := fun V hV => HB0.out.trans (hV.mono HB0.out.size)
  obtain ⟨z0, z1, z2, z3, z4, z5, z6, z7, z8⟩ := HBX.out w0 (Below.refl _ _)
  clear hB0
  go_enter Try.func3, Try.ntmps3
  go_wp2_with fail
  refine (HBL.out w0 HB0.out).mono ?_
  rintro e w1 ⟨⟨vh, rfl, hvh⟩, hb1⟩
  have HB1 : Hid (Below w0.heap.size w0 w1) := hb1
  have HVH : Hid _ := HBR.out vh w1 hvh
  clear z0 z1 z2 z3 z4 z5 z6 z7 z8 hw0 hF hb1 hvh HBL
  obtain ⟨z0, z1, z2, z3, z4, z5, z6, z7, z8⟩ := HBX.out w1 HB1.out
  go_wp2_with fail
  refine (HS1.out w1 (HUP.out w1 HB1.out)).mono ?_
  rintro e w2 ⟨⟨sa, gpa, gca, gla, rfl, hra, hwa, hsa⟩, hb2⟩
  have hfa := HFT.out w2 _ sa gla hwa hsa
  have HB12 : Hid (Below w1.heap.size w1 w2) := hb2
  have HB2 : Hid (Below w0.heap.size w0 w2) := below_call HB1.out HB1.out.size hb2
  have HA : Hid (sa.fit w2 ∧ row vi w2 gpa gla ∧ SO sa gla) := ⟨hfa, hra, hsa⟩
  clear hfa hra hwa hsa hb2 z0 z1 z2 z3 z4 z5 z6 z7 z8 HS1 HFT
  obtain ⟨A1, B1, p1, n1, c1, l1_, pb1, nb1, cb1, lb1, ps1, ns1, cs1, ls1, pm1, nm1, cm1, lm1, pt1, nt1, ct1, lt1, N1, T1⟩ := sa
  dsimp only
  obtain ⟨ga, hga⟩ : ∃ ga, gla.length = ga := ⟨_, rfl⟩
  have HGA : Hid (gla.length = ga) := hga
  rw [hga]
  obtain ⟨w3, hw3⟩ : ∃ w3, w2.alloc (.cells #[.int .i64 A1, .int .i64 B1, .slice p1 n1 c1, .slice pb1 nb1 cb1, .slice ps1 ns1 cs1, .slice pm1 nm1 cm1, .slice pt1 nt1 ct1, .int .i64 N1, .int .i64 T1] 28) = w3 := ⟨_, rfl⟩
  obtain ⟨G1, hG1⟩ : ∃ G1, w2.heap.size = G1 := ⟨_, rfl⟩
  have hb3 : Below w2.heap.size w2 w3 := by rw [← hw3]; exact alloc_below _ _
  have hx3 : bx9 w3 G1 (.int .i64 A1) (.int .i64 B1) (.slice p1 n1 c1) (.slice pb1 nb1 cb1) (.slice ps1 ns1 cs1) (.slice pm1 nm1 cm1) (.slice pt1 nt1 ct1) (.int .i64 N1) (.int .i64 T1) := by rw [← hw3, ← hG1]; exact box9_new _ _ _ _ _ _ _ _ _ _
  have HBA : Hid (∀ V, Below w3.heap.size w3 V → bx9 V G1 (.int .i64 A1) (.int .i64 B1) (.slice p1 n1 c1) (.slice pb1 nb1 cb1) (.slice ps1 ns1 cs1) (.slice pm1 nm1 cm1) (.slice pt1 nt1 ct1) (.int .i64 N1) (.int .i64 T1)) := fun V hV => bx9_below hx3 hV
  have HB23 : Hid (Below w2.heap.size w2 w3) := hb3
  have HB3 : Hid (Below w0.heap.size w0 w3) := below_call HB2.out HB2.out.size hb3
  obtain ⟨z0, z1, z2, z3, z4, z5, z6, z7, z8⟩ := HBX.out w3 HB3.out
  clear hga hb3 hx3
  go_wp2_with fail
  clear hw3 hG1
  refine (HWR.out w3 (HUP.out w3 HB3.out)).mono ?_
  rintro e w4 ⟨rfl, hb4⟩
  have HB34 : Hid (Below w3.heap.size w3 w4) := hb4
  have HB4 : Hid (Below w0.heap.size w0 w4) := below_call HB3.out HB3.out.size hb4
  have HBW4 : Hid (Below w.heap.size w w4) := HUP.out w4 HB4.out
  clear hb4 z0 z1 z2 z3 z4 z5 z6 z7 z8 HWR
  by_cases hE0 : E = 0
  rotate_left
  · obtain ⟨hz, hgz⟩ := HZ.out _ _ hE0 HA.out.2.2
    obtain rfl : vh = .slice none 0 0 := by
      rcases HVH.out with ⟨_, h1⟩ | ⟨h1, _⟩
      · exact h1
      · exact absurd h1 hE0
    unfold wz at hz
    simp only [Wld.mk.injEq] at hz
    obtain ⟨rfl, rfl, rfl, rfl, rfl, rfl, rfl, rfl, rfl, rfl, rfl, rfl, rfl, rfl, rfl, rfl, rfl, rfl, rfl, rfl, rfl, rfl, rfl, rfl⟩ := hz
    subst hgz
    obtain rfl : ga = 0 := HGA.out.symm
    have HSZ : Hid (∀ V, Calls Try.prog 11 #[.agg #[.int .i64 0, .int .i64 0, .slice none 0 0, .slice none 0 0, .slice none 0 0, .slice none 0 0, .slice none 0 0, .int .i64 0, .int .i64 0], .agg #[.int .i64 0, .int .i64 0, .slice none 0 0, .slice none 0 0, .slice none 0 0, .slice none 0 0, .slice none 0 0, .int .i64 0, .int .i64 0]] V fun e w' => e = .returned (.bool true) ∧ Below V.heap.size V w') := HSW0.out
    obtain ⟨y0, y1, y2, y3, y4, y5, y6, y7, y8⟩ := bx9_c9 (HBA.out w4 HB34.out)
    have dE : (E == 0) = false := by simp [hE0]
    rcases HAL.out with ⟨h1, rfl⟩ | ⟨rfl, h1, rfl⟩ | ⟨_, _, h1⟩
    · have d1 : (E != 0) = true := by simp [hE0]
      go_wp2_with fail
      refine (HSZ.out w4).mono ?_
      rintro e w5 ⟨rfl, hb5⟩
      have HBE : Hid (Below w.heap.size w w5) := below_call HBW4.out HBW4.out.size hb5
      clear hb5 y0 y1 y2 y3 y4 y5 y6 y7 y8
      go_wp2_with fail
      go_ret
      exact ⟨rfl, HBE.out⟩
    · have d1 : (200 : Int) < nl := by omega
      go_wp2_with fail
      refine (HSZ.out w4).mono ?_
      rintro e w5 ⟨rfl, hb5⟩
      have HBE : Hid (Below w.heap.size w w5) := below_call HBW4.out HBW4.out.size hb5
      clear hb5 y0 y1 y2 y3 y4 y5 y6 y7 y8
      go_wp2_with fail
      go_ret
      exact ⟨rfl, HBE.out⟩
    · exact absurd h1 hE0
  subst hE0
  obtain ⟨gH, cH, rfl, hrh⟩ : ∃ g c, vh = .slice (some ⟨g, 0, none⟩) nt c ∧ row vi w1 (some ⟨g, 0, none⟩) HLS := by
    rcases HVH.out with ⟨h1, _⟩ | ⟨_, h1⟩
    · exact absurd rfl h1
    · exact h1
  have HRH : Hid (row vi w1 (some ⟨gH, 0, none⟩) HLS) := hrh
  obtain ⟨rfl, h200⟩ : E0 = 0 ∧ nl ≤ 200 := by
    rcases HAL.out with ⟨h1, h2⟩ | ⟨_, _, h2⟩ | ⟨h1, h2, _⟩
    · exact absurd h2.symm h1
    · cases h2
    · exact ⟨h1, h2⟩
  have d2 : ¬ (200 : Int) < nl := by omega
  have hnt := HN100.out rfl
  have HSV1 : Hid _ := HSV.out rfl
  have HHM1 : Hid _ := HHM.out rfl
  clear hrh h200 HVH HAL HSV HHM HZ HSW0 HBR HN100
  obtain ⟨z0, z1, z2, z3, z4, z5, z6, z7, z8⟩ := HBX.out w4 HB4.out
  go_wp2_with fail
  refine (HSV1.out w4 HBW4.out).mono ?_
  rintro e w5 ⟨⟨p2, n2, c2, gp2, gc2, rfl, hr2, hf2⟩, hb5⟩
  have HB5 : Hid (Below w0.heap.size w0 w5) := below_call HB4.out HB4.out.size hb5
  have HB35 : Hid (Below w3.heap.size w3 w5) := below_call HB34.out HB34.out.size hb5
  have HR2 : Hid (row vi w5 gp2 (gon hf lt) ∧ Wld.fit w5 ⟨A, B, p, n, c, l, pb, nb, cb, lb, ps, ns, cs, ls, pm, nm, cm, lm, p2, n2, c2, lft hf lt, N, T⟩) := ⟨hr2, hf2⟩
  have HSS : Hid _ := HSAM.out _ gla p2 n2 c2 (by first | rfl | trivial) HA.out.2.2
  have hge : (gon hf lt).length = ga := by rw [← HSS.out.2.1]; exact HGA.out
  rw [hge]
  clear hb5 hr2 hf2 z0 z1 z2 z3 z4 z5 z6 z7 z8 HSV1 HSAM
  obtain ⟨w6, hw6⟩ : ∃ w6, w5.alloc (.cells #[.int .i64 A, .int .i64 B, .slice p n c, .slice pb nb cb, .slice ps ns cs, .slice pm nm cm, .slice p2 n2 c2, .int .i64 N, .int .i64 T] 28) = w6 := ⟨_, rfl⟩
  obtain ⟨G2, hG2⟩ : ∃ G2, w5.heap.size = G2 := ⟨_, rfl⟩
  have hb6 : Below w5.heap.size w5 w6 := by rw [← hw6]; exact alloc_below _ _
  have hx6 : bx9 w6 G2 (.int .i64 A) (.int .i64 B) (.slice p n c) (.slice pb nb cb) (.slice ps ns cs) (.slice pm nm cm) (.slice p2 n2 c2) (.int .i64 N) (.int .i64 T) := by rw [← hw6, ← hG2]; exact box9_new _ _ _ _ _ _ _ _ _ _
  have HBC : Hid (∀ V, Below w6.heap.size w6 V → bx9 V G2 (.int .i64 A) (.int .i64 B) (.slice p n c) (.slice pb nb cb) (.slice ps ns cs) (.slice pm nm cm) (.slice p2 n2 c2) (.int .i64 N) (.int .i64 T)) := fun V hV => bx9_below hx6 hV
  have HB56 : Hid (Below w5.heap.size w5 w6) := hb6
  have HB6 : Hid (Below w0.heap.size w0 w6) := below_call HB5.out HB5.out.size hb6
  have HB36 : Hid (Below w3.heap.size w3 w6) := below_call HB35.out HB35.out.size hb6
  obtain ⟨z0, z1, z2, z3, z4, z5, z6, z7, z8⟩ := HBX.out w6 HB6.out
  clear hb6 hx6
  go_wp2_with fail
  clear hw6 hG2 z0 z1 z2 z3 z4 z5 z6 z7 z8
  go_loopw [77] (fun i wr => ∃ k : Nat, i = .int .i64 k ∧ k ≤ nt ∧ Hid (Below w6.heap.size w6 wr)) (fun i _ => nt - (intOf i).toNat)
  case atStart => exact ⟨0, rfl, by omega, Below.refl _ _⟩
  case round =>
    obtain ⟨k, rfl, hk, HS⟩ := hrel
    have HB0r : Hid (Below w0.heap.size w0 wr) := below_call HB6.out HB6.out.size HS.out
    by_cases hlt : k < nt
    · have hkl : k < lt.length := by rw [HLT.out]; exact hlt
      obtain ⟨a, rfl, c0, c1_, c2_, c3, c4, c5, c6⟩ := trow_at (trow_below HRT.out (HUP.out wr HB0r.out)) hkl
      have hq := (row_below HRH.out (HB12.out.trans (((HB23.out.trans (HB36.out.mono HB23.out.size)).trans (HS.out.mono (Nat.le_trans HB23.out.size HB36.out.size))).mono HB12.out.size))) k _ (HHL.out k hkl)
      obtain ⟨q, hqe, hq2⟩ := hq
      cases hqe
      rw [add_zero_at] at hq2
      have hho := fun V hV => HHM1.out V lt[k].i hV
      obtain ⟨t, ht⟩ : ∃ t, lt[k] = t := ⟨_, rfl⟩
      rw [ht] at c0 c1_ c2_ c3 c4 c5 c6 hq2 hho
      obtain ⟨ti, to_, tk, tx, ty, tf, td⟩ := t
      simp only at c0 c1_ c2_ c3 c4 c5 c6 hq2 hho
      obtain ⟨hv, ehv⟩ : ∃ hv, hf ti = hv := ⟨_, rfl⟩
      rw [ehv] at hq2 hho
      have HHV : Hid _ := hho
      obtain ⟨w7, hw7⟩ : ∃ w7, wr.alloc (.cells #[.int .i64 ti, .int .i64 to_, .int .i64 tk, .int .i64 tx, .int .i64 ty, .int .i64 tf, .int .i64 td] 42) = w7 := ⟨_, rfl⟩
      obtain ⟨G, hG⟩ : ∃ G, wr.heap.size = G := ⟨_, rfl⟩
      have hb7 : Below wr.heap.size wr w7 := by rw [← hw7]; exact alloc_below _ _
      have HBT : Hid (∀ V, Below w7.heap.size w7 V → c7 V G ti to_ tk tx ty tf td) := fun V hV => boxt hG hw7 hV
      have HB07 : Hid (Below w0.heap.size w0 w7) := below_call HB0r.out HB0r.out.size hb7
      have HB67 : Hid (Below w6.heap.size w6 w7) := below_call HS.out HS.out.size hb7
      have HQ : Hid (w7.cell? ⟨gH, k, none⟩ = some (.int .i64 hv)) := cell_call hb7 hq2
      have l1 : (k : Int) < nt := by omega
      have l2 : (0 : Int) ≤ k := by omega
      clear hho ht ehv hkl hq2 hb7
      go_wp2_with fail
      clear c0 c1_ c2_ c3 c4 c5 c6 hw7 hG
      obtain ⟨z0, z1, z2, z3, z4, z5, z6, z7, z8⟩ := HBX.out w7 HB07.out
      obtain ⟨u0, u1, u2, u3, u4, u5, u6⟩ := HBT.out w7 (Below.refl _ _)
      have q0 := HQ.out
      go_region_held3 (fun V => Below w7.heap.size w7 V ∧ V.cell? ⟨F, 0, none⟩ = some (.int .i64 A) ∧ V.cell? ⟨F, 1, none⟩ = some (.int .i64 B) ∧ V.cell? ⟨F, 2, none⟩ = some (.slice p n c) ∧ V.cell? ⟨F, 3, none⟩ = some (.slice pb nb cb) ∧ V.cell? ⟨F, 4, none⟩ = some (.slice ps ns cs) ∧ V.cell? ⟨F, 5, none⟩ = some (.slice pm nm cm) ∧ V.cell? ⟨F, 6, none⟩ = some (.slice (some a) nt ct) ∧ V.cell? ⟨F, 7, none⟩ = some (.int .i64 N) ∧ V.cell? ⟨F, 8, none⟩ = some (.int .i64 T) ∧ V.cell? ⟨G, 0, none⟩ = some (.int .i64 ti) ∧ V.cell? ⟨gH, k, none⟩ = some (.int .i64 hv))
        (first | with_reducible assumption | with_reducible exact k11_drew (by assumption) | with_reducible exact k11_call (by assumption) (by assumption) | exact ⟨Below.drew (Below.refl _ _), z0, z1, z2, z3, z4, z5, z6, z7, z8, u0, q0⟩) (first
          | (go_at_call 13; with_reducible refine (HHV.out _ (HUP.out _ (below_call HB07.out HB07.out.size (And.left (by assumption))))).mono ?_; rintro e w8 ⟨rfl, hb8⟩))
      have HB68 : Hid (Below w6.heap.size w6 w8) := below_call HB67.out HB67.out.size (by first | exact (And.left (by assumption)) | exact (Below.drew (Below.refl _ _)).trans hb8)
      clear hb8 z0 z1 z2 z3 z4 z5 z6 z7 z8 u0 u1 u2 u3 u4 u5 u6 q0
      go_wp2_with fail
      go_roundw
      case rel => exact ⟨k + 1, by go_num, by omega, HB68.out⟩
      case measure => simp [intOf]; omega
    · have hkn : k = nt := by omega
      subst hkn
      have HB5r : Hid (Below w5.heap.size w5 wr) := below_call HB56.out HB56.out.size HS.out
      have HB3r : Hid (Below w3.heap.size w3 wr) := below_call HB36.out HB36.out.size HS.out
      have HB2r : Hid (Below w2.heap.size w2 wr) := below_call HB23.out HB23.out.size HB3r.out
      have HBwr : Hid (Below w.heap.size w wr) := HUP.out wr HB0r.out
      have HSW : Hid (Calls Try.prog 11 #[_, _] wr fun e w' => e = .returned (.bool true) ∧ Below wr.heap.size wr w') := SameWorld_yes _ _ wr (Wld.fit_below HA.out.1 HB2r.out) (Wld.fit_below HR2.out.2 HB5r.out) HSS.out.1
      unfold Wld.val at HSW
      dsimp only at HSW
      have HEQ : Hid (∀ V, Below wr.heap.size wr V → Calls Try.prog 14 #[.slice gpa ga gca, .slice gp2 ga gc2] V fun e w' => e = .returned (.bool true) ∧ Below V.heap.size V w') := fun V hV => Equal_b gpa gp2 ga gca gc2 gla V HGA.out (by rw [← HGA.out]; exact HSS.out.2.2) (row_below HA.out.2.1 (below_call HB2r.out HB2r.out.size hV)) (by rw [HSS.out.2.1]; exact row_below HR2.out.1 (below_call HB5r.out HB5r.out.size hV))
      obtain ⟨y0, y1, y2, y3, y4, y5, y6, y7, y8⟩ := bx9_c9 (HBA.out wr HB3r.out)
      obtain ⟨z0, z1, z2, z3, z4, z5, z6, z7, z8⟩ := bx9_c9 (HBC.out wr HS.out)
      go_wp2_with fail
      refine Calls.mono HSW.out ?_
      rintro e w8 ⟨rfl, hb8⟩
      have HB8 : Hid (Below wr.heap.size wr w8) := hb8
      clear hb8 y0 y1 y2 y3 y4 y5 y6 y7 y8 z0 z1 z2 z3 z4 z5 z6 z7 z8 HSW
      go_wp2_with fail
      refine (HEQ.out w8 HB8.out).mono ?_
      rintro e w9 ⟨rfl, hb9⟩
      have HB9 : Hid (Below w.heap.size w w9) := below_call HBwr.out HBwr.out.size (below_call HB8.out HB8.out.size hb9)
      clear hb9
      go_wp2_with fail
      go_ret
      exact ⟨rfl, HB9.out⟩

set_option maxRecDepth 100000 in
theorem lifted (os : Os) (started : os.Started) (H : Type) (enc : TypeId × Value → H) :
    ReturnsInHanded {} Try.checked os 3 .any (Rows.hitSaysSpec.pre6 enc Try.prog Try.f3 Rows.hitSaysRow.domain false) (Rows.hitSaysSpec.post enc Try.prog Try.f3 false true false false) := by
  refine returnsInHanded_of_change_sized (C := Try.checked) own started (by kernel_rfl) Try.func3
    (ChangeSpec.witness6 (enc := enc) (C := Try.checked) false ⟨#[], #[.agg #[.int .i64 0, .int .i64 0, .slice none 0 0, .slice none 0 0, .slice none 0 0, .slice none 0 0, .slice none 0 0, .int .i64 0, .int .i64 0], .slice none 0 0], []⟩ 8 (by kernel_rfl) (by kernel_rfl) (by kernel_rfl) (by kernel_rfl)) ?_
  intro W base args ds gs before hval0 hW hcnd hsz _
  have hval : ∀ (j : Nat) t v, Try.f3.params[j]? = some t → args[j]? = some v → Value.okWide Try.prog W .any base t v := hval0
  have hW' := hW
  obtain ⟨p, q, hA0, hV, rfl, hfz, hnd⟩ := hW
  have hA : DataW.TrodAll enc Try.prog W 0 (fun _ => true) true Try.f3.params.toList args.toList ds p := hA0
  rw [Try.params3] at hA hval
  obtain ⟨v0, vs0, d0, ds0, p0, q0, hargs, rfl, rfl, h0, r0⟩ := trodAll_cons hA
  obtain ⟨v1, vs1, d1, ds1, p1, q1, rfl, rfl, rfl, h1, r1⟩ := trodAll_cons r0
  obtain ⟨rfl, rfl, rfl⟩ := trodAll_nil r1
  obtain rfl : args = #[v0, v1] := by cases args; simp_all
  obtain ⟨rfl, rfl⟩ := trodVars_none hV
  obtain ⟨s0, rfl, k0⟩ := open_wld (hval 0 28 v0 rfl rfl) h0
  obtain ⟨s1, rfl, k1, t1⟩ := open_cst Try.underlying29 Try.underlying48 Try.underlying3 Try.underlying3 rfl rfl (by kernel_rfl) (by kernel_rfl) (by kernel_rfl) (hval 1 29 v1 rfl rfl) h1
  have hs1 : s1.l.length * 16 ≤ 140737488351232 := told_sized hsz (j := 1) rfl rfl Try.underlying29 (by kernel_rfl) t1
  clear hA0 hval0
  refine (walk s0 s1  W k0 k1 hs1).mono fun e W' ⟨he, hg⟩ => ?_
  subst he
  exact ⟨_, rfl, law_post (by kernel_rfl) (by kernel_rfl) rfl (by kernel_rfl) Try.underlying4 hW' rfl hg⟩

theorem over : Rows.hitSaysRow.holds Try.pinned (OpenSpec.ofChange Rows.hitSaysSpec) :=
  OpenClaim.holds_of_wide 3 Try.f3 rfl rfl rfl rfl rfl rfl rfl ⟨rfl, rfl, rfl, rfl, rfl⟩ rfl rfl rfl rfl rfl (by kernel_rfl) Try.func3 (by kernel_rfl)
    (of_decide_eq_true (by kernel_rfl)) (by unfold Func.isWrapper; first | (rw [if_pos (by decide +kernel)]; kernel_rfl) | (rw [if_neg (by decide +kernel)]; exact ⟨rfl, rfl⟩))
    (fun os started H enc _ => lifted os started H enc)

theorem proved : Rows.HitSaysSaid :=
  over
end Go.Proofs.Ytjbfnibhmojlfaa.hitSays

namespace Go.Proofs.Ytjbfnibhmojlfaa
/-- What hitSays returns -/
theorem hitSays_holds : Rows.HitSaysSaid := hitSays.proved
#print axioms hitSays_holds
end Go.Proofs.Ytjbfnibhmojlfaa
