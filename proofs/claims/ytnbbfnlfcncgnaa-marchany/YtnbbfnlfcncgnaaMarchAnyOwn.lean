/- MarchAny: it is no matter in what order goes are told, as long as each troop has but one: for every world and every list of goes the law answers true. -/
import Derived.Test.YtnbbfnlfcncgnaaRows
import Derived.Test.YtnbbfnlfcncgnaaPost
import Derived.Test.YtnbbfnlfcncgnaaOpc
import Derived.Test.YtnbbfnlfcncgnaaGm
import Derived.Test.YtnbbfnlfcncgnaaGr
import Derived.Test.YtnbbfnlfcncgnaaGc
import Derived.Test.YtnbbfnlfcncgnaaSn
import Derived.Test.YtnbbfnlfcncgnaaLv
import Derived.Test.YtnbbfnlfcncgnaaSf
import Derived.WalkKit
import Derived.ProofKit
import Derived.OpenShut
import Derived.SizedLaws
import Derived.ChangeMaps5
import Derived.JoinedCond
namespace Go.Proofs.Ytnbbfnlfcncgnaa.marchAny
open Go.ChangeShapes Go.WideShapes Go.ChangeAt Go.RowKit
set_option linter.unusedVariables false

theorem own : ownKnob Try.prog.godebug = none := by kernel_rfl

theorem pairg_snoc {bl : List Goe} {k : Nat} (hk : k < bl.length) {i x y : Int} (hb : bl[k] = ⟨i, x, y⟩) (h1 : (bl.take k).Pairwise fun a b => a.i ≠ b.i) (h2 : (bl.take k).any (fun b => b.i == i) = false) : (bl.take (k + 1)).Pairwise fun a b => a.i ≠ b.i := by
  rw [List.take_succ_eq_append_getElem hk, List.pairwise_append, hb]
  refine ⟨h1, by simp, fun a ha b hb' => ?_⟩
  rw [List.mem_singleton] at hb'
  subst hb'
  have := List.any_eq_false.1 h2 a ha
  simpa using this
theorem goe_one {L : List Goe} (hp : L.Pairwise fun a b => a.i ≠ b.i) {a b : Goe} (ha : a ∈ L) (hb : b ∈ L) (h : a.i = b.i) : a = b := by
  obtain ⟨m, hm, rfl⟩ := List.getElem_of_mem ha
  obtain ⟨n, hn, rfl⟩ := List.getElem_of_mem hb
  rcases Nat.lt_trichotomy m n with e | e | e
  · exact absurd h (List.pairwise_iff_getElem.1 hp m n hm hn e)
  · subst e; rfl
  · exact absurd h.symm (List.pairwise_iff_getElem.1 hp n m hn hm e)
theorem gol_rev {L : List Goe} (hp : L.Pairwise fun a b => a.i ≠ b.i) (i : Int) : gol L.reverse i = gol L i := by
  unfold gol
  congr 1
  cases h : L.find? (fun g => g.i == i) with
  | none =>
    rw [List.find?_eq_none] at h ⊢
    exact fun g hg => h g (List.mem_reverse.1 hg)
  | some a =>
    have ha := List.mem_of_find?_eq_some h
    have hai := List.find?_some h
    cases h' : L.reverse.find? (fun g => g.i == i) with
    | none => exact absurd hai (List.find?_eq_none.1 h' a (List.mem_reverse.2 ha))
    | some b =>
      have hb := List.mem_reverse.1 (List.mem_of_find?_eq_some h')
      have hbi := List.find?_some h'
      have e : b.i = a.i := by simp at hai hbi; rw [hai, hbi]
      rw [goe_one hp hb ha e]
theorem stk_len {s s' : Wld} {w : World} {n : Nat} {E : Int} {gs : List Goe} {I : List Int} (h : s.fit w) (hE : ber s n E) (ho : stk s gs E s' I) : I.length ≤ 100 := (step_ids h ⟨n, hE⟩ ho).1
/-- Told in another order the same goes make the same world, if each troop has but one. -/
theorem stk_rev {s s1 s2 : Wld} {gs : List Goe} {I1 I2 : List Int} (hp : gs.Pairwise fun a b => a.i ≠ b.i) (h1 : stk s gs 0 s1 I1) (h2 : stk s gs.reverse 0 s2 I2) : samew s1 s2 ∧ I1 = I2 := by
  rcases h1 with ⟨h, _⟩ | ⟨_, a1, t1, m1⟩
  · exact absurd rfl h
  · rcases h2 with ⟨h, _⟩ | ⟨_, a2, t2, m2⟩
    · exact absurd rfl h
    · obtain ⟨e1, e2⟩ := mst_one m1 (mst_congr (fun i => (gol_rev hp i).symm) m2)
      obtain ⟨x1, x2, _, x3, _, x4, _, x5, _, x6, x7, x8⟩ := a1
      obtain ⟨y1, y2, _, y3, _, y4, _, y5, _, y6, y7, y8⟩ := a2
      exact ⟨⟨x1.trans y1.symm, x2.trans y2.symm, x3.trans y3.symm, x4.trans y4.symm, x5.trans y5.symm, x6.trans y6.symm, e1, x7.trans y7.symm, x8.trans y8.symm⟩, e2⟩

set_option maxRecDepth 20000 in
set_option maxHeartbeats 4000000 in
theorem walk (s0 : Wld) (s1 : Gst)  (w : World) (h0 : s0.fit w) (h1 : s1.fit w) (hs1 : s1.l.length * 24 ≤ 140737488351232) :
    Calls Try.prog 5 #[s0.val, s1.val] w fun e w' => e = .returned (.bool true) ∧ Below w.heap.size w w' := by
  obtain ⟨E, hE⟩ := ber_total s0 s1.l.length
  obtain ⟨hcr, hxb, hmx, hzp, hkc⟩ := h1
  have HCL : Hid (∀ V, Below w.heap.size w V → Calls Try.prog 25 #[.slice s1.p s1.l.length s1.c] V fun e w' => (∃ v, e = .returned v ∧ mineg V.heap.size w' v s1.l ∧ alli w' v) ∧ Below V.heap.size V w') := fun V hV => Cloneg_any s1.p s1.l.length s1.c s1.l V (gor_below hcr hV) rfl (by omega)
  have HS1 : Hid (∀ V, Below w.heap.size w V → Calls Try.prog 9 #[s0.val, .slice s1.p s1.l.length s1.c] V fun e w' => (∃ (s' : Wld) (gp : Option Addr) (gc : Nat) (gl : List Int), e = .returned (.tuple #[s'.val, .slice gp gl.length gc, .int .i64 E]) ∧ row vi w' gp gl ∧ wown V.heap.size w' s' ∧ stk s0 s1.l E s' gl) ∧ Below V.heap.size V w') := fun V hV => Step_any s0 E s1.p s1.l.length s1.c s1.l V (Wld.fit_below h0 hV) (gor_below hcr hV) hxb rfl hmx hE
  have HS2 : Hid (∀ V pm cm, Below w.heap.size w V → gor V pm s1.l.reverse → Calls Try.prog 9 #[s0.val, .slice pm s1.l.length cm] V fun e w' => (∃ (s' : Wld) (gp : Option Addr) (gc : Nat) (gl : List Int), e = .returned (.tuple #[s'.val, .slice gp gl.length gc, .int .i64 E]) ∧ row vi w' gp gl ∧ wown V.heap.size w' s' ∧ stk s0 s1.l.reverse E s' gl) ∧ Below V.heap.size V w') := fun V pm cm hV hc => Step_any s0 E pm s1.l.length cm s1.l.reverse V (Wld.fit_below h0 hV) hc (fun c hcm => hxb c (by simpa using hcm)) (by simp) hmx hE
  have HFT : Hid (∀ V B s' bl gl, wown B V s' → bl.length = s1.l.length → stk s0 bl E s' gl → s'.fit V ∧ gl.length ≤ 100) := fun V B s' bl gl hw hl ho => ⟨step_fit h0 hw ho, stk_len h0 hE ho⟩
  have HCR : Hid (gor w s1.p s1.l) := hcr
  have HMX : Hid (s1.l.length * 24 ≤ 140737488351232 ∧ s1.l.length ≤ s1.c) := ⟨hs1, hkc⟩
  obtain ⟨sz, hsz⟩ : ∃ sz, s0 = sz := ⟨_, rfl⟩
  obtain ⟨SO, hSO⟩ : ∃ SO : List Goe → Wld → List Int → Prop, (fun bl s' gl => stk s0 bl E s' gl) = SO := ⟨_, rfl⟩
  have HREV : Hid (∀ sa sb ga gb, E = 0 → s1.l.Pairwise (fun a b => a.i ≠ b.i) → SO s1.l sa ga → SO s1.l.reverse sb gb → samew sa sb ∧ ga = gb) := fun sa sb ga gb he hp h1 h2 => by
    subst he
    rw [← hSO] at h1 h2
    exact stk_rev hp h1 h2
  have e1 : ∀ bl s' gl, stk s0 bl E s' gl = SO bl s' gl := fun bl s' gl => by rw [← hSO]
  simp only [e1] at HS1 HS2 HFT
  obtain ⟨pl, cl, bl⟩ := s1
  unfold Gst.val
  dsimp only at *
  clear hs1 h0 hE hcr hxb hmx hzp hkc hsz hSO e1
  obtain ⟨A, B, p, n, c, l, pb, nb, cb, lb, ps, ns, cs, ls, pm, nm, cm, lm, pt, nt, ct, lt, N, T⟩ := s0
  unfold Wld.val at *
  dsimp only at *
  obtain ⟨nl, hnl⟩ : ∃ nl, bl.length = nl := ⟨_, rfl⟩
  have HNL : Hid (bl.length = nl) := hnl
  rw [hnl] at HCL HS1 HS2 HFT HMX ⊢
  have hnl1 : nl * 24 ≤ 140737488351232 := HMX.out.1
  have hnl2 : nl ≤ cl := HMX.out.2
  clear hnl
  obtain ⟨F, hF⟩ : ∃ F, w.heap.size = F := ⟨_, rfl⟩
  obtain ⟨w0, hw0⟩ : ∃ w0, w.alloc (.cells #[.int .i64 A, .int .i64 B, .slice p n c, .slice pb nb cb, .slice ps ns cs, .slice pm nm cm, .slice pt nt ct, .int .i64 N, .int .i64 T] 28) = w0 := ⟨_, rfl⟩
  have HBX : Hid (∀ V, Below w0.heap.size w0 V → c9 V F (.int .i64 A) (.int .i64 B) (.slice p n c) (.slice pb nb cb) (.slice ps ns cs) (.slice pm nm cm) (.slice pt nt ct) (.int .i64 N) (.int .i64 T)) := fun V hV => boxw hF hw0 hV
  have hB0 : Below w.heap.size w w0 := by rw [← hw0]; exact alloc_below _ _
  have HB0 : Hid (Below w.heap.size w w0) := hB0
  have HUP : Hid (∀ V, Below w0.heap.size w0 V → Below w.heap.size w V) := fun V hV => HB0.out.trans (hV.mono HB0.out.size)
  clear hB0
  go_enter Try.func5, Try.ntmps5
  go_wp2_with fail
  refine (HCL.out w0 HB0.out).mono ?_
  rintro e w1 ⟨⟨v, rfl, hm1, -⟩, hb1⟩
  obtain ⟨qm, dm, rfl⟩ := mine_form hm1
  rw [HNL.out] at hm1 ⊢
  have HB1 : Hid (Below w0.heap.size w0 w1) := hb1
  have HM1 : Hid (mineg w0.heap.size w1 (.slice qm nl dm) bl) := hm1
  clear hm1 hb1 hw0 hF HCL
  go_wp2_with fail
  refine (Reverseg_any w0.heap.size nl dm qm bl w1 HM1.out HNL.out (by omega)).mono ?_
  rintro e w2 ⟨rfl, hm2, hx2⟩
  have HB2 : Hid (Below w0.heap.size w0 w2) := HB1.out.trans (hx2.below HB1.out.size (fun k hk e => by have := own_base HM1.out k e.symm; omega))
  have HC2 : Hid (gor w2 qm bl.reverse) := mineg_gor hm2 (by rw [List.length_reverse]; exact HNL.out)
  clear hm2 hx2 HM1
  obtain ⟨z0, z1, z2, z3, z4, z5, z6, z7, z8⟩ := HBX.out w2 HB2.out
  go_wp2_with fail
  refine (HS1.out w2 (HUP.out w2 HB2.out)).mono ?_
  rintro e w3 ⟨⟨sa, gpa, gca, gla, rfl, hra, hwa, hsa⟩, hb3⟩
  have hfa := (HFT.out w3 _ sa bl gla hwa HNL.out hsa).1
  have HB3 : Hid (Below w0.heap.size w0 w3) := below_call HB2.out HB2.out.size hb3
  have HC3 : Hid (gor w3 qm bl.reverse) := gor_below HC2.out hb3
  have HA : Hid (sa.fit w3 ∧ row vi w3 gpa gla ∧ SO bl sa gla) := ⟨hfa, hra, hsa⟩
  obtain ⟨A1, B1, p1, n1, c1, l1_, pb1, nb1, cb1, lb1, ps1, ns1, cs1, ls1, pm1, nm1, cm1, lm1, pt1, nt1, ct1, lt1, N1, T1⟩ := sa
  dsimp only
  obtain ⟨ga, hga⟩ : ∃ ga, gla.length = ga := ⟨_, rfl⟩
  have HGA : Hid (gla.length = ga) := hga
  rw [hga]
  obtain ⟨w4, hw4⟩ : ∃ w4, w3.alloc (.cells #[.int .i64 A1, .int .i64 B1, .slice p1 n1 c1, .slice pb1 nb1 cb1, .slice ps1 ns1 cs1, .slice pm1 nm1 cm1, .slice pt1 nt1 ct1, .int .i64 N1, .int .i64 T1] 28) = w4 := ⟨_, rfl⟩
  obtain ⟨G1, hG1⟩ : ∃ G1, w3.heap.size = G1 := ⟨_, rfl⟩
  have hb4 : Below w3.heap.size w3 w4 := by rw [← hw4]; exact alloc_below _ _
  have HB4 : Hid (Below w0.heap.size w0 w4) := below_call HB3.out HB3.out.size hb4
  have HB34 : Hid (Below w3.heap.size w3 w4) := hb4
  have HBA : Hid (∀ V, Below w4.heap.size w4 V → c9 V G1 (.int .i64 A1) (.int .i64 B1) (.slice p1 n1 c1) (.slice pb1 nb1 cb1) (.slice ps1 ns1 cs1) (.slice pm1 nm1 cm1) (.slice pt1 nt1 ct1) (.int .i64 N1) (.int .i64 T1)) := fun V hV => boxw hG1 hw4 hV
  clear hfa hra hwa hsa hb3 hb4 hga z0 z1 z2 z3 z4 z5 z6 z7 z8 HS1
  obtain ⟨z0, z1, z2, z3, z4, z5, z6, z7, z8⟩ := HBX.out w4 HB4.out
  go_wp2_with fail
  clear z0 z1 z2 z3 z4 z5 z6 z7 z8 hw4 hG1
  refine (HS2.out w4 qm dm (HUP.out w4 HB4.out) (gor_below HC3.out HB34.out)).mono ?_
  rintro e w5 ⟨⟨sb, gpb, gcb, glb, rfl, hrb, hwb, hsb⟩, hb5⟩
  obtain ⟨hfb, hlb⟩ := HFT.out w5 _ sb bl.reverse glb hwb (by rw [List.length_reverse]; exact HNL.out) hsb
  have HB45 : Hid (Below w4.heap.size w4 w5) := hb5
  have HB35 : Hid (Below w3.heap.size w3 w5) := below_call HB34.out HB34.out.size hb5
  have HBb : Hid (sb.fit w5 ∧ row vi w5 gpb glb ∧ SO bl.reverse sb glb) := ⟨hfb, hrb, hsb⟩
  have HRV : Hid (E = 0 → bl.Pairwise (fun a b => a.i ≠ b.i) → samew ⟨A1, B1, p1, n1, c1, l1_, pb1, nb1, cb1, lb1, ps1, ns1, cs1, ls1, pm1, nm1, cm1, lm1, pt1, nt1, ct1, lt1, N1, T1⟩ sb ∧ gla = glb) := fun he hp => HREV.out _ _ _ _ he hp HA.out.2.2 hsb
  obtain ⟨A2, B2, p2, n2, c2, l2_, pb2, nb2, cb2, lb2, ps2, ns2, cs2, ls2, pm2, nm2, cm2, lm2, pt2, nt2, ct2, lt2, N2, T2⟩ := sb
  dsimp only
  obtain ⟨gb, hgb⟩ : ∃ gb, glb.length = gb := ⟨_, rfl⟩
  have HGB : Hid (glb.length = gb) := hgb
  rw [hgb] at hlb ⊢
  have HLB : Hid (gb ≤ 100) := hlb
  obtain ⟨w6, hw6⟩ : ∃ w6, w5.alloc (.cells #[.int .i64 A2, .int .i64 B2, .slice p2 n2 c2, .slice pb2 nb2 cb2, .slice ps2 ns2 cs2, .slice pm2 nm2 cm2, .slice pt2 nt2 ct2, .int .i64 N2, .int .i64 T2] 28) = w6 := ⟨_, rfl⟩
  obtain ⟨G2, hG2⟩ : ∃ G2, w5.heap.size = G2 := ⟨_, rfl⟩
  have hb6 : Below w5.heap.size w5 w6 := by rw [← hw6]; exact alloc_below _ _
  have HB56 : Hid (Below w5.heap.size w5 w6) := hb6
  have HB46 : Hid (Below w4.heap.size w4 w6) := below_call HB45.out HB45.out.size hb6
  have HB36 : Hid (Below w3.heap.size w3 w6) := below_call HB35.out HB35.out.size hb6
  have HB6 : Hid (Below w0.heap.size w0 w6) := below_call HB4.out HB4.out.size HB46.out
  have HBB2 : Hid (∀ V, Below w6.heap.size w6 V → c9 V G2 (.int .i64 A2) (.int .i64 B2) (.slice p2 n2 c2) (.slice pb2 nb2 cb2) (.slice ps2 ns2 cs2) (.slice pm2 nm2 cm2) (.slice pt2 nt2 ct2) (.int .i64 N2) (.int .i64 T2)) := fun V hV => boxw hG2 hw6 hV
  clear hfb hlb hrb hwb hsb hb5 hb6 hgb HREV HFT HS2
  go_wp2_with fail
  clear hw6 hG2
  refine (mlives_any w6).mono ?_
  rintro e w7 ⟨rfl, hb7⟩
  have HB67 : Hid (Below w6.heap.size w6 w7) := hb7
  have HB7 : Hid (Below w.heap.size w w7) := below_call (HUP.out w6 HB6.out) (HUP.out w6 HB6.out).size hb7
  clear hb7
  by_cases hE0 : E = 0
  rotate_left
  · have d1 : (E != 0) = true := by simp [hE0]
    go_wp2_with fail
    refine (mlives_any w7).mono ?_
    rintro e w8 ⟨rfl, hb8⟩
    have HB8 : Hid (Below w.heap.size w w8) := below_call HB7.out HB7.out.size hb8
    clear hb8
    go_wp2_with fail
    go_ret
    exact ⟨by simp, HB8.out⟩
  subst hE0
  go_wp2_with fail
  go_loopw [46] (fun i wr => ∃ k : Nat, i = .int .i64 k ∧ k ≤ nl ∧ Hid (Below w7.heap.size w7 wr ∧ (bl.take k).Pairwise fun a b => a.i ≠ b.i)) (fun i _ => nl - (intOf i).toNat)
  case atStart => exact ⟨0, rfl, by omega, Below.refl _ _, by simp⟩
  case round =>
    obtain ⟨k, rfl, hk, HS⟩ := hrel
    have HBr : Hid (Below w.heap.size w wr) := below_call HB7.out HB7.out.size HS.out.1
    by_cases hlt : k < nl
    · have hkl : k < bl.length := by rw [HNL.out]; exact hlt
      obtain ⟨q, i, x, y, rfl, hbk, q0, q1, q2⟩ := gor_cl (gor_below HCR.out HBr.out) hkl
      obtain ⟨bb, hbb⟩ : ∃ bb, (bl.take k).any (fun b => b.i == i) = bb := ⟨_, rfl⟩
      have HNX : Hid (bb = false → (bl.take (k + 1)).Pairwise fun a b => a.i ≠ b.i) := fun h => pairg_snoc hkl hbk HS.out.2 (by rw [hbb]; exact h)
      have HBBv : Hid ((bl.take k).any (fun b => b.i == i) = bb) := hbb
      have HLK : Hid ((bl.take k).length = k) := by unfold Hid; rw [List.length_take]; omega
      obtain ⟨w8, hw8⟩ : ∃ w8, wr.alloc (.cells #[.int .i64 i, .int .i64 x, .int .i64 y] 55) = w8 := ⟨_, rfl⟩
      obtain ⟨G, hG⟩ : ∃ G, wr.heap.size = G := ⟨_, rfl⟩
      have hb8 : Below wr.heap.size wr w8 := by rw [← hw8]; exact alloc_below _ _
      obtain ⟨u0, u1, u2⟩ := boxg hG hw8 (Below.refl _ _)
      have HU0 : Hid (w8.cell? ⟨G, 0, none⟩ = some (.int .i64 i)) := u0
      have HB8 : Hid (Below w.heap.size w w8) := below_call HBr.out HBr.out.size hb8
      have HB78 : Hid (Below w7.heap.size w7 w8) := below_call HS.out.1 HS.out.1.size hb8
      have HCF : Hid (∀ cc, Calls Try.prog 27 #[.slice (some q) k cc, .func (.func 28) #[] #[.pointer (some ⟨G, 0, none⟩)]] w8 fun e w' => e = .returned (.bool bb) ∧ Below w8.heap.size w8 w') := fun cc =>
        ContainsFuncg1 Try.call28 _ (fun b => b.i == i) (some q) k cc (bl.take k) bb w8 (gor_take (gor_below HCR.out HB8.out) k) HLK.out (by omega) HBBv.out (fun V i' x' y' hV _ => GAny1_any i' x' y' i G V (cell_call hV HU0.out))
      have l1 : (k : Int) < nl := by omega
      have l2 : (0 : Int) ≤ k := by omega
      have l3 : k ≤ cl := by omega
      clear hbb hbk hkl hb8
      go_wp2_with fail
      refine (HCF.out _).mono ?_
      rintro e w9 ⟨rfl, hb9⟩
      have HB9 : Hid (Below w.heap.size w w9) := below_call HB8.out HB8.out.size hb9
      have HB79 : Hid (Below w7.heap.size w7 w9) := below_call HB78.out HB78.out.size hb9
      clear hb9 q0 q1 q2 u0 u1 u2 hw8 hG
      cases bb with
      | true =>
        go_wp2_with fail
        go_ret
        exact ⟨rfl, HB9.out⟩
      | false =>
        have HP := HNX.out rfl
        have HP2 : Hid ((bl.take (k + 1)).Pairwise fun a b => a.i ≠ b.i) := HP
        clear HP
        go_wp2_with fail
        go_roundw
        case rel => exact ⟨k + 1, by go_num, by omega, HB79.out, HP2.out⟩
        case measure => simp [intOf]; omega
    · have hkn : k = nl := by omega
      subst hkn
      have hpw := HS.out.2
      rw [List.take_of_length_le (by rw [HNL.out]; exact Nat.le_refl _)] at hpw
      obtain ⟨hsame, hgl⟩ := HRV.out trivial hpw
      have hB6r : Below w6.heap.size w6 wr := below_call HB67.out HB67.out.size HS.out.1
      have hB3r : Below w3.heap.size w3 wr := below_call HB36.out HB36.out.size hB6r
      have hB5r : Below w5.heap.size w5 wr := below_call HB56.out HB56.out.size hB6r
      have hB4r : Below w4.heap.size w4 wr := below_call HB46.out HB46.out.size hB6r
      have HSW : Hid (Calls Try.prog 16 #[_, _] wr fun e w' => e = .returned (.bool true) ∧ Below wr.heap.size wr w') := SameWorld_yes _ _ wr (Wld.fit_below HA.out.1 hB3r) (Wld.fit_below HBb.out.1 hB5r) hsame
      have hga2 : ga = gb := by rw [← HGA.out, ← HGB.out, hgl]
      have HEQ : Hid (∀ V, Below wr.heap.size wr V → Calls Try.prog 17 #[.slice gpa gb gca, .slice gpb gb gcb] V fun e w' => e = .returned (.bool true) ∧ Below V.heap.size V w') := fun V hV => by
        have r1 := row_below HA.out.2.1 (below_call hB3r hB3r.size hV)
        have r2 := row_below HBb.out.2.1 (below_call hB5r hB5r.size hV)
        rw [hgl] at r1
        have hm : gb ≤ 9223372036854775807 := Nat.le_trans HLB.out (by decide)
        exact Equal_b gpa gpb gb gca gcb glb V HGB.out hm r1 r2
      subst hga2
      obtain ⟨z0, z1, z2, z3, z4, z5, z6, z7, z8⟩ := HBA.out wr hB4r
      obtain ⟨y0, y1, y2, y3, y4, y5, y6, y7, y8⟩ := HBB2.out wr hB6r
      unfold Wld.val at HSW
      dsimp only at HSW
      clear hpw hsame hgl hB6r hB3r hB5r hB4r
      go_wp2_with fail
      refine Calls.mono HSW.out ?_
      rintro e w8 ⟨rfl, hb8⟩
      have HB8 : Hid (Below wr.heap.size wr w8) := hb8
      clear hb8 z0 z1 z2 z3 z4 z5 z6 z7 z8 y0 y1 y2 y3 y4 y5 y6 y7 y8
      go_wp2_with fail
      refine (HEQ.out w8 HB8.out).mono ?_
      rintro e w9 ⟨rfl, hb9⟩
      have HB9 : Hid (Below w.heap.size w w9) := below_call HBr.out HBr.out.size (below_call HB8.out HB8.out.size hb9)
      clear hb9
      go_wp2_with fail
      go_ret
      exact ⟨rfl, HB9.out⟩

set_option maxRecDepth 100000 in
theorem lifted (os : Os) (started : os.Started) (H : Type) (enc : TypeId × Value → H) :
    ReturnsInHanded {} Try.checked os 5 .any (Rows.marchAnySpec.pre6 enc Try.prog Try.f5 Rows.marchAnyRow.domain false) (Rows.marchAnySpec.post enc Try.prog Try.f5 false true false false) := by
  refine returnsInHanded_of_change_sized (C := Try.checked) own started (by kernel_rfl) Try.func5
    (ChangeSpec.witness6 (enc := enc) (C := Try.checked) false ⟨#[], #[.agg #[.int .i64 0, .int .i64 0, .slice none 0 0, .slice none 0 0, .slice none 0 0, .slice none 0 0, .slice none 0 0, .int .i64 0, .int .i64 0], .slice none 0 0], []⟩ 8 (by kernel_rfl) (by kernel_rfl) (by kernel_rfl) (by kernel_rfl)) ?_
  intro W base args ds gs before hval0 hW hcnd hsz _
  have hval : ∀ (j : Nat) t v, Try.f5.params[j]? = some t → args[j]? = some v → Value.okWide Try.prog W .any base t v := hval0
  have hW' := hW
  obtain ⟨p, q, hA0, hV, rfl, hfz, hnd⟩ := hW
  have hA : DataW.TrodAll enc Try.prog W 0 (fun _ => true) true Try.f5.params.toList args.toList ds p := hA0
  rw [Try.params5] at hA hval
  obtain ⟨v0, vs0, d0, ds0, p0, q0, hargs, rfl, rfl, h0, r0⟩ := trodAll_cons hA
  obtain ⟨v1, vs1, d1, ds1, p1, q1, rfl, rfl, rfl, h1, r1⟩ := trodAll_cons r0
  obtain ⟨rfl, rfl, rfl⟩ := trodAll_nil r1
  obtain rfl : args = #[v0, v1] := by cases args; simp_all
  obtain ⟨rfl, rfl⟩ := trodVars_none hV
  obtain ⟨s0, rfl, k0⟩ := open_wld (hval 0 28 v0 rfl rfl) h0
  obtain ⟨s1, rfl, k1, t1⟩ := open_gst (hval 1 29 v1 rfl rfl) h1
  have hs1 : s1.l.length * 24 ≤ 140737488351232 := told_sized hsz (j := 1) rfl rfl Try.underlying29 (by kernel_rfl) t1
  clear hA0 hval0
  refine (walk s0 s1  W k0 k1 hs1).mono fun e W' ⟨he, hg⟩ => ?_
  subst he
  exact ⟨_, rfl, law_post (by kernel_rfl) (by kernel_rfl) rfl (by kernel_rfl) Try.underlying4 hW' rfl hg⟩

theorem over : Rows.marchAnyRow.holds Try.pinned (OpenSpec.ofChange Rows.marchAnySpec) :=
  OpenClaim.holds_of_wide 5 Try.f5 rfl rfl rfl rfl rfl rfl rfl ⟨rfl, rfl, rfl, rfl, rfl⟩ rfl rfl rfl rfl rfl (by kernel_rfl) Try.func5 (by kernel_rfl)
    (of_decide_eq_true (by kernel_rfl)) (by unfold Func.isWrapper; first | (rw [if_pos (by decide +kernel)]; kernel_rfl) | (rw [if_neg (by decide +kernel)]; exact ⟨rfl, rfl⟩))
    (fun os started H enc _ => lifted os started H enc)

theorem proved : Rows.MarchAnySaid :=
  over
end Go.Proofs.Ytnbbfnlfcncgnaa.marchAny

namespace Go.Proofs.Ytnbbfnlfcncgnaa
/-- MarchAny: it is no matter in what order goes are told, as long as each troop has but one: for every world and every list of goes the law answers true. -/
theorem marchAny_holds : Rows.MarchAnySaid := marchAny.proved
#print axioms marchAny_holds
end Go.Proofs.Ytnbbfnlfcncgnaa
