/- Whatever is handed in, a world's mark is told by its troops, one by one: without one of them it is that, turned by what this one is; for every world and every number, with no condition. -/
import Derived.Test.YtibpobmeonfljaaRows
import Derived.Test.YtibpobmeonfljaaPost
import Derived.Test.YtibpobmeonfljaaMl
import Derived.Test.YtibpobmeonfljaaDm
import Derived.WalkKit
import Derived.ProofKit
import Derived.OpenShut

namespace Go.Proofs.Ytibpobmeonfljaa.troopMark
open Go.ChangeShapes Go.WideShapes Go.ChangeAt Go.RowKit
set_option linter.unusedVariables false

theorem own : ownKnob Try.prog.godebug = none := by kernel_rfl

theorem trow_far {w : World} {b : Addr} {ts : List Trp} (h : trow w (some b) ts) {q : Addr} {v : Value} (hq : q.block ≠ b.block) : trow (w.setCell q v) (some b) ts := by
  intro j u hj
  obtain ⟨x, hx, hc⟩ := h j u hj
  cases hx
  exact ⟨b, rfl, by rw [World.cell?_setCell_far _ _ _ _ (by rw [add_block]; exact hq)]; exact hc⟩
theorem nine_at {V : World} {b : Nat} {a0 a1 a2 a3 a4 a5 a6 a7 a8 : Value} {t : TypeId} (h : V.heap[b]? = some (.cells #[a0, a1, a2, a3, a4, a5, a6, a7, a8] t)) : c9 V b a0 a1 a2 a3 a4 a5 a6 a7 a8 ∧ V.frozen? ⟨b, 6, none⟩ = false := by
  unfold c9
  simp [World.cell?, World.frozen?, h]

set_option maxRecDepth 20000 in
set_option maxHeartbeats 4000000 in
theorem walk (s0 : Wld) (a1 : Int) (w1 : (Lit.int .i64 a1).wf = true) (w : World) (h0 : s0.fit w) :
    Calls Try.prog 7 #[s0.val, .int .i64 a1] w fun e w' => e = .returned (.bool true) ∧ Below w.heap.size w w' := by
  clear w1
  obtain ⟨E, hE⟩ := wre_total s0
  have HMK : Hid (∀ V, Below w.heap.size w V → Calls Try.prog 11 #[s0.val] V fun e w' => (∃ m : Nat, e = .returned (.tuple #[.int .u64 (m : Int), .int .i64 E]) ∧ Hid (mkr s0 E m)) ∧ Below V.heap.size V w') := fun V hV => Mark_any s0 E V (Wld.fit_below h0 hV) hE
  have HLS : Hid (∀ V k b cc m, (hk : k < s0.lt.length) → E = 0 → Below w.heap.size w V → s0.nt - 1 ≤ cc → trow V (some b) (s0.lt.eraseIdx k) → mkr s0 E m → Calls Try.prog 11 #[(lss s0 k (some b) cc).val] V fun e w' => (∃ m' : Nat, e = .returned (.tuple #[.int .u64 (m' : Int), .int .i64 0]) ∧ Hid (bits .xor .u64 (m : Int) (m' : Int) = ((mx (tnum s0.lt[k]) : Nat) : Int))) ∧ Below V.heap.size V w') := fun V k b cc m hk he hV hc hr hm => by
    subst he
    obtain ⟨W, H, hok⟩ := wre_ok hE
    refine (Mark_any _ 0 V (fit_less (Wld.fit_below h0 hV) (by have := h0.ht; omega) hc hr) (wre_of (okw_less hok k (some b) cc))).mono ?_
    rintro e w' ⟨⟨m', rfl, hm'⟩, hb⟩
    exact ⟨⟨m', rfl, xor_less hk hm hm'.out⟩, hb⟩
  have rt := h0.rt
  have hlt := h0.ht
  have HXT : Hid (∀ t ∈ s0.lt, fits t.i ∧ fits t.o ∧ fits t.k ∧ fits t.x ∧ fits t.y ∧ fits t.f ∧ fits t.d) := h0.xt
  have HNT : Hid (E = 0 → s0.nt ≤ 100) := fun he => by subst he; obtain ⟨W, H, hk⟩ := wre_ok hE; exact hk.nt
  clear h0 hE
  obtain ⟨A, B, p, n, c, l, pb, nb, cb, lb, ps, ns, cs, ls, pm, nm, cm, lm, pt, nt, ct, lt, N, T⟩ := s0
  unfold lss at HLS
  unfold Wld.val at *
  dsimp only at *
  have HLT : Hid (lt.length = nt) := hlt
  obtain ⟨F, hF⟩ : ∃ F, w.heap.size = F := ⟨_, rfl⟩
  obtain ⟨w0, hw0⟩ : ∃ w0, w.alloc (.cells #[.int .i64 A, .int .i64 B, .slice p n c, .slice pb nb cb, .slice ps ns cs, .slice pm nm cm, .slice pt nt ct, .int .i64 N, .int .i64 T] 28) = w0 := ⟨_, rfl⟩
  have HBX : Hid (∀ V, Below w0.heap.size w0 V → c9 V F (.int .i64 A) (.int .i64 B) (.slice p n c) (.slice pb nb cb) (.slice ps ns cs) (.slice pm nm cm) (.slice pt nt ct) (.int .i64 N) (.int .i64 T)) := fun V hV => boxw hF hw0 hV
  have hB0 : Below w.heap.size w w0 := by rw [← hw0]; exact alloc_below _ _
  have HB0 : Hid (Below w.heap.size w w0) := hB0
  have HUP : Hid (∀ V, Below w0.heap.size w0 V → Below w.heap.size w V) := fun V hV => HB0.out.trans (hV.mono HB0.out.size)
  have HRT : Hid (trow w0 pt lt) := trow_below rt hB0
  obtain ⟨z0, z1, z2, z3, z4, z5, z6, z7, z8⟩ := HBX.out w0 (Below.refl _ _)
  clear hB0 rt hlt
  go_enter Try.func7, Try.ntmps7
  go_wp2_with fail
  refine (HMK.out w0 HB0.out).mono ?_
  rintro e w1 ⟨⟨m, rfl, HM⟩, hb1⟩
  have HB1 : Hid (Below w0.heap.size w0 w1) := hb1
  clear z0 z1 z2 z3 z4 z5 z6 z7 z8 hb1 hw0 hF HMK
  obtain ⟨z0, z1, z2, z3, z4, z5, z6, z7, z8⟩ := HBX.out w1 HB1.out
  go_wp2_with fail
  refine (lives_any w1).mono ?_
  rintro e w2 ⟨rfl, hb2⟩
  have HB2 : Hid (Below w0.heap.size w0 w2) := below_upF HB1.out hb2
  clear hb2 z0 z1 z2 z3 z4 z5 z6 z7 z8
  obtain ⟨z0, z1, z2, z3, z4, z5, z6, z7, z8⟩ := HBX.out w2 HB2.out
  by_cases hE0 : E = 0
  · subst hE0
    by_cases l1 : a1 < 0
    · go_wp2_with fail
      refine (lives_any w2).mono ?_
      rintro e w3 ⟨rfl, hb3⟩
      have HB3 : Hid (Below w0.heap.size w0 w3) := below_upF HB2.out hb3
      clear hb3
      go_wp2_with fail
      go_ret
      exact ⟨rfl, HUP.out w3 HB3.out⟩
    · by_cases l2 : (nt : Int) ≤ a1
      · go_wp2_with fail
        refine (lives_any w2).mono ?_
        rintro e w3 ⟨rfl, hb3⟩
        have HB3 : Hid (Below w0.heap.size w0 w3) := below_upF HB2.out hb3
        clear hb3
        go_wp2_with fail
        go_ret
        exact ⟨rfl, HUP.out w3 HB3.out⟩
      · obtain ⟨k, rfl⟩ : ∃ k : Nat, a1 = k := ⟨a1.toNat, by omega⟩
        have hkn : k < nt := by omega
        have hkl : k < lt.length := by rw [HLT.out]; exact hkn
        have HK : Hid (k < nt) := hkn
        obtain ⟨a, rfl, hc⟩ := trow_at (trow_below HRT.out HB2.out) hkl
        have HF := HXT.out _ (List.getElem_mem hkl)
        have HLS1 := fun V b cc hV hcc hr => HLS.out V k b cc m hkl rfl hV hcc hr HM.out
        obtain ⟨t, ht⟩ : ∃ t, lt[k] = t := ⟨_, rfl⟩
        rw [ht] at hc HF HLS1
        obtain ⟨ti, to_, tk, tx, ty, tf, td⟩ := t
        obtain ⟨c0, c1, c2, c3, c4, c5, c6⟩ := hc
        simp only at c0 c1 c2 c3 c4 c5 c6 HF
        have HFI : Hid (∀ x ∈ [4, ti, to_, tk, tx, ty, tf, td], fits x) := by
          obtain ⟨f0, f1, f2, f3, f4, f5, f6⟩ := HF
          intro x hx
          simp at hx
          rcases hx with rfl | rfl | rfl | rfl | rfl | rfl | rfl | rfl
          · unfold fits; omega
          all_goals assumption
        obtain ⟨R, hR⟩ : ∃ R, lnum [4, ti, to_, tk, tx, ty, tf, td] = R := ⟨_, rfl⟩
        have eT : tnum ⟨ti, to_, tk, tx, ty, tf, td⟩ = R := hR
        rw [eT] at HLS1
        have HR : Hid (lnum [4, ti, to_, tk, tx, ty, tf, td] = R) := hR
        have HRL : Hid (R < 18446744073709551616) := by rw [← hR]; exact lnum_lt _
        have HLS2 : Hid (∀ V b cc, Below w.heap.size w V → nt - 1 ≤ cc → trow V (some b) (lt.eraseIdx k) → Calls Try.prog 11 #[.agg #[.int .i64 A, .int .i64 B, .slice p n c, .slice pb nb cb, .slice ps ns cs, .slice pm nm cm, .slice (some b) (nt - 1) cc, .int .i64 N, .int .i64 T]] V fun e w' => (∃ m' : Nat, e = .returned (.tuple #[.int .u64 (m' : Int), .int .i64 0]) ∧ Hid (bits .xor .u64 (m : Int) (m' : Int) = ((mx R : Nat) : Int))) ∧ Below V.heap.size V w') := HLS1
        have HN1 : Hid (nt ≤ 100) := HNT.out rfl
        obtain ⟨w4, hw4⟩ : ∃ w4, w2.alloc (.cells #[.int .i64 ti, .int .i64 to_, .int .i64 tk, .int .i64 tx, .int .i64 ty, .int .i64 tf, .int .i64 td] 47) = w4 := ⟨_, rfl⟩
        obtain ⟨G, hG⟩ : ∃ G, w2.heap.size = G := ⟨_, rfl⟩
        have HBT : Hid (∀ V, Below w4.heap.size w4 V → V.cell? ⟨G, 0, none⟩ = some (.int .i64 ti) ∧ V.cell? ⟨G, 1, none⟩ = some (.int .i64 to_) ∧ V.cell? ⟨G, 2, none⟩ = some (.int .i64 tk) ∧ V.cell? ⟨G, 3, none⟩ = some (.int .i64 tx) ∧ V.cell? ⟨G, 4, none⟩ = some (.int .i64 ty) ∧ V.cell? ⟨G, 5, none⟩ = some (.int .i64 tf) ∧ V.cell? ⟨G, 6, none⟩ = some (.int .i64 td)) := fun V hV => by
          subst hw4 hG
          refine ⟨?_, ?_, ?_, ?_, ?_, ?_, ?_⟩
          all_goals
            rw [hV.cell (by simp)]
            simp [go_sem]
        have hB4 : Below w0.heap.size w0 w4 := by rw [← hw4]; exact HB2.out.alloc HB2.out.size _
        have HB4 : Hid (Below w0.heap.size w0 w4) := hB4
        obtain ⟨w5, hw5⟩ : ∃ w5, w4.alloc (.cells #[.int .i64 A, .int .i64 B, .slice p n c, .slice pb nb cb, .slice ps ns cs, .slice pm nm cm, .slice (some a) nt ct, .int .i64 N, .int .i64 T] 28) = w5 := ⟨_, rfl⟩
        obtain ⟨J, hJ⟩ : ∃ J, w4.heap.size = J := ⟨_, rfl⟩
        have hB45 : Below w4.heap.size w4 w5 := by rw [← hw5]; exact alloc_below _ _
        have HB45 : Hid (Below w4.heap.size w4 w5) := hB45
        have hB5 : Below w0.heap.size w0 w5 := below_upF hB4 hB45
        have HB5 : Hid (Below w0.heap.size w0 w5) := hB5
        have HJ : Hid (w0.heap.size ≤ J ∧ w4.heap.size = J ∧ w5.heap.size = J + 1 ∧ ∀ V, Below w5.heap.size w5 V → V.heap[J]? = some (.cells #[.int .i64 A, .int .i64 B, .slice p n c, .slice pb nb cb, .slice ps ns cs, .slice pm nm cm, .slice (some a) nt ct, .int .i64 N, .int .i64 T] 28)) := by
          have h1 : w5.heap.size = J + 1 := by rw [← hw5, World.size_alloc, hJ]
          refine ⟨by rw [← hJ]; exact hB4.size, hJ, h1, fun V hV => ?_⟩
          rw [hV.block J (by omega), ← hw5, ← hJ]
          exact World.alloc_heap_new w4 _
        obtain ⟨u0, u1, u2, u3, u4, u5, u6, u7, u8⟩ := HBX.out w4 hB4
        obtain ⟨t0, t1, t2, t3, t4, t5, t6, t7, t8⟩ := HBX.out w5 hB5
        have l3 : (k : Int) < nt := by omega
        have HRT5 : Hid (trow w5 (some a) lt) := trow_below HRT.out hB5
        clear hB4 hB5 hB45 ht HLS HLS1 hkl HF hR eT HRT
        go_wp2_with fail
        refine (Clonet_any a nt ct lt w5 HRT5.out HLT.out (Nat.le_trans HN1.out (by decide))).mono ?_
        rintro e w6 ⟨v, rfl, hm, hb6⟩
        have HMT : Hid (minet w5.heap.size w6 v lt) := hm
        have HB6 : Hid (Below w5.heap.size w5 w6) := hb6
        have hk100 : k < 100 := Nat.lt_of_lt_of_le HK.out HN1.out
        clear hm hb6 hw4 hw5 c0 c1 c2 c3 c4 c5 c6 z0 z1 z2 z3 z4 z5 z6 z7 z8 u0 u1 u2 u3 u4 u5 u6 u7 u8 t0 t1 t2 t3 t4 t5 t6 t7 t8
        go_wp2_with fail
        
        
        refine (Delete_any w5.heap.size nt k v lt w6 HMT.out HLT.out HK.out (Nat.le_trans HN1.out (by decide))).mono ?_
        rintro e w7 ⟨⟨b, cc, rfl, hcc, hbb, hrr⟩, hb7⟩
        have HB7 : Hid (Below w5.heap.size w5 w7) := HB6.out.trans hb7
        have HP7 : Hid (nt - 1 ≤ cc ∧ w5.heap.size ≤ b.block ∧ trow w7 (some b) (lt.eraseIdx k)) := ⟨hcc, hbb, hrr⟩
        have hJ7 := HJ.out.2.2.2 w7 HB7.out
        obtain ⟨⟨g0, g1, g2, g3, g4, g5, g6, g7, g8⟩, gf⟩ := nine_at hJ7
        have HJ7 : Hid (w7.heap[J]? = some (.cells #[.int .i64 A, .int .i64 B, .slice p n c, .slice pb nb cb, .slice ps ns cs, .slice pm nm cm, .slice (some a) nt ct, .int .i64 N, .int .i64 T] 28)) := hJ7
        clear hcc hbb hrr hb7 hJ7
        obtain ⟨w8, hw8⟩ : ∃ w8, w7.setCell ⟨J, 6, none⟩ (.slice (some b) (nt - 1) cc) = w8 := ⟨_, rfl⟩
        have hJ8 : w8.heap[J]? = some (.cells #[.int .i64 A, .int .i64 B, .slice p n c, .slice pb nb cb, .slice ps ns cs, .slice pm nm cm, .slice (some b) (nt - 1) cc, .int .i64 N, .int .i64 T] 28) := by
          rw [← hw8, heap_setCell_same w7 J 6 _ 28 _ HJ7.out]; rfl
        have HR8 : Hid (trow w8 (some b) (lt.eraseIdx k)) := by
          rw [← hw8]
          exact trow_far HP7.out.2.2 (by have h1 := HJ.out.2.2.1; have h2 := HP7.out.2.1; show J ≠ b.block; omega)
        have HB48 : Hid (Below w4.heap.size w4 w8) := by
          rw [← hw8]
          exact (HB45.out.trans (HB7.out.mono HB45.out.size)).setCell (by rw [HJ.out.2.1]; exact Nat.le_refl _) _
        have HB8 : Hid (Below w0.heap.size w0 w8) := below_upF HB4.out HB48.out
        obtain ⟨⟨k0, k1, k2, k3, k4, k5, k6, k7, k8⟩, -⟩ := nine_at hJ8
        clear hJ8
        go_wp2_with fail
        refine (HLS2.out w8 b cc (HUP.out w8 HB8.out) HP7.out.1 HR8.out).mono ?_
        rintro e w9 ⟨⟨m', rfl, hx⟩, hb9⟩
        have hxr := hx.out
        have HB49 : Hid (Below w4.heap.size w4 w9) := below_upF HB48.out hb9
        have HB9 : Hid (Below w0.heap.size w0 w9) := below_upF HB8.out hb9
        clear hx hb9 g0 g1 g2 g3 g4 g5 g6 g7 g8 gf k0 k1 k2 k3 k4 k5 k6 k7 k8 hw8
        obtain ⟨g0, g1, g2, g3, g4, g5, g6⟩ := HBT.out w9 HB49.out
        go_wp2_with fail
        have HB10 : Hid (Below w9.heap.size w9 (w9.alloc (.cells #[.int .i64 4, .int .i64 ti, .int .i64 to_, .int .i64 tk, .int .i64 tx, .int .i64 ty, .int .i64 tf, .int .i64 td] 3))) := alloc_below _ _
        refine (LeafOfNumbers_any (some ⟨w9.heap.size, 0, none⟩) 8 8 [4, ti, to_, tk, tx, ty, tf, td] _ (row_made [4, ti, to_, tk, tx, ty, tf, td]) rfl HFI.out).mono ?_
        rintro e w11 ⟨rfl, hb11⟩
        have HB11 : Hid (Below w0.heap.size w0 w11) := below_upF (below_upF HB9.out HB10.out) hb11
        rw [HR.out]
        clear hb11 g0 g1 g2 g3 g4 g5 g6
        go_wp2_with fail
        refine (Mixed_any R w11 HRL.out).mono ?_
        rintro e w' ⟨rfl, hw⟩; subst w'
        go_wp2_with fail
        go_ret
        exact ⟨rfl, HUP.out w11 HB11.out⟩
        
  · have d1 : (E != 0) = true := by simp [hE0]
    have d2 : (E == 0) = false := by simp [hE0]
    obtain rfl := HM.out.1 hE0
    go_wp2_with fail
    refine (lives_any w2).mono ?_
    rintro e w3 ⟨rfl, hb3⟩
    have HB3 : Hid (Below w0.heap.size w0 w3) := below_upF HB2.out hb3
    clear hb3
    go_wp2_with fail
    go_ret
    exact ⟨rfl, HUP.out w3 HB3.out⟩

set_option maxRecDepth 100000 in
theorem lifted (os : Os) (started : os.Started) (H : Type) (enc : TypeId × Value → H) :
    ReturnsInHanded {} Try.checked os 7 .any (Rows.troopMarkSpec.pre6 enc Try.prog Try.f7 Rows.troopMarkRow.domain false) (Rows.troopMarkSpec.post enc Try.prog Try.f7 false true false false) := by
  refine returnsInHanded_of_change (C := Try.checked) own started (by kernel_rfl) Try.func7
    (ChangeSpec.witness6 (enc := enc) (C := Try.checked) false ⟨#[], #[.agg #[.int .i64 0, .int .i64 0, .slice none 0 0, .slice none 0 0, .slice none 0 0, .slice none 0 0, .slice none 0 0, .int .i64 0, .int .i64 0], .int .i64 0], []⟩ 8 (by kernel_rfl) (by kernel_rfl) (by kernel_rfl) (by kernel_rfl)) ?_
  intro W base args ds gs before hval0 hW hcnd _
  have hval : ∀ (j : Nat) t v, Try.f7.params[j]? = some t → args[j]? = some v → Value.okWide Try.prog W .any base t v := hval0
  have hW' := hW
  obtain ⟨p, q, hA0, hV, rfl, hfz, hnd⟩ := hW
  have hA : DataW.TrodAll enc Try.prog W 0 (fun _ => true) true Try.f7.params.toList args.toList ds p := hA0
  rw [Try.params7] at hA hval
  obtain ⟨v0, vs0, d0, ds0, p0, q0, hargs, rfl, rfl, h0, r0⟩ := trodAll_cons hA
  obtain ⟨v1, vs1, d1, ds1, p1, q1, rfl, rfl, rfl, h1, r1⟩ := trodAll_cons r0
  obtain ⟨rfl, rfl, rfl⟩ := trodAll_nil r1
  obtain rfl : args = #[v0, v1] := by cases args; simp_all
  obtain ⟨rfl, rfl⟩ := trodVars_none hV
  obtain ⟨s0, rfl, k0⟩ := open_wld (hval 0 28 v0 rfl rfl) h0
  obtain ⟨a1, rfl, rfl, rfl, w1⟩ := open_int Try.underlying3 (hval 1 3 v1 rfl rfl) h1

  clear hA0 hval0
  refine (walk s0 a1 w1 W k0).mono fun e W' ⟨he, hg⟩ => ?_
  subst he
  exact ⟨_, rfl, law_post (by kernel_rfl) (by kernel_rfl) rfl (by kernel_rfl) Try.underlying4 hW' rfl hg⟩

theorem over : Rows.troopMarkRow.holds Try.pinned (OpenSpec.ofChange Rows.troopMarkSpec) :=
  OpenClaim.holds_of_wide 7 Try.f7 rfl rfl rfl rfl rfl rfl rfl ⟨rfl, rfl, rfl, rfl, rfl⟩ rfl rfl rfl rfl rfl (by kernel_rfl) Try.func7 (by kernel_rfl)
    (of_decide_eq_true (by kernel_rfl)) (by unfold Func.isWrapper; first | (rw [if_pos (by decide +kernel)]; kernel_rfl) | (rw [if_neg (by decide +kernel)]; exact ⟨rfl, rfl⟩))
    (fun os started H enc _ => lifted os started H enc)

theorem proved : Rows.TroopMarkSaid :=
  over
end Go.Proofs.Ytibpobmeonfljaa.troopMark

namespace Go.Proofs.Ytibpobmeonfljaa
/-- Whatever is handed in, a world's mark is told by its troops, one by one: without one of them it is that, turned by what this one is; for every world and every number, with no condition. -/
theorem troopMark_holds : Rows.TroopMarkSaid := troopMark.proved
#print axioms troopMark_holds
end Go.Proofs.Ytibpobmeonfljaa
