/- GoodsSays: whatever is handed in, Do and Worth answer what the document says: for every world and every list of deeds the law answers true. -/
import Derived.Test.YtdcjjfipnilmpaaRows
import Derived.Test.YtdcjjfipnilmpaaPost
import Derived.Test.YtdcjjfipnilmpaaOpc
import Derived.Test.YtdcjjfipnilmpaaLv
import Derived.Test.YtdcjjfipnilmpaaML
import Derived.Test.YtdcjjfipnilmpaaEb
import Derived.Test.YtdcjjfipnilmpaaWf
import Derived.Test.YtdcjjfipnilmpaaWy
import Derived.Test.YtdcjjfipnilmpaaMF
import Derived.WalkKit
import Derived.ProofKit
import Derived.OpenShut
import Derived.SizedLaws
import Derived.ChangeMaps5
import Derived.JoinedCond
namespace Go.Proofs.Ytdcjjfipnilmpaa.goodsSays
open Go.ChangeShapes Go.WideShapes Go.ChangeAt Go.RowKit
set_option linter.unusedVariables false

theorem own : ownKnob Try.prog.godebug = none := by kernel_rfl

theorem notbox {V : World} {F k : Nat} {a : Addr} {b : Bool} {A B N T : Int} {p pb ps pm pt : Option Addr} {n nb ns nm nt c cb cs cm ct : Nat} (hb : bx9 V F (.int .i64 A) (.int .i64 B) (.slice p n c) (.slice pb nb cb) (.slice ps ns cs) (.slice pm nm cm) (.slice pt nt ct) (.int .i64 N) (.int .i64 T)) (hc : V.cell? (a.add k) = some (.bool b)) : ¬ a.block = F := by
  intro e
  have hz : (a.add k).block = F := by unfold Addr.add; split <;> exact e
  generalize a.add k = z at hc hz
  obtain ⟨g, o, q⟩ := z
  have hz' : g = F := hz
  subst hz'
  unfold bx9 at hb
  unfold World.cell? at hc
  dsimp only at hc
  rw [hb] at hc
  dsimp only at hc
  cases q
  · simp only [Option.isSome_none, Bool.false_eq_true, if_false] at hc
    match o with
    | 0 | 1 | 2 | 3 | 4 | 5 | 6 | 7 | 8 => simp at hc
    | m + 9 => simp at hc
  · simp at hc
theorem dok_len {s s' : Wld} {gs : List Ded} {bs : List Bool} (h : dok s gs 0 s' bs) : bs.length = gs.length := by
  rcases h with ⟨h, _⟩ | ⟨_, W, H, hk, hkp, hd⟩
  · exact absurd rfl h
  · exact dr_len hd
theorem samew_refl (s : Wld) : samew s s := ⟨rfl, rfl, rfl, rfl, rfl, rfl, rfl, rfl, rfl⟩
theorem kept_likes {s s2 s3 : Wld} (h2 : kept s s2) (h3 : likes s s3) (he : s2.shp = s3.shp) : samew s2 s3 := by
  unfold Wld.shp at he
  injection he with e1 e2 e3 e4
  exact ⟨by rw [h2.a, h3.a], by rw [h2.b, h3.b], by rw [h2.l, h3.l], by rw [h2.lb, h3.lb], e1, e2, e3, e4, by rw [h2.t, h3.t]⟩
/-- Two worlds that are nothing are the same. -/
theorem zero_same (V : World) : Calls Try.prog 14 #[.agg #[.int .i64 0, .int .i64 0, .slice none 0 0, .slice none 0 0, .slice none 0 0, .slice none 0 0, .slice none 0 0, .int .i64 0, .int .i64 0], .agg #[.int .i64 0, .int .i64 0, .slice none 0 0, .slice none 0 0, .slice none 0 0, .slice none 0 0, .slice none 0 0, .int .i64 0, .int .i64 0]] V fun e w' => e = .returned (.bool true) ∧ Below V.heap.size V w' :=
  SameWorld_yes wz wz V (wz_fit (wz_own V.heap.size V)) (wz_fit (wz_own V.heap.size V)) (samew_refl wz)
theorem made : DeedMade := Deeded_make

set_option maxRecDepth 20000 in
set_option maxHeartbeats 4000000 in
theorem walk (s0 : Wld) (s1 : Dst)  (w : World) (h0 : s0.fit w) (h1 : s1.fit w) (hs1 : s1.l.length * 40 ≤ 140737488351232) :
    Calls Try.prog 3 #[s0.val, s1.val] w fun e w' => e = .returned (.bool true) ∧ Below w.heap.size w w' := by
  obtain ⟨E0, hE0⟩ := wre_total s0
  by_cases e0 : E0 = 0
  rotate_left
  · have HEW : Hid (wre s0 E0) := hE0
    have HBE : Hid (ber s0 s1.l.length E0) := ⟨E0, hE0, .inl ⟨e0, rfl⟩⟩
    have HR0 : Hid ((E0 = 0 ∧ (0 : Int) = wth s0.shp) ∨ (E0 ≠ 0 ∧ (0 : Int) = 0)) := .inr ⟨e0, rfl⟩
    clear hE0
    have HDO : Hid (∀ V, Below w.heap.size w V → Calls Try.prog 9 #[s0.val, .slice s1.p s1.l.length s1.c] V fun e w' => (∃ (s' : Wld) (dp : Option Addr) (dc : Nat) (bs : List Bool), e = .returned (.tuple #[s'.val, .slice dp bs.length dc, .int .i64 E0]) ∧ row vbl w' dp bs ∧ wown V.heap.size w' s' ∧ dok s0 s1.l E0 s' bs) ∧ Below V.heap.size V w') := fun V hV => Do_any s0 E0 s1.p _ s1.c s1.l V (Wld.fit_below h0 hV) (dor_below h1.1 hV) h1.2.1 rfl h1.2.2.1 HBE.out
    have HWO : Hid (∀ V, Below w.heap.size w V → Calls Try.prog 10 #[s0.val] V fun e w' => e = .returned (.tuple #[.int .i64 0, .int .i64 E0]) ∧ Below V.heap.size V w') := fun V hV => Worth_any s0 E0 0 V (Wld.fit_below h0 hV) HEW.out HR0.out
    have HWR : Hid (∀ V, Below w.heap.size w V → Calls Try.prog 11 #[s0.val] V fun e w' => e = .returned (.int .i64 E0) ∧ Below V.heap.size V w') := fun V hV => WorldRight_at s0 E0 V (Wld.fit_below h0 hV) HEW.out
    clear h0 h1 hs1
    obtain ⟨A, B, p, n, c, l, pb, nb, cb, lb, ps, ns, cs, ls, pm, nm, cm, lm, pt, nt, ct, lt, N, T⟩ := s0
    obtain ⟨lp, lc, ll⟩ := s1
    unfold Wld.val Dst.val at *
    dsimp only at *
    obtain ⟨nl, hnl⟩ : ∃ nl, ll.length = nl := ⟨_, rfl⟩
    rw [hnl] at HDO ⊢
    have HLN : Hid (ll.length = nl) := hnl
    clear hnl
    obtain ⟨F, hF⟩ : ∃ F, w.heap.size = F := ⟨_, rfl⟩
    obtain ⟨w0, hw0⟩ : ∃ w0, w.alloc (.cells #[.int .i64 A, .int .i64 B, .slice p n c, .slice pb nb cb, .slice ps ns cs, .slice pm nm cm, .slice pt nt ct, .int .i64 N, .int .i64 T] 28) = w0 := ⟨_, rfl⟩
    have hB0 : Below w.heap.size w w0 := by rw [← hw0]; exact alloc_below _ _
    have HB0 : Hid (Below w.heap.size w w0) := hB0
    have HZ : Hid (∀ V, Below w0.heap.size w0 V → c9 V F (.int .i64 A) (.int .i64 B) (.slice p n c) (.slice pb nb cb) (.slice ps ns cs) (.slice pm nm cm) (.slice pt nt ct) (.int .i64 N) (.int .i64 T)) := fun V hV => boxw hF hw0 hV
    have HFW : Hid (w.heap.size = F) := hF
    obtain ⟨z0, z1, z2, z3, z4, z5, z6, z7, z8⟩ := HZ.out w0 (Below.refl _ _)
    clear hB0
    go_enter Try.func3, Try.ntmps3
    go_wp2_with fail
    refine (HDO.out w0 HB0.out).mono ?_
    rintro e w1 ⟨⟨s', dp, dc, bs, rfl, hr, how, hdk⟩, hb1⟩
    have HB1 : Hid (Below w.heap.size w w1) := below_call HB0.out HB0.out.size hb1
    have HB01 : Hid (Below w0.heap.size w0 w1) := hb1
    have HR1 : Hid (row vbl w1 dp bs) := hr
    obtain ⟨hs', hbs⟩ : s' = wz ∧ bs = [] := by
      rcases hdk with ⟨_, h1, h2⟩ | ⟨h, _⟩
      · exact ⟨h1, h2⟩
      · exact absurd h e0
    subst hs' hbs
    clear hdk
    unfold wz
    dsimp only [List.length_nil]
    obtain ⟨J, hJ⟩ : ∃ J, w1.heap.size = J := ⟨_, rfl⟩
    obtain ⟨w2, hw2⟩ : ∃ w2, w1.alloc (.cells #[.int .i64 0, .int .i64 0, .slice none 0 0, .slice none 0 0, .slice none 0 0, .slice none 0 0, .slice none 0 0, .int .i64 0, .int .i64 0] 28) = w2 := ⟨_, rfl⟩
    have hb12 : Below w1.heap.size w1 w2 := by rw [← hw2]; exact alloc_below _ _
    have HB12 : Hid (Below w1.heap.size w1 w2) := hb12
    have HY : Hid (∀ V, Below w2.heap.size w2 V → c9 V J (.int .i64 0) (.int .i64 0) (.slice none 0 0) (.slice none 0 0) (.slice none 0 0) (.slice none 0 0) (.slice none 0 0) (.int .i64 0) (.int .i64 0)) := fun V hV => boxw hJ hw2 hV
    have HXJ : Hid (bx9 w2 J (.int .i64 0) (.int .i64 0) (.slice none 0 0) (.slice none 0 0) (.slice none 0 0) (.slice none 0 0) (.slice none 0 0) (.int .i64 0) (.int .i64 0)) := by unfold Hid; rw [← hw2, ← hJ]; exact box9_new _ _ _ _ _ _ _ _ _ _
    have HB2 : Hid (Below w.heap.size w w2) := below_call HB1.out HB1.out.size hb12
    have HB02 : Hid (Below w0.heap.size w0 w2) := below_call HB01.out HB01.out.size hb12
    clear hr how hb1 hb12
    clear z0 z1 z2 z3 z4 z5 z6 z7 z8 hw0
    have HW2 : Hid (w1.alloc (.cells #[.int .i64 0, .int .i64 0, .slice none 0 0, .slice none 0 0, .slice none 0 0, .slice none 0 0, .slice none 0 0, .int .i64 0, .int .i64 0] 28) = w2) := hw2
    clear hw2
    obtain ⟨z0, z1, z2, z3, z4, z5, z6, z7, z8⟩ := HZ.out (w1.alloc (.cells #[.int .i64 0, .int .i64 0, .slice none 0 0, .slice none 0 0, .slice none 0 0, .slice none 0 0, .slice none 0 0, .int .i64 0, .int .i64 0] 28)) (by rw [HW2.out]; exact HB02.out)
    go_wp2_with fail
    rw [HW2.out]
    refine (HWO.out w2 HB2.out).mono ?_
    rintro e w3 ⟨rfl, hb3⟩
    have HB3 : Hid (Below w.heap.size w w3) := below_call HB2.out HB2.out.size hb3
    have HB03 : Hid (Below w0.heap.size w0 w3) := below_call HB02.out HB02.out.size hb3
    have HB23 : Hid (Below w2.heap.size w2 w3) := hb3
    clear hb3 z0 z1 z2 z3 z4 z5 z6 z7 z8
    obtain ⟨z0, z1, z2, z3, z4, z5, z6, z7, z8⟩ := HZ.out w3 HB03.out
    go_wp2_with fail
    refine (HWR.out w3 HB3.out).mono ?_
    rintro e w4 ⟨rfl, hb4⟩
    have HB4 : Hid (Below w.heap.size w w4) := below_call HB3.out HB3.out.size hb4
    have HB04 : Hid (Below w0.heap.size w0 w4) := below_call HB03.out HB03.out.size hb4
    have HB24 : Hid (Below w2.heap.size w2 w4) := below_call HB23.out HB23.out.size hb4
    clear hb4 z0 z1 z2 z3 z4 z5 z6 z7 z8
    obtain ⟨K, hK⟩ : ∃ K, w4.heap.size = K := ⟨_, rfl⟩
    obtain ⟨w5, hw5⟩ : ∃ w5, w4.alloc (.cells #[.int .i64 0, .int .i64 0, .slice none 0 0, .slice none 0 0, .slice none 0 0, .slice none 0 0, .slice none 0 0, .int .i64 0, .int .i64 0] 28) = w5 := ⟨_, rfl⟩
    have hb45 : Below w4.heap.size w4 w5 := by rw [← hw5]; exact alloc_below _ _
    have HB5 : Hid (Below w.heap.size w w5) := below_call HB4.out HB4.out.size hb45
    have HB05 : Hid (Below w0.heap.size w0 w5) := below_call HB04.out HB04.out.size hb45
    have HB25 : Hid (Below w2.heap.size w2 w5) := below_call HB24.out HB24.out.size hb45
    have HX5 : Hid (bx9 w5 K (.int .i64 0) (.int .i64 0) (.slice none 0 0) (.slice none 0 0) (.slice none 0 0) (.slice none 0 0) (.slice none 0 0) (.int .i64 0) (.int .i64 0)) := by unfold Hid; rw [← hw5, ← hK]; exact box9_new _ _ _ _ _ _ _ _ _ _
    have HKS : Hid (w4.heap.size = K) := hK
    have HW5 : Hid (w4.alloc (.cells #[.int .i64 0, .int .i64 0, .slice none 0 0, .slice none 0 0, .slice none 0 0, .slice none 0 0, .slice none 0 0, .int .i64 0, .int .i64 0] 28) = w5) := hw5
    clear hb45 hK hw5
    have d0 : (E0 == 0) = false := by simp [e0]
    obtain ⟨y0, y1, y2, y3, y4, y5, y6, y7, y8⟩ := HY.out (w4.alloc (.cells #[.int .i64 0, .int .i64 0, .slice none 0 0, .slice none 0 0, .slice none 0 0, .slice none 0 0, .slice none 0 0, .int .i64 0, .int .i64 0] 28)) (by rw [HW5.out]; exact HB25.out)
    go_wp2_with fail
    rw [HW5.out]
    refine (zero_same w5).mono ?_
    rintro e w7 ⟨rfl, hb7⟩
    have HB7 : Hid (Below w.heap.size w w7) := below_call HB5.out HB5.out.size hb7
    clear hb7 y0 y1 y2 y3 y4 y5 y6 y7 y8
    go_wp2_with fail
    refine (Equalv_b dp none 0 dc 0 [] w7 rfl (by decide) (row_nil _ _ _) (row_nil _ _ _)).mono ?_
    rintro e w8 ⟨rfl, hb8⟩
    have HB8 : Hid (Below w.heap.size w w8) := below_call HB7.out HB7.out.size hb8
    clear hb8
    go_wp2_with fail
    go_ret
    exact ⟨rfl, by first | exact HB8.out | (rw [← HFW.out]; exact HB8.out)⟩
  subst e0
  have HEW : Hid (wre s0 0) := hE0
  obtain ⟨W, H, hk⟩ := wre_ok hE0
  clear hE0
  obtain ⟨R0, hR0⟩ : ∃ R0, wth s0.shp = R0 := ⟨_, rfl⟩
  have HRW : Hid (wth s0.shp = R0) := hR0
  have HR0 : Hid (((0 : Int) = 0 ∧ R0 = wth s0.shp) ∨ ((0 : Int) ≠ 0 ∧ R0 = 0)) := .inl ⟨rfl, hR0.symm⟩
  clear hR0
  by_cases h200 : 200 < s1.l.length
  · have HBE : Hid (ber s0 s1.l.length 2) := ⟨0, HEW.out, .inr (.inl ⟨rfl, h200, rfl⟩)⟩
    have HN2 : Hid (200 < s1.l.length) := h200
    clear h200
    have HDO : Hid (∀ V, Below w.heap.size w V → Calls Try.prog 9 #[s0.val, .slice s1.p s1.l.length s1.c] V fun e w' => (∃ (s' : Wld) (dp : Option Addr) (dc : Nat) (bs : List Bool), e = .returned (.tuple #[s'.val, .slice dp bs.length dc, .int .i64 2]) ∧ row vbl w' dp bs ∧ wown V.heap.size w' s' ∧ dok s0 s1.l 2 s' bs) ∧ Below V.heap.size V w') := fun V hV => Do_any s0 2 s1.p _ s1.c s1.l V (Wld.fit_below h0 hV) (dor_below h1.1 hV) h1.2.1 rfl h1.2.2.1 HBE.out
    have HWO : Hid (∀ V, Below w.heap.size w V → Calls Try.prog 10 #[s0.val] V fun e w' => e = .returned (.tuple #[.int .i64 R0, .int .i64 0]) ∧ Below V.heap.size V w') := fun V hV => Worth_any s0 0 R0 V (Wld.fit_below h0 hV) HEW.out HR0.out
    have HWR : Hid (∀ V, Below w.heap.size w V → Calls Try.prog 11 #[s0.val] V fun e w' => e = .returned (.int .i64 0) ∧ Below V.heap.size V w') := fun V hV => WorldRight_at s0 0 V (Wld.fit_below h0 hV) HEW.out
    have HWF : Hid (∀ V, Below w.heap.size w V → Calls Try.prog 12 #[s0.val] V fun e w' => e = .returned (.int .i64 R0) ∧ Below V.heap.size V w') := fun V hV => WorthOf_at s0 W H R0 V (Wld.fit_below h0 hV) hk HRW.out
    clear h0 h1 hs1 hk
    obtain ⟨A, B, p, n, c, l, pb, nb, cb, lb, ps, ns, cs, ls, pm, nm, cm, lm, pt, nt, ct, lt, N, T⟩ := s0
    obtain ⟨lp, lc, ll⟩ := s1
    unfold Wld.val Dst.val at *
    dsimp only at *
    obtain ⟨nl, hnl⟩ : ∃ nl, ll.length = nl := ⟨_, rfl⟩
    rw [hnl] at HDO HN2 ⊢
    have HLN : Hid (ll.length = nl) := hnl
    clear hnl
    obtain ⟨F, hF⟩ : ∃ F, w.heap.size = F := ⟨_, rfl⟩
    obtain ⟨w0, hw0⟩ : ∃ w0, w.alloc (.cells #[.int .i64 A, .int .i64 B, .slice p n c, .slice pb nb cb, .slice ps ns cs, .slice pm nm cm, .slice pt nt ct, .int .i64 N, .int .i64 T] 28) = w0 := ⟨_, rfl⟩
    have hB0 : Below w.heap.size w w0 := by rw [← hw0]; exact alloc_below _ _
    have HB0 : Hid (Below w.heap.size w w0) := hB0
    have HZ : Hid (∀ V, Below w0.heap.size w0 V → c9 V F (.int .i64 A) (.int .i64 B) (.slice p n c) (.slice pb nb cb) (.slice ps ns cs) (.slice pm nm cm) (.slice pt nt ct) (.int .i64 N) (.int .i64 T)) := fun V hV => boxw hF hw0 hV
    have HFW : Hid (w.heap.size = F) := hF
    obtain ⟨z0, z1, z2, z3, z4, z5, z6, z7, z8⟩ := HZ.out w0 (Below.refl _ _)
    clear hB0
    go_enter Try.func3, Try.ntmps3
    go_wp2_with fail
    refine (HDO.out w0 HB0.out).mono ?_
    rintro e w1 ⟨⟨s', dp, dc, bs, rfl, hr, how, hdk⟩, hb1⟩
    have HB1 : Hid (Below w.heap.size w w1) := below_call HB0.out HB0.out.size hb1
    have HB01 : Hid (Below w0.heap.size w0 w1) := hb1
    have HR1 : Hid (row vbl w1 dp bs) := hr
    obtain ⟨hs', hbs⟩ : s' = wz ∧ bs = [] := by
      rcases hdk with ⟨_, h1, h2⟩ | ⟨h, _⟩
      · exact ⟨h1, h2⟩
      · exact absurd h (by decide)
    subst hs' hbs
    clear hdk
    unfold wz
    dsimp only [List.length_nil]
    obtain ⟨J, hJ⟩ : ∃ J, w1.heap.size = J := ⟨_, rfl⟩
    obtain ⟨w2, hw2⟩ : ∃ w2, w1.alloc (.cells #[.int .i64 0, .int .i64 0, .slice none 0 0, .slice none 0 0, .slice none 0 0, .slice none 0 0, .slice none 0 0, .int .i64 0, .int .i64 0] 28) = w2 := ⟨_, rfl⟩
    have hb12 : Below w1.heap.size w1 w2 := by rw [← hw2]; exact alloc_below _ _
    have HB12 : Hid (Below w1.heap.size w1 w2) := hb12
    have HY : Hid (∀ V, Below w2.heap.size w2 V → c9 V J (.int .i64 0) (.int .i64 0) (.slice none 0 0) (.slice none 0 0) (.slice none 0 0) (.slice none 0 0) (.slice none 0 0) (.int .i64 0) (.int .i64 0)) := fun V hV => boxw hJ hw2 hV
    have HXJ : Hid (bx9 w2 J (.int .i64 0) (.int .i64 0) (.slice none 0 0) (.slice none 0 0) (.slice none 0 0) (.slice none 0 0) (.slice none 0 0) (.int .i64 0) (.int .i64 0)) := by unfold Hid; rw [← hw2, ← hJ]; exact box9_new _ _ _ _ _ _ _ _ _ _
    have HB2 : Hid (Below w.heap.size w w2) := below_call HB1.out HB1.out.size hb12
    have HB02 : Hid (Below w0.heap.size w0 w2) := below_call HB01.out HB01.out.size hb12
    clear hr how hb1 hb12
    clear z0 z1 z2 z3 z4 z5 z6 z7 z8 hw0
    have HW2 : Hid (w1.alloc (.cells #[.int .i64 0, .int .i64 0, .slice none 0 0, .slice none 0 0, .slice none 0 0, .slice none 0 0, .slice none 0 0, .int .i64 0, .int .i64 0] 28) = w2) := hw2
    clear hw2
    obtain ⟨z0, z1, z2, z3, z4, z5, z6, z7, z8⟩ := HZ.out (w1.alloc (.cells #[.int .i64 0, .int .i64 0, .slice none 0 0, .slice none 0 0, .slice none 0 0, .slice none 0 0, .slice none 0 0, .int .i64 0, .int .i64 0] 28)) (by rw [HW2.out]; exact HB02.out)
    go_wp2_with fail
    rw [HW2.out]
    refine (HWO.out w2 HB2.out).mono ?_
    rintro e w3 ⟨rfl, hb3⟩
    have HB3 : Hid (Below w.heap.size w w3) := below_call HB2.out HB2.out.size hb3
    have HB03 : Hid (Below w0.heap.size w0 w3) := below_call HB02.out HB02.out.size hb3
    have HB23 : Hid (Below w2.heap.size w2 w3) := hb3
    clear hb3 z0 z1 z2 z3 z4 z5 z6 z7 z8
    obtain ⟨z0, z1, z2, z3, z4, z5, z6, z7, z8⟩ := HZ.out w3 HB03.out
    go_wp2_with fail
    refine (HWR.out w3 HB3.out).mono ?_
    rintro e w4 ⟨rfl, hb4⟩
    have HB4 : Hid (Below w.heap.size w w4) := below_call HB3.out HB3.out.size hb4
    have HB04 : Hid (Below w0.heap.size w0 w4) := below_call HB03.out HB03.out.size hb4
    have HB24 : Hid (Below w2.heap.size w2 w4) := below_call HB23.out HB23.out.size hb4
    clear hb4 z0 z1 z2 z3 z4 z5 z6 z7 z8
    obtain ⟨K, hK⟩ : ∃ K, w4.heap.size = K := ⟨_, rfl⟩
    obtain ⟨w5, hw5⟩ : ∃ w5, w4.alloc (.cells #[.int .i64 0, .int .i64 0, .slice none 0 0, .slice none 0 0, .slice none 0 0, .slice none 0 0, .slice none 0 0, .int .i64 0, .int .i64 0] 28) = w5 := ⟨_, rfl⟩
    have hb45 : Below w4.heap.size w4 w5 := by rw [← hw5]; exact alloc_below _ _
    have HB5 : Hid (Below w.heap.size w w5) := below_call HB4.out HB4.out.size hb45
    have HB05 : Hid (Below w0.heap.size w0 w5) := below_call HB04.out HB04.out.size hb45
    have HB25 : Hid (Below w2.heap.size w2 w5) := below_call HB24.out HB24.out.size hb45
    have HX5 : Hid (bx9 w5 K (.int .i64 0) (.int .i64 0) (.slice none 0 0) (.slice none 0 0) (.slice none 0 0) (.slice none 0 0) (.slice none 0 0) (.int .i64 0) (.int .i64 0)) := by unfold Hid; rw [← hw5, ← hK]; exact box9_new _ _ _ _ _ _ _ _ _ _
    have HKS : Hid (w4.heap.size = K) := hK
    have HW5 : Hid (w4.alloc (.cells #[.int .i64 0, .int .i64 0, .slice none 0 0, .slice none 0 0, .slice none 0 0, .slice none 0 0, .slice none 0 0, .int .i64 0, .int .i64 0] 28) = w5) := hw5
    clear hb45 hK hw5
    have hK := HKS.out
    obtain ⟨z0, z1, z2, z3, z4, z5, z6, z7, z8⟩ := HZ.out (w4.alloc (.cells #[.int .i64 0, .int .i64 0, .slice none 0 0, .slice none 0 0, .slice none 0 0, .slice none 0 0, .slice none 0 0, .int .i64 0, .int .i64 0] 28)) (by rw [HW5.out]; exact HB05.out)
    go_wp2_with fail
    rw [HW5.out]
    refine (HWF.out w5 HB5.out).mono ?_
    rintro e w6 ⟨rfl, hb6⟩
    have HB56 : Hid (Below w5.heap.size w5 w6) := hb6
    clear hb6 z0 z1 z2 z3 z4 z5 z6 z7 z8
    have d1 : (200 : Int) < (nl : Int) := by have := HN2.out; omega
    have d2 : decide ((200 : Int) < (nl : Int)) = true := by simp; omega
    obtain ⟨z0, z1, z2, z3, z4, z5, z6, z7, z8⟩ := bx9_c9 (bx9_below HX5.out HB56.out)
    obtain ⟨y0, y1, y2, y3, y4, y5, y6, y7, y8⟩ := HY.out w6 (below_call HB25.out HB25.out.size HB56.out)
    go_wp2_with fail
    refine (zero_same w6).mono ?_
    rintro e w7 ⟨rfl, hb7⟩
    have HB7 : Hid (Below w.heap.size w w7) := below_call (below_call HB5.out HB5.out.size HB56.out) (below_call HB5.out HB5.out.size HB56.out).size hb7
    clear hb7 z0 z1 z2 z3 z4 z5 z6 z7 z8 y0 y1 y2 y3 y4 y5 y6 y7 y8
    go_wp2_with fail
    refine (Equalv_b dp none 0 dc 0 [] w7 rfl (by decide) (row_nil _ _ _) (row_nil _ _ _)).mono ?_
    rintro e w8 ⟨rfl, hb8⟩
    have HB8 : Hid (Below w.heap.size w w8) := below_call HB7.out HB7.out.size hb8
    clear hb8
    go_wp2_with fail
    go_ret
    exact ⟨rfl, by first | exact HB8.out | (rw [← HFW.out]; exact HB8.out)⟩
  have HN2 : Hid (s1.l.length ≤ 200) := by unfold Hid; omega
  have HBE : Hid (ber s0 s1.l.length 0) := ⟨0, HEW.out, .inr (.inr ⟨rfl, HN2.out, rfl⟩)⟩
  clear h200
  have HDO : Hid (∀ V, Below w.heap.size w V → Calls Try.prog 9 #[s0.val, .slice s1.p s1.l.length s1.c] V fun e w' => (∃ (s' : Wld) (dp : Option Addr) (dc : Nat) (bs : List Bool), e = .returned (.tuple #[s'.val, .slice dp bs.length dc, .int .i64 0]) ∧ row vbl w' dp bs ∧ wown V.heap.size w' s' ∧ dok s0 s1.l 0 s' bs) ∧ Below V.heap.size V w') := fun V hV => Do_any s0 0 s1.p _ s1.c s1.l V (Wld.fit_below h0 hV) (dor_below h1.1 hV) h1.2.1 rfl h1.2.2.1 HBE.out
  have HWO : Hid (∀ V, Below w.heap.size w V → Calls Try.prog 10 #[s0.val] V fun e w' => e = .returned (.tuple #[.int .i64 R0, .int .i64 0]) ∧ Below V.heap.size V w') := fun V hV => Worth_any s0 0 R0 V (Wld.fit_below h0 hV) HEW.out HR0.out
  have HWR : Hid (∀ V, Below w.heap.size w V → Calls Try.prog 11 #[s0.val] V fun e w' => e = .returned (.int .i64 0) ∧ Below V.heap.size V w') := fun V hV => WorldRight_at s0 0 V (Wld.fit_below h0 hV) HEW.out
  have HWF : Hid (∀ V, Below w.heap.size w V → Calls Try.prog 12 #[s0.val] V fun e w' => e = .returned (.int .i64 R0) ∧ Below V.heap.size V w') := fun V hV => WorthOf_at s0 W H R0 V (Wld.fit_below h0 hV) hk HRW.out
  obtain ⟨S0, hS0⟩ : ∃ S0 : Wld, S0 = s0 := ⟨_, rfl⟩
  have HDE : Hid (∀ V, Below w.heap.size w V → Calls Try.prog 13 #[s0.val, .slice s1.p s1.l.length s1.c] V fun e w' => dallres V.heap.size S0 W H s1.l e w' ∧ Below V.heap.size V w') := fun V hV => by rw [hS0]; exact DeededAll_at made s0 W H s1.p _ s1.c s1.l V (Wld.fit_below h0 hV) hk (dor_below h1.1 hV) h1.2.1 rfl HN2.out
  have HMT : Hid (∀ (s' s'' : Wld) (bs bs' : List Bool), dok S0 s1.l 0 s' bs → likes S0 s'' → Dr W H S0.l S0.lb S0.shp s1.l s''.shp bs' → samew s' s'' ∧ bs = bs') := fun s' s'' bs bs' hd hl hr => by
    rw [hS0] at hd hl hr
    rcases hd with ⟨h, _⟩ | ⟨_, W2, H2, hk2, hkp, hd2⟩
    · exact absurd rfl h
    have ea : (W2 : Int) = W := by rw [← hk2.a, hk.a]
    have eb : (H2 : Int) = H := by rw [← hk2.b, hk.b]
    obtain rfl : W2 = W := by omega
    obtain rfl : H2 = H := by omega
    obtain ⟨e1, e2⟩ := dr_one (okw_oks hk h0.hb h0.ht) hd2 hr
    exact ⟨kept_likes hkp hl e1, e2⟩
  have HDF : Hid (∀ (s' : Wld) (bs : List Bool) (B : Nat) (V : World), wown B V s' → dok s0 s1.l 0 s' bs → s'.fit V) := fun s' bs B V hw hd => dok_fit h0 hd hw
  have HFN : Hid (∀ (s'' : Wld) (bs' : List Bool) (B : Nat) (V : World), Below w.heap.size w V → likes S0 s'' → Dr W H S0.l S0.lb S0.shp s1.l s''.shp bs' → (s'' = S0 ∨ sown B V s'') → s''.fit V) := fun s'' bs' B V hV hl hd hs => by
    rw [hS0] at hl hd hs
    rcases hs with rfl | hs
    · exact Wld.fit_below h0 hV
    · have ho := dr_oks (okw_oks hk h0.hb h0.ht) hd
      rw [← hl.l, ← hl.lb] at ho
      exact fit_next h0 hl hs ho (row_below h0.r hV) (crow_below h0.rb hV) h0.fT
  clear h0 h1 hs1 hk
  obtain ⟨A, B, p, n, c, l, pb, nb, cb, lb, ps, ns, cs, ls, pm, nm, cm, lm, pt, nt, ct, lt, N, T⟩ := s0
  obtain ⟨lp, lc, ll⟩ := s1
  unfold Wld.val Dst.val at *
  dsimp only at *
  obtain ⟨nl, hnl⟩ : ∃ nl, ll.length = nl := ⟨_, rfl⟩
  rw [hnl] at HDO HDE HN2 ⊢
  have HLN : Hid (ll.length = nl) := hnl
  clear hnl
  obtain ⟨F, hF⟩ : ∃ F, w.heap.size = F := ⟨_, rfl⟩
  obtain ⟨w0, hw0⟩ : ∃ w0, w.alloc (.cells #[.int .i64 A, .int .i64 B, .slice p n c, .slice pb nb cb, .slice ps ns cs, .slice pm nm cm, .slice pt nt ct, .int .i64 N, .int .i64 T] 28) = w0 := ⟨_, rfl⟩
  have hB0 : Below w.heap.size w w0 := by rw [← hw0]; exact alloc_below _ _
  have HB0 : Hid (Below w.heap.size w w0) := hB0
  have HZ : Hid (∀ V, Below w0.heap.size w0 V → c9 V F (.int .i64 A) (.int .i64 B) (.slice p n c) (.slice pb nb cb) (.slice ps ns cs) (.slice pm nm cm) (.slice pt nt ct) (.int .i64 N) (.int .i64 T)) := fun V hV => boxw hF hw0 hV
  have HFW : Hid (w.heap.size = F) := hF
  obtain ⟨z0, z1, z2, z3, z4, z5, z6, z7, z8⟩ := HZ.out w0 (Below.refl _ _)
  clear hB0
  go_enter Try.func3, Try.ntmps3
  go_wp2_with fail
  refine (HDO.out w0 HB0.out).mono ?_
  rintro e w1 ⟨⟨s', dp, dc, bs, rfl, hr, how, hdk⟩, hb1⟩
  have HB1 : Hid (Below w.heap.size w w1) := below_call HB0.out HB0.out.size hb1
  have HB01 : Hid (Below w0.heap.size w0 w1) := hb1
  have HR1 : Hid (row vbl w1 dp bs) := hr
  have HFIT : Hid (s'.fit w1) := HDF.out s' bs _ w1 how hdk
  rw [← hS0] at hdk
  have HDK : Hid (dok S0 ll 0 s' bs) := hdk
  obtain ⟨nd, hnd⟩ : ∃ nd, bs.length = nd := ⟨_, rfl⟩
  rw [hnd]
  have HND : Hid (bs.length = nd) := hnd
  obtain ⟨S1, hS1⟩ : ∃ S1 : Wld, S1 = s' := ⟨_, rfl⟩
  rw [← hS1] at HDK HFIT
  obtain ⟨A1, B1, p1, n1, c1, l1, pb1, nb1, cb1, lb1, ps1, ns1, cs1, ls1, pm1, nm1, cm1, lm1, pt1, nt1, ct1, lt1, N1, T1⟩ := s'
  have HV1 : Hid (S1.val = .agg #[.int .i64 A1, .int .i64 B1, .slice p1 n1 c1, .slice pb1 nb1 cb1, .slice ps1 ns1 cs1, .slice pm1 nm1 cm1, .slice pt1 nt1 ct1, .int .i64 N1, .int .i64 T1]) := by unfold Hid; rw [hS1]; rfl
  dsimp only
  clear hdk hS1 hS0 hnd HDF
  obtain ⟨J, hJ⟩ : ∃ J, w1.heap.size = J := ⟨_, rfl⟩
  obtain ⟨w2, hw2⟩ : ∃ w2, w1.alloc (.cells #[.int .i64 A1, .int .i64 B1, .slice p1 n1 c1, .slice pb1 nb1 cb1, .slice ps1 ns1 cs1, .slice pm1 nm1 cm1, .slice pt1 nt1 ct1, .int .i64 N1, .int .i64 T1] 28) = w2 := ⟨_, rfl⟩
  have hb12 : Below w1.heap.size w1 w2 := by rw [← hw2]; exact alloc_below _ _
  have HB12 : Hid (Below w1.heap.size w1 w2) := hb12
  have HY : Hid (∀ V, Below w2.heap.size w2 V → c9 V J (.int .i64 A1) (.int .i64 B1) (.slice p1 n1 c1) (.slice pb1 nb1 cb1) (.slice ps1 ns1 cs1) (.slice pm1 nm1 cm1) (.slice pt1 nt1 ct1) (.int .i64 N1) (.int .i64 T1)) := fun V hV => boxw hJ hw2 hV
  have HXJ : Hid (bx9 w2 J (.int .i64 A1) (.int .i64 B1) (.slice p1 n1 c1) (.slice pb1 nb1 cb1) (.slice ps1 ns1 cs1) (.slice pm1 nm1 cm1) (.slice pt1 nt1 ct1) (.int .i64 N1) (.int .i64 T1)) := by unfold Hid; rw [← hw2, ← hJ]; exact box9_new _ _ _ _ _ _ _ _ _ _
  have HB2 : Hid (Below w.heap.size w w2) := below_call HB1.out HB1.out.size hb12
  have HB02 : Hid (Below w0.heap.size w0 w2) := below_call HB01.out HB01.out.size hb12
  clear hr how hb1 hb12
  clear z0 z1 z2 z3 z4 z5 z6 z7 z8 hw0
  obtain ⟨z0, z1, z2, z3, z4, z5, z6, z7, z8⟩ := HZ.out w2 HB02.out
  go_wp2_with fail
  clear hw2
  refine (HWO.out w2 HB2.out).mono ?_
  rintro e w3 ⟨rfl, hb3⟩
  have HB3 : Hid (Below w.heap.size w w3) := below_call HB2.out HB2.out.size hb3
  have HB03 : Hid (Below w0.heap.size w0 w3) := below_call HB02.out HB02.out.size hb3
  have HB23 : Hid (Below w2.heap.size w2 w3) := hb3
  clear hb3 z0 z1 z2 z3 z4 z5 z6 z7 z8
  obtain ⟨z0, z1, z2, z3, z4, z5, z6, z7, z8⟩ := HZ.out w3 HB03.out
  go_wp2_with fail
  refine (HWR.out w3 HB3.out).mono ?_
  rintro e w4 ⟨rfl, hb4⟩
  have HB4 : Hid (Below w.heap.size w w4) := below_call HB3.out HB3.out.size hb4
  have HB04 : Hid (Below w0.heap.size w0 w4) := below_call HB03.out HB03.out.size hb4
  have HB24 : Hid (Below w2.heap.size w2 w4) := below_call HB23.out HB23.out.size hb4
  clear hb4 z0 z1 z2 z3 z4 z5 z6 z7 z8
  obtain ⟨K, hK⟩ : ∃ K, w4.heap.size = K := ⟨_, rfl⟩
  obtain ⟨w5, hw5⟩ : ∃ w5, w4.alloc (.cells #[.int .i64 0, .int .i64 0, .slice none 0 0, .slice none 0 0, .slice none 0 0, .slice none 0 0, .slice none 0 0, .int .i64 0, .int .i64 0] 28) = w5 := ⟨_, rfl⟩
  have hb45 : Below w4.heap.size w4 w5 := by rw [← hw5]; exact alloc_below _ _
  have HB5 : Hid (Below w.heap.size w w5) := below_call HB4.out HB4.out.size hb45
  have HB05 : Hid (Below w0.heap.size w0 w5) := below_call HB04.out HB04.out.size hb45
  have HB25 : Hid (Below w2.heap.size w2 w5) := below_call HB24.out HB24.out.size hb45
  have HX5 : Hid (bx9 w5 K (.int .i64 0) (.int .i64 0) (.slice none 0 0) (.slice none 0 0) (.slice none 0 0) (.slice none 0 0) (.slice none 0 0) (.int .i64 0) (.int .i64 0)) := by unfold Hid; rw [← hw5, ← hK]; exact box9_new _ _ _ _ _ _ _ _ _ _
  have HKS : Hid (w4.heap.size = K) := hK
  have HW5 : Hid (w4.alloc (.cells #[.int .i64 0, .int .i64 0, .slice none 0 0, .slice none 0 0, .slice none 0 0, .slice none 0 0, .slice none 0 0, .int .i64 0, .int .i64 0] 28) = w5) := hw5
  clear hb45 hK hw5
  have hK := HKS.out
  obtain ⟨z0, z1, z2, z3, z4, z5, z6, z7, z8⟩ := HZ.out (w4.alloc (.cells #[.int .i64 0, .int .i64 0, .slice none 0 0, .slice none 0 0, .slice none 0 0, .slice none 0 0, .slice none 0 0, .int .i64 0, .int .i64 0] 28)) (by rw [HW5.out]; exact HB05.out)
  go_wp2_with fail
  rw [HW5.out]
  refine (HWF.out w5 HB5.out).mono ?_
  rintro e w6 ⟨rfl, hb6⟩
  have HB56 : Hid (Below w5.heap.size w5 w6) := hb6
  have HB6 : Hid (Below w.heap.size w w6) := below_call HB5.out HB5.out.size hb6
  have HB26 : Hid (Below w2.heap.size w2 w6) := below_call HB25.out HB25.out.size hb6
  have HB06 : Hid (Below w0.heap.size w0 w6) := below_call HB05.out HB05.out.size hb6
  clear hb6 z0 z1 z2 z3 z4 z5 z6 z7 z8
  have d1 : ¬ (200 : Int) < (nl : Int) := by have := HN2.out; omega
  have d2 : decide ((200 : Int) < (nl : Int)) = false := by simp; omega
  obtain ⟨z0, z1, z2, z3, z4, z5, z6, z7, z8⟩ := HZ.out w6 HB06.out
  go_wp2_with fail
  refine (HDE.out w6 HB6.out).mono ?_
  rintro e w7 ⟨hres, hb7⟩
  obtain ⟨s'', q2, c2', bs2, rfl, hr2, hf2, hl2, hd2, hs2⟩ := hres
  obtain ⟨hsame, hbs⟩ := HMT.out S1 s'' bs bs2 HDK.out hl2 hd2
  subst hbs
  rw [HND.out]
  have HB67 : Hid (Below w6.heap.size w6 w7) := hb7
  have hx7 := bx9_below HX5.out (below_call HB56.out HB56.out.size hb7)
  have hKl : K < w6.heap.size := Nat.lt_of_lt_of_le (bx9_lt HX5.out) HB56.out.size
  have hKw : w.heap.size ≤ K := by rw [← HKS.out]; exact HB4.out.size
  obtain ⟨S2, hS2⟩ : ∃ S2 : Wld, S2 = s'' := ⟨_, rfl⟩
  rw [← hS2] at hsame hl2 hd2 hs2
  obtain ⟨A2, B2, p2, n2, c2, l2, pb2, nb2, cb2, lb2, ps2, ns2, cs2, ls2, pm2, nm2, cm2, lm2, pt2, nt2, ct2, lt2, N2, T2⟩ := s''
  have HV2 : Hid (S2.val = .agg #[.int .i64 A2, .int .i64 B2, .slice p2 n2 c2, .slice pb2 nb2 cb2, .slice ps2 ns2 cs2, .slice pm2 nm2 cm2, .slice pt2 nt2 ct2, .int .i64 N2, .int .i64 T2]) := by unfold Hid; rw [hS2]; rfl
  unfold Wld.val
  dsimp only
  obtain ⟨u9, hu9⟩ : ∃ u9, ((((((((w7.setCell ⟨K, 0, none⟩ (.int .i64 A2)).setCell ⟨K, 1, none⟩ (.int .i64 B2)).setCell ⟨K, 2, none⟩ (.slice p2 n2 c2)).setCell ⟨K, 3, none⟩ (.slice pb2 nb2 cb2)).setCell ⟨K, 4, none⟩ (.slice ps2 ns2 cs2)).setCell ⟨K, 5, none⟩ (.slice pm2 nm2 cm2)).setCell ⟨K, 6, none⟩ (.slice pt2 nt2 ct2)).setCell ⟨K, 7, none⟩ (.int .i64 N2)).setCell ⟨K, 8, none⟩ (.int .i64 T2) = u9 := ⟨_, rfl⟩
  obtain ⟨x9, e9⟩ := set9 hx7 hu9.symm
  have hB79 : Below w.heap.size w u9 := (below_call HB6.out HB6.out.size hb7).trans (e9.below (below_call HB6.out HB6.out.size hb7).size (by intro j hj; omega))
  have hJK : J < K := by
    have h1 := bx9_lt HXJ.out
    have h2 := HB24.out.size
    have h3 := HKS.out
    omega
  have h26 := below_call HB26.out HB26.out.size hb7
  have e29 : Below w2.heap.size w2 u9 := h26.trans (e9.below h26.size (by intro j hj; have h1 := HB24.out.size; have h2 := HKS.out; omega))
  have HSF : Hid (samew S1 S2 ∧ S1.fit u9 ∧ S2.fit u9) := by
    refine ⟨hsame, Wld.fit_below HFIT.out (HB12.out.trans (e29.mono HB12.out.size)), HFN.out S2 bs w6.heap.size u9 hB79 hl2 hd2 ?_⟩
    rcases hs2 with h | h
    · exact .inl h
    · exact .inr (sown_ex h e9 (by intro g hg; omega))
  have HSW : Hid (Calls Try.prog 14 #[.agg #[.int .i64 A1, .int .i64 B1, .slice p1 n1 c1, .slice pb1 nb1 cb1, .slice ps1 ns1 cs1, .slice pm1 nm1 cm1, .slice pt1 nt1 ct1, .int .i64 N1, .int .i64 T1], .agg #[.int .i64 A2, .int .i64 B2, .slice p2 n2 c2, .slice pb2 nb2 cb2, .slice ps2 ns2 cs2, .slice pm2 nm2 cm2, .slice pt2 nt2 ct2, .int .i64 N2, .int .i64 T2]] u9 fun e w' => e = .returned (.bool true) ∧ Below u9.heap.size u9 w') := by
    have h := SameWorld_yes S1 S2 u9 HSF.out.2.1 HSF.out.2.2 HSF.out.1
    rw [HV1.out, HV2.out] at h
    exact h
  have HB9 : Hid (Below w.heap.size w u9 ∧ Below w2.heap.size w2 u9) := ⟨hB79, e29⟩
  have HR2 : Hid (row vbl w7 q2 bs) := hr2
  have HE9 : Hid (Ex (fun g => g = K) w7 u9) := e9
  have HQK : Hid (∀ a, q2 = some a → bs ≠ [] → ¬ a.block = K) := fun a ha hne => by
    subst ha
    rcases bs with _ | ⟨x, bs⟩
    · exact absurd rfl hne
    obtain ⟨a', ha', hc'⟩ := hr2 0 x rfl
    cases ha'
    exact notbox hx7 hc'
  obtain ⟨y0, y1, y2, y3, y4, y5, y6, y7, y8⟩ := HY.out u9 e29
  obtain ⟨x0, x1, x2, x3, x4, x5, x6, x7, x8⟩ := bx9_c9 x9
  obtain ⟨o0, o1, o2, o3, o4, o5, o6, o7, o8⟩ := bx9_c9 hx7
  have fr0 := bx9_free hx7 0
  have fr1 := bx9_free hx7 1
  have fr2 := bx9_free hx7 2
  have fr3 := bx9_free hx7 3
  have fr4 := bx9_free hx7 4
  have fr5 := bx9_free hx7 5
  have fr6 := bx9_free hx7 6
  have fr7 := bx9_free hx7 7
  have fr8 := bx9_free hx7 8
  clear hsame hl2 hd2 hs2 hS2 hb7 hf2 hr2 hx7 x9 e9 hB79 h26 e29 hKl hKw hJK z0 z1 z2 z3 z4 z5 z6 z7 z8
  go_wp2_with fail
  refine Calls.mono HSW.out ?_
  rintro e w10 ⟨rfl, hb10⟩
  have HB10 : Hid (Below w.heap.size w w10) := below_call HB9.out.1 HB9.out.1.size hb10
  have HEQ : Hid (Calls Try.prog 15 #[.slice dp nd dc, .slice q2 nd c2'] w10 fun e w' => e = .returned (.bool true) ∧ Below w10.heap.size w10 w') := by
    have h9 : row vbl u9 q2 bs := by
      rcases hbe : bs with _ | ⟨x, bs'⟩
      · exact row_nil _ _ _
      · rw [← hbe]
        obtain ⟨a, ha, _⟩ := HR2.out 0 x (by rw [hbe]; rfl)
        have hk := HQK.out a ha (by rw [hbe]; exact fun e => by cases e)
        subst ha
        exact row_frame HR2.out HE9.out hk
    refine Equalv_b dp q2 nd dc c2' bs w10 HND.out ?_ (row_below HR1.out ?_) (row_below h9 hb10)
    · have h1 := HND.out
      have h2 := HN2.out
      have h3 := dok_len HDK.out
      have h4 := HLN.out
      omega
    · exact HB12.out.trans ((below_call HB9.out.2 HB9.out.2.size hb10).mono HB12.out.size)
  clear hb10 x0 x1 x2 x3 x4 x5 x6 x7 x8 y0 y1 y2 y3 y4 y5 y6 y7 y8 o0 o1 o2 o3 o4 o5 o6 o7 o8 fr0 fr1 fr2 fr3 fr4 fr5 fr6 fr7 fr8 hu9
  go_wp2_with fail
  refine Calls.mono HEQ.out ?_
  rintro e w11 ⟨rfl, hb11⟩
  have HB11 : Hid (Below w.heap.size w w11) := below_call HB10.out HB10.out.size hb11
  clear hb11
  go_wp2_with fail
  go_ret
  exact ⟨rfl, by first | exact HB11.out | (rw [← HFW.out]; exact HB11.out)⟩

set_option maxRecDepth 100000 in
theorem lifted (os : Os) (started : os.Started) (H : Type) (enc : TypeId × Value → H) :
    ReturnsInHanded {} Try.checked os 3 .any (Rows.goodsSaysSpec.pre6 enc Try.prog Try.f3 Rows.goodsSaysRow.domain false) (Rows.goodsSaysSpec.post enc Try.prog Try.f3 false true false false) := by
  refine returnsInHanded_of_change_sized (C := Try.checked) own started (by kernel_rfl) Try.func3
    (ChangeSpec.witness6 (enc := enc) (C := Try.checked) false ⟨#[], #[.agg #[.int .i64 0, .int .i64 0, .slice none 0 0, .slice none 0 0, .slice none 0 0, .slice none 0 0, .slice none 0 0, .int .i64 0, .int .i64 0], .slice none 0 0], []⟩ 8 (by kernel_rfl) (by kernel_rfl) (by kernel_rfl) (by kernel_rfl)) ?_
  intro W base args ds gs before hval0 hW hcnd hsz _
  have hval : ∀ (j : Nat) t v, Try.f3.params[j]? = some t → args[j]? = some v → Value.okWide Try.prog W .any base t v := hval0
  have hW' := hW
  obtain ⟨p, q, hA0, hV, rfl, hfz, hnd⟩ := hW
  have hA : DataW.TrodAll enc Try.prog W 0 (fun _ => true) true Try.f3.params.toList args.toList ds p := hA0
  rw [Try.params3] at hA hval
  obtain ⟨v0, vs0, d0, ds0, p0, q0, hargs, rfl, rfl, h0, r0⟩ := trodAll_cons hA
  obtain ⟨v1, vs1, d1, ds1, p1, q1, rfl, rfl, rfl, h1, r1⟩ := trodAll_cons r0
  obtain ⟨rfl, rfl, rfl⟩ := trodAll_nil r1
  obtain rfl : args = #[v0, v1] := by cases args; simp_all
  obtain ⟨rfl, rfl⟩ := trodVars_none hV
  obtain ⟨s0, rfl, k0⟩ := open_wld (hval 0 28 v0 rfl rfl) h0
  obtain ⟨s1, rfl, k1, t1⟩ := open_dst (hval 1 29 v1 rfl rfl) h1
  have hs1 : s1.l.length * 40 ≤ 140737488351232 := told_sized hsz (j := 1) rfl rfl Try.underlying29 (by kernel_rfl) t1
  clear hA0 hval0
  refine (walk s0 s1  W k0 k1 hs1).mono fun e W' ⟨he, hg⟩ => ?_
  subst he
  exact ⟨_, rfl, law_post (by kernel_rfl) (by kernel_rfl) rfl (by kernel_rfl) Try.underlying4 hW' rfl hg⟩

theorem over : Rows.goodsSaysRow.holds Try.pinned (OpenSpec.ofChange Rows.goodsSaysSpec) :=
  OpenClaim.holds_of_wide 3 Try.f3 rfl rfl rfl rfl rfl rfl rfl ⟨rfl, rfl, rfl, rfl, rfl⟩ rfl rfl rfl rfl rfl (by kernel_rfl) Try.func3 (by kernel_rfl)
    (of_decide_eq_true (by kernel_rfl)) (by unfold Func.isWrapper; first | (rw [if_pos (by decide +kernel)]; kernel_rfl) | (rw [if_neg (by decide +kernel)]; exact ⟨rfl, rfl⟩))
    (fun os started H enc _ => lifted os started H enc)

theorem proved : Rows.GoodsSaysSaid :=
  over
end Go.Proofs.Ytdcjjfipnilmpaa.goodsSays

namespace Go.Proofs.Ytdcjjfipnilmpaa
/-- GoodsSays: whatever is handed in, Do and Worth answer what the document says: for every world and every list of deeds the law answers true. -/
theorem goodsSays_holds : Rows.GoodsSaysSaid := goodsSays.proved
#print axioms goodsSays_holds
end Go.Proofs.Ytdcjjfipnilmpaa
