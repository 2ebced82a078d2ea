/- What the document's own MarchedFar returns of a right world. -/
import Derived.Test.YtnbbfnlfcncgnaaMr
import Derived.Test.YtnbbfnlfcncgnaaRb
namespace Go.Proofs.Ytnbbfnlfcncgnaa
open Go.RowKit
set_option linter.unusedVariables false

/-- The loop's state: k goes have moved, the troops are L, where q and d tell; whatever is written into box F, they stay. -/
structure minv (wb w w0 : World) (F : Nat) (vs : Value → World → Prop) (nt : Nat) (A B : Int) (l : List Int) (f : Int → Option Cel) (lt : List Trp) (k : Nat) (q : Option Addr) (d : Nat) (L : List Trp) (wr : World) : Prop where
  x : Below w.heap.size w wr
  y : Ex (fun g => g = F) w0 wr
  b : vs (.slice q nt d) wr
  t : ∀ V, Ex (fun g => wb.heap.size ≤ g ∧ g ≤ F + 2) wr V → trow V q L
  z : (q = none → d = 0) ∧ nt ≤ d ∧ L.length = nt
  m : Fwd A B l f nt lt k L
set_option maxRecDepth 20000 in
set_option maxHeartbeats 8000000 in
theorem MarchedFar_ok (s : Wld) (W H m : Nat) (id tx ty : Int) (wb w : World) (hwb : Below wb.heap.size wb w) (h : s.fit wb) (hk : okw s W H) (hm : m ≤ 200) (fi : fits id) (fx : fits tx) (fy : fits ty) :
    Calls Try.prog 15 #[s.val, .int .i64 id, .agg #[.int .i64 tx, .int .i64 ty], .int .i64 (m : Int)] w fun e w' => (∃ (s' : Wld) (k : Int), e = .returned (.tuple #[s'.val, .int .i64 k]) ∧ (∀ V, Ex (fun g => wb.heap.size ≤ g ∧ g ≤ w.heap.size + 2) w' V → s'.fit V) ∧ likew s s' ∧ s'.nt = s.nt ∧ ∃ m' kk : Nat, (m : Int) = m' ∧ k = kk ∧ m' ≤ 200 ∧ Rch s.A s.B s.l (gol [⟨id, tx, ty⟩]) s.nt s.lt m' s'.lt kk) ∧ Below w.heap.size w w' := by
  obtain ⟨A, B, p, n, c, l, pb, nb, cb, lb, ps, ns, cs, ls, pm, nm, cm, lm, pt, nt, ct, lt, N, T⟩ := s
  unfold Wld.val
  dsimp only at *
  have HFIT : Hid ((⟨A, B, p, n, c, l, pb, nb, cb, lb, ps, ns, cs, ls, pm, nm, cm, lm, pt, nt, ct, lt, N, T⟩ : Wld).fit wb) := h
  have HOK : Hid (okw ⟨A, B, p, n, c, l, pb, nb, cb, lb, ps, ns, cs, ls, pm, nm, cm, lm, pt, nt, ct, lt, N, T⟩ W H) := hk
  have HM200 : Hid (m ≤ 200) := hm
  -- a world of other troops
  have HFD : Hid (∀ k L, Fwd A B l (gol [⟨id, tx, ty⟩]) nt lt k L → (∀ t ∈ L, fitt t) ∧ okw ⟨A, B, p, n, c, l, pb, nb, cb, lb, ps, ns, cs, ls, pm, nm, cm, lm, pt, nt, ct, L, N, T⟩ W H) := by
    intro k L hf
    have h1 : TRr W H l nb N L ∧ ∀ t ∈ L, fitt t := by
      induction hf with
      | zero => exact ⟨hk.tr, h.xt⟩
      | more h1 h2 h3 ih => exact ⟨(mst_right hk.a hk.b ih.1 h2).1, (mst_fits h.fA h.fB ih.2 h2).1⟩
    exact ⟨h1.2, ⟨hk.a, hk.b, hk.f, hk.nb, hk.nt, hk.c, hk.pl, hk.mn, h1.1⟩⟩
  have HFW : Hid (∀ V q d L, Below wb.heap.size wb V → trow V q L → (q = none → d = 0) ∧ nt ≤ d ∧ L.length = nt → (∀ t ∈ L, fitt t) → (⟨A, B, p, n, c, l, pb, nb, cb, lb, ps, ns, cs, ls, pm, nm, cm, lm, q, nt, d, L, N, T⟩ : Wld).fit V) := fun V q d L hb ht hz hx =>
    { Wld.fit_below h hb with rt := ht, xt := hx, ht := hz.2.2, zt := hz.1, kt := hz.2.1 }
  have HST : Hid (∀ q d L k V, Below wb.heap.size wb V → trow V q L → (q = none → d = 0) ∧ nt ≤ d ∧ L.length = nt → Fwd A B l (gol [⟨id, tx, ty⟩]) nt lt k L → Calls Try.prog 12 #[.agg #[.int .i64 A, .int .i64 B, .slice p n c, .slice pb nb cb, .slice ps ns cs, .slice pm nm cm, .slice q nt d, .int .i64 N, .int .i64 T], .slice (some ⟨V.heap.size, 0, none⟩) 1 1] (V.alloc (.cells #[.int .i64 id, .int .i64 tx, .int .i64 ty] 55)) fun e w' => (∃ (q' : Option Addr) (d' : Nat) (L' : List Trp) (gp : Option Addr) (gc : Nat) (I : List Int), e = .returned (.tuple #[.agg #[.int .i64 A, .int .i64 B, .slice p n c, .slice pb nb cb, .slice ps ns cs, .slice pm nm cm, .slice q' nt d', .int .i64 N, .int .i64 T], .slice gp I.length gc]) ∧ minet V.heap.size w' (.slice q' nt d') L' ∧ Mst A B l (gol [⟨id, tx, ty⟩]) L nt L' I) ∧ Below V.heap.size V w') := by
    intro q d L k V hb ht hz hf
    have hbV : Below V.heap.size V (V.alloc (.cells #[.int .i64 id, .int .i64 tx, .int .i64 ty] 55)) := alloc_below _ _
    obtain ⟨hx, ho⟩ := HFD.out k L hf
    refine (Marched_raw ⟨A, B, p, n, c, l, pb, nb, cb, lb, ps, ns, cs, ls, pm, nm, cm, lm, q, nt, d, L, N, T⟩ W H (some ⟨V.heap.size, 0, none⟩) 1 1 [⟨id, tx, ty⟩] _ (Wld.fit_below (HFW.out V q d L hb ht hz hx) hbV) ⟨ho.a, ho.b, ho.f, ho.nb, ho.nt, ho.c, ho.pl, ho.mn, ho.tr⟩ (gor_one V id tx ty) (fun t ht => by simp at ht; subst ht; exact ⟨fi, fx, fy⟩) rfl (by decide)).mono ?_
    rintro e w' ⟨⟨q', d', L', gp, gc, I, rfl, _, h2, h3⟩, hb2⟩
    exact ⟨⟨q', d', L', gp, gc, I, rfl, own_mono h2 hbV.size, h3⟩, below_call hbV hbV.size hb2⟩
  have HWB : Hid (Below wb.heap.size wb w) := hwb
  have HRT : Hid (trow wb pt lt ∧ (pt = none → ct = 0) ∧ nt ≤ ct ∧ lt.length = nt) := ⟨h.rt, h.zt, h.kt, h.ht⟩
  clear h hk hm hwb
  obtain ⟨F, hF⟩ : ∃ F, w.heap.size = F := ⟨_, rfl⟩
  obtain ⟨w0, hw0⟩ : ∃ w0, ((w.alloc (.cells #[.int .i64 A, .int .i64 B, .slice p n c, .slice pb nb cb, .slice ps ns cs, .slice pm nm cm, .slice pt nt ct, .int .i64 N, .int .i64 T] 28)).alloc (.cells #[.int .i64 tx, .int .i64 ty] 31)).alloc (.cells #[.int .i64 0, .int .i64 0, .slice none 0 0, .slice none 0 0, .slice none 0 0, .slice none 0 0, .slice none 0 0, .int .i64 0, .int .i64 0] 28) = w0 := ⟨_, rfl⟩
  have HBX : Hid (∀ V, Below w0.heap.size w0 V → bx9 V F (.int .i64 A) (.int .i64 B) (.slice p n c) (.slice pb nb cb) (.slice ps ns cs) (.slice pm nm cm) (.slice pt nt ct) (.int .i64 N) (.int .i64 T) ∧ (V.cell? ⟨F + 1, 0, none⟩ = some (.int .i64 tx) ∧ V.cell? ⟨F + 1, 1, none⟩ = some (.int .i64 ty)) ∧ bx9 V (F + 2) (.int .i64 0) (.int .i64 0) (.slice none 0 0) (.slice none 0 0) (.slice none 0 0) (.slice none 0 0) (.slice none 0 0) (.int .i64 0) (.int .i64 0) ∧ Below w.heap.size w V) := fun V hV => rboxes hF hw0 hV
  obtain ⟨xa, xb, xc, hB0⟩ := HBX.out w0 (Below.refl _ _)
  have HB0 : Hid (Below w.heap.size w w0) := hB0
  have HF : Hid (w.heap.size = F) := hF
  have HX0 : Hid ((w0.cell? ⟨F + 1, 0, none⟩ = some (.int .i64 tx) ∧ w0.cell? ⟨F + 1, 1, none⟩ = some (.int .i64 ty)) ∧ bx9 w0 (F + 2) (.int .i64 0) (.int .i64 0) (.slice none 0 0) (.slice none 0 0) (.slice none 0 0) (.slice none 0 0) (.slice none 0 0) (.int .i64 0) (.int .i64 0)) := ⟨xb, xc⟩
  have HF2 : Hid (F + 2 < w0.heap.size) := bx9_lt xc
  have HI0 : Hid (minv wb w w0 F (fun v V => bx9 V F (.int .i64 A) (.int .i64 B) (.slice p n c) (.slice pb nb cb) (.slice ps ns cs) (.slice pm nm cm) v (.int .i64 N) (.int .i64 T)) nt A B l (gol [⟨id, tx, ty⟩]) lt 0 pt ct lt w0) := by
    refine ⟨hB0, Ex.refl _ _, xa, fun V hV => ?_, HRT.out.2, .zero⟩
    have h1 : Below wb.heap.size wb w0 := below_call HWB.out HWB.out.size hB0
    exact trow_below HRT.out.1 (h1.trans (hV.below (B := wb.heap.size) h1.size (fun k hk e => by omega)))
  have HV : Hid (∀ V, Ex (fun g => g = F) w0 V → (V.cell? ⟨F + 1, 0, none⟩ = some (.int .i64 tx) ∧ V.cell? ⟨F + 1, 1, none⟩ = some (.int .i64 ty)) ∧ bx9 V (F + 2) (.int .i64 0) (.int .i64 0) (.slice none 0 0) (.slice none 0 0) (.slice none 0 0) (.slice none 0 0) (.slice none 0 0) (.int .i64 0) (.int .i64 0)) := fun V hV => by
    have h2 := HF2.out
    exact ⟨⟨(hV.cell (p := ⟨F + 1, 0, none⟩) (by show F + 1 < _; omega) (by show ¬ F + 1 = F; omega)).trans HX0.out.1.1, (hV.cell (p := ⟨F + 1, 1, none⟩) (by show F + 1 < _; omega) (by show ¬ F + 1 = F; omega)).trans HX0.out.1.2⟩, bx9_ex HX0.out.2 hV (by omega)⟩
  clear xa xb xc hB0
  go_enter Try.func15, Try.ntmps15
  go_wp2_with fail
  clear hw0 hF
  go_loopw [14] (fun a wr => ∃ k : Nat, a = .int .i64 (k : Int) ∧ k ≤ m ∧ Hid (∃ q d L, minv wb w w0 F (fun v V => bx9 V F (.int .i64 A) (.int .i64 B) (.slice p n c) (.slice pb nb cb) (.slice ps ns cs) (.slice pm nm cm) v (.int .i64 N) (.int .i64 T)) nt A B l (gol [⟨id, tx, ty⟩]) lt k q d L wr)) (fun a _ => m - (intOf a).toNat)
  case atStart => exact ⟨0, rfl, by omega, _, _, _, HI0.out⟩
  case round =>
    obtain ⟨k, rfl, hk, q, d, L, hS⟩ := hrel
    clear HI0
    have HS : Hid (minv wb w w0 F (fun v V => bx9 V F (.int .i64 A) (.int .i64 B) (.slice p n c) (.slice pb nb cb) (.slice ps ns cs) (.slice pm nm cm) v (.int .i64 N) (.int .i64 T)) nt A B l (gol [⟨id, tx, ty⟩]) lt k q d L wr) := hS
    clear hS
    have hbF : bx9 wr F (.int .i64 A) (.int .i64 B) (.slice p n c) (.slice pb nb cb) (.slice ps ns cs) (.slice pm nm cm) (.slice q nt d) (.int .i64 N) (.int .i64 T) := HS.out.b
    obtain ⟨⟨y0, y1⟩, hrw⟩ := HV.out wr HS.out.y
    obtain ⟨z0, z1, z2, z3, z4, z5, z6, z7, z8⟩ := bx9_c9 hbF
    by_cases hlt : k < m
    · have l1 : (k : Int) < m := by omega
      have hm200 : m ≤ 200 := HM200.out
      have HSTr : Hid (Calls Try.prog 12 #[.agg #[.int .i64 A, .int .i64 B, .slice p n c, .slice pb nb cb, .slice ps ns cs, .slice pm nm cm, .slice q nt d, .int .i64 N, .int .i64 T], .slice (some ⟨wr.heap.size, 0, none⟩) 1 1] (wr.alloc (.cells #[.int .i64 id, .int .i64 tx, .int .i64 ty] 55)) _) := HST.out q d L k wr (below_call HWB.out HWB.out.size HS.out.x) (HS.out.t wr (Ex.refl _ _)) HS.out.z HS.out.m
      clear hbF hrw
      go_wp2_with fail
      refine Calls.mono HSTr.out ?_
      rintro e w6 ⟨⟨q2, d2, L2, gp, gc, I, rfl, hmt, hms⟩, hb6⟩
      obtain ⟨K, hK⟩ : ∃ K, w6.heap.size = K := ⟨_, rfl⟩
      obtain ⟨w7, hw7⟩ : ∃ w7, w6.alloc (.cells #[.int .i64 A, .int .i64 B, .slice p n c, .slice pb nb cb, .slice ps ns cs, .slice pm nm cm, .slice q2 nt d2, .int .i64 N, .int .i64 T] 28) = w7 := ⟨_, rfl⟩
      have hb67 : Below w6.heap.size w6 w7 := by rw [← hw7]; exact alloc_below _ _
      have hb7 : Below wr.heap.size wr w7 := below_call hb6 hb6.size hb67
      have hX7 : bx9 w7 K (.int .i64 A) (.int .i64 B) (.slice p n c) (.slice pb nb cb) (.slice ps ns cs) (.slice pm nm cm) (.slice q2 nt d2) (.int .i64 N) (.int .i64 T) := by rw [← hw7, ← hK]; exact box9_new _ _ _ _ _ _ _ _ _ _
      have y7 : Ex (fun g => g = F) w0 w7 := ex_call HS.out.y hb7
      have x7 : Below w.heap.size w w7 := below_call HS.out.x HS.out.x.size hb7
      obtain ⟨-, hr7⟩ := HV.out w7 y7
      have HRW : Hid (bx9 w7 (F + 2) (.int .i64 0) (.int .i64 0) (.slice none 0 0) (.slice none 0 0) (.slice none 0 0) (.slice none 0 0) (.slice none 0 0) (.int .i64 0) (.int .i64 0)) := hr7
      have HBW : Hid (Below w.heap.size w w7) := x7
      have HY7 : Hid (Ex (fun g => g = F) w0 w7) := y7
      have HBF7 : Hid (bx9 w7 F (.int .i64 A) (.int .i64 B) (.slice p n c) (.slice pb nb cb) (.slice ps ns cs) (.slice pm nm cm) (.slice q nt d) (.int .i64 N) (.int .i64 T)) := bx9_below HS.out.b hb7
      have hwr : F + 2 < wr.heap.size := Nat.lt_of_lt_of_le HF2.out HS.out.y.size
      have HFK : Hid (F + 2 < K) := by unfold Hid; rw [← hK]; exact Nat.lt_of_lt_of_le hwr hb6.size
      have HMT : Hid (minet wr.heap.size w7 (.slice q2 nt d2) L2 ∧ F + 2 < wr.heap.size) := ⟨minet_kept hmt hb67, hwr⟩
      have HMS : Hid (Mst A B l (gol [⟨id, tx, ty⟩]) L nt L2 I) := hms
      have HX7 : Hid (bx9 w7 K (.int .i64 A) (.int .i64 B) (.slice p n c) (.slice pb nb cb) (.slice ps ns cs) (.slice pm nm cm) (.slice q2 nt d2) (.int .i64 N) (.int .i64 T)) := hX7
      have HFT : Hid (∀ V, Ex (fun g => wb.heap.size ≤ g ∧ g ≤ F + 2) w7 V → (⟨A, B, p, n, c, l, pb, nb, cb, lb, ps, ns, cs, ls, pm, nm, cm, lm, q, nt, d, L, N, T⟩ : Wld).fit V) := fun V hV =>
        HFW.out V q d L (by have h1 : Below wb.heap.size wb w7 := below_call HWB.out HWB.out.size x7; exact h1.trans (hV.below h1.size (fun k hk e => by omega))) (HS.out.t V (((Ex.of_below (S := fun g => wb.heap.size ≤ g ∧ g ≤ F + 2) hb7).trans hV (fun _ _ e => e)))) HS.out.z (HFD.out k L HS.out.m).1
      clear y0 y1 z0 z1 z2 z3 z4 z5 z6 z7 z8 HSTr hmt hms hb6 hb67 hb7 hX7 y7 x7 hr7 hwr
      obtain ⟨z0, z1, z2, z3, z4, z5, z6, z7, z8⟩ := bx9_c9 HRW.out
      have fr0 := bx9_free HRW.out 0
      have fr1 := bx9_free HRW.out 1
      have fr2 := bx9_free HRW.out 2
      have fr3 := bx9_free HRW.out 3
      have fr4 := bx9_free HRW.out 4
      have fr5 := bx9_free HRW.out 5
      have fr6 := bx9_free HRW.out 6
      have fr7 := bx9_free HRW.out 7
      have fr8 := bx9_free HRW.out 8
      obtain ⟨y0, y1, y2, y3, y4, y5, y6, y7, y8⟩ := bx9_c9 HBF7.out
      have fz0 := bx9_free HBF7.out 0
      have fz1 := bx9_free HBF7.out 1
      have fz2 := bx9_free HBF7.out 2
      have fz3 := bx9_free HBF7.out 3
      have fz4 := bx9_free HBF7.out 4
      have fz5 := bx9_free HBF7.out 5
      have fz6 := bx9_free HBF7.out 6
      have fz7 := bx9_free HBF7.out 7
      have fz8 := bx9_free HBF7.out 8
      obtain ⟨v0, v1, v2, v3, v4, v5, v6, v7, v8⟩ := bx9_c9 HX7.out
      have hne1 : ¬ F = F + 2 := by omega
      have hne2 : ¬ F + 2 = F := by omega
      have hne3 : ¬ K = F := by have := HFK.out; omega
      have hne4 : ¬ F = K := by have := HFK.out; omega
      by_cases hI : I = []
      · subst hI
        have HRC : Hid (Rch A B l (gol [⟨id, tx, ty⟩]) nt lt m L k) := by
          obtain ⟨e, he⟩ : ∃ e, m = k + (e + 1) := ⟨m - k - 1, by omega⟩
          have := fwd_rch HS.out.m (Rch.stuck (n := e) HMS.out)
          rw [Nat.add_zero] at this
          rw [he]; exact this
        simp only [List.length_nil]
        go_wp2_with fail
        obtain ⟨V, hV⟩ : ∃ V, ((((((((w7.setCell ⟨F + 2, 0, none⟩ (.int .i64 A)).setCell ⟨F + 2, 1, none⟩ (.int .i64 B)).setCell ⟨F + 2, 2, none⟩ (.slice p n c)).setCell ⟨F + 2, 3, none⟩ (.slice pb nb cb)).setCell ⟨F + 2, 4, none⟩ (.slice ps ns cs)).setCell ⟨F + 2, 5, none⟩ (.slice pm nm cm)).setCell ⟨F + 2, 6, none⟩ (.slice q nt d)).setCell ⟨F + 2, 7, none⟩ (.int .i64 N)).setCell ⟨F + 2, 8, none⟩ (.int .i64 T) = V := ⟨_, rfl⟩
        first | rw [hV] | skip
        obtain ⟨k2, kx⟩ := set9 HRW.out hV.symm
        obtain ⟨t0, t1, t2, t3, t4, t5, t6, t7, t8⟩ := bx9_c9 k2
        have hwV : Below w.heap.size w V := HBW.out.trans (kx.below (B := w.heap.size) HBW.out.size (fun j hj hh => by have := HF.out; omega))
        refine ⟨by simp, .tuple #[.agg #[.int .i64 A, .int .i64 B, .slice p n c, .slice pb nb cb, .slice ps ns cs, .slice pm nm cm, .slice q nt d, .int .i64 N, .int .i64 T], .int .i64 k], ?_, ⟨⟨A, B, p, n, c, l, pb, nb, cb, lb, ps, ns, cs, ls, pm, nm, cm, lm, q, nt, d, L, N, T⟩, k, rfl, fun V' hV' => HFT.out V' ((kx.mono (S' := fun g => wb.heap.size ≤ g ∧ g ≤ F + 2) (fun i _ e => by have h1 := HF.out; have h2 := HWB.out.size; omega)).trans hV' (fun i _ e => by have h1 := HF.out; omega)), ⟨rfl, rfl, rfl, rfl, rfl, rfl, rfl, rfl, rfl, rfl, rfl, rfl⟩, rfl, _, k, rfl, rfl, HM200.out, HRC.out⟩, ?_⟩
        · simp [results, Try.results15, go_sem, t0, t1, t2, t3, t4, t5, t6, t7, t8]
        · first | exact hwV | (rw [← HF.out]; exact hwV)
      · have hIl : 0 < I.length := List.length_pos_iff.2 hI
        obtain ⟨ni, hni⟩ : ∃ ni, I.length = ni := ⟨_, rfl⟩
        rw [hni] at hIl ⊢
        have d3 : ((ni : Int) == 0) = false := by simp; omega
        have HI : Hid (I ≠ []) := hI
        have HSN : Hid (∀ V, V = ((((((((w7.setCell ⟨F, 0, none⟩ (.int .i64 A)).setCell ⟨F, 1, none⟩ (.int .i64 B)).setCell ⟨F, 2, none⟩ (.slice p n c)).setCell ⟨F, 3, none⟩ (.slice pb nb cb)).setCell ⟨F, 4, none⟩ (.slice ps ns cs)).setCell ⟨F, 5, none⟩ (.slice pm nm cm)).setCell ⟨F, 6, none⟩ (.slice q2 nt d2)).setCell ⟨F, 7, none⟩ (.int .i64 N)).setCell ⟨F, 8, none⟩ (.int .i64 T) → minv wb w w0 F (fun v V => bx9 V F (.int .i64 A) (.int .i64 B) (.slice p n c) (.slice pb nb cb) (.slice ps ns cs) (.slice pm nm cm) v (.int .i64 N) (.int .i64 T)) nt A B l (gol [⟨id, tx, ty⟩]) lt (k + 1) q2 d2 L2 V) := by
          intro V hV
          obtain ⟨k2, kx⟩ := set9 HBF7.out hV
          have hpt := own_parts HMT.out.1
          refine ⟨HBW.out.trans (kx.below (B := w.heap.size) HBW.out.size (fun j hj hh => by have := HF.out; omega)), HY7.out.trans kx (fun _ _ e => e), k2, fun V' hV' => ?_, ⟨hpt.2.2.1, hpt.2.1, hpt.1⟩, HS.out.m.more HMS.out HI.out⟩
          have hx : Ex (fun g => wb.heap.size ≤ g ∧ g ≤ F + 2) w7 V' := (kx.mono (S' := fun g => wb.heap.size ≤ g ∧ g ≤ F + 2) (fun i _ e => by have h1 := HF.out; have h2 := HWB.out.size; omega)).trans hV' (fun _ _ e => e)
          exact own_trow (own_kept HMT.out.1 hx (fun g hg e => by have := HMT.out.2; omega))
        clear hI hni
        go_wp2_with fail
        obtain ⟨V, hV⟩ : ∃ V, ((((((((w7.setCell ⟨F, 0, none⟩ (.int .i64 A)).setCell ⟨F, 1, none⟩ (.int .i64 B)).setCell ⟨F, 2, none⟩ (.slice p n c)).setCell ⟨F, 3, none⟩ (.slice pb nb cb)).setCell ⟨F, 4, none⟩ (.slice ps ns cs)).setCell ⟨F, 5, none⟩ (.slice pm nm cm)).setCell ⟨F, 6, none⟩ (.slice q2 nt d2)).setCell ⟨F, 7, none⟩ (.int .i64 N)).setCell ⟨F, 8, none⟩ (.int .i64 T) = V := ⟨_, rfl⟩
        first | rw [hV] | skip
        have HS9 := HSN.out V hV.symm
        clear hV
        go_roundw
        case rel => exact ⟨k + 1, by go_num, by omega, _, _, _, HS9⟩
        case measure => simp [intOf]; omega
    · have hkm : k = m := by omega
      subst hkm
      have HRW : Hid (bx9 wr (F + 2) (.int .i64 0) (.int .i64 0) (.slice none 0 0) (.slice none 0 0) (.slice none 0 0) (.slice none 0 0) (.slice none 0 0) (.int .i64 0) (.int .i64 0)) := hrw
      have HBW : Hid (Below w.heap.size w wr) := HS.out.x
      have HFT : Hid (∀ V, Ex (fun g => wb.heap.size ≤ g ∧ g ≤ F + 2) wr V → (⟨A, B, p, n, c, l, pb, nb, cb, lb, ps, ns, cs, ls, pm, nm, cm, lm, q, nt, d, L, N, T⟩ : Wld).fit V) := fun V hV =>
        HFW.out V q d L (by have h1 : Below wb.heap.size wb wr := below_call HWB.out HWB.out.size HS.out.x; exact h1.trans (hV.below h1.size (fun k hk e => by omega))) (HS.out.t V hV) HS.out.z (HFD.out k L HS.out.m).1
      have HRC : Hid (Rch A B l (gol [⟨id, tx, ty⟩]) nt lt k L k) := by
        have := fwd_rch HS.out.m .none
        rw [Nat.add_zero] at this
        exact this
      obtain ⟨v0, v1, v2, v3, v4, v5, v6, v7, v8⟩ := bx9_c9 HRW.out
      have fr0 := bx9_free HRW.out 0
      have fr1 := bx9_free HRW.out 1
      have fr2 := bx9_free HRW.out 2
      have fr3 := bx9_free HRW.out 3
      have fr4 := bx9_free HRW.out 4
      have fr5 := bx9_free HRW.out 5
      have fr6 := bx9_free HRW.out 6
      have fr7 := bx9_free HRW.out 7
      have fr8 := bx9_free HRW.out 8
      have hne1 : ¬ F = F + 2 := by omega
      have hne2 : ¬ F + 2 = F := by omega
      clear hrw hbF
      go_wp2_with fail
      obtain ⟨V, hV⟩ : ∃ V, ((((((((wr.setCell ⟨F + 2, 0, none⟩ (.int .i64 A)).setCell ⟨F + 2, 1, none⟩ (.int .i64 B)).setCell ⟨F + 2, 2, none⟩ (.slice p n c)).setCell ⟨F + 2, 3, none⟩ (.slice pb nb cb)).setCell ⟨F + 2, 4, none⟩ (.slice ps ns cs)).setCell ⟨F + 2, 5, none⟩ (.slice pm nm cm)).setCell ⟨F + 2, 6, none⟩ (.slice q nt d)).setCell ⟨F + 2, 7, none⟩ (.int .i64 N)).setCell ⟨F + 2, 8, none⟩ (.int .i64 T) = V := ⟨_, rfl⟩
      first | rw [hV] | skip
      obtain ⟨k2, kx⟩ := set9 HRW.out hV.symm
      obtain ⟨t0, t1, t2, t3, t4, t5, t6, t7, t8⟩ := bx9_c9 k2
      have hwV : Below w.heap.size w V := HBW.out.trans (kx.below (B := w.heap.size) HBW.out.size (fun j hj hh => by have := HF.out; omega))
      refine ⟨by simp, .tuple #[.agg #[.int .i64 A, .int .i64 B, .slice p n c, .slice pb nb cb, .slice ps ns cs, .slice pm nm cm, .slice q nt d, .int .i64 N, .int .i64 T], .int .i64 k], ?_, ⟨⟨A, B, p, n, c, l, pb, nb, cb, lb, ps, ns, cs, ls, pm, nm, cm, lm, q, nt, d, L, N, T⟩, k, rfl, fun V' hV' => HFT.out V' ((kx.mono (S' := fun g => wb.heap.size ≤ g ∧ g ≤ F + 2) (fun i _ e => by have h1 := HF.out; have h2 := HWB.out.size; omega)).trans hV' (fun i _ e => by have h1 := HF.out; omega)), ⟨rfl, rfl, rfl, rfl, rfl, rfl, rfl, rfl, rfl, rfl, rfl, rfl⟩, rfl, _, k, rfl, rfl, HM200.out, HRC.out⟩, ?_⟩
      · simp [results, Try.results15, go_sem, t0, t1, t2, t3, t4, t5, t6, t7, t8]
      · first | exact hwV | (rw [← HF.out]; exact hwV)
end Go.Proofs.Ytnbbfnlfcncgnaa
