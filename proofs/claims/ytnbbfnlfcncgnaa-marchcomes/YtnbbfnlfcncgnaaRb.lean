/- march.Reach: what is told of a right world, and whatever is handed in. -/
import Derived.Test.YtnbbfnlfcncgnaaRa
namespace Go.Proofs.Ytnbbfnlfcncgnaa
open Go.RowKit
set_option linter.unusedVariables false

theorem wown_box {B J : Nat} {V V' : World} {s : Wld} {a b c d e f g h i : Value} (hw : wown B V s) (hx : bx9 V J a b c d e f g h i) (he : Ex (fun k => k = J) V V') : wown B V' s :=
  ⟨own_stays hw.kp he (fun g hg => own_not hw.kp hx (by decide) g hg), alli_ex hw.jp he (fun g hg => own_not hw.kp hx (by decide) g hg), own_stays hw.kb he (fun g hg => own_not hw.kb hx (by decide) g hg), alli_ex hw.jb he (fun g hg => own_not hw.kb hx (by decide) g hg),
    own_stays hw.ks he (fun g hg => own_not hw.ks hx (by decide) g hg), alli_ex hw.js he (fun g hg => own_not hw.ks hx (by decide) g hg), own_stays hw.km he (fun g hg => own_not hw.km hx (by decide) g hg), alli_ex hw.jm he (fun g hg => own_not hw.km hx (by decide) g hg), own_stays hw.kt he (fun g hg => own_not hw.kt hx (by decide) g hg), alli_ex hw.jt he (fun g hg => own_not hw.kt hx (by decide) g hg)⟩
theorem wown_below {B : Nat} {V V' : World} {s : Wld} (hw : wown B V s) (hb : Below V.heap.size V V') : wown B V' s := by
  have he := Ex.of_below (S := fun _ => False) hb
  exact ⟨own_stays hw.kp he (fun _ _ e => e), alli_below hw.jp hb, own_stays hw.kb he (fun _ _ e => e), alli_below hw.jb hb, own_stays hw.ks he (fun _ _ e => e), alli_below hw.js hb, own_stays hw.km he (fun _ _ e => e), alli_below hw.jm hb, own_stays hw.kt he (fun _ _ e => e), alli_below hw.jt hb⟩
theorem wown_mono {B B' : Nat} {V : World} {s : Wld} (hw : wown B V s) (hB : B' ≤ B) : wown B' V s :=
  ⟨own_mono hw.kp hB, hw.jp, own_mono hw.kb hB, hw.jb, own_mono hw.ks hB, hw.js, own_mono hw.km hB, hw.jm, own_mono hw.kt hB, hw.jt⟩
theorem fit_own {B : Nat} {V w : World} {s : Wld} (h : s.fit w) (hw : wown B V s) : s.fit V := fit_of_own hw h.fA h.fB h.fN h.fT h.x h.xb h.xs h.xm h.xt
theorem likew_trans {s t u : Wld} (h : likew s t) (h' : likew t u) : likew s u := by
  obtain ⟨a1, a2, a3, a4, a5, a6, a7, a8, a9, a10, a11, a12⟩ := h
  obtain ⟨b1, b2, b3, b4, b5, b6, b7, b8, b9, b10, b11, b12⟩ := h'
  exact ⟨b1.trans a1, b2.trans a2, b3.trans a3, b4.trans a4, b5.trans a5, b6.trans a6, b7.trans a7, b8.trans a8, b9.trans a9, b10.trans a10, b11.trans a11, b12.trans a12⟩
/-- The loop's state: k goes have moved, the world is sc. -/
structure rinv (w w3 : World) (J W H : Nat) (s : Wld) (fg : Int → Option Cel) (k : Nat) (sc : Wld) (wr : World) : Prop where
  x : Ex (fun g => g = J) w3 wr
  b : bx9 wr J (.int .i64 sc.A) (.int .i64 sc.B) (.slice sc.p sc.n sc.c) (.slice sc.pb sc.nb sc.cb) (.slice sc.ps sc.ns sc.cs) (.slice sc.pm sc.nm sc.cm) (.slice sc.pt sc.nt sc.ct) (.int .i64 sc.N) (.int .i64 sc.T)
  o : wown w.heap.size wr sc
  f : sc.fit wr
  r : okw sc W H
  l : likew s sc ∧ sc.nt = s.nt
  m : Fwd s.A s.B s.l fg s.nt s.lt k sc.lt
set_option maxRecDepth 20000 in
set_option maxHeartbeats 8000000 in
theorem Reach_ok (s : Wld) (W H m : Nat) (id tx ty : Int) (w : World) (h : s.fit w) (hk : okw s W H) (hm : m ≤ 200) (hid : ∃ t ∈ s.lt, t.i = id) (fi : fits id) (fx : fits tx) (fy : fits ty) :
    Calls Try.prog 10 #[s.val, .int .i64 id, .agg #[.int .i64 tx, .int .i64 ty], .int .i64 (m : Int)] w fun e w' => (∃ (s' : Wld) (k : Int), e = .returned (.tuple #[s'.val, .int .i64 k, .int .i64 0]) ∧ wown w.heap.size w' s' ∧ likew s s' ∧ s'.nt = s.nt ∧ ∃ m' kk : Nat, (m : Int) = m' ∧ k = kk ∧ m' ≤ 200 ∧ Rch s.A s.B s.l (gol [⟨id, tx, ty⟩]) s.nt s.lt m' s'.lt kk) ∧ Below w.heap.size w w' := by
  have HC : Hid (∀ V, Below w.heap.size w V → Calls Try.prog 41 #[s.val, .int .i64 id] V fun e w' => (∃ r, e = .returned (.tuple #[.int .i64 r, .bool true, .int .i64 0])) ∧ Below V.heap.size V w') := fun V hV => by
    refine (Find_any s id 0 V (Wld.fit_below h hV) (wre_of hk)).mono ?_
    rintro e w' ⟨⟨r, b, rfl, hf⟩, hb⟩
    rcases hf.out with h2 | ⟨_, ⟨h2, _, h3⟩ | ⟨h2, _⟩⟩
    · exact absurd rfl h2.1
    · obtain ⟨t, ht, e⟩ := hid
      exact absurd e (h3 t ht)
    · subst h2; exact ⟨⟨r, rfl⟩, hb⟩
  have hsz : s.n ≤ 1600 ∧ s.ns ≤ 8 ∧ s.nm ≤ 1600 := by
    have h1 := h.h; have h2 := hk.f.2.2.1; have h3 := wh_le hk.f.1 hk.f.2.1; have h4 := hk.pl.1; have h5 := h.hs; have h6 := h.hb; have h7 := hk.nb; have h8 := hk.mn.1; have h9 := h.hm
    omega
  have hnb : s.nb ≤ 8 := hk.nb
  have hnt : s.nt ≤ 100 := hk.nt
  have HCP : Hid (∀ V, Below w.heap.size w V → Calls Try.prog 37 #[s.val] V fun e w' => (∃ s' : Wld, e = .returned s'.val ∧ wown V.heap.size w' s' ∧ alike s s') ∧ Below V.heap.size V w') := fun V hV => Copy_any s V (Wld.fit_below h hV) (by omega) (by omega) (by omega) (by omega) (by omega)
  have HST : Hid (∀ (sc : Wld) (V : World), sc.fit V → okw sc W H → Calls Try.prog 9 #[sc.val, .slice (some ⟨V.heap.size, 0, none⟩) 1 1] (V.alloc (.cells #[.int .i64 id, .int .i64 tx, .int .i64 ty] 55)) fun e w' => (∃ (s' : Wld) (gp : Option Addr) (gc : Nat) (I : List Int), e = .returned (.tuple #[s'.val, .slice gp I.length gc, .int .i64 0]) ∧ row vi w' gp I ∧ wown V.heap.size w' s' ∧ s'.fit w' ∧ okw s' W H ∧ likew sc s' ∧ s'.nt = sc.nt ∧ Mst sc.A sc.B sc.l (gol [⟨id, tx, ty⟩]) sc.lt sc.nt s'.lt I) ∧ Below V.heap.size V w') := by
    intro sc V hf ho
    have hb : Below V.heap.size V (V.alloc (.cells #[.int .i64 id, .int .i64 tx, .int .i64 ty] 55)) := alloc_below _ _
    refine (Step_ok sc W H (some ⟨V.heap.size, 0, none⟩) 1 1 [⟨id, tx, ty⟩] _ (Wld.fit_below hf hb) ho (gor_one V id tx ty) (fun t ht => by simp at ht; subst ht; exact ⟨fi, fx, fy⟩) rfl (by decide)).mono ?_
    rintro e w' ⟨⟨s', gp, gc, I, rfl, h1, h2, h3, h4, h5⟩, hb2⟩
    exact ⟨⟨s', gp, gc, I, rfl, h1, wown_mono h2 hb.size, step_fit hf h2 (.inr ⟨rfl, h3, h4, h5⟩), step_right ho h3 h4 h5, h3, h4, h5⟩, below_call hb hb.size hb2⟩
  have HFIT : Hid (s.fit w ∧ okw s W H) := ⟨h, hk⟩
  have HM200 : Hid (m ≤ 200) := hm
  clear h hk hid hsz hnb hm
  obtain ⟨A, B, p, n, c, l, pb, nb, cb, lb, ps, ns, cs, ls, pm, nm, cm, lm, pt, nt, ct, lt, N, T⟩ := s
  unfold Wld.val at *
  dsimp only at *
  obtain ⟨s, hs⟩ : ∃ s : Wld, s = ⟨A, B, p, n, c, l, pb, nb, cb, lb, ps, ns, cs, ls, pm, nm, cm, lm, pt, nt, ct, lt, N, T⟩ := ⟨_, rfl⟩
  have HSE : Hid (s = ⟨A, B, p, n, c, l, pb, nb, cb, lb, ps, ns, cs, ls, pm, nm, cm, lm, pt, nt, ct, lt, N, T⟩) := hs
  clear hs
  obtain ⟨F, hF⟩ : ∃ F, w.heap.size = F := ⟨_, rfl⟩
  obtain ⟨w0, hw0⟩ : ∃ w0, ((w.alloc (.cells #[.int .i64 A, .int .i64 B, .slice p n c, .slice pb nb cb, .slice ps ns cs, .slice pm nm cm, .slice pt nt ct, .int .i64 N, .int .i64 T] 28)).alloc (.cells #[.int .i64 tx, .int .i64 ty] 31)).alloc (.cells #[.int .i64 0, .int .i64 0, .slice none 0 0, .slice none 0 0, .slice none 0 0, .slice none 0 0, .slice none 0 0, .int .i64 0, .int .i64 0] 28) = w0 := ⟨_, rfl⟩
  have HBX : Hid (∀ V, Below w0.heap.size w0 V → bx9 V F (.int .i64 A) (.int .i64 B) (.slice p n c) (.slice pb nb cb) (.slice ps ns cs) (.slice pm nm cm) (.slice pt nt ct) (.int .i64 N) (.int .i64 T) ∧ (V.cell? ⟨F + 1, 0, none⟩ = some (.int .i64 tx) ∧ V.cell? ⟨F + 1, 1, none⟩ = some (.int .i64 ty)) ∧ bx9 V (F + 2) (.int .i64 0) (.int .i64 0) (.slice none 0 0) (.slice none 0 0) (.slice none 0 0) (.slice none 0 0) (.slice none 0 0) (.int .i64 0) (.int .i64 0) ∧ Below w.heap.size w V) := fun V hV => rboxes hF hw0 hV
  obtain ⟨xa, -, -, hB0⟩ := HBX.out w0 (Below.refl _ _)
  have HB0 : Hid (Below w.heap.size w w0) := hB0
  have HF : Hid (w.heap.size = F) := hF
  obtain ⟨z0, z1, z2, z3, z4, z5, z6, z7, z8⟩ := bx9_c9 xa
  clear xa hB0
  go_enter Try.func10, Try.ntmps10
  go_wp2_with fail
  refine (HC.out w0 HB0.out).mono ?_
  rintro e w1 ⟨⟨r, rfl⟩, hb1⟩
  have HB1 : Hid (Below w0.heap.size w0 w1) := hb1
  obtain ⟨xa, -, xc, hBw1⟩ := HBX.out w1 hb1
  have HBw1 : Hid (Below w.heap.size w w1) := hBw1
  have HF2 : Hid (F + 2 < w1.heap.size) := bx9_lt xc
  clear z0 z1 z2 z3 z4 z5 z6 z7 z8 hb1 hw0 hF HC xc hBw1
  obtain ⟨z0, z1, z2, z3, z4, z5, z6, z7, z8⟩ := bx9_c9 xa
  have d1 : decide ((m : Int) < 0) = false := by simp
  have d2 : decide ((200 : Int) < (m : Int)) = false := by have := HM200.out; simp; omega
  clear xa
  go_wp2_with fail
  refine (HCP.out w1 HBw1.out).mono ?_
  rintro e w2 ⟨⟨s', rfl, ho, hal⟩, hb2⟩
  obtain ⟨A', B', p', n', c', l', pb', nb', cb', lb', ps', ns', cs', ls', pm', nm', cm', lm', pt', nt', ct', lt', N', T'⟩ := s'
  have HB2 : Hid (Below w1.heap.size w1 w2) := hb2
  obtain ⟨J, hJ⟩ : ∃ J, w2.heap.size = J := ⟨_, rfl⟩
  obtain ⟨w3, hw3⟩ : ∃ w3, w2.alloc (.cells #[.int .i64 A', .int .i64 B', .slice p' n' c', .slice pb' nb' cb', .slice ps' ns' cs', .slice pm' nm' cm', .slice pt' nt' ct', .int .i64 N', .int .i64 T'] 28) = w3 := ⟨_, rfl⟩
  have hb23 : Below w2.heap.size w2 w3 := by rw [← hw3]; exact alloc_below _ _
  have hX3 : bx9 w3 J (.int .i64 A') (.int .i64 B') (.slice p' n' c') (.slice pb' nb' cb') (.slice ps' ns' cs') (.slice pm' nm' cm') (.slice pt' nt' ct') (.int .i64 N') (.int .i64 T') := by rw [← hw3, ← hJ]; exact box9_new _ _ _ _ _ _ _ _ _ _
  have s3 : w3.heap.size = J + 1 := by rw [← hw3, World.size_alloc, hJ]
  have hb13 : Below w1.heap.size w1 w3 := below_call hb2 hb2.size hb23
  have hb03 : Below w0.heap.size w0 w3 := below_call HB1.out HB1.out.size hb13
  have HJ : Hid (w1.heap.size ≤ J ∧ w3.heap.size = J + 1 ∧ w.heap.size ≤ J ∧ F + 2 < J) := ⟨by rw [← hJ]; exact hb2.size, s3, by rw [← hJ]; exact Nat.le_trans HBw1.out.size hb2.size, by rw [← hJ]; exact Nat.lt_of_lt_of_le HF2.out hb2.size⟩
  have HV : Hid (∀ V, Ex (fun g => g = J) w3 V → (V.cell? ⟨F + 1, 0, none⟩ = some (.int .i64 tx) ∧ V.cell? ⟨F + 1, 1, none⟩ = some (.int .i64 ty)) ∧ bx9 V (F + 2) (.int .i64 0) (.int .i64 0) (.slice none 0 0) (.slice none 0 0) (.slice none 0 0) (.slice none 0 0) (.slice none 0 0) (.int .i64 0) (.int .i64 0) ∧ Below w.heap.size w V) := fun V hV => by
    have hJ := HJ.out
    obtain ⟨_, h2, h3, h4⟩ := HBX.out w3 hb03
    refine ⟨⟨(hV.cell (p := ⟨F + 1, 0, none⟩) (by rw [hJ.2.1]; show F + 1 < J + 1; omega) (by show ¬ F + 1 = J; omega)).trans h2.1, (hV.cell (p := ⟨F + 1, 1, none⟩) (by rw [hJ.2.1]; show F + 1 < J + 1; omega) (by show ¬ F + 1 = J; omega)).trans h2.2⟩, bx9_ex h3 hV (by omega), ?_⟩
    exact h4.trans (hV.below h4.size (fun k hk e => by omega))
  have HI0 : Hid (rinv w w3 J W H s (gol [⟨id, tx, ty⟩]) 0 ⟨A', B', p', n', c', l', pb', nb', cb', lb', ps', ns', cs', ls', pm', nm', cm', lm', pt', nt', ct', lt', N', T'⟩ w3) := by
    have hw3' := wown_mono (wown_below ho hb23) HBw1.out.size
    have hf : (⟨A, B, p, n, c, l, pb, nb, cb, lb, ps, ns, cs, ls, pm, nm, cm, lm, pt, nt, ct, lt, N, T⟩ : Wld).fit w := HFIT.out.1
    have hk : okw ⟨A, B, p, n, c, l, pb, nb, cb, lb, ps, ns, cs, ls, pm, nm, cm, lm, pt, nt, ct, lt, N, T⟩ W H := HFIT.out.2
    unfold alike at hal
    simp only at hal
    obtain ⟨rfl, rfl, rfl, rfl, rfl, rfl, rfl, rfl, rfl, rfl, rfl, rfl, rfl, rfl⟩ := hal
    rw [HSE.out]
    exact ⟨Ex.refl _ _, hX3, hw3', fit_of_own hw3' hf.fA hf.fB hf.fN hf.fT hf.x hf.xb hf.xs hf.xm hf.xt, ⟨hk.a, hk.b, hk.f, hk.nb, hk.nt, hk.c, hk.pl, hk.mn, hk.tr⟩, ⟨⟨rfl, rfl, rfl, rfl, rfl, rfl, rfl, rfl, rfl, rfl, rfl, rfl⟩, rfl⟩, .zero⟩
  have hf3 := bx9_free hX3
  have HSZ3 : Hid (J < w3.heap.size) := by unfold Hid; rw [s3]; omega
  clear z0 z1 z2 z3 z4 z5 z6 z7 z8 hb2 HCP ho hal hb23 s3 hb13 hb03 hX3 hf3
  go_wp2_with fail
  clear hw3 hJ
  go_loopw [43] (fun a wr => ∃ k : Nat, a = .int .i64 (k : Int) ∧ k ≤ m ∧ Hid (∃ sc, rinv w w3 J W H s (gol [⟨id, tx, ty⟩]) k sc wr)) (fun a _ => m - (intOf a).toNat)
  case atStart => exact ⟨0, rfl, by omega, _, HI0.out⟩
  case round =>
    obtain ⟨k, rfl, hk, sc, hS⟩ := hrel
    clear HI0
    obtain ⟨A', B', p', n', c', l', pb', nb', cb', lb', ps', ns', cs', ls', pm', nm', cm', lm', pt', nt', ct', lt', N', T'⟩ := sc
    have HS : Hid (rinv w w3 J W H s (gol [⟨id, tx, ty⟩]) k ⟨A', B', p', n', c', l', pb', nb', cb', lb', ps', ns', cs', ls', pm', nm', cm', lm', pt', nt', ct', lt', N', T'⟩ wr) := hS
    clear hS
    obtain ⟨⟨y0, y1⟩, -, -⟩ := HV.out wr HS.out.x
    have hbJ : bx9 wr J (.int .i64 A') (.int .i64 B') (.slice p' n' c') (.slice pb' nb' cb') (.slice ps' ns' cs') (.slice pm' nm' cm') (.slice pt' nt' ct') (.int .i64 N') (.int .i64 T') := HS.out.b
    obtain ⟨z0, z1, z2, z3, z4, z5, z6, z7, z8⟩ := bx9_c9 hbJ
    by_cases hlt : k < m
    · have l1 : (k : Int) < m := by omega
      have hm200 : m ≤ 200 := HM200.out
      have HSTr : Hid (Calls Try.prog 9 #[.agg #[.int .i64 A', .int .i64 B', .slice p' n' c', .slice pb' nb' cb', .slice ps' ns' cs', .slice pm' nm' cm', .slice pt' nt' ct', .int .i64 N', .int .i64 T'], .slice (some ⟨wr.heap.size, 0, none⟩) 1 1] (wr.alloc (.cells #[.int .i64 id, .int .i64 tx, .int .i64 ty] 55)) _) := HST.out ⟨A', B', p', n', c', l', pb', nb', cb', lb', ps', ns', cs', ls', pm', nm', cm', lm', pt', nt', ct', lt', N', T'⟩ wr HS.out.f HS.out.r
      clear hbJ
      go_wp2_with fail
      refine Calls.mono HSTr.out ?_
      rintro e w6 ⟨⟨s2, gp, gc, I, rfl, hrw, how, hfit2, hok2, hlk2, hnt2, hm2⟩, hb6⟩
      obtain ⟨A2, B2, p2, n2, c2, l2, pb2, nb2, cb2, lb2, ps2, ns2, cs2, ls2, pm2, nm2, cm2, lm2, pt2, nt2, ct2, lt2, N2, T2⟩ := s2
      dsimp only at hm2 hnt2
      obtain ⟨K, hK⟩ : ∃ K, w6.heap.size = K := ⟨_, rfl⟩
      obtain ⟨w7, hw7⟩ : ∃ w7, w6.alloc (.cells #[.int .i64 A2, .int .i64 B2, .slice p2 n2 c2, .slice pb2 nb2 cb2, .slice ps2 ns2 cs2, .slice pm2 nm2 cm2, .slice pt2 nt2 ct2, .int .i64 N2, .int .i64 T2] 28) = w7 := ⟨_, rfl⟩
      have hb67 : Below w6.heap.size w6 w7 := by rw [← hw7]; exact alloc_below _ _
      have hb7 : Below wr.heap.size wr w7 := below_call hb6 hb6.size hb67
      have hX7 : bx9 w7 K (.int .i64 A2) (.int .i64 B2) (.slice p2 n2 c2) (.slice pb2 nb2 cb2) (.slice ps2 ns2 cs2) (.slice pm2 nm2 cm2) (.slice pt2 nt2 ct2) (.int .i64 N2) (.int .i64 T2) := by rw [← hw7, ← hK]; exact box9_new _ _ _ _ _ _ _ _ _ _
      have x37 : Ex (fun g => g = J) w3 w7 := ex_call HS.out.x hb7
      have hbJ7 : bx9 w7 J (.int .i64 A') (.int .i64 B') (.slice p' n' c') (.slice pb' nb' cb') (.slice ps' ns' cs') (.slice pm' nm' cm') (.slice pt' nt' ct') (.int .i64 N') (.int .i64 T') := bx9_below HS.out.b hb7
      have HX37 : Hid (Ex (fun g => g = J) w3 w7) := x37
      have HJK : Hid (J < K ∧ F + 2 < K) := by have h1 := bx9_lt HS.out.b; have h2 := hb6.size; have h3 := HJ.out; unfold Hid; omega
      obtain ⟨-, hr7, hw7B⟩ := HV.out w7 x37
      have HRW : Hid (bx9 w7 (F + 2) (.int .i64 0) (.int .i64 0) (.slice none 0 0) (.slice none 0 0) (.slice none 0 0) (.slice none 0 0) (.slice none 0 0) (.int .i64 0) (.int .i64 0)) := hr7
      have HBW : Hid (Below w.heap.size w w7) := hw7B
      have HBJ7 : Hid (bx9 w7 J (.int .i64 A') (.int .i64 B') (.slice p' n' c') (.slice pb' nb' cb') (.slice ps' ns' cs') (.slice pm' nm' cm') (.slice pt' nt' ct') (.int .i64 N') (.int .i64 T')) := hbJ7
      clear y0 y1 z0 z1 z2 z3 z4 z5 z6 z7 z8 HSTr
      have hwle : w.heap.size ≤ wr.heap.size := by have h1 := HS.out.x.size; have h2 := HJ.out; omega
      have HOW2 : Hid (wown w.heap.size w7 ⟨A2, B2, p2, n2, c2, l2, pb2, nb2, cb2, lb2, ps2, ns2, cs2, ls2, pm2, nm2, cm2, lm2, pt2, nt2, ct2, lt2, N2, T2⟩) := wown_mono (wown_below how hb67) hwle
      have HF2 : Hid ((⟨A2, B2, p2, n2, c2, l2, pb2, nb2, cb2, lb2, ps2, ns2, cs2, ls2, pm2, nm2, cm2, lm2, pt2, nt2, ct2, lt2, N2, T2⟩ : Wld).fit w6 ∧ okw ⟨A2, B2, p2, n2, c2, l2, pb2, nb2, cb2, lb2, ps2, ns2, cs2, ls2, pm2, nm2, cm2, lm2, pt2, nt2, ct2, lt2, N2, T2⟩ W H) := ⟨hfit2, hok2⟩
      have HL2 : Hid (likew ⟨A', B', p', n', c', l', pb', nb', cb', lb', ps', ns', cs', ls', pm', nm', cm', lm', pt', nt', ct', lt', N', T'⟩ ⟨A2, B2, p2, n2, c2, l2, pb2, nb2, cb2, lb2, ps2, ns2, cs2, ls2, pm2, nm2, cm2, lm2, pt2, nt2, ct2, lt2, N2, T2⟩ ∧ nt2 = nt') := ⟨hlk2, hnt2⟩
      have hlk := HS.out.l
      have HM2 : Hid (Mst s.A s.B s.l (gol [⟨id, tx, ty⟩]) lt' s.nt lt2 I) := by
        obtain ⟨⟨e1, e2, _, e4, _⟩, e5⟩ := hlk
        dsimp only at e1 e2 e4 e5
        unfold Hid; rw [← e1, ← e2, ← e4, ← e5]; exact hm2
      have HOWN : Hid (wown w.heap.size w7 ⟨A', B', p', n', c', l', pb', nb', cb', lb', ps', ns', cs', ls', pm', nm', cm', lm', pt', nt', ct', lt', N', T'⟩) := wown_below HS.out.o hb7
      obtain ⟨y0, y1, y2, y3, y4, y5, y6, y7, y8⟩ := bx9_c9 HRW.out
      have fr0 := bx9_free HRW.out 0
      have fr1 := bx9_free HRW.out 1
      have fr2 := bx9_free HRW.out 2
      have fr3 := bx9_free HRW.out 3
      have fr4 := bx9_free HRW.out 4
      have fr5 := bx9_free HRW.out 5
      have fr6 := bx9_free HRW.out 6
      have fr7 := bx9_free HRW.out 7
      have fr8 := bx9_free HRW.out 8
      have HLK : Hid (likew s ⟨A', B', p', n', c', l', pb', nb', cb', lb', ps', ns', cs', ls', pm', nm', cm', lm', pt', nt', ct', lt', N', T'⟩ ∧ nt' = s.nt) := hlk
      clear hrw how hfit2 hok2 hlk2 hnt2 hm2 hb6 hb67 hb7 x37 hbJ7 hr7 hw7B hwle hlk
      have HX7 : Hid (bx9 w7 K (.int .i64 A2) (.int .i64 B2) (.slice p2 n2 c2) (.slice pb2 nb2 cb2) (.slice ps2 ns2 cs2) (.slice pm2 nm2 cm2) (.slice pt2 nt2 ct2) (.int .i64 N2) (.int .i64 T2)) := hX7
      clear hX7
      obtain ⟨q0, q1, q2, q3, q4, q5, q6, q7, q8⟩ := bx9_c9 HBJ7.out
      have fz0 := bx9_free HBJ7.out 0
      have fz1 := bx9_free HBJ7.out 1
      have fz2 := bx9_free HBJ7.out 2
      have fz3 := bx9_free HBJ7.out 3
      have fz4 := bx9_free HBJ7.out 4
      have fz5 := bx9_free HBJ7.out 5
      have fz6 := bx9_free HBJ7.out 6
      have fz7 := bx9_free HBJ7.out 7
      have fz8 := bx9_free HBJ7.out 8
      obtain ⟨v0, v1, v2, v3, v4, v5, v6, v7, v8⟩ := bx9_c9 HX7.out
      have hne1 : ¬ J = F + 2 := by have := HJ.out; omega
      have hne2 : ¬ F + 2 = J := by have := HJ.out; omega
      have hne3 : ¬ K = J := by have := HJK.out; omega
      have hne4 : ¬ J = K := by have := HJK.out; omega
      by_cases hI : I = []
      · subst hI
        have HRC : Hid (Rch s.A s.B s.l (gol [⟨id, tx, ty⟩]) s.nt s.lt m lt' k) := by
          obtain ⟨d, hd⟩ : ∃ d, m = k + (d + 1) := ⟨m - k - 1, by omega⟩
          have := fwd_rch HS.out.m (Rch.stuck (n := d) HM2.out)
          rw [Nat.add_zero] at this
          rw [hd]; exact this
        simp only [List.length_nil]
        go_wp2_with fail
        obtain ⟨V, hV⟩ : ∃ V, ((((((((w7.setCell ⟨F + 2, 0, none⟩ (.int .i64 A')).setCell ⟨F + 2, 1, none⟩ (.int .i64 B')).setCell ⟨F + 2, 2, none⟩ (.slice p' n' c')).setCell ⟨F + 2, 3, none⟩ (.slice pb' nb' cb')).setCell ⟨F + 2, 4, none⟩ (.slice ps' ns' cs')).setCell ⟨F + 2, 5, none⟩ (.slice pm' nm' cm')).setCell ⟨F + 2, 6, none⟩ (.slice pt' nt' ct')).setCell ⟨F + 2, 7, none⟩ (.int .i64 N')).setCell ⟨F + 2, 8, none⟩ (.int .i64 T') = V := ⟨_, rfl⟩
        first | rw [hV] | skip
        obtain ⟨k2, kx⟩ := set9 HRW.out hV.symm
        obtain ⟨t0, t1, t2, t3, t4, t5, t6, t7, t8⟩ := bx9_c9 k2
        have hwV : Below w.heap.size w V := HBW.out.trans (kx.below (B := w.heap.size) HBW.out.size (fun j hj hh => by have := HF.out; omega))
        refine ⟨by simp, .tuple #[.agg #[.int .i64 A', .int .i64 B', .slice p' n' c', .slice pb' nb' cb', .slice ps' ns' cs', .slice pm' nm' cm', .slice pt' nt' ct', .int .i64 N', .int .i64 T'], .int .i64 k, .int .i64 0], ?_, ⟨⟨A', B', p', n', c', l', pb', nb', cb', lb', ps', ns', cs', ls', pm', nm', cm', lm', pt', nt', ct', lt', N', T'⟩, k, rfl, wown_box HOWN.out HRW.out kx, (by have e := HSE.out; rw [e] at HLK; exact HLK.out.1), (by have e := HSE.out; rw [e] at HLK; exact HLK.out.2), _, k, rfl, rfl, HM200.out, by have e := HSE.out; rw [e] at HRC; exact HRC.out⟩, ?_⟩
        · simp [results, Try.results10, go_sem, t0, t1, t2, t3, t4, t5, t6, t7, t8]
        · first | exact hwV | (rw [← HF.out]; exact hwV)
      · have hIl : 0 < I.length := List.length_pos_iff.2 hI
        obtain ⟨ni, hni⟩ : ∃ ni, I.length = ni := ⟨_, rfl⟩
        rw [hni] at hIl ⊢
        have d3 : ((ni : Int) == 0) = false := by simp; omega
        have HI : Hid (I ≠ []) := hI
        have HSN : Hid (∀ V, V = ((((((((w7.setCell ⟨J, 0, none⟩ (.int .i64 A2)).setCell ⟨J, 1, none⟩ (.int .i64 B2)).setCell ⟨J, 2, none⟩ (.slice p2 n2 c2)).setCell ⟨J, 3, none⟩ (.slice pb2 nb2 cb2)).setCell ⟨J, 4, none⟩ (.slice ps2 ns2 cs2)).setCell ⟨J, 5, none⟩ (.slice pm2 nm2 cm2)).setCell ⟨J, 6, none⟩ (.slice pt2 nt2 ct2)).setCell ⟨J, 7, none⟩ (.int .i64 N2)).setCell ⟨J, 8, none⟩ (.int .i64 T2) → rinv w w3 J W H s (gol [⟨id, tx, ty⟩]) (k + 1) ⟨A2, B2, p2, n2, c2, l2, pb2, nb2, cb2, lb2, ps2, ns2, cs2, ls2, pm2, nm2, cm2, lm2, pt2, nt2, ct2, lt2, N2, T2⟩ V) := by
          intro V hV
          obtain ⟨k2, kx⟩ := set9 HBJ7.out hV
          have hwo := wown_box HOW2.out HBJ7.out kx
          exact ⟨HX37.out.trans kx (fun _ _ e => e), k2, hwo, fit_own HF2.out.1 hwo, HF2.out.2, ⟨likew_trans HLK.out.1 HL2.out.1, HL2.out.2.trans HLK.out.2⟩, HS.out.m.more HM2.out HI.out⟩
        clear hI hni
        go_wp2_with fail
        obtain ⟨V, hV⟩ : ∃ V, ((((((((w7.setCell ⟨J, 0, none⟩ (.int .i64 A2)).setCell ⟨J, 1, none⟩ (.int .i64 B2)).setCell ⟨J, 2, none⟩ (.slice p2 n2 c2)).setCell ⟨J, 3, none⟩ (.slice pb2 nb2 cb2)).setCell ⟨J, 4, none⟩ (.slice ps2 ns2 cs2)).setCell ⟨J, 5, none⟩ (.slice pm2 nm2 cm2)).setCell ⟨J, 6, none⟩ (.slice pt2 nt2 ct2)).setCell ⟨J, 7, none⟩ (.int .i64 N2)).setCell ⟨J, 8, none⟩ (.int .i64 T2) = V := ⟨_, rfl⟩
        first | rw [hV] | skip
        have HS9 := HSN.out V hV.symm
        clear hV
        go_roundw
        case rel => exact ⟨k + 1, by go_num, by omega, _, HS9⟩
        case measure => simp [intOf]; omega
    · have hkm : k = m := by omega
      subst hkm
      obtain ⟨-, hr7, hw7B⟩ := HV.out wr HS.out.x
      have HRW : Hid (bx9 wr (F + 2) (.int .i64 0) (.int .i64 0) (.slice none 0 0) (.slice none 0 0) (.slice none 0 0) (.slice none 0 0) (.slice none 0 0) (.int .i64 0) (.int .i64 0)) := hr7
      have HBW : Hid (Below w.heap.size w wr) := hw7B
      have HOWN : Hid (wown w.heap.size wr ⟨A', B', p', n', c', l', pb', nb', cb', lb', ps', ns', cs', ls', pm', nm', cm', lm', pt', nt', ct', lt', N', T'⟩) := HS.out.o
      have HLK : Hid (likew s ⟨A', B', p', n', c', l', pb', nb', cb', lb', ps', ns', cs', ls', pm', nm', cm', lm', pt', nt', ct', lt', N', T'⟩ ∧ nt' = s.nt) := HS.out.l
      have HRC : Hid (Rch s.A s.B s.l (gol [⟨id, tx, ty⟩]) s.nt s.lt k lt' k) := by
        have := fwd_rch HS.out.m .none
        rw [Nat.add_zero] at this
        exact this
      obtain ⟨y0, y1, y2, y3, y4, y5, y6, y7, y8⟩ := bx9_c9 HRW.out
      have fr0 := bx9_free HRW.out 0
      have fr1 := bx9_free HRW.out 1
      have fr2 := bx9_free HRW.out 2
      have fr3 := bx9_free HRW.out 3
      have fr4 := bx9_free HRW.out 4
      have fr5 := bx9_free HRW.out 5
      have fr6 := bx9_free HRW.out 6
      have fr7 := bx9_free HRW.out 7
      have fr8 := bx9_free HRW.out 8
      have hne1 : ¬ J = F + 2 := by have := HJ.out; omega
      have hne2 : ¬ F + 2 = J := by have := HJ.out; omega
      clear hr7 hw7B hbJ
      go_wp2_with fail
      obtain ⟨V, hV⟩ : ∃ V, ((((((((wr.setCell ⟨F + 2, 0, none⟩ (.int .i64 A')).setCell ⟨F + 2, 1, none⟩ (.int .i64 B')).setCell ⟨F + 2, 2, none⟩ (.slice p' n' c')).setCell ⟨F + 2, 3, none⟩ (.slice pb' nb' cb')).setCell ⟨F + 2, 4, none⟩ (.slice ps' ns' cs')).setCell ⟨F + 2, 5, none⟩ (.slice pm' nm' cm')).setCell ⟨F + 2, 6, none⟩ (.slice pt' nt' ct')).setCell ⟨F + 2, 7, none⟩ (.int .i64 N')).setCell ⟨F + 2, 8, none⟩ (.int .i64 T') = V := ⟨_, rfl⟩
      first | rw [hV] | skip
      obtain ⟨k2, kx⟩ := set9 HRW.out hV.symm
      obtain ⟨t0, t1, t2, t3, t4, t5, t6, t7, t8⟩ := bx9_c9 k2
      have hwV : Below w.heap.size w V := HBW.out.trans (kx.below (B := w.heap.size) HBW.out.size (fun j hj hh => by have := HF.out; omega))
      refine ⟨by simp, .tuple #[.agg #[.int .i64 A', .int .i64 B', .slice p' n' c', .slice pb' nb' cb', .slice ps' ns' cs', .slice pm' nm' cm', .slice pt' nt' ct', .int .i64 N', .int .i64 T'], .int .i64 k, .int .i64 0], ?_, ⟨⟨A', B', p', n', c', l', pb', nb', cb', lb', ps', ns', cs', ls', pm', nm', cm', lm', pt', nt', ct', lt', N', T'⟩, k, rfl, wown_box HOWN.out HRW.out kx, (by have e := HSE.out; rw [e] at HLK; exact HLK.out.1), (by have e := HSE.out; rw [e] at HLK; exact HLK.out.2), _, k, rfl, rfl, HM200.out, by have e := HSE.out; rw [e] at HRC; exact HRC.out⟩, ?_⟩
      · simp [results, Try.results10, go_sem, t0, t1, t2, t3, t4, t5, t6, t7, t8]
      · first | exact hwV | (rw [← HF.out]; exact hwV)
/-- What Reach tells. -/
def rck (s : Wld) (id tx ty n E : Int) (s' : Wld) (k : Int) : Prop :=
  (E ≠ 0 ∧ s' = wz ∧ k = 0) ∨ (E = 0 ∧ likew s s' ∧ s'.nt = s.nt ∧ ∃ m kk : Nat, n = m ∧ k = kk ∧ m ≤ 200 ∧ Rch s.A s.B s.l (gol [⟨id, tx, ty⟩]) s.nt s.lt m s'.lt kk)
theorem Reach_any (s : Wld) (id tx ty n E : Int) (w : World) (h : s.fit w) (fi : fits id) (fx : fits tx) (fy : fits ty) (hE : Hid (rer s id n E)) :
    Calls Try.prog 10 #[s.val, .int .i64 id, .agg #[.int .i64 tx, .int .i64 ty], .int .i64 n] w fun e w' => (∃ (s' : Wld) (k : Int), e = .returned (.tuple #[s'.val, .int .i64 k, .int .i64 E]) ∧ wown w.heap.size w' s' ∧ rck s id tx ty n E s' k) ∧ Below w.heap.size w w' := by
  by_cases h0 : E = 0
  · subst h0
    obtain ⟨⟨W, H, hk⟩, hn, hid⟩ := rer_ok hE.out
    obtain ⟨m, rfl⟩ : ∃ m : Nat, n = m := ⟨n.toNat, by omega⟩
    refine (Reach_ok s W H m id tx ty w h hk (by omega) hid fi fx fy).mono ?_
    rintro e w' ⟨⟨s', k, rfl, h1, h2, h3, h4⟩, hb⟩
    exact ⟨⟨s', k, rfl, h1, .inr ⟨rfl, h2, h3, h4⟩⟩, hb⟩
  · refine (Reach_no s id tx ty n E w h hE h0).mono ?_
    rintro e w' ⟨rfl, hb⟩
    exact ⟨⟨wz, 0, rfl, wz_own _ _, .inl ⟨h0, rfl, rfl⟩⟩, hb⟩
theorem rch_right {s : Wld} {W H : Nat} {f : Int → Option Cel} (hk : okw s W H) {L L' : List Trp} {n k : Nat} (h0 : TRr W H s.l s.nb s.N L) (hx : ∀ t ∈ L, fitt t) (fA : fits s.A) (fB : fits s.B) (h : Rch s.A s.B s.l f s.nt L n L' k) : TRr W H s.l s.nb s.N L' ∧ (∀ t ∈ L', fitt t) := by
  induction h with
  | none => exact ⟨h0, hx⟩
  | stuck => exact ⟨h0, hx⟩
  | step h1 h2 h3 ih => exact ih (mst_right hk.a hk.b h0 h1).1 (mst_fits fA fB hx h1).1
/-- What Reach tells is a world, and a right one. -/
theorem reach_fit {s s' : Wld} {w V : World} {B : Nat} {id tx ty n E k : Int} (h : s.fit w) (hE : rer s id n E) (hw : wown B V s') (ho : rck s id tx ty n E s' k) : s'.fit V ∧ (E = 0 → ∃ W H, okw s' W H) := by
  rcases ho with ⟨h0, rfl, _⟩ | ⟨rfl, hl, ht, m, kk, _, _, _, hr⟩
  · exact ⟨wz_fit hw, fun e => absurd e h0⟩
  · obtain ⟨⟨W, H, hk⟩, _⟩ := rer_ok hE
    obtain ⟨h1, h2⟩ := rch_right hk hk.tr h.xt h.fA h.fB hr
    obtain ⟨hA, hB, _, e1, e5, e2, _, e3, _, e4, hN, hT⟩ := hl
    refine ⟨fit_of_own hw (by rw [hA]; exact h.fA) (by rw [hB]; exact h.fB) (by rw [hN]; exact h.fN) (by rw [hT]; exact h.fT) (by rw [e1]; exact h.x) (by rw [e2]; exact h.xb) (by rw [e3]; exact h.xs) (by rw [e4]; exact h.xm) h2, fun _ => ⟨W, H, ?_⟩⟩
    refine ⟨by rw [hA]; exact hk.a, by rw [hB]; exact hk.b, by rw [e1]; exact hk.f, by rw [e5]; exact hk.nb, by rw [ht]; exact hk.nt, by rw [hN, hT]; exact hk.c, by rw [e1, e2, e3]; exact hk.pl, by rw [e1, e4]; exact hk.mn, ?_⟩
    rw [e1, e5, hN]; exact h1
end Go.Proofs.Ytnbbfnlfcncgnaa
