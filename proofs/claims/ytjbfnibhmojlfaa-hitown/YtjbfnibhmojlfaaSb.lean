/- What Struck returns of a right world and no more than 200 blows. -/
import Derived.Test.YtjbfnibhmojlfaaSa
import Derived.RegionTactic
namespace Go.Proofs.Ytjbfnibhmojlfaa
open Go.RowKit
set_option linter.unusedVariables false

theorem Zs_now (h : Int → Int) {ts : List Trp} {k : Nat} (hk : k < ts.length) : (Zs h ts (k + 1))[k]? = some (upd h ts[k]) := by
  rw [← Zs_next h hk, List.getElem?_set_self (by rw [Zs_len (by omega)]; exact hk)]
theorem minet_at {B g n cap : Nat} {w : World} {Q : List Trp} (h : minet B w (.slice (some ⟨g, 0, none⟩) n cap) Q) (hn : Q.length = n) {k : Nat} {t : Trp} (ht : Q[k]? = some t) :
    w.cell? ⟨g, k * 7, none⟩ = some (.int .i64 t.i) ∧ w.cell? ⟨g, k * 7 + 1, none⟩ = some (.int .i64 t.o) ∧ w.cell? ⟨g, k * 7 + 2, none⟩ = some (.int .i64 t.k) ∧ w.cell? ⟨g, k * 7 + 3, none⟩ = some (.int .i64 t.x) ∧ w.cell? ⟨g, k * 7 + 4, none⟩ = some (.int .i64 t.y) ∧ w.cell? ⟨g, k * 7 + 5, none⟩ = some (.int .i64 t.f) ∧ w.cell? ⟨g, k * 7 + 6, none⟩ = some (.int .i64 t.d) := by
  obtain ⟨hk, e⟩ := List.getElem?_eq_some_iff.1 ht
  exact minet_cell h hn hk e
theorem minet_ptr {B n cap : Nat} {p : Option Addr} {w : World} {Q : List Trp} (h : minet B w (.slice p n cap) Q) (hn : Q.length = n) (h0 : 0 < n) : ∃ g, p = some ⟨g, 0, none⟩ := by
  rcases h.2 with ⟨_, h1⟩ | ⟨g, cap', cur, hv, hB, hblk, hr⟩
  · omega
  · simp only [Value.slice.injEq] at hv
    exact ⟨g, hv.1⟩
set_option maxRecDepth 20000 in
set_option maxHeartbeats 8000000 in
theorem Struck_ok (s : Wld) (W H : Nat) (pl : Option Addr) (nl cl : Nat) (bl : List Cel) (w : World) (h : s.fit w) (hk : okw s W H) (hb : crow w pl bl) (hx : ∀ c ∈ bl, fits c.x ∧ fits c.y) (hn : bl.length = nl) (h200 : nl ≤ 200) :
    Calls Try.prog 9 #[s.val, .slice pl nl cl] w fun e w' => (∃ (s' : Wld) (gp : Option Addr) (gc : Nat), e = .returned (.tuple #[s'.val, .slice gp (gon (hm (cnt W s.l s.lt) s.lt bl) s.lt).length gc, .int .i64 0]) ∧ row vi w' gp (gon (hm (cnt W s.l s.lt) s.lt bl) s.lt) ∧ wown w.heap.size w' s' ∧ likew s s' ∧ s'.lt = lft (hm (cnt W s.l s.lt) s.lt bl) s.lt ∧ s'.lt.length = s'.nt) ∧ Below w.heap.size w w' := by
  have HBL : Hid (∀ V, Below w.heap.size w V → Calls Try.prog 8 #[s.val, .slice pl nl cl] V fun e w' => (∃ g c, e = .returned (.tuple #[.slice (some ⟨g, 0, none⟩) s.nt c, .int .i64 0]) ∧ row vi w' (some ⟨g, 0, none⟩) (harms (cnt W s.l s.lt) s.lt bl)) ∧ Below V.heap.size V w') := fun V hV => Blows_ok s W H pl nl cl bl V (Wld.fit_below h hV) hk (crow_below hb hV) hx hn h200
  have hsz : s.n ≤ 1600 ∧ s.ns ≤ 8 ∧ s.nm ≤ 1600 := by
    have h1 := h.h; have h2 := hk.f.2.2.1; have h3 := wh_le hk.f.1 hk.f.2.1; have h4 := hk.pl.1; have h5 := h.hs; have h6 := h.hb; have h7 := hk.nb; have h8 := hk.mn.1; have h9 := h.hm
    omega
  have hnb : s.nb ≤ 8 := hk.nb
  have hnt : s.nt ≤ 100 := hk.nt
  have HCP : Hid (∀ V, Below w.heap.size w V → Calls Try.prog 36 #[s.val] V fun e w' => (∃ s' : Wld, e = .returned s'.val ∧ wown V.heap.size w' s' ∧ alike s s') ∧ Below V.heap.size V w') := fun V hV => Copy_any s V (Wld.fit_below h hV) (by omega) (by omega) (by omega) (by omega) (by omega)
  have HLF : Hid (∀ k (hk : k < s.lt.length), 1 ≤ s.lt[k].f ∧ s.lt[k].f ≤ 20) := fun k hkl => by
    have h1 := (hk.tr.1 k hkl).2.2
    have h2 : lifeOf s.lt[k].k ≤ 20 := by unfold lifeOf; split <;> omega
    exact ⟨h1.2.2.2.2.1, Int.le_trans h1.2.2.2.2.2.1 h2⟩
  have HLT : Hid (s.lt.length = s.nt) := h.ht
  clear h hk hb hx hn hsz hnb
  obtain ⟨A, B, p, n, c, l, pb, nb, cb, lb, ps, ns, cs, ls, pm, nm, cm, lm, pt, nt, ct, lt, N, T⟩ := s
  unfold Wld.val at *
  dsimp only at *
  have HHL : Hid (∀ k (hk : k < lt.length), (harms (cnt W l lt) lt bl)[k]? = some (hm (cnt W l lt) lt bl lt[k].i)) := fun k hk => by
    rw [List.getElem?_eq_getElem (by rw [harms_len]; exact hk), harms_at _ _ _ _ hk]
  have HHB : Hid (∀ id, 0 ≤ hm (cnt W l lt) lt bl id ∧ hm (cnt W l lt) lt bl id ≤ 400) := fun id => ⟨(hm_bd _ _ _).1, by have := (hm_bd (cn := cnt W l lt) lt bl id).2; have := HLT.out; omega⟩
  obtain ⟨hf, hhf⟩ : ∃ hf, hm (cnt W l lt) lt bl = hf := ⟨_, rfl⟩
  obtain ⟨HL, hHL⟩ : ∃ HL, harms (cnt W l lt) lt bl = HL := ⟨_, rfl⟩
  rw [hhf, hHL] at HHL
  rw [hhf] at HHB ⊢
  rw [hHL] at HBL
  clear hhf hHL
  obtain ⟨F, hF⟩ : ∃ F, w.heap.size = F := ⟨_, rfl⟩
  obtain ⟨wa, hwa⟩ : ∃ wa, w.alloc (.cells #[.int .i64 A, .int .i64 B, .slice p n c, .slice pb nb cb, .slice ps ns cs, .slice pm nm cm, .slice pt nt ct, .int .i64 N, .int .i64 T] 28) = wa := ⟨_, rfl⟩
  have xa : bx9 wa F (.int .i64 A) (.int .i64 B) (.slice p n c) (.slice pb nb cb) (.slice ps ns cs) (.slice pm nm cm) (.slice pt nt ct) (.int .i64 N) (.int .i64 T) := by rw [← hwa, ← hF]; exact box9_new _ _ _ _ _ _ _ _ _ _
  have sa : wa.heap.size = F + 1 := by rw [← hwa, World.size_alloc, hF]
  obtain ⟨w0, hw0⟩ : ∃ w0, wa.alloc (.cells #[.int .i64 0, .int .i64 0, .slice none 0 0, .slice none 0 0, .slice none 0 0, .slice none 0 0, .slice none 0 0, .int .i64 0, .int .i64 0] 28) = w0 := ⟨_, rfl⟩
  have ba : Below wa.heap.size wa w0 := by rw [← hw0]; exact alloc_below _ _
  have HX0 : Hid (bx9 w0 F (.int .i64 A) (.int .i64 B) (.slice p n c) (.slice pb nb cb) (.slice ps ns cs) (.slice pm nm cm) (.slice pt nt ct) (.int .i64 N) (.int .i64 T)) := bx9_below xa ba
  have HR0 : Hid (bx9 w0 (F + 1) (.int .i64 0) (.int .i64 0) (.slice none 0 0) (.slice none 0 0) (.slice none 0 0) (.slice none 0 0) (.slice none 0 0) (.int .i64 0) (.int .i64 0)) := by unfold Hid; rw [← hw0, ← sa]; exact box9_new _ _ _ _ _ _ _ _ _ _
  have hB0 : Below w.heap.size w w0 := by
    have h1 : Below w.heap.size w wa := by rw [← hwa]; exact alloc_below _ _
    exact below_call h1 h1.size ba
  have HB0 : Hid (Below w.heap.size w w0) := hB0
  have HF : Hid (w.heap.size = F) := hF
  obtain ⟨z0, z1, z2, z3, z4, z5, z6, z7, z8⟩ := bx9_c9 HX0.out
  clear xa ba hB0
  go_enter Try.func9, Try.ntmps9
  go_wp2_with fail
  refine (HBL.out w0 HB0.out).mono ?_
  rintro e w1 ⟨⟨gH, cH, rfl, hrh⟩, hb1⟩
  have HB1 : Hid (Below w.heap.size w w1) := below_call HB0.out HB0.out.size hb1
  have HR1 : Hid (bx9 w1 (F + 1) (.int .i64 0) (.int .i64 0) (.slice none 0 0) (.slice none 0 0) (.slice none 0 0) (.slice none 0 0) (.slice none 0 0) (.int .i64 0) (.int .i64 0)) := bx9_below HR0.out hb1
  have HX1 : Hid (bx9 w1 F (.int .i64 A) (.int .i64 B) (.slice p n c) (.slice pb nb cb) (.slice ps ns cs) (.slice pm nm cm) (.slice pt nt ct) (.int .i64 N) (.int .i64 T)) := bx9_below HX0.out hb1
  have HRH : Hid (row vi w1 (some ⟨gH, 0, none⟩) HL) := hrh
  clear z0 z1 z2 z3 z4 z5 z6 z7 z8 hb1 hw0 hwa sa hF hrh HBL HX0 HR0
  obtain ⟨z0, z1, z2, z3, z4, z5, z6, z7, z8⟩ := bx9_c9 HX1.out
  go_wp2_with fail
  refine (HCP.out w1 HB1.out).mono ?_
  rintro e w2 ⟨⟨s', rfl, ho, hal⟩, hb2⟩
  obtain ⟨A', B', p', n', c', l', pb', nb', cb', lb', ps', ns', cs', ls', pm', nm', cm', lm', pt', nt', ct', lt', N', T'⟩ := s'
  unfold alike at hal
  simp only at hal
  obtain ⟨rfl, rfl, rfl, rfl, rfl, rfl, rfl, rfl, rfl, rfl, rfl, rfl, rfl, rfl⟩ := hal
  have HB2 : Hid (Below w1.heap.size w1 w2) := hb2
  clear z0 z1 z2 z3 z4 z5 z6 z7 z8 hb2 HCP HX1
  obtain ⟨J, hJ⟩ : ∃ J, w2.heap.size = J := ⟨_, rfl⟩
  obtain ⟨w3, hw3⟩ : ∃ w3, w2.alloc (.cells #[.int .i64 A', .int .i64 B', .slice p' n' c', .slice pb' nb' cb', .slice ps' ns' cs', .slice pm' nm' cm', .slice pt' nt' ct', .int .i64 N', .int .i64 T'] 28) = w3 := ⟨_, rfl⟩
  have hb23 : Below w2.heap.size w2 w3 := by rw [← hw3]; exact alloc_below _ _
  have HX3 : Hid (bx9 w3 J (.int .i64 A') (.int .i64 B') (.slice p' n' c') (.slice pb' nb' cb') (.slice ps' ns' cs') (.slice pm' nm' cm') (.slice pt' nt' ct') (.int .i64 N') (.int .i64 T')) := by unfold Hid; rw [← hw3, ← hJ]; exact box9_new _ _ _ _ _ _ _ _ _ _
  have s3 : w3.heap.size = J + 1 := by rw [← hw3, World.size_alloc, hJ]
  have hb13 : Below w1.heap.size w1 w3 := below_call HB2.out HB2.out.size hb23
  have HB13 : Hid (Below w1.heap.size w1 w3) := hb13
  obtain ⟨C, hC⟩ : ∃ C, w3.heap.size = C := ⟨_, rfl⟩
  have HSB : Hid (∀ g, (Value.slice pt' nt' ct').ownBlock = some g → w1.heap.size ≤ g ∧ g < J) := fun g hg => ⟨own_base ho.kt g hg, by rw [← hJ]; exact alli_lt ho.jt g hg⟩
  have HSZ : Hid (F + 1 < w1.heap.size ∧ w1.heap.size ≤ J ∧ C = J + 1 ∧ w3.heap.size = C) := ⟨bx9_lt HR1.out, by rw [← hJ]; exact HB2.out.size, by rw [← hC]; exact s3, hC⟩
  have HI0 : Hid (sinv w3 w1.heap.size C nt' ct' pt' hf lt' 0 0 (.slice none 0 0) w3) := ⟨Ex.refl _ _, by rw [Zs_zero]; exact minet_kept ho.kt hb23, alli_below ho.jt hb23, mine_nil _ _ _ _⟩
  have HV : Hid (∀ V, Ex (fun g => some g = (Value.slice pt' nt' ct').ownBlock) w3 V → Below w1.heap.size w1 V ∧ bx9 V J (.int .i64 A') (.int .i64 B') (.slice p' n' c') (.slice pb' nb' cb') (.slice ps' ns' cs') (.slice pm' nm' cm') (.slice pt' nt' ct') (.int .i64 N') (.int .i64 T')) := fun V hV =>
    ⟨HB13.out.trans (hV.below HB13.out.size (fun k hk e => by have := (HSB.out k e.symm).1; omega)), bx9_ex HX3.out hV (fun e => by have := (HSB.out J e.symm).2; omega)⟩
  have HOW : Hid (wown w1.heap.size w2 ⟨A', B', p', n', c', l', pb', nb', cb', lb', ps', ns', cs', ls', pm', nm', cm', lm', pt', nt', ct', lt', N', T'⟩) := ho
  have HB23 : Hid (Below w2.heap.size w2 w3) := hb23
  have HJ : Hid (w2.heap.size = J) := hJ
  obtain ⟨z0, z1, z2, z3, z4, z5, z6, z7, z8⟩ := bx9_c9 HX3.out
  clear ho hb23 s3 hC hb13
  go_wp2_with fail
  clear hw3 hJ
  go_loopw [10, 28] (fun a b wr => ∃ k : Nat, b = .int .i64 (k : Int) ∧ k ≤ nt' ∧ Hid (sinv w3 w1.heap.size C nt' ct' pt' hf lt' k k a wr)) (fun _ b _ => nt' - (intOf b).toNat)
  case atStart => exact ⟨0, rfl, by omega, HI0.out⟩
  case round =>
    obtain ⟨k, rfl, hk, HS⟩ := hrel
    obtain ⟨HB1r, HXr⟩ := HV.out wr HS.out.x
    clear z0 z1 z2 z3 z4 z5 z6 z7 z8
    obtain ⟨z0, z1, z2, z3, z4, z5, z6, z7, z8⟩ := bx9_c9 HXr
    by_cases hlt : k < nt'
    · have hkl : k < lt'.length := by rw [HLT.out]; exact hlt
      obtain ⟨g, rfl⟩ := minet_ptr HS.out.t (by rw [Zs_len (by omega)]; exact HLT.out) (by omega)
      have hgC : w1.heap.size ≤ g ∧ g < C := by have := HSB.out g rfl; have := HSZ.out; omega
      have hZl : ∀ m, m ≤ lt'.length → (Zs hf lt' m).length = nt' := fun m hm => by rw [Zs_len hm]; exact HLT.out
      obtain ⟨c0, c1, c2, c3, c4, c5, c6⟩ := minet_at HS.out.t (hZl k (by omega)) (Zs_at hf hkl)
      have f5 := minet_free HS.out.t (hZl k (by omega)) (k * 7 + 5)
      have hq := (row_below HRH.out HB1r) k _ (HHL.out k hkl)
      obtain ⟨q, hqe, hq2⟩ := hq
      cases hqe
      rw [add_zero_at] at hq2
      have hlife := HLF.out k hkl
      have hharm := HHB.out lt'[k].i
      have HSET : Hid (∀ V, Below wr.heap.size wr V → sinv w3 w1.heap.size C nt' ct' (some ⟨g, 0, none⟩) hf lt' (k + 1) k u10 (V.setCell ⟨g, k * 7 + 5, none⟩ (.int .i64 (lt'[k].f - hf lt'[k].i)))) := fun V hV => sinv_set (sinv_below HS.out hV) hgC.2 HLT.out hkl
      have HNOW : Hid (∀ V, sinv w3 w1.heap.size C nt' ct' (some ⟨g, 0, none⟩) hf lt' (k + 1) k u10 V → _) := fun V hV => minet_at hV.t (hZl (k + 1) (by omega)) (Zs_now hf hkl)
      have HYG : Hid (lt'[k].f - hf lt'[k].i ≤ 0 → gon hf (lt'.take (k + 1)) = gon hf (lt'.take k) ++ [lt'[k].i]) := fun h => take_gon_yes hkl h
      have HNG : Hid (¬ lt'[k].f - hf lt'[k].i ≤ 0 → gon hf (lt'.take (k + 1)) = gon hf (lt'.take k)) := fun h => take_gon_no hkl h
      have HG := fun V => isGone_any (upd hf lt'[k]) V
      have hle : (gon hf (lt'.take k)).length ≤ 1000000 := by have := gon_len hf (lt'.take k); rw [List.length_take] at this; omega
      obtain ⟨t, ht⟩ : ∃ t, lt'[k] = t := ⟨_, rfl⟩
      rw [ht] at c0 c1 c2 c3 c4 c5 c6 hq2 hlife hharm HSET HNOW HYG HNG HG
      obtain ⟨ti, to_, tk, tx, ty, tf, td⟩ := t
      unfold upd at HNOW HG
      unfold tv at HG
      simp only at c0 c1 c2 c3 c4 c5 c6 hq2 hlife hharm HSET HNOW HYG HNG HG
      obtain ⟨hv, ehv⟩ : ∃ hv, hf ti = hv := ⟨_, rfl⟩
      rw [ehv] at hq2 hharm HSET HNOW HYG HNG HG
      have c7 : wr.cell? ⟨gH, k, none⟩ = some (.int .i64 hv) := hq2
      have HG2 : Hid (∀ V, Calls Try.prog 37 #[.agg #[.int .i64 ti, .int .i64 to_, .int .i64 tk, .int .i64 tx, .int .i64 ty, .int .i64 (tf - hv), .int .i64 td]] V fun e w' => e = .returned (.bool (decide (tf - hv ≤ 0))) ∧ Below V.heap.size V w') := HG
      have l1 : (k : Int) < nt' := by omega
      have l2 : (0 : Int) ≤ k := by omega
      clear HG ht hq2 HB1r HXr hkl hZl ehv
      go_wp2_with fail
      go_region
      obtain ⟨V1, hV1⟩ : ∃ V1, World.drew (wr.setCell ⟨g, k * 7 + 5, none⟩ (.int .i64 (tf - hv))) = V1 := ⟨_, rfl⟩
      rw [hV1]
      have hs1 := sinv_below (HSET.out wr (Below.refl _ _)) (Below.drew (Below.refl _ _))
      rw [hV1] at hs1
      have HS1 : Hid (sinv w3 w1.heap.size C nt' ct' (some ⟨g, 0, none⟩) hf lt' (k + 1) k u10 V1) := hs1
      clear c0 c1 c2 c3 c4 c5 c6 c7 f5 hV1
      obtain ⟨c0, c1, c2, c3, c4, c5, c6⟩ := HNOW.out V1 hs1
      clear hs1
      go_wp2_with fail
      refine (HG2.out V1).mono ?_
      rintro e V2 ⟨rfl, hb2⟩
      have hs2 := sinv_below HS1.out hb2
      have HS2 : Hid (sinv w3 w1.heap.size C nt' ct' (some ⟨g, 0, none⟩) hf lt' (k + 1) k u10 V2) := hs2
      clear c0 c1 c2 c3 c4 c5 c6 hb2
      obtain ⟨c0, c1, c2, c3, c4, c5, c6⟩ := HNOW.out V2 hs2
      clear hs2
      by_cases hf0 : tf - hv ≤ 0
      · rw [decide_eq_true hf0]
        have HYG2 : Hid (gon hf (lt'.take (k + 1)) = gon hf (lt'.take k) ++ [ti]) := HYG.out hf0
        clear hf0
        go_wp2_with (at_builtin; refine list_one ki _ rfl _ _ rfl C u10 (gon hf (lt'.take k)) rfl (mine_below HS2.out.g (alloc_below _ _)) ⟨V2.heap.size, 0, none⟩ 1 ti rfl (new_one _ _ _) hle (by rw [World.size_alloc]; have := HSZ.out.2.2.2; have := HS2.out.x.size; omega) ?_)
        intro g9 cap9 w9 hm9 hg9
        have HS9 : Hid (sinv w3 w1.heap.size C nt' ct' (some ⟨g, 0, none⟩) hf lt' (k + 1) (k + 1) (.slice (some ⟨g9, 0, none⟩) ((gon hf (lt'.take k)).length + 1) cap9) w9) := sinv_gone (sinv_below HS2.out (alloc_below _ _)) (Nat.le_of_eq HSZ.out.2.2.2) (fun g' hg' => by have h1 := (HSB.out g' hg').2; have h2 := HSZ.out.2.2.1; omega) HYG2.out hm9 hg9
        clear hm9 hg9 c0 c1 c2 c3 c4 c5 c6 hle
        go_wp2_with fail
        go_roundw
        case rel => exact ⟨k + 1, by go_num, by omega, HS9.out⟩
        case measure => simp [intOf]; omega
      · rw [decide_eq_false hf0]
        have HS9 : Hid (sinv w3 w1.heap.size C nt' ct' (some ⟨g, 0, none⟩) hf lt' (k + 1) (k + 1) u10 V2) := sinv_next HS2.out (HNG.out (by omega))
        clear hf0 c0 c1 c2 c3 c4 c5 c6 hle
        go_wp2_with fail
        go_roundw
        case rel => exact ⟨k + 1, by go_num, by omega, HS9.out⟩
        case measure => simp [intOf]; omega
    · have hkn : k = nt' := by omega
      subst hkn
      have hZ : Zs hf lt' k = lt'.map (upd hf) := Zs_all hf lt' (by rw [HLT.out]; exact Nat.le_refl _)
      have hgt : gon hf (lt'.take k) = gon hf lt' := by rw [List.take_of_length_le (by rw [HLT.out]; exact Nat.le_refl _)]
      have hst := HS.out.t
      rw [hZ] at hst
      have hsg := HS.out.g
      rw [hgt] at hsg
      obtain ⟨gp, gc, hgv, hgr, hgc, hgz⟩ := mine_full hsg
      subst hgv
      have HST : Hid (minet w1.heap.size wr (.slice pt' k ct') (lt'.map (upd hf))) := hst
      have HSG : Hid (mine 3 vi C wr (.slice gp (gon hf lt').length gc) (gon hf lt')) := hsg
      have HDF : Hid (Calls Try.prog 38 #[.slice pt' k ct', .func (.func 37) #[] #[]] wr fun e w' => (∃ m, e = .returned (.slice pt' m ct') ∧ (lft hf lt').length = m ∧ minet w1.heap.size w' (.slice pt' m ct') (lft hf lt') ∧ alli w' (.slice pt' m ct')) ∧ Ex (fun g => some g = (Value.slice pt' k ct').ownBlock) wr w') := by
        have := DeleteFunct_any w1.heap.size k ct' pt' (lt'.map (upd hf)) wr hst (by rw [List.length_map]; exact HLT.out) HS.out.a hnt
        rw [lft_kp] at this; exact this
      have HRr : Hid (bx9 wr (F + 1) (.int .i64 0) (.int .i64 0) (.slice none 0 0) (.slice none 0 0) (.slice none 0 0) (.slice none 0 0) (.slice none 0 0) (.int .i64 0) (.int .i64 0)) := bx9_below HR1.out HB1r
      have HXr2 : Hid (bx9 wr J (.int .i64 A') (.int .i64 B') (.slice p' n' c') (.slice pb' nb' cb') (.slice ps' ns' cs') (.slice pm' nm' cm') (.slice pt' k ct') (.int .i64 N') (.int .i64 T')) := HXr
      clear hZ hgt hst hsg hgr hgc hgz HB1r HXr
      obtain ⟨ng, hng⟩ : ∃ ng, (gon hf lt').length = ng := ⟨_, rfl⟩
      rw [hng] at HSG ⊢
      go_wp2_with fail
      refine Calls.mono HDF.out ?_
      rintro e w6 ⟨⟨m, rfl, hlen, hmt, hma⟩, hx6⟩
      have HM6 : Hid (minet w1.heap.size w6 (.slice pt' m ct') (lft hf lt') ∧ alli w6 (.slice pt' m ct') ∧ (lft hf lt').length = m) := ⟨hmt, hma, hlen⟩
      have HX6 : Hid (Ex (fun g => some g = (Value.slice pt' k ct').ownBlock) wr w6) := hx6
      have hXJ := bx9_ex HXr2.out hx6 (fun e => by have := (HSB.out J e.symm).2; omega)
      have hXR := bx9_ex HRr.out hx6 (fun e => by have := (HSB.out (F + 1) e.symm).1; have := HSZ.out.1; omega)
      have HXJ : Hid (bx9 w6 J (.int .i64 A') (.int .i64 B') (.slice p' n' c') (.slice pb' nb' cb') (.slice ps' ns' cs') (.slice pm' nm' cm') (.slice pt' k ct') (.int .i64 N') (.int .i64 T')) := hXJ
      have HXR : Hid (bx9 w6 (F + 1) (.int .i64 0) (.int .i64 0) (.slice none 0 0) (.slice none 0 0) (.slice none 0 0) (.slice none 0 0) (.slice none 0 0) (.int .i64 0) (.int .i64 0)) := hXR
      clear hlen hmt hma hx6 z0 z1 z2 z3 z4 z5 z6 z7 z8
      obtain ⟨z0, z1, z2, z3, z4, z5, z6, z7, z8⟩ := bx9_c9 hXJ
      have fz6 := bx9_free hXJ 6
      clear hXJ hXR
      have hJF : ¬ J = F + 1 := by have := HSZ.out; omega
      have hFJ : ¬ F + 1 = J := by have := HSZ.out; omega
      obtain ⟨y0, y1, y2, y3, y4, y5, y6, y7, y8⟩ := bx9_c9 HXR.out
      have fr0 := bx9_free HXR.out 0
      have fr1 := bx9_free HXR.out 1
      have fr2 := bx9_free HXR.out 2
      have fr3 := bx9_free HXR.out 3
      have fr4 := bx9_free HXR.out 4
      have fr5 := bx9_free HXR.out 5
      have fr6 := bx9_free HXR.out 6
      have fr7 := bx9_free HXR.out 7
      have fr8 := bx9_free HXR.out 8
      go_wp2_with fail
      obtain ⟨w7, hw7⟩ : ∃ w7, w6.setCell ⟨J, 6, none⟩ (.slice pt' m ct') = w7 := ⟨_, rfl⟩
      first | rw [hw7] | skip
      obtain ⟨V, hV⟩ : ∃ V, ((((((((w7.setCell ⟨F + 1, 0, none⟩ (.int .i64 A')).setCell ⟨F + 1, 1, none⟩ (.int .i64 B')).setCell ⟨F + 1, 2, none⟩ (.slice p' n' c')).setCell ⟨F + 1, 3, none⟩ (.slice pb' nb' cb')).setCell ⟨F + 1, 4, none⟩ (.slice ps' ns' cs')).setCell ⟨F + 1, 5, none⟩ (.slice pm' nm' cm')).setCell ⟨F + 1, 6, none⟩ (.slice pt' m ct')).setCell ⟨F + 1, 7, none⟩ (.int .i64 N')).setCell ⟨F + 1, 8, none⟩ (.int .i64 T') = V := ⟨_, rfl⟩
      rw [hV]
      have x67 : Ex (fun g => g = J) w6 w7 := by rw [← hw7]; exact Ex.set (S := fun g => g = J) w6 ⟨J, 6, none⟩ rfl _
      have hR7 := bx9_ex HXR.out x67 hFJ
      obtain ⟨k2, kx⟩ := set9 hR7 hV.symm
      obtain ⟨t0, t1, t2, t3, t4, t5, t6, t7, t8⟩ := bx9_c9 k2
      have x6V : Ex (fun g => g = J ∨ g = F + 1) w6 V := (x67.mono (S' := fun g => g = J ∨ g = F + 1) (fun _ _ e => .inl e)).trans kx (fun _ _ e => .inr e)
      have xrV : Ex (fun g => some g = (Value.slice pt' k ct').ownBlock ∨ g = J ∨ g = F + 1) wr V := (HX6.out.mono (S' := fun g => some g = (Value.slice pt' k ct').ownBlock ∨ g = J ∨ g = F + 1) (fun _ _ e => .inl e)).trans x6V (fun _ _ e => .inr e)
      have x3V : Ex (fun g => some g = (Value.slice pt' k ct').ownBlock ∨ g = J ∨ g = F + 1) w3 V := (HS.out.x.mono (S' := fun g => some g = (Value.slice pt' k ct').ownBlock ∨ g = J ∨ g = F + 1) (fun _ _ e => .inl e)).trans xrV (fun _ _ e => e)
      have x2V : Ex (fun g => some g = (Value.slice pt' k ct').ownBlock ∨ g = J ∨ g = F + 1) w2 V := (Ex.of_below (S := fun g => some g = (Value.slice pt' k ct').ownBlock ∨ g = J ∨ g = F + 1) HB23.out).trans x3V (fun _ _ e => e)
      have hS := HSZ.out
      have hle1 : w.heap.size ≤ w1.heap.size := HB1.out.size
      have away : ∀ {e : TypeId} {z B : Nat} {v : Value} {n : Nat} {xs : List Value}, w1.heap.size ≤ B → e ≠ 42 → w2.ownsRow B e z v n xs → ∀ g, v.ownBlock = some g → ¬ (some g = (Value.slice pt' k ct').ownBlock ∨ g = J ∨ g = F + 1) := by
        intro e z B v n xs hB hne ho g hg hh
        have h1 := own_base ho g hg
        have h2 := (World.ownsRow.lt ho g hg).2
        rw [HJ.out] at h2
        rcases hh with hh | hh | hh
        · exact own_apart ho HOW.out.kt hne g hg hh
        · omega
        · omega
      have hob : (Value.slice pt' m ct').ownBlock = (Value.slice pt' k ct').ownBlock := by cases pt' <;> rfl
      have awayt : ∀ g, (Value.slice pt' m ct').ownBlock = some g → ¬ (g = J ∨ g = F + 1) := fun g hg hh => by have := HSB.out g (hob.symm.trans hg); omega
      refine ⟨by simp, .tuple #[.agg #[.int .i64 A', .int .i64 B', .slice p' n' c', .slice pb' nb' cb', .slice ps' ns' cs', .slice pm' nm' cm', .slice pt' m ct', .int .i64 N', .int .i64 T'], .slice gp ng gc, .int .i64 0], ?_, ⟨⟨A', B', p', n', c', l', pb', nb', cb', lb', ps', ns', cs', ls', pm', nm', cm', lm', pt', m, ct', lft hf lt', N', T'⟩, gp, gc, by first | rfl | rw [hng], ?_, ?_, ⟨rfl, rfl, rfl, rfl, rfl, rfl, rfl, rfl, rfl, rfl, rfl, rfl⟩, rfl, HM6.out.2.2⟩, ?_⟩
      · simp [results, Try.results9, go_sem, t0, t1, t2, t3, t4, t5, t6, t7, t8]
      · have h1 := mine_kept HSG.out xrV (fun g hg hh => by
          have h2 := own_base HSG.out g hg
          rcases hh with hh | hh | hh
          · have := HSB.out g hh.symm; omega
          · omega
          · omega)
        obtain ⟨gp2, gc2, e2, hr2, _, _⟩ := mine_full h1
        simp only [Value.slice.injEq] at e2
        rw [e2.1]; exact hr2
      · exact ⟨own_mono (own_stays HOW.out.kp x2V (away (Nat.le_refl _) (by decide) HOW.out.kp)) hle1, alli_ex HOW.out.jp x2V (away (Nat.le_refl _) (by decide) HOW.out.kp), own_mono (own_stays HOW.out.kb x2V (away (Nat.le_refl _) (by decide) HOW.out.kb)) hle1, alli_ex HOW.out.jb x2V (away (Nat.le_refl _) (by decide) HOW.out.kb), own_mono (own_stays HOW.out.ks x2V (away (Nat.le_refl _) (by decide) HOW.out.ks)) hle1, alli_ex HOW.out.js x2V (away (Nat.le_refl _) (by decide) HOW.out.ks), own_mono (own_stays HOW.out.km x2V (away (Nat.le_refl _) (by decide) HOW.out.km)) hle1, alli_ex HOW.out.jm x2V (away (Nat.le_refl _) (by decide) HOW.out.km), own_mono (own_stays HM6.out.1 x6V awayt) hle1, alli_ex HM6.out.2.1 x6V awayt⟩
      · have h9 : Below w.heap.size w V := HB1.out.trans ((HB13.out.mono hle1).trans (x3V.below (B := w.heap.size) (Nat.le_trans hle1 HB13.out.size) (fun j hj hh => by
          have h5 := HF.out
          rcases hh with hh | hh | hh
          · have := HSB.out j hh.symm; omega
          · omega
          · omega)))
        first | exact h9 | (rw [← HF.out]; exact h9)
end Go.Proofs.Ytjbfnibhmojlfaa
