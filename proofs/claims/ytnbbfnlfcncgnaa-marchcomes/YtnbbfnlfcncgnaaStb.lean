/- march.Step: what is told of a right world. -/
import Derived.Test.YtnbbfnlfcncgnaaSta
namespace Go.Proofs.Ytnbbfnlfcncgnaa
open Go.RowKit
set_option linter.unusedVariables false

theorem mapg_ex {S : Nat → Prop} {w w' : World} {b n : Nat} {f : Int → Option Cel} (h : mapg w b n f) (he : Ex S w w') (hn : ¬ S b) : mapg w' b n f := by
  obtain ⟨D, ⟨es, clock, h1, h2⟩, h3⟩ := h
  refine ⟨D, ⟨es, clock, ?_, h2⟩, h3⟩
  rw [he.block b (heap_lt h1) hn]; exact h1
theorem mapg_not {e : TypeId} {z B k : Nat} {w : World} {v : Value} {xs : List Value} {b n : Nat} {f : Int → Option Cel} (h : w.ownsRow B e z v k xs) (hm : mapg w b n f) : ∀ g, v.ownBlock = some g → g ≠ b := by
  intro g hg e2
  subst e2
  obtain ⟨D, ⟨es, clock, h1, h2⟩, h3⟩ := hm
  rcases h.2 with ⟨h0, _⟩ | ⟨g1, cap, cur, hv, hB, hblk, hr⟩
  · rw [h0] at hg; cases hg
  · rw [hv] at hg
    simp [Value.ownBlock] at hg
    subst hg
    rw [hblk] at h1; cases h1
theorem mapg_lt {w : World} {b n : Nat} {f : Int → Option Cel} (hm : mapg w b n f) : b < w.heap.size := by
  obtain ⟨D, ⟨es, clock, h1, h2⟩, h3⟩ := hm
  exact heap_lt h1
theorem opn_nxs {A B : Int} {l : List Int} {a b c : Cel} (h : nxs A B l a b (some c)) : ∃ W H : Nat, A = W ∧ B = H ∧ inf W H c ∧ pa l (ixc W c) ≠ 1 := by
  rcases h with ⟨E, _, _, h⟩ | ⟨W, H, far, R, hg, h0, hT, hR⟩
  · cases h
  · obtain ⟨rfl, rfl, hok, hia, hib, ra, rb, hs⟩ := hg
    obtain ⟨h1, _, h3⟩ := way_at hs hT hR.symm
    exact ⟨W, H, rfl, rfl, h1, h3⟩
theorem gos_fits {A B : Int} {l : List Int} {f : Int → Option Cel} {L : List Trp} {t : Trp} {c : Cel} (hA : fits A) (hB : fits B) (h : gos A B l f L t c) : fits c.x ∧ fits c.y := by
  obtain ⟨b, _, h2, _⟩ := h
  obtain ⟨W, H, rfl, rfl, ⟨x, y, rfl, hx, hy⟩, _⟩ := opn_nxs h2
  unfold fits at *
  simp only
  omega
theorem mst_fits {A B : Int} {l : List Int} {f : Int → Option Cel} {L0 : List Trp} (hA : fits A) (hB : fits B) (h0 : ∀ t ∈ L0, fitt t) {k : Nat} {L : List Trp} {I : List Int} (h : Mst A B l f L0 k L I) : (∀ t ∈ L, fitt t) ∧ ∀ i ∈ I, fits i := by
  induction h with
  | zero => exact ⟨h0, fun i hi => by cases hi⟩
  | stay h1 h2 h3 ih => exact ih
  | go h1 h2 h3 ih =>
    have ht := ih.1 _ (List.mem_of_getElem? h2)
    have hc := gos_fits hA hB h3
    refine ⟨fun t ht2 => ?_, fun i hi => ?_⟩
    · rcases List.mem_or_eq_of_mem_set ht2 with h | rfl
      · exact ih.1 t h
      · exact ⟨ht.1, ht.2.1, ht.2.2.1, hc.1, hc.2, ht.2.2.2.2.2.1, ht.2.2.2.2.2.2⟩
    · rw [List.mem_append] at hi
      rcases hi with hi | hi
      · exact ih.2 i hi
      · simp at hi; rw [hi]; exact ht.1
/-- A troop's box at a round's head, and one of a cell behind it. -/
theorem box72 {w w4 w5 V : World} {a b c d e f g x y : Value} {t t' : TypeId} {G : Nat} (hG : w.heap.size = G) (h4 : w.alloc (.cells #[a, b, c, d, e, f, g] t) = w4) (h5 : w4.alloc (.cells #[x, y] t') = w5) (hb : Below w5.heap.size w5 V) :
    V.cell? ⟨G, 0, none⟩ = some a ∧ V.cell? ⟨G, 3, none⟩ = some d ∧ V.cell? ⟨G, 4, none⟩ = some e ∧ V.cell? ⟨G + 1, 0, none⟩ = some x ∧ V.cell? ⟨G + 1, 1, none⟩ = some y := by
  subst h4 h5 hG
  refine ⟨?_, ?_, ?_, ?_, ?_⟩
  all_goals
    rw [hb.cell (by simp <;> omega)]
    simp [go_sem]
set_option maxRecDepth 20000 in
set_option maxHeartbeats 8000000 in
theorem Step_ok (s : Wld) (W H : Nat) (pl : Option Addr) (nl cl : Nat) (gs : List Goe) (w : World) (h : s.fit w) (hk : okw s W H) (hg : gor w pl gs) (hx : ∀ t ∈ gs, fitg t) (hn : gs.length = nl) (h200 : nl ≤ 200) :
    Calls Try.prog 9 #[s.val, .slice pl nl cl] w fun e w' => (∃ (s' : Wld) (gp : Option Addr) (gc : Nat) (I : List Int), e = .returned (.tuple #[s'.val, .slice gp I.length gc, .int .i64 0]) ∧ row vi w' gp I ∧ wown w.heap.size w' s' ∧ likew s s' ∧ s'.nt = s.nt ∧ Mst s.A s.B s.l (gol gs) s.lt s.nt s'.lt I) ∧ Below w.heap.size w w' := by
  have HCK : Hid (∀ V, Below w.heap.size w V → Calls Try.prog 19 #[s.val] V fun e w' => e = .returned (.int .i64 0) ∧ Below V.heap.size V w') := fun V hV => Check_world s 0 V (Wld.fit_below h hV) (wre_of hk)
  have HBY : Hid (∀ V, Below w.heap.size w V → Calls Try.prog 38 #[.slice pl nl cl] V fun e w' => (∃ b, e = .returned (.map (some b)) ∧ mapg w' b 200 (gol gs)) ∧ Below V.heap.size V w') := fun V hV => byId_any pl nl cl gs V (gor_below hg hV) hn h200 hx
  have hsz : s.n ≤ 1600 ∧ s.ns ≤ 8 ∧ s.nm ≤ 1600 := by
    have h1 := h.h; have h2 := hk.f.2.2.1; have h3 := wh_le hk.f.1 hk.f.2.1; have h4 := hk.pl.1; have h5 := h.hs; have h6 := h.hb; have h7 := hk.nb; have h8 := hk.mn.1; have h9 := h.hm
    omega
  have hnb : s.nb ≤ 8 := hk.nb
  have hnt : s.nt ≤ 100 := hk.nt
  have HCP : Hid (∀ V, Below w.heap.size w V → Calls Try.prog 37 #[s.val] V fun e w' => (∃ s' : Wld, e = .returned s'.val ∧ wown V.heap.size w' s' ∧ alike s s') ∧ Below V.heap.size V w') := fun V hV => Copy_any s V (Wld.fit_below h hV) (by omega) (by omega) (by omega) (by omega) (by omega)
  have HLT : Hid (s.lt.length = s.nt) := h.ht
  have HFT : Hid (∀ t ∈ s.lt, fitt t) := h.xt
  have HFAB : Hid (fits s.A ∧ fits s.B) := ⟨h.fA, h.fB⟩
  have HRW : Hid (row vi w s.p s.l) := h.r
  have HLN : Hid (s.l.length = s.n ∧ s.n ≤ 9223372036854775807) := ⟨h.h, h.m⟩
  clear h hk hg hx hn hsz hnb
  obtain ⟨A, B, p, n, c, l, pb, nb, cb, lb, ps, ns, cs, ls, pm, nm, cm, lm, pt, nt, ct, lt, N, T⟩ := s
  unfold Wld.val at *
  dsimp only at *
  have HNX : Hid (∀ ax ay bx by_ V, Below w.heap.size w V → Calls Try.prog 39 #[.agg #[.int .i64 A, .int .i64 B, .slice p n c], .agg #[.int .i64 ax, .int .i64 ay], .agg #[.int .i64 bx, .int .i64 by_]] V fun e w' => (∃ o, e = .returned (.tuple #[celv o, .bool o.isSome]) ∧ nxs A B l ⟨ax, ay⟩ ⟨bx, by_⟩ o) ∧ Below V.heap.size V w') := fun ax ay bx by_ V hV => mnext_any A B p n c l ax ay bx by_ V (row_below HRW.out hV) HLN.out.1 HLN.out.2
  obtain ⟨F, hF⟩ : ∃ F, w.heap.size = F := ⟨_, rfl⟩
  obtain ⟨wa, hwa⟩ : ∃ wa, w.alloc (.cells #[.int .i64 A, .int .i64 B, .slice p n c, .slice pb nb cb, .slice ps ns cs, .slice pm nm cm, .slice pt nt ct, .int .i64 N, .int .i64 T] 28) = wa := ⟨_, rfl⟩
  have xa : bx9 wa F (.int .i64 A) (.int .i64 B) (.slice p n c) (.slice pb nb cb) (.slice ps ns cs) (.slice pm nm cm) (.slice pt nt ct) (.int .i64 N) (.int .i64 T) := by rw [← hwa, ← hF]; exact box9_new _ _ _ _ _ _ _ _ _ _
  have sa : wa.heap.size = F + 1 := by rw [← hwa, World.size_alloc, hF]
  obtain ⟨w0, hw0⟩ : ∃ w0, wa.alloc (.cells #[.int .i64 0, .int .i64 0, .slice none 0 0, .slice none 0 0, .slice none 0 0, .slice none 0 0, .slice none 0 0, .int .i64 0, .int .i64 0] 28) = w0 := ⟨_, rfl⟩
  have ba : Below wa.heap.size wa w0 := by rw [← hw0]; exact alloc_below _ _
  have HX0 : Hid (bx9 w0 F (.int .i64 A) (.int .i64 B) (.slice p n c) (.slice pb nb cb) (.slice ps ns cs) (.slice pm nm cm) (.slice pt nt ct) (.int .i64 N) (.int .i64 T)) := bx9_below xa ba
  have HR0 : Hid (bx9 w0 (F + 1) (.int .i64 0) (.int .i64 0) (.slice none 0 0) (.slice none 0 0) (.slice none 0 0) (.slice none 0 0) (.slice none 0 0) (.int .i64 0) (.int .i64 0)) := by unfold Hid; rw [← hw0, ← sa]; exact box9_new _ _ _ _ _ _ _ _ _ _
  have hB0 : Below w.heap.size w w0 := by
    have h1 : Below w.heap.size w wa := by rw [← hwa]; exact alloc_below _ _
    exact below_call h1 h1.size ba
  have HB0 : Hid (Below w.heap.size w w0) := hB0
  have HF : Hid (w.heap.size = F) := hF
  obtain ⟨z0, z1, z2, z3, z4, z5, z6, z7, z8⟩ := bx9_c9 HX0.out
  clear xa ba hB0
  go_enter Try.func9, Try.ntmps9
  go_wp2_with fail
  refine (HCK.out w0 HB0.out).mono ?_
  rintro e w1 ⟨rfl, hb1⟩
  have HB1 : Hid (Below w.heap.size w w1) := below_call HB0.out HB0.out.size hb1
  have HR1 : Hid (bx9 w1 (F + 1) (.int .i64 0) (.int .i64 0) (.slice none 0 0) (.slice none 0 0) (.slice none 0 0) (.slice none 0 0) (.slice none 0 0) (.int .i64 0) (.int .i64 0)) := bx9_below HR0.out hb1
  have HX1 : Hid (bx9 w1 F (.int .i64 A) (.int .i64 B) (.slice p n c) (.slice pb nb cb) (.slice ps ns cs) (.slice pm nm cm) (.slice pt nt ct) (.int .i64 N) (.int .i64 T)) := bx9_below HX0.out hb1
  clear z0 z1 z2 z3 z4 z5 z6 z7 z8 hb1 hw0 hwa sa hF HCK HX0 HR0
  obtain ⟨z0, z1, z2, z3, z4, z5, z6, z7, z8⟩ := bx9_c9 HX1.out
  have d200 : decide ((200 : Int) < nl) = false := by simp; omega
  go_wp2_with fail
  refine (HCP.out w1 HB1.out).mono ?_
  rintro e w2 ⟨⟨s', rfl, ho, hal⟩, hb2⟩
  obtain ⟨A', B', p', n', c', l', pb', nb', cb', lb', ps', ns', cs', ls', pm', nm', cm', lm', pt', nt', ct', lt', N', T'⟩ := s'
  unfold alike at hal
  simp only at hal
  obtain ⟨rfl, rfl, rfl, rfl, rfl, rfl, rfl, rfl, rfl, rfl, rfl, rfl, rfl, rfl⟩ := hal
  have HB2 : Hid (Below w1.heap.size w1 w2) := hb2
  have hB2 : Below w.heap.size w w2 := below_call HB1.out HB1.out.size hb2
  have HR2 : Hid (bx9 w2 (F + 1) (.int .i64 0) (.int .i64 0) (.slice none 0 0) (.slice none 0 0) (.slice none 0 0) (.slice none 0 0) (.slice none 0 0) (.int .i64 0) (.int .i64 0)) := bx9_below HR1.out hb2
  clear z0 z1 z2 z3 z4 z5 z6 z7 z8 hb2 HCP
  obtain ⟨J, hJ⟩ : ∃ J, w2.heap.size = J := ⟨_, rfl⟩
  obtain ⟨w3, hw3⟩ : ∃ w3, w2.alloc (.cells #[.int .i64 A', .int .i64 B', .slice p' n' c', .slice pb' nb' cb', .slice ps' ns' cs', .slice pm' nm' cm', .slice pt' nt' ct', .int .i64 N', .int .i64 T'] 28) = w3 := ⟨_, rfl⟩
  have hb23 : Below w2.heap.size w2 w3 := by rw [← hw3]; exact alloc_below _ _
  have HX3 : Hid (bx9 w3 J (.int .i64 A') (.int .i64 B') (.slice p' n' c') (.slice pb' nb' cb') (.slice ps' ns' cs') (.slice pm' nm' cm') (.slice pt' nt' ct') (.int .i64 N') (.int .i64 T')) := by unfold Hid; rw [← hw3, ← hJ]; exact box9_new _ _ _ _ _ _ _ _ _ _
  have s3 : w3.heap.size = J + 1 := by rw [← hw3, World.size_alloc, hJ]
  have HB3 : Hid (Below w.heap.size w w3) := below_call hB2 hB2.size hb23
  go_wp2_with fail
  refine (HBY.out w3 HB3.out).mono ?_
  rintro e w4 ⟨⟨bm, rfl, hmap⟩, hb4⟩
  have hb24 : Below w2.heap.size w2 w4 := below_call hb23 hb23.size hb4
  have HB24 : Hid (Below w2.heap.size w2 w4) := hb24
  have hb14 : Below w1.heap.size w1 w4 := below_call HB2.out HB2.out.size hb24
  have HB14 : Hid (Below w1.heap.size w1 w4) := hb14
  have HX4 : Hid (bx9 w4 J (.int .i64 A') (.int .i64 B') (.slice p' n' c') (.slice pb' nb' cb') (.slice ps' ns' cs') (.slice pm' nm' cm') (.slice pt' nt' ct') (.int .i64 N') (.int .i64 T')) := bx9_below HX3.out hb4
  obtain ⟨C, hC⟩ : ∃ C, w4.heap.size = C := ⟨_, rfl⟩
  have HSB : Hid (∀ g, (Value.slice pt' nt' ct').ownBlock = some g → w1.heap.size ≤ g ∧ g < J) := fun g hg => ⟨own_base ho.kt g hg, by rw [← hJ]; exact alli_lt ho.jt g hg⟩
  have hs4 : J + 1 ≤ C := by rw [← hC, ← s3]; exact hb4.size
  have HSZ : Hid (F + 1 < w1.heap.size ∧ w1.heap.size ≤ J ∧ J + 1 ≤ C ∧ w4.heap.size = C) := ⟨bx9_lt HR1.out, by rw [← hJ]; exact HB2.out.size, hs4, hC⟩
  have HI0 : Hid (tinv w4 w1.heap.size C nt' ct' pt' A' B' l' (gol gs) lt' 0 lt' [] (.slice none 0 0) w4) := ⟨Ex.refl _ _, minet_kept ho.kt hb24, alli_below ho.jt hb24, mine_nil _ _ _ _, .zero⟩
  have HV : Hid (∀ V, Ex (fun g => some g = (Value.slice pt' nt' ct').ownBlock) w4 V → Below w1.heap.size w1 V ∧ bx9 V J (.int .i64 A') (.int .i64 B') (.slice p' n' c') (.slice pb' nb' cb') (.slice ps' ns' cs') (.slice pm' nm' cm') (.slice pt' nt' ct') (.int .i64 N') (.int .i64 T') ∧ mapg V bm 200 (gol gs)) := fun V hV =>
    ⟨HB14.out.trans (hV.below HB14.out.size (fun k hk e => by have := (HSB.out k e.symm).1; omega)), bx9_ex HX4.out hV (fun e => by have := (HSB.out J e.symm).2; omega), mapg_ex hmap hV (fun e => mapg_not (minet_kept ho.kt hb24) hmap bm e.symm rfl)⟩
  have HOW : Hid (wown w1.heap.size w2 ⟨A', B', p', n', c', l', pb', nb', cb', lb', ps', ns', cs', ls', pm', nm', cm', lm', pt', nt', ct', lt', N', T'⟩) := ho
  have HJ : Hid (w2.heap.size = J) := hJ
  obtain ⟨z0, z1, z2, z3, z4, z5, z6, z7, z8⟩ := bx9_c9 HX4.out
  clear ho hb23 s3 hC hb14 hb24 hb4 hB2 hmap hs4 HX4 HX3
  go_wp2_with fail
  clear hw3 hJ
  go_loopw [10, 34] (fun a b wr => ∃ k : Nat, b = .int .i64 (k : Int) ∧ k ≤ nt' ∧ Hid (∃ L I, tinv w4 w1.heap.size C nt' ct' pt' A' B' l' (gol gs) lt' k L I a wr)) (fun _ b _ => nt' - (intOf b).toNat)
  case atStart => exact ⟨0, rfl, by omega, _, _, HI0.out⟩
  case round =>
    obtain ⟨k, rfl, hk, L, I, hS⟩ := hrel
    have HS : Hid (tinv w4 w1.heap.size C nt' ct' pt' A' B' l' (gol gs) lt' k L I u10 wr) := hS
    clear hS
    obtain ⟨HB1r, HXr, hMr⟩ := HV.out wr HS.out.x
    have HLL : Hid (L.length = nt') := by have := (mst_len HS.out.m).1; have := HLT.out; unfold Hid; omega
    clear z0 z1 z2 z3 z4 z5 z6 z7 z8
    by_cases hlt : k < nt'
    · have hkl : k < L.length := by rw [HLL.out]; exact hlt
      obtain ⟨g, rfl⟩ := minet_ptr HS.out.t HLL.out (by omega)
      have hgC : w1.heap.size ≤ g ∧ g < J := HSB.out g rfl
      obtain ⟨t, ht⟩ : ∃ t, L[k]? = some t := ⟨_, List.getElem?_eq_getElem hkl⟩
      have HT : Hid (L[k]? = some t) := ht
      obtain ⟨c0, c1, c2, c3, c4, c5, c6⟩ := minet_at HS.out.t HLL.out ht
      have hft : fitt t := (mst_fits HFAB.out.1 HFAB.out.2 HFT.out HS.out.m).1 t (List.mem_of_getElem? ht)
      have hle : I.length ≤ 1000000 := by have := (mst_len HS.out.m).2; omega
      obtain ⟨ti, to_, tk, tx, ty, tf, td⟩ := t
      simp only at c0 c1 c2 c3 c4 c5 c6
      obtain ⟨w5, hw5⟩ : ∃ w5, wr.alloc (.cells #[.int .i64 ti, .int .i64 to_, .int .i64 tk, .int .i64 tx, .int .i64 ty, .int .i64 tf, .int .i64 td] 41) = w5 := ⟨_, rfl⟩
      have b5 : Below wr.heap.size wr w5 := by rw [← hw5]; exact alloc_below _ _
      have hlook := mapg_look (mapg_below hMr b5) hft.1
      obtain ⟨G, hG⟩ : ∃ G, wr.heap.size = G := ⟨_, rfl⟩
      have s5 : w5.heap.size = G + 1 := by rw [← hw5, World.size_alloc, hG]
      obtain ⟨g0, -, -, g3, g4, -, -⟩ := boxt hG hw5 (Below.refl _ _)
      have l1 : (k : Int) < nt' := by omega
      have l2 : (0 : Int) ≤ k := by omega
      have HB1r2 : Hid (Below w1.heap.size w1 wr) := HB1r
      have HXr2 : Hid (bx9 wr J (.int .i64 A') (.int .i64 B') (.slice p' n' c') (.slice pb' nb' cb') (.slice ps' ns' cs') (.slice pm' nm' cm') (.slice (some ⟨g, 0, none⟩) nt' ct') (.int .i64 N') (.int .i64 T')) := HXr
      clear ht hft hMr HB1r HXr hkl
      cases hf : gol gs ti with
      | none =>
        have HY : Hid (sty A' B' l' (gol gs) L ⟨ti, to_, tk, tx, ty, tf, td⟩) := .inl hf
        rw [hf] at hlook
        unfold celv at hlook
        simp only [Option.isSome_none] at hlook
        clear hf
        have HS6 : Hid (tinv w4 w1.heap.size C nt' ct' (some ⟨g, 0, none⟩) A' B' l' (gol gs) lt' (k + 1) L I u10 (w5.alloc (.cells #[.int .i64 0, .int .i64 0] 31))) := tinv_stay (tinv_below (tinv_below HS.out b5) (alloc_below _ _)) HT.out HY.out
        clear b5
        go_wp2_with fail
        go_roundw
        case rel => exact ⟨k + 1, by go_num, by omega, _, _, HS6.out⟩
        case measure => simp [intOf]; omega
      | some d =>
        obtain ⟨bx, by_⟩ := d
        have HGF : Hid (gol gs ti = some ⟨bx, by_⟩) := hf
        rw [hf] at hlook
        unfold celv at hlook
        simp only [Option.isSome_some] at hlook
        clear hf
        obtain ⟨w6, hw6⟩ : ∃ w6, w5.alloc (.cells #[.int .i64 bx, .int .i64 by_] 31) = w6 := ⟨_, rfl⟩
        have b6 : Below wr.heap.size wr w6 := below_call b5 b5.size (by rw [← hw6]; exact alloc_below _ _)
        have hB6 : Below w1.heap.size w1 w6 := below_call HB1r2.out HB1r2.out.size b6
        obtain ⟨q0, q3, q4, q5, q6⟩ := box72 hG hw5 hw6 (Below.refl _ _)
        obtain ⟨y0, y1, y2, -, -, -, -, -, -⟩ := bx9_c9 (bx9_below HX1.out hB6)
        have HS6 : Hid (tinv w4 w1.heap.size C nt' ct' (some ⟨g, 0, none⟩) A' B' l' (gol gs) lt' k L I u10 w6) := tinv_below HS.out b6
        have HB6 : Hid (Below wr.heap.size wr w6) := b6
        have HB06 : Hid (Below w.heap.size w w6) := HB1.out.trans (hB6.mono HB1.out.size)
        have HQ : Hid (∀ V, Below w6.heap.size w6 V → V.cell? ⟨G, 0, none⟩ = some (.int .i64 ti)) := fun V hV => (box72 hG hw5 hw6 hV).1
        have s6 : w6.heap.size = G + 1 + 1 := by rw [← hw6, World.size_alloc, s5]
        have HG6 : Hid (w6.heap.size = G + 1 + 1 ∧ J < G) := ⟨s6, by have := HSZ.out; have := HS.out.x.size; omega⟩
        clear b5 b6 hB6 s6
        go_wp2_with fail
        refine (HNX.out tx ty bx by_ w6 HB06.out).mono ?_
        rintro e w7 ⟨⟨o, rfl, ho⟩, hb7⟩
        have HB7 : Hid (Below w6.heap.size w6 w7) := hb7
        have hJ7 := bx9_below (bx9_below HXr2.out HB6.out) hb7
        have HJ7 : Hid (bx9 w7 J (.int .i64 A') (.int .i64 B') (.slice p' n' c') (.slice pb' nb' cb') (.slice ps' ns' cs') (.slice pm' nm' cm') (.slice (some ⟨g, 0, none⟩) nt' ct') (.int .i64 N') (.int .i64 T')) := hJ7
        have HS7 : Hid (tinv w4 w1.heap.size C nt' ct' (some ⟨g, 0, none⟩) A' B' l' (gol gs) lt' k L I u10 w7) := tinv_below HS6.out hb7
        clear q0 q3 q4 q5 q6 y0 y1 y2 hb7 hJ7 hlook c0 c1 c2 c3 c4 c5 c6 g0 g3 g4 hw5 hw6
        cases o with
        | none =>
          have HY : Hid (sty A' B' l' (gol gs) L ⟨ti, to_, tk, tx, ty, tf, td⟩) := .inr ⟨_, HGF.out, .inl ho⟩
          unfold celv
          simp only [Option.isSome_none]
          clear ho
          have HS8 : Hid (tinv w4 w1.heap.size C nt' ct' (some ⟨g, 0, none⟩) A' B' l' (gol gs) lt' (k + 1) L I u10 (w7.alloc (.cells #[.int .i64 0, .int .i64 0] 31))) := tinv_stay (tinv_below HS7.out (alloc_below _ _)) HT.out HY.out
          go_wp2_with fail
          go_roundw
          case rel => exact ⟨k + 1, by go_num, by omega, _, _, HS8.out⟩
          case measure => simp [intOf]; omega
        | some d =>
          obtain ⟨cx, cy⟩ := d
          have HNC : Hid (nxs A' B' l' ⟨tx, ty⟩ ⟨bx, by_⟩ (some ⟨cx, cy⟩)) := ho
          unfold celv
          simp only [Option.isSome_some]
          clear ho
          obtain ⟨K, hK⟩ : ∃ K, w7.heap.size = K := ⟨_, rfl⟩
          obtain ⟨w8, hw8⟩ : ∃ w8, w7.alloc (.cells #[.int .i64 cx, .int .i64 cy] 31) = w8 := ⟨_, rfl⟩
          have b8 : Below w7.heap.size w7 w8 := by rw [← hw8]; exact alloc_below _ _
          have hk8 : w8.heap[K]? = some (.cells #[.int .i64 cx, .int .i64 cy] 31) := by rw [← hw8, ← hK]; exact World.alloc_heap_new w7 _
          have HK8 : Hid (w8.heap[K]? = some (.cells #[.int .i64 cx, .int .i64 cy] 31) ∧ K < w8.heap.size) := ⟨hk8, heap_lt hk8⟩
          obtain ⟨k0, k1, -, -⟩ := free2 hk8
          have HS8 : Hid (tinv w4 w1.heap.size C nt' ct' (some ⟨g, 0, none⟩) A' B' l' (gol gs) lt' k L I u10 w8) := tinv_below HS7.out b8
          have HJ8 : Hid (bx9 w8 J (.int .i64 A') (.int .i64 B') (.slice p' n' c') (.slice pb' nb' cb') (.slice ps' ns' cs') (.slice pm' nm' cm') (.slice (some ⟨g, 0, none⟩) nt' ct') (.int .i64 N') (.int .i64 T')) := bx9_below HJ7.out b8
          obtain ⟨-, -, -, -, -, -, z6, -, -⟩ := bx9_c9 HJ8.out
          have HB8 : Hid (Below w6.heap.size w6 w8) := below_call HB7.out HB7.out.size b8
          clear b8 hk8
          obtain ⟨b, hb⟩ : ∃ b, L.any (onb cx cy) = b := ⟨_, rfl⟩
          have HFR : Hid (Calls Try.prog 40 #[.slice (some ⟨g, 0, none⟩) nt' ct', .agg #[.int .i64 cx, .int .i64 cy]] w8 fun e w' => e = .returned (.bool (!b)) ∧ Below w8.heap.size w8 w') := isFree_any _ nt' ct' L cx cy b w8 (minet_row HS8.out.t HLL.out) HLL.out (by omega) hb
          cases b with
          | true =>
            have HY : Hid (sty A' B' l' (gol gs) L ⟨ti, to_, tk, tx, ty, tf, td⟩) := .inr ⟨_, HGF.out, .inr ⟨_, HNC.out, hb⟩⟩
            clear hb
            go_wp2_with fail
            refine Calls.mono HFR.out ?_
            rintro e w9 ⟨rfl, hb9⟩
            have HS9 : Hid (tinv w4 w1.heap.size C nt' ct' (some ⟨g, 0, none⟩) A' B' l' (gol gs) lt' (k + 1) L I u10 w9) := tinv_stay (tinv_below HS8.out hb9) HT.out HY.out
            clear hb9 k0 k1 z6 hw8
            go_wp2_with fail
            go_roundw
            case rel => exact ⟨k + 1, by go_num, by omega, _, _, HS9.out⟩
            case measure => simp [intOf]; omega
          | false =>
            have HGO : Hid (gos A' B' l' (gol gs) L ⟨ti, to_, tk, tx, ty, tf, td⟩ ⟨cx, cy⟩) := ⟨_, HGF.out, HNC.out, hb⟩
            clear hb
            go_wp2_with fail
            refine Calls.mono HFR.out ?_
            rintro e w9 ⟨rfl, hb9⟩
            have HS9 : Hid (tinv w4 w1.heap.size C nt' ct' (some ⟨g, 0, none⟩) A' B' l' (gol gs) lt' k L I u10 w9) := tinv_below HS8.out hb9
            have hJ9 := bx9_below HJ8.out hb9
            clear k0 k1 z6 hw8
            obtain ⟨-, -, -, -, -, -, z6, -, -⟩ := bx9_c9 hJ9
            obtain ⟨k0, k1, -, -⟩ := free2 ((hb9.block K HK8.out.2).trans HK8.out.1)
            obtain ⟨c0, c1, c2, c3, c4, c5, c6⟩ := minet_at HS9.out.t HLL.out HT.out
            simp only at c3 c4
            have f3 := minet_free HS9.out.t HLL.out (k * 7 + 3)
            have f4 := minet_free HS9.out.t HLL.out (k * 7 + 4)
            have q0 := HQ.out w9 (below_call HB8.out HB8.out.size hb9)
            have hne : ¬ G = g := by have := HG6.out.2; omega
            have HX : Hid (∀ W, W = (w9.setCell ⟨g, k * 7 + 3, none⟩ (.int .i64 cx)).setCell ⟨g, k * 7 + 3 + 1, none⟩ (.int .i64 cy) → Ex (fun g' => some g' = (Value.slice (some ⟨g, 0, none⟩) nt' ct').ownBlock) w4 W ∧ minet w1.heap.size W (.slice (some ⟨g, 0, none⟩) nt' ct') (L.set k (Trp.go ⟨ti, to_, tk, tx, ty, tf, td⟩ ⟨cx, cy⟩)) ∧ alli W (.slice (some ⟨g, 0, none⟩) nt' ct') ∧ mine 3 vi C W u10 I) :=
              fun W hW => tinv_set HS9.out (by have := HSZ.out; omega) HLL.out HT.out W hW
            have hB49 : C ≤ w9.heap.size := by have := HS9.out.x.size; have := HSZ.out.2.2.2; omega
            obtain ⟨W9, hW9⟩ : ∃ W, (w9.setCell ⟨g, k * 7 + 3, none⟩ (.int .i64 cx)).setCell ⟨g, k * 7 + 3 + 1, none⟩ (.int .i64 cy) = W := ⟨_, rfl⟩
            obtain ⟨x1, x2, x3, x4⟩ := HX.out W9 hW9.symm
            have H9 : Hid (Ex (fun g' => some g' = (Value.slice (some ⟨g, 0, none⟩) nt' ct').ownBlock) w4 W9 ∧ minet w1.heap.size W9 (.slice (some ⟨g, 0, none⟩) nt' ct') (L.set k (Trp.go ⟨ti, to_, tk, tx, ty, tf, td⟩ ⟨cx, cy⟩)) ∧ alli W9 (.slice (some ⟨g, 0, none⟩) nt' ct') ∧ mine 3 vi C W9 u10 I) := ⟨x1, x2, x3, x4⟩
            have H9s : Hid (C ≤ W9.heap.size) := by unfold Hid; rw [← hW9]; simp [World.setCell]; exact hB49
            have H9z : Hid (W9.heap.size = w9.heap.size) := by unfold Hid; rw [← hW9]; simp [World.setCell]
            have HW9 : Hid ((w9.setCell ⟨g, k * 7 + 3, none⟩ (.int .i64 cx)).setCell ⟨g, k * 7 + 3 + 1, none⟩ (.int .i64 cy) = W9) := hW9
            clear hb9 hJ9 x1 x2 x3 x4 hB49 hW9
            go_wp2_with (at_builtin; go_loud (rw [HW9.out]; refine list_one ki _ rfl _ _ rfl C u10 I rfl (mine_below H9.out.2.2.2 (alloc_below _ _)) ⟨w9.heap.size, 0, none⟩ 1 ti rfl (by have h := new_one W9 3 (.int .i64 ti); rw [H9z.out] at h; exact h) hle (by rw [World.size_alloc]; have := H9s.out; omega) ?_))
            intro g10 cap10 w10 hm10 hg10
            have bA : Below W9.heap.size W9 (W9.alloc (.cells #[.int .i64 ti] 3)) := alloc_below _ _
            have HS10 : Hid (tinv w4 w1.heap.size C nt' ct' (some ⟨g, 0, none⟩) A' B' l' (gol gs) lt' (k + 1) (L.set k (Trp.go ⟨ti, to_, tk, tx, ty, tf, td⟩ ⟨cx, cy⟩)) (I ++ [ti]) (.slice (some ⟨g10, 0, none⟩) (I.length + 1) cap10) w10) :=
              tinv_go (ex_call H9.out.1 bA) (minet_kept H9.out.2.1 bA) (alli_below H9.out.2.2.1 bA) (mine_below H9.out.2.2.2 bA) HS9.out.m (Nat.le_of_eq HSZ.out.2.2.2) (fun g' hg' => by have h1 := (HSB.out g' hg').2; have h2 := HSZ.out.2.2.1; omega) HT.out HGO.out hm10 hg10
            clear hm10 hg10 bA c0 c1 c2 c3 c4 c5 c6 hle k0 k1 z6 f3 f4 q0
            go_wp2_with fail
            go_roundw
            case rel => exact ⟨k + 1, by go_num, by omega, _, _, HS10.out⟩
            case measure => simp [intOf]; omega
    · have hkn : k = nt' := by omega
      subst hkn
      have hxrw := HS.out.x
      obtain ⟨gp, gc, hgv, hgr, hgc, hgz⟩ := mine_full HS.out.g
      subst hgv
      have HM : Hid (Mst A' B' l' (gol gs) lt' k L I) := HS.out.m
      have hRr := bx9_below HR1.out HB1r
      have hJF : ¬ J = F + 1 := by have := HSZ.out; omega
      have hFJ : ¬ F + 1 = J := by have := HSZ.out; omega
      obtain ⟨z0, z1, z2, z3, z4, z5, z6, z7, z8⟩ := bx9_c9 HXr
      obtain ⟨y0, y1, y2, y3, y4, y5, y6, y7, y8⟩ := bx9_c9 hRr
      have fr0 := bx9_free hRr 0
      have fr1 := bx9_free hRr 1
      have fr2 := bx9_free hRr 2
      have fr3 := bx9_free hRr 3
      have fr4 := bx9_free hRr 4
      have fr5 := bx9_free hRr 5
      have fr6 := bx9_free hRr 6
      have fr7 := bx9_free hRr 7
      have fr8 := bx9_free hRr 8
      have HRr : Hid (bx9 wr (F + 1) (.int .i64 0) (.int .i64 0) (.slice none 0 0) (.slice none 0 0) (.slice none 0 0) (.slice none 0 0) (.slice none 0 0) (.int .i64 0) (.int .i64 0)) := hRr
      have HXW : Hid (Ex (fun g => some g = (Value.slice pt' k ct').ownBlock) w4 wr ∧ row vi wr gp I) := ⟨hxrw, hgr⟩
      have HB1R : Hid (Below w1.heap.size w1 wr) := HB1r
      clear hgr hgc hgz hRr HXr hMr hxrw HB1r
      obtain ⟨ni, hni⟩ : ∃ ni, I.length = ni := ⟨_, rfl⟩
      rw [hni] at HS ⊢
      go_wp2_with fail
      obtain ⟨V, hV⟩ : ∃ V, ((((((((wr.setCell ⟨F + 1, 0, none⟩ (.int .i64 A')).setCell ⟨F + 1, 1, none⟩ (.int .i64 B')).setCell ⟨F + 1, 2, none⟩ (.slice p' n' c')).setCell ⟨F + 1, 3, none⟩ (.slice pb' nb' cb')).setCell ⟨F + 1, 4, none⟩ (.slice ps' ns' cs')).setCell ⟨F + 1, 5, none⟩ (.slice pm' nm' cm')).setCell ⟨F + 1, 6, none⟩ (.slice pt' k ct')).setCell ⟨F + 1, 7, none⟩ (.int .i64 N')).setCell ⟨F + 1, 8, none⟩ (.int .i64 T') = V := ⟨_, rfl⟩
      rw [hV]
      obtain ⟨k2, kx⟩ := set9 HRr.out hV.symm
      obtain ⟨t0, t1, t2, t3, t4, t5, t6, t7, t8⟩ := bx9_c9 k2
      have x4V : Ex (fun g => some g = (Value.slice pt' k ct').ownBlock ∨ g = F + 1) w4 V := (HXW.out.1.mono (S' := fun g => some g = (Value.slice pt' k ct').ownBlock ∨ g = F + 1) (fun _ _ e => .inl e)).trans kx (fun _ _ e => .inr e)
      have x2V : Ex (fun g => some g = (Value.slice pt' k ct').ownBlock ∨ g = F + 1) w2 V := (Ex.of_below (S := fun g => some g = (Value.slice pt' k ct').ownBlock ∨ g = F + 1) HB24.out).trans x4V (fun _ _ e => e)
      have hS := HSZ.out
      have hle1 : w.heap.size ≤ w1.heap.size := HB1.out.size
      have away : ∀ {e : TypeId} {z B : Nat} {v : Value} {n : Nat} {xs : List Value}, w1.heap.size ≤ B → e ≠ 41 → w2.ownsRow B e z v n xs → ∀ g, v.ownBlock = some g → ¬ (some g = (Value.slice pt' k ct').ownBlock ∨ g = F + 1) := by
        intro e z B v n xs hB hne ho g hg hh
        have h1 := own_base ho g hg
        rcases hh with hh | hh
        · exact own_apart ho HOW.out.kt hne g hg hh
        · omega
      have hV1 : Below w1.heap.size w1 wr := HB1R.out
      have hwV : Below w.heap.size w V := HB1.out.trans ((hV1.mono hle1).trans (kx.below (B := w.heap.size) (Nat.le_trans hle1 hV1.size) (fun j hj hh => by have h5 := HF.out; omega)))
      refine ⟨by simp, .tuple #[.agg #[.int .i64 A', .int .i64 B', .slice p' n' c', .slice pb' nb' cb', .slice ps' ns' cs', .slice pm' nm' cm', .slice pt' k ct', .int .i64 N', .int .i64 T'], .slice gp ni gc, .int .i64 0], ?_, ⟨⟨A', B', p', n', c', l', pb', nb', cb', lb', ps', ns', cs', ls', pm', nm', cm', lm', pt', k, ct', L, N', T'⟩, gp, gc, I, by first | rfl | rw [hni], ?_, ?_, ⟨rfl, rfl, rfl, rfl, rfl, rfl, rfl, rfl, rfl, rfl, rfl, rfl⟩, rfl, HM.out⟩, ?_⟩
      · simp [results, Try.results9, go_sem, t0, t1, t2, t3, t4, t5, t6, t7, t8]
      · have h1 := mine_kept HS.out.g kx (fun g hg hh => by
          have h2 := own_base HS.out.g g hg
          omega)
        obtain ⟨gp2, gc2, e2, hr2, _, _⟩ := mine_full h1
        simp only [Value.slice.injEq] at e2
        rw [e2.1]; exact hr2
      · have ht1 := own_stays HS.out.t kx (fun g hg hh => by have := (HSB.out g hg).1; omega)
        have ha1 := alli_ex HS.out.a kx (fun g hg hh => by have := (HSB.out g hg).1; omega)
        exact ⟨own_mono (own_stays HOW.out.kp x2V (away (Nat.le_refl _) (by decide) HOW.out.kp)) hle1, alli_ex HOW.out.jp x2V (away (Nat.le_refl _) (by decide) HOW.out.kp), own_mono (own_stays HOW.out.kb x2V (away (Nat.le_refl _) (by decide) HOW.out.kb)) hle1, alli_ex HOW.out.jb x2V (away (Nat.le_refl _) (by decide) HOW.out.kb), own_mono (own_stays HOW.out.ks x2V (away (Nat.le_refl _) (by decide) HOW.out.ks)) hle1, alli_ex HOW.out.js x2V (away (Nat.le_refl _) (by decide) HOW.out.ks), own_mono (own_stays HOW.out.km x2V (away (Nat.le_refl _) (by decide) HOW.out.km)) hle1, alli_ex HOW.out.jm x2V (away (Nat.le_refl _) (by decide) HOW.out.km), own_mono ht1 hle1, ha1⟩
      · first | exact hwV | (rw [← HF.out]; exact hwV)
end Go.Proofs.Ytnbbfnlfcncgnaa
