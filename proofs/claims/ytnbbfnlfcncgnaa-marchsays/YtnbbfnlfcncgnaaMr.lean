/- What the document's own Marched returns of a right world. -/
import Derived.Test.YtnbbfnlfcncgnaaSn
import Derived.Test.YtnbbfnlfcncgnaaPD
import Derived.Test.YtnbbfnlfcncgnaaGc
import Derived.RegionTactic
namespace Go.Proofs.Ytnbbfnlfcncgnaa
open Go.RowKit
set_option linter.unusedVariables false

theorem gol_take {gs : List Goe} {m : Nat} {i : Int} {c : Cel} (h : gol (gs.take m) i = some c) : gol gs i = some c := by
  unfold gol at h ⊢
  have e : gs = gs.take m ++ gs.drop m := (List.take_append_drop m gs).symm
  cases hf : (gs.take m).find? (fun g => g.i == i) with
  | none => rw [hf] at h; cases h
  | some a =>
    rw [hf] at h
    conv => lhs; rw [e]
    rw [List.find?_append, hf]; exact h
theorem gol_none {gs : List Goe} {m : Nat} {i : Int} (h : ∀ j (hj : j < gs.length), j < m → gs[j].i ≠ i) : gol (gs.take m) i = none := by
  unfold gol
  rw [List.find?_eq_none.2]; rfl
  intro a ha
  obtain ⟨j, hj, rfl⟩ := List.getElem_of_mem ha
  rw [List.length_take] at hj
  rw [List.getElem_take]
  have := h j (by omega) (by omega)
  simpa using this
theorem gol_hit {gs : List Goe} {j : Nat} {i x y : Int} (h : ∀ m (hm : m < gs.length), m < j → gs[m].i ≠ i) (hj : j < gs.length) (hg : gs[j] = ⟨i, x, y⟩) : gol gs i = some ⟨x, y⟩ := by
  refine gol_take (m := j + 1) ?_
  rw [take_gs_snoc hj, gol_snoc, gol_none h, hg]
  simp
/-- What a way tells of the cell behind one's own. -/
theorem nxs_finr {A B : Int} {l : List Int} {a b : Cel} {n0 : Nat} {w' : World} {v : Value} {D E : Int} (h : finr A B l a b n0 w' v D E) : (v = .slice none 0 0 ∧ nxs A B l a b none) ∨ (∃ g cap, v = .slice (some ⟨g, 0, none⟩) 1 cap ∧ nxs A B l a b none) ∨
    (∃ (g cap m : Nat) (x y : Int), v = .slice (some ⟨g, 0, none⟩) m cap ∧ 2 ≤ m ∧ m ≤ 2401 ∧ w'.cell? ⟨g, 2, none⟩ = some (.int .i64 x) ∧ w'.cell? ⟨g, 3, none⟩ = some (.int .i64 y) ∧ n0 ≤ g ∧ nxs A B l a b (some ⟨x, y⟩)) := by
  rcases h with ⟨hE, hrr, rfl, rfl⟩ | ⟨rfl, W, H, far, R, g, cap, hgd, hpos, rfl, hT, hRl, rfl, hmc⟩
  · exact .inl ⟨rfl, .inl ⟨E, hE, hrr, rfl⟩⟩
  · have hmp := trl_pos hT
    by_cases h1 : R.length = 1
    · exact .inr (.inl ⟨g, cap, by rw [h1], .inr ⟨W, H, far, R, hgd, hpos, hT, by rw [List.getElem?_eq_none (by simp; omega)]⟩⟩)
    · have hl1 : 1 < R.reverse.length := by simp; omega
      obtain ⟨⟨x, y⟩, hxy⟩ : ∃ q, R.reverse[1]? = some q := ⟨_, List.getElem?_eq_getElem hl1⟩
      obtain ⟨q0, q1⟩ := minec_cell hmc (by simp) (k := 1) (by omega) hxy
      exact .inr (.inr ⟨g, cap, R.length, x, y, rfl, by omega, hRl, q0, q1, (World.ownsRow.lt hmc g rfl).1, .inr ⟨W, H, far, R, hgd, hpos, hT, hxy.symm⟩⟩)
/-- Below a box of nine one of its cells is turned. -/
theorem box7g {w w4 V : World} {a b c d e f g : Value} {t : TypeId} {G : Nat} (hG : w.heap.size = G) (h4 : w.alloc (.cells #[a, b, c, d, e, f, g] t) = w4) (hb : Below w4.heap.size w4 V) :
    V.cell? ⟨G, 0, none⟩ = some a ∧ V.cell? ⟨G, 3, none⟩ = some d ∧ V.cell? ⟨G, 4, none⟩ = some e := by
  subst h4 hG
  refine ⟨?_, ?_, ?_⟩
  all_goals
    rw [hb.cell (by simp <;> omega)]
    simp [go_sem]
set_option maxRecDepth 20000 in
set_option maxHeartbeats 8000000 in
theorem Marched_raw (s : Wld) (W H : Nat) (pl : Option Addr) (nl cl : Nat) (gs : List Goe) (w : World) (h : s.fit w) (hk : okw s W H) (hg : gor w pl gs) (hx : ∀ t ∈ gs, fitg t) (hn : gs.length = nl) (h200 : nl ≤ 200) :
    Calls Try.prog 12 #[s.val, .slice pl nl cl] w fun e w' => (∃ (q : Option Addr) (d : Nat) (L : List Trp) (gp : Option Addr) (gc : Nat) (I : List Int), e = .returned (.tuple #[(⟨s.A, s.B, s.p, s.n, s.c, s.l, s.pb, s.nb, s.cb, s.lb, s.ps, s.ns, s.cs, s.ls, s.pm, s.nm, s.cm, s.lm, q, s.nt, d, L, s.N, s.T⟩ : Wld).val, .slice gp I.length gc]) ∧ mine 3 vi w.heap.size w' (.slice gp I.length gc) I ∧ minet w.heap.size w' (.slice q s.nt d) L ∧ Mst s.A s.B s.l (gol gs) s.lt s.nt L I) ∧ Below w.heap.size w w' := by
  have hnt : s.nt ≤ 100 := hk.nt
  have HCP : Hid (∀ V, Below w.heap.size w V → Calls Try.prog 30 #[.slice s.pt s.nt s.ct] V fun e w' => (∃ v, e = .returned v ∧ minet V.heap.size w' v s.lt ∧ alli w' v) ∧ Below V.heap.size V w') := fun V hV => Clonet_any s.pt s.nt s.ct s.lt V (trow_below h.rt hV) h.ht (by omega)
  have HGR : Hid (gor w pl gs ∧ gs.length = nl) := ⟨hg, hn⟩
  have HLT : Hid (s.lt.length = s.nt) := h.ht
  have HFT : Hid (∀ t ∈ s.lt, fitt t) := h.xt
  have HFAB : Hid (fits s.A ∧ fits s.B) := ⟨h.fA, h.fB⟩
  have HRW : Hid (row vi w s.p s.l) := h.r
  have HLN : Hid (s.l.length = s.n ∧ s.n ≤ 9223372036854775807) := ⟨h.h, h.m⟩
  have HFIT : Hid (s.fit w) := h
  clear h hk hg hx hn
  obtain ⟨A, B, p, n, c, l, pb, nb, cb, lb, ps, ns, cs, ls, pm, nm, cm, lm, pt, nt, ct, lt, N, T⟩ := s
  unfold Wld.val at *
  dsimp only at *
  have HWY : Hid (∀ ax ay bx by_ V, Below w.heap.size w V → Calls Try.prog 45 #[.agg #[.int .i64 A, .int .i64 B, .slice p n c], .agg #[.int .i64 ax, .int .i64 ay], .agg #[.int .i64 bx, .int .i64 by_]] V fun e w' => (∃ v D E, e = .returned (.tuple #[v, .int .i64 D, .int .i64 E]) ∧ finr A B l ⟨ax, ay⟩ ⟨bx, by_⟩ V.heap.size w' v D E) ∧ Below V.heap.size V w') := fun ax ay bx by_ V hV => WayOf_any A B p n c l ax ay bx by_ V (row_below HRW.out hV) HLN.out.1 HLN.out.2
  obtain ⟨F, hF⟩ : ∃ F, w.heap.size = F := ⟨_, rfl⟩
  obtain ⟨wa, hwa⟩ : ∃ wa, w.alloc (.cells #[.int .i64 A, .int .i64 B, .slice p n c, .slice pb nb cb, .slice ps ns cs, .slice pm nm cm, .slice pt nt ct, .int .i64 N, .int .i64 T] 28) = wa := ⟨_, rfl⟩
  have xa : bx9 wa F (.int .i64 A) (.int .i64 B) (.slice p n c) (.slice pb nb cb) (.slice ps ns cs) (.slice pm nm cm) (.slice pt nt ct) (.int .i64 N) (.int .i64 T) := by rw [← hwa, ← hF]; exact box9_new _ _ _ _ _ _ _ _ _ _
  have sa : wa.heap.size = F + 1 := by rw [← hwa, World.size_alloc, hF]
  obtain ⟨w0, hw0⟩ : ∃ w0, wa.alloc (.cells #[.int .i64 0, .int .i64 0, .slice none 0 0, .slice none 0 0, .slice none 0 0, .slice none 0 0, .slice none 0 0, .int .i64 0, .int .i64 0] 28) = w0 := ⟨_, rfl⟩
  have ba : Below wa.heap.size wa w0 := by rw [← hw0]; exact alloc_below _ _
  have hX0 : bx9 w0 F (.int .i64 A) (.int .i64 B) (.slice p n c) (.slice pb nb cb) (.slice ps ns cs) (.slice pm nm cm) (.slice pt nt ct) (.int .i64 N) (.int .i64 T) := bx9_below xa ba
  have HX0 : Hid (bx9 w0 F (.int .i64 A) (.int .i64 B) (.slice p n c) (.slice pb nb cb) (.slice ps ns cs) (.slice pm nm cm) (.slice pt nt ct) (.int .i64 N) (.int .i64 T)) := hX0
  have HR0 : Hid (bx9 w0 (F + 1) (.int .i64 0) (.int .i64 0) (.slice none 0 0) (.slice none 0 0) (.slice none 0 0) (.slice none 0 0) (.slice none 0 0) (.int .i64 0) (.int .i64 0)) := by unfold Hid; rw [← hw0, ← sa]; exact box9_new _ _ _ _ _ _ _ _ _ _
  have hB0 : Below w.heap.size w w0 := by
    have h1 : Below w.heap.size w wa := by rw [← hwa]; exact alloc_below _ _
    exact below_call h1 h1.size ba
  have HB0 : Hid (Below w.heap.size w w0) := hB0
  have HF : Hid (w.heap.size = F) := hF
  have HS0 : Hid (F + 1 < w0.heap.size) := bx9_lt HR0.out
  obtain ⟨z0, z1, z2, z3, z4, z5, z6, z7, z8⟩ := bx9_c9 hX0
  have fz6 := bx9_free hX0 6
  clear xa ba hB0 hX0
  go_enter Try.func12, Try.ntmps12
  go_wp2_with fail
  refine (HCP.out w0 HB0.out).mono ?_
  rintro e w1 ⟨⟨v, rfl, hm1, ha1⟩, hb1⟩
  obtain ⟨q, d, rfl⟩ := mine_form hm1
  rw [HLT.out] at hm1 ha1 ⊢
  have hX1 := bx9_below HX0.out hb1
  have hR1 := bx9_below HR0.out hb1
  obtain ⟨w2, hw2⟩ : ∃ w2, w1.setCell ⟨F, 6, none⟩ (.slice q nt d) = w2 := ⟨_, rfl⟩
  have x12 : Ex (fun g => g = F) w1 w2 := by rw [← hw2]; exact Ex.set (S := fun g => g = F) w1 ⟨F, 6, none⟩ rfl _
  have HX2 : Hid (bx9 w2 F (.int .i64 A) (.int .i64 B) (.slice p n c) (.slice pb nb cb) (.slice ps ns cs) (.slice pm nm cm) (.slice q nt d) (.int .i64 N) (.int .i64 T)) := by unfold Hid; rw [← hw2]; exact bx9_set6 hX1 _
  have HR2 : Hid (bx9 w2 (F + 1) (.int .i64 0) (.int .i64 0) (.slice none 0 0) (.slice none 0 0) (.slice none 0 0) (.slice none 0 0) (.slice none 0 0) (.int .i64 0) (.int .i64 0)) := bx9_ex hR1 x12 (by omega)
  have hgF : ∀ g, (Value.slice q nt d).ownBlock = some g → w0.heap.size ≤ g ∧ g < w1.heap.size := fun g hg => ⟨own_base hm1 g hg, alli_lt ha1 g hg⟩
  have hne : ∀ g, (Value.slice q nt d).ownBlock = some g → ¬ g = F := fun g hg e => by have := (hgF g hg).1; have := HS0.out; omega
  have HB2 : Hid (Below w.heap.size w w2) := by
    have h1 : Below w.heap.size w w1 := below_call HB0.out HB0.out.size hb1
    exact h1.trans (x12.below h1.size (fun k hk e => by have := HF.out; omega))
  obtain ⟨C, hC⟩ : ∃ C, w2.heap.size = C := ⟨_, rfl⟩
  have hs12 : w2.heap.size = w1.heap.size := by rw [← hw2]; simp [World.setCell]
  have HSB : Hid (∀ g, (Value.slice q nt d).ownBlock = some g → w0.heap.size ≤ g ∧ g < C) := fun g hg => by have := hgF g hg; rw [← hC, hs12]; exact this
  have HSZ : Hid (F + 1 < w0.heap.size ∧ w0.heap.size ≤ C ∧ w2.heap.size = C) := ⟨HS0.out, by rw [← hC, hs12]; exact hb1.size, hC⟩
  have HI0 : Hid (tinv w2 w0.heap.size C nt d q A B l (gol gs) lt 0 lt [] (.slice none 0 0) w2) := ⟨Ex.refl _ _, own_stays hm1 x12 hne, alli_ex ha1 x12 hne, mine_nil _ _ _ _, .zero⟩
  have HV : Hid (∀ V, Ex (fun g => some g = (Value.slice q nt d).ownBlock) w2 V → Below w.heap.size w V ∧ bx9 V F (.int .i64 A) (.int .i64 B) (.slice p n c) (.slice pb nb cb) (.slice ps ns cs) (.slice pm nm cm) (.slice q nt d) (.int .i64 N) (.int .i64 T) ∧ bx9 V (F + 1) (.int .i64 0) (.int .i64 0) (.slice none 0 0) (.slice none 0 0) (.slice none 0 0) (.slice none 0 0) (.slice none 0 0) (.int .i64 0) (.int .i64 0)) := fun V hV =>
    ⟨HB2.out.trans (hV.below HB2.out.size (fun k hk e => by have := (HSB.out k e.symm).1; have := HF.out; have := HS0.out; omega)), bx9_ex HX2.out hV (fun e => by have := (HSB.out F e.symm).1; have := HS0.out; omega), bx9_ex HR2.out hV (fun e => by have := (HSB.out (F + 1) e.symm).1; have := HS0.out; omega)⟩
  clear z0 z1 z2 z3 z4 z5 z6 z7 z8 fz6
  obtain ⟨z0, z1, z2, z3, z4, z5, z6, z7, z8⟩ := bx9_c9 hX1
  have fz6 := bx9_free hX1 6
  have HW2 : Hid (w1.setCell ⟨F, 6, none⟩ (.slice q nt d) = w2) := hw2
  clear hm1 ha1 hb1 hX1 hR1 x12 hgF hne hC hs12 hw2 HCP hwa hw0 sa hF
  go_wp2_with fail
  first | rw [HW2.out] | skip
  clear z0 z1 z2 z3 z4 z5 z6 z7 z8 fz6
  go_loopw [6, 21] (fun a b wr => ∃ k : Nat, b = .int .i64 (k : Int) ∧ k ≤ nt ∧ Hid (∃ L I, tinv w2 w0.heap.size C nt d q A B l (gol gs) lt k L I a wr)) (fun _ b _ => nt - (intOf b).toNat)
  case atStart => exact ⟨0, rfl, by omega, _, _, HI0.out⟩
  case round =>
    obtain ⟨k, rfl, hk, L, I, hS⟩ := hrel
    obtain ⟨wo, hwo⟩ : ∃ wo : World, wo = wr := ⟨_, rfl⟩
    subst hwo
    obtain ⟨mv, hmv⟩ : ∃ mv, mv = u6 := ⟨u6, rfl⟩
    subst hmv
    have HS : Hid (tinv w2 w0.heap.size C nt d q A B l (gol gs) lt k L I mv wo) := hS
    clear hS
    obtain ⟨HB1r, HXr, HRr⟩ := HV.out wo HS.out.x
    have HLL : Hid (L.length = nt) := by have := (mst_len HS.out.m).1; have := HLT.out; unfold Hid; omega
    by_cases hlt : k < nt
    · have hkl : k < L.length := by rw [HLL.out]; exact hlt
      obtain ⟨g, rfl⟩ := minet_ptr HS.out.t HLL.out (by omega)
      have hgC : w0.heap.size ≤ g ∧ g < C := HSB.out g rfl
      obtain ⟨t, ht⟩ : ∃ t, L[k]? = some t := ⟨_, List.getElem?_eq_getElem hkl⟩
      have HT : Hid (L[k]? = some t) := ht
      obtain ⟨c0, c1, c2, c3, c4, c5, c6⟩ := minet_at HS.out.t HLL.out ht
      have hle : I.length ≤ 1000000 := by have := (mst_len HS.out.m).2; omega
      obtain ⟨ti, to_, tk, tx, ty, tf, td⟩ := t
      simp only at c0 c1 c2 c3 c4 c5 c6
      obtain ⟨G, hG⟩ : ∃ G, wo.heap.size = G := ⟨_, rfl⟩
      obtain ⟨w5, hw5⟩ : ∃ w5, wo.alloc (.cells #[.int .i64 ti, .int .i64 to_, .int .i64 tk, .int .i64 tx, .int .i64 ty, .int .i64 tf, .int .i64 td] 41) = w5 := ⟨_, rfl⟩
      have b5 : Below wo.heap.size wo w5 := by rw [← hw5]; exact alloc_below _ _
      have HS5 : Hid (tinv w2 w0.heap.size C nt d (some ⟨g, 0, none⟩) A B l (gol gs) lt k L I mv w5) := tinv_below HS.out b5
      have HBG : Hid (∀ V, Below w5.heap.size w5 V → V.cell? ⟨G, 0, none⟩ = some (.int .i64 ti) ∧ V.cell? ⟨G, 3, none⟩ = some (.int .i64 tx) ∧ V.cell? ⟨G, 4, none⟩ = some (.int .i64 ty)) := fun V hV => box7g hG hw5 hV
      have HGC : Hid (w0.heap.size ≤ g ∧ g < C ∧ C ≤ G ∧ G < w5.heap.size) := ⟨hgC.1, hgC.2, by rw [← hG, ← HSZ.out.2.2]; exact HS.out.x.size, by rw [← hw5, ← hG]; simp⟩
      have l1 : (k : Int) < nt := by omega
      have l2 : (0 : Int) ≤ k := by omega
      have hknt : k < nt := hlt
      clear ht HB1r HXr HRr hkl b5 hgC
      go_wp2_with fail
      clear c0 c1 c2 c3 c4 c5 c6 hw5 hG
      go_loopw [6, 28] (fun a b wr => ∃ j : Nat, mv = a ∧ b = .int .i64 (j : Int) ∧ j ≤ nl ∧ Hid (Below w5.heap.size w5 wr ∧ ∀ m (hm : m < gs.length), m < j → gs[m].i ≠ ti)) (fun _ b _ => nl - (intOf b).toNat)
      case atStart => exact ⟨0, rfl, rfl, by omega, Below.refl _ _, fun m hm hj => by omega⟩
      case round =>
        obtain ⟨j, rfl, rfl, hj, HK⟩ := hrel
        have hB5 := (HV.out w5 HS5.out.x).1
        have HBwi : Hid (Below w.heap.size w wr) := below_call hB5 hB5.size HK.out.1
        by_cases hlj : j < nl
        · have hjl : j < gs.length := by rw [HGR.out.2]; exact hlj
          obtain ⟨a, gi, gx, gy, rfl, hgj, e0, e1, e2⟩ := gor_cl (gor_below HGR.out.1 HBwi.out) hjl
          obtain ⟨G9, hG9⟩ : ∃ G9, wr.heap.size = G9 := ⟨_, rfl⟩
          obtain ⟨w6, hw6⟩ : ∃ w6, wr.alloc (.cells #[.int .i64 gi, .int .i64 gx, .int .i64 gy] 55) = w6 := ⟨_, rfl⟩
          have b6 : Below wr.heap.size wr w6 := by rw [← hw6]; exact alloc_below _ _
          have b56 : Below w5.heap.size w5 w6 := below_call HK.out.1 HK.out.1.size b6
          obtain ⟨f0, f1, f2⟩ := boxg hG9 hw6 (Below.refl _ _)
          obtain ⟨g0, g3, g4⟩ := HBG.out w6 b56
          have HB56 : Hid (Below w5.heap.size w5 w6) := b56
          have j1 : (j : Int) < nl := by omega
          have j2 : (0 : Int) ≤ j := by omega
          clear hB5 b6 b56
          by_cases hgi : gi = ti
          rotate_left
          · have d1 : (gi == ti) = false := by simp [hgi]
            have d2 : (gi != ti) = true := by simp [hgi]
            have HNX : Hid (∀ m (hm : m < gs.length), m < j + 1 → gs[m].i ≠ ti) := fun m hm hmj => by
              by_cases e : m = j
              · subst e; rw [hgj]; exact hgi
              · exact HK.out.2 m hm (by omega)
            clear hgj hgi hjl
            go_wp2_with fail
            go_roundw
            case rel => exact ⟨j + 1, rfl, by go_num, by omega, HB56.out, HNX.out⟩
            case measure => simp [intOf]; omega
          · subst hgi
            have HGF : Hid (gol gs gi = some ⟨gx, gy⟩) := gol_hit HK.out.2 (by rw [HGR.out.2]; exact hlj) hgj
            have HS6 : Hid (tinv w2 w0.heap.size C nt d (some ⟨g, 0, none⟩) A B l (gol gs) lt k L I mv w6) := tinv_below HS5.out HB56.out
            obtain ⟨hBw6, hXF6, -⟩ := HV.out w6 HS6.out.x
            have HXF6 : Hid (bx9 w6 F (.int .i64 A) (.int .i64 B) (.slice p n c) (.slice pb nb cb) (.slice ps ns cs) (.slice pm nm cm) (.slice (some ⟨g, 0, none⟩) nt d) (.int .i64 N) (.int .i64 T)) := hXF6
            have HBw6 : Hid (Below w.heap.size w w6) := hBw6
            obtain ⟨z0, z1, z2, z3, z4, z5, z6, z7, z8⟩ := bx9_c9 hXF6
            clear hgj hBw6 hXF6 hjl
            go_wp2_with fail
            refine (HWY.out tx ty gx gy w6 HBw6.out).mono ?_
            rintro e w7 ⟨⟨v, D, E, rfl, hfin⟩, hb7⟩
            have hnxs := nxs_finr hfin
            have HS7 : Hid (tinv w2 w0.heap.size C nt d (some ⟨g, 0, none⟩) A B l (gol gs) lt k L I mv w7) := tinv_below HS6.out hb7
            have HXF7 : Hid (bx9 w7 F (.int .i64 A) (.int .i64 B) (.slice p n c) (.slice pb nb cb) (.slice ps ns cs) (.slice pm nm cm) (.slice (some ⟨g, 0, none⟩) nt d) (.int .i64 N) (.int .i64 T)) := bx9_below HXF6.out hb7
            have HB67 : Hid (Below w6.heap.size w6 w7) := hb7
            obtain ⟨K, hK⟩ : ∃ K, w7.heap.size = K := ⟨_, rfl⟩
            clear z0 z1 z2 z3 z4 z5 z6 z7 z8 e0 e1 e2 f0 f1 f2 g0 g3 g4 hw6 hG9 hfin hb7
            rcases hnxs with ⟨rfl, hnx⟩ | ⟨g7, cap7, rfl, hnx⟩ | ⟨g7, cap7, m, x, y, rfl, hm2, hm24, q2, q3, hg7, hnx⟩
            · have HS8 : Hid (tinv w2 w0.heap.size C nt d (some ⟨g, 0, none⟩) A B l (gol gs) lt (k + 1) L I mv (w7.alloc (.cells #[.slice none 0 0] 25))) := tinv_stay (tinv_below HS7.out (alloc_below _ _)) HT.out (.inr ⟨_, HGF.out, .inl hnx⟩)
              clear hnx hK
              go_wp2_with fail
              go_roundw
              case rel => exact ⟨k + 1, by go_num, by omega, _, _, HS8.out⟩
              case measure => simp [intOf]; omega
            · obtain ⟨w8, hw8⟩ : ∃ w8, w7.alloc (.cells #[.slice (some ⟨g7, 0, none⟩) 1 cap7] 25) = w8 := ⟨_, rfl⟩
              have HS8 : Hid (tinv w2 w0.heap.size C nt d (some ⟨g, 0, none⟩) A B l (gol gs) lt (k + 1) L I mv w8) := tinv_stay (tinv_below HS7.out (by rw [← hw8]; exact alloc_below _ _)) HT.out (.inr ⟨_, HGF.out, .inl hnx⟩)
              have k0 : w8.cell? ⟨K, 0, none⟩ = some (.slice (some ⟨g7, 0, none⟩) 1 cap7) := by rw [← hw8, ← hK]; simp [go_sem]
              clear hnx
              go_wp2_with fail
              go_roundw
              case rel => exact ⟨k + 1, by go_num, by omega, _, _, HS8.out⟩
              case measure => simp [intOf]; omega
            · obtain ⟨w8, hw8⟩ : ∃ w8, w7.alloc (.cells #[.slice (some ⟨g7, 0, none⟩) m cap7] 25) = w8 := ⟨_, rfl⟩
              have b8 : Below w7.heap.size w7 w8 := by rw [← hw8]; exact alloc_below _ _
              have k0 : w8.cell? ⟨K, 0, none⟩ = some (.slice (some ⟨g7, 0, none⟩) m cap7) := by rw [← hw8, ← hK]; simp [go_sem]
              have HK0 : Hid (w8.cell? ⟨K, 0, none⟩ = some (.slice (some ⟨g7, 0, none⟩) m cap7)) := k0
              have HQ2 : Hid (w8.cell? ⟨g7, 2, none⟩ = some (.int .i64 x)) := cell_call2 q2 b8
              have HQ3 : Hid (w8.cell? ⟨g7, 3, none⟩ = some (.int .i64 y)) := cell_call2 q3 b8
              have HS8 : Hid (tinv w2 w0.heap.size C nt d (some ⟨g, 0, none⟩) A B l (gol gs) lt k L I mv w8) := tinv_below HS7.out b8
              have HXF8 : Hid (bx9 w8 F (.int .i64 A) (.int .i64 B) (.slice p n c) (.slice pb nb cb) (.slice ps ns cs) (.slice pm nm cm) (.slice (some ⟨g, 0, none⟩) nt d) (.int .i64 N) (.int .i64 T)) := bx9_below HXF7.out b8
              have HB68 : Hid (Below w6.heap.size w6 w8) := below_call HB67.out HB67.out.size b8
              obtain ⟨-, -, -, -, -, -, z6, -, -⟩ := bx9_c9 HXF8.out
              obtain ⟨b, hb⟩ : ∃ b, L.any (onb x y) = b := ⟨_, rfl⟩
              have HFR : Hid (Calls Try.prog 46 #[.slice (some ⟨g, 0, none⟩) nt d, .func (.func 47) #[] #[.pointer (some ⟨K, 0, none⟩)]] w8 fun e w' => e = .returned (.bool b) ∧ Below w8.heap.size w8 w') :=
                ContainsFunct_any Try.call47 _ _ nt d L (onb x y) b w8 (minet_row HS8.out.t HLL.out) HLL.out (by omega) hb (fun t V _ hV => Marched1_at t x y K g7 m cap7 V (cell_call2 HK0.out hV) hm2 (cell_call2 HQ2.out hV) (cell_call2 HQ3.out hV))
              have m1 : (1 : Int) < m := by omega
              have HNX : Hid (nxs A B l ⟨tx, ty⟩ ⟨gx, gy⟩ (some ⟨x, y⟩)) := hnx
              have HG7 : Hid (w6.heap.size ≤ g7) := hg7
              clear hnx b8 q2 q3 hg7
              go_wp2_with fail
              refine Calls.mono HFR.out ?_
              rintro e w9 ⟨rfl, hb9⟩
              have HS9 : Hid (tinv w2 w0.heap.size C nt d (some ⟨g, 0, none⟩) A B l (gol gs) lt k L I mv w9) := tinv_below HS8.out hb9
              cases b with
              | true =>
                have HS10 : Hid (tinv w2 w0.heap.size C nt d (some ⟨g, 0, none⟩) A B l (gol gs) lt (k + 1) L I mv w9) := tinv_stay HS9.out HT.out (.inr ⟨_, HGF.out, .inr ⟨_, HNX.out, hb⟩⟩)
                clear hb hb9 k0 z6 hw8 hK
                go_wp2_with fail
                go_roundw
                case rel => exact ⟨k + 1, by go_num, by omega, _, _, HS10.out⟩
                case measure => simp [intOf]; omega
              | false =>
                have HGO : Hid (gos A B l (gol gs) L ⟨gi, to_, tk, tx, ty, tf, td⟩ ⟨x, y⟩) := ⟨_, HGF.out, HNX.out, hb⟩
                have k0' := cell_call2 HK0.out hb9
                have q2' := cell_call2 HQ2.out hb9
                have q3' := cell_call2 HQ3.out hb9
                obtain ⟨-, -, -, -, -, -, z6', -, -⟩ := bx9_c9 (bx9_below HXF8.out hb9)
                obtain ⟨c0, c1, c2, c3, c4, c5, c6⟩ := minet_at HS9.out.t HLL.out HT.out
                simp only at c3 c4
                have f3 := minet_free HS9.out.t HLL.out (k * 7 + 3)
                have f4 := minet_free HS9.out.t HLL.out (k * 7 + 3 + 1)
                have hGg : ¬ G = g := by have := HGC.out; omega
                have HX : Hid (∀ W, W = (w9.setCell ⟨g, k * 7 + 3, none⟩ (.int .i64 x)).setCell ⟨g, k * 7 + 3 + 1, none⟩ (.int .i64 y) → Ex (fun g' => some g' = (Value.slice (some ⟨g, 0, none⟩) nt d).ownBlock) w2 W ∧ minet w0.heap.size W (.slice (some ⟨g, 0, none⟩) nt d) (L.set k (Trp.go ⟨gi, to_, tk, tx, ty, tf, td⟩ ⟨x, y⟩)) ∧ alli W (.slice (some ⟨g, 0, none⟩) nt d) ∧ mine 3 vi C W mv I) :=
                  fun W hW => tinv_set HS9.out HGC.out.2.1 HLL.out HT.out W hW
                have HG9 : Hid (w9.cell? ⟨G, 0, none⟩ = some (.int .i64 gi)) := (HBG.out w9 (below_call HB56.out HB56.out.size (below_call HB68.out HB68.out.size hb9))).1
                clear hb hb9 k0 z6 hw8 hK
                go_wp2_with fail
                go_region
                obtain ⟨W9, hW9⟩ : ∃ W, World.drew ((w9.setCell ⟨g, k * 7 + 3, none⟩ (.int .i64 x)).setCell ⟨g, k * 7 + 3 + 1, none⟩ (.int .i64 y)) = W := ⟨_, rfl⟩
                rw [hW9]
                obtain ⟨x1, x2, x3, x4⟩ := HX.out _ rfl
                have xW : Ex (fun k => k = g) w9 W9 := by rw [← hW9]; exact (ex_set (ex_set (Ex.refl (fun k => k = g) w9) ⟨g, k * 7 + 3, none⟩ rfl _) ⟨g, k * 7 + 3 + 1, none⟩ rfl _).drew
                have H9 : Hid (Ex (fun g' => some g' = (Value.slice (some ⟨g, 0, none⟩) nt d).ownBlock) w2 W9 ∧ minet w0.heap.size W9 (.slice (some ⟨g, 0, none⟩) nt d) (L.set k (Trp.go ⟨gi, to_, tk, tx, ty, tf, td⟩ ⟨x, y⟩)) ∧ alli W9 (.slice (some ⟨g, 0, none⟩) nt d) ∧ mine 3 vi C W9 mv I) := by rw [← hW9]; exact ⟨x1.drew, x2, x3, x4⟩
                have H9s : Hid (C ≤ W9.heap.size) := by have h1 := H9.out.1.size; have h2 := HSZ.out.2.2; unfold Hid; omega
                have g0' : W9.cell? ⟨G, 0, none⟩ = some (.int .i64 gi) := (xW.cell (p := ⟨G, 0, none⟩) (cell_lt HG9.out) hGg).trans HG9.out
                clear x1 x2 x3 x4 xW hW9 c0 c1 c2 c3 c4 c5 c6 f3 f4 k0' q2' q3' z6'
                go_wp2_with (at_builtin; refine list_one ki _ rfl _ _ rfl C mv I rfl (mine_below H9.out.2.2.2 (alloc_below _ _)) ⟨W9.heap.size, 0, none⟩ 1 gi rfl (new_one _ _ _) hle (by rw [World.size_alloc]; have := H9s.out; omega) ?_)
                intro g10 cap10 w10 hm10 hg10
                have bA : Below W9.heap.size W9 (W9.alloc (.cells #[.int .i64 gi] 3)) := alloc_below _ _
                have HS10 : Hid (tinv w2 w0.heap.size C nt d (some ⟨g, 0, none⟩) A B l (gol gs) lt (k + 1) (L.set k (Trp.go ⟨gi, to_, tk, tx, ty, tf, td⟩ ⟨x, y⟩)) (I ++ [gi]) (.slice (some ⟨g10, 0, none⟩) (I.length + 1) cap10) w10) :=
                  tinv_go (ex_call H9.out.1 bA) (minet_kept H9.out.2.1 bA) (alli_below H9.out.2.2.1 bA) (mine_below H9.out.2.2.2 bA) HS9.out.m (Nat.le_of_eq HSZ.out.2.2) (fun g' hg' => (HSB.out g' hg').2) HT.out HGO.out hm10 hg10
                clear hm10 hg10 bA g0'
                go_wp2_with fail
                go_roundw
                case rel => exact ⟨k + 1, by go_num, by omega, _, _, HS10.out⟩
                case measure => simp [intOf]; omega
        · have HNO : Hid (gol gs ti = none) := by
            have h1 := gol_none (gs := gs) (m := nl) (i := ti) (fun m hm hmj => HK.out.2 m hm (by omega))
            rw [List.take_of_length_le (by rw [HGR.out.2]; exact Nat.le_refl _)] at h1; exact h1
          have HS6 : Hid (tinv w2 w0.heap.size C nt d (some ⟨g, 0, none⟩) A B l (gol gs) lt (k + 1) L I mv wr) := tinv_stay (tinv_below HS5.out HK.out.1) HT.out (.inl HNO.out)
          clear hB5
          go_wp2_with fail
          go_roundw
          case rel => exact ⟨k + 1, by go_num, by omega, _, _, HS6.out⟩
          case measure => simp [intOf]; omega
    · have hkn : k = nt := by omega
      subst hkn
      obtain ⟨gp, gc, hgv, hgr, hgc, hgz⟩ := mine_full HS.out.g
      subst hgv
      have HM : Hid (Mst A B l (gol gs) lt k L I) := HS.out.m
      have hFF : ¬ F = F + 1 := by omega
      have hFF2 : ¬ F + 1 = F := by omega
      have HRr2 : Hid (bx9 wo (F + 1) (.int .i64 0) (.int .i64 0) (.slice none 0 0) (.slice none 0 0) (.slice none 0 0) (.slice none 0 0) (.slice none 0 0) (.int .i64 0) (.int .i64 0)) := HRr
      have HBo : Hid (Below w.heap.size w wo) := HB1r
      obtain ⟨z0, z1, z2, z3, z4, z5, z6, z7, z8⟩ := bx9_c9 HXr
      obtain ⟨y0, y1, y2, y3, y4, y5, y6, y7, y8⟩ := bx9_c9 HRr
      have fr0 := bx9_free HRr 0
      have fr1 := bx9_free HRr 1
      have fr2 := bx9_free HRr 2
      have fr3 := bx9_free HRr 3
      have fr4 := bx9_free HRr 4
      have fr5 := bx9_free HRr 5
      have fr6 := bx9_free HRr 6
      have fr7 := bx9_free HRr 7
      have fr8 := bx9_free HRr 8
      clear hgr hgc hgz HRr HXr HB1r
      obtain ⟨ni, hni⟩ : ∃ ni, I.length = ni := ⟨_, rfl⟩
      rw [hni] at HS ⊢
      go_wp2_with fail
      obtain ⟨V, hV⟩ : ∃ V, ((((((((wo.setCell ⟨F + 1, 0, none⟩ (.int .i64 A)).setCell ⟨F + 1, 1, none⟩ (.int .i64 B)).setCell ⟨F + 1, 2, none⟩ (.slice p n c)).setCell ⟨F + 1, 3, none⟩ (.slice pb nb cb)).setCell ⟨F + 1, 4, none⟩ (.slice ps ns cs)).setCell ⟨F + 1, 5, none⟩ (.slice pm nm cm)).setCell ⟨F + 1, 6, none⟩ (.slice q k d)).setCell ⟨F + 1, 7, none⟩ (.int .i64 N)).setCell ⟨F + 1, 8, none⟩ (.int .i64 T) = V := ⟨_, rfl⟩
      rw [hV]
      obtain ⟨k2, kx⟩ := set9 HRr2.out hV.symm
      obtain ⟨t0, t1, t2, t3, t4, t5, t6, t7, t8⟩ := bx9_c9 k2
      have hS := HSZ.out
      have hwV : Below w.heap.size w V := HBo.out.trans (kx.below (B := w.heap.size) HBo.out.size (fun j hj hh => by have h5 := HF.out; omega))
      have hmt : minet w0.heap.size V (.slice q k d) L := own_stays HS.out.t kx (fun g hg hh => by have := (HSB.out g hg).1; omega)
      refine ⟨by simp, .tuple #[.agg #[.int .i64 A, .int .i64 B, .slice p n c, .slice pb nb cb, .slice ps ns cs, .slice pm nm cm, .slice q k d, .int .i64 N, .int .i64 T], .slice gp ni gc], ?_, ⟨q, d, L, gp, gc, I, by first | rfl | rw [hni], ?_, own_mono hmt HB0.out.size, HM.out⟩, ?_⟩
      · simp [results, Try.results12, go_sem, t0, t1, t2, t3, t4, t5, t6, t7, t8]
      · have h1 := mine_kept HS.out.g kx (fun g hg hh => by
          have h2 := own_base HS.out.g g hg
          omega)
        rw [hni]
        exact mine_mono h1 (by have := HB0.out.size; omega)
      · first | exact hwV | (rw [← HF.out]; exact hwV)
/-- A world with other troops, in a row of one's own. -/
theorem fit_troops {s : Wld} {w V : World} {B : Nat} {q : Option Addr} {d : Nat} {L : List Trp} (hf : s.fit w) (hb : Below w.heap.size w V) (hm : minet B V (.slice q s.nt d) L) (hx : ∀ t ∈ L, fitt t) : (⟨s.A, s.B, s.p, s.n, s.c, s.l, s.pb, s.nb, s.cb, s.lb, s.ps, s.ns, s.cs, s.ls, s.pm, s.nm, s.cm, s.lm, q, s.nt, d, L, s.N, s.T⟩ : Wld).fit V := by
  have hpt := own_parts hm
  exact { fA := hf.fA, fB := hf.fB, r := row_below hf.r hb, x := hf.x, h := hf.h, m := hf.m, z := hf.z, k := hf.k, rb := crow_below hf.rb hb, xb := hf.xb, hb := hf.hb, mb := hf.mb, zb := hf.zb, kb := hf.kb, rs := row_below hf.rs hb, xs := hf.xs, hs := hf.hs, ms := hf.ms, rm := row_below hf.rm hb, xm := hf.xm, hm := hf.hm, mm := hf.mm, rt := own_trow hm, xt := hx, ht := hpt.1, mt := hpt.2.2.2, zt := hpt.2.2.1, kt := hpt.2.1, fN := hf.fN, fT := hf.fT }
/-- What is told stays a world, whatever is written behind what was handed in (wb) and ahead of the call (w). -/
theorem Marched_ok (s : Wld) (W H : Nat) (pl : Option Addr) (nl cl : Nat) (gs : List Goe) (wb w : World) (hwb : Below wb.heap.size wb w) (h : s.fit wb) (hk : okw s W H) (hg : gor w pl gs) (hx : ∀ t ∈ gs, fitg t) (hn : gs.length = nl) (h200 : nl ≤ 200) :
    Calls Try.prog 12 #[s.val, .slice pl nl cl] w fun e w' => (∃ (s' : Wld) (gp : Option Addr) (gc : Nat) (I : List Int), e = .returned (.tuple #[s'.val, .slice gp I.length gc]) ∧ (∀ V, Ex (fun g => wb.heap.size ≤ g ∧ g < w.heap.size) w' V → s'.fit V ∧ row vi V gp I) ∧ likew s s' ∧ s'.nt = s.nt ∧ Mst s.A s.B s.l (gol gs) s.lt s.nt s'.lt I) ∧ Below w.heap.size w w' := by
  refine (Marched_raw s W H pl nl cl gs w (Wld.fit_below h hwb) hk hg hx hn h200).mono ?_
  rintro e w' ⟨⟨q, d, L, gp, gc, I, rfl, h1, h2, h3⟩, hb⟩
  refine ⟨⟨_, gp, gc, I, rfl, fun V hV => ?_, ⟨rfl, rfl, rfl, rfl, rfl, rfl, rfl, rfl, rfl, rfl, rfl, rfl⟩, rfl, h3⟩, hb⟩
  have hb1 : Below wb.heap.size wb w' := below_call hwb hwb.size hb
  exact ⟨fit_troops h (hb1.trans (hV.below hb1.size (fun k hk e => by omega))) (own_kept h2 hV (fun g hg e => by omega)) (mst_fits h.fA h.fB h.xt h3).1, own_row (own_kept h1 hV (fun g hg e => by omega))⟩
end Go.Proofs.Ytnbbfnlfcncgnaa
