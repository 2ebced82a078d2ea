/- The document's own StruckWorld of a right world. -/
import Derived.Test.YtjbfnibhmojlfaaHa
import Derived.Test.YtjbfnibhmojlfaaHl
namespace Go.Proofs.Ytjbfnibhmojlfaa
open Go.RowKit
set_option linter.unusedVariables false

theorem take_lft_yes {h : Int → Int} {ts : List Trp} {k : Nat} (hk : k < ts.length) (hf : 0 < ts[k].f - h ts[k].i) : lft h (ts.take (k + 1)) = lft h (ts.take k) ++ [upd h ts[k]] := by
  rw [List.take_succ_eq_append_getElem hk]; exact lft_snoc_yes hf
theorem take_lft_no {h : Int → Int} {ts : List Trp} {k : Nat} (hk : k < ts.length) (hf : ¬ 0 < ts[k].f - h ts[k].i) : lft h (ts.take (k + 1)) = lft h (ts.take k) := by
  rw [List.take_succ_eq_append_getElem hk]; exact lft_snoc_no hf
/-- The loop's state: of the first k, those who are left and those who are gone. -/
def vinv (C : Nat) (w0 : World) (h : Int → Int) (ts : List Trp) (k : Nat) (a b : Value) (V : World) : Prop := Below C w0 V ∧ minet C V a (lft h (ts.take k)) ∧ mine 3 vi C V b (gon h (ts.take k)) ∧ C ≤ V.heap.size
section
variable {C k : Nat} {w0 V V' : World} {h : Int → Int} {ts : List Trp} {a b a' b' : Value}
theorem vinv_below (hs : vinv C w0 h ts k a b V) (hb : Below V.heap.size V V') : vinv C w0 h ts k a b V' :=
  ⟨hs.1.trans (hb.mono hs.2.2.2), minet_kept hs.2.1 hb, mine_below hs.2.2.1 hb, Nat.le_trans hs.2.2.2 hb.size⟩
theorem vinv_gone (hs : vinv C w0 h ts k a b V) (hl : lft h (ts.take (k + 1)) = lft h (ts.take k)) {i : Int} (hg : gon h (ts.take (k + 1)) = gon h (ts.take k) ++ [i]) (hm : mine 3 vi C V' b' (gon h (ts.take k) ++ [i])) (hgr : V.grownBy V' b.ownBlock) : vinv C w0 h ts (k + 1) a b' V' := by
  unfold vinv
  rw [hl, hg]
  exact ⟨hs.1.grown hgr hs.2.2.2 (fun g hg' => own_base hs.2.2.1 g hg'), own_stays hs.2.1 (Ex.of_grown hgr) (own_apart hs.2.1 hs.2.2.1 (by decide)), hm, Nat.le_trans hs.2.2.2 hgr.size⟩
theorem vinv_left (hs : vinv C w0 h ts k a b V) (hg : gon h (ts.take (k + 1)) = gon h (ts.take k)) {t : Trp} (hl : lft h (ts.take (k + 1)) = lft h (ts.take k) ++ [t]) (hm : minet C V' a' (lft h (ts.take k) ++ [t])) (hgr : V.grownBy V' a.ownBlock) : vinv C w0 h ts (k + 1) a' b V' := by
  unfold vinv
  rw [hl, hg]
  exact ⟨hs.1.grown hgr hs.2.2.2 (fun g hg' => own_base hs.2.1 g hg'), hm, own_stays hs.2.2.1 (Ex.of_grown hgr) (own_apart hs.2.2.1 hs.2.1 (by decide)), Nat.le_trans hs.2.2.2 hgr.size⟩
/-- A store into another's box of troops' type that is no row of it. -/
theorem vinv_store (hs : vinv C w0 h ts k a b V) {G : Nat} (hG : ∀ g, a.ownBlock = some g → g ≠ G) (hG2 : ∀ g, b.ownBlock = some g → g ≠ G) (hC : C ≤ G) (p : Addr) (hp : p.block = G) (u : Value) : vinv C w0 h ts k a b (V.setCell p u) :=
  ⟨hs.1.setCell (by rw [hp]; exact hC) u, own_stays hs.2.1 (Ex.set (S := fun g => g = G) V p hp u) (fun g hg e => hG g hg e), own_stays hs.2.2.1 (Ex.set (S := fun g => g = G) V p hp u) (fun g hg e => hG2 g hg e), by simp only [World.size_setCell]; exact hs.2.2.2⟩
end
theorem box_set5 {V : World} {G : Nat} {a b c d e f g : Value} {t : TypeId} (h : V.heap[G]? = some (.cells #[a, b, c, d, e, f, g] t)) (u : Value) : (V.setCell ⟨G, 5, none⟩ u).heap[G]? = some (.cells #[a, b, c, d, e, u, g] t) := by
  rw [heap_setCell_same V G 5 _ t u h]; rfl
theorem box_c7 {V : World} {G : Nat} {i o k x y f d : Int} {t : TypeId} (h : V.heap[G]? = some (.cells #[.int .i64 i, .int .i64 o, .int .i64 k, .int .i64 x, .int .i64 y, .int .i64 f, .int .i64 d] t)) : c7 V G i o k x y f d ∧ V.frozen? ⟨G, 5, none⟩ = false := by
  unfold c7
  refine ⟨?_, ?_⟩
  · simp [World.cell?, h]
  · simp [World.frozen?, h]
set_option maxRecDepth 40000 in
set_option maxHeartbeats 16000000 in
theorem StruckWorld_any (s : Wld) (W H : Nat) (pl : Option Addr) (nl cl : Nat) (bl : List Cel) (w : World) (h : s.fit w) (hk : okw s W H) (hb : crow w pl bl) (hn : bl.length = nl) (hmx : nl ≤ 9223372036854775807) :
    Calls Try.prog 12 #[s.val, .slice pl nl cl] w fun e w' => (∃ (p' : Option Addr) (n' c' : Nat) (gp : Option Addr) (gc : Nat), e = .returned (.tuple #[({ s with pt := p', nt := n', ct := c', lt := lft (hm (cnt W s.l s.lt) s.lt bl) s.lt } : Wld).val, .slice gp (gon (hm (cnt W s.l s.lt) s.lt bl) s.lt).length gc]) ∧ row vi w' gp (gon (hm (cnt W s.l s.lt) s.lt bl) s.lt) ∧ ({ s with pt := p', nt := n', ct := c', lt := lft (hm (cnt W s.l s.lt) s.lt bl) s.lt } : Wld).fit w') ∧ Below w.heap.size w w' := by
  have HHO : Hid (∀ V id, Below w.heap.size w V → Calls Try.prog 13 #[s.val, .slice pl nl cl, .int .i64 id] V fun e w' => e = .returned (.int .i64 (hm (cnt W s.l s.lt) s.lt bl id)) ∧ Below V.heap.size V w') := fun V id hV => HarmOf_any s W H pl nl cl bl id V (Wld.fit_below h hV) hk (crow_below hb hV) hn hmx
  have HRT : Hid (trow w s.pt s.lt) := h.rt
  have HLT : Hid (s.lt.length = s.nt) := h.ht
  have hnt : s.nt ≤ 100 := hk.nt
  have HLF : Hid (∀ k (hk : k < s.lt.length), 1 ≤ s.lt[k].f ∧ s.lt[k].f ≤ 20) := fun k hkl => by
    have h1 := (hk.tr.1 k hkl).2.2
    have h2 : lifeOf s.lt[k].k ≤ 20 := by unfold lifeOf; split <;> omega
    exact ⟨h1.2.2.2.2.1, Int.le_trans h1.2.2.2.2.2.1 h2⟩
  have HHB : Hid (∀ id, 0 ≤ hm (cnt W s.l s.lt) s.lt bl id ∧ hm (cnt W s.l s.lt) s.lt bl id ≤ 400) := fun id => ⟨(hm_bd _ _ _).1, by have := (hm_bd (cn := cnt W s.l s.lt) s.lt bl id).2; have := HLT.out; omega⟩
  obtain ⟨hf, hhf⟩ : ∃ hf, hm (cnt W s.l s.lt) s.lt bl = hf := ⟨_, rfl⟩
  rw [hhf] at HHO HHB ⊢
  have HFIT : Hid (∀ V p' n' c', Below w.heap.size w V → minet w.heap.size V (.slice p' n' c') (lft hf s.lt) → ({ s with pt := p', nt := n', ct := c', lt := lft hf s.lt } : Wld).fit V) := fun V p' n' c' hV hm' =>
    { Wld.fit_below h hV with
      rt := own_trow hm'
      xt := by
        intro t htm
        obtain ⟨u, hu, rfl, hf0⟩ := lft_mem.1 htm
        obtain ⟨f1, f2, f3, f4, f5, f6, f7⟩ := h.xt u hu
        have hb2 := HHB.out u.i
        obtain ⟨i, hi, rfl⟩ := List.getElem_of_mem hu
        have := HLF.out i hi
        refine ⟨f1, f2, f3, f4, f5, ?_, f7⟩
        show fits (s.lt[i].f - hf s.lt[i].i)
        unfold fits at *
        omega
      ht := (own_parts hm').1
      mt := (own_parts hm').2.2.2
      zt := (own_parts hm').2.2.1
      kt := (own_parts hm').2.1 }
  clear h hk hb hn hhf
  obtain ⟨A, B, p, n, c, l, pb, nb, cb, lb, ps, ns, cs, ls, pm, nm, cm, lm, pt, nt, ct, lt, N, T⟩ := s
  unfold Wld.val at *
  dsimp only at *
  obtain ⟨F, hF⟩ : ∃ F, w.heap.size = F := ⟨_, rfl⟩
  obtain ⟨wa, hwa⟩ : ∃ wa, w.alloc (.cells #[.int .i64 A, .int .i64 B, .slice p n c, .slice pb nb cb, .slice ps ns cs, .slice pm nm cm, .slice pt nt ct, .int .i64 N, .int .i64 T] 28) = wa := ⟨_, rfl⟩
  have xa : bx9 wa F (.int .i64 A) (.int .i64 B) (.slice p n c) (.slice pb nb cb) (.slice ps ns cs) (.slice pm nm cm) (.slice pt nt ct) (.int .i64 N) (.int .i64 T) := by rw [← hwa, ← hF]; exact box9_new _ _ _ _ _ _ _ _ _ _
  have sa : wa.heap.size = F + 1 := by rw [← hwa, World.size_alloc, hF]
  obtain ⟨w0, hw0⟩ : ∃ w0, wa.alloc (.cells #[.int .i64 0, .int .i64 0, .slice none 0 0, .slice none 0 0, .slice none 0 0, .slice none 0 0, .slice none 0 0, .int .i64 0, .int .i64 0] 28) = w0 := ⟨_, rfl⟩
  have ba : Below wa.heap.size wa w0 := by rw [← hw0]; exact alloc_below _ _
  have s0 : w0.heap.size = F + 2 := by rw [← hw0, World.size_alloc, sa]
  have hx0 := bx9_below xa ba
  have hr0 : bx9 w0 (F + 1) (.int .i64 0) (.int .i64 0) (.slice none 0 0) (.slice none 0 0) (.slice none 0 0) (.slice none 0 0) (.slice none 0 0) (.int .i64 0) (.int .i64 0) := by rw [← hw0, ← sa]; exact box9_new _ _ _ _ _ _ _ _ _ _
  obtain ⟨C, hC⟩ : ∃ C, F + 2 = C := ⟨_, rfl⟩
  have HBX : Hid (∀ V, Below C w0 V → bx9 V F (.int .i64 A) (.int .i64 B) (.slice p n c) (.slice pb nb cb) (.slice ps ns cs) (.slice pm nm cm) (.slice pt nt ct) (.int .i64 N) (.int .i64 T)) := fun V hV => (hV.block F (by omega)).trans hx0
  have HRX : Hid (∀ V, Below C w0 V → bx9 V (F + 1) (.int .i64 0) (.int .i64 0) (.slice none 0 0) (.slice none 0 0) (.slice none 0 0) (.slice none 0 0) (.slice none 0 0) (.int .i64 0) (.int .i64 0)) := fun V hV => (hV.block (F + 1) (by omega)).trans hr0
  have hB0 : Below w.heap.size w w0 := by
    have h1 : Below w.heap.size w wa := by rw [← hwa]; exact alloc_below _ _
    exact below_call h1 h1.size ba
  have HUP : Hid (∀ V, Below C w0 V → Below w.heap.size w V) := fun V hV => hB0.trans (hV.mono (by omega))
  have HSZ : Hid (w.heap.size = F ∧ w0.heap.size = C ∧ C = F + 2) := ⟨hF, by omega, by omega⟩
  have HS0 : Hid (vinv C w0 hf lt 0 (.slice none 0 0) (.slice none 0 0) w0) := ⟨Below.refl _ _, World.ownsRow_nil _ _ _ _, mine_nil _ _ _ _, by omega⟩
  obtain ⟨z0, z1, z2, z3, z4, z5, z6, z7, z8⟩ := bx9_c9 hx0
  clear xa ba hx0 hr0 hB0 s0
  go_enter Try.func12, Try.ntmps12
  go_wp2_with fail
  clear z0 z1 z2 z3 z4 z5 z6 z7 z8 hw0 hwa sa hF hC
  go_loopw [6, 7, 13] (fun a b i wr => ∃ k : Nat, i = .int .i64 k ∧ k ≤ nt ∧ Hid (vinv C w0 hf lt k a b wr)) (fun _ _ i _ => nt - (intOf i).toNat)
  case atStart => exact ⟨0, rfl, by omega, HS0.out⟩
  case round =>
    obtain ⟨k, rfl, hk, HS⟩ := hrel
    obtain ⟨z0, z1, z2, z3, z4, z5, z6, z7, z8⟩ := bx9_c9 (HBX.out wr HS.out.1)
    by_cases hlt : k < nt
    · have hkl : k < lt.length := by rw [HLT.out]; exact hlt
      obtain ⟨a, rfl, c0, c1, c2, c3, c4, c5, c6⟩ := trow_at (trow_below HRT.out (HUP.out wr HS.out.1)) hkl
      have hlife := HLF.out k hkl
      have hharm := HHB.out lt[k].i
      have HYL : Hid (0 < lt[k].f - hf lt[k].i → lft hf (lt.take (k + 1)) = lft hf (lt.take k) ++ [upd hf lt[k]]) := fun h => take_lft_yes hkl h
      have HNL : Hid (¬ 0 < lt[k].f - hf lt[k].i → lft hf (lt.take (k + 1)) = lft hf (lt.take k)) := fun h => take_lft_no hkl h
      have HYG : Hid (lt[k].f - hf lt[k].i ≤ 0 → gon hf (lt.take (k + 1)) = gon hf (lt.take k) ++ [lt[k].i]) := fun h => take_gon_yes hkl h
      have HNG : Hid (¬ lt[k].f - hf lt[k].i ≤ 0 → gon hf (lt.take (k + 1)) = gon hf (lt.take k)) := fun h => take_gon_no hkl h
      have hle : (gon hf (lt.take k)).length ≤ 1000000 := by have := gon_len hf (lt.take k); rw [List.length_take] at this; omega
      have hle2 : (lft hf (lt.take k)).length ≤ 1000000 := by have := lft_len hf (lt.take k); rw [List.length_take] at this; omega
      have hho := fun V hV => HHO.out V lt[k].i hV
      obtain ⟨t, ht⟩ : ∃ t, lt[k] = t := ⟨_, rfl⟩
      rw [ht] at c0 c1 c2 c3 c4 c5 c6 hlife hharm HYL HNL HYG HNG hho
      obtain ⟨ti, to_, tk, tx, ty, tf, td⟩ := t
      unfold upd at HYL
      simp only at c0 c1 c2 c3 c4 c5 c6 hlife hharm HYL HNL HYG HNG hho
      obtain ⟨hv, ehv⟩ : ∃ hv, hf ti = hv := ⟨_, rfl⟩
      rw [ehv] at hharm HYL HNL HYG HNG hho
      obtain ⟨w6, hw6⟩ : ∃ w6, wr.alloc (.cells #[.int .i64 ti, .int .i64 to_, .int .i64 tk, .int .i64 tx, .int .i64 ty, .int .i64 tf, .int .i64 td] 42) = w6 := ⟨_, rfl⟩
      obtain ⟨G, hG⟩ : ∃ G, wr.heap.size = G := ⟨_, rfl⟩
      have hb6 : Below wr.heap.size wr w6 := by rw [← hw6]; exact alloc_below _ _
      have hh6 : w6.heap[G]? = some (.cells #[.int .i64 ti, .int .i64 to_, .int .i64 tk, .int .i64 tx, .int .i64 ty, .int .i64 tf, .int .i64 td] 42) := by rw [← hw6, ← hG]; exact World.alloc_heap_new wr _
      have HS6 : Hid (vinv C w0 hf lt k u6 u7 w6) := vinv_below HS.out hb6
      have HGN : Hid ((∀ g, u6.ownBlock = some g → g ≠ G) ∧ (∀ g, u7.ownBlock = some g → g ≠ G) ∧ C ≤ G) := ⟨fun g hg => by have := (World.ownsRow.lt HS.out.2.1 g hg).2; omega, fun g hg => by have := (World.ownsRow.lt HS.out.2.2.1 g hg).2; omega, by rw [← hG]; exact HS.out.2.2.2⟩
      have HH6 : Hid (∀ V, Below w6.heap.size w6 V → V.heap[G]? = some (.cells #[.int .i64 ti, .int .i64 to_, .int .i64 tk, .int .i64 tx, .int .i64 ty, .int .i64 tf, .int .i64 td] 42)) := fun V hV => (hV.block G (heap_lt hh6)).trans hh6
      have HST : Hid (∀ V, Below w6.heap.size w6 V → vinv C w0 hf lt k u6 u7 (V.setCell ⟨G, 5, none⟩ (.int .i64 (tf - hv))) ∧ (V.setCell ⟨G, 5, none⟩ (.int .i64 (tf - hv))).heap[G]? = some (.cells #[.int .i64 ti, .int .i64 to_, .int .i64 tk, .int .i64 tx, .int .i64 ty, .int .i64 (tf - hv), .int .i64 td] 42)) := fun V hV =>
        ⟨vinv_store (vinv_below HS6.out hV) HGN.out.1 HGN.out.2.1 HGN.out.2.2 ⟨G, 5, none⟩ rfl _, box_set5 (HH6.out V hV) _⟩
      have HHV : Hid (∀ V, Below w6.heap.size w6 V → Calls Try.prog 13 #[.agg #[.int .i64 A, .int .i64 B, .slice p n c, .slice pb nb cb, .slice ps ns cs, .slice pm nm cm, .slice (some a) nt ct, .int .i64 N, .int .i64 T], .slice pl nl cl, .int .i64 ti] V fun e w' => e = .returned (.int .i64 hv) ∧ Below V.heap.size V w') := fun V hV => hho V (HUP.out V (vinv_below HS6.out hV).1)
      have l1 : (k : Int) < nt := by omega
      have l2 : (0 : Int) ≤ k := by omega
      have ew : IntKind.i64.wrap (tf - hv) = tf - hv := wrp (by omega) (by omega)
      clear hho ht ehv hkl
      go_wp2_with fail
      clear c0 c1 c2 c3 c4 c5 c6 z0 z1 z2 z3 z4 z5 z6 z7 z8 hw6 hG hb6
      obtain ⟨z0, z1, z2, z3, z4, z5, z6, z7, z8⟩ := bx9_c9 (HBX.out w6 HS6.out.1)
      obtain ⟨⟨u0, u1, u2, u3, u4, u5, u6_⟩, fz⟩ := box_c7 hh6
      have c8d : (World.drew w6).cell? ⟨G, 5, none⟩ = some (.int .i64 tf) := u5
      have f8d : (World.drew w6).frozen? ⟨G, 5, none⟩ = false := fz
      have l8d : (⟨G, 5, none⟩ : Addr).block < (World.drew w6).heap.size := cell_lt u5
      go_region_with ((go_at_call 13; with_reducible refine (HHV.out _ (Below.drew (Below.refl _ _))).mono ?_; rintro e w9 ⟨rfl, hb9⟩; have c9 := cell_call hb9 c8d; have f9 := free_call hb9 f8d l8d))
      all_goals
        have hb69 : Below w6.heap.size w6 w9 := (Below.drew (Below.refl _ _)).trans hb9
        obtain ⟨V1, hV1⟩ : ∃ V1, w9.setCell ⟨G, 5, none⟩ (.int .i64 (tf - hv)) = V1 := ⟨_, rfl⟩
        rw [hV1]
        obtain ⟨hs1, hh1⟩ := HST.out w9 hb69
        rw [hV1] at hs1 hh1
        have HS1 : Hid (vinv C w0 hf lt k u6 u7 V1) := hs1
        clear hb9 c9 f9 c8d f8d l8d z0 z1 z2 z3 z4 z5 z6 z7 z8 u0 u1 u2 u3 u4 u5 u6_ fz hh6 hb69 hV1 hs1
        obtain ⟨⟨u0, u1, u2, u3, u4, u5, u6_⟩, fz⟩ := box_c7 hh1
        clear hh1 fz
        by_cases hf0 : tf - hv ≤ 0
        · have d1 : decide (tf - hv ≤ 0) = true := decide_eq_true hf0
          have HYG2 : Hid (gon hf (lt.take (k + 1)) = gon hf (lt.take k) ++ [ti]) := HYG.out hf0
          have HNL2 : Hid (lft hf (lt.take (k + 1)) = lft hf (lt.take k)) := HNL.out (by omega)
          clear hf0
          go_wp2_with (at_builtin; refine list_one ki _ rfl _ _ rfl C u7 (gon hf (lt.take k)) rfl (mine_below HS1.out.2.2.1 (alloc_below _ _)) ⟨V1.heap.size, 0, none⟩ 1 ti rfl (new_one _ _ _) hle (by rw [World.size_alloc]; have := HS1.out.2.2.2; omega) ?_)
          intro g9 cap9 w10 hm9 hg9
          have HS9 : Hid (vinv C w0 hf lt (k + 1) u6 (.slice (some ⟨g9, 0, none⟩) ((gon hf (lt.take k)).length + 1) cap9) w10) := vinv_gone (vinv_below HS1.out (alloc_below _ _)) HNL2.out HYG2.out hm9 hg9
          clear hm9 hg9 u0 u1 u2 u3 u4 u5 u6_ hle hle2
          go_wp2_with fail
          go_roundw
          case rel => exact ⟨k + 1, by go_num, by omega, HS9.out⟩
          case measure => simp [intOf]; omega
        · have d1 : decide (tf - hv ≤ 0) = false := decide_eq_false hf0
          have HNG2 : Hid (gon hf (lt.take (k + 1)) = gon hf (lt.take k)) := HNG.out (by omega)
          have HYL2 : Hid (lft hf (lt.take (k + 1)) = lft hf (lt.take k) ++ [⟨ti, to_, tk, tx, ty, tf - hv, td⟩]) := HYL.out (by omega)
          have ht1 : trow (V1.alloc (.cells #[.int .i64 ti, .int .i64 to_, .int .i64 tk, .int .i64 tx, .int .i64 ty, .int .i64 (tf - hv), .int .i64 td] 42)) (some ⟨V1.heap.size, 0, none⟩) [⟨ti, to_, tk, tx, ty, tf - hv, td⟩] := row_heap (f := id) (L := flat7 [⟨ti, to_, tk, tx, ty, tf - hv, td⟩]) (World.alloc_heap_new V1 _)
          obtain ⟨v9, w10, hrun, hm9, hg9⟩ := run_moret (d := 1) 26 (minet_kept HS1.out.2.1 (alloc_below _ _)) ht1 rfl (by simp only [List.length_singleton]; omega) (by rw [World.size_alloc]; have := HS1.out.2.2.2; omega)
          have HS9 : Hid (vinv C w0 hf lt (k + 1) v9 u7 w10) := vinv_left (vinv_below HS1.out (alloc_below _ _)) HNG2.out HYL2.out hm9 hg9
          clear hf0 hm9 hg9 ht1 hle hle2
          go_wp2_with (at_builtin; refine wpList_append_run rfl _ _ 26 rfl u6 (.slice (some ⟨V1.heap.size, 0, none⟩) 1 1) rfl rfl hrun ?_)
          clear u0 u1 u2 u3 u4 u5 u6_ hrun
          go_roundw
          case rel => exact ⟨k + 1, by go_num, by omega, HS9.out⟩
          case measure => simp [intOf]; omega
    · have hkn : k = nt := by omega
      subst hkn
      have htk : lt.take k = lt := List.take_of_length_le (by rw [HLT.out]; exact Nat.le_refl _)
      have hst := HS.out
      unfold vinv at hst
      rw [htk] at hst
      obtain ⟨hb, hml, hmg, hsz⟩ := hst
      obtain ⟨p', c', rfl⟩ := mine_form hml
      obtain ⟨gp, gc, rfl, hgr, _, _⟩ := mine_full hmg
      have hxr := HBX.out wr hb
      have hrr := HRX.out wr hb
      have fz6 := bx9_free hxr 6
      have hFF : ¬ F = F + 1 := by omega
      have hFF2 : ¬ F + 1 = F := by omega
      obtain ⟨y0, y1, y2, y3, y4, y5, y6, y7, y8⟩ := bx9_c9 hrr
      have fr0 := bx9_free hrr 0
      have fr1 := bx9_free hrr 1
      have fr2 := bx9_free hrr 2
      have fr3 := bx9_free hrr 3
      have fr4 := bx9_free hrr 4
      have fr5 := bx9_free hrr 5
      have fr6 := bx9_free hrr 6
      have fr7 := bx9_free hrr 7
      have fr8 := bx9_free hrr 8
      have HE : Hid (bx9 wr (F + 1) _ _ _ _ _ _ _ _ _) := hrr
      have HEM : Hid (Below C w0 wr ∧ minet C wr (.slice p' (lft hf lt).length c') (lft hf lt) ∧ mine 3 vi C wr (.slice gp (gon hf lt).length gc) (gon hf lt)) := ⟨hb, hml, hmg⟩
      clear hb hml hmg hsz hxr hrr hgr htk
      go_wp2_with fail
      obtain ⟨w7, hw7⟩ : ∃ w7, wr.setCell ⟨F, 6, none⟩ (.slice p' (lft hf lt).length c') = w7 := ⟨_, rfl⟩
      first | rw [hw7] | skip
      obtain ⟨V, hV⟩ : ∃ V, ((((((((w7.setCell ⟨F + 1, 0, none⟩ (.int .i64 A)).setCell ⟨F + 1, 1, none⟩ (.int .i64 B)).setCell ⟨F + 1, 2, none⟩ (.slice p n c)).setCell ⟨F + 1, 3, none⟩ (.slice pb nb cb)).setCell ⟨F + 1, 4, none⟩ (.slice ps ns cs)).setCell ⟨F + 1, 5, none⟩ (.slice pm nm cm)).setCell ⟨F + 1, 6, none⟩ (.slice p' (lft hf lt).length c')).setCell ⟨F + 1, 7, none⟩ (.int .i64 N)).setCell ⟨F + 1, 8, none⟩ (.int .i64 T) = V := ⟨_, rfl⟩
      rw [hV]
      have x67 : Ex (fun g => g = F) wr w7 := by rw [← hw7]; exact Ex.set (S := fun g => g = F) wr ⟨F, 6, none⟩ rfl _
      have hR7 := bx9_ex HE.out x67 hFF2
      obtain ⟨k2, kx⟩ := set9 hR7 hV.symm
      obtain ⟨t0, t1, t2, t3, t4, t5, t6, t7, t8⟩ := bx9_c9 k2
      have xrV : Ex (fun g => g = F ∨ g = F + 1) wr V := (x67.mono (S' := fun g => g = F ∨ g = F + 1) (fun _ _ e => .inl e)).trans kx (fun _ _ e => .inr e)
      have hS := HSZ.out
      have hwr := HUP.out wr HEM.out.1
      have hBV : Below w.heap.size w V := hwr.trans (xrV.below hwr.size (fun g hg e => by omega))
      have hCW : w.heap.size ≤ C := by omega
      refine ⟨by simp, .tuple #[.agg #[.int .i64 A, .int .i64 B, .slice p n c, .slice pb nb cb, .slice ps ns cs, .slice pm nm cm, .slice p' (lft hf lt).length c', .int .i64 N, .int .i64 T], .slice gp (gon hf lt).length gc], ?_, ⟨p', _, c', gp, gc, rfl, own_row (own_kept HEM.out.2.2 xrV (fun g hg e => by omega)), HFIT.out V p' _ c' hBV (own_mono (own_kept HEM.out.2.1 xrV (fun g hg e => by omega)) hCW)⟩, hBV⟩
      simp [results, Try.results12, go_sem, t0, t1, t2, t3, t4, t5, t6, t7, t8]
end Go.Proofs.Ytjbfnibhmojlfaa
