/- What Blows returns of a right world and no more than 200 blows. -/
import Derived.Test.YtjbfnibhmojlfaaBm
namespace Go.Proofs.Ytjbfnibhmojlfaa
open Go.RowKit Go.Maps
set_option linter.unusedVariables false

theorem kbl : (Try.prog.info? 4).map (fun i => (i.zero, i.size, i.bytes)) = some (some (.bool false), 1, 1) := by kernel_rfl
theorem opn_inb {W H : Nat} {l : List Int} {X Y : Int} (h : opn W H l X Y = true) : inb W H X Y = true := by
  unfold opn at h
  simp at h
  exact h.1
theorem bl_snoc {bl : List Cel} {k : Nat} (hk : k < bl.length) : bl.take (k + 1) = bl.take k ++ [bl[k]] := List.take_succ_eq_append_getElem hk
/-- The round of a blow that changes nothing, and of one that counts. -/
def binv (w5 : World) (B g1 g2 n : Nat) (cn : Cel → Bool) (ts : List Trp) (bl : List Cel) (k : Nat) (wr : World) : Prop :=
  Ex (fun g => g = g1 ∨ g = g2) w5 wr ∧ mine 3 vi B wr (.slice (some ⟨g1, 0, none⟩) n n) (harms cn ts (bl.take k)) ∧ mine 4 vbl B wr (.slice (some ⟨g2, 0, none⟩) n n) (spents cn ts (bl.take k))
theorem binv_skip {w5 V V' : World} {B g1 g2 n k : Nat} {cn : Cel → Bool} {ts : List Trp} {bl : List Cel} (h : binv w5 B g1 g2 n cn ts bl k V) (hk : k < bl.length) (hb : Below V.heap.size V V') (h1 : ∀ t ∈ ts, bl[k].x = t.i → cn bl[k] = true → (fsb cn t.i (bl.take k)).isSome = true) : binv w5 B g1 g2 n cn ts bl (k + 1) V' := by
  unfold binv at h ⊢
  obtain ⟨e1, e2⟩ := lists_skip h1
  rw [bl_snoc hk, e1, e2]
  exact ⟨h.1.trans (Ex.of_below (S := fun _ => False) hb) (fun _ _ e => e.elim), mine_below h.2.1 hb, mine_below h.2.2 hb⟩
theorem binv_new {w5 V V' V'' : World} {B g1 g2 n k i j : Nat} {cn : Cel → Bool} {ts : List Trp} {bl : List Cel} (h : binv w5 B g1 g2 n cn ts bl k V) (hg : g1 ≠ g2) (hk : k < bl.length) (hb : Below V.heap.size V V') (hn : ts.length = n)
    (hb2 : Below (V'.setCell ⟨g2, i, none⟩ (.bool true)).heap.size (V'.setCell ⟨g2, i, none⟩ (.bool true)) V'')
    (hd : (ts.map Trp.i).Nodup) (hi : i < ts.length) (hj : j < ts.length) (h1 : ts[i].i = bl[k].x) (h2 : ts[j].i = bl[k].y) (h3 : cn bl[k] = true) (h4 : (fsb cn ts[i].i (bl.take k)).isSome = false) :
    binv w5 B g1 g2 n cn ts bl (k + 1) (V''.setCell ⟨g1, j, none⟩ (.int .i64 (hm cn ts (bl.take k) ts[j].i + hrk ts[i].k))) := by
  unfold binv at h ⊢
  obtain ⟨e1, e2⟩ := lists_new hd hi hj h1 h2 h3 h4
  rw [bl_snoc hk, e1, e2]
  have m1 := mine_below h.2.1 hb
  have m2 := mine_below h.2.2 hb
  have x1 : Ex (fun g => g = g1 ∨ g = g2) w5 V' := h.1.trans (Ex.of_below (S := fun _ => False) hb) (fun _ _ e => e.elim)
  have x2 : Ex (fun g => g = g2) V' (V'.setCell ⟨g2, i, none⟩ (.bool true)) := Ex.set (S := fun g => g = g2) V' ⟨g2, i, none⟩ rfl _
  have n1 := mine_kept (S := fun g => g = g2) m1 x2 (fun g hg' e => by simp [Value.ownBlock] at hg'; exact hg (hg'.trans e))
  have n2 := mine_put (f := vbl) m2 (by rw [spents_len]; exact hn) i true
  have l1 := mine_below n1 hb2
  have l2 := mine_below n2 hb2
  have x3 : Ex (fun g => g = g1) V'' (V''.setCell ⟨g1, j, none⟩ (.int .i64 (hm cn ts (bl.take k) ts[j].i + hrk ts[i].k))) := Ex.set (S := fun g => g = g1) V'' ⟨g1, j, none⟩ rfl _
  refine ⟨((x1.trans x2 (fun _ _ e => .inr e)).trans (Ex.of_below (S := fun _ => False) hb2) (fun _ _ e => e.elim)).trans x3 (fun _ _ e => .inl e), mine_put (f := vi) l1 (by rw [harms_len]; exact hn) j _, mine_kept (S := fun g => g = g1) l2 x3 (fun g hg' e => ?_)⟩
  simp [Value.ownBlock] at hg'
  exact hg (e.symm.trans hg'.symm)
theorem binv_below {w5 V V' : World} {B g1 g2 n k : Nat} {cn : Cel → Bool} {ts : List Trp} {bl : List Cel} (h : binv w5 B g1 g2 n cn ts bl k V) (hb : Below V.heap.size V V') : binv w5 B g1 g2 n cn ts bl k V' := by
  unfold binv at h ⊢
  exact ⟨h.1.trans (Ex.of_below (S := fun _ => False) hb) (fun _ _ e => e.elim), mine_below h.2.1 hb, mine_below h.2.2 hb⟩

theorem cell_call {V V' : World} {q : Addr} {v : Value} (hb : Below V.heap.size V V') (h : V.cell? q = some v) : V'.cell? q = some v := (hb.cell (cell_lt h)).trans h
theorem free_call {V V' : World} {q : Addr} (hb : Below V.heap.size V V') (h : V.frozen? q = false) (hl : q.block < V.heap.size) : V'.frozen? q = false := (hb.frozen hl).trans h
set_option maxRecDepth 20000 in
set_option maxHeartbeats 8000000 in
theorem Blows_ok (s : Wld) (W H : Nat) (pl : Option Addr) (nl cl : Nat) (bl : List Cel) (w : World) (h : s.fit w) (hk : okw s W H) (hb : crow w pl bl) (hx : ∀ c ∈ bl, fits c.x ∧ fits c.y) (hn : bl.length = nl) (h200 : nl ≤ 200) :
    Calls Try.prog 8 #[s.val, .slice pl nl cl] w fun e w' => (∃ g c, e = .returned (.tuple #[.slice (some ⟨g, 0, none⟩) s.nt c, .int .i64 0]) ∧ row vi w' (some ⟨g, 0, none⟩) (harms (cnt W s.l s.lt) s.lt bl)) ∧ Below w.heap.size w w' := by
  have HC : Hid (∀ V, Below w.heap.size w V → Calls Try.prog 20 #[s.val] V fun e w' => e = .returned (.int .i64 0) ∧ Below V.heap.size V w') := fun V hV => Check_world s 0 V (Wld.fit_below h hV) (wre_of hk)
  have HBY : Hid (∀ V, Below w.heap.size w V → Calls Try.prog 33 #[.slice s.pt s.nt s.ct] V fun e w' => (∃ b, e = .returned (.map (some b)) ∧ mapi w' b (s.lt.map Trp.i)) ∧ Below V.heap.size V w') := fun V hV => byId_any s.pt s.nt s.ct s.lt V (trow_below h.rt hV) h.ht hk.nt h.xt
  have HND : Hid ((s.lt.map Trp.i).Nodup) := tr_nodup hk.tr
  have HKO : Hid (∀ V i (hi : i < s.lt.length), Calls Try.prog 35 #[tv s.lt[i]] V fun e w' => (∃ a d : Int, e = .returned (.agg #[.int .i64 a, .int .i64 (rch s.lt[i].k), .int .i64 (hrk s.lt[i].k), .int .i64 d])) ∧ Below V.heap.size V w') := fun V i hi => kindOf_any _ V (hk.tr.1 i hi).2.2.1
  obtain ⟨A, B, p, n, c, l, pb, nb, cb, lb, ps, ns, cs, ls, pm, nm, cm, lm, pt, nt, ct, lt, N, T⟩ := s
  obtain ⟨a, ha⟩ : ∃ a, p = some a := row_some h.r (by have := hk.f.2.2.1; dsimp only at this; rw [this]; exact one_le hk.f.1 hk.f.2.1)
  obtain rfl : n = W * H := by have h1 := h.h; have h2 := hk.f.2.2.1; dsimp only at h1 h2; omega
  have hA : A = W := hk.a
  have hB : B = H := hk.b
  subst ha hA hB
  have HCAN : Hid (∀ V i j (hi : i < lt.length) (hj : j < lt.length) b, Below w.heap.size w V → hit W l lt[i] lt[j] = b → Calls Try.prog 34 #[.agg #[.int .i64 (W : Int), .int .i64 (H : Int), .slice (some a) (W * H) c], tv lt[i], tv lt[j]] V fun e w' => e = .returned (.bool b) ∧ Below V.heap.size V w') := fun V i j hi hj b hV hh =>
    canHit_any W H a c l _ _ b V (row_below h.r hV) hk.f (opn_inb (hk.tr.1 i hi).2.2.2.2.2.1) (opn_inb (hk.tr.1 j hj).2.2.2.2.2.1) (hk.tr.1 i hi).2.2.1 hh
  have HRT : Hid (trow w pt lt) := h.rt
  have HLT : Hid (lt.length = nt) := h.ht
  have hnt : nt ≤ 100 := hk.nt
  have HBL : Hid (crow w pl bl) := hb
  have HXB : Hid (∀ c ∈ bl, fits c.x ∧ fits c.y) := hx
  have HN : Hid (bl.length = nl) := hn
  have hWH : W * H ≤ 1600 := wh_le hk.f.1 hk.f.2.1
  clear h hk hb hx hn
  unfold Wld.val at *
  dsimp only at *
  obtain ⟨cn, hcn⟩ : ∃ cn, cnt W l lt = cn := ⟨_, rfl⟩
  have HCN : Hid (∀ i j (hi : i < lt.length) (hj : j < lt.length) (b : Cel), b.x = lt[i].i → b.y = lt[j].i → cn b = hit W l lt[i] lt[j]) := fun i j hi hj b h1 h2 => by rw [← hcn]; exact cnt_at HND.out hi hj h1 h2
  have HCNO : Hid (∀ b : Cel, (b.x ∉ lt.map Trp.i ∨ b.y ∉ lt.map Trp.i) → cn b = false) := fun b h => by rw [← hcn]; exact cnt_no h
  rw [hcn]
  clear hcn
  obtain ⟨F, hF⟩ : ∃ F, w.heap.size = F := ⟨_, rfl⟩
  obtain ⟨w0, hw0⟩ : ∃ w0, w.alloc (.cells #[.int .i64 (W : Int), .int .i64 (H : Int), .slice (some a) (W * H) c, .slice pb nb cb, .slice ps ns cs, .slice pm nm cm, .slice pt nt ct, .int .i64 N, .int .i64 T] 28) = w0 := ⟨_, rfl⟩
  have HBX : Hid (∀ V, Below w0.heap.size w0 V → c9 V F (.int .i64 (W : Int)) (.int .i64 (H : Int)) (.slice (some a) (W * H) c) (.slice pb nb cb) (.slice ps ns cs) (.slice pm nm cm) (.slice pt nt ct) (.int .i64 N) (.int .i64 T)) := fun V hV => boxw hF hw0 hV
  have hB0 : Below w.heap.size w w0 := by rw [← hw0]; exact alloc_below _ _
  have HB0 : Hid (Below w.heap.size w w0) := hB0
  have HUP : Hid (∀ V, Below w0.heap.size w0 V → Below w.heap.size w V) := fun V hV => HB0.out.trans (hV.mono HB0.out.size)
  obtain ⟨z0, z1, z2, z3, z4, z5, z6, z7, z8⟩ := HBX.out w0 (Below.refl _ _)
  clear hB0
  go_enter Try.func8, Try.ntmps8
  go_wp2_with fail
  refine (HC.out w0 HB0.out).mono ?_
  rintro e w1 ⟨rfl, hb1⟩
  have HB1 : Hid (Below w0.heap.size w0 w1) := hb1
  clear z0 z1 z2 z3 z4 z5 z6 z7 z8 hb1 hw0 hF HC
  obtain ⟨z0, z1, z2, z3, z4, z5, z6, z7, z8⟩ := HBX.out w1 HB1.out
  have d1 : (nl : Int) ≤ 200 := by omega
  go_wp2_with fail
  refine (HBY.out w1 (HUP.out w1 HB1.out)).mono ?_
  rintro e w2 ⟨⟨bm, rfl, hm⟩, hb2⟩
  have HM : Hid (mapi w2 bm (lt.map Trp.i)) := hm
  have HB2 : Hid (Below w0.heap.size w0 w2) := HB1.out.trans (hb2.mono HB1.out.size)
  clear z0 z1 z2 z3 z4 z5 z6 z7 z8 hb2 hm HBY
  obtain ⟨z0, z1, z2, z3, z4, z5, z6, z7, z8⟩ := HBX.out w2 HB2.out
  obtain ⟨i0, hi, hz0, hz1, hz2⟩ := info_parts ki.hi
  obtain ⟨i1, gi, gz0, gz1, gz2⟩ := info_parts kbl
  have HZ2 : Hid (i0.bytes = 8) := hz2
  have GZ2 : Hid (i1.bytes = 1) := gz2
  clear hz2 gz2
  go_wp2_with (at_make; refine wpList_make_full _ rfl (.tmp 29) (.tmp 29) 22 rfl w2.heap.size 3 i0 (.int .i64 0) 1 Try.underlying22 hi hz0 hz1 .i64 .i64 (nt : Int) (nt : Int) nt rfl rfl rfl rfl ?_ ?_ (Nat.le_refl _) ?_)
  · rw [HZ2.out]; omega
  · unfold maxLen; omega
  intro w3 hown3 hgr3
  obtain ⟨g1, hg1⟩ : ∃ g1, w2.heap.size = g1 := ⟨_, rfl⟩
  rw [hg1] at hown3 ⊢
  have hb23 : Below w2.heap.size w2 w3 := (Below.refl _ _).grown hgr3 (Nat.le_refl _) (by simp)
  have HB3 : Hid (Below w0.heap.size w0 w3) := HB2.out.trans (hb23.mono HB2.out.size)
  have HM3 : Hid (mapi w3 bm (lt.map Trp.i) ∧ bm < g1) := ⟨mapi_kept HM.out (Ex.of_below (S := fun _ => False) hb23) (fun e => e), by rw [← hg1]; exact mapi_lt HM.out⟩
  have e1 : (madeCells #[Value.int .i64 0] nt).toList = (harms cn lt []).map vi := by
    rw [toList_madeCells_one (.int .i64 0) nt, (list_nil cn lt).1, HLT.out]; simp [vi]
  have HO3 : Hid (mine 3 vi g1 w3 (.slice (some ⟨g1, 0, none⟩) nt nt) (harms cn lt [])) := by
    unfold Hid mine
    rw [harms_len, HLT.out, ← e1]
    exact hown3
  clear hown3 hgr3 hb23 e1 z0 z1 z2 z3 z4 z5 z6 z7 z8
  obtain ⟨z0, z1, z2, z3, z4, z5, z6, z7, z8⟩ := HBX.out w3 HB3.out
  go_wp2_with (at_make; refine wpList_make_full _ rfl (.tmp 33) (.tmp 33) 69 rfl g1 4 i1 (.bool false) 1 Try.underlying69 gi gz0 gz1 .i64 .i64 (nt : Int) (nt : Int) nt rfl rfl rfl rfl ?_ ?_ ?_ ?_)
  · rw [GZ2.out]; omega
  · unfold maxLen; omega
  · exact Nat.le_of_lt (mine_lt HO3.out).2
  intro w5 hown5 hgr5
  obtain ⟨g2, hg2⟩ : ∃ g2, w3.heap.size = g2 := ⟨_, rfl⟩
  rw [hg2] at hown5 ⊢
  have hb35 : Below w3.heap.size w3 w5 := (Below.refl _ _).grown hgr5 (Nat.le_refl _) (by simp)
  have HB5 : Hid (Below w0.heap.size w0 w5) := HB3.out.trans (hb35.mono HB3.out.size)
  have HM5 : Hid (mapi w5 bm (lt.map Trp.i) ∧ bm < g1) := ⟨mapi_kept HM3.out.1 (Ex.of_below (S := fun _ => False) hb35) (fun e => e), HM3.out.2⟩
  have e1 : (madeCells #[Value.bool false] nt).toList = (spents cn lt []).map vbl := by
    rw [toList_madeCells_one (.bool false) nt, (list_nil cn lt).2, HLT.out]; simp [vbl]
  have HO5 : Hid (mine 4 vbl g1 w5 (.slice (some ⟨g2, 0, none⟩) nt nt) (spents cn lt [])) := by
    unfold Hid mine
    rw [spents_len, HLT.out, ← e1]
    exact hown5
  have HG : Hid (g1 < g2 ∧ w0.heap.size ≤ g1) := ⟨by rw [← hg2]; exact (mine_lt HO3.out).2, by rw [← hg1]; exact HB2.out.size⟩
  have HI0 : Hid (binv w5 g1 g1 g2 nt cn lt bl 0 w5) := ⟨Ex.refl _ _, by simpa using mine_below HO3.out hb35, by simpa using HO5.out⟩
  have HEX : Hid (∀ V, Ex (fun g => g = g1 ∨ g = g2) w5 V → Below w0.heap.size w0 V ∧ mapi V bm (lt.map Trp.i)) := fun V hV =>
    ⟨HB5.out.trans (hV.below HB5.out.size (fun k hk e => by have := HG.out; omega)), mapi_kept HM5.out.1 hV (fun e => by have h1 := HM5.out.2; have h2 := HG.out.1; omega)⟩
  clear hown5 hgr5 hb35 e1 z0 z1 z2 z3 z4 z5 z6 z7 z8 hi hz0 hz1 gi gz0 gz1 hg1 hg2 HO3 HO5 HM HM3 HM5 HB1 HB2 HB3
  go_wp2_with fail
  go_loopw [37] (fun i wr => ∃ k : Nat, i = .int .i64 (k : Int) ∧ k ≤ nl ∧ Hid (binv w5 g1 g1 g2 nt cn lt bl k wr)) (fun i _ => nl - (intOf i).toNat)
  case atStart => exact ⟨0, rfl, by omega, HI0.out⟩
  case round =>
    obtain ⟨k, rfl, hk, HS⟩ := hrel
    by_cases hlt : k < nl
    · have hkl : k < bl.length := by rw [HN.out]; exact hlt
      obtain ⟨HBr, HMr⟩ := HEX.out wr HS.out.1
      obtain ⟨q, x, y, rfl, hbk, q0, q1⟩ := crow_cl (crow_below HBL.out (HUP.out wr HBr)) hkl
      have hfx := HXB.out _ (List.getElem_mem hkl)
      rw [hbk] at hfx
      have HBK : Hid (bl[k] = ⟨x, y⟩) := hbk
      have HBR : Hid (Below w0.heap.size w0 wr) := HBr
      obtain ⟨w6, hw6⟩ : ∃ w6, wr.alloc (.cells #[.int .i64 x, .int .i64 y] 48) = w6 := ⟨_, rfl⟩
      obtain ⟨G, hG⟩ : ∃ G, wr.heap.size = G := ⟨_, rfl⟩
      have hb6 : Below wr.heap.size wr w6 := by rw [← hw6]; exact alloc_below _ _
      have g01 : w6.cell? ⟨G, 0, none⟩ = some (.int .i64 x) ∧ w6.cell? ⟨G, 1, none⟩ = some (.int .i64 y) := by rw [← hw6, ← hG]; constructor <;> simp [go_sem]
      obtain ⟨u0, u1⟩ := g01
      have HS6 : Hid (binv w5 g1 g1 g2 nt cn lt bl k w6) := binv_below HS.out hb6
      have HB06 : Hid (Below w0.heap.size w0 w6) := HBr.trans (hb6.mono HBr.size)
      obtain ⟨-, HM6⟩ := HEX.out w6 HS6.out.1
      obtain ⟨v1, r1, hl1, hc1⟩ := mapi_find HM6 hfx.1 HND.out
      obtain ⟨v2, r2, hl2, hc2⟩ := mapi_find HM6 hfx.2 HND.out
      have HC1 : Hid ((x ∉ lt.map Trp.i ∧ r1 = false) ∨ (r1 = true ∧ ∃ i, ∃ hi : i < (lt.map Trp.i).length, v1 = (i : Int) ∧ (lt.map Trp.i)[i] = x)) := hc1
      have HC2 : Hid ((y ∉ lt.map Trp.i ∧ r2 = false) ∨ (r2 = true ∧ ∃ i, ∃ hi : i < (lt.map Trp.i).length, v2 = (i : Int) ∧ (lt.map Trp.i)[i] = y)) := hc2
      have l1 : (k : Int) < nl := by omega
      have l2 : (0 : Int) ≤ k := by omega
      obtain ⟨z0, z1, z2, z3, z4, z5, z6, z7, z8⟩ := HBX.out w6 HB06.out
      have HKL : Hid (k < bl.length) := hkl
      clear hc1 hc2 hb6 HM6 hfx hbk HBr HMr
      have HSK : Hid (∀ V', Below w6.heap.size w6 V' → cn ⟨x, y⟩ = false → binv w5 g1 g1 g2 nt cn lt bl (k + 1) V') := fun V' hV' hc => binv_skip HS6.out HKL.out hV' (fun t ht _ h => by rw [HBK.out, hc] at h; cases h)
      cases r1 with
      | false =>
        have HX1 : Hid (cn ⟨x, y⟩ = false) := by
          rcases HC1.out with ⟨h1, _⟩ | ⟨h1, _⟩
          · exact HCNO.out _ (.inl h1)
          · cases h1
        go_wp2_with fail
        go_quiet (fail)
        have HNX : Hid (binv w5 g1 g1 g2 nt cn lt bl (k + 1) (w6.drewN nq)) := HSK.out _ (below_drewN (Below.refl _ _) _) HX1.out
        clear q0 q1 u0 u1 z0 z1 z2 z3 z4 z5 z6 z7 z8 hl1 hl2 hw6 hG
        go_wp2_with fail
        go_roundw
        case rel => exact ⟨k + 1, by go_num, by omega, HNX.out⟩
        case measure => simp [intOf]; omega
      | true =>
      cases r2 with
      | false =>
        have HX1 : Hid (cn ⟨x, y⟩ = false) := by
          rcases HC2.out with ⟨h1, _⟩ | ⟨h1, _⟩
          · exact HCNO.out _ (.inr h1)
          · cases h1
        go_wp2_with fail
        go_quiet (fail)
        have HNX : Hid (binv w5 g1 g1 g2 nt cn lt bl (k + 1) (w6.drewN nq)) := HSK.out _ (below_drewN (Below.refl _ _) _) HX1.out
        clear q0 q1 u0 u1 z0 z1 z2 z3 z4 z5 z6 z7 z8 hl1 hl2 hw6 hG
        go_wp2_with fail
        go_roundw
        case rel => exact ⟨k + 1, by go_num, by omega, HNX.out⟩
        case measure => simp [intOf]; omega
      | true =>
      have hA : ∃ i, ∃ hi : i < lt.length, v1 = (i : Int) ∧ lt[i].i = x := by
        rcases HC1.out with ⟨_, h1⟩ | ⟨_, i, hi, h1, h2⟩
        · cases h1
        · exact ⟨i, by simpa using hi, h1, by simpa using h2⟩
      have hBb : ∃ i, ∃ hi : i < lt.length, v2 = (i : Int) ∧ lt[i].i = y := by
        rcases HC2.out with ⟨_, h1⟩ | ⟨_, i, hi, h1, h2⟩
        · cases h1
        · exact ⟨i, by simpa using hi, h1, by simpa using h2⟩
      obtain ⟨i, hi, rfl, hix⟩ := hA
      obtain ⟨j, hj, rfl, hjy⟩ := hBb
      clear HC1 HC2
      have HIJ : Hid (i < lt.length ∧ j < lt.length) := ⟨hi, hj⟩
      obtain ⟨sp, hsp⟩ : ∃ sp, (fsb cn lt[i].i (bl.take k)).isSome = sp := ⟨_, rfl⟩
      have c2 : w6.cell? ⟨g2, i, none⟩ = some (.bool sp) := mine_cell HS6.out.2.2 (by rw [spents_len]; exact HLT.out) (by rw [spents_len]; exact hi) (by rw [spents_at _ _ _ _ hi]; exact hsp)
      have i1 : (i : Int) < nt := by have := HLT.out; omega
      have j1 : (j : Int) < nt := by have := HLT.out; omega
      have i2 : (0 : Int) ≤ i := by omega
      have j2 : (0 : Int) ≤ j := by omega
      cases sp with
      | true =>
        have HX1 : Hid (∀ V', Below w6.heap.size w6 V' → binv w5 g1 g1 g2 nt cn lt bl (k + 1) V') := fun V' hV' => binv_skip HS6.out HKL.out hV' (fun t ht h1 _ => by
          rw [HBK.out] at h1
          obtain ⟨m, hm, rfl⟩ := List.getElem_of_mem ht
          have : m = i := ids_inj HND.out hm hi (by rw [← h1]; exact hix.symm)
          subst this; exact hsp)
        clear hsp
        go_wp2_with fail
        go_quiet (fail)
        have HNX : Hid (binv w5 g1 g1 g2 nt cn lt bl (k + 1) (w6.drewN nq)) := HX1.out _ (below_drewN (Below.refl _ _) _)
        clear q0 q1 u0 u1 z0 z1 z2 z3 z4 z5 z6 z7 z8 hl1 hl2 hw6 hG c2 i1 i2 j1 j2 hix hjy hi hj
        go_wp2_with fail
        go_roundw
        case rel => exact ⟨k + 1, by go_num, by omega, HNX.out⟩
        case measure => simp [intOf]; omega
      | false =>
      obtain ⟨a1, ea1, hs⟩ := trow_at (trow_below HRT.out (HUP.out w6 HB06.out)) hi
      obtain ⟨a2, ea2, ht⟩ := trow_at (trow_below HRT.out (HUP.out w6 HB06.out)) hj
      subst ea1
      cases ea2
      have hcan := fun V b hV hh => HCAN.out V i j hi hj b hV hh
      have hkof := fun V => HKO.out V i hi
      have hcn := HCN.out i j hi hj ⟨x, y⟩ hix.symm hjy.symm
      have HNEW : Hid (∀ V' V'', Below w6.heap.size w6 V' → Below (V'.setCell ⟨g2, i, none⟩ (.bool true)).heap.size (V'.setCell ⟨g2, i, none⟩ (.bool true)) V'' → cn ⟨x, y⟩ = true → binv w5 g1 g1 g2 nt cn lt bl (k + 1) (V''.setCell ⟨g1, j, none⟩ (.int .i64 (hm cn lt (bl.take k) lt[j].i + hrk lt[i].k)))) := fun V' V'' h1 h2 h3 =>
        binv_new HS6.out (by have := HG.out.1; omega) HKL.out h1 HLT.out h2 HND.out hi hj (by rw [HBK.out]; exact hix) (by rw [HBK.out]; exact hjy) (by rw [HBK.out]; exact h3) hsp
      have hhm : ∃ hv, hm cn lt (bl.take k) lt[j].i = hv ∧ 0 ≤ hv ∧ hv ≤ 400 := ⟨_, rfl, (hm_bd _ _ _).1, by have := (hm_bd (cn := cn) lt (bl.take k) lt[j].i).2; have := HLT.out; omega⟩
      obtain ⟨hv, ehv, hv0, hv1⟩ := hhm
      have c1 : w6.cell? ⟨g1, j, none⟩ = some (.int .i64 hv) := mine_cell HS6.out.2.1 (by rw [harms_len]; exact HLT.out) (by rw [harms_len]; exact hj) (by rw [harms_at _ _ _ _ hj]; exact ehv)
      have hmb := hrk_bd lt[i].k
      obtain ⟨M, hM⟩ : ∃ M, hrk lt[i].k = M := ⟨_, rfl⟩
      obtain ⟨R, hR⟩ : ∃ R, rch lt[i].k = R := ⟨_, rfl⟩
      rw [hM] at hmb hkof HNEW
      rw [hR] at hkof
      rw [ehv] at HNEW
      obtain ⟨b, hbb⟩ : ∃ b, hit W l lt[i] lt[j] = b := ⟨_, rfl⟩
      rw [hbb] at hcn
      have hcan2 := fun V hV => hcan V b hV hbb
      have HM8 : Hid (∀ V', Below w6.heap.size w6 V' → mine 3 vi g1 (V'.setCell ⟨g2, i, none⟩ (.bool true)) (.slice (some ⟨g1, 0, none⟩) nt nt) (harms cn lt (bl.take k))) := fun V' hV' =>
        mine_kept (S := fun g => g = g2) (mine_below HS6.out.2.1 hV') (Ex.set (S := fun g => g = g2) V' ⟨g2, i, none⟩ rfl _) (fun g hg' e => by simp [Value.ownBlock] at hg'; have := HG.out.1; omega)
      have HC8 : Hid (∀ V', Below w6.heap.size w6 V' → (V'.setCell ⟨g2, i, none⟩ (.bool true)).cell? ⟨g1, j, none⟩ = some (.int .i64 hv) ∧ (V'.setCell ⟨g2, i, none⟩ (.bool true)).frozen? ⟨g1, j, none⟩ = false) := fun V' hV' =>
        ⟨mine_cell (HM8.out V' hV') (by rw [harms_len]; exact HLT.out) (by rw [harms_len]; exact hj) (by rw [harms_at _ _ _ _ hj]; exact ehv), mine_free (HM8.out V' hV') (by rw [harms_len]; exact HLT.out) j⟩
      have HF7 : Hid (∀ V', Below w6.heap.size w6 V' → V'.frozen? ⟨g2, i, none⟩ = false) := fun V' hV' => mine_free (mine_below HS6.out.2.2 hV') (by rw [spents_len]; exact HLT.out) i
      have hsc := fun V (hV : Below w0.heap.size w0 V) => trow_at (trow_below HRT.out (HUP.out V hV)) hi
      obtain ⟨s, es⟩ : ∃ s, lt[i] = s := ⟨_, rfl⟩
      obtain ⟨t, et⟩ : ∃ t, lt[j] = t := ⟨_, rfl⟩
      rw [es] at hs hkof hcan2 hsc
      rw [et] at ht hcan2
      clear hcan hM hR hbb es et hix hjy hsp
      obtain ⟨si, so, sk, sx, sy, sf, sd_⟩ := s
      obtain ⟨ti, to_, tk, tx, ty, tf, td⟩ := t
      unfold tv at hkof hcan2
      obtain ⟨s0, s1, s2, s3, s4, s5, s6⟩ := hs
      obtain ⟨t0, t1, t2, t3, t4, t5, t6⟩ := ht
      simp only at s0 s1 s2 s3 s4 s5 s6 t0 t1 t2 t3 t4 t5 t6 hkof hcan2 hsc
      have HCA : Hid (∀ V, Below w6.heap.size w6 V → Calls Try.prog 34 #[.agg #[.int .i64 (W : Int), .int .i64 (H : Int), .slice (some a) (W * H) c], .agg #[.int .i64 si, .int .i64 so, .int .i64 sk, .int .i64 sx, .int .i64 sy, .int .i64 sf, .int .i64 sd_], .agg #[.int .i64 ti, .int .i64 to_, .int .i64 tk, .int .i64 tx, .int .i64 ty, .int .i64 tf, .int .i64 td]] V fun e w' => e = .returned (.bool b) ∧ Below V.heap.size V w') := fun V hV => hcan2 V (HUP.out V (HB06.out.trans (hV.mono HB06.out.size)))
      have HKF : Hid (∀ V, Calls Try.prog 35 #[.agg #[.int .i64 si, .int .i64 so, .int .i64 sk, .int .i64 sx, .int .i64 sy, .int .i64 sf, .int .i64 sd_]] V fun e w' => (∃ a d : Int, e = .returned (.agg #[.int .i64 a, .int .i64 R, .int .i64 M, .int .i64 d])) ∧ Below V.heap.size V w') := hkof
      have HCN2 : Hid (cn ⟨x, y⟩ = b) := hcn
      have HSC : Hid (∀ V, Below w0.heap.size w0 V → tcl V (a1.add (i * 7)) ⟨si, so, sk, sx, sy, sf, sd_⟩) := fun V hV => by
        obtain ⟨q, e, h⟩ := hsc V hV
        cases e; exact h
      have HI1 : Hid (i < nt) := by have := HLT.out; unfold Hid; omega
      clear hcan2 hkof hcn hsc ehv
      go_wp2_with fail
      go_region_held3 (fun V => Below w6.heap.size w6 V ∧ V.cell? ⟨F, 0, none⟩ = some (.int .i64 (W : Int)) ∧ V.cell? ⟨F, 1, none⟩ = some (.int .i64 (H : Int)) ∧ V.cell? ⟨F, 2, none⟩ = some (.slice (some a) (W * H) c) ∧ V.cell? ⟨F, 6, none⟩ = some (.slice (some a1) nt ct) ∧ V.cell? ⟨g2, i, none⟩ = some (.bool false)
          ∧ V.cell? (a1.add (i * 7)) = some (.int .i64 si) ∧ V.cell? ⟨(a1.add (i * 7)).block, (a1.add (i * 7)).off + 1, none⟩ = some (.int .i64 so) ∧ V.cell? ⟨(a1.add (i * 7)).block, (a1.add (i * 7)).off + 2, none⟩ = some (.int .i64 sk) ∧ V.cell? ⟨(a1.add (i * 7)).block, (a1.add (i * 7)).off + 3, none⟩ = some (.int .i64 sx) ∧ V.cell? ⟨(a1.add (i * 7)).block, (a1.add (i * 7)).off + 4, none⟩ = some (.int .i64 sy) ∧ V.cell? ⟨(a1.add (i * 7)).block, (a1.add (i * 7)).off + 5, none⟩ = some (.int .i64 sf) ∧ V.cell? ⟨(a1.add (i * 7)).block, (a1.add (i * 7)).off + 6, none⟩ = some (.int .i64 sd_)
          ∧ V.cell? (a1.add (j * 7)) = some (.int .i64 ti) ∧ V.cell? ⟨(a1.add (j * 7)).block, (a1.add (j * 7)).off + 1, none⟩ = some (.int .i64 to_) ∧ V.cell? ⟨(a1.add (j * 7)).block, (a1.add (j * 7)).off + 2, none⟩ = some (.int .i64 tk) ∧ V.cell? ⟨(a1.add (j * 7)).block, (a1.add (j * 7)).off + 3, none⟩ = some (.int .i64 tx) ∧ V.cell? ⟨(a1.add (j * 7)).block, (a1.add (j * 7)).off + 4, none⟩ = some (.int .i64 ty) ∧ V.cell? ⟨(a1.add (j * 7)).block, (a1.add (j * 7)).off + 5, none⟩ = some (.int .i64 tf) ∧ V.cell? ⟨(a1.add (j * 7)).block, (a1.add (j * 7)).off + 6, none⟩ = some (.int .i64 td))
        (first | with_reducible assumption | with_reducible exact k19_drew (by assumption) | with_reducible exact k19_call (by assumption) (by assumption) | exact ⟨Below.drew (Below.refl _ _), z0, z1, z2, z6, c2, s0, s1, s2, s3, s4, s5, s6, t0, t1, t2, t3, t4, t5, t6⟩) (first
          | (go_at_call 34; with_reducible refine (HCA.out _ (And.left (by assumption))).mono ?_; rintro e w7 ⟨rfl, hb7⟩))
      have hb67 : Below w6.heap.size w6 w7 := (Below.drew (Below.refl _ _)).trans hb7
      have HB67 : Hid (Below w6.heap.size w6 w7) := hb67
      have HB07 : Hid (Below w0.heap.size w0 w7) := HB06.out.trans (hb67.mono HB06.out.size)
      have d7 : w7.cell? ⟨g2, i, none⟩ = some (.bool false) := (hb67.cell (cell_lt c2)).trans c2
      have f7 := HF7.out w7 hb67
      clear hb7 hb67 q0 q1 u0 u1 z0 z1 z2 z3 z4 z5 z6 z7 z8 hl1 hl2 hw6 hG c1 c2 s0 s1 s2 s3 s4 s5 s6 t0 t1 t2 t3 t4 t5 t6
      cases b with
      | false =>
        have HNX : Hid (binv w5 g1 g1 g2 nt cn lt bl (k + 1) w7) := HSK.out _ HB67.out HCN2.out
        clear d7 f7 i1 i2 j1 j2 hi hj
        go_wp2_with fail
        go_roundw
        case rel => exact ⟨k + 1, by go_num, by omega, HNX.out⟩
        case measure => simp [intOf]; omega
      | true =>
      have HN2 := fun V'' h2 => HNEW.out w7 V'' HB67.out h2 HCN2.out
      obtain ⟨w8, hw8⟩ : ∃ w8, w7.setCell ⟨g2, i, none⟩ (.bool true) = w8 := ⟨_, rfl⟩
      obtain ⟨c8, f8⟩ := HC8.out w7 HB67.out
      rw [hw8] at HN2 c8 f8
      have HB08 : Below w0.heap.size w0 w8 := by rw [← hw8]; exact HB07.out.setCell (by have := HG.out; show w0.heap.size ≤ g2; omega) _
      obtain ⟨z0, z1, z2, z3, z4, z5, z6, z7, z8⟩ := HBX.out w8 HB08
      obtain ⟨s0, s1, s2, s3, s4, s5, s6⟩ := HSC.out w8 HB08
      simp only at s0 s1 s2 s3 s4 s5 s6
      have HN3 : Hid (∀ V'', Below w8.heap.size w8 V'' → binv w5 g1 g1 g2 nt cn lt bl (k + 1) (V''.setCell ⟨g1, j, none⟩ (.int .i64 (hv + M)))) := HN2
      have kf2 := kfield2
      clear HN2 HB08
      go_wp2_with fail
      clear hw8 d7 f7
      have c8d : (World.drew w8).cell? ⟨g1, j, none⟩ = some (.int .i64 hv) := c8
      have f8d : (World.drew w8).frozen? ⟨g1, j, none⟩ = false := f8
      have l8d : (⟨g1, j, none⟩ : Addr).block < (World.drew w8).heap.size := cell_lt c8
      go_region_with ((go_at_call 35; with_reducible refine (HKF.out _).mono ?_; rintro e w9 ⟨⟨k0, k3, rfl⟩, hb9⟩; have c9 := cell_call hb9 c8d; have f9 := free_call hb9 f8d l8d))
      all_goals
        have HNX : Hid (binv w5 g1 g1 g2 nt cn lt bl (k + 1) (w9.setCell ⟨g1, j, none⟩ (.int .i64 (hv + M)))) := HN3.out w9 ((Below.drew (Below.refl _ _)).trans hb9)
        clear hb9 c9 f9 c8 f8 c8d f8d l8d z0 z1 z2 z3 z4 z5 z6 z7 z8 s0 s1 s2 s3 s4 s5 s6 i1 i2 j1 j2 hi hj
        go_wp2_with fail
        go_roundw
        case rel => exact ⟨k + 1, by go_num, by omega, HNX.out⟩
        case measure => simp [intOf]; omega
    · have hkn : k = nl := by omega
      subst hkn
      have HFI := HS.out
      have e1 : bl.take k = bl := List.take_of_length_le (by rw [HN.out]; exact Nat.le_refl _)
      unfold binv at HFI
      rw [e1] at HFI
      have HRO : Hid (row vi wr (some ⟨g1, 0, none⟩) (harms cn lt bl)) := mine_row HFI.2.1 (by rw [harms_len]; exact HLT.out)
      have HBE : Hid (Below w.heap.size w wr) := HUP.out wr (HEX.out wr HFI.1).1
      clear HFI e1
      go_wp2_with fail
      go_ret2
      exact ⟨⟨g1, nt, rfl, HRO.out⟩, HBE.out⟩
end Go.Proofs.Ytjbfnibhmojlfaa
