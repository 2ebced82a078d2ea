/- goods.Do: what is told of a right world. -/
import Derived.Test.YtdcjjfipnilmpaaDa
namespace Go.Proofs.Ytdcjjfipnilmpaa
open Go.RowKit Go.Maps
set_option linter.unusedVariables false

theorem kbl : (Try.prog.info? 4).map (fun i => (i.zero, i.size, i.bytes)) = some (some (.bool false), 1, 1) := by kernel_rfl
section
variable {B J b g : Nat} {V V' : World} {s : Wld}
theorem shop_ex {S : Nat → Prop} (h : shop B J b V s) (he : Ex S V V') (hJ : ¬ S J) (hb : ¬ S b) (h1 : ∀ g, (Value.slice s.p s.n s.c).ownBlock = some g → ¬ S g) (h2 : ∀ g, (Value.slice s.pb s.nb s.cb).ownBlock = some g → ¬ S g) (h3 : ∀ g, (Value.slice s.ps s.ns s.cs).ownBlock = some g → ¬ S g)
    (h4 : ∀ g, (Value.slice s.pm s.nm s.cm).ownBlock = some g → ¬ S g) (h5 : ∀ g, (Value.slice s.pt s.nt s.ct).ownBlock = some g → ¬ S g) : shop B J b V' s :=
  ⟨shop0_ex h.1 he hJ h1 h2 h3 h4 h5, mapi_kept h.2 he hb⟩
/-- A row of something else written: the shop is as it was. -/
theorem shop_away {C n cap : Nat} {bs : List Bool} (h : shop B J b V s) (hr : mine 4 vbl C V (.slice (some ⟨g, 0, none⟩) n cap) bs) (o : Nat) (u : Value) : shop B J b (V.setCell ⟨g, o, none⟩ u) s := by
  have he : Ex (fun j => j = g) V (V.setCell ⟨g, o, none⟩ u) := Ex.set (S := fun j => j = g) V ⟨g, o, none⟩ rfl _
  have hx : ∀ {e : TypeId} {z B' n : Nat} {v : Value} {xs : List Value}, V.ownsRow B' e z v n xs → e ≠ 4 → ∀ j, v.ownBlock = some j → ¬ j = g := fun ho hne j hj e => own_apart ho hr hne j hj (by rw [e]; rfl)
  exact shop_ex h he (fun e => own_not hr h.1.x (by decide) g rfl e.symm) (fun e => mapi_not hr h.2 g rfl e.symm) (hx h.1.o.kp (by decide)) (hx h.1.o.kb (by decide)) (hx h.1.o.ks (by decide)) (hx h.1.o.km (by decide)) (hx h.1.o.kt (by decide))
end
/-- What deeds leave as it was. -/
structure kept (s s' : Wld) : Prop where
  a : s'.A = s.A
  b : s'.B = s.B
  l : s'.l = s.l
  lb : s'.lb = s.lb
  t : s'.T = s.T
  n : s'.n = s.n
  nb : s'.nb = s.nb
/-- The loop's state: k deeds are told. -/
def dinv (w1 : World) (B J b gd C nl W H : Nat) (s0 : Wld) (gs : List Ded) (k : Nat) (wr : World) : Prop :=
  Below B w1 wr ∧ B ≤ C ∧ ∃ (sk : Wld) (bs : List Bool), shop B J b wr sk ∧ likes s0 sk ∧ Dr W H s0.l s0.lb s0.shp (gs.take k) sk.shp bs ∧ mine 4 vbl C wr (.slice (some ⟨gd, 0, none⟩) nl nl) (bs ++ List.replicate (nl - k) false)
theorem set_next {bs : List Bool} {n k : Nat} (h : bs.length = k) (hk : k < n) (r : Bool) : (bs ++ List.replicate (n - k) false).set k r = (bs ++ [r]) ++ List.replicate (n - (k + 1)) false := by
  obtain ⟨m, hm⟩ : ∃ m, n - k = m + 1 := ⟨n - k - 1, by omega⟩
  have hm2 : n - (k + 1) = m := by omega
  rw [hm, hm2, List.replicate_succ, List.set_append_right _ _ (by omega), h]
  simp
theorem dor_take {gs : List Ded} {k : Nat} (hk : k < gs.length) : gs.take (k + 1) = gs.take k ++ [gs[k]] := List.take_succ_eq_append_getElem hk
set_option maxRecDepth 20000 in
set_option maxHeartbeats 8000000 in
theorem Do_ok (s : Wld) (W H : Nat) (pl : Option Addr) (nl cl : Nat) (gs : List Ded) (w : World) (h : s.fit w) (hk : okw s W H) (hg : dor w pl gs) (hx : ∀ t ∈ gs, fitd t) (hn : gs.length = nl) (h200 : nl ≤ 200) :
    Calls Try.prog 9 #[s.val, .slice pl nl cl] w fun e w' => (∃ (s' : Wld) (dp : Option Addr) (dc : Nat) (bs : List Bool), e = .returned (.tuple #[s'.val, .slice dp bs.length dc, .int .i64 0]) ∧ row vbl w' dp bs ∧ wown w.heap.size w' s' ∧ kept s s' ∧ Dr W H s.l s.lb s.shp gs s'.shp bs) ∧ Below w.heap.size w w' := by
  have HCK : Hid (∀ V, Below w.heap.size w V → Calls Try.prog 17 #[s.val] V fun e w' => e = .returned (.int .i64 0) ∧ Below V.heap.size V w') := fun V hV => Check_world s 0 V (Wld.fit_below h hV) (wre_of hk)
  have HOP : Hid (∀ V, Below w.heap.size w V → Calls Try.prog 30 #[s.val] V fun e w' => (∃ (J b : Nat) (s' : Wld), e = .returned (.pointer (some ⟨J, 0, none⟩)) ∧ shop V.heap.size J b w' s' ∧ alike s s') ∧ Below V.heap.size V w') := fun V hV => open_at s W H V (Wld.fit_below h hV) hk
  have HG : Hid (dor w pl gs) := hg
  have HXD : Hid (∀ t ∈ gs, fitd t) := hx
  have HGN : Hid (gs.length = nl) := hn
  have HOK : Hid (oks W H s.l s.lb s.shp ∧ s.A = W ∧ s.B = H) := ⟨okw_oks hk h.hb h.ht, hk.a, hk.b⟩
  clear h hk hg hx hn
  obtain ⟨A, B, p, n, c, l, pb, nb, cb, lb, ps, ns, cs, ls, pm, nm, cm, lm, pt, nt, ct, lt, N, T⟩ := s
  unfold Wld.val at *
  dsimp only at *
  obtain ⟨F, hF⟩ : ∃ F, w.heap.size = F := ⟨_, rfl⟩
  obtain ⟨wa, hwa⟩ : ∃ wa, w.alloc (.cells #[.int .i64 A, .int .i64 B, .slice p n c, .slice pb nb cb, .slice ps ns cs, .slice pm nm cm, .slice pt nt ct, .int .i64 N, .int .i64 T] 28) = wa := ⟨_, rfl⟩
  have xa : bx9 wa F (.int .i64 A) (.int .i64 B) (.slice p n c) (.slice pb nb cb) (.slice ps ns cs) (.slice pm nm cm) (.slice pt nt ct) (.int .i64 N) (.int .i64 T) := by rw [← hwa, ← hF]; exact box9_new _ _ _ _ _ _ _ _ _ _
  have sa : wa.heap.size = F + 1 := by rw [← hwa, World.size_alloc, hF]
  obtain ⟨w0, hw0⟩ : ∃ w0, wa.alloc (.cells #[.int .i64 0, .int .i64 0, .slice none 0 0, .slice none 0 0, .slice none 0 0, .slice none 0 0, .slice none 0 0, .int .i64 0, .int .i64 0] 28) = w0 := ⟨_, rfl⟩
  have ba : Below wa.heap.size wa w0 := by rw [← hw0]; exact alloc_below _ _
  have HX0 : Hid (bx9 w0 F (.int .i64 A) (.int .i64 B) (.slice p n c) (.slice pb nb cb) (.slice ps ns cs) (.slice pm nm cm) (.slice pt nt ct) (.int .i64 N) (.int .i64 T)) := bx9_below xa ba
  have HR0 : Hid (bx9 w0 (F + 1) (.int .i64 0) (.int .i64 0) (.slice none 0 0) (.slice none 0 0) (.slice none 0 0) (.slice none 0 0) (.slice none 0 0) (.int .i64 0) (.int .i64 0)) := by unfold Hid; rw [← hw0, ← sa]; exact box9_new _ _ _ _ _ _ _ _ _ _
  have hB0 : Below w.heap.size w w0 := by
    have h1 : Below w.heap.size w wa := by rw [← hwa]; exact alloc_below _ _
    exact below_call h1 h1.size ba
  have HB0 : Hid (Below w.heap.size w w0) := hB0
  have HS0 : Hid (w0.heap.size = F + 2) := by unfold Hid; rw [← hw0, World.size_alloc, sa]
  have HF : Hid (w.heap.size = F) := hF
  obtain ⟨z0, z1, z2, z3, z4, z5, z6, z7, z8⟩ := bx9_c9 HX0.out
  clear xa ba hB0
  go_enter Try.func9, Try.ntmps9
  go_wp2_with fail
  refine (HCK.out w0 HB0.out).mono ?_
  rintro e w1 ⟨rfl, hb1⟩
  have HB1 : Hid (Below w.heap.size w w1) := below_call HB0.out HB0.out.size hb1
  have HS1 : Hid (F + 2 ≤ w1.heap.size) := by unfold Hid; rw [← HS0.out]; exact hb1.size
  have HR1 : Hid (bx9 w1 (F + 1) (.int .i64 0) (.int .i64 0) (.slice none 0 0) (.slice none 0 0) (.slice none 0 0) (.slice none 0 0) (.slice none 0 0) (.int .i64 0) (.int .i64 0)) := bx9_below HR0.out hb1
  have HX1 : Hid (bx9 w1 F (.int .i64 A) (.int .i64 B) (.slice p n c) (.slice pb nb cb) (.slice ps ns cs) (.slice pm nm cm) (.slice pt nt ct) (.int .i64 N) (.int .i64 T)) := bx9_below HX0.out hb1
  clear z0 z1 z2 z3 z4 z5 z6 z7 z8 hb1 hw0 hwa sa hF HCK HX0 HR0
  obtain ⟨z0, z1, z2, z3, z4, z5, z6, z7, z8⟩ := bx9_c9 HX1.out
  have d200 : decide ((200 : Int) < nl) = false := by simp; omega
  go_wp2_with fail
  refine (HOP.out w1 HB1.out).mono ?_
  rintro e w2 ⟨⟨J, b, s0, rfl, hsh, hal⟩, hb2⟩
  obtain ⟨p', c', pb', cb', ps', cs', pm', cm', pt', ct', rfl⟩ := alike_flat hal
  dsimp only at *
  obtain ⟨s0, hs0⟩ : ∃ s0 : Wld, (⟨A, B, p', n, c', l, pb', nb, cb', lb, ps', ns, cs', ls, pm', nm, cm', lm, pt', nt, ct', lt, N, T⟩ : Wld) = s0 := ⟨_, rfl⟩
  rw [hs0] at hsh
  have HSH2 : Hid (shop w1.heap.size J b w2 s0) := hsh
  have HB2 : Hid (Below w1.heap.size w1 w2) := hb2
  have HO0 : Hid (oks W H s0.l s0.lb s0.shp ∧ s0.A = W ∧ s0.B = H) := by rw [← hs0]; exact HOK.out
  have HK0 : Hid (s0.A = A ∧ s0.B = B ∧ s0.l = l ∧ s0.lb = lb ∧ s0.T = T ∧ s0.n = n ∧ s0.nb = nb ∧ s0.shp = ⟨ls, lm, lt, N⟩) := by rw [← hs0]; exact ⟨rfl, rfl, rfl, rfl, rfl, rfl, rfl, rfl⟩
  clear z0 z1 z2 z3 z4 z5 z6 z7 z8 hsh hb2 hal hs0 HOP
  obtain ⟨i1, gi, gz0, gz1, gz2⟩ := info_parts kbl
  have GZ2 : Hid (i1.bytes = 1) := gz2
  clear gz2
  go_wp2_with (at_make; refine wpList_make_full _ rfl (.tmp 25) (.tmp 25) 30 rfl w2.heap.size 4 i1 (.bool false) 1 Try.underlying30 gi gz0 gz1 .i64 .i64 (nl : Int) (nl : Int) nl rfl rfl rfl rfl ?_ ?_ (Nat.le_refl _) ?_)
  · rw [GZ2.out]; omega
  · unfold maxLen; omega
  intro w3 hown3 hgr3
  obtain ⟨gd, hgd⟩ : ∃ gd, w2.heap.size = gd := ⟨_, rfl⟩
  rw [hgd] at hown3 ⊢
  have hb23 : Below w2.heap.size w2 w3 := (Below.refl _ _).grown hgr3 (Nat.le_refl _) (by simp)
  have e1 : (madeCells #[Value.bool false] nl).toList = (List.replicate nl false).map vbl := by
    rw [toList_madeCells_one (.bool false) nl]; simp [vbl]
  have hm3 : mine 4 vbl gd w3 (.slice (some ⟨gd, 0, none⟩) nl nl) (List.replicate nl false) := by
    unfold mine
    rw [List.length_replicate, ← e1]
    exact hown3
  have HGD : Hid (w1.heap.size ≤ gd) := by unfold Hid; rw [← hgd]; exact HB2.out.size
  have HI0 : Hid (dinv w1 w1.heap.size J b gd gd nl W H s0 gs 0 w3) := ⟨below_step HB2.out HB2.out.size hb23, HGD.out, s0, [], shop_below HSH2.out hb23, likes.refl _, by simpa using Dr.zero, by simpa using hm3⟩
  clear hown3 hgr3 hb23 e1 hm3 gi gz0 gz1 hgd
  go_wp2_with fail
  go_loopw [29] (fun i wr => ∃ k : Nat, i = .int .i64 (k : Int) ∧ k ≤ nl ∧ Hid (dinv w1 w1.heap.size J b gd gd nl W H s0 gs k wr)) (fun i _ => nl - (intOf i).toNat)
  case atStart => exact ⟨0, rfl, by omega, HI0.out⟩
  case round =>
    obtain ⟨k, rfl, hk, HS⟩ := hrel
    have HBr : Hid (Below w.heap.size w wr) := below_step HB1.out HB1.out.size HS.out.1
    by_cases hlt : k < nl
    · have hkl : k < gs.length := by rw [HGN.out]; exact hlt
      obtain ⟨a, rfl, hc⟩ := dor_at (dor_below HG.out HBr.out) hkl
      obtain ⟨t, ht⟩ : ∃ t, gs[k] = t := ⟨_, rfl⟩
      have hft := HXD.out _ (List.getElem_mem hkl)
      have hsn := dor_take hkl
      rw [ht] at hc hft hsn
      have HSN : Hid (gs.take (k + 1) = gs.take k ++ [t]) := hsn
      obtain ⟨sk, bs, hsh, hlk, hdr, hmb⟩ := HS.out.2.2
      have hok := dr_oks HO0.out.1 hdr
      rw [← hlk.l, ← hlk.lb] at hok
      obtain ⟨dk, dw, dx, dy, da⟩ := t
      obtain ⟨c0, c1, c2, c3, c4⟩ := hc
      simp only at c0 c1 c2 c3 c4
      obtain ⟨w4, hw4⟩ : ∃ w4, wr.alloc (.cells #[.int .i64 dk, .int .i64 dw, .int .i64 dx, .int .i64 dy, .int .i64 da] 52) = w4 := ⟨_, rfl⟩
      have hb4 : Below wr.heap.size wr w4 := by rw [← hw4]; exact alloc_below _ _
      obtain ⟨G, hG⟩ : ∃ G, wr.heap.size = G := ⟨_, rfl⟩
      have e4 : w4.heap[G]? = some (.cells #[.int .i64 dk, .int .i64 dw, .int .i64 dx, .int .i64 dy, .int .i64 da] 52) := by rw [← hw4, ← hG]; exact World.alloc_heap_new wr _
      have q0 : w4.cell? ⟨G, 0, none⟩ = some (.int .i64 dk) := by simp [World.cell?, e4]
      have q1 : w4.cell? ⟨G, 1, none⟩ = some (.int .i64 dw) := by simp [World.cell?, e4]
      have q2 : w4.cell? ⟨G, 2, none⟩ = some (.int .i64 dx) := by simp [World.cell?, e4]
      have q3 : w4.cell? ⟨G, 3, none⟩ = some (.int .i64 dy) := by simp [World.cell?, e4]
      have q4 : w4.cell? ⟨G, 4, none⟩ = some (.int .i64 da) := by simp [World.cell?, e4]
      have HDO : Hid (Calls Try.prog 31 #[.pointer (some ⟨J, 0, none⟩), .agg #[.int .i64 dk, .int .i64 dw, .int .i64 dx, .int .i64 dy, .int .i64 da]] w4 fun e w' => resO w1.heap.size J b sk (fun s' r => Ds W H sk.l sk.lb sk.shp ⟨dk, dw, dx, dy, da⟩ s' r) e w' ∧ Ex (shS J b sk) w4 w') :=
        do_at w1.heap.size J b W H sk ⟨dk, dw, dx, dy, da⟩ w4 (shop_below hsh hb4) hok (by rw [hlk.a]; exact HO0.out.2.1) (by rw [hlk.b]; exact HO0.out.2.2) hft
      have HB4 : Hid (Below w1.heap.size w1 w4) := below_step HS.out.1 HS.out.1.size hb4
      have HLK : Hid (likes s0 sk) := hlk
      have HDR : Hid (Dr W H s0.l s0.lb s0.shp (gs.take k) sk.shp bs) := hdr
      have HSH4 : Hid (shop w1.heap.size J b w4 sk) := shop_below hsh hb4
      have HMB4 : Hid (mine 4 vbl gd w4 (.slice (some ⟨gd, 0, none⟩) nl nl) (bs ++ List.replicate (nl - k) false)) := mine_below hmb hb4
      have HBL : Hid (bs.length = k) := by have h1 := dr_len hdr; rw [List.length_take] at h1; unfold Hid; have := HGN.out; omega
      have l1 : (k : Int) < nl := by omega
      have l2 : (0 : Int) ≤ k := by omega
      clear hsh hlk hdr hmb hok ht hft hsn hb4 e4
      go_wp2_with fail
      refine Calls.mono HDO.out ?_
      rintro e w5 ⟨⟨r, s1, rfl, hsh1, hlk1, hds⟩, he5⟩
      have hm5 : mine 4 vbl gd w5 (.slice (some ⟨gd, 0, none⟩) nl nl) (bs ++ List.replicate (nl - k) false) := mine_kept HMB4.out he5 (shS_row HSH4.out HMB4.out (by decide) (by decide) (by decide))
      have hll : (bs ++ List.replicate (nl - k) false).length = nl := by rw [List.length_append, List.length_replicate, HBL.out]; omega
      have hfr := mine_free hm5 hll k
      obtain ⟨uv, hcl⟩ : ∃ u, w5.cell? ⟨gd, k, none⟩ = some u := ⟨_, mine_cell hm5 hll (k := k) (by omega) rfl⟩
      have hb5 : Below w1.heap.size w1 w5 := HB4.out.trans (he5.below (B := w1.heap.size) HB4.out.size (fun j hj e => by have := shS_ge HSH4.out.1 j e; omega))
      have HD6 : Hid (dinv w1 w1.heap.size J b gd gd nl W H s0 gs (k + 1) (w5.setCell ⟨gd, k, none⟩ (.bool r))) := by
        refine ⟨hb5.setCell HGD.out _, HGD.out, s1, bs ++ [r], shop_away hsh1 hm5 _ _, HLK.out.trans hlk1, ?_, ?_⟩
        · rw [HSN.out]
          rw [HLK.out.l, HLK.out.lb] at hds
          exact HDR.out.more hds
        · have := mine_put hm5 hll k r
          rw [set_next HBL.out hlt] at this
          exact this
      clear hsh1 hlk1 hds he5 hm5 hb5 hll c0 c1 c2 c3 c4 q0 q1 q2 q3 q4 hw4
      go_wp2_with fail
      go_roundw
      case rel => exact ⟨k + 1, by go_num, by omega, HD6.out⟩
      case measure => simp [intOf]; omega
    · have hkn : k = nl := by omega
      subst hkn
      obtain ⟨hbr, -, sk, bs, hsh, hlk, hdr, hmb⟩ := HS.out
      have hta : gs.take k = gs := List.take_of_length_le (by rw [HGN.out]; omega)
      rw [hta] at hdr
      have hbl := dr_len hdr
      rw [HGN.out] at hbl
      simp only [Nat.sub_self, List.replicate_zero, List.append_nil] at hmb
      have hRr := bx9_below HR1.out (V' := wr) ⟨hbr.os, hbr.tape, hbr.output, hbr.size, hbr.block⟩
      have HLK : Hid (likes s0 sk) := hlk
      have HDR : Hid (Dr W H s0.l s0.lb s0.shp gs sk.shp bs) := hdr
      have HSHr : Hid (shop w1.heap.size J b wr sk) := hsh
      have HMB : Hid (mine 4 vbl gd wr (.slice (some ⟨gd, 0, none⟩) k k) bs) := hmb
      have HBL : Hid (bs.length = k) := hbl
      have HRr : Hid (bx9 wr (F + 1) (.int .i64 0) (.int .i64 0) (.slice none 0 0) (.slice none 0 0) (.slice none 0 0) (.slice none 0 0) (.slice none 0 0) (.int .i64 0) (.int .i64 0)) := hRr
      obtain ⟨A1, B1, p1, n1, c1, l1, pb1, nb1, cb1, lb1, ps1, ns1, cs1, ls1, pm1, nm1, cm1, lm1, pt1, nt1, ct1, lt1, N1, T1⟩ := sk
      obtain ⟨z0, z1, z2, z3, z4, z5, z6, z7, z8, z9⟩ := bx10_c10 hsh.1.x
      simp only at z0 z1 z2 z3 z4 z5 z6 z7 z8 z9
      obtain ⟨y0, y1, y2, y3, y4, y5, y6, y7, y8⟩ := bx9_c9 hRr
      have fr0 := bx9_free hRr 0
      have fr1 := bx9_free hRr 1
      have fr2 := bx9_free hRr 2
      have fr3 := bx9_free hRr 3
      have fr4 := bx9_free hRr 4
      have fr5 := bx9_free hRr 5
      have fr6 := bx9_free hRr 6
      have fr7 := bx9_free hRr 7
      have fr8 := bx9_free hRr 8
      have hJF : ¬ J = F + 1 := by have := HS1.out; have := hsh.1.jB; omega
      have hFJ : ¬ F + 1 = J := fun e => hJF e.symm
      clear hbr hsh hlk hdr hmb hta hbl hRr
      go_wp2_with fail
      obtain ⟨V, hV⟩ : ∃ V, ((((((((wr.setCell ⟨F + 1, 0, none⟩ (.int .i64 A1)).setCell ⟨F + 1, 1, none⟩ (.int .i64 B1)).setCell ⟨F + 1, 2, none⟩ (.slice p1 n1 c1)).setCell ⟨F + 1, 3, none⟩ (.slice pb1 nb1 cb1)).setCell ⟨F + 1, 4, none⟩ (.slice ps1 ns1 cs1)).setCell ⟨F + 1, 5, none⟩ (.slice pm1 nm1 cm1)).setCell ⟨F + 1, 6, none⟩ (.slice pt1 nt1 ct1)).setCell ⟨F + 1, 7, none⟩ (.int .i64 N1)).setCell ⟨F + 1, 8, none⟩ (.int .i64 T1) = V := ⟨_, rfl⟩
      rw [hV]
      obtain ⟨k2, kx⟩ := set9 HRr.out hV.symm
      obtain ⟨t0, t1, t2, t3, t4, t5, t6, t7, t8⟩ := bx9_c9 k2
      have hSz := HS1.out
      have hBw : w.heap.size ≤ w1.heap.size := HB1.out.size
      have nr : ∀ {e : TypeId} {z n : Nat} {v : Value} {xs : List Value}, wr.ownsRow w1.heap.size e z v n xs → ∀ g, v.ownBlock = some g → ¬ g = F + 1 := fun h g hg e => by have := own_base h g hg; omega
      have ho := HSHr.out.1.o
      have hwV : Below w.heap.size w V := HBr.out.trans (kx.below (B := w.heap.size) HBr.out.size (fun j hj e => by have := HF.out; omega))
      have hmV := mine_kept HMB.out kx (fun g hg e => by have := own_base HMB.out g hg; have := HGD.out; omega)
      refine ⟨by simp, .tuple #[.agg #[.int .i64 A1, .int .i64 B1, .slice p1 n1 c1, .slice pb1 nb1 cb1, .slice ps1 ns1 cs1, .slice pm1 nm1 cm1, .slice pt1 nt1 ct1, .int .i64 N1, .int .i64 T1], .slice (some ⟨gd, 0, none⟩) k k, .int .i64 0], ?_, ⟨⟨A1, B1, p1, n1, c1, l1, pb1, nb1, cb1, lb1, ps1, ns1, cs1, ls1, pm1, nm1, cm1, lm1, pt1, nt1, ct1, lt1, N1, T1⟩, some ⟨gd, 0, none⟩, k, bs, by rw [HBL.out], mine_row hmV HBL.out, ?_, ?_, ?_⟩, ?_⟩
      · simp [results, Try.results9, go_sem, t0, t1, t2, t3, t4, t5, t6, t7, t8]
      · rw [HF.out.symm.symm]
        exact wown_mono (wown_ex ho kx (nr ho.kp) (nr ho.kb) (nr ho.ks) (nr ho.km) (nr ho.kt)) (by first | exact hBw | (rw [← HF.out]; exact hBw))
      · have hL := HLK.out
        have hK := HK0.out
        exact ⟨by rw [hL.a, hK.1], by rw [hL.b, hK.2.1], by rw [hL.l, hK.2.2.1], by rw [hL.lb, hK.2.2.2.1], by rw [hL.t, hK.2.2.2.2.1], by rw [hL.n, hK.2.2.2.2.2.1], by rw [hL.nb, hK.2.2.2.2.2.2.1]⟩
      · have hK := HK0.out
        have := HDR.out
        rw [hK.2.2.1, hK.2.2.2.1, hK.2.2.2.2.2.2.2] at this
        exact this
      · first | exact hwV | (rw [← HF.out]; exact hwV)
end Go.Proofs.Ytdcjjfipnilmpaa
