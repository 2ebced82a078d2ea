/- What Deeded tells of a troop that can't be made. -/
import Derived.Test.YtdcjjfipnilmpaaME
import Derived.Test.YtdcjjfipnilmpaaMR
import Derived.Deep.RegionHeld3
import Derived.Deep.DrawnRows
import Derived.RegionTactic
namespace Go.Proofs.Ytdcjjfipnilmpaa
open Go.RowKit Go.Maps
set_option linter.unusedVariables false

set_option maxRecDepth 40000 in
set_option maxHeartbeats 16000000 in
theorem Deeded_make_no (s : Wld) (W H : Nat) (d : Ded) (w : World) (h : s.fit w) (hk : okw s W H) (hd : fitd d) (hk1 : d.k = 3) (hno : ¬ makeC s.lb s.shp d.w d.a) :
    Calls Try.prog 38 #[s.val, dv d] w fun e w' => dres w.heap.size s (fun s' r => Ds W H s.l s.lb s.shp d s' r) e w' ∧ Below w.heap.size w w' := by
  have HK : Hid (d.k = 3) := hk1
  have HNO : Hid (¬ makeC s.lb s.shp d.w d.a) := hno
  clear hk1 hno
  have HOK : Hid (oks W H s.l s.lb s.shp ∧ s.A = W ∧ s.B = H) := ⟨okw_oks hk h.hb h.ht, hk.a, hk.b⟩
  have HPB : Hid (row vi w s.p s.l ∧ s.l.length = s.n ∧ crow w s.pb s.lb ∧ s.lb.length = s.nb) := ⟨h.r, h.h, h.rb, h.hb⟩
  have HC1 : Hid (∀ V, Below w.heap.size w V → Calls Try.prog 24 #[.slice s.ps s.ns s.cs] V fun e w' => (∃ v, e = .returned v ∧ w'.ownsRow V.heap.size 3 1 v s.ls.length (s.ls.map vi)) ∧ Below V.heap.size V w') := fun V hV => by
    refine (Clonei_any s.ps s.ns s.cs s.ls V (row_below h.rs hV) h.hs (by have := HOK.out.1.pl.1; have := HOK.out.1.nb; have := h.hs; have e : s.shp.ls.length = s.ls.length := rfl; omega)).mono ?_
    rintro e w' ⟨⟨v, rfl, hv, _⟩, hb⟩
    exact ⟨⟨v, rfl, hv⟩, hb⟩
  have HC2 : Hid (∀ V, Below w.heap.size w V → Calls Try.prog 24 #[.slice s.pm s.nm s.cm] V fun e w' => (∃ v, e = .returned v ∧ w'.ownsRow V.heap.size 3 1 v s.lm.length (s.lm.map vi)) ∧ Below V.heap.size V w') := fun V hV => by
    refine (Clonei_any s.pm s.nm s.cm s.lm V (row_below h.rm hV) h.hm (by
      have h1 := HOK.out.1.mn.1
      have h2 := HOK.out.1.f.2.2.1
      have h3 := wh_le HOK.out.1.f.1 HOK.out.1.f.2.1
      have h4 := h.hm
      have e : s.shp.lm.length = s.lm.length := rfl
      omega)).mono ?_
    rintro e w' ⟨⟨v, rfl, hv, _⟩, hb⟩
    exact ⟨⟨v, rfl, hv⟩, hb⟩
  have HC3 : Hid (∀ V, Below w.heap.size w V → Calls Try.prog 23 #[.slice s.pt s.nt s.ct] V fun e w' => (∃ v, e = .returned v ∧ w'.ownsRow V.heap.size 47 7 v s.lt.length (flat7 s.lt)) ∧ Below V.heap.size V w') := fun V hV => by
    refine (Clonet_any s.pt s.nt s.ct s.lt V (trow_below h.rt hV) h.ht (by have := HOK.out.1.nt; have := h.ht; have e : s.shp.lt.length = s.lt.length := rfl; omega)).mono ?_
    rintro e w' ⟨⟨v, rfl, hv, _⟩, hb⟩
    exact ⟨⟨v, rfl, hv⟩, hb⟩
  have HFD : Hid (fitd d) := hd
  clear h hk hd
  obtain ⟨A, B, p, n, c, l, pb, nb, cb, lb, ps, ns, cs, ls, pm, nm, cm, lm, pt, nt, ct, lt, N, T⟩ := s
  obtain ⟨dk, dw, dx, dy, da⟩ := d
  unfold Wld.val dv
  dsimp only at *
  obtain ⟨J, hJ⟩ : ∃ J, w.heap.size = J := ⟨_, rfl⟩
  obtain ⟨w0, hw0⟩ : ∃ w0, ((w.alloc (.cells #[.int .i64 A, .int .i64 B, .slice p n c, .slice pb nb cb, .slice ps ns cs, .slice pm nm cm, .slice pt nt ct, .int .i64 N, .int .i64 T] 28)).alloc (.cells #[.int .i64 dk, .int .i64 dw, .int .i64 dx, .int .i64 dy, .int .i64 da] 52)).alloc (.cells #[.int .i64 0, .int .i64 0, .slice none 0 0, .slice none 0 0, .slice none 0 0, .slice none 0 0, .slice none 0 0, .int .i64 0, .int .i64 0] 28) = w0 := ⟨_, rfl⟩
  have hB0 : Below w.heap.size w w0 := by rw [← hw0]; exact ((alloc_below w _).alloc (by simp) _).alloc (by simp; omega) _
  have hx0 : bx9 w0 J (.int .i64 A) (.int .i64 B) (.slice p n c) (.slice pb nb cb) (.slice ps ns cs) (.slice pm nm cm) (.slice pt nt ct) (.int .i64 N) (.int .i64 T) := by
    rw [← hw0, ← hJ]
    exact bx9_below (bx9_below (box9_new w _ _ _ _ _ _ _ _ _) (alloc_below _ _)) (alloc_below _ _)
  have hd0 : bxd w0 (J + 1) ⟨dk, dw, dx, dy, da⟩ := by
    rw [← hw0, ← hJ]
    refine bxd_ex (S := fun _ => False) ?_ (Ex.of_below (alloc_below _ _)) (fun e => e)
    have := World.alloc_heap_new (w.alloc (.cells #[.int .i64 A, .int .i64 B, .slice p n c, .slice pb nb cb, .slice ps ns cs, .slice pm nm cm, .slice pt nt ct, .int .i64 N, .int .i64 T] 28)) (.cells #[.int .i64 dk, .int .i64 dw, .int .i64 dx, .int .i64 dy, .int .i64 da] 52)
    rw [World.size_alloc] at this
    exact this
  have hr0 : bx9 w0 (J + 1 + 1) (.int .i64 0) (.int .i64 0) (.slice none 0 0) (.slice none 0 0) (.slice none 0 0) (.slice none 0 0) (.slice none 0 0) (.int .i64 0) (.int .i64 0) := by
    rw [← hw0, ← hJ]
    have := box9_new ((w.alloc (.cells #[.int .i64 A, .int .i64 B, .slice p n c, .slice pb nb cb, .slice ps ns cs, .slice pm nm cm, .slice pt nt ct, .int .i64 N, .int .i64 T] 28)).alloc (.cells #[.int .i64 dk, .int .i64 dw, .int .i64 dx, .int .i64 dy, .int .i64 da] 52)) (.int .i64 0) (.int .i64 0) (.slice none 0 0) (.slice none 0 0) (.slice none 0 0) (.slice none 0 0) (.slice none 0 0) (.int .i64 0) (.int .i64 0)
    rw [World.size_alloc, World.size_alloc] at this
    exact this
  have hs0 : w0.heap.size = J + 1 + 1 + 1 := by rw [← hw0, World.size_alloc, World.size_alloc, World.size_alloc, hJ]
  have HB0 : Hid (Below w.heap.size w w0) := hB0
  have HS0 : Hid (w0.heap.size = J + 1 + 1 + 1 ∧ w.heap.size = J) := ⟨hs0, hJ⟩
  have HX0 : Hid (bx9 w0 J (.int .i64 A) (.int .i64 B) (.slice p n c) (.slice pb nb cb) (.slice ps ns cs) (.slice pm nm cm) (.slice pt nt ct) (.int .i64 N) (.int .i64 T)) := hx0
  have HD0 : Hid (bxd w0 (J + 1) ⟨dk, dw, dx, dy, da⟩ ∧ bx9 w0 (J + 1 + 1) (.int .i64 0) (.int .i64 0) (.slice none 0 0) (.slice none 0 0) (.slice none 0 0) (.slice none 0 0) (.slice none 0 0) (.int .i64 0) (.int .i64 0)) := ⟨hd0, hr0⟩
  have HUP : Hid (∀ V, Ex (fun g => g = J) w0 V → Below w.heap.size w V) := fun V hV => HB0.out.trans (hV.below HB0.out.size (fun k hk e => by have := HS0.out.2; omega))
  clear hB0 hx0 hd0 hr0 hs0
  go_enter Try.func38, Try.ntmps38
  go_wp2_with fail
  clear hw0
  refine regd1 J A B N T p pb ps pm pt n c nb cb ns cs nm cm nt ct ls lm lt w0 _ _ _ _ _ _ _ _ _ _ _ _ _ _ _ _ _ _ _ _ _ _ _ _ _ _ _ _ _ _ _ _ _ _ _ _ _ _ _ _ _ _ _ _ _ _ _ _ _ _ _ _ _ _ _ _ _ _ _ _ _ _ _ _ _ _ _ _ _ _ _ _ _ _ _ _ _ _ _ _ _ _ _ _ _ _ _ _ _ _ _ _ _ _ _ _ _ _ _ _ _ _ _ _ _ _ _ _ _ _ _ _ _ _ _ _ _ _ _ _ _ _ _ _ _ _ _ _ _ _ _ _ _ _ _ _ _ _ _ _ _ _ _ _ _ _ _ _ _ _ _ _ _ _ _ _ _ _ _ _ _ _ _ _ _ _ _ _ _ _ _ _ _ _ _ _ _ _ _ _ _ _ _ _ _ _ _ _ _ _ _ _ _ _ _ _ _ _ _ _ _ _ _ _ _ _ _ _ _ _ _ _ _ _ _ _ _ _ _ _ _ _ _ _ _ _ _ _ _ _ _ _ _ _ _ _ _ _ _ _ _ _ _ _ _ _ _ _ _ _ _ _ _ _ _ _ _ _ _ _ _ _ _ _ _ _ _ _ _ _ _ _ _ _ _ _ _ _ _ _ _ _ _ _ _ _ _ _ _ _ _ _ HX0.out (fun V hV => HC1.out V (HUP.out V hV)) (fun V hV => HC2.out V (HUP.out V hV)) (fun V hV => HC3.out V (HUP.out V hV)) ?_
  intro qs es qm em qt et w1 he hx os om ot ap
  obtain ⟨s1, hs1⟩ : ∃ s1 : Wld, s1 = ⟨A, B, p, n, c, l, pb, nb, cb, lb, qs, ls.length, es, ls, qm, lm.length, em, lm, qt, lt.length, et, lt, N, T⟩ := ⟨_, rfl⟩
  have HSIT1 : Hid (sit (J + 1 + 1 + 1) J (J + 1) (J + 1 + 1) w1 ⟨A, B, p, n, c, l, pb, nb, cb, lb, qs, ls.length, es, ls, qm, lm.length, em, lm, qt, lt.length, et, lt, N, T⟩ ⟨dk, dw, dx, dy, da⟩) := by
    rw [HS0.out.1] at os om ot
    exact ⟨hx, bxd_ex HD0.out.1 he (by omega), ⟨_, _, _, _, _, _, _, _, _, bx9_ex HD0.out.2 he (by omega)⟩, ⟨os, om, ot, ap⟩, by omega, by omega, by omega⟩
  have HB1 : Hid (Below w.heap.size w w1) := HUP.out w1 he
  clear he hx os om ot ap hs1
  obtain ⟨z0, z1, z2, z3, z4, z5, z6, z7, z8⟩ := bx9_c9 HSIT1.out.x
  have HIX : Hid (Calls Try.prog 50 #[.slice qt lt.length et, .func (.func 51) #[] #[.pointer (some ⟨J + 1, 0, none⟩)]] w1 fun e w' => (∃ r, e = .returned (.int .i64 r) ∧ Hid (fst1 (fun t => t.i == dw) lt r)) ∧ Below w1.heap.size w1 w') :=
    IndexFunct_any Try.call51 _ qt lt.length et lt (fun t => t.i == dw) w1 (own_trow HSIT1.out.o.kt) rfl (by have h := HOK.out.1.nt; have e : (Wld.shp ⟨A, B, p, n, c, l, pb, nb, cb, lb, ps, ns, cs, ls, pm, nm, cm, lm, pt, nt, ct, lt, N, T⟩).lt.length = lt.length := rfl; omega)
      (fun t V2 _ hV2 => Who1_at t dw (J + 1) V2 (cell_call2 (bxd_cells HSIT1.out.d).2.1 hV2))
  clear HC1 HC2 HC3 HX0 HD0
  go_wp2_with fail
  refine Calls.mono HIX.out ?_
  rintro e w2 ⟨⟨r, rfl, hfr⟩, hb2⟩
  have HFR : Hid (fst1 (fun t => t.i == dw) lt r) := hfr.out
  have HSIT : Hid (sit (J + 1 + 1 + 1) J (J + 1) (J + 1 + 1) w2 ⟨A, B, p, n, c, l, pb, nb, cb, lb, qs, ls.length, es, ls, qm, lm.length, em, lm, qt, lt.length, et, lt, N, T⟩ ⟨dk, dw, dx, dy, da⟩) := sit_below HSIT1.out hb2
  have HB2 : Hid (Below w.heap.size w w2) := below_call HB1.out HB1.out.size hb2
  clear hfr hb2 HIX z0 z1 z2 z3 z4 z5 z6 z7 z8
  have e1 : dk = 3 := HK.out
  subst e1
  obtain ⟨q0, q1, q2, q3, q4⟩ := bxd_cells HSIT.out.d
  obtain ⟨z0, z1, z2, z3, z4, z5, z6, z7, z8⟩ := bx9_c9 HSIT.out.x
  have hnb : lb.length = nb := HPB.out.2.2.2
  have hnb8 : nb ≤ 8 := by have h1 : lb.length ≤ 8 := HOK.out.1.nb; omega
  have eW : IntKind.i64.wrap ((nb : Int) - 1) = (nb : Int) - 1 := wrp (by omega) (by omega)
  by_cases hA : ¬ (0 ≤ dw ∧ dw ≤ (nb : Int) - 1)
  · have HC1 : Hid ((decide ((0 : Int) ≤ dw) && decide (dw ≤ (nb : Int) - 1)) = false) := by unfold Hid; rw [Bool.and_eq_false_iff]; simp only [decide_eq_false_iff_not]; omega
    go_wp2_with fail
    refine wp_region_noPanic ?_
    refine wp_region_held_drew (S := (fun U => Below w2.heap.size w2 U ∧ U.cell? ⟨J + 1, 1, none⟩ = some (.int .i64 dw) ∧ U.cell? ⟨J, 3, none⟩ = some (.slice pb nb cb))) (by kernel_rfl) ⟨Below.drew (Below.refl _ _), q1, z3⟩ (fun hHeld => ?_)
    refine wpAnyH_take (i := 0) (oi := ?oA0) (v := .pointer (some ⟨J + 1, 1, none⟩)) ?hiA0 (by kernel_rfl) (by kernel_rfl) (by kernel_rfl) (fun _ _ _ h => h) ?hyA0 hHeld ?restA0
    case hiA0 => simp only [List.getElem?_toArray, List.getElem?_cons_zero]; first | done | rfl
    case hyA0 => exact Or.inl ⟨by rfl, by intro V hV; obtain ⟨s0, s1, s2⟩ := hV; go_simp⟩
    try simp only [Act.put, List.setIfInBounds_toArray, List.set_cons_zero, List.set_cons_succ]
    refine wpAnyH_take (i := 1) (oi := ?oA1) (v := .int .i64 dw) ?hiA1 (by kernel_rfl) (by kernel_rfl) (by kernel_rfl) (fun _ _ _ h => h) ?hyA1 hHeld ?restA1
    case hiA1 => simp only [List.getElem?_toArray, List.getElem?_cons_zero, List.getElem?_cons_succ]; first | done | rfl
    case hyA1 => exact Or.inl ⟨by rfl, by intro V hV; obtain ⟨s0, s1, s2⟩ := hV; go_simp⟩
    try simp only [Act.put, List.setIfInBounds_toArray, List.set_cons_zero, List.set_cons_succ]
    refine wpAnyH_take (i := 2) (oi := ?oA2) (v := .pointer (some ⟨J, 3, none⟩)) ?hiA2 (by kernel_rfl) (by kernel_rfl) (by kernel_rfl) (fun _ _ _ h => h) ?hyA2 hHeld ?restA2
    case hiA2 => simp only [List.getElem?_toArray, List.getElem?_cons_zero, List.getElem?_cons_succ]; first | done | rfl
    case hyA2 => exact Or.inl ⟨by rfl, by intro V hV; obtain ⟨s0, s1, s2⟩ := hV; go_simp⟩
    try simp only [Act.put, List.setIfInBounds_toArray, List.set_cons_zero, List.set_cons_succ]
    refine wpAnyH_take (i := 3) (oi := ?oA3) (v := .slice pb nb cb) ?hiA3 (by kernel_rfl) (by kernel_rfl) (by kernel_rfl) (fun _ _ _ h => h) ?hyA3 hHeld ?restA3
    case hiA3 => simp only [List.getElem?_toArray, List.getElem?_cons_zero, List.getElem?_cons_succ]; first | done | rfl
    case hyA3 => exact Or.inl ⟨by rfl, by intro V hV; obtain ⟨s0, s1, s2⟩ := hV; go_simp⟩
    try simp only [Act.put, List.setIfInBounds_toArray, List.set_cons_zero, List.set_cons_succ]
    refine wpAnyH_take (i := 4) (oi := ?oA4) (v := .int .i64 (nb : Int)) ?hiA4 (by kernel_rfl) (by kernel_rfl) (by kernel_rfl) (fun _ _ _ h => h) ?hyA4 hHeld ?restA4
    case hiA4 => simp only [List.getElem?_toArray, List.getElem?_cons_zero, List.getElem?_cons_succ]; first | done | rfl
    case hyA4 => exact Or.inl ⟨by rfl, by intro V hV; obtain ⟨s0, s1, s2⟩ := hV; go_simp⟩
    try simp only [Act.put, List.setIfInBounds_toArray, List.set_cons_zero, List.set_cons_succ]
    refine wpAnyH_take (i := 5) (oi := ?oA5) (v := .int .i64 ((nb : Int) - 1)) ?hiA5 (by kernel_rfl) (by kernel_rfl) (by kernel_rfl) (fun _ _ _ h => h) ?hyA5 hHeld ?restA5
    case hiA5 => simp only [List.getElem?_toArray, List.getElem?_cons_zero, List.getElem?_cons_succ]; first | done | rfl
    case hyA5 => exact Or.inl ⟨by rfl, by intro V hV; obtain ⟨s0, s1, s2⟩ := hV; go_simp⟩
    try simp only [Act.put, List.setIfInBounds_toArray, List.set_cons_zero, List.set_cons_succ]
    refine wpAnyH_ready (rs := [6]) (by kernel_rfl) (by simp) ?_
    refine AllReadyH.cons (o := ?oA6) ?hiA6 (fun K hK => ?stepA6) AllReadyH.nil
    case hiA6 => simp only [List.getElem?_toArray, List.getElem?_cons_zero, List.getElem?_cons_succ]; first | done | rfl
    go_simp
    go_at_call 35
    refine (Between_at dw 0 ((nb : Int) - 1) false _ HC1).mono ?_
    rintro e w3 ⟨rfl, rfl⟩
    go_wp2_with fail
    refine hK.out _ _ hHeld (fun hHeldb => ?_)
    clear hK K
    try simp only [Act.put, List.setIfInBounds_toArray, List.set_cons_zero, List.set_cons_succ]
    refine wpAnyH_take (i := 7) (oi := ?oA7) (v := .bool true) ?hiA7 (by kernel_rfl) (by kernel_rfl) (by kernel_rfl) (fun _ _ _ h => h) ?hyA7 hHeldb ?restA7
    case hiA7 => simp only [List.getElem?_toArray, List.getElem?_cons_zero, List.getElem?_cons_succ]; first | done | rfl
    case hyA7 => exact Or.inl ⟨by rfl, by intro V hV; obtain ⟨s0, s1, s2⟩ := hV; go_simp⟩
    try simp only [Act.put, List.setIfInBounds_toArray, List.set_cons_zero, List.set_cons_succ]
    refine wpAnyH_take (i := 8) (oi := ?oA8) (v := .bool true) ?hiA8 (by kernel_rfl) (by kernel_rfl) (by kernel_rfl) (fun _ _ _ h => h) ?hyA8 hHeldb ?restA8
    case hiA8 => simp only [List.getElem?_toArray, List.getElem?_cons_zero, List.getElem?_cons_succ]; first | done | rfl
    case hyA8 => exact Or.inl ⟨by rfl, by intro V hV; obtain ⟨s0, s1, s2⟩ := hV; go_simp⟩
    try simp only [Act.put, List.setIfInBounds_toArray, List.set_cons_zero, List.set_cons_succ]
    refine wpAnyH_take (i := 9) (oi := ?oA9) (v := undef) ?hiA9 (by kernel_rfl) (by kernel_rfl) (by kernel_rfl) (fun _ _ _ h => h) ?hyA9 hHeldb ?restA9
    case hiA9 => simp only [List.getElem?_toArray, List.getElem?_cons_zero, List.getElem?_cons_succ]; first | done | rfl
    case hyA9 => exact Or.inr ⟨by rfl, rfl⟩
    try simp only [Act.put, List.setIfInBounds_toArray, List.set_cons_zero, List.set_cons_succ]
    refine wpAnyH_take (i := 10) (oi := ?oA10) (v := undef) ?hiA10 (by kernel_rfl) (by kernel_rfl) (by kernel_rfl) (fun _ _ _ h => h) ?hyA10 hHeldb ?restA10
    case hiA10 => simp only [List.getElem?_toArray, List.getElem?_cons_zero, List.getElem?_cons_succ]; first | done | rfl
    case hyA10 => exact Or.inr ⟨by rfl, rfl⟩
    try simp only [Act.put, List.setIfInBounds_toArray, List.set_cons_zero, List.set_cons_succ]
    refine wpAnyH_take (i := 11) (oi := ?oA11) (v := undef) ?hiA11 (by kernel_rfl) (by kernel_rfl) (by kernel_rfl) (fun _ _ _ h => h) ?hyA11 hHeldb ?restA11
    case hiA11 => simp only [List.getElem?_toArray, List.getElem?_cons_zero, List.getElem?_cons_succ]; first | done | rfl
    case hyA11 => exact Or.inr ⟨by rfl, rfl⟩
    try simp only [Act.put, List.setIfInBounds_toArray, List.set_cons_zero, List.set_cons_succ]
    refine wpAnyH_take (i := 12) (oi := ?oA12) (v := undef) ?hiA12 (by kernel_rfl) (by kernel_rfl) (by kernel_rfl) (fun _ _ _ h => h) ?hyA12 hHeldb ?restA12
    case hiA12 => simp only [List.getElem?_toArray, List.getElem?_cons_zero, List.getElem?_cons_succ]; first | done | rfl
    case hyA12 => exact Or.inr ⟨by rfl, rfl⟩
    try simp only [Act.put, List.setIfInBounds_toArray, List.set_cons_zero, List.set_cons_succ]
    refine wpAnyH_take (i := 13) (oi := ?oA13) (v := .bool true) ?hiA13 (by kernel_rfl) (by kernel_rfl) (by kernel_rfl) (fun _ _ _ h => h) ?hyA13 hHeldb ?restA13
    case hiA13 => simp only [List.getElem?_toArray, List.getElem?_cons_zero, List.getElem?_cons_succ]; first | done | rfl
    case hyA13 => exact Or.inl ⟨by rfl, by intro V hV; obtain ⟨s0, s1, s2⟩ := hV; go_simp⟩
    try simp only [Act.put, List.setIfInBounds_toArray, List.set_cons_zero, List.set_cons_succ]
    refine wpAnyH_take (i := 14) (oi := ?oA14) (v := .bool true) ?hiA14 (by kernel_rfl) (by kernel_rfl) (by kernel_rfl) (fun _ _ _ h => h) ?hyA14 hHeldb ?restA14
    case hiA14 => simp only [List.getElem?_toArray, List.getElem?_cons_zero, List.getElem?_cons_succ]; first | done | rfl
    case hyA14 => exact Or.inl ⟨by rfl, by intro V hV; obtain ⟨s0, s1, s2⟩ := hV; go_simp⟩
    try simp only [Act.put, List.setIfInBounds_toArray, List.set_cons_zero, List.set_cons_succ]
    refine wpAnyH_take (i := 15) (oi := ?oA15) (v := undef) ?hiA15 (by kernel_rfl) (by kernel_rfl) (by kernel_rfl) (fun _ _ _ h => h) ?hyA15 hHeldb ?restA15
    case hiA15 => simp only [List.getElem?_toArray, List.getElem?_cons_zero, List.getElem?_cons_succ]; first | done | rfl
    case hyA15 => exact Or.inr ⟨by rfl, rfl⟩
    try simp only [Act.put, List.setIfInBounds_toArray, List.set_cons_zero, List.set_cons_succ]
    refine wpAnyH_take (i := 16) (oi := ?oA16) (v := undef) ?hiA16 (by kernel_rfl) (by kernel_rfl) (by kernel_rfl) (fun _ _ _ h => h) ?hyA16 hHeldb ?restA16
    case hiA16 => simp only [List.getElem?_toArray, List.getElem?_cons_zero, List.getElem?_cons_succ]; first | done | rfl
    case hyA16 => exact Or.inr ⟨by rfl, rfl⟩
    try simp only [Act.put, List.setIfInBounds_toArray, List.set_cons_zero, List.set_cons_succ]
    refine wpAnyH_take (i := 17) (oi := ?oA17) (v := undef) ?hiA17 (by kernel_rfl) (by kernel_rfl) (by kernel_rfl) (fun _ _ _ h => h) ?hyA17 hHeldb ?restA17
    case hiA17 => simp only [List.getElem?_toArray, List.getElem?_cons_zero, List.getElem?_cons_succ]; first | done | rfl
    case hyA17 => exact Or.inr ⟨by rfl, rfl⟩
    try simp only [Act.put, List.setIfInBounds_toArray, List.set_cons_zero, List.set_cons_succ]
    refine wpAnyH_take (i := 18) (oi := ?oA18) (v := undef) ?hiA18 (by kernel_rfl) (by kernel_rfl) (by kernel_rfl) (fun _ _ _ h => h) ?hyA18 hHeldb ?restA18
    case hiA18 => simp only [List.getElem?_toArray, List.getElem?_cons_zero, List.getElem?_cons_succ]; first | done | rfl
    case hyA18 => exact Or.inr ⟨by rfl, rfl⟩
    try simp only [Act.put, List.setIfInBounds_toArray, List.set_cons_zero, List.set_cons_succ]
    refine wpAnyH_take (i := 19) (oi := ?oA19) (v := undef) ?hiA19 (by kernel_rfl) (by kernel_rfl) (by kernel_rfl) (fun _ _ _ h => h) ?hyA19 hHeldb ?restA19
    case hiA19 => simp only [List.getElem?_toArray, List.getElem?_cons_zero, List.getElem?_cons_succ]; first | done | rfl
    case hyA19 => exact Or.inr ⟨by rfl, rfl⟩
    try simp only [Act.put, List.setIfInBounds_toArray, List.set_cons_zero, List.set_cons_succ]
    refine wpAnyH_take (i := 20) (oi := ?oA20) (v := undef) ?hiA20 (by kernel_rfl) (by kernel_rfl) (by kernel_rfl) (fun _ _ _ h => h) ?hyA20 hHeldb ?restA20
    case hiA20 => simp only [List.getElem?_toArray, List.getElem?_cons_zero, List.getElem?_cons_succ]; first | done | rfl
    case hyA20 => exact Or.inr ⟨by rfl, rfl⟩
    try simp only [Act.put, List.setIfInBounds_toArray, List.set_cons_zero, List.set_cons_succ]
    refine wpAnyH_take (i := 21) (oi := ?oA21) (v := undef) ?hiA21 (by kernel_rfl) (by kernel_rfl) (by kernel_rfl) (fun _ _ _ h => h) ?hyA21 hHeldb ?restA21
    case hiA21 => simp only [List.getElem?_toArray, List.getElem?_cons_zero, List.getElem?_cons_succ]; first | done | rfl
    case hyA21 => exact Or.inr ⟨by rfl, rfl⟩
    try simp only [Act.put, List.setIfInBounds_toArray, List.set_cons_zero, List.set_cons_succ]
    refine wpAnyH_take (i := 22) (oi := ?oA22) (v := undef) ?hiA22 (by kernel_rfl) (by kernel_rfl) (by kernel_rfl) (fun _ _ _ h => h) ?hyA22 hHeldb ?restA22
    case hiA22 => simp only [List.getElem?_toArray, List.getElem?_cons_zero, List.getElem?_cons_succ]; first | done | rfl
    case hyA22 => exact Or.inr ⟨by rfl, rfl⟩
    try simp only [Act.put, List.setIfInBounds_toArray, List.set_cons_zero, List.set_cons_succ]
    refine wpAnyH_take (i := 23) (oi := ?oA23) (v := undef) ?hiA23 (by kernel_rfl) (by kernel_rfl) (by kernel_rfl) (fun _ _ _ h => h) ?hyA23 hHeldb ?restA23
    case hiA23 => simp only [List.getElem?_toArray, List.getElem?_cons_zero, List.getElem?_cons_succ]; first | done | rfl
    case hyA23 => exact Or.inr ⟨by rfl, rfl⟩
    try simp only [Act.put, List.setIfInBounds_toArray, List.set_cons_zero, List.set_cons_succ]
    refine wpAnyH_take (i := 24) (oi := ?oA24) (v := undef) ?hiA24 (by kernel_rfl) (by kernel_rfl) (by kernel_rfl) (fun _ _ _ h => h) ?hyA24 hHeldb ?restA24
    case hiA24 => simp only [List.getElem?_toArray, List.getElem?_cons_zero, List.getElem?_cons_succ]; first | done | rfl
    case hyA24 => exact Or.inr ⟨by rfl, rfl⟩
    try simp only [Act.put, List.setIfInBounds_toArray, List.set_cons_zero, List.set_cons_succ]
    refine wpAnyH_take (i := 25) (oi := ?oA25) (v := undef) ?hiA25 (by kernel_rfl) (by kernel_rfl) (by kernel_rfl) (fun _ _ _ h => h) ?hyA25 hHeldb ?restA25
    case hiA25 => simp only [List.getElem?_toArray, List.getElem?_cons_zero, List.getElem?_cons_succ]; first | done | rfl
    case hyA25 => exact Or.inr ⟨by rfl, rfl⟩
    try simp only [Act.put, List.setIfInBounds_toArray, List.set_cons_zero, List.set_cons_succ]
    refine wpAnyH_take (i := 26) (oi := ?oA26) (v := .bool true) ?hiA26 (by kernel_rfl) (by kernel_rfl) (by kernel_rfl) (fun _ _ _ h => h) ?hyA26 hHeldb ?restA26
    case hiA26 => simp only [List.getElem?_toArray, List.getElem?_cons_zero, List.getElem?_cons_succ]; first | done | rfl
    case hyA26 => exact Or.inl ⟨by rfl, by intro V hV; obtain ⟨s0, s1, s2⟩ := hV; go_simp⟩
    try simp only [Act.put, List.setIfInBounds_toArray, List.set_cons_zero, List.set_cons_succ]
    refine wpAnyH_take (i := 27) (oi := ?oA27) (v := .bool true) ?hiA27 (by kernel_rfl) (by kernel_rfl) (by kernel_rfl) (fun _ _ _ h => h) ?hyA27 hHeldb ?restA27
    case hiA27 => simp only [List.getElem?_toArray, List.getElem?_cons_zero, List.getElem?_cons_succ]; first | done | rfl
    case hyA27 => exact Or.inl ⟨by rfl, by intro V hV; obtain ⟨s0, s1, s2⟩ := hV; go_simp⟩
    try simp only [Act.put, List.setIfInBounds_toArray, List.set_cons_zero, List.set_cons_succ]
    refine wpAnyH_take (i := 28) (oi := ?oA28) (v := undef) ?hiA28 (by kernel_rfl) (by kernel_rfl) (by kernel_rfl) (fun _ _ _ h => h) ?hyA28 hHeldb ?restA28
    case hiA28 => simp only [List.getElem?_toArray, List.getElem?_cons_zero, List.getElem?_cons_succ]; first | done | rfl
    case hyA28 => exact Or.inr ⟨by rfl, rfl⟩
    try simp only [Act.put, List.setIfInBounds_toArray, List.set_cons_zero, List.set_cons_succ]
    refine wpAnyH_take (i := 29) (oi := ?oA29) (v := undef) ?hiA29 (by kernel_rfl) (by kernel_rfl) (by kernel_rfl) (fun _ _ _ h => h) ?hyA29 hHeldb ?restA29
    case hiA29 => simp only [List.getElem?_toArray, List.getElem?_cons_zero, List.getElem?_cons_succ]; first | done | rfl
    case hyA29 => exact Or.inr ⟨by rfl, rfl⟩
    try simp only [Act.put, List.setIfInBounds_toArray, List.set_cons_zero, List.set_cons_succ]
    refine wpAnyH_take (i := 30) (oi := ?oA30) (v := undef) ?hiA30 (by kernel_rfl) (by kernel_rfl) (by kernel_rfl) (fun _ _ _ h => h) ?hyA30 hHeldb ?restA30
    case hiA30 => simp only [List.getElem?_toArray, List.getElem?_cons_zero, List.getElem?_cons_succ]; first | done | rfl
    case hyA30 => exact Or.inr ⟨by rfl, rfl⟩
    try simp only [Act.put, List.setIfInBounds_toArray, List.set_cons_zero, List.set_cons_succ]
    refine wpAnyH_take (i := 31) (oi := ?oA31) (v := undef) ?hiA31 (by kernel_rfl) (by kernel_rfl) (by kernel_rfl) (fun _ _ _ h => h) ?hyA31 hHeldb ?restA31
    case hiA31 => simp only [List.getElem?_toArray, List.getElem?_cons_zero, List.getElem?_cons_succ]; first | done | rfl
    case hyA31 => exact Or.inr ⟨by rfl, rfl⟩
    try simp only [Act.put, List.setIfInBounds_toArray, List.set_cons_zero, List.set_cons_succ]
    refine wpAnyH_take (i := 32) (oi := ?oA32) (v := .bool true) ?hiA32 (by kernel_rfl) (by kernel_rfl) (by kernel_rfl) (fun _ _ _ h => h) ?hyA32 hHeldb ?restA32
    case hiA32 => simp only [List.getElem?_toArray, List.getElem?_cons_zero, List.getElem?_cons_succ]; first | done | rfl
    case hyA32 => exact Or.inl ⟨by rfl, by intro V hV; obtain ⟨s0, s1, s2⟩ := hV; go_simp⟩
    try simp only [Act.put, List.setIfInBounds_toArray, List.set_cons_zero, List.set_cons_succ]
    refine wpAnyH_take (i := 33) (oi := ?oA33) (v := .bool true) ?hiA33 (by kernel_rfl) (by kernel_rfl) (by kernel_rfl) (fun _ _ _ h => h) ?hyA33 hHeldb ?restA33
    case hiA33 => simp only [List.getElem?_toArray, List.getElem?_cons_zero, List.getElem?_cons_succ]; first | done | rfl
    case hyA33 => exact Or.inl ⟨by rfl, by intro V hV; obtain ⟨s0, s1, s2⟩ := hV; go_simp⟩
    try simp only [Act.put, List.setIfInBounds_toArray, List.set_cons_zero, List.set_cons_succ]
    refine wpAnyH_take (i := 34) (oi := ?oA34) (v := undef) ?hiA34 (by kernel_rfl) (by kernel_rfl) (by kernel_rfl) (fun _ _ _ h => h) ?hyA34 hHeldb ?restA34
    case hiA34 => simp only [List.getElem?_toArray, List.getElem?_cons_zero, List.getElem?_cons_succ]; first | done | rfl
    case hyA34 => exact Or.inr ⟨by rfl, rfl⟩
    try simp only [Act.put, List.setIfInBounds_toArray, List.set_cons_zero, List.set_cons_succ]
    refine wpAnyH_take (i := 35) (oi := ?oA35) (v := undef) ?hiA35 (by kernel_rfl) (by kernel_rfl) (by kernel_rfl) (fun _ _ _ h => h) ?hyA35 hHeldb ?restA35
    case hiA35 => simp only [List.getElem?_toArray, List.getElem?_cons_zero, List.getElem?_cons_succ]; first | done | rfl
    case hyA35 => exact Or.inr ⟨by rfl, rfl⟩
    try simp only [Act.put, List.setIfInBounds_toArray, List.set_cons_zero, List.set_cons_succ]
    refine wpAnyH_take (i := 36) (oi := ?oA36) (v := undef) ?hiA36 (by kernel_rfl) (by kernel_rfl) (by kernel_rfl) (fun _ _ _ h => h) ?hyA36 hHeldb ?restA36
    case hiA36 => simp only [List.getElem?_toArray, List.getElem?_cons_zero, List.getElem?_cons_succ]; first | done | rfl
    case hyA36 => exact Or.inr ⟨by rfl, rfl⟩
    try simp only [Act.put, List.setIfInBounds_toArray, List.set_cons_zero, List.set_cons_succ]
    refine wpAnyH_take (i := 37) (oi := ?oA37) (v := .bool true) ?hiA37 (by kernel_rfl) (by kernel_rfl) (by kernel_rfl) (fun _ _ _ h => h) ?hyA37 hHeldb ?restA37
    case hiA37 => simp only [List.getElem?_toArray, List.getElem?_cons_zero, List.getElem?_cons_succ]; first | done | rfl
    case hyA37 => exact Or.inl ⟨by rfl, by intro V hV; obtain ⟨s0, s1, s2⟩ := hV; go_simp⟩
    try simp only [Act.put, List.setIfInBounds_toArray, List.set_cons_zero, List.set_cons_succ]
    refine wpAnyH_done (by kernel_rfl) ?_ _
    refine NoPanic.normal ?_
    obtain ⟨w3, hw3⟩ : ∃ w3, w2.drew = w3 := ⟨_, rfl⟩
    rw [hw3]
    have hb3 : Below w2.heap.size w2 w3 := by rw [← hw3]; exact hHeldb.1
    clear hw3
    have HSIT3 : Hid (sit (J + 1 + 1 + 1) J (J + 1) (J + 1 + 1) w3 ⟨A, B, p, n, c, l, pb, nb, cb, lb, qs, ls.length, es, ls, qm, lm.length, em, lm, qt, lt.length, et, lt, N, T⟩ ⟨3, dw, dx, dy, da⟩) := sit_below HSIT.out (hb3)
    have HB3 : Hid (Below w.heap.size w w3) := below_call HB2.out HB2.out.size (hb3)
    clear z0 z1 z2 z3 z4 z5 z6 z7 z8 q0 q1 q2 q3 q4
    clear hb3
    obtain ⟨ra, rb, rc, rd, re, rf, rg, rh, ri, hrr⟩ := HSIT3.out.r
    obtain ⟨u9, hu9⟩ : ∃ u9, (((((((((w3.setCell ⟨J + 1 + 1, 0, none⟩ (.int .i64 A)).setCell ⟨J + 1 + 1, 1, none⟩ (.int .i64 B)).setCell ⟨J + 1 + 1, 2, none⟩ (.slice p n c)).setCell ⟨J + 1 + 1, 3, none⟩ (.slice pb nb cb)).setCell ⟨J + 1 + 1, 4, none⟩ (.slice qs ls.length es)).setCell ⟨J + 1 + 1, 5, none⟩ (.slice qm lm.length em)).setCell ⟨J + 1 + 1, 6, none⟩ (.slice qt lt.length et)).setCell ⟨J + 1 + 1, 7, none⟩ (.int .i64 N)).setCell ⟨J + 1 + 1, 8, none⟩ (.int .i64 T)) = u9 := ⟨_, rfl⟩
    obtain ⟨x9, e9⟩ := set9 hrr hu9.symm
    have HF9 : Hid (sown w.heap.size u9 ⟨A, B, p, n, c, l, pb, nb, cb, lb, qs, ls.length, es, ls, qm, lm.length, em, lm, qt, lt.length, et, lt, N, T⟩ ∧ Below w.heap.size w u9) := ⟨sown_mono (sown_ex HSIT3.out.o e9 (by intro g hg; omega)) (by have := HS0.out.2; omega), HB3.out.trans (e9.below HB3.out.size (by intro k hk; have := HS0.out.2; omega))⟩
    obtain ⟨y0, y1, y2, y3, y4, y5, y6, y7, y8⟩ := bx9_c9 x9
    obtain ⟨o0, o1, o2, o3, o4, o5, o6, o7, o8⟩ := bx9_c9 hrr
    have fr0 := bx9_free hrr 0
    have fr1 := bx9_free hrr 1
    have fr2 := bx9_free hrr 2
    have fr3 := bx9_free hrr 3
    have fr4 := bx9_free hrr 4
    have fr5 := bx9_free hrr 5
    have fr6 := bx9_free hrr 6
    have fr7 := bx9_free hrr 7
    have fr8 := bx9_free hrr 8
    obtain ⟨z0, z1, z2, z3, z4, z5, z6, z7, z8⟩ := bx9_c9 HSIT3.out.x
    clear hrr x9 e9
    go_wp2_with fail
    refine ⟨by simp, .tuple #[.agg #[.int .i64 A, .int .i64 B, .slice p n c, .slice pb nb cb, .slice qs ls.length es, .slice qm lm.length em, .slice qt lt.length et, .int .i64 N, .int .i64 T], .bool false], ?_, ⟨⟨A, B, p, n, c, l, pb, nb, cb, lb, qs, ls.length, es, ls, qm, lm.length, em, lm, qt, lt.length, et, lt, N, T⟩, false, rfl, ⟨rfl, rfl, rfl, rfl, rfl, rfl, rfl, rfl, rfl, rfl, rfl⟩, ?_, ds_make rfl (.inr ⟨rfl, rfl, fun c h _ => HNO.out h⟩)⟩, ?_⟩
    · simp [results, Try.results38, go_sem, y0, y1, y2, y3, y4, y5, y6, y7, y8]
    · first | exact HF9.out.1 | (rw [← HS0.out.2]; exact HF9.out.1)
    · first | exact HF9.out.2 | (rw [← HS0.out.2]; exact HF9.out.2)
  have hA : 0 ≤ dw ∧ dw ≤ (nb : Int) - 1 := Classical.not_not.1 hA
  obtain ⟨PI, hPI⟩ : ∃ PI : Nat, dw = PI := ⟨dw.toNat, by omega⟩
  subst hPI
  have HC1 : Hid ((decide ((0 : Int) ≤ (PI : Int)) && decide ((PI : Int) ≤ (nb : Int) - 1)) = true) := by unfold Hid; simp only [Bool.and_eq_true, decide_eq_true_eq]; exact hA
  have hPl : PI < lb.length := by omega
  have HPL : Hid (PI < lb.length) := hPl
  by_cases hB : ¬ (1 ≤ da ∧ da ≤ 2)
  · have HC2 : Hid ((decide ((1 : Int) ≤ da) && decide (da ≤ 2)) = false) := by unfold Hid; rw [Bool.and_eq_false_iff]; simp only [decide_eq_false_iff_not]; omega
    go_wp2_with fail
    refine wp_region_noPanic ?_
    refine wp_region_held_drew (S := (fun U => Below w2.heap.size w2 U ∧ U.cell? ⟨J + 1, 1, none⟩ = some (.int .i64 (PI : Int)) ∧ U.cell? ⟨J, 3, none⟩ = some (.slice pb nb cb) ∧ U.cell? ⟨J + 1, 4, none⟩ = some (.int .i64 da))) (by kernel_rfl) ⟨Below.drew (Below.refl _ _), q1, z3, q4⟩ (fun hHeld => ?_)
    refine wpAnyH_take (i := 0) (oi := ?oB0) (v := .pointer (some ⟨J + 1, 1, none⟩)) ?hiB0 (by kernel_rfl) (by kernel_rfl) (by kernel_rfl) (fun _ _ _ h => h) ?hyB0 hHeld ?restB0
    case hiB0 => simp only [List.getElem?_toArray, List.getElem?_cons_zero]; first | done | rfl
    case hyB0 => exact Or.inl ⟨by rfl, by intro V hV; obtain ⟨s0, s1, s2, s3⟩ := hV; go_simp⟩
    try simp only [Act.put, List.setIfInBounds_toArray, List.set_cons_zero, List.set_cons_succ]
    refine wpAnyH_take (i := 1) (oi := ?oB1) (v := .int .i64 (PI : Int)) ?hiB1 (by kernel_rfl) (by kernel_rfl) (by kernel_rfl) (fun _ _ _ h => h) ?hyB1 hHeld ?restB1
    case hiB1 => simp only [List.getElem?_toArray, List.getElem?_cons_zero, List.getElem?_cons_succ]; first | done | rfl
    case hyB1 => exact Or.inl ⟨by rfl, by intro V hV; obtain ⟨s0, s1, s2, s3⟩ := hV; go_simp⟩
    try simp only [Act.put, List.setIfInBounds_toArray, List.set_cons_zero, List.set_cons_succ]
    refine wpAnyH_take (i := 2) (oi := ?oB2) (v := .pointer (some ⟨J, 3, none⟩)) ?hiB2 (by kernel_rfl) (by kernel_rfl) (by kernel_rfl) (fun _ _ _ h => h) ?hyB2 hHeld ?restB2
    case hiB2 => simp only [List.getElem?_toArray, List.getElem?_cons_zero, List.getElem?_cons_succ]; first | done | rfl
    case hyB2 => exact Or.inl ⟨by rfl, by intro V hV; obtain ⟨s0, s1, s2, s3⟩ := hV; go_simp⟩
    try simp only [Act.put, List.setIfInBounds_toArray, List.set_cons_zero, List.set_cons_succ]
    refine wpAnyH_take (i := 3) (oi := ?oB3) (v := .slice pb nb cb) ?hiB3 (by kernel_rfl) (by kernel_rfl) (by kernel_rfl) (fun _ _ _ h => h) ?hyB3 hHeld ?restB3
    case hiB3 => simp only [List.getElem?_toArray, List.getElem?_cons_zero, List.getElem?_cons_succ]; first | done | rfl
    case hyB3 => exact Or.inl ⟨by rfl, by intro V hV; obtain ⟨s0, s1, s2, s3⟩ := hV; go_simp⟩
    try simp only [Act.put, List.setIfInBounds_toArray, List.set_cons_zero, List.set_cons_succ]
    refine wpAnyH_take (i := 4) (oi := ?oB4) (v := .int .i64 (nb : Int)) ?hiB4 (by kernel_rfl) (by kernel_rfl) (by kernel_rfl) (fun _ _ _ h => h) ?hyB4 hHeld ?restB4
    case hiB4 => simp only [List.getElem?_toArray, List.getElem?_cons_zero, List.getElem?_cons_succ]; first | done | rfl
    case hyB4 => exact Or.inl ⟨by rfl, by intro V hV; obtain ⟨s0, s1, s2, s3⟩ := hV; go_simp⟩
    try simp only [Act.put, List.setIfInBounds_toArray, List.set_cons_zero, List.set_cons_succ]
    refine wpAnyH_take (i := 5) (oi := ?oB5) (v := .int .i64 ((nb : Int) - 1)) ?hiB5 (by kernel_rfl) (by kernel_rfl) (by kernel_rfl) (fun _ _ _ h => h) ?hyB5 hHeld ?restB5
    case hiB5 => simp only [List.getElem?_toArray, List.getElem?_cons_zero, List.getElem?_cons_succ]; first | done | rfl
    case hyB5 => exact Or.inl ⟨by rfl, by intro V hV; obtain ⟨s0, s1, s2, s3⟩ := hV; go_simp⟩
    try simp only [Act.put, List.setIfInBounds_toArray, List.set_cons_zero, List.set_cons_succ]
    refine wpAnyH_ready (rs := [6]) (by kernel_rfl) (by simp) ?_
    refine AllReadyH.cons (o := ?oB6) ?hiB6 (fun K hK => ?stepB6) AllReadyH.nil
    case hiB6 => simp only [List.getElem?_toArray, List.getElem?_cons_zero, List.getElem?_cons_succ]; first | done | rfl
    go_simp
    go_at_call 35
    refine (Between_at (PI : Int) 0 ((nb : Int) - 1) true _ HC1).mono ?_
    rintro e w3 ⟨rfl, rfl⟩
    go_wp2_with fail
    refine hK.out _ _ hHeld (fun hHeldb => ?_)
    clear hK K
    try simp only [Act.put, List.setIfInBounds_toArray, List.set_cons_zero, List.set_cons_succ]
    refine wpAnyH_take (i := 7) (oi := ?oB7) (v := .bool false) ?hiB7 (by kernel_rfl) (by kernel_rfl) (by kernel_rfl) (fun _ _ _ h => h) ?hyB7 hHeldb ?restB7
    case hiB7 => simp only [List.getElem?_toArray, List.getElem?_cons_zero, List.getElem?_cons_succ]; first | done | rfl
    case hyB7 => exact Or.inl ⟨by rfl, by intro V hV; obtain ⟨s0, s1, s2, s3⟩ := hV; go_simp⟩
    try simp only [Act.put, List.setIfInBounds_toArray, List.set_cons_zero, List.set_cons_succ]
    refine wpAnyH_take (i := 8) (oi := ?oB8) (v := .bool false) ?hiB8 (by kernel_rfl) (by kernel_rfl) (by kernel_rfl) (fun _ _ _ h => h) ?hyB8 hHeldb ?restB8
    case hiB8 => simp only [List.getElem?_toArray, List.getElem?_cons_zero, List.getElem?_cons_succ]; first | done | rfl
    case hyB8 => exact Or.inl ⟨by rfl, by intro V hV; obtain ⟨s0, s1, s2, s3⟩ := hV; go_simp⟩
    try simp only [Act.put, List.setIfInBounds_toArray, List.set_cons_zero, List.set_cons_succ]
    refine wpAnyH_take (i := 9) (oi := ?oB9) (v := .pointer (some ⟨J + 1, 4, none⟩)) ?hiB9 (by kernel_rfl) (by kernel_rfl) (by kernel_rfl) (fun _ _ _ h => h) ?hyB9 hHeldb ?restB9
    case hiB9 => simp only [List.getElem?_toArray, List.getElem?_cons_zero, List.getElem?_cons_succ]; first | done | rfl
    case hyB9 => exact Or.inl ⟨by rfl, by intro V hV; obtain ⟨s0, s1, s2, s3⟩ := hV; go_simp⟩
    try simp only [Act.put, List.setIfInBounds_toArray, List.set_cons_zero, List.set_cons_succ]
    refine wpAnyH_take (i := 10) (oi := ?oB10) (v := .int .i64 da) ?hiB10 (by kernel_rfl) (by kernel_rfl) (by kernel_rfl) (fun _ _ _ h => h) ?hyB10 hHeldb ?restB10
    case hiB10 => simp only [List.getElem?_toArray, List.getElem?_cons_zero, List.getElem?_cons_succ]; first | done | rfl
    case hyB10 => exact Or.inl ⟨by rfl, by intro V hV; obtain ⟨s0, s1, s2, s3⟩ := hV; go_simp⟩
    try simp only [Act.put, List.setIfInBounds_toArray, List.set_cons_zero, List.set_cons_succ]
    refine wpAnyH_ready (rs := [11]) (by kernel_rfl) (by simp) ?_
    refine AllReadyH.cons (o := ?oB11) ?hiB11 (fun K hK => ?stepB11) AllReadyH.nil
    case hiB11 => simp only [List.getElem?_toArray, List.getElem?_cons_zero, List.getElem?_cons_succ]; first | done | rfl
    go_simp
    go_at_call 35
    refine (Between_at da 1 2 false _ HC2).mono ?_
    rintro e w3 ⟨rfl, rfl⟩
    go_wp2_with fail
    refine hK.out _ _ hHeldb (fun hHeldc => ?_)
    clear hK K
    try simp only [Act.put, List.setIfInBounds_toArray, List.set_cons_zero, List.set_cons_succ]
    refine wpAnyH_take (i := 12) (oi := ?oB12) (v := .bool true) ?hiB12 (by kernel_rfl) (by kernel_rfl) (by kernel_rfl) (fun _ _ _ h => h) ?hyB12 hHeldc ?restB12
    case hiB12 => simp only [List.getElem?_toArray, List.getElem?_cons_zero, List.getElem?_cons_succ]; first | done | rfl
    case hyB12 => exact Or.inl ⟨by rfl, by intro V hV; obtain ⟨s0, s1, s2, s3⟩ := hV; go_simp⟩
    try simp only [Act.put, List.setIfInBounds_toArray, List.set_cons_zero, List.set_cons_succ]
    refine wpAnyH_take (i := 13) (oi := ?oB13) (v := .bool true) ?hiB13 (by kernel_rfl) (by kernel_rfl) (by kernel_rfl) (fun _ _ _ h => h) ?hyB13 hHeldc ?restB13
    case hiB13 => simp only [List.getElem?_toArray, List.getElem?_cons_zero, List.getElem?_cons_succ]; first | done | rfl
    case hyB13 => exact Or.inl ⟨by rfl, by intro V hV; obtain ⟨s0, s1, s2, s3⟩ := hV; go_simp⟩
    try simp only [Act.put, List.setIfInBounds_toArray, List.set_cons_zero, List.set_cons_succ]
    refine wpAnyH_take (i := 14) (oi := ?oB14) (v := .bool true) ?hiB14 (by kernel_rfl) (by kernel_rfl) (by kernel_rfl) (fun _ _ _ h => h) ?hyB14 hHeldc ?restB14
    case hiB14 => simp only [List.getElem?_toArray, List.getElem?_cons_zero, List.getElem?_cons_succ]; first | done | rfl
    case hyB14 => exact Or.inl ⟨by rfl, by intro V hV; obtain ⟨s0, s1, s2, s3⟩ := hV; go_simp⟩
    try simp only [Act.put, List.setIfInBounds_toArray, List.set_cons_zero, List.set_cons_succ]
    refine wpAnyH_take (i := 15) (oi := ?oB15) (v := undef) ?hiB15 (by kernel_rfl) (by kernel_rfl) (by kernel_rfl) (fun _ _ _ h => h) ?hyB15 hHeldc ?restB15
    case hiB15 => simp only [List.getElem?_toArray, List.getElem?_cons_zero, List.getElem?_cons_succ]; first | done | rfl
    case hyB15 => exact Or.inr ⟨by rfl, rfl⟩
    try simp only [Act.put, List.setIfInBounds_toArray, List.set_cons_zero, List.set_cons_succ]
    refine wpAnyH_take (i := 16) (oi := ?oB16) (v := undef) ?hiB16 (by kernel_rfl) (by kernel_rfl) (by kernel_rfl) (fun _ _ _ h => h) ?hyB16 hHeldc ?restB16
    case hiB16 => simp only [List.getElem?_toArray, List.getElem?_cons_zero, List.getElem?_cons_succ]; first | done | rfl
    case hyB16 => exact Or.inr ⟨by rfl, rfl⟩
    try simp only [Act.put, List.setIfInBounds_toArray, List.set_cons_zero, List.set_cons_succ]
    refine wpAnyH_take (i := 17) (oi := ?oB17) (v := undef) ?hiB17 (by kernel_rfl) (by kernel_rfl) (by kernel_rfl) (fun _ _ _ h => h) ?hyB17 hHeldc ?restB17
    case hiB17 => simp only [List.getElem?_toArray, List.getElem?_cons_zero, List.getElem?_cons_succ]; first | done | rfl
    case hyB17 => exact Or.inr ⟨by rfl, rfl⟩
    try simp only [Act.put, List.setIfInBounds_toArray, List.set_cons_zero, List.set_cons_succ]
    refine wpAnyH_take (i := 18) (oi := ?oB18) (v := undef) ?hiB18 (by kernel_rfl) (by kernel_rfl) (by kernel_rfl) (fun _ _ _ h => h) ?hyB18 hHeldc ?restB18
    case hiB18 => simp only [List.getElem?_toArray, List.getElem?_cons_zero, List.getElem?_cons_succ]; first | done | rfl
    case hyB18 => exact Or.inr ⟨by rfl, rfl⟩
    try simp only [Act.put, List.setIfInBounds_toArray, List.set_cons_zero, List.set_cons_succ]
    refine wpAnyH_take (i := 19) (oi := ?oB19) (v := undef) ?hiB19 (by kernel_rfl) (by kernel_rfl) (by kernel_rfl) (fun _ _ _ h => h) ?hyB19 hHeldc ?restB19
    case hiB19 => simp only [List.getElem?_toArray, List.getElem?_cons_zero, List.getElem?_cons_succ]; first | done | rfl
    case hyB19 => exact Or.inr ⟨by rfl, rfl⟩
    try simp only [Act.put, List.setIfInBounds_toArray, List.set_cons_zero, List.set_cons_succ]
    refine wpAnyH_take (i := 20) (oi := ?oB20) (v := undef) ?hiB20 (by kernel_rfl) (by kernel_rfl) (by kernel_rfl) (fun _ _ _ h => h) ?hyB20 hHeldc ?restB20
    case hiB20 => simp only [List.getElem?_toArray, List.getElem?_cons_zero, List.getElem?_cons_succ]; first | done | rfl
    case hyB20 => exact Or.inr ⟨by rfl, rfl⟩
    try simp only [Act.put, List.setIfInBounds_toArray, List.set_cons_zero, List.set_cons_succ]
    refine wpAnyH_take (i := 21) (oi := ?oB21) (v := undef) ?hiB21 (by kernel_rfl) (by kernel_rfl) (by kernel_rfl) (fun _ _ _ h => h) ?hyB21 hHeldc ?restB21
    case hiB21 => simp only [List.getElem?_toArray, List.getElem?_cons_zero, List.getElem?_cons_succ]; first | done | rfl
    case hyB21 => exact Or.inr ⟨by rfl, rfl⟩
    try simp only [Act.put, List.setIfInBounds_toArray, List.set_cons_zero, List.set_cons_succ]
    refine wpAnyH_take (i := 22) (oi := ?oB22) (v := undef) ?hiB22 (by kernel_rfl) (by kernel_rfl) (by kernel_rfl) (fun _ _ _ h => h) ?hyB22 hHeldc ?restB22
    case hiB22 => simp only [List.getElem?_toArray, List.getElem?_cons_zero, List.getElem?_cons_succ]; first | done | rfl
    case hyB22 => exact Or.inr ⟨by rfl, rfl⟩
    try simp only [Act.put, List.setIfInBounds_toArray, List.set_cons_zero, List.set_cons_succ]
    refine wpAnyH_take (i := 23) (oi := ?oB23) (v := undef) ?hiB23 (by kernel_rfl) (by kernel_rfl) (by kernel_rfl) (fun _ _ _ h => h) ?hyB23 hHeldc ?restB23
    case hiB23 => simp only [List.getElem?_toArray, List.getElem?_cons_zero, List.getElem?_cons_succ]; first | done | rfl
    case hyB23 => exact Or.inr ⟨by rfl, rfl⟩
    try simp only [Act.put, List.setIfInBounds_toArray, List.set_cons_zero, List.set_cons_succ]
    refine wpAnyH_take (i := 24) (oi := ?oB24) (v := undef) ?hiB24 (by kernel_rfl) (by kernel_rfl) (by kernel_rfl) (fun _ _ _ h => h) ?hyB24 hHeldc ?restB24
    case hiB24 => simp only [List.getElem?_toArray, List.getElem?_cons_zero, List.getElem?_cons_succ]; first | done | rfl
    case hyB24 => exact Or.inr ⟨by rfl, rfl⟩
    try simp only [Act.put, List.setIfInBounds_toArray, List.set_cons_zero, List.set_cons_succ]
    refine wpAnyH_take (i := 25) (oi := ?oB25) (v := undef) ?hiB25 (by kernel_rfl) (by kernel_rfl) (by kernel_rfl) (fun _ _ _ h => h) ?hyB25 hHeldc ?restB25
    case hiB25 => simp only [List.getElem?_toArray, List.getElem?_cons_zero, List.getElem?_cons_succ]; first | done | rfl
    case hyB25 => exact Or.inr ⟨by rfl, rfl⟩
    try simp only [Act.put, List.setIfInBounds_toArray, List.set_cons_zero, List.set_cons_succ]
    refine wpAnyH_take (i := 26) (oi := ?oB26) (v := .bool true) ?hiB26 (by kernel_rfl) (by kernel_rfl) (by kernel_rfl) (fun _ _ _ h => h) ?hyB26 hHeldc ?restB26
    case hiB26 => simp only [List.getElem?_toArray, List.getElem?_cons_zero, List.getElem?_cons_succ]; first | done | rfl
    case hyB26 => exact Or.inl ⟨by rfl, by intro V hV; obtain ⟨s0, s1, s2, s3⟩ := hV; go_simp⟩
    try simp only [Act.put, List.setIfInBounds_toArray, List.set_cons_zero, List.set_cons_succ]
    refine wpAnyH_take (i := 27) (oi := ?oB27) (v := .bool true) ?hiB27 (by kernel_rfl) (by kernel_rfl) (by kernel_rfl) (fun _ _ _ h => h) ?hyB27 hHeldc ?restB27
    case hiB27 => simp only [List.getElem?_toArray, List.getElem?_cons_zero, List.getElem?_cons_succ]; first | done | rfl
    case hyB27 => exact Or.inl ⟨by rfl, by intro V hV; obtain ⟨s0, s1, s2, s3⟩ := hV; go_simp⟩
    try simp only [Act.put, List.setIfInBounds_toArray, List.set_cons_zero, List.set_cons_succ]
    refine wpAnyH_take (i := 28) (oi := ?oB28) (v := undef) ?hiB28 (by kernel_rfl) (by kernel_rfl) (by kernel_rfl) (fun _ _ _ h => h) ?hyB28 hHeldc ?restB28
    case hiB28 => simp only [List.getElem?_toArray, List.getElem?_cons_zero, List.getElem?_cons_succ]; first | done | rfl
    case hyB28 => exact Or.inr ⟨by rfl, rfl⟩
    try simp only [Act.put, List.setIfInBounds_toArray, List.set_cons_zero, List.set_cons_succ]
    refine wpAnyH_take (i := 29) (oi := ?oB29) (v := undef) ?hiB29 (by kernel_rfl) (by kernel_rfl) (by kernel_rfl) (fun _ _ _ h => h) ?hyB29 hHeldc ?restB29
    case hiB29 => simp only [List.getElem?_toArray, List.getElem?_cons_zero, List.getElem?_cons_succ]; first | done | rfl
    case hyB29 => exact Or.inr ⟨by rfl, rfl⟩
    try simp only [Act.put, List.setIfInBounds_toArray, List.set_cons_zero, List.set_cons_succ]
    refine wpAnyH_take (i := 30) (oi := ?oB30) (v := undef) ?hiB30 (by kernel_rfl) (by kernel_rfl) (by kernel_rfl) (fun _ _ _ h => h) ?hyB30 hHeldc ?restB30
    case hiB30 => simp only [List.getElem?_toArray, List.getElem?_cons_zero, List.getElem?_cons_succ]; first | done | rfl
    case hyB30 => exact Or.inr ⟨by rfl, rfl⟩
    try simp only [Act.put, List.setIfInBounds_toArray, List.set_cons_zero, List.set_cons_succ]
    refine wpAnyH_take (i := 31) (oi := ?oB31) (v := undef) ?hiB31 (by kernel_rfl) (by kernel_rfl) (by kernel_rfl) (fun _ _ _ h => h) ?hyB31 hHeldc ?restB31
    case hiB31 => simp only [List.getElem?_toArray, List.getElem?_cons_zero, List.getElem?_cons_succ]; first | done | rfl
    case hyB31 => exact Or.inr ⟨by rfl, rfl⟩
    try simp only [Act.put, List.setIfInBounds_toArray, List.set_cons_zero, List.set_cons_succ]
    refine wpAnyH_take (i := 32) (oi := ?oB32) (v := .bool true) ?hiB32 (by kernel_rfl) (by kernel_rfl) (by kernel_rfl) (fun _ _ _ h => h) ?hyB32 hHeldc ?restB32
    case hiB32 => simp only [List.getElem?_toArray, List.getElem?_cons_zero, List.getElem?_cons_succ]; first | done | rfl
    case hyB32 => exact Or.inl ⟨by rfl, by intro V hV; obtain ⟨s0, s1, s2, s3⟩ := hV; go_simp⟩
    try simp only [Act.put, List.setIfInBounds_toArray, List.set_cons_zero, List.set_cons_succ]
    refine wpAnyH_take (i := 33) (oi := ?oB33) (v := .bool true) ?hiB33 (by kernel_rfl) (by kernel_rfl) (by kernel_rfl) (fun _ _ _ h => h) ?hyB33 hHeldc ?restB33
    case hiB33 => simp only [List.getElem?_toArray, List.getElem?_cons_zero, List.getElem?_cons_succ]; first | done | rfl
    case hyB33 => exact Or.inl ⟨by rfl, by intro V hV; obtain ⟨s0, s1, s2, s3⟩ := hV; go_simp⟩
    try simp only [Act.put, List.setIfInBounds_toArray, List.set_cons_zero, List.set_cons_succ]
    refine wpAnyH_take (i := 34) (oi := ?oB34) (v := undef) ?hiB34 (by kernel_rfl) (by kernel_rfl) (by kernel_rfl) (fun _ _ _ h => h) ?hyB34 hHeldc ?restB34
    case hiB34 => simp only [List.getElem?_toArray, List.getElem?_cons_zero, List.getElem?_cons_succ]; first | done | rfl
    case hyB34 => exact Or.inr ⟨by rfl, rfl⟩
    try simp only [Act.put, List.setIfInBounds_toArray, List.set_cons_zero, List.set_cons_succ]
    refine wpAnyH_take (i := 35) (oi := ?oB35) (v := undef) ?hiB35 (by kernel_rfl) (by kernel_rfl) (by kernel_rfl) (fun _ _ _ h => h) ?hyB35 hHeldc ?restB35
    case hiB35 => simp only [List.getElem?_toArray, List.getElem?_cons_zero, List.getElem?_cons_succ]; first | done | rfl
    case hyB35 => exact Or.inr ⟨by rfl, rfl⟩
    try simp only [Act.put, List.setIfInBounds_toArray, List.set_cons_zero, List.set_cons_succ]
    refine wpAnyH_take (i := 36) (oi := ?oB36) (v := undef) ?hiB36 (by kernel_rfl) (by kernel_rfl) (by kernel_rfl) (fun _ _ _ h => h) ?hyB36 hHeldc ?restB36
    case hiB36 => simp only [List.getElem?_toArray, List.getElem?_cons_zero, List.getElem?_cons_succ]; first | done | rfl
    case hyB36 => exact Or.inr ⟨by rfl, rfl⟩
    try simp only [Act.put, List.setIfInBounds_toArray, List.set_cons_zero, List.set_cons_succ]
    refine wpAnyH_take (i := 37) (oi := ?oB37) (v := .bool true) ?hiB37 (by kernel_rfl) (by kernel_rfl) (by kernel_rfl) (fun _ _ _ h => h) ?hyB37 hHeldc ?restB37
    case hiB37 => simp only [List.getElem?_toArray, List.getElem?_cons_zero, List.getElem?_cons_succ]; first | done | rfl
    case hyB37 => exact Or.inl ⟨by rfl, by intro V hV; obtain ⟨s0, s1, s2, s3⟩ := hV; go_simp⟩
    try simp only [Act.put, List.setIfInBounds_toArray, List.set_cons_zero, List.set_cons_succ]
    refine wpAnyH_done (by kernel_rfl) ?_ _
    refine NoPanic.normal ?_
    obtain ⟨w3, hw3⟩ : ∃ w3, w2.drew = w3 := ⟨_, rfl⟩
    rw [hw3]
    have hb3 : Below w2.heap.size w2 w3 := by rw [← hw3]; exact hHeldc.1
    clear hw3
    have HSIT3 : Hid (sit (J + 1 + 1 + 1) J (J + 1) (J + 1 + 1) w3 ⟨A, B, p, n, c, l, pb, nb, cb, lb, qs, ls.length, es, ls, qm, lm.length, em, lm, qt, lt.length, et, lt, N, T⟩ ⟨3, (PI : Int), dx, dy, da⟩) := sit_below HSIT.out (hb3)
    have HB3 : Hid (Below w.heap.size w w3) := below_call HB2.out HB2.out.size (hb3)
    clear z0 z1 z2 z3 z4 z5 z6 z7 z8 q0 q1 q2 q3 q4
    clear hb3
    obtain ⟨ra, rb, rc, rd, re, rf, rg, rh, ri, hrr⟩ := HSIT3.out.r
    obtain ⟨u9, hu9⟩ : ∃ u9, (((((((((w3.setCell ⟨J + 1 + 1, 0, none⟩ (.int .i64 A)).setCell ⟨J + 1 + 1, 1, none⟩ (.int .i64 B)).setCell ⟨J + 1 + 1, 2, none⟩ (.slice p n c)).setCell ⟨J + 1 + 1, 3, none⟩ (.slice pb nb cb)).setCell ⟨J + 1 + 1, 4, none⟩ (.slice qs ls.length es)).setCell ⟨J + 1 + 1, 5, none⟩ (.slice qm lm.length em)).setCell ⟨J + 1 + 1, 6, none⟩ (.slice qt lt.length et)).setCell ⟨J + 1 + 1, 7, none⟩ (.int .i64 N)).setCell ⟨J + 1 + 1, 8, none⟩ (.int .i64 T)) = u9 := ⟨_, rfl⟩
    obtain ⟨x9, e9⟩ := set9 hrr hu9.symm
    have HF9 : Hid (sown w.heap.size u9 ⟨A, B, p, n, c, l, pb, nb, cb, lb, qs, ls.length, es, ls, qm, lm.length, em, lm, qt, lt.length, et, lt, N, T⟩ ∧ Below w.heap.size w u9) := ⟨sown_mono (sown_ex HSIT3.out.o e9 (by intro g hg; omega)) (by have := HS0.out.2; omega), HB3.out.trans (e9.below HB3.out.size (by intro k hk; have := HS0.out.2; omega))⟩
    obtain ⟨y0, y1, y2, y3, y4, y5, y6, y7, y8⟩ := bx9_c9 x9
    obtain ⟨o0, o1, o2, o3, o4, o5, o6, o7, o8⟩ := bx9_c9 hrr
    have fr0 := bx9_free hrr 0
    have fr1 := bx9_free hrr 1
    have fr2 := bx9_free hrr 2
    have fr3 := bx9_free hrr 3
    have fr4 := bx9_free hrr 4
    have fr5 := bx9_free hrr 5
    have fr6 := bx9_free hrr 6
    have fr7 := bx9_free hrr 7
    have fr8 := bx9_free hrr 8
    obtain ⟨z0, z1, z2, z3, z4, z5, z6, z7, z8⟩ := bx9_c9 HSIT3.out.x
    clear hrr x9 e9
    go_wp2_with fail
    refine ⟨by simp, .tuple #[.agg #[.int .i64 A, .int .i64 B, .slice p n c, .slice pb nb cb, .slice qs ls.length es, .slice qm lm.length em, .slice qt lt.length et, .int .i64 N, .int .i64 T], .bool false], ?_, ⟨⟨A, B, p, n, c, l, pb, nb, cb, lb, qs, ls.length, es, ls, qm, lm.length, em, lm, qt, lt.length, et, lt, N, T⟩, false, rfl, ⟨rfl, rfl, rfl, rfl, rfl, rfl, rfl, rfl, rfl, rfl, rfl⟩, ?_, ds_make rfl (.inr ⟨rfl, rfl, fun c h _ => HNO.out h⟩)⟩, ?_⟩
    · simp [results, Try.results38, go_sem, y0, y1, y2, y3, y4, y5, y6, y7, y8]
    · first | exact HF9.out.1 | (rw [← HS0.out.2]; exact HF9.out.1)
    · first | exact HF9.out.2 | (rw [← HS0.out.2]; exact HF9.out.2)
  have hB : 1 ≤ da ∧ da ≤ 2 := Classical.not_not.1 hB
  have HC2 : Hid ((decide ((1 : Int) ≤ da) && decide (da ≤ 2)) = true) := by unfold Hid; simp only [Bool.and_eq_true, decide_eq_true_eq]; exact hB
  have hda : da = 1 ∨ da = 2 := by omega
  have HDA : Hid (da = 1 ∨ da = 2) := hda
  obtain ⟨L, hL⟩ : ∃ L, lifeOf da = L := ⟨_, rfl⟩
  obtain ⟨P, hP⟩ : ∃ P, priceOf da = P := ⟨_, rfl⟩
  obtain ⟨r0, hr0⟩ : ∃ r0 : Int, (if da = 2 then 2 else 1) = r0 := ⟨_, rfl⟩
  obtain ⟨g0, hg0⟩ : ∃ g0 : Int, (if da = 2 then 4 else 1) = g0 := ⟨_, rfl⟩
  have HKD : Hid (∀ U, Calls Try.prog 37 #[.int .i64 da] U fun e w' => e = .returned (.agg #[.int .i64 L, .int .i64 r0, .int .i64 g0, .int .i64 P]) ∧ Below U.heap.size U w') := fun U => by
    have h := kindOf_12 da hda U
    rw [hL, hP, hr0, hg0] at h
    exact h
  have HL : Hid (lifeOf da = L ∧ priceOf da = P) := ⟨hL, hP⟩
  have hPb : 0 ≤ P ∧ P ≤ 12 := by rw [← hP]; unfold priceOf; split <;> omega
  have hls : ls.length = lb.length := HOK.out.1.pl.1
  have hPs : PI < ls.length := by omega
  obtain ⟨gs, rfl, s1, fs, hCs, hls2⟩ := own_cell HSIT.out.o.ks hPs
  obtain ⟨Sv, hSv⟩ : ∃ Sv, ls.getD PI 0 = Sv := ⟨_, rfl⟩
  rw [hSv] at s1
  have HSV : Hid (ls.getD PI 0 = Sv) := hSv
  have hSb : 0 ≤ Sv ∧ Sv ≤ 1000000 := by rw [← hSv]; exact am_at HOK.out.1.pl.2.1 PI
  have pS : (PI : Int) < (ls.length : Int) := by omega
  have p0 : (0 : Int) ≤ PI := by omega
  have hlt : lt.length ≤ 100 := HOK.out.1.nt
  have hN1 : 1 ≤ N := HOK.out.1.n1
  have hN2 : N ≤ 1000000 := HOK.out.1.n2
  have kf := kfield3
  have HNB : Hid (lb.length = nb ∧ nb ≤ 8 ∧ ls.length = lb.length) := ⟨hnb, hnb8, hls⟩
  clear hL hP hr0 hg0 hSv hda hnb hls fs hCs hls2 hPl hPs
  by_cases hC : Sv < P
  · have d1 : decide (Sv < P) = true := by simp [hC]
    go_wp2_with fail
    refine wp_region_noPanic ?_
    refine wp_region_held_drew (S := (fun U => Below w2.heap.size w2 U ∧ U.cell? ⟨J + 1, 1, none⟩ = some (.int .i64 (PI : Int)) ∧ U.cell? ⟨J, 3, none⟩ = some (.slice pb nb cb) ∧ U.cell? ⟨J + 1, 4, none⟩ = some (.int .i64 da) ∧ U.cell? ⟨J, 4, none⟩ = some (.slice (some ⟨gs, 0, none⟩) ls.length es) ∧ U.cell? ⟨J, 6, none⟩ = some (.slice qt lt.length et) ∧ U.cell? ⟨J, 7, none⟩ = some (.int .i64 N) ∧ U.cell? ⟨gs, PI, none⟩ = some (.int .i64 Sv))) (by kernel_rfl) ⟨Below.drew (Below.refl _ _), q1, z3, q4, z4, z6, z7, s1⟩ (fun hHeld => ?_)
    refine wpAnyH_take (i := 0) (oi := ?oC0) (v := .pointer (some ⟨J + 1, 1, none⟩)) ?hiC0 (by kernel_rfl) (by kernel_rfl) (by kernel_rfl) (fun _ _ _ h => h) ?hyC0 hHeld ?restC0
    case hiC0 => simp only [List.getElem?_toArray, List.getElem?_cons_zero]; first | done | rfl
    case hyC0 => exact Or.inl ⟨by rfl, by intro V hV; obtain ⟨s0, s1, s2, s3, s4, s5, s6, s7⟩ := hV; go_simp⟩
    try simp only [Act.put, List.setIfInBounds_toArray, List.set_cons_zero, List.set_cons_succ]
    refine wpAnyH_take (i := 1) (oi := ?oC1) (v := .int .i64 (PI : Int)) ?hiC1 (by kernel_rfl) (by kernel_rfl) (by kernel_rfl) (fun _ _ _ h => h) ?hyC1 hHeld ?restC1
    case hiC1 => simp only [List.getElem?_toArray, List.getElem?_cons_zero, List.getElem?_cons_succ]; first | done | rfl
    case hyC1 => exact Or.inl ⟨by rfl, by intro V hV; obtain ⟨s0, s1, s2, s3, s4, s5, s6, s7⟩ := hV; go_simp⟩
    try simp only [Act.put, List.setIfInBounds_toArray, List.set_cons_zero, List.set_cons_succ]
    refine wpAnyH_take (i := 2) (oi := ?oC2) (v := .pointer (some ⟨J, 3, none⟩)) ?hiC2 (by kernel_rfl) (by kernel_rfl) (by kernel_rfl) (fun _ _ _ h => h) ?hyC2 hHeld ?restC2
    case hiC2 => simp only [List.getElem?_toArray, List.getElem?_cons_zero, List.getElem?_cons_succ]; first | done | rfl
    case hyC2 => exact Or.inl ⟨by rfl, by intro V hV; obtain ⟨s0, s1, s2, s3, s4, s5, s6, s7⟩ := hV; go_simp⟩
    try simp only [Act.put, List.setIfInBounds_toArray, List.set_cons_zero, List.set_cons_succ]
    refine wpAnyH_take (i := 3) (oi := ?oC3) (v := .slice pb nb cb) ?hiC3 (by kernel_rfl) (by kernel_rfl) (by kernel_rfl) (fun _ _ _ h => h) ?hyC3 hHeld ?restC3
    case hiC3 => simp only [List.getElem?_toArray, List.getElem?_cons_zero, List.getElem?_cons_succ]; first | done | rfl
    case hyC3 => exact Or.inl ⟨by rfl, by intro V hV; obtain ⟨s0, s1, s2, s3, s4, s5, s6, s7⟩ := hV; go_simp⟩
    try simp only [Act.put, List.setIfInBounds_toArray, List.set_cons_zero, List.set_cons_succ]
    refine wpAnyH_take (i := 4) (oi := ?oC4) (v := .int .i64 (nb : Int)) ?hiC4 (by kernel_rfl) (by kernel_rfl) (by kernel_rfl) (fun _ _ _ h => h) ?hyC4 hHeld ?restC4
    case hiC4 => simp only [List.getElem?_toArray, List.getElem?_cons_zero, List.getElem?_cons_succ]; first | done | rfl
    case hyC4 => exact Or.inl ⟨by rfl, by intro V hV; obtain ⟨s0, s1, s2, s3, s4, s5, s6, s7⟩ := hV; go_simp⟩
    try simp only [Act.put, List.setIfInBounds_toArray, List.set_cons_zero, List.set_cons_succ]
    refine wpAnyH_take (i := 5) (oi := ?oC5) (v := .int .i64 ((nb : Int) - 1)) ?hiC5 (by kernel_rfl) (by kernel_rfl) (by kernel_rfl) (fun _ _ _ h => h) ?hyC5 hHeld ?restC5
    case hiC5 => simp only [List.getElem?_toArray, List.getElem?_cons_zero, List.getElem?_cons_succ]; first | done | rfl
    case hyC5 => exact Or.inl ⟨by rfl, by intro V hV; obtain ⟨s0, s1, s2, s3, s4, s5, s6, s7⟩ := hV; go_simp⟩
    try simp only [Act.put, List.setIfInBounds_toArray, List.set_cons_zero, List.set_cons_succ]
    refine wpAnyH_ready (rs := [6]) (by kernel_rfl) (by simp) ?_
    refine AllReadyH.cons (o := ?oC6) ?hiC6 (fun K hK => ?stepC6) AllReadyH.nil
    case hiC6 => simp only [List.getElem?_toArray, List.getElem?_cons_zero, List.getElem?_cons_succ]; first | done | rfl
    go_simp
    go_at_call 35
    refine (Between_at (PI : Int) 0 ((nb : Int) - 1) true _ HC1).mono ?_
    rintro e w3 ⟨rfl, rfl⟩
    go_wp2_with fail
    refine hK.out _ _ hHeld (fun hHeldb => ?_)
    clear hK K
    try simp only [Act.put, List.setIfInBounds_toArray, List.set_cons_zero, List.set_cons_succ]
    refine wpAnyH_take (i := 7) (oi := ?oC7) (v := .bool false) ?hiC7 (by kernel_rfl) (by kernel_rfl) (by kernel_rfl) (fun _ _ _ h => h) ?hyC7 hHeldb ?restC7
    case hiC7 => simp only [List.getElem?_toArray, List.getElem?_cons_zero, List.getElem?_cons_succ]; first | done | rfl
    case hyC7 => exact Or.inl ⟨by rfl, by intro V hV; obtain ⟨s0, s1, s2, s3, s4, s5, s6, s7⟩ := hV; go_simp⟩
    try simp only [Act.put, List.setIfInBounds_toArray, List.set_cons_zero, List.set_cons_succ]
    refine wpAnyH_take (i := 8) (oi := ?oC8) (v := .bool false) ?hiC8 (by kernel_rfl) (by kernel_rfl) (by kernel_rfl) (fun _ _ _ h => h) ?hyC8 hHeldb ?restC8
    case hiC8 => simp only [List.getElem?_toArray, List.getElem?_cons_zero, List.getElem?_cons_succ]; first | done | rfl
    case hyC8 => exact Or.inl ⟨by rfl, by intro V hV; obtain ⟨s0, s1, s2, s3, s4, s5, s6, s7⟩ := hV; go_simp⟩
    try simp only [Act.put, List.setIfInBounds_toArray, List.set_cons_zero, List.set_cons_succ]
    refine wpAnyH_take (i := 9) (oi := ?oC9) (v := .pointer (some ⟨J + 1, 4, none⟩)) ?hiC9 (by kernel_rfl) (by kernel_rfl) (by kernel_rfl) (fun _ _ _ h => h) ?hyC9 hHeldb ?restC9
    case hiC9 => simp only [List.getElem?_toArray, List.getElem?_cons_zero, List.getElem?_cons_succ]; first | done | rfl
    case hyC9 => exact Or.inl ⟨by rfl, by intro V hV; obtain ⟨s0, s1, s2, s3, s4, s5, s6, s7⟩ := hV; go_simp⟩
    try simp only [Act.put, List.setIfInBounds_toArray, List.set_cons_zero, List.set_cons_succ]
    refine wpAnyH_take (i := 10) (oi := ?oC10) (v := .int .i64 da) ?hiC10 (by kernel_rfl) (by kernel_rfl) (by kernel_rfl) (fun _ _ _ h => h) ?hyC10 hHeldb ?restC10
    case hiC10 => simp only [List.getElem?_toArray, List.getElem?_cons_zero, List.getElem?_cons_succ]; first | done | rfl
    case hyC10 => exact Or.inl ⟨by rfl, by intro V hV; obtain ⟨s0, s1, s2, s3, s4, s5, s6, s7⟩ := hV; go_simp⟩
    try simp only [Act.put, List.setIfInBounds_toArray, List.set_cons_zero, List.set_cons_succ]
    refine wpAnyH_ready (rs := [11]) (by kernel_rfl) (by simp) ?_
    refine AllReadyH.cons (o := ?oC11) ?hiC11 (fun K hK => ?stepC11) AllReadyH.nil
    case hiC11 => simp only [List.getElem?_toArray, List.getElem?_cons_zero, List.getElem?_cons_succ]; first | done | rfl
    go_simp
    go_at_call 35
    refine (Between_at da 1 2 true _ HC2).mono ?_
    rintro e w3 ⟨rfl, rfl⟩
    go_wp2_with fail
    refine hK.out _ _ hHeldb (fun hHeldc => ?_)
    clear hK K
    try simp only [Act.put, List.setIfInBounds_toArray, List.set_cons_zero, List.set_cons_succ]
    refine wpAnyH_take (i := 12) (oi := ?oC12) (v := .bool false) ?hiC12 (by kernel_rfl) (by kernel_rfl) (by kernel_rfl) (fun _ _ _ h => h) ?hyC12 hHeldc ?restC12
    case hiC12 => simp only [List.getElem?_toArray, List.getElem?_cons_zero, List.getElem?_cons_succ]; first | done | rfl
    case hyC12 => exact Or.inl ⟨by rfl, by intro V hV; obtain ⟨s0, s1, s2, s3, s4, s5, s6, s7⟩ := hV; go_simp⟩
    try simp only [Act.put, List.setIfInBounds_toArray, List.set_cons_zero, List.set_cons_succ]
    refine wpAnyH_take (i := 13) (oi := ?oC13) (v := .bool false) ?hiC13 (by kernel_rfl) (by kernel_rfl) (by kernel_rfl) (fun _ _ _ h => h) ?hyC13 hHeldc ?restC13
    case hiC13 => simp only [List.getElem?_toArray, List.getElem?_cons_zero, List.getElem?_cons_succ]; first | done | rfl
    case hyC13 => exact Or.inl ⟨by rfl, by intro V hV; obtain ⟨s0, s1, s2, s3, s4, s5, s6, s7⟩ := hV; go_simp⟩
    try simp only [Act.put, List.setIfInBounds_toArray, List.set_cons_zero, List.set_cons_succ]
    refine wpAnyH_take (i := 14) (oi := ?oC14) (v := .bool false) ?hiC14 (by kernel_rfl) (by kernel_rfl) (by kernel_rfl) (fun _ _ _ h => h) ?hyC14 hHeldc ?restC14
    case hiC14 => simp only [List.getElem?_toArray, List.getElem?_cons_zero, List.getElem?_cons_succ]; first | done | rfl
    case hyC14 => exact Or.inl ⟨by rfl, by intro V hV; obtain ⟨s0, s1, s2, s3, s4, s5, s6, s7⟩ := hV; go_simp⟩
    try simp only [Act.put, List.setIfInBounds_toArray, List.set_cons_zero, List.set_cons_succ]
    refine wpAnyH_take (i := 15) (oi := ?oC15) (v := .pointer (some ⟨J, 4, none⟩)) ?hiC15 (by kernel_rfl) (by kernel_rfl) (by kernel_rfl) (fun _ _ _ h => h) ?hyC15 hHeldc ?restC15
    case hiC15 => simp only [List.getElem?_toArray, List.getElem?_cons_zero, List.getElem?_cons_succ]; first | done | rfl
    case hyC15 => exact Or.inl ⟨by rfl, by intro V hV; obtain ⟨s0, s1, s2, s3, s4, s5, s6, s7⟩ := hV; go_simp⟩
    try simp only [Act.put, List.setIfInBounds_toArray, List.set_cons_zero, List.set_cons_succ]
    refine wpAnyH_take (i := 16) (oi := ?oC16) (v := .slice (some ⟨gs, 0, none⟩) ls.length es) ?hiC16 (by kernel_rfl) (by kernel_rfl) (by kernel_rfl) (fun _ _ _ h => h) ?hyC16 hHeldc ?restC16
    case hiC16 => simp only [List.getElem?_toArray, List.getElem?_cons_zero, List.getElem?_cons_succ]; first | done | rfl
    case hyC16 => exact Or.inl ⟨by rfl, by intro V hV; obtain ⟨s0, s1, s2, s3, s4, s5, s6, s7⟩ := hV; go_simp⟩
    try simp only [Act.put, List.setIfInBounds_toArray, List.set_cons_zero, List.set_cons_succ]
    refine wpAnyH_take (i := 17) (oi := ?oC17) (v := .pointer (some ⟨J + 1, 1, none⟩)) ?hiC17 (by kernel_rfl) (by kernel_rfl) (by kernel_rfl) (fun _ _ _ h => h) ?hyC17 hHeldc ?restC17
    case hiC17 => simp only [List.getElem?_toArray, List.getElem?_cons_zero, List.getElem?_cons_succ]; first | done | rfl
    case hyC17 => exact Or.inl ⟨by rfl, by intro V hV; obtain ⟨s0, s1, s2, s3, s4, s5, s6, s7⟩ := hV; go_simp⟩
    try simp only [Act.put, List.setIfInBounds_toArray, List.set_cons_zero, List.set_cons_succ]
    refine wpAnyH_take (i := 18) (oi := ?oC18) (v := .int .i64 (PI : Int)) ?hiC18 (by kernel_rfl) (by kernel_rfl) (by kernel_rfl) (fun _ _ _ h => h) ?hyC18 hHeldc ?restC18
    case hiC18 => simp only [List.getElem?_toArray, List.getElem?_cons_zero, List.getElem?_cons_succ]; first | done | rfl
    case hyC18 => exact Or.inl ⟨by rfl, by intro V hV; obtain ⟨s0, s1, s2, s3, s4, s5, s6, s7⟩ := hV; go_simp⟩
    try simp only [Act.put, List.setIfInBounds_toArray, List.set_cons_zero, List.set_cons_succ]
    refine wpAnyH_take (i := 19) (oi := ?oC19) (v := .pointer (some ⟨gs, PI, none⟩)) ?hiC19 (by kernel_rfl) (by kernel_rfl) (by kernel_rfl) (fun _ _ _ h => h) ?hyC19 hHeldc ?restC19
    case hiC19 => simp only [List.getElem?_toArray, List.getElem?_cons_zero, List.getElem?_cons_succ]; first | done | rfl
    case hyC19 => exact Or.inl ⟨by rfl, by intro V hV; obtain ⟨s0, s1, s2, s3, s4, s5, s6, s7⟩ := hV; go_simp⟩
    try simp only [Act.put, List.setIfInBounds_toArray, List.set_cons_zero, List.set_cons_succ]
    refine wpAnyH_take (i := 20) (oi := ?oC20) (v := .int .i64 Sv) ?hiC20 (by kernel_rfl) (by kernel_rfl) (by kernel_rfl) (fun _ _ _ h => h) ?hyC20 hHeldc ?restC20
    case hiC20 => simp only [List.getElem?_toArray, List.getElem?_cons_zero, List.getElem?_cons_succ]; first | done | rfl
    case hyC20 => exact Or.inl ⟨by rfl, by intro V hV; obtain ⟨s0, s1, s2, s3, s4, s5, s6, s7⟩ := hV; go_simp⟩
    try simp only [Act.put, List.setIfInBounds_toArray, List.set_cons_zero, List.set_cons_succ]
    refine wpAnyH_take (i := 21) (oi := ?oC21) (v := .pointer (some ⟨J + 1, 4, none⟩)) ?hiC21 (by kernel_rfl) (by kernel_rfl) (by kernel_rfl) (fun _ _ _ h => h) ?hyC21 hHeldc ?restC21
    case hiC21 => simp only [List.getElem?_toArray, List.getElem?_cons_zero, List.getElem?_cons_succ]; first | done | rfl
    case hyC21 => exact Or.inl ⟨by rfl, by intro V hV; obtain ⟨s0, s1, s2, s3, s4, s5, s6, s7⟩ := hV; go_simp⟩
    try simp only [Act.put, List.setIfInBounds_toArray, List.set_cons_zero, List.set_cons_succ]
    refine wpAnyH_take (i := 22) (oi := ?oC22) (v := .int .i64 da) ?hiC22 (by kernel_rfl) (by kernel_rfl) (by kernel_rfl) (fun _ _ _ h => h) ?hyC22 hHeldc ?restC22
    case hiC22 => simp only [List.getElem?_toArray, List.getElem?_cons_zero, List.getElem?_cons_succ]; first | done | rfl
    case hyC22 => exact Or.inl ⟨by rfl, by intro V hV; obtain ⟨s0, s1, s2, s3, s4, s5, s6, s7⟩ := hV; go_simp⟩
    try simp only [Act.put, List.setIfInBounds_toArray, List.set_cons_zero, List.set_cons_succ]
    refine wpAnyH_ready (rs := [23]) (by kernel_rfl) (by simp) ?_
    refine AllReadyH.cons (o := ?oC23) ?hiC23 (fun K hK => ?stepC23) AllReadyH.nil
    case hiC23 => simp only [List.getElem?_toArray, List.getElem?_cons_zero, List.getElem?_cons_succ]; first | done | rfl
    go_simp
    go_at_call 37
    refine (HKD.out _).mono ?_
    rintro e w3 ⟨rfl, hb3⟩
    go_wp2_with fail
    refine hK.out _ _ (k7_call hHeldc hb3) (fun hHeld2 => ?_)
    clear hK K
    try simp only [Act.put, List.setIfInBounds_toArray, List.set_cons_zero, List.set_cons_succ]
    refine wpAnyH_take (i := 24) (oi := ?oC24) (v := .int .i64 P) ?hiC24 (by kernel_rfl) (by kernel_rfl) (by kernel_rfl) (fun _ _ _ h => h) ?hyC24 hHeld2 ?restC24
    case hiC24 => simp only [List.getElem?_toArray, List.getElem?_cons_zero, List.getElem?_cons_succ]; first | done | rfl
    case hyC24 => exact Or.inl ⟨by rfl, by intro V hV; obtain ⟨s0, s1, s2, s3, s4, s5, s6, s7⟩ := hV; go_simp⟩
    try simp only [Act.put, List.setIfInBounds_toArray, List.set_cons_zero, List.set_cons_succ]
    refine wpAnyH_take (i := 25) (oi := ?oC25) (v := .bool true) ?hiC25 (by kernel_rfl) (by kernel_rfl) (by kernel_rfl) (fun _ _ _ h => h) ?hyC25 hHeld2 ?restC25
    case hiC25 => simp only [List.getElem?_toArray, List.getElem?_cons_zero, List.getElem?_cons_succ]; first | done | rfl
    case hyC25 => exact Or.inl ⟨by rfl, by intro V hV; obtain ⟨s0, s1, s2, s3, s4, s5, s6, s7⟩ := hV; go_simp⟩
    try simp only [Act.put, List.setIfInBounds_toArray, List.set_cons_zero, List.set_cons_succ]
    refine wpAnyH_take (i := 26) (oi := ?oC26) (v := .bool true) ?hiC26 (by kernel_rfl) (by kernel_rfl) (by kernel_rfl) (fun _ _ _ h => h) ?hyC26 hHeld2 ?restC26
    case hiC26 => simp only [List.getElem?_toArray, List.getElem?_cons_zero, List.getElem?_cons_succ]; first | done | rfl
    case hyC26 => exact Or.inl ⟨by rfl, by intro V hV; obtain ⟨s0, s1, s2, s3, s4, s5, s6, s7⟩ := hV; go_simp⟩
    try simp only [Act.put, List.setIfInBounds_toArray, List.set_cons_zero, List.set_cons_succ]
    refine wpAnyH_take (i := 27) (oi := ?oC27) (v := .bool true) ?hiC27 (by kernel_rfl) (by kernel_rfl) (by kernel_rfl) (fun _ _ _ h => h) ?hyC27 hHeld2 ?restC27
    case hiC27 => simp only [List.getElem?_toArray, List.getElem?_cons_zero, List.getElem?_cons_succ]; first | done | rfl
    case hyC27 => exact Or.inl ⟨by rfl, by intro V hV; obtain ⟨s0, s1, s2, s3, s4, s5, s6, s7⟩ := hV; go_simp⟩
    try simp only [Act.put, List.setIfInBounds_toArray, List.set_cons_zero, List.set_cons_succ]
    refine wpAnyH_take (i := 28) (oi := ?oC28) (v := undef) ?hiC28 (by kernel_rfl) (by kernel_rfl) (by kernel_rfl) (fun _ _ _ h => h) ?hyC28 hHeld2 ?restC28
    case hiC28 => simp only [List.getElem?_toArray, List.getElem?_cons_zero, List.getElem?_cons_succ]; first | done | rfl
    case hyC28 => exact Or.inr ⟨by rfl, rfl⟩
    try simp only [Act.put, List.setIfInBounds_toArray, List.set_cons_zero, List.set_cons_succ]
    refine wpAnyH_take (i := 29) (oi := ?oC29) (v := undef) ?hiC29 (by kernel_rfl) (by kernel_rfl) (by kernel_rfl) (fun _ _ _ h => h) ?hyC29 hHeld2 ?restC29
    case hiC29 => simp only [List.getElem?_toArray, List.getElem?_cons_zero, List.getElem?_cons_succ]; first | done | rfl
    case hyC29 => exact Or.inr ⟨by rfl, rfl⟩
    try simp only [Act.put, List.setIfInBounds_toArray, List.set_cons_zero, List.set_cons_succ]
    refine wpAnyH_take (i := 30) (oi := ?oC30) (v := undef) ?hiC30 (by kernel_rfl) (by kernel_rfl) (by kernel_rfl) (fun _ _ _ h => h) ?hyC30 hHeld2 ?restC30
    case hiC30 => simp only [List.getElem?_toArray, List.getElem?_cons_zero, List.getElem?_cons_succ]; first | done | rfl
    case hyC30 => exact Or.inr ⟨by rfl, rfl⟩
    try simp only [Act.put, List.setIfInBounds_toArray, List.set_cons_zero, List.set_cons_succ]
    refine wpAnyH_take (i := 31) (oi := ?oC31) (v := undef) ?hiC31 (by kernel_rfl) (by kernel_rfl) (by kernel_rfl) (fun _ _ _ h => h) ?hyC31 hHeld2 ?restC31
    case hiC31 => simp only [List.getElem?_toArray, List.getElem?_cons_zero, List.getElem?_cons_succ]; first | done | rfl
    case hyC31 => exact Or.inr ⟨by rfl, rfl⟩
    try simp only [Act.put, List.setIfInBounds_toArray, List.set_cons_zero, List.set_cons_succ]
    refine wpAnyH_take (i := 32) (oi := ?oC32) (v := .bool true) ?hiC32 (by kernel_rfl) (by kernel_rfl) (by kernel_rfl) (fun _ _ _ h => h) ?hyC32 hHeld2 ?restC32
    case hiC32 => simp only [List.getElem?_toArray, List.getElem?_cons_zero, List.getElem?_cons_succ]; first | done | rfl
    case hyC32 => exact Or.inl ⟨by rfl, by intro V hV; obtain ⟨s0, s1, s2, s3, s4, s5, s6, s7⟩ := hV; go_simp⟩
    try simp only [Act.put, List.setIfInBounds_toArray, List.set_cons_zero, List.set_cons_succ]
    refine wpAnyH_take (i := 33) (oi := ?oC33) (v := .bool true) ?hiC33 (by kernel_rfl) (by kernel_rfl) (by kernel_rfl) (fun _ _ _ h => h) ?hyC33 hHeld2 ?restC33
    case hiC33 => simp only [List.getElem?_toArray, List.getElem?_cons_zero, List.getElem?_cons_succ]; first | done | rfl
    case hyC33 => exact Or.inl ⟨by rfl, by intro V hV; obtain ⟨s0, s1, s2, s3, s4, s5, s6, s7⟩ := hV; go_simp⟩
    try simp only [Act.put, List.setIfInBounds_toArray, List.set_cons_zero, List.set_cons_succ]
    refine wpAnyH_take (i := 34) (oi := ?oC34) (v := undef) ?hiC34 (by kernel_rfl) (by kernel_rfl) (by kernel_rfl) (fun _ _ _ h => h) ?hyC34 hHeld2 ?restC34
    case hiC34 => simp only [List.getElem?_toArray, List.getElem?_cons_zero, List.getElem?_cons_succ]; first | done | rfl
    case hyC34 => exact Or.inr ⟨by rfl, rfl⟩
    try simp only [Act.put, List.setIfInBounds_toArray, List.set_cons_zero, List.set_cons_succ]
    refine wpAnyH_take (i := 35) (oi := ?oC35) (v := undef) ?hiC35 (by kernel_rfl) (by kernel_rfl) (by kernel_rfl) (fun _ _ _ h => h) ?hyC35 hHeld2 ?restC35
    case hiC35 => simp only [List.getElem?_toArray, List.getElem?_cons_zero, List.getElem?_cons_succ]; first | done | rfl
    case hyC35 => exact Or.inr ⟨by rfl, rfl⟩
    try simp only [Act.put, List.setIfInBounds_toArray, List.set_cons_zero, List.set_cons_succ]
    refine wpAnyH_take (i := 36) (oi := ?oC36) (v := undef) ?hiC36 (by kernel_rfl) (by kernel_rfl) (by kernel_rfl) (fun _ _ _ h => h) ?hyC36 hHeld2 ?restC36
    case hiC36 => simp only [List.getElem?_toArray, List.getElem?_cons_zero, List.getElem?_cons_succ]; first | done | rfl
    case hyC36 => exact Or.inr ⟨by rfl, rfl⟩
    try simp only [Act.put, List.setIfInBounds_toArray, List.set_cons_zero, List.set_cons_succ]
    refine wpAnyH_take (i := 37) (oi := ?oC37) (v := .bool true) ?hiC37 (by kernel_rfl) (by kernel_rfl) (by kernel_rfl) (fun _ _ _ h => h) ?hyC37 hHeld2 ?restC37
    case hiC37 => simp only [List.getElem?_toArray, List.getElem?_cons_zero, List.getElem?_cons_succ]; first | done | rfl
    case hyC37 => exact Or.inl ⟨by rfl, by intro V hV; obtain ⟨s0, s1, s2, s3, s4, s5, s6, s7⟩ := hV; go_simp⟩
    try simp only [Act.put, List.setIfInBounds_toArray, List.set_cons_zero, List.set_cons_succ]
    refine wpAnyH_done (by kernel_rfl) ?_ _
    refine NoPanic.normal ?_
    have hb3 : Below w2.heap.size w2 w3 := hHeld2.1
    have HSIT3 : Hid (sit (J + 1 + 1 + 1) J (J + 1) (J + 1 + 1) w3 ⟨A, B, p, n, c, l, pb, nb, cb, lb, (some ⟨gs, 0, none⟩), ls.length, es, ls, qm, lm.length, em, lm, qt, lt.length, et, lt, N, T⟩ ⟨3, (PI : Int), dx, dy, da⟩) := sit_below HSIT.out (hb3)
    have HB3 : Hid (Below w.heap.size w w3) := below_call HB2.out HB2.out.size (hb3)
    clear z0 z1 z2 z3 z4 z5 z6 z7 z8 q0 q1 q2 q3 q4
    clear hb3
    clear s1 kf
    obtain ⟨ra, rb, rc, rd, re, rf, rg, rh, ri, hrr⟩ := HSIT3.out.r
    obtain ⟨u9, hu9⟩ : ∃ u9, (((((((((w3.setCell ⟨J + 1 + 1, 0, none⟩ (.int .i64 A)).setCell ⟨J + 1 + 1, 1, none⟩ (.int .i64 B)).setCell ⟨J + 1 + 1, 2, none⟩ (.slice p n c)).setCell ⟨J + 1 + 1, 3, none⟩ (.slice pb nb cb)).setCell ⟨J + 1 + 1, 4, none⟩ (.slice (some ⟨gs, 0, none⟩) ls.length es)).setCell ⟨J + 1 + 1, 5, none⟩ (.slice qm lm.length em)).setCell ⟨J + 1 + 1, 6, none⟩ (.slice qt lt.length et)).setCell ⟨J + 1 + 1, 7, none⟩ (.int .i64 N)).setCell ⟨J + 1 + 1, 8, none⟩ (.int .i64 T)) = u9 := ⟨_, rfl⟩
    obtain ⟨x9, e9⟩ := set9 hrr hu9.symm
    have HF9 : Hid (sown w.heap.size u9 ⟨A, B, p, n, c, l, pb, nb, cb, lb, (some ⟨gs, 0, none⟩), ls.length, es, ls, qm, lm.length, em, lm, qt, lt.length, et, lt, N, T⟩ ∧ Below w.heap.size w u9) := ⟨sown_mono (sown_ex HSIT3.out.o e9 (by intro g hg; omega)) (by have := HS0.out.2; omega), HB3.out.trans (e9.below HB3.out.size (by intro k hk; have := HS0.out.2; omega))⟩
    obtain ⟨y0, y1, y2, y3, y4, y5, y6, y7, y8⟩ := bx9_c9 x9
    obtain ⟨o0, o1, o2, o3, o4, o5, o6, o7, o8⟩ := bx9_c9 hrr
    have fr0 := bx9_free hrr 0
    have fr1 := bx9_free hrr 1
    have fr2 := bx9_free hrr 2
    have fr3 := bx9_free hrr 3
    have fr4 := bx9_free hrr 4
    have fr5 := bx9_free hrr 5
    have fr6 := bx9_free hrr 6
    have fr7 := bx9_free hrr 7
    have fr8 := bx9_free hrr 8
    obtain ⟨z0, z1, z2, z3, z4, z5, z6, z7, z8⟩ := bx9_c9 HSIT3.out.x
    clear hrr x9 e9
    go_wp2_with fail
    refine ⟨by simp, .tuple #[.agg #[.int .i64 A, .int .i64 B, .slice p n c, .slice pb nb cb, .slice (some ⟨gs, 0, none⟩) ls.length es, .slice qm lm.length em, .slice qt lt.length et, .int .i64 N, .int .i64 T], .bool false], ?_, ⟨⟨A, B, p, n, c, l, pb, nb, cb, lb, (some ⟨gs, 0, none⟩), ls.length, es, ls, qm, lm.length, em, lm, qt, lt.length, et, lt, N, T⟩, false, rfl, ⟨rfl, rfl, rfl, rfl, rfl, rfl, rfl, rfl, rfl, rfl, rfl⟩, ?_, ds_make rfl (.inr ⟨rfl, rfl, fun c h _ => HNO.out h⟩)⟩, ?_⟩
    · simp [results, Try.results38, go_sem, y0, y1, y2, y3, y4, y5, y6, y7, y8]
    · first | exact HF9.out.1 | (rw [← HS0.out.2]; exact HF9.out.1)
    · first | exact HF9.out.2 | (rw [← HS0.out.2]; exact HF9.out.2)
  have d1 : decide (Sv < P) = false := by simp; omega
  by_cases hD : 99 < lt.length
  · have d2 : decide ((99 : Int) < (lt.length : Int)) = true := by simp; omega
    have d2b : decide (99 < lt.length) = true := by simp; omega
    go_wp2_with fail
    refine wp_region_noPanic ?_
    refine wp_region_held_drew (S := (fun U => Below w2.heap.size w2 U ∧ U.cell? ⟨J + 1, 1, none⟩ = some (.int .i64 (PI : Int)) ∧ U.cell? ⟨J, 3, none⟩ = some (.slice pb nb cb) ∧ U.cell? ⟨J + 1, 4, none⟩ = some (.int .i64 da) ∧ U.cell? ⟨J, 4, none⟩ = some (.slice (some ⟨gs, 0, none⟩) ls.length es) ∧ U.cell? ⟨J, 6, none⟩ = some (.slice qt lt.length et) ∧ U.cell? ⟨J, 7, none⟩ = some (.int .i64 N) ∧ U.cell? ⟨gs, PI, none⟩ = some (.int .i64 Sv))) (by kernel_rfl) ⟨Below.drew (Below.refl _ _), q1, z3, q4, z4, z6, z7, s1⟩ (fun hHeld => ?_)
    refine wpAnyH_take (i := 0) (oi := ?oD0) (v := .pointer (some ⟨J + 1, 1, none⟩)) ?hiD0 (by kernel_rfl) (by kernel_rfl) (by kernel_rfl) (fun _ _ _ h => h) ?hyD0 hHeld ?restD0
    case hiD0 => simp only [List.getElem?_toArray, List.getElem?_cons_zero]; first | done | rfl
    case hyD0 => exact Or.inl ⟨by rfl, by intro V hV; obtain ⟨s0, s1, s2, s3, s4, s5, s6, s7⟩ := hV; go_simp⟩
    try simp only [Act.put, List.setIfInBounds_toArray, List.set_cons_zero, List.set_cons_succ]
    refine wpAnyH_take (i := 1) (oi := ?oD1) (v := .int .i64 (PI : Int)) ?hiD1 (by kernel_rfl) (by kernel_rfl) (by kernel_rfl) (fun _ _ _ h => h) ?hyD1 hHeld ?restD1
    case hiD1 => simp only [List.getElem?_toArray, List.getElem?_cons_zero, List.getElem?_cons_succ]; first | done | rfl
    case hyD1 => exact Or.inl ⟨by rfl, by intro V hV; obtain ⟨s0, s1, s2, s3, s4, s5, s6, s7⟩ := hV; go_simp⟩
    try simp only [Act.put, List.setIfInBounds_toArray, List.set_cons_zero, List.set_cons_succ]
    refine wpAnyH_take (i := 2) (oi := ?oD2) (v := .pointer (some ⟨J, 3, none⟩)) ?hiD2 (by kernel_rfl) (by kernel_rfl) (by kernel_rfl) (fun _ _ _ h => h) ?hyD2 hHeld ?restD2
    case hiD2 => simp only [List.getElem?_toArray, List.getElem?_cons_zero, List.getElem?_cons_succ]; first | done | rfl
    case hyD2 => exact Or.inl ⟨by rfl, by intro V hV; obtain ⟨s0, s1, s2, s3, s4, s5, s6, s7⟩ := hV; go_simp⟩
    try simp only [Act.put, List.setIfInBounds_toArray, List.set_cons_zero, List.set_cons_succ]
    refine wpAnyH_take (i := 3) (oi := ?oD3) (v := .slice pb nb cb) ?hiD3 (by kernel_rfl) (by kernel_rfl) (by kernel_rfl) (fun _ _ _ h => h) ?hyD3 hHeld ?restD3
    case hiD3 => simp only [List.getElem?_toArray, List.getElem?_cons_zero, List.getElem?_cons_succ]; first | done | rfl
    case hyD3 => exact Or.inl ⟨by rfl, by intro V hV; obtain ⟨s0, s1, s2, s3, s4, s5, s6, s7⟩ := hV; go_simp⟩
    try simp only [Act.put, List.setIfInBounds_toArray, List.set_cons_zero, List.set_cons_succ]
    refine wpAnyH_take (i := 4) (oi := ?oD4) (v := .int .i64 (nb : Int)) ?hiD4 (by kernel_rfl) (by kernel_rfl) (by kernel_rfl) (fun _ _ _ h => h) ?hyD4 hHeld ?restD4
    case hiD4 => simp only [List.getElem?_toArray, List.getElem?_cons_zero, List.getElem?_cons_succ]; first | done | rfl
    case hyD4 => exact Or.inl ⟨by rfl, by intro V hV; obtain ⟨s0, s1, s2, s3, s4, s5, s6, s7⟩ := hV; go_simp⟩
    try simp only [Act.put, List.setIfInBounds_toArray, List.set_cons_zero, List.set_cons_succ]
    refine wpAnyH_take (i := 5) (oi := ?oD5) (v := .int .i64 ((nb : Int) - 1)) ?hiD5 (by kernel_rfl) (by kernel_rfl) (by kernel_rfl) (fun _ _ _ h => h) ?hyD5 hHeld ?restD5
    case hiD5 => simp only [List.getElem?_toArray, List.getElem?_cons_zero, List.getElem?_cons_succ]; first | done | rfl
    case hyD5 => exact Or.inl ⟨by rfl, by intro V hV; obtain ⟨s0, s1, s2, s3, s4, s5, s6, s7⟩ := hV; go_simp⟩
    try simp only [Act.put, List.setIfInBounds_toArray, List.set_cons_zero, List.set_cons_succ]
    refine wpAnyH_ready (rs := [6]) (by kernel_rfl) (by simp) ?_
    refine AllReadyH.cons (o := ?oD6) ?hiD6 (fun K hK => ?stepD6) AllReadyH.nil
    case hiD6 => simp only [List.getElem?_toArray, List.getElem?_cons_zero, List.getElem?_cons_succ]; first | done | rfl
    go_simp
    go_at_call 35
    refine (Between_at (PI : Int) 0 ((nb : Int) - 1) true _ HC1).mono ?_
    rintro e w3 ⟨rfl, rfl⟩
    go_wp2_with fail
    refine hK.out _ _ hHeld (fun hHeldb => ?_)
    clear hK K
    try simp only [Act.put, List.setIfInBounds_toArray, List.set_cons_zero, List.set_cons_succ]
    refine wpAnyH_take (i := 7) (oi := ?oD7) (v := .bool false) ?hiD7 (by kernel_rfl) (by kernel_rfl) (by kernel_rfl) (fun _ _ _ h => h) ?hyD7 hHeldb ?restD7
    case hiD7 => simp only [List.getElem?_toArray, List.getElem?_cons_zero, List.getElem?_cons_succ]; first | done | rfl
    case hyD7 => exact Or.inl ⟨by rfl, by intro V hV; obtain ⟨s0, s1, s2, s3, s4, s5, s6, s7⟩ := hV; go_simp⟩
    try simp only [Act.put, List.setIfInBounds_toArray, List.set_cons_zero, List.set_cons_succ]
    refine wpAnyH_take (i := 8) (oi := ?oD8) (v := .bool false) ?hiD8 (by kernel_rfl) (by kernel_rfl) (by kernel_rfl) (fun _ _ _ h => h) ?hyD8 hHeldb ?restD8
    case hiD8 => simp only [List.getElem?_toArray, List.getElem?_cons_zero, List.getElem?_cons_succ]; first | done | rfl
    case hyD8 => exact Or.inl ⟨by rfl, by intro V hV; obtain ⟨s0, s1, s2, s3, s4, s5, s6, s7⟩ := hV; go_simp⟩
    try simp only [Act.put, List.setIfInBounds_toArray, List.set_cons_zero, List.set_cons_succ]
    refine wpAnyH_take (i := 9) (oi := ?oD9) (v := .pointer (some ⟨J + 1, 4, none⟩)) ?hiD9 (by kernel_rfl) (by kernel_rfl) (by kernel_rfl) (fun _ _ _ h => h) ?hyD9 hHeldb ?restD9
    case hiD9 => simp only [List.getElem?_toArray, List.getElem?_cons_zero, List.getElem?_cons_succ]; first | done | rfl
    case hyD9 => exact Or.inl ⟨by rfl, by intro V hV; obtain ⟨s0, s1, s2, s3, s4, s5, s6, s7⟩ := hV; go_simp⟩
    try simp only [Act.put, List.setIfInBounds_toArray, List.set_cons_zero, List.set_cons_succ]
    refine wpAnyH_take (i := 10) (oi := ?oD10) (v := .int .i64 da) ?hiD10 (by kernel_rfl) (by kernel_rfl) (by kernel_rfl) (fun _ _ _ h => h) ?hyD10 hHeldb ?restD10
    case hiD10 => simp only [List.getElem?_toArray, List.getElem?_cons_zero, List.getElem?_cons_succ]; first | done | rfl
    case hyD10 => exact Or.inl ⟨by rfl, by intro V hV; obtain ⟨s0, s1, s2, s3, s4, s5, s6, s7⟩ := hV; go_simp⟩
    try simp only [Act.put, List.setIfInBounds_toArray, List.set_cons_zero, List.set_cons_succ]
    refine wpAnyH_ready (rs := [11]) (by kernel_rfl) (by simp) ?_
    refine AllReadyH.cons (o := ?oD11) ?hiD11 (fun K hK => ?stepD11) AllReadyH.nil
    case hiD11 => simp only [List.getElem?_toArray, List.getElem?_cons_zero, List.getElem?_cons_succ]; first | done | rfl
    go_simp
    go_at_call 35
    refine (Between_at da 1 2 true _ HC2).mono ?_
    rintro e w3 ⟨rfl, rfl⟩
    go_wp2_with fail
    refine hK.out _ _ hHeldb (fun hHeldc => ?_)
    clear hK K
    try simp only [Act.put, List.setIfInBounds_toArray, List.set_cons_zero, List.set_cons_succ]
    refine wpAnyH_take (i := 12) (oi := ?oD12) (v := .bool false) ?hiD12 (by kernel_rfl) (by kernel_rfl) (by kernel_rfl) (fun _ _ _ h => h) ?hyD12 hHeldc ?restD12
    case hiD12 => simp only [List.getElem?_toArray, List.getElem?_cons_zero, List.getElem?_cons_succ]; first | done | rfl
    case hyD12 => exact Or.inl ⟨by rfl, by intro V hV; obtain ⟨s0, s1, s2, s3, s4, s5, s6, s7⟩ := hV; go_simp⟩
    try simp only [Act.put, List.setIfInBounds_toArray, List.set_cons_zero, List.set_cons_succ]
    refine wpAnyH_take (i := 13) (oi := ?oD13) (v := .bool false) ?hiD13 (by kernel_rfl) (by kernel_rfl) (by kernel_rfl) (fun _ _ _ h => h) ?hyD13 hHeldc ?restD13
    case hiD13 => simp only [List.getElem?_toArray, List.getElem?_cons_zero, List.getElem?_cons_succ]; first | done | rfl
    case hyD13 => exact Or.inl ⟨by rfl, by intro V hV; obtain ⟨s0, s1, s2, s3, s4, s5, s6, s7⟩ := hV; go_simp⟩
    try simp only [Act.put, List.setIfInBounds_toArray, List.set_cons_zero, List.set_cons_succ]
    refine wpAnyH_take (i := 14) (oi := ?oD14) (v := .bool false) ?hiD14 (by kernel_rfl) (by kernel_rfl) (by kernel_rfl) (fun _ _ _ h => h) ?hyD14 hHeldc ?restD14
    case hiD14 => simp only [List.getElem?_toArray, List.getElem?_cons_zero, List.getElem?_cons_succ]; first | done | rfl
    case hyD14 => exact Or.inl ⟨by rfl, by intro V hV; obtain ⟨s0, s1, s2, s3, s4, s5, s6, s7⟩ := hV; go_simp⟩
    try simp only [Act.put, List.setIfInBounds_toArray, List.set_cons_zero, List.set_cons_succ]
    refine wpAnyH_take (i := 15) (oi := ?oD15) (v := .pointer (some ⟨J, 4, none⟩)) ?hiD15 (by kernel_rfl) (by kernel_rfl) (by kernel_rfl) (fun _ _ _ h => h) ?hyD15 hHeldc ?restD15
    case hiD15 => simp only [List.getElem?_toArray, List.getElem?_cons_zero, List.getElem?_cons_succ]; first | done | rfl
    case hyD15 => exact Or.inl ⟨by rfl, by intro V hV; obtain ⟨s0, s1, s2, s3, s4, s5, s6, s7⟩ := hV; go_simp⟩
    try simp only [Act.put, List.setIfInBounds_toArray, List.set_cons_zero, List.set_cons_succ]
    refine wpAnyH_take (i := 16) (oi := ?oD16) (v := .slice (some ⟨gs, 0, none⟩) ls.length es) ?hiD16 (by kernel_rfl) (by kernel_rfl) (by kernel_rfl) (fun _ _ _ h => h) ?hyD16 hHeldc ?restD16
    case hiD16 => simp only [List.getElem?_toArray, List.getElem?_cons_zero, List.getElem?_cons_succ]; first | done | rfl
    case hyD16 => exact Or.inl ⟨by rfl, by intro V hV; obtain ⟨s0, s1, s2, s3, s4, s5, s6, s7⟩ := hV; go_simp⟩
    try simp only [Act.put, List.setIfInBounds_toArray, List.set_cons_zero, List.set_cons_succ]
    refine wpAnyH_take (i := 17) (oi := ?oD17) (v := .pointer (some ⟨J + 1, 1, none⟩)) ?hiD17 (by kernel_rfl) (by kernel_rfl) (by kernel_rfl) (fun _ _ _ h => h) ?hyD17 hHeldc ?restD17
    case hiD17 => simp only [List.getElem?_toArray, List.getElem?_cons_zero, List.getElem?_cons_succ]; first | done | rfl
    case hyD17 => exact Or.inl ⟨by rfl, by intro V hV; obtain ⟨s0, s1, s2, s3, s4, s5, s6, s7⟩ := hV; go_simp⟩
    try simp only [Act.put, List.setIfInBounds_toArray, List.set_cons_zero, List.set_cons_succ]
    refine wpAnyH_take (i := 18) (oi := ?oD18) (v := .int .i64 (PI : Int)) ?hiD18 (by kernel_rfl) (by kernel_rfl) (by kernel_rfl) (fun _ _ _ h => h) ?hyD18 hHeldc ?restD18
    case hiD18 => simp only [List.getElem?_toArray, List.getElem?_cons_zero, List.getElem?_cons_succ]; first | done | rfl
    case hyD18 => exact Or.inl ⟨by rfl, by intro V hV; obtain ⟨s0, s1, s2, s3, s4, s5, s6, s7⟩ := hV; go_simp⟩
    try simp only [Act.put, List.setIfInBounds_toArray, List.set_cons_zero, List.set_cons_succ]
    refine wpAnyH_take (i := 19) (oi := ?oD19) (v := .pointer (some ⟨gs, PI, none⟩)) ?hiD19 (by kernel_rfl) (by kernel_rfl) (by kernel_rfl) (fun _ _ _ h => h) ?hyD19 hHeldc ?restD19
    case hiD19 => simp only [List.getElem?_toArray, List.getElem?_cons_zero, List.getElem?_cons_succ]; first | done | rfl
    case hyD19 => exact Or.inl ⟨by rfl, by intro V hV; obtain ⟨s0, s1, s2, s3, s4, s5, s6, s7⟩ := hV; go_simp⟩
    try simp only [Act.put, List.setIfInBounds_toArray, List.set_cons_zero, List.set_cons_succ]
    refine wpAnyH_take (i := 20) (oi := ?oD20) (v := .int .i64 Sv) ?hiD20 (by kernel_rfl) (by kernel_rfl) (by kernel_rfl) (fun _ _ _ h => h) ?hyD20 hHeldc ?restD20
    case hiD20 => simp only [List.getElem?_toArray, List.getElem?_cons_zero, List.getElem?_cons_succ]; first | done | rfl
    case hyD20 => exact Or.inl ⟨by rfl, by intro V hV; obtain ⟨s0, s1, s2, s3, s4, s5, s6, s7⟩ := hV; go_simp⟩
    try simp only [Act.put, List.setIfInBounds_toArray, List.set_cons_zero, List.set_cons_succ]
    refine wpAnyH_take (i := 21) (oi := ?oD21) (v := .pointer (some ⟨J + 1, 4, none⟩)) ?hiD21 (by kernel_rfl) (by kernel_rfl) (by kernel_rfl) (fun _ _ _ h => h) ?hyD21 hHeldc ?restD21
    case hiD21 => simp only [List.getElem?_toArray, List.getElem?_cons_zero, List.getElem?_cons_succ]; first | done | rfl
    case hyD21 => exact Or.inl ⟨by rfl, by intro V hV; obtain ⟨s0, s1, s2, s3, s4, s5, s6, s7⟩ := hV; go_simp⟩
    try simp only [Act.put, List.setIfInBounds_toArray, List.set_cons_zero, List.set_cons_succ]
    refine wpAnyH_take (i := 22) (oi := ?oD22) (v := .int .i64 da) ?hiD22 (by kernel_rfl) (by kernel_rfl) (by kernel_rfl) (fun _ _ _ h => h) ?hyD22 hHeldc ?restD22
    case hiD22 => simp only [List.getElem?_toArray, List.getElem?_cons_zero, List.getElem?_cons_succ]; first | done | rfl
    case hyD22 => exact Or.inl ⟨by rfl, by intro V hV; obtain ⟨s0, s1, s2, s3, s4, s5, s6, s7⟩ := hV; go_simp⟩
    try simp only [Act.put, List.setIfInBounds_toArray, List.set_cons_zero, List.set_cons_succ]
    refine wpAnyH_ready (rs := [23]) (by kernel_rfl) (by simp) ?_
    refine AllReadyH.cons (o := ?oD23) ?hiD23 (fun K hK => ?stepD23) AllReadyH.nil
    case hiD23 => simp only [List.getElem?_toArray, List.getElem?_cons_zero, List.getElem?_cons_succ]; first | done | rfl
    go_simp
    go_at_call 37
    refine (HKD.out _).mono ?_
    rintro e w3 ⟨rfl, hb3⟩
    go_wp2_with fail
    refine hK.out _ _ (k7_call hHeldc hb3) (fun hHeld2 => ?_)
    clear hK K
    try simp only [Act.put, List.setIfInBounds_toArray, List.set_cons_zero, List.set_cons_succ]
    refine wpAnyH_take (i := 24) (oi := ?oD24) (v := .int .i64 P) ?hiD24 (by kernel_rfl) (by kernel_rfl) (by kernel_rfl) (fun _ _ _ h => h) ?hyD24 hHeld2 ?restD24
    case hiD24 => simp only [List.getElem?_toArray, List.getElem?_cons_zero, List.getElem?_cons_succ]; first | done | rfl
    case hyD24 => exact Or.inl ⟨by rfl, by intro V hV; obtain ⟨s0, s1, s2, s3, s4, s5, s6, s7⟩ := hV; go_simp⟩
    try simp only [Act.put, List.setIfInBounds_toArray, List.set_cons_zero, List.set_cons_succ]
    refine wpAnyH_take (i := 25) (oi := ?oD25) (v := .bool false) ?hiD25 (by kernel_rfl) (by kernel_rfl) (by kernel_rfl) (fun _ _ _ h => h) ?hyD25 hHeld2 ?restD25
    case hiD25 => simp only [List.getElem?_toArray, List.getElem?_cons_zero, List.getElem?_cons_succ]; first | done | rfl
    case hyD25 => exact Or.inl ⟨by rfl, by intro V hV; obtain ⟨s0, s1, s2, s3, s4, s5, s6, s7⟩ := hV; go_simp⟩
    try simp only [Act.put, List.setIfInBounds_toArray, List.set_cons_zero, List.set_cons_succ]
    refine wpAnyH_take (i := 26) (oi := ?oD26) (v := .bool false) ?hiD26 (by kernel_rfl) (by kernel_rfl) (by kernel_rfl) (fun _ _ _ h => h) ?hyD26 hHeld2 ?restD26
    case hiD26 => simp only [List.getElem?_toArray, List.getElem?_cons_zero, List.getElem?_cons_succ]; first | done | rfl
    case hyD26 => exact Or.inl ⟨by rfl, by intro V hV; obtain ⟨s0, s1, s2, s3, s4, s5, s6, s7⟩ := hV; go_simp⟩
    try simp only [Act.put, List.setIfInBounds_toArray, List.set_cons_zero, List.set_cons_succ]
    refine wpAnyH_take (i := 27) (oi := ?oD27) (v := .bool false) ?hiD27 (by kernel_rfl) (by kernel_rfl) (by kernel_rfl) (fun _ _ _ h => h) ?hyD27 hHeld2 ?restD27
    case hiD27 => simp only [List.getElem?_toArray, List.getElem?_cons_zero, List.getElem?_cons_succ]; first | done | rfl
    case hyD27 => exact Or.inl ⟨by rfl, by intro V hV; obtain ⟨s0, s1, s2, s3, s4, s5, s6, s7⟩ := hV; go_simp⟩
    try simp only [Act.put, List.setIfInBounds_toArray, List.set_cons_zero, List.set_cons_succ]
    refine wpAnyH_take (i := 28) (oi := ?oD28) (v := .pointer (some ⟨J, 6, none⟩)) ?hiD28 (by kernel_rfl) (by kernel_rfl) (by kernel_rfl) (fun _ _ _ h => h) ?hyD28 hHeld2 ?restD28
    case hiD28 => simp only [List.getElem?_toArray, List.getElem?_cons_zero, List.getElem?_cons_succ]; first | done | rfl
    case hyD28 => exact Or.inl ⟨by rfl, by intro V hV; obtain ⟨s0, s1, s2, s3, s4, s5, s6, s7⟩ := hV; go_simp⟩
    try simp only [Act.put, List.setIfInBounds_toArray, List.set_cons_zero, List.set_cons_succ]
    refine wpAnyH_take (i := 29) (oi := ?oD29) (v := .slice qt lt.length et) ?hiD29 (by kernel_rfl) (by kernel_rfl) (by kernel_rfl) (fun _ _ _ h => h) ?hyD29 hHeld2 ?restD29
    case hiD29 => simp only [List.getElem?_toArray, List.getElem?_cons_zero, List.getElem?_cons_succ]; first | done | rfl
    case hyD29 => exact Or.inl ⟨by rfl, by intro V hV; obtain ⟨s0, s1, s2, s3, s4, s5, s6, s7⟩ := hV; go_simp⟩
    try simp only [Act.put, List.setIfInBounds_toArray, List.set_cons_zero, List.set_cons_succ]
    refine wpAnyH_take (i := 30) (oi := ?oD30) (v := .int .i64 (lt.length : Int)) ?hiD30 (by kernel_rfl) (by kernel_rfl) (by kernel_rfl) (fun _ _ _ h => h) ?hyD30 hHeld2 ?restD30
    case hiD30 => simp only [List.getElem?_toArray, List.getElem?_cons_zero, List.getElem?_cons_succ]; first | done | rfl
    case hyD30 => exact Or.inl ⟨by rfl, by intro V hV; obtain ⟨s0, s1, s2, s3, s4, s5, s6, s7⟩ := hV; go_simp⟩
    try simp only [Act.put, List.setIfInBounds_toArray, List.set_cons_zero, List.set_cons_succ]
    refine wpAnyH_take (i := 31) (oi := ?oD31) (v := .bool true) ?hiD31 (by kernel_rfl) (by kernel_rfl) (by kernel_rfl) (fun _ _ _ h => h) ?hyD31 hHeld2 ?restD31
    case hiD31 => simp only [List.getElem?_toArray, List.getElem?_cons_zero, List.getElem?_cons_succ]; first | done | rfl
    case hyD31 => exact Or.inl ⟨by rfl, by intro V hV; obtain ⟨s0, s1, s2, s3, s4, s5, s6, s7⟩ := hV; go_simp⟩
    try simp only [Act.put, List.setIfInBounds_toArray, List.set_cons_zero, List.set_cons_succ]
    refine wpAnyH_take (i := 32) (oi := ?oD32) (v := .bool true) ?hiD32 (by kernel_rfl) (by kernel_rfl) (by kernel_rfl) (fun _ _ _ h => h) ?hyD32 hHeld2 ?restD32
    case hiD32 => simp only [List.getElem?_toArray, List.getElem?_cons_zero, List.getElem?_cons_succ]; first | done | rfl
    case hyD32 => exact Or.inl ⟨by rfl, by intro V hV; obtain ⟨s0, s1, s2, s3, s4, s5, s6, s7⟩ := hV; go_simp⟩
    try simp only [Act.put, List.setIfInBounds_toArray, List.set_cons_zero, List.set_cons_succ]
    refine wpAnyH_take (i := 33) (oi := ?oD33) (v := .bool true) ?hiD33 (by kernel_rfl) (by kernel_rfl) (by kernel_rfl) (fun _ _ _ h => h) ?hyD33 hHeld2 ?restD33
    case hiD33 => simp only [List.getElem?_toArray, List.getElem?_cons_zero, List.getElem?_cons_succ]; first | done | rfl
    case hyD33 => exact Or.inl ⟨by rfl, by intro V hV; obtain ⟨s0, s1, s2, s3, s4, s5, s6, s7⟩ := hV; go_simp⟩
    try simp only [Act.put, List.setIfInBounds_toArray, List.set_cons_zero, List.set_cons_succ]
    refine wpAnyH_take (i := 34) (oi := ?oD34) (v := undef) ?hiD34 (by kernel_rfl) (by kernel_rfl) (by kernel_rfl) (fun _ _ _ h => h) ?hyD34 hHeld2 ?restD34
    case hiD34 => simp only [List.getElem?_toArray, List.getElem?_cons_zero, List.getElem?_cons_succ]; first | done | rfl
    case hyD34 => exact Or.inr ⟨by rfl, rfl⟩
    try simp only [Act.put, List.setIfInBounds_toArray, List.set_cons_zero, List.set_cons_succ]
    refine wpAnyH_take (i := 35) (oi := ?oD35) (v := undef) ?hiD35 (by kernel_rfl) (by kernel_rfl) (by kernel_rfl) (fun _ _ _ h => h) ?hyD35 hHeld2 ?restD35
    case hiD35 => simp only [List.getElem?_toArray, List.getElem?_cons_zero, List.getElem?_cons_succ]; first | done | rfl
    case hyD35 => exact Or.inr ⟨by rfl, rfl⟩
    try simp only [Act.put, List.setIfInBounds_toArray, List.set_cons_zero, List.set_cons_succ]
    refine wpAnyH_take (i := 36) (oi := ?oD36) (v := undef) ?hiD36 (by kernel_rfl) (by kernel_rfl) (by kernel_rfl) (fun _ _ _ h => h) ?hyD36 hHeld2 ?restD36
    case hiD36 => simp only [List.getElem?_toArray, List.getElem?_cons_zero, List.getElem?_cons_succ]; first | done | rfl
    case hyD36 => exact Or.inr ⟨by rfl, rfl⟩
    try simp only [Act.put, List.setIfInBounds_toArray, List.set_cons_zero, List.set_cons_succ]
    refine wpAnyH_take (i := 37) (oi := ?oD37) (v := .bool true) ?hiD37 (by kernel_rfl) (by kernel_rfl) (by kernel_rfl) (fun _ _ _ h => h) ?hyD37 hHeld2 ?restD37
    case hiD37 => simp only [List.getElem?_toArray, List.getElem?_cons_zero, List.getElem?_cons_succ]; first | done | rfl
    case hyD37 => exact Or.inl ⟨by rfl, by intro V hV; obtain ⟨s0, s1, s2, s3, s4, s5, s6, s7⟩ := hV; go_simp⟩
    try simp only [Act.put, List.setIfInBounds_toArray, List.set_cons_zero, List.set_cons_succ]
    refine wpAnyH_done (by kernel_rfl) ?_ _
    refine NoPanic.normal ?_
    have hb3 : Below w2.heap.size w2 w3 := hHeld2.1
    have HSIT3 : Hid (sit (J + 1 + 1 + 1) J (J + 1) (J + 1 + 1) w3 ⟨A, B, p, n, c, l, pb, nb, cb, lb, (some ⟨gs, 0, none⟩), ls.length, es, ls, qm, lm.length, em, lm, qt, lt.length, et, lt, N, T⟩ ⟨3, (PI : Int), dx, dy, da⟩) := sit_below HSIT.out (hb3)
    have HB3 : Hid (Below w.heap.size w w3) := below_call HB2.out HB2.out.size (hb3)
    clear z0 z1 z2 z3 z4 z5 z6 z7 z8 q0 q1 q2 q3 q4
    clear hb3
    clear s1 kf
    obtain ⟨ra, rb, rc, rd, re, rf, rg, rh, ri, hrr⟩ := HSIT3.out.r
    obtain ⟨u9, hu9⟩ : ∃ u9, (((((((((w3.setCell ⟨J + 1 + 1, 0, none⟩ (.int .i64 A)).setCell ⟨J + 1 + 1, 1, none⟩ (.int .i64 B)).setCell ⟨J + 1 + 1, 2, none⟩ (.slice p n c)).setCell ⟨J + 1 + 1, 3, none⟩ (.slice pb nb cb)).setCell ⟨J + 1 + 1, 4, none⟩ (.slice (some ⟨gs, 0, none⟩) ls.length es)).setCell ⟨J + 1 + 1, 5, none⟩ (.slice qm lm.length em)).setCell ⟨J + 1 + 1, 6, none⟩ (.slice qt lt.length et)).setCell ⟨J + 1 + 1, 7, none⟩ (.int .i64 N)).setCell ⟨J + 1 + 1, 8, none⟩ (.int .i64 T)) = u9 := ⟨_, rfl⟩
    obtain ⟨x9, e9⟩ := set9 hrr hu9.symm
    have HF9 : Hid (sown w.heap.size u9 ⟨A, B, p, n, c, l, pb, nb, cb, lb, (some ⟨gs, 0, none⟩), ls.length, es, ls, qm, lm.length, em, lm, qt, lt.length, et, lt, N, T⟩ ∧ Below w.heap.size w u9) := ⟨sown_mono (sown_ex HSIT3.out.o e9 (by intro g hg; omega)) (by have := HS0.out.2; omega), HB3.out.trans (e9.below HB3.out.size (by intro k hk; have := HS0.out.2; omega))⟩
    obtain ⟨y0, y1, y2, y3, y4, y5, y6, y7, y8⟩ := bx9_c9 x9
    obtain ⟨o0, o1, o2, o3, o4, o5, o6, o7, o8⟩ := bx9_c9 hrr
    have fr0 := bx9_free hrr 0
    have fr1 := bx9_free hrr 1
    have fr2 := bx9_free hrr 2
    have fr3 := bx9_free hrr 3
    have fr4 := bx9_free hrr 4
    have fr5 := bx9_free hrr 5
    have fr6 := bx9_free hrr 6
    have fr7 := bx9_free hrr 7
    have fr8 := bx9_free hrr 8
    obtain ⟨z0, z1, z2, z3, z4, z5, z6, z7, z8⟩ := bx9_c9 HSIT3.out.x
    clear hrr x9 e9
    go_wp2_with fail
    refine ⟨by simp, .tuple #[.agg #[.int .i64 A, .int .i64 B, .slice p n c, .slice pb nb cb, .slice (some ⟨gs, 0, none⟩) ls.length es, .slice qm lm.length em, .slice qt lt.length et, .int .i64 N, .int .i64 T], .bool false], ?_, ⟨⟨A, B, p, n, c, l, pb, nb, cb, lb, (some ⟨gs, 0, none⟩), ls.length, es, ls, qm, lm.length, em, lm, qt, lt.length, et, lt, N, T⟩, false, rfl, ⟨rfl, rfl, rfl, rfl, rfl, rfl, rfl, rfl, rfl, rfl, rfl⟩, ?_, ds_make rfl (.inr ⟨rfl, rfl, fun c h _ => HNO.out h⟩)⟩, ?_⟩
    · simp [results, Try.results38, go_sem, y0, y1, y2, y3, y4, y5, y6, y7, y8]
    · first | exact HF9.out.1 | (rw [← HS0.out.2]; exact HF9.out.1)
    · first | exact HF9.out.2 | (rw [← HS0.out.2]; exact HF9.out.2)
  have d2 : decide ((99 : Int) < (lt.length : Int)) = false := by simp; omega
  have d2b : decide (99 < lt.length) = false := by simp; omega
  have hE : 999999 < N := by
    have h1 := HNO.out
    have h2 := HDA.out
    have h3 := HL.out.2
    have h4 : ls.getD PI 0 = Sv := HSV.out
    have h6 := HNB.out.1
    have h7 := HPL.out
    apply Classical.byContradiction
    intro h5
    apply h1
    refine ⟨h2, by omega, by omega, ?_, ?_, ?_⟩
    · rw [h3, Int.toNat_natCast]
      show P ≤ ls.getD PI 0
      rw [h4]; omega
    · show lt.length < 100
      omega
    · show N < 1000000
      omega
  have d3 : decide (999999 < N) = true := by simp [hE]
  go_wp2_with fail
  refine wp_region_noPanic ?_
  refine wp_region_held_drew (S := (fun U => Below w2.heap.size w2 U ∧ U.cell? ⟨J + 1, 1, none⟩ = some (.int .i64 (PI : Int)) ∧ U.cell? ⟨J, 3, none⟩ = some (.slice pb nb cb) ∧ U.cell? ⟨J + 1, 4, none⟩ = some (.int .i64 da) ∧ U.cell? ⟨J, 4, none⟩ = some (.slice (some ⟨gs, 0, none⟩) ls.length es) ∧ U.cell? ⟨J, 6, none⟩ = some (.slice qt lt.length et) ∧ U.cell? ⟨J, 7, none⟩ = some (.int .i64 N) ∧ U.cell? ⟨gs, PI, none⟩ = some (.int .i64 Sv))) (by kernel_rfl) ⟨Below.drew (Below.refl _ _), q1, z3, q4, z4, z6, z7, s1⟩ (fun hHeld => ?_)
  refine wpAnyH_take (i := 0) (oi := ?oE0) (v := .pointer (some ⟨J + 1, 1, none⟩)) ?hiE0 (by kernel_rfl) (by kernel_rfl) (by kernel_rfl) (fun _ _ _ h => h) ?hyE0 hHeld ?restE0
  case hiE0 => simp only [List.getElem?_toArray, List.getElem?_cons_zero]; first | done | rfl
  case hyE0 => exact Or.inl ⟨by rfl, by intro V hV; obtain ⟨s0, s1, s2, s3, s4, s5, s6, s7⟩ := hV; go_simp⟩
  try simp only [Act.put, List.setIfInBounds_toArray, List.set_cons_zero, List.set_cons_succ]
  refine wpAnyH_take (i := 1) (oi := ?oE1) (v := .int .i64 (PI : Int)) ?hiE1 (by kernel_rfl) (by kernel_rfl) (by kernel_rfl) (fun _ _ _ h => h) ?hyE1 hHeld ?restE1
  case hiE1 => simp only [List.getElem?_toArray, List.getElem?_cons_zero, List.getElem?_cons_succ]; first | done | rfl
  case hyE1 => exact Or.inl ⟨by rfl, by intro V hV; obtain ⟨s0, s1, s2, s3, s4, s5, s6, s7⟩ := hV; go_simp⟩
  try simp only [Act.put, List.setIfInBounds_toArray, List.set_cons_zero, List.set_cons_succ]
  refine wpAnyH_take (i := 2) (oi := ?oE2) (v := .pointer (some ⟨J, 3, none⟩)) ?hiE2 (by kernel_rfl) (by kernel_rfl) (by kernel_rfl) (fun _ _ _ h => h) ?hyE2 hHeld ?restE2
  case hiE2 => simp only [List.getElem?_toArray, List.getElem?_cons_zero, List.getElem?_cons_succ]; first | done | rfl
  case hyE2 => exact Or.inl ⟨by rfl, by intro V hV; obtain ⟨s0, s1, s2, s3, s4, s5, s6, s7⟩ := hV; go_simp⟩
  try simp only [Act.put, List.setIfInBounds_toArray, List.set_cons_zero, List.set_cons_succ]
  refine wpAnyH_take (i := 3) (oi := ?oE3) (v := .slice pb nb cb) ?hiE3 (by kernel_rfl) (by kernel_rfl) (by kernel_rfl) (fun _ _ _ h => h) ?hyE3 hHeld ?restE3
  case hiE3 => simp only [List.getElem?_toArray, List.getElem?_cons_zero, List.getElem?_cons_succ]; first | done | rfl
  case hyE3 => exact Or.inl ⟨by rfl, by intro V hV; obtain ⟨s0, s1, s2, s3, s4, s5, s6, s7⟩ := hV; go_simp⟩
  try simp only [Act.put, List.setIfInBounds_toArray, List.set_cons_zero, List.set_cons_succ]
  refine wpAnyH_take (i := 4) (oi := ?oE4) (v := .int .i64 (nb : Int)) ?hiE4 (by kernel_rfl) (by kernel_rfl) (by kernel_rfl) (fun _ _ _ h => h) ?hyE4 hHeld ?restE4
  case hiE4 => simp only [List.getElem?_toArray, List.getElem?_cons_zero, List.getElem?_cons_succ]; first | done | rfl
  case hyE4 => exact Or.inl ⟨by rfl, by intro V hV; obtain ⟨s0, s1, s2, s3, s4, s5, s6, s7⟩ := hV; go_simp⟩
  try simp only [Act.put, List.setIfInBounds_toArray, List.set_cons_zero, List.set_cons_succ]
  refine wpAnyH_take (i := 5) (oi := ?oE5) (v := .int .i64 ((nb : Int) - 1)) ?hiE5 (by kernel_rfl) (by kernel_rfl) (by kernel_rfl) (fun _ _ _ h => h) ?hyE5 hHeld ?restE5
  case hiE5 => simp only [List.getElem?_toArray, List.getElem?_cons_zero, List.getElem?_cons_succ]; first | done | rfl
  case hyE5 => exact Or.inl ⟨by rfl, by intro V hV; obtain ⟨s0, s1, s2, s3, s4, s5, s6, s7⟩ := hV; go_simp⟩
  try simp only [Act.put, List.setIfInBounds_toArray, List.set_cons_zero, List.set_cons_succ]
  refine wpAnyH_ready (rs := [6]) (by kernel_rfl) (by simp) ?_
  refine AllReadyH.cons (o := ?oE6) ?hiE6 (fun K hK => ?stepE6) AllReadyH.nil
  case hiE6 => simp only [List.getElem?_toArray, List.getElem?_cons_zero, List.getElem?_cons_succ]; first | done | rfl
  go_simp
  go_at_call 35
  refine (Between_at (PI : Int) 0 ((nb : Int) - 1) true _ HC1).mono ?_
  rintro e w3 ⟨rfl, rfl⟩
  go_wp2_with fail
  refine hK.out _ _ hHeld (fun hHeldb => ?_)
  clear hK K
  try simp only [Act.put, List.setIfInBounds_toArray, List.set_cons_zero, List.set_cons_succ]
  refine wpAnyH_take (i := 7) (oi := ?oE7) (v := .bool false) ?hiE7 (by kernel_rfl) (by kernel_rfl) (by kernel_rfl) (fun _ _ _ h => h) ?hyE7 hHeldb ?restE7
  case hiE7 => simp only [List.getElem?_toArray, List.getElem?_cons_zero, List.getElem?_cons_succ]; first | done | rfl
  case hyE7 => exact Or.inl ⟨by rfl, by intro V hV; obtain ⟨s0, s1, s2, s3, s4, s5, s6, s7⟩ := hV; go_simp⟩
  try simp only [Act.put, List.setIfInBounds_toArray, List.set_cons_zero, List.set_cons_succ]
  refine wpAnyH_take (i := 8) (oi := ?oE8) (v := .bool false) ?hiE8 (by kernel_rfl) (by kernel_rfl) (by kernel_rfl) (fun _ _ _ h => h) ?hyE8 hHeldb ?restE8
  case hiE8 => simp only [List.getElem?_toArray, List.getElem?_cons_zero, List.getElem?_cons_succ]; first | done | rfl
  case hyE8 => exact Or.inl ⟨by rfl, by intro V hV; obtain ⟨s0, s1, s2, s3, s4, s5, s6, s7⟩ := hV; go_simp⟩
  try simp only [Act.put, List.setIfInBounds_toArray, List.set_cons_zero, List.set_cons_succ]
  refine wpAnyH_take (i := 9) (oi := ?oE9) (v := .pointer (some ⟨J + 1, 4, none⟩)) ?hiE9 (by kernel_rfl) (by kernel_rfl) (by kernel_rfl) (fun _ _ _ h => h) ?hyE9 hHeldb ?restE9
  case hiE9 => simp only [List.getElem?_toArray, List.getElem?_cons_zero, List.getElem?_cons_succ]; first | done | rfl
  case hyE9 => exact Or.inl ⟨by rfl, by intro V hV; obtain ⟨s0, s1, s2, s3, s4, s5, s6, s7⟩ := hV; go_simp⟩
  try simp only [Act.put, List.setIfInBounds_toArray, List.set_cons_zero, List.set_cons_succ]
  refine wpAnyH_take (i := 10) (oi := ?oE10) (v := .int .i64 da) ?hiE10 (by kernel_rfl) (by kernel_rfl) (by kernel_rfl) (fun _ _ _ h => h) ?hyE10 hHeldb ?restE10
  case hiE10 => simp only [List.getElem?_toArray, List.getElem?_cons_zero, List.getElem?_cons_succ]; first | done | rfl
  case hyE10 => exact Or.inl ⟨by rfl, by intro V hV; obtain ⟨s0, s1, s2, s3, s4, s5, s6, s7⟩ := hV; go_simp⟩
  try simp only [Act.put, List.setIfInBounds_toArray, List.set_cons_zero, List.set_cons_succ]
  refine wpAnyH_ready (rs := [11]) (by kernel_rfl) (by simp) ?_
  refine AllReadyH.cons (o := ?oE11) ?hiE11 (fun K hK => ?stepE11) AllReadyH.nil
  case hiE11 => simp only [List.getElem?_toArray, List.getElem?_cons_zero, List.getElem?_cons_succ]; first | done | rfl
  go_simp
  go_at_call 35
  refine (Between_at da 1 2 true _ HC2).mono ?_
  rintro e w3 ⟨rfl, rfl⟩
  go_wp2_with fail
  refine hK.out _ _ hHeldb (fun hHeldc => ?_)
  clear hK K
  try simp only [Act.put, List.setIfInBounds_toArray, List.set_cons_zero, List.set_cons_succ]
  refine wpAnyH_take (i := 12) (oi := ?oE12) (v := .bool false) ?hiE12 (by kernel_rfl) (by kernel_rfl) (by kernel_rfl) (fun _ _ _ h => h) ?hyE12 hHeldc ?restE12
  case hiE12 => simp only [List.getElem?_toArray, List.getElem?_cons_zero, List.getElem?_cons_succ]; first | done | rfl
  case hyE12 => exact Or.inl ⟨by rfl, by intro V hV; obtain ⟨s0, s1, s2, s3, s4, s5, s6, s7⟩ := hV; go_simp⟩
  try simp only [Act.put, List.setIfInBounds_toArray, List.set_cons_zero, List.set_cons_succ]
  refine wpAnyH_take (i := 13) (oi := ?oE13) (v := .bool false) ?hiE13 (by kernel_rfl) (by kernel_rfl) (by kernel_rfl) (fun _ _ _ h => h) ?hyE13 hHeldc ?restE13
  case hiE13 => simp only [List.getElem?_toArray, List.getElem?_cons_zero, List.getElem?_cons_succ]; first | done | rfl
  case hyE13 => exact Or.inl ⟨by rfl, by intro V hV; obtain ⟨s0, s1, s2, s3, s4, s5, s6, s7⟩ := hV; go_simp⟩
  try simp only [Act.put, List.setIfInBounds_toArray, List.set_cons_zero, List.set_cons_succ]
  refine wpAnyH_take (i := 14) (oi := ?oE14) (v := .bool false) ?hiE14 (by kernel_rfl) (by kernel_rfl) (by kernel_rfl) (fun _ _ _ h => h) ?hyE14 hHeldc ?restE14
  case hiE14 => simp only [List.getElem?_toArray, List.getElem?_cons_zero, List.getElem?_cons_succ]; first | done | rfl
  case hyE14 => exact Or.inl ⟨by rfl, by intro V hV; obtain ⟨s0, s1, s2, s3, s4, s5, s6, s7⟩ := hV; go_simp⟩
  try simp only [Act.put, List.setIfInBounds_toArray, List.set_cons_zero, List.set_cons_succ]
  refine wpAnyH_take (i := 15) (oi := ?oE15) (v := .pointer (some ⟨J, 4, none⟩)) ?hiE15 (by kernel_rfl) (by kernel_rfl) (by kernel_rfl) (fun _ _ _ h => h) ?hyE15 hHeldc ?restE15
  case hiE15 => simp only [List.getElem?_toArray, List.getElem?_cons_zero, List.getElem?_cons_succ]; first | done | rfl
  case hyE15 => exact Or.inl ⟨by rfl, by intro V hV; obtain ⟨s0, s1, s2, s3, s4, s5, s6, s7⟩ := hV; go_simp⟩
  try simp only [Act.put, List.setIfInBounds_toArray, List.set_cons_zero, List.set_cons_succ]
  refine wpAnyH_take (i := 16) (oi := ?oE16) (v := .slice (some ⟨gs, 0, none⟩) ls.length es) ?hiE16 (by kernel_rfl) (by kernel_rfl) (by kernel_rfl) (fun _ _ _ h => h) ?hyE16 hHeldc ?restE16
  case hiE16 => simp only [List.getElem?_toArray, List.getElem?_cons_zero, List.getElem?_cons_succ]; first | done | rfl
  case hyE16 => exact Or.inl ⟨by rfl, by intro V hV; obtain ⟨s0, s1, s2, s3, s4, s5, s6, s7⟩ := hV; go_simp⟩
  try simp only [Act.put, List.setIfInBounds_toArray, List.set_cons_zero, List.set_cons_succ]
  refine wpAnyH_take (i := 17) (oi := ?oE17) (v := .pointer (some ⟨J + 1, 1, none⟩)) ?hiE17 (by kernel_rfl) (by kernel_rfl) (by kernel_rfl) (fun _ _ _ h => h) ?hyE17 hHeldc ?restE17
  case hiE17 => simp only [List.getElem?_toArray, List.getElem?_cons_zero, List.getElem?_cons_succ]; first | done | rfl
  case hyE17 => exact Or.inl ⟨by rfl, by intro V hV; obtain ⟨s0, s1, s2, s3, s4, s5, s6, s7⟩ := hV; go_simp⟩
  try simp only [Act.put, List.setIfInBounds_toArray, List.set_cons_zero, List.set_cons_succ]
  refine wpAnyH_take (i := 18) (oi := ?oE18) (v := .int .i64 (PI : Int)) ?hiE18 (by kernel_rfl) (by kernel_rfl) (by kernel_rfl) (fun _ _ _ h => h) ?hyE18 hHeldc ?restE18
  case hiE18 => simp only [List.getElem?_toArray, List.getElem?_cons_zero, List.getElem?_cons_succ]; first | done | rfl
  case hyE18 => exact Or.inl ⟨by rfl, by intro V hV; obtain ⟨s0, s1, s2, s3, s4, s5, s6, s7⟩ := hV; go_simp⟩
  try simp only [Act.put, List.setIfInBounds_toArray, List.set_cons_zero, List.set_cons_succ]
  refine wpAnyH_take (i := 19) (oi := ?oE19) (v := .pointer (some ⟨gs, PI, none⟩)) ?hiE19 (by kernel_rfl) (by kernel_rfl) (by kernel_rfl) (fun _ _ _ h => h) ?hyE19 hHeldc ?restE19
  case hiE19 => simp only [List.getElem?_toArray, List.getElem?_cons_zero, List.getElem?_cons_succ]; first | done | rfl
  case hyE19 => exact Or.inl ⟨by rfl, by intro V hV; obtain ⟨s0, s1, s2, s3, s4, s5, s6, s7⟩ := hV; go_simp⟩
  try simp only [Act.put, List.setIfInBounds_toArray, List.set_cons_zero, List.set_cons_succ]
  refine wpAnyH_take (i := 20) (oi := ?oE20) (v := .int .i64 Sv) ?hiE20 (by kernel_rfl) (by kernel_rfl) (by kernel_rfl) (fun _ _ _ h => h) ?hyE20 hHeldc ?restE20
  case hiE20 => simp only [List.getElem?_toArray, List.getElem?_cons_zero, List.getElem?_cons_succ]; first | done | rfl
  case hyE20 => exact Or.inl ⟨by rfl, by intro V hV; obtain ⟨s0, s1, s2, s3, s4, s5, s6, s7⟩ := hV; go_simp⟩
  try simp only [Act.put, List.setIfInBounds_toArray, List.set_cons_zero, List.set_cons_succ]
  refine wpAnyH_take (i := 21) (oi := ?oE21) (v := .pointer (some ⟨J + 1, 4, none⟩)) ?hiE21 (by kernel_rfl) (by kernel_rfl) (by kernel_rfl) (fun _ _ _ h => h) ?hyE21 hHeldc ?restE21
  case hiE21 => simp only [List.getElem?_toArray, List.getElem?_cons_zero, List.getElem?_cons_succ]; first | done | rfl
  case hyE21 => exact Or.inl ⟨by rfl, by intro V hV; obtain ⟨s0, s1, s2, s3, s4, s5, s6, s7⟩ := hV; go_simp⟩
  try simp only [Act.put, List.setIfInBounds_toArray, List.set_cons_zero, List.set_cons_succ]
  refine wpAnyH_take (i := 22) (oi := ?oE22) (v := .int .i64 da) ?hiE22 (by kernel_rfl) (by kernel_rfl) (by kernel_rfl) (fun _ _ _ h => h) ?hyE22 hHeldc ?restE22
  case hiE22 => simp only [List.getElem?_toArray, List.getElem?_cons_zero, List.getElem?_cons_succ]; first | done | rfl
  case hyE22 => exact Or.inl ⟨by rfl, by intro V hV; obtain ⟨s0, s1, s2, s3, s4, s5, s6, s7⟩ := hV; go_simp⟩
  try simp only [Act.put, List.setIfInBounds_toArray, List.set_cons_zero, List.set_cons_succ]
  refine wpAnyH_ready (rs := [23]) (by kernel_rfl) (by simp) ?_
  refine AllReadyH.cons (o := ?oE23) ?hiE23 (fun K hK => ?stepE23) AllReadyH.nil
  case hiE23 => simp only [List.getElem?_toArray, List.getElem?_cons_zero, List.getElem?_cons_succ]; first | done | rfl
  go_simp
  go_at_call 37
  refine (HKD.out _).mono ?_
  rintro e w3 ⟨rfl, hb3⟩
  go_wp2_with fail
  refine hK.out _ _ (k7_call hHeldc hb3) (fun hHeld2 => ?_)
  clear hK K
  try simp only [Act.put, List.setIfInBounds_toArray, List.set_cons_zero, List.set_cons_succ]
  refine wpAnyH_take (i := 24) (oi := ?oE24) (v := .int .i64 P) ?hiE24 (by kernel_rfl) (by kernel_rfl) (by kernel_rfl) (fun _ _ _ h => h) ?hyE24 hHeld2 ?restE24
  case hiE24 => simp only [List.getElem?_toArray, List.getElem?_cons_zero, List.getElem?_cons_succ]; first | done | rfl
  case hyE24 => exact Or.inl ⟨by rfl, by intro V hV; obtain ⟨s0, s1, s2, s3, s4, s5, s6, s7⟩ := hV; go_simp⟩
  try simp only [Act.put, List.setIfInBounds_toArray, List.set_cons_zero, List.set_cons_succ]
  refine wpAnyH_take (i := 25) (oi := ?oE25) (v := .bool false) ?hiE25 (by kernel_rfl) (by kernel_rfl) (by kernel_rfl) (fun _ _ _ h => h) ?hyE25 hHeld2 ?restE25
  case hiE25 => simp only [List.getElem?_toArray, List.getElem?_cons_zero, List.getElem?_cons_succ]; first | done | rfl
  case hyE25 => exact Or.inl ⟨by rfl, by intro V hV; obtain ⟨s0, s1, s2, s3, s4, s5, s6, s7⟩ := hV; go_simp⟩
  try simp only [Act.put, List.setIfInBounds_toArray, List.set_cons_zero, List.set_cons_succ]
  refine wpAnyH_take (i := 26) (oi := ?oE26) (v := .bool false) ?hiE26 (by kernel_rfl) (by kernel_rfl) (by kernel_rfl) (fun _ _ _ h => h) ?hyE26 hHeld2 ?restE26
  case hiE26 => simp only [List.getElem?_toArray, List.getElem?_cons_zero, List.getElem?_cons_succ]; first | done | rfl
  case hyE26 => exact Or.inl ⟨by rfl, by intro V hV; obtain ⟨s0, s1, s2, s3, s4, s5, s6, s7⟩ := hV; go_simp⟩
  try simp only [Act.put, List.setIfInBounds_toArray, List.set_cons_zero, List.set_cons_succ]
  refine wpAnyH_take (i := 27) (oi := ?oE27) (v := .bool false) ?hiE27 (by kernel_rfl) (by kernel_rfl) (by kernel_rfl) (fun _ _ _ h => h) ?hyE27 hHeld2 ?restE27
  case hiE27 => simp only [List.getElem?_toArray, List.getElem?_cons_zero, List.getElem?_cons_succ]; first | done | rfl
  case hyE27 => exact Or.inl ⟨by rfl, by intro V hV; obtain ⟨s0, s1, s2, s3, s4, s5, s6, s7⟩ := hV; go_simp⟩
  try simp only [Act.put, List.setIfInBounds_toArray, List.set_cons_zero, List.set_cons_succ]
  refine wpAnyH_take (i := 28) (oi := ?oE28) (v := .pointer (some ⟨J, 6, none⟩)) ?hiE28 (by kernel_rfl) (by kernel_rfl) (by kernel_rfl) (fun _ _ _ h => h) ?hyE28 hHeld2 ?restE28
  case hiE28 => simp only [List.getElem?_toArray, List.getElem?_cons_zero, List.getElem?_cons_succ]; first | done | rfl
  case hyE28 => exact Or.inl ⟨by rfl, by intro V hV; obtain ⟨s0, s1, s2, s3, s4, s5, s6, s7⟩ := hV; go_simp⟩
  try simp only [Act.put, List.setIfInBounds_toArray, List.set_cons_zero, List.set_cons_succ]
  refine wpAnyH_take (i := 29) (oi := ?oE29) (v := .slice qt lt.length et) ?hiE29 (by kernel_rfl) (by kernel_rfl) (by kernel_rfl) (fun _ _ _ h => h) ?hyE29 hHeld2 ?restE29
  case hiE29 => simp only [List.getElem?_toArray, List.getElem?_cons_zero, List.getElem?_cons_succ]; first | done | rfl
  case hyE29 => exact Or.inl ⟨by rfl, by intro V hV; obtain ⟨s0, s1, s2, s3, s4, s5, s6, s7⟩ := hV; go_simp⟩
  try simp only [Act.put, List.setIfInBounds_toArray, List.set_cons_zero, List.set_cons_succ]
  refine wpAnyH_take (i := 30) (oi := ?oE30) (v := .int .i64 (lt.length : Int)) ?hiE30 (by kernel_rfl) (by kernel_rfl) (by kernel_rfl) (fun _ _ _ h => h) ?hyE30 hHeld2 ?restE30
  case hiE30 => simp only [List.getElem?_toArray, List.getElem?_cons_zero, List.getElem?_cons_succ]; first | done | rfl
  case hyE30 => exact Or.inl ⟨by rfl, by intro V hV; obtain ⟨s0, s1, s2, s3, s4, s5, s6, s7⟩ := hV; go_simp⟩
  try simp only [Act.put, List.setIfInBounds_toArray, List.set_cons_zero, List.set_cons_succ]
  refine wpAnyH_take (i := 31) (oi := ?oE31) (v := .bool false) ?hiE31 (by kernel_rfl) (by kernel_rfl) (by kernel_rfl) (fun _ _ _ h => h) ?hyE31 hHeld2 ?restE31
  case hiE31 => simp only [List.getElem?_toArray, List.getElem?_cons_zero, List.getElem?_cons_succ]; first | done | rfl
  case hyE31 => exact Or.inl ⟨by rfl, by intro V hV; obtain ⟨s0, s1, s2, s3, s4, s5, s6, s7⟩ := hV; go_simp⟩
  try simp only [Act.put, List.setIfInBounds_toArray, List.set_cons_zero, List.set_cons_succ]
  refine wpAnyH_take (i := 32) (oi := ?oE32) (v := .bool false) ?hiE32 (by kernel_rfl) (by kernel_rfl) (by kernel_rfl) (fun _ _ _ h => h) ?hyE32 hHeld2 ?restE32
  case hiE32 => simp only [List.getElem?_toArray, List.getElem?_cons_zero, List.getElem?_cons_succ]; first | done | rfl
  case hyE32 => exact Or.inl ⟨by rfl, by intro V hV; obtain ⟨s0, s1, s2, s3, s4, s5, s6, s7⟩ := hV; go_simp⟩
  try simp only [Act.put, List.setIfInBounds_toArray, List.set_cons_zero, List.set_cons_succ]
  refine wpAnyH_take (i := 33) (oi := ?oE33) (v := .bool false) ?hiE33 (by kernel_rfl) (by kernel_rfl) (by kernel_rfl) (fun _ _ _ h => h) ?hyE33 hHeld2 ?restE33
  case hiE33 => simp only [List.getElem?_toArray, List.getElem?_cons_zero, List.getElem?_cons_succ]; first | done | rfl
  case hyE33 => exact Or.inl ⟨by rfl, by intro V hV; obtain ⟨s0, s1, s2, s3, s4, s5, s6, s7⟩ := hV; go_simp⟩
  try simp only [Act.put, List.setIfInBounds_toArray, List.set_cons_zero, List.set_cons_succ]
  refine wpAnyH_take (i := 34) (oi := ?oE34) (v := .pointer (some ⟨J, 7, none⟩)) ?hiE34 (by kernel_rfl) (by kernel_rfl) (by kernel_rfl) (fun _ _ _ h => h) ?hyE34 hHeld2 ?restE34
  case hiE34 => simp only [List.getElem?_toArray, List.getElem?_cons_zero, List.getElem?_cons_succ]; first | done | rfl
  case hyE34 => exact Or.inl ⟨by rfl, by intro V hV; obtain ⟨s0, s1, s2, s3, s4, s5, s6, s7⟩ := hV; go_simp⟩
  try simp only [Act.put, List.setIfInBounds_toArray, List.set_cons_zero, List.set_cons_succ]
  refine wpAnyH_take (i := 35) (oi := ?oE35) (v := .int .i64 N) ?hiE35 (by kernel_rfl) (by kernel_rfl) (by kernel_rfl) (fun _ _ _ h => h) ?hyE35 hHeld2 ?restE35
  case hiE35 => simp only [List.getElem?_toArray, List.getElem?_cons_zero, List.getElem?_cons_succ]; first | done | rfl
  case hyE35 => exact Or.inl ⟨by rfl, by intro V hV; obtain ⟨s0, s1, s2, s3, s4, s5, s6, s7⟩ := hV; go_simp⟩
  try simp only [Act.put, List.setIfInBounds_toArray, List.set_cons_zero, List.set_cons_succ]
  refine wpAnyH_take (i := 36) (oi := ?oE36) (v := .bool true) ?hiE36 (by kernel_rfl) (by kernel_rfl) (by kernel_rfl) (fun _ _ _ h => h) ?hyE36 hHeld2 ?restE36
  case hiE36 => simp only [List.getElem?_toArray, List.getElem?_cons_zero, List.getElem?_cons_succ]; first | done | rfl
  case hyE36 => exact Or.inl ⟨by rfl, by intro V hV; obtain ⟨s0, s1, s2, s3, s4, s5, s6, s7⟩ := hV; go_simp⟩
  try simp only [Act.put, List.setIfInBounds_toArray, List.set_cons_zero, List.set_cons_succ]
  refine wpAnyH_take (i := 37) (oi := ?oE37) (v := .bool true) ?hiE37 (by kernel_rfl) (by kernel_rfl) (by kernel_rfl) (fun _ _ _ h => h) ?hyE37 hHeld2 ?restE37
  case hiE37 => simp only [List.getElem?_toArray, List.getElem?_cons_zero, List.getElem?_cons_succ]; first | done | rfl
  case hyE37 => exact Or.inl ⟨by rfl, by intro V hV; obtain ⟨s0, s1, s2, s3, s4, s5, s6, s7⟩ := hV; go_simp⟩
  try simp only [Act.put, List.setIfInBounds_toArray, List.set_cons_zero, List.set_cons_succ]
  refine wpAnyH_done (by kernel_rfl) ?_ _
  refine NoPanic.normal ?_
  have hb3 : Below w2.heap.size w2 w3 := hHeld2.1
  have HSIT3 : Hid (sit (J + 1 + 1 + 1) J (J + 1) (J + 1 + 1) w3 ⟨A, B, p, n, c, l, pb, nb, cb, lb, (some ⟨gs, 0, none⟩), ls.length, es, ls, qm, lm.length, em, lm, qt, lt.length, et, lt, N, T⟩ ⟨3, (PI : Int), dx, dy, da⟩) := sit_below HSIT.out (hb3)
  have HB3 : Hid (Below w.heap.size w w3) := below_call HB2.out HB2.out.size (hb3)
  clear z0 z1 z2 z3 z4 z5 z6 z7 z8 q0 q1 q2 q3 q4
  clear hb3
  clear s1 kf
  obtain ⟨ra, rb, rc, rd, re, rf, rg, rh, ri, hrr⟩ := HSIT3.out.r
  obtain ⟨u9, hu9⟩ : ∃ u9, (((((((((w3.setCell ⟨J + 1 + 1, 0, none⟩ (.int .i64 A)).setCell ⟨J + 1 + 1, 1, none⟩ (.int .i64 B)).setCell ⟨J + 1 + 1, 2, none⟩ (.slice p n c)).setCell ⟨J + 1 + 1, 3, none⟩ (.slice pb nb cb)).setCell ⟨J + 1 + 1, 4, none⟩ (.slice (some ⟨gs, 0, none⟩) ls.length es)).setCell ⟨J + 1 + 1, 5, none⟩ (.slice qm lm.length em)).setCell ⟨J + 1 + 1, 6, none⟩ (.slice qt lt.length et)).setCell ⟨J + 1 + 1, 7, none⟩ (.int .i64 N)).setCell ⟨J + 1 + 1, 8, none⟩ (.int .i64 T)) = u9 := ⟨_, rfl⟩
  obtain ⟨x9, e9⟩ := set9 hrr hu9.symm
  have HF9 : Hid (sown w.heap.size u9 ⟨A, B, p, n, c, l, pb, nb, cb, lb, (some ⟨gs, 0, none⟩), ls.length, es, ls, qm, lm.length, em, lm, qt, lt.length, et, lt, N, T⟩ ∧ Below w.heap.size w u9) := ⟨sown_mono (sown_ex HSIT3.out.o e9 (by intro g hg; omega)) (by have := HS0.out.2; omega), HB3.out.trans (e9.below HB3.out.size (by intro k hk; have := HS0.out.2; omega))⟩
  obtain ⟨y0, y1, y2, y3, y4, y5, y6, y7, y8⟩ := bx9_c9 x9
  obtain ⟨o0, o1, o2, o3, o4, o5, o6, o7, o8⟩ := bx9_c9 hrr
  have fr0 := bx9_free hrr 0
  have fr1 := bx9_free hrr 1
  have fr2 := bx9_free hrr 2
  have fr3 := bx9_free hrr 3
  have fr4 := bx9_free hrr 4
  have fr5 := bx9_free hrr 5
  have fr6 := bx9_free hrr 6
  have fr7 := bx9_free hrr 7
  have fr8 := bx9_free hrr 8
  obtain ⟨z0, z1, z2, z3, z4, z5, z6, z7, z8⟩ := bx9_c9 HSIT3.out.x
  clear hrr x9 e9
  go_wp2_with fail
  refine ⟨by simp, .tuple #[.agg #[.int .i64 A, .int .i64 B, .slice p n c, .slice pb nb cb, .slice (some ⟨gs, 0, none⟩) ls.length es, .slice qm lm.length em, .slice qt lt.length et, .int .i64 N, .int .i64 T], .bool false], ?_, ⟨⟨A, B, p, n, c, l, pb, nb, cb, lb, (some ⟨gs, 0, none⟩), ls.length, es, ls, qm, lm.length, em, lm, qt, lt.length, et, lt, N, T⟩, false, rfl, ⟨rfl, rfl, rfl, rfl, rfl, rfl, rfl, rfl, rfl, rfl, rfl⟩, ?_, ds_make rfl (.inr ⟨rfl, rfl, fun c h _ => HNO.out h⟩)⟩, ?_⟩
  · simp [results, Try.results38, go_sem, y0, y1, y2, y3, y4, y5, y6, y7, y8]
  · first | exact HF9.out.1 | (rw [← HS0.out.2]; exact HF9.out.1)
  · first | exact HF9.out.2 | (rw [← HS0.out.2]; exact HF9.out.2)
end Go.Proofs.Ytdcjjfipnilmpaa
