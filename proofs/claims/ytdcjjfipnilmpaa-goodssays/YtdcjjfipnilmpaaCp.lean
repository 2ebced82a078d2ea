/- What troop.Copy returns: a world like the one handed in, in memory of its own. -/
import Derived.Test.YtdcjjfipnilmpaaCw
import Derived.Test.YtdcjjfipnilmpaaWm
namespace Go.Proofs.Ytdcjjfipnilmpaa
open Go.RowKit
set_option linter.unusedVariables false

/-- A world's lists are rows of one's own, whose room holds whole numbers. -/
structure wown (B : Nat) (V : World) (s : Wld) : Prop where
  kp : mine 3 vi B V (.slice s.p s.n s.c) s.l
  jp : alli V (.slice s.p s.n s.c)
  kb : minec B V (.slice s.pb s.nb s.cb) s.lb
  jb : alli V (.slice s.pb s.nb s.cb)
  ks : mine 3 vi B V (.slice s.ps s.ns s.cs) s.ls
  js : alli V (.slice s.ps s.ns s.cs)
  km : mine 3 vi B V (.slice s.pm s.nm s.cm) s.lm
  jm : alli V (.slice s.pm s.nm s.cm)
  kt : minet B V (.slice s.pt s.nt s.ct) s.lt
  jt : alli V (.slice s.pt s.nt s.ct)
/-- Two rows lie apart. -/
def apart (v u : Value) : Prop := ∀ g, v.ownBlock = some g → ¬ some g = u.ownBlock
/-- A world's three lists of numbers lie apart. -/
def apart3 (s : Wld) : Prop := apart (.slice s.p s.n s.c) (.slice s.ps s.ns s.cs) ∧ apart (.slice s.p s.n s.c) (.slice s.pm s.nm s.cm) ∧ apart (.slice s.ps s.ns s.cs) (.slice s.pm s.nm s.cm)
/-- Two worlds that are alike. -/
def alike (s s' : Wld) : Prop := s'.A = s.A ∧ s'.B = s.B ∧ s'.n = s.n ∧ s'.l = s.l ∧ s'.nb = s.nb ∧ s'.lb = s.lb ∧ s'.ns = s.ns ∧ s'.ls = s.ls ∧ s'.nm = s.nm ∧ s'.lm = s.lm ∧ s'.nt = s.nt ∧ s'.lt = s.lt ∧ s'.N = s.N ∧ s'.T = s.T
theorem own_kept {e : TypeId} {size B n : Nat} {w w' : World} {v : Value} {xs : List Value} {S : Nat → Prop} (h : w.ownsRow B e size v n xs) (he : Ex S w w') (hn : ∀ g, B ≤ g → ¬ S g) : w'.ownsRow B e size v n xs := by
  refine ⟨h.1, ?_⟩
  rcases h.2 with h0 | ⟨g', cap, cur, hv, hB, hblk, hr⟩
  · exact .inl h0
  · refine .inr ⟨g', cap, cur, hv, hB, ?_, hr⟩
    have : g' < w.heap.size := by
      rcases Nat.lt_or_ge g' w.heap.size with hlt | hge
      · exact hlt
      · rw [Array.getElem?_eq_none hge] at hblk; cases hblk
    rw [he.block g' this (hn g' hB)]; exact hblk
theorem own_base {e : TypeId} {size B n : Nat} {w : World} {v : Value} {xs : List Value} (h : w.ownsRow B e size v n xs) : ∀ g, v.ownBlock = some g → B ≤ g := fun g hg => (World.ownsRow.lt h g hg).1
theorem own_mono {e : TypeId} {size B B' n : Nat} {w : World} {v : Value} {xs : List Value} (h : w.ownsRow B e size v n xs) (hB : B' ≤ B) : w.ownsRow B' e size v n xs := ⟨h.1, by
  rcases h.2 with h0 | ⟨g', cap, cur, hv, hb, hr⟩
  · exact .inl h0
  · exact .inr ⟨g', cap, cur, hv, Nat.le_trans hB hb, hr⟩⟩
/-- A box of nine by its block. -/
def bx9 (V : World) (F : Nat) (a b c d e f g h i : Value) : Prop := V.heap[F]? = some (.cells #[a, b, c, d, e, f, g, h, i] 28)
theorem bx9_c9 {V : World} {F : Nat} {a b c d e f g h i : Value} (hb : bx9 V F a b c d e f g h i) : c9 V F a b c d e f g h i := by
  unfold bx9 at hb
  unfold c9
  simp [World.cell?, hb]
theorem bx9_free {V : World} {F : Nat} {a b c d e f g h i : Value} (hb : bx9 V F a b c d e f g h i) (k : Nat) : V.frozen? ⟨F, k, none⟩ = false := by
  unfold bx9 at hb
  simp [World.frozen?, hb]
theorem bx9_lt {V : World} {F : Nat} {a b c d e f g h i : Value} (hb : bx9 V F a b c d e f g h i) : F < V.heap.size := by
  unfold bx9 at hb
  rcases Nat.lt_or_ge F V.heap.size with hlt | hge
  · exact hlt
  · rw [Array.getElem?_eq_none hge] at hb; cases hb
theorem bx9_below {V V' : World} {F : Nat} {a b c d e f g h i : Value} (hb : bx9 V F a b c d e f g h i) (hV : Below V.heap.size V V') : bx9 V' F a b c d e f g h i := (hV.block F (bx9_lt hb)).trans hb
theorem bx9_ex {S : Nat → Prop} {V V' : World} {F : Nat} {a b c d e f g h i : Value} (hb : bx9 V F a b c d e f g h i) (hV : Ex S V V') (hS : ¬ S F) : bx9 V' F a b c d e f g h i := (hV.block F (bx9_lt hb) hS).trans hb
theorem bx9_set0 {V : World} {F : Nat} {a b c d e f g h i : Value} (hb : bx9 V F a b c d e f g h i) (u : Value) : bx9 (V.setCell ⟨F, 0, none⟩ u) F u b c d e f g h i := by
  unfold bx9 at hb ⊢
  rw [heap_setCell_same V F 0 _ _ u hb]; rfl
theorem bx9_set1 {V : World} {F : Nat} {a b c d e f g h i : Value} (hb : bx9 V F a b c d e f g h i) (u : Value) : bx9 (V.setCell ⟨F, 1, none⟩ u) F a u c d e f g h i := by
  unfold bx9 at hb ⊢
  rw [heap_setCell_same V F 1 _ _ u hb]; rfl
theorem bx9_set2 {V : World} {F : Nat} {a b c d e f g h i : Value} (hb : bx9 V F a b c d e f g h i) (u : Value) : bx9 (V.setCell ⟨F, 2, none⟩ u) F a b u d e f g h i := by
  unfold bx9 at hb ⊢
  rw [heap_setCell_same V F 2 _ _ u hb]; rfl
theorem bx9_set3 {V : World} {F : Nat} {a b c d e f g h i : Value} (hb : bx9 V F a b c d e f g h i) (u : Value) : bx9 (V.setCell ⟨F, 3, none⟩ u) F a b c u e f g h i := by
  unfold bx9 at hb ⊢
  rw [heap_setCell_same V F 3 _ _ u hb]; rfl
theorem bx9_set4 {V : World} {F : Nat} {a b c d e f g h i : Value} (hb : bx9 V F a b c d e f g h i) (u : Value) : bx9 (V.setCell ⟨F, 4, none⟩ u) F a b c d u f g h i := by
  unfold bx9 at hb ⊢
  rw [heap_setCell_same V F 4 _ _ u hb]; rfl
theorem bx9_set5 {V : World} {F : Nat} {a b c d e f g h i : Value} (hb : bx9 V F a b c d e f g h i) (u : Value) : bx9 (V.setCell ⟨F, 5, none⟩ u) F a b c d e u g h i := by
  unfold bx9 at hb ⊢
  rw [heap_setCell_same V F 5 _ _ u hb]; rfl
theorem bx9_set6 {V : World} {F : Nat} {a b c d e f g h i : Value} (hb : bx9 V F a b c d e f g h i) (u : Value) : bx9 (V.setCell ⟨F, 6, none⟩ u) F a b c d e f u h i := by
  unfold bx9 at hb ⊢
  rw [heap_setCell_same V F 6 _ _ u hb]; rfl
theorem bx9_set7 {V : World} {F : Nat} {a b c d e f g h i : Value} (hb : bx9 V F a b c d e f g h i) (u : Value) : bx9 (V.setCell ⟨F, 7, none⟩ u) F a b c d e f g u i := by
  unfold bx9 at hb ⊢
  rw [heap_setCell_same V F 7 _ _ u hb]; rfl
theorem bx9_set8 {V : World} {F : Nat} {a b c d e f g h i : Value} (hb : bx9 V F a b c d e f g h i) (u : Value) : bx9 (V.setCell ⟨F, 8, none⟩ u) F a b c d e f g h u := by
  unfold bx9 at hb ⊢
  rw [heap_setCell_same V F 8 _ _ u hb]; rfl
theorem box9_new (w : World) (a b c d e f g h i : Value) : bx9 (w.alloc (.cells #[a, b, c, d, e, f, g, h, i] 28)) w.heap.size a b c d e f g h i := World.alloc_heap_new w _
theorem below_call {B : Nat} {a w w' : World} (h : Below B a w) (hB : B ≤ w.heap.size) (hb : Below w.heap.size w w') : Below B a w' := h.trans (hb.mono hB)
theorem ex_call {S : Nat → Prop} {a w w' : World} (h : Ex S a w) (hb : Below w.heap.size w w') : Ex S a w' := h.trans (Ex.of_below (S := fun _ => False) hb) (fun _ _ e => e.elim)
theorem ex_set {S : Nat → Prop} {a w : World} (h : Ex S a w) (p : Addr) (hp : S p.block) (u : Value) : Ex S a (w.setCell p u) := h.trans (Ex.set (S := fun g => g = p.block) w p rfl u) (fun i _ e => by rw [e]; exact hp)
/-- A whole world written into a box. -/
theorem set9 {W' V : World} {R : Nat} {x0 x1 x2 x3 x4 x5 x6 x7 x8 a b c d e f g h i : Value} (hR : bx9 W' R x0 x1 x2 x3 x4 x5 x6 x7 x8)
    (hV : V = ((((((((W'.setCell ⟨R, 0, none⟩ a).setCell ⟨R, 1, none⟩ b).setCell ⟨R, 2, none⟩ c).setCell ⟨R, 3, none⟩ d).setCell ⟨R, 4, none⟩ e).setCell ⟨R, 5, none⟩ f).setCell ⟨R, 6, none⟩ g).setCell ⟨R, 7, none⟩ h).setCell ⟨R, 8, none⟩ i) :
    bx9 V R a b c d e f g h i ∧ Ex (fun g => g = R) W' V := by
  subst hV
  refine ⟨bx9_set8 (bx9_set7 (bx9_set6 (bx9_set5 (bx9_set4 (bx9_set3 (bx9_set2 (bx9_set1 (bx9_set0 hR a) b) c) d) e) f) g) h) i, ?_⟩
  exact ex_set (ex_set (ex_set (ex_set (ex_set (ex_set (ex_set (ex_set (ex_set (Ex.refl (fun g => g = R) _) ⟨R, 0, none⟩ rfl _) ⟨R, 1, none⟩ rfl _) ⟨R, 2, none⟩ rfl _) ⟨R, 3, none⟩ rfl _) ⟨R, 4, none⟩ rfl _) ⟨R, 5, none⟩ rfl _) ⟨R, 6, none⟩ rfl _) ⟨R, 7, none⟩ rfl _) ⟨R, 8, none⟩ rfl _
theorem mine_form {e : TypeId} {size B n : Nat} {w : World} {v : Value} {xs : List Value} (h : w.ownsRow B e size v n xs) : ∃ p c, v = .slice p n c := by
  rcases h.2 with ⟨h0, h1⟩ | ⟨g', cap, cur, hv, hb, hr⟩
  · exact ⟨none, 0, by rw [h0, h1]⟩
  · exact ⟨_, _, hv⟩

set_option maxRecDepth 20000 in
set_option maxHeartbeats 4000000 in
theorem Copy_any (s : Wld) (w : World) (h : s.fit w) (b1 : s.n * 8 ≤ 140737488355328) (b2 : s.nb * 16 ≤ 140737488355328) (b3 : s.ns * 8 ≤ 140737488355328) (b4 : s.nm * 8 ≤ 140737488355328) (b5 : s.nt * 56 ≤ 140737488355328) :
    Calls Try.prog 44 #[s.val] w fun e w' => (∃ s' : Wld, e = .returned s'.val ∧ wown w.heap.size w' s' ∧ alike s s' ∧ apart3 s') ∧ Below w.heap.size w w' := by
  have H1 : Hid (∀ V, Below w.heap.size w V → Calls Try.prog 24 #[.slice s.p s.n s.c] V fun e w' => (∃ v, e = .returned v ∧ mine 3 vi V.heap.size w' v s.l ∧ alli w' v) ∧ Below V.heap.size V w') := fun V hV => Clonei_any s.p s.n s.c s.l V (row_below h.r hV) h.h b1
  have H2 : Hid (∀ V, Below w.heap.size w V → Calls Try.prog 25 #[.slice s.pb s.nb s.cb] V fun e w' => (∃ v, e = .returned v ∧ minec V.heap.size w' v s.lb ∧ alli w' v) ∧ Below V.heap.size V w') := fun V hV => Clonec_any s.pb s.nb s.cb s.lb V (crow_below h.rb hV) h.hb b2
  have H3 : Hid (∀ V, Below w.heap.size w V → Calls Try.prog 24 #[.slice s.ps s.ns s.cs] V fun e w' => (∃ v, e = .returned v ∧ mine 3 vi V.heap.size w' v s.ls ∧ alli w' v) ∧ Below V.heap.size V w') := fun V hV => Clonei_any s.ps s.ns s.cs s.ls V (row_below h.rs hV) h.hs b3
  have H4 : Hid (∀ V, Below w.heap.size w V → Calls Try.prog 24 #[.slice s.pm s.nm s.cm] V fun e w' => (∃ v, e = .returned v ∧ mine 3 vi V.heap.size w' v s.lm ∧ alli w' v) ∧ Below V.heap.size V w') := fun V hV => Clonei_any s.pm s.nm s.cm s.lm V (row_below h.rm hV) h.hm b4
  have H5 : Hid (∀ V, Below w.heap.size w V → Calls Try.prog 23 #[.slice s.pt s.nt s.ct] V fun e w' => (∃ v, e = .returned v ∧ minet V.heap.size w' v s.lt ∧ alli w' v) ∧ Below V.heap.size V w') := fun V hV => Clonet_any s.pt s.nt s.ct s.lt V (trow_below h.rt hV) h.ht b5
  have HL : Hid (s.l.length = s.n ∧ s.lb.length = s.nb ∧ s.ls.length = s.ns ∧ s.lm.length = s.nm ∧ s.lt.length = s.nt) := ⟨h.h, h.hb, h.hs, h.hm, h.ht⟩
  clear h b1 b2 b3 b4 b5
  obtain ⟨A, B, p, n, c, l, pb, nb, cb, lb, ps, ns, cs, ls, pm, nm, cm, lm, pt, nt, ct, lt, N, T⟩ := s
  unfold Wld.val at *
  dsimp only at *
  obtain ⟨F, hF⟩ : ∃ F, w.heap.size = F := ⟨_, rfl⟩
  obtain ⟨wa, hwa⟩ : ∃ wa, w.alloc (.cells #[.int .i64 A, .int .i64 B, .slice p n c, .slice pb nb cb, .slice ps ns cs, .slice pm nm cm, .slice pt nt ct, .int .i64 N, .int .i64 T] 28) = wa := ⟨_, rfl⟩
  have xa : bx9 wa F (.int .i64 A) (.int .i64 B) (.slice p n c) (.slice pb nb cb) (.slice ps ns cs) (.slice pm nm cm) (.slice pt nt ct) (.int .i64 N) (.int .i64 T) := by rw [← hwa, ← hF]; exact box9_new _ _ _ _ _ _ _ _ _ _
  have sa : wa.heap.size = F + 1 := by rw [← hwa, World.size_alloc, hF]
  obtain ⟨w0, hw0⟩ : ∃ w0, wa.alloc (.cells #[.int .i64 0, .int .i64 0, .slice none 0 0, .slice none 0 0, .slice none 0 0, .slice none 0 0, .slice none 0 0, .int .i64 0, .int .i64 0] 28) = w0 := ⟨_, rfl⟩
  have ba : Below wa.heap.size wa w0 := by rw [← hw0]; exact alloc_below _ _
  have X0 : Hid (bx9 w0 F (.int .i64 A) (.int .i64 B) (.slice p n c) (.slice pb nb cb) (.slice ps ns cs) (.slice pm nm cm) (.slice pt nt ct) (.int .i64 N) (.int .i64 T)) := bx9_below xa ba
  have R0 : Hid (bx9 w0 (F + 1) (.int .i64 0) (.int .i64 0) (.slice none 0 0) (.slice none 0 0) (.slice none 0 0) (.slice none 0 0) (.slice none 0 0) (.int .i64 0) (.int .i64 0)) := by unfold Hid; rw [← hw0, ← sa]; exact box9_new _ _ _ _ _ _ _ _ _ _
  have S0 : w0.heap.size = F + 2 := by rw [← hw0, World.size_alloc, sa]
  have hB0 : Below w.heap.size w w0 := by
    have h1 : Below w.heap.size w wa := by rw [← hwa]; exact alloc_below _ _
    exact below_call h1 h1.size ba
  have HB0 : Hid (Below w.heap.size w w0) := hB0
  have HF : Hid (w.heap.size = F) := hF
  clear xa ba hB0
  obtain ⟨z0, z1, z2, z3, z4, z5, z6, z7, z8⟩ := bx9_c9 X0.out
  have fz := bx9_free X0.out
  go_enter Try.func44, Try.ntmps44
  go_wp2_with fail
  refine (H1.out w0 HB0.out).mono ?_
  rintro e v1w ⟨⟨v1, rfl, hm1, ha1⟩, hb1⟩
  obtain ⟨q1, d1, hv1⟩ := mine_form hm1
  rw [HL.out.1] at hv1
  subst hv1
  have hs1 : F + 2 ≤ v1w.heap.size := Nat.le_trans (Nat.le_of_eq S0.symm) hb1.size
  have xm1 := bx9_below X0.out hb1
  have rm1 := bx9_below R0.out hb1
  have bm1 : Below w.heap.size w v1w := below_call HB0.out HB0.out.size hb1
  have y1 := (bx9_c9 xm1)
  have fy1 := bx9_free xm1 2
  have D1 : Hid (∀ g, (Value.slice q1 n d1).ownBlock = some g → g < v1w.heap.size) := fun g hg => (World.ownsRow.lt hm1 g hg).2
  have O1 : Hid (mine 3 vi (F + 2) v1w (.slice q1 n d1) l ∧ alli v1w (.slice q1 n d1)) := ⟨own_mono hm1 (Nat.le_of_eq S0.symm), ha1⟩
  clear z0 z1 z2 z3 z4 z5 z6 z7 z8 fz hw0 hwa sa
  obtain ⟨z0, z1, z2, z3, z4, z5, z6, z7, z8⟩ := y1
  clear hm1 ha1
  go_wp2_with fail
  obtain ⟨w1, hw1⟩ : ∃ w1, v1w.setCell ⟨F, 2, none⟩ (.slice q1 n d1) = w1 := ⟨_, rfl⟩
  first | rw [hw1] | skip
  have X1 : Hid (bx9 w1 F (.int .i64 A) (.int .i64 B) (.slice q1 n d1) (.slice pb nb cb) (.slice ps ns cs) (.slice pm nm cm) (.slice pt nt ct) (.int .i64 N) (.int .i64 T)) := by unfold Hid; rw [← hw1]; exact bx9_set2 xm1 _
  have ew1 : Ex (fun g => g = F ∨ g = F + 1) v1w w1 := by rw [← hw1]; exact ex_set (Ex.refl _ _) ⟨F, 2, none⟩ (.inl rfl) _
  have R1 : Hid (bx9 w1 (F + 1) (.int .i64 0) (.int .i64 0) (.slice none 0 0) (.slice none 0 0) (.slice none 0 0) (.slice none 0 0) (.slice none 0 0) (.int .i64 0) (.int .i64 0)) := by
    unfold Hid; rw [← hw1]; exact bx9_ex (S := fun g => g = F) rm1 (Ex.set (S := fun g => g = F) v1w ⟨F, 2, none⟩ rfl _) (by omega)
  have HB1 : Hid (Below w.heap.size w w1) := by unfold Hid; rw [← hw1]; exact bm1.setCell (by rw [HF.out]; exact Nat.le_refl _) _
  have hs1w : F + 2 ≤ w1.heap.size := Nat.le_trans hs1 ew1.size
  have E1_1 : Hid (Ex (fun g => g = F ∨ g = F + 1) v1w w1) := ew1
  clear z0 z1 z2 z3 z4 z5 z6 z7 z8 fy1 xm1 rm1 bm1 ew1 hb1 hw1
  obtain ⟨z0, z1, z2, z3, z4, z5, z6, z7, z8⟩ := bx9_c9 X1.out
  have fz := bx9_free X1.out
  go_wp2_with fail
  refine (H2.out w1 HB1.out).mono ?_
  rintro e v2w ⟨⟨v2, rfl, hm2, ha2⟩, hb2⟩
  obtain ⟨q2, d2, hv2⟩ := mine_form hm2
  rw [HL.out.2.1] at hv2
  subst hv2
  have hs2 : F + 2 ≤ v2w.heap.size := Nat.le_trans hs1w hb2.size
  have xm2 := bx9_below X1.out hb2
  have rm2 := bx9_below R1.out hb2
  have bm2 : Below w.heap.size w v2w := below_call HB1.out HB1.out.size hb2
  have y2 := (bx9_c9 xm2)
  have fy2 := bx9_free xm2 3
  have O2 : Hid (minec (F + 2) v2w (.slice q2 nb d2) lb ∧ alli v2w (.slice q2 nb d2)) := ⟨own_mono hm2 hs1w, ha2⟩
  have E1m2 : Hid (Ex (fun g => g = F ∨ g = F + 1) v1w v2w) := ex_call E1_1.out hb2
  clear z0 z1 z2 z3 z4 z5 z6 z7 z8 fz
  obtain ⟨z0, z1, z2, z3, z4, z5, z6, z7, z8⟩ := y2
  clear hm2 ha2
  go_wp2_with fail
  obtain ⟨w2, hw2⟩ : ∃ w2, v2w.setCell ⟨F, 3, none⟩ (.slice q2 nb d2) = w2 := ⟨_, rfl⟩
  first | rw [hw2] | skip
  have X2 : Hid (bx9 w2 F (.int .i64 A) (.int .i64 B) (.slice q1 n d1) (.slice q2 nb d2) (.slice ps ns cs) (.slice pm nm cm) (.slice pt nt ct) (.int .i64 N) (.int .i64 T)) := by unfold Hid; rw [← hw2]; exact bx9_set3 xm2 _
  have ew2 : Ex (fun g => g = F ∨ g = F + 1) v2w w2 := by rw [← hw2]; exact ex_set (Ex.refl _ _) ⟨F, 3, none⟩ (.inl rfl) _
  have R2 : Hid (bx9 w2 (F + 1) (.int .i64 0) (.int .i64 0) (.slice none 0 0) (.slice none 0 0) (.slice none 0 0) (.slice none 0 0) (.slice none 0 0) (.int .i64 0) (.int .i64 0)) := by
    unfold Hid; rw [← hw2]; exact bx9_ex (S := fun g => g = F) rm2 (Ex.set (S := fun g => g = F) v2w ⟨F, 3, none⟩ rfl _) (by omega)
  have HB2 : Hid (Below w.heap.size w w2) := by unfold Hid; rw [← hw2]; exact bm2.setCell (by rw [HF.out]; exact Nat.le_refl _) _
  have hs2w : F + 2 ≤ w2.heap.size := Nat.le_trans hs2 ew2.size
  have E2_2 : Hid (Ex (fun g => g = F ∨ g = F + 1) v2w w2) := ew2
  have E1_2 : Hid (Ex (fun g => g = F ∨ g = F + 1) v1w w2) := E1m2.out.trans ew2 (fun _ _ e => e)
  clear z0 z1 z2 z3 z4 z5 z6 z7 z8 fy2 xm2 rm2 bm2 ew2 hb2 hw2
  obtain ⟨z0, z1, z2, z3, z4, z5, z6, z7, z8⟩ := bx9_c9 X2.out
  have fz := bx9_free X2.out
  go_wp2_with fail
  refine (H3.out w2 HB2.out).mono ?_
  rintro e v3w ⟨⟨v3, rfl, hm3, ha3⟩, hb3⟩
  obtain ⟨q3, d3, hv3⟩ := mine_form hm3
  rw [HL.out.2.2.1] at hv3
  subst hv3
  have hs3 : F + 2 ≤ v3w.heap.size := Nat.le_trans hs2w hb3.size
  have xm3 := bx9_below X2.out hb3
  have rm3 := bx9_below R2.out hb3
  have bm3 : Below w.heap.size w v3w := below_call HB2.out HB2.out.size hb3
  have y3 := (bx9_c9 xm3)
  have fy3 := bx9_free xm3 4
  have D3 : Hid (∀ g, (Value.slice q3 ns d3).ownBlock = some g → w2.heap.size ≤ g ∧ g < v3w.heap.size) := fun g hg => World.ownsRow.lt hm3 g hg
  have O3 : Hid (mine 3 vi (F + 2) v3w (.slice q3 ns d3) ls ∧ alli v3w (.slice q3 ns d3)) := ⟨own_mono hm3 hs2w, ha3⟩
  have E1m3 : Hid (Ex (fun g => g = F ∨ g = F + 1) v1w v3w) := ex_call E1_2.out hb3
  have E2m3 : Hid (Ex (fun g => g = F ∨ g = F + 1) v2w v3w) := ex_call E2_2.out hb3
  clear z0 z1 z2 z3 z4 z5 z6 z7 z8 fz
  obtain ⟨z0, z1, z2, z3, z4, z5, z6, z7, z8⟩ := y3
  clear hm3 ha3
  go_wp2_with fail
  obtain ⟨w3, hw3⟩ : ∃ w3, v3w.setCell ⟨F, 4, none⟩ (.slice q3 ns d3) = w3 := ⟨_, rfl⟩
  first | rw [hw3] | skip
  have X3 : Hid (bx9 w3 F (.int .i64 A) (.int .i64 B) (.slice q1 n d1) (.slice q2 nb d2) (.slice q3 ns d3) (.slice pm nm cm) (.slice pt nt ct) (.int .i64 N) (.int .i64 T)) := by unfold Hid; rw [← hw3]; exact bx9_set4 xm3 _
  have ew3 : Ex (fun g => g = F ∨ g = F + 1) v3w w3 := by rw [← hw3]; exact ex_set (Ex.refl _ _) ⟨F, 4, none⟩ (.inl rfl) _
  have R3 : Hid (bx9 w3 (F + 1) (.int .i64 0) (.int .i64 0) (.slice none 0 0) (.slice none 0 0) (.slice none 0 0) (.slice none 0 0) (.slice none 0 0) (.int .i64 0) (.int .i64 0)) := by
    unfold Hid; rw [← hw3]; exact bx9_ex (S := fun g => g = F) rm3 (Ex.set (S := fun g => g = F) v3w ⟨F, 4, none⟩ rfl _) (by omega)
  have HB3 : Hid (Below w.heap.size w w3) := by unfold Hid; rw [← hw3]; exact bm3.setCell (by rw [HF.out]; exact Nat.le_refl _) _
  have hs3w : F + 2 ≤ w3.heap.size := Nat.le_trans hs3 ew3.size
  have E3_3 : Hid (Ex (fun g => g = F ∨ g = F + 1) v3w w3) := ew3
  have E1_3 : Hid (Ex (fun g => g = F ∨ g = F + 1) v1w w3) := E1m3.out.trans ew3 (fun _ _ e => e)
  have E2_3 : Hid (Ex (fun g => g = F ∨ g = F + 1) v2w w3) := E2m3.out.trans ew3 (fun _ _ e => e)
  clear z0 z1 z2 z3 z4 z5 z6 z7 z8 fy3 xm3 rm3 bm3 ew3 hb3 hw3
  obtain ⟨z0, z1, z2, z3, z4, z5, z6, z7, z8⟩ := bx9_c9 X3.out
  have fz := bx9_free X3.out
  go_wp2_with fail
  refine (H4.out w3 HB3.out).mono ?_
  rintro e v4w ⟨⟨v4, rfl, hm4, ha4⟩, hb4⟩
  obtain ⟨q4, d4, hv4⟩ := mine_form hm4
  rw [HL.out.2.2.2.1] at hv4
  subst hv4
  have hs4 : F + 2 ≤ v4w.heap.size := Nat.le_trans hs3w hb4.size
  have xm4 := bx9_below X3.out hb4
  have rm4 := bx9_below R3.out hb4
  have bm4 : Below w.heap.size w v4w := below_call HB3.out HB3.out.size hb4
  have y4 := (bx9_c9 xm4)
  have fy4 := bx9_free xm4 5
  have D4 : Hid (∀ g, (Value.slice q4 nm d4).ownBlock = some g → w3.heap.size ≤ g) := fun g hg => (World.ownsRow.lt hm4 g hg).1
  have O4 : Hid (mine 3 vi (F + 2) v4w (.slice q4 nm d4) lm ∧ alli v4w (.slice q4 nm d4)) := ⟨own_mono hm4 hs3w, ha4⟩
  have E1m4 : Hid (Ex (fun g => g = F ∨ g = F + 1) v1w v4w) := ex_call E1_3.out hb4
  have E2m4 : Hid (Ex (fun g => g = F ∨ g = F + 1) v2w v4w) := ex_call E2_3.out hb4
  have E3m4 : Hid (Ex (fun g => g = F ∨ g = F + 1) v3w v4w) := ex_call E3_3.out hb4
  clear z0 z1 z2 z3 z4 z5 z6 z7 z8 fz
  obtain ⟨z0, z1, z2, z3, z4, z5, z6, z7, z8⟩ := y4
  clear hm4 ha4
  go_wp2_with fail
  obtain ⟨w4, hw4⟩ : ∃ w4, v4w.setCell ⟨F, 5, none⟩ (.slice q4 nm d4) = w4 := ⟨_, rfl⟩
  first | rw [hw4] | skip
  have X4 : Hid (bx9 w4 F (.int .i64 A) (.int .i64 B) (.slice q1 n d1) (.slice q2 nb d2) (.slice q3 ns d3) (.slice q4 nm d4) (.slice pt nt ct) (.int .i64 N) (.int .i64 T)) := by unfold Hid; rw [← hw4]; exact bx9_set5 xm4 _
  have ew4 : Ex (fun g => g = F ∨ g = F + 1) v4w w4 := by rw [← hw4]; exact ex_set (Ex.refl _ _) ⟨F, 5, none⟩ (.inl rfl) _
  have R4 : Hid (bx9 w4 (F + 1) (.int .i64 0) (.int .i64 0) (.slice none 0 0) (.slice none 0 0) (.slice none 0 0) (.slice none 0 0) (.slice none 0 0) (.int .i64 0) (.int .i64 0)) := by
    unfold Hid; rw [← hw4]; exact bx9_ex (S := fun g => g = F) rm4 (Ex.set (S := fun g => g = F) v4w ⟨F, 5, none⟩ rfl _) (by omega)
  have HB4 : Hid (Below w.heap.size w w4) := by unfold Hid; rw [← hw4]; exact bm4.setCell (by rw [HF.out]; exact Nat.le_refl _) _
  have hs4w : F + 2 ≤ w4.heap.size := Nat.le_trans hs4 ew4.size
  have E4_4 : Hid (Ex (fun g => g = F ∨ g = F + 1) v4w w4) := ew4
  have E1_4 : Hid (Ex (fun g => g = F ∨ g = F + 1) v1w w4) := E1m4.out.trans ew4 (fun _ _ e => e)
  have E2_4 : Hid (Ex (fun g => g = F ∨ g = F + 1) v2w w4) := E2m4.out.trans ew4 (fun _ _ e => e)
  have E3_4 : Hid (Ex (fun g => g = F ∨ g = F + 1) v3w w4) := E3m4.out.trans ew4 (fun _ _ e => e)
  clear z0 z1 z2 z3 z4 z5 z6 z7 z8 fy4 xm4 rm4 bm4 ew4 hb4 hw4
  obtain ⟨z0, z1, z2, z3, z4, z5, z6, z7, z8⟩ := bx9_c9 X4.out
  have fz := bx9_free X4.out
  go_wp2_with fail
  refine (H5.out w4 HB4.out).mono ?_
  rintro e v5w ⟨⟨v5, rfl, hm5, ha5⟩, hb5⟩
  obtain ⟨q5, d5, hv5⟩ := mine_form hm5
  rw [HL.out.2.2.2.2] at hv5
  subst hv5
  have hs5 : F + 2 ≤ v5w.heap.size := Nat.le_trans hs4w hb5.size
  have xm5 := bx9_below X4.out hb5
  have rm5 := bx9_below R4.out hb5
  have bm5 : Below w.heap.size w v5w := below_call HB4.out HB4.out.size hb5
  have y5 := (bx9_c9 xm5)
  have fy5 := bx9_free xm5 6
  have O5 : Hid (minet (F + 2) v5w (.slice q5 nt d5) lt ∧ alli v5w (.slice q5 nt d5)) := ⟨own_mono hm5 hs4w, ha5⟩
  have E1m5 : Hid (Ex (fun g => g = F ∨ g = F + 1) v1w v5w) := ex_call E1_4.out hb5
  have E2m5 : Hid (Ex (fun g => g = F ∨ g = F + 1) v2w v5w) := ex_call E2_4.out hb5
  have E3m5 : Hid (Ex (fun g => g = F ∨ g = F + 1) v3w v5w) := ex_call E3_4.out hb5
  have E4m5 : Hid (Ex (fun g => g = F ∨ g = F + 1) v4w v5w) := ex_call E4_4.out hb5
  clear z0 z1 z2 z3 z4 z5 z6 z7 z8 fz
  obtain ⟨z0, z1, z2, z3, z4, z5, z6, z7, z8⟩ := y5
  clear hm5 ha5
  obtain ⟨y0, y1, y2, y3, y4, y5, y6, y7, y8⟩ := bx9_c9 rm5
  have fr0 := bx9_free rm5 0
  have fr1 := bx9_free rm5 1
  have fr2 := bx9_free rm5 2
  have fr3 := bx9_free rm5 3
  have fr4 := bx9_free rm5 4
  have fr5 := bx9_free rm5 5
  have fr6 := bx9_free rm5 6
  have fr7 := bx9_free rm5 7
  have fr8 := bx9_free rm5 8
  go_wp2_with fail
  obtain ⟨w5, hw5⟩ : ∃ w5, v5w.setCell ⟨F, 6, none⟩ (.slice q5 nt d5) = w5 := ⟨_, rfl⟩
  first | rw [hw5] | skip
  have X5 : Hid (bx9 w5 F (.int .i64 A) (.int .i64 B) (.slice q1 n d1) (.slice q2 nb d2) (.slice q3 ns d3) (.slice q4 nm d4) (.slice q5 nt d5) (.int .i64 N) (.int .i64 T)) := by unfold Hid; rw [← hw5]; exact bx9_set6 xm5 _
  have ew5 : Ex (fun g => g = F ∨ g = F + 1) v5w w5 := by rw [← hw5]; exact ex_set (Ex.refl _ _) ⟨F, 6, none⟩ (.inl rfl) _
  have R5 : Hid (bx9 w5 (F + 1) (.int .i64 0) (.int .i64 0) (.slice none 0 0) (.slice none 0 0) (.slice none 0 0) (.slice none 0 0) (.slice none 0 0) (.int .i64 0) (.int .i64 0)) := by
    unfold Hid; rw [← hw5]; exact bx9_ex (S := fun g => g = F) rm5 (Ex.set (S := fun g => g = F) v5w ⟨F, 6, none⟩ rfl _) (by omega)
  have HB5 : Hid (Below w.heap.size w w5) := by unfold Hid; rw [← hw5]; exact bm5.setCell (by rw [HF.out]; exact Nat.le_refl _) _
  have hs5w : F + 2 ≤ w5.heap.size := Nat.le_trans hs5 ew5.size
  have E5_5 : Hid (Ex (fun g => g = F ∨ g = F + 1) v5w w5) := ew5
  have E1_5 : Hid (Ex (fun g => g = F ∨ g = F + 1) v1w w5) := E1m5.out.trans ew5 (fun _ _ e => e)
  have E2_5 : Hid (Ex (fun g => g = F ∨ g = F + 1) v2w w5) := E2m5.out.trans ew5 (fun _ _ e => e)
  have E3_5 : Hid (Ex (fun g => g = F ∨ g = F + 1) v3w w5) := E3m5.out.trans ew5 (fun _ _ e => e)
  have E4_5 : Hid (Ex (fun g => g = F ∨ g = F + 1) v4w w5) := E4m5.out.trans ew5 (fun _ _ e => e)
  clear z0 z1 z2 z3 z4 z5 z6 z7 z8 fy5 xm5 rm5 bm5 ew5 hb5 hw5
  obtain ⟨V, hV⟩ : ∃ V, ((((((((w5.setCell ⟨F + 1, 0, none⟩ (.int .i64 A)).setCell ⟨F + 1, 1, none⟩ (.int .i64 B)).setCell ⟨F + 1, 2, none⟩ (.slice q1 n d1)).setCell ⟨F + 1, 3, none⟩ (.slice q2 nb d2)).setCell ⟨F + 1, 4, none⟩ (.slice q3 ns d3)).setCell ⟨F + 1, 5, none⟩ (.slice q4 nm d4)).setCell ⟨F + 1, 6, none⟩ (.slice q5 nt d5)).setCell ⟨F + 1, 7, none⟩ (.int .i64 N)).setCell ⟨F + 1, 8, none⟩ (.int .i64 T) = V := ⟨_, rfl⟩
  first | rw [hV] | skip
  obtain ⟨k2, kx⟩ := set9 R5.out hV.symm
  obtain ⟨t0, t1, t2, t3, t4, t5, t6, t7, t8⟩ := bx9_c9 k2
  have kx2 : Ex (fun g => g = F ∨ g = F + 1) w5 V := kx.mono (fun _ _ e => .inr e)
  refine ⟨by simp, .agg #[.int .i64 A, .int .i64 B, .slice q1 n d1, .slice q2 nb d2, .slice q3 ns d3, .slice q4 nm d4, .slice q5 nt d5, .int .i64 N, .int .i64 T], ?_, ⟨⟨A, B, q1, n, d1, l, q2, nb, d2, lb, q3, ns, d3, ls, q4, nm, d4, lm, q5, nt, d5, lt, N, T⟩, rfl, ?_, ⟨rfl, rfl, rfl, rfl, rfl, rfl, rfl, rfl, rfl, rfl, rfl, rfl, rfl, rfl⟩, ?_⟩, ?_⟩
  · simp [results, Try.results44, go_sem, t0, t1, t2, t3, t4, t5, t6, t7, t8]
  · have hle : w.heap.size ≤ F + 2 := by rw [HF.out]; omega
    have hS : ∀ g, F + 2 ≤ g → ¬ (g = F ∨ g = F + 1) := fun g hg e => by omega
    have e1 := E1_5.out.trans kx2 (fun _ _ e => e)
    have e2 := E2_5.out.trans kx2 (fun _ _ e => e)
    have e3 := E3_5.out.trans kx2 (fun _ _ e => e)
    have e4 := E4_5.out.trans kx2 (fun _ _ e => e)
    have e5 := E5_5.out.trans kx2 (fun _ _ e => e)
    have first : ∀ {t : TypeId} {z B n : Nat} {W : World} {v : Value} {xs : List Value}, W.ownsRow (F + 2) t z v n xs → ∀ g, v.ownBlock = some g → ¬ (g = F ∨ g = F + 1) := fun h g hg => hS g (own_base h g hg)
    exact ⟨own_mono (own_kept O1.out.1 e1 hS) hle, alli_ex O1.out.2 e1 (first (B := 0) O1.out.1), own_mono (own_kept O2.out.1 e2 hS) hle, alli_ex O2.out.2 e2 (first (B := 0) O2.out.1), own_mono (own_kept O3.out.1 e3 hS) hle, alli_ex O3.out.2 e3 (first (B := 0) O3.out.1), own_mono (own_kept O4.out.1 e4 hS) hle, alli_ex O4.out.2 e4 (first (B := 0) O4.out.1), own_mono (own_kept O5.out.1 e5 hS) hle, alli_ex O5.out.2 e5 (first (B := 0) O5.out.1)⟩
  · have g12 : v1w.heap.size ≤ w2.heap.size := E1_2.out.size
    have g33 : v3w.heap.size ≤ w3.heap.size := E3_3.out.size
    have g13 : v1w.heap.size ≤ w3.heap.size := E1_3.out.size
    have k1 : ∀ {v u : Value} {a : Nat}, (∀ g, v.ownBlock = some g → g < a) → (∀ g, u.ownBlock = some g → a ≤ g) → apart v u := fun h1 h2 g hg hu => by have := h1 g hg; have := h2 g hu.symm; omega
    exact ⟨k1 D1.out (fun g hg => Nat.le_trans g12 (D3.out g hg).1), k1 D1.out (fun g hg => Nat.le_trans g13 (D4.out g hg)), k1 (fun g hg => (D3.out g hg).2) (fun g hg => Nat.le_trans g33 (D4.out g hg))⟩
  · have h9 : Below w.heap.size w V := HB5.out.trans (kx.below (B := w.heap.size) HB5.out.size (fun k hk e => by have := HF.out; omega))
    first | exact h9 | (rw [← HF.out]; exact h9)
end Go.Proofs.Ytdcjjfipnilmpaa
