/- who is alone comes wherever there is a way -/
import Derived.Test.YtnbbfnlfcncgnaaRows
import Derived.Test.YtnbbfnlfcncgnaaPost
import Derived.Test.YtnbbfnlfcncgnaaOpc
import Derived.Test.YtnbbfnlfcncgnaaAl
import Derived.Test.YtnbbfnlfcncgnaaRb
import Derived.Test.YtnbbfnlfcncgnaaLv
import Derived.Test.YtnbbfnlfcncgnaaFi
import Derived.Test.YtnbbfnlfcncgnaaWc
import Derived.Deep.RegionHeld3
import Derived.Deep.DrawnRows
import Derived.BigQuiet
import Derived.WalkKit
import Derived.ProofKit
import Derived.OpenShut

namespace Go.Proofs.Ytnbbfnlfcncgnaa.marchComes
open Go.ChangeShapes Go.WideShapes Go.ChangeAt Go.RowKit
set_option linter.unusedVariables false

theorem own : ownKnob Try.prog.godebug = none := by kernel_rfl

def d7 (V : World) (F : Nat) (i o k x y f d : Int) : Prop :=
  V.cell? ⟨F, 0, none⟩ = some (.int .i64 i) ∧ V.cell? ⟨F, 1, none⟩ = some (.int .i64 o) ∧ V.cell? ⟨F, 2, none⟩ = some (.int .i64 k) ∧ V.cell? ⟨F, 3, none⟩ = some (.int .i64 x) ∧ V.cell? ⟨F, 4, none⟩ = some (.int .i64 y) ∧ V.cell? ⟨F, 5, none⟩ = some (.int .i64 f) ∧ V.cell? ⟨F, 6, none⟩ = some (.int .i64 d)
/-- The boxes at the head. -/
theorem hboxes {w w0 V : World} {a b c d e f g h i x y : Value} {F : Nat} (hF : w.heap.size = F) (hw : (w.alloc (.cells #[a, b, c, d, e, f, g, h, i] 28)).alloc (.cells #[x, y] 31) = w0) (hb : Below w0.heap.size w0 V) :
    bx9 V F a b c d e f g h i ∧ (V.cell? ⟨F + 1, 0, none⟩ = some x ∧ V.cell? ⟨F + 1, 1, none⟩ = some y) := by
  subst hF
  obtain ⟨w1, h1⟩ : ∃ w1, w.alloc (.cells #[a, b, c, d, e, f, g, h, i] 28) = w1 := ⟨_, rfl⟩
  rw [h1] at hw
  have b2 : Below w1.heap.size w1 w0 := by rw [← hw]; exact alloc_below _ _
  have s1 : w1.heap.size = w.heap.size + 1 := by rw [← h1, World.size_alloc]
  have x1 : bx9 w1 w.heap.size a b c d e f g h i := by rw [← h1]; exact box9_new _ _ _ _ _ _ _ _ _ _
  have x2 : w0.heap[w.heap.size + 1]? = some (.cells #[x, y] 31) := by rw [← hw, ← s1]; exact World.alloc_heap_new w1 _
  have x2V := (hb.block _ (heap_lt x2)).trans x2
  exact ⟨bx9_below x1 (below_call b2 b2.size hb), by simp [World.cell?, x2V], by simp [World.cell?, x2V]⟩
/-- The world with one troop: its boxes. -/
theorem tboxes {w w2 w3 w4 w5 : World} {F G : Nat} {a b c d e f g h i x y v : Value} {t : Trp} (h9 : bx9 w2 F a b c d e f g h i) (hxy : w2.cell? ⟨F + 1, 0, none⟩ = some x ∧ w2.cell? ⟨F + 1, 1, none⟩ = some y) (hB : Below w.heap.size w w2) (hFw : w.heap.size ≤ F) (hG : w2.heap.size = G)
    (h3 : w2.alloc (.cells #[.int .i64 t.i, .int .i64 t.o, .int .i64 t.k, .int .i64 t.x, .int .i64 t.y, .int .i64 t.f, .int .i64 t.d] 41) = w3) (h4 : w3.alloc (.cells #[.int .i64 t.i, .int .i64 t.o, .int .i64 t.k, .int .i64 t.x, .int .i64 t.y, .int .i64 t.f, .int .i64 t.d] 41) = w4) (h5 : w4.setCell ⟨F, 6, none⟩ v = w5) :
    bx9 w5 F a b c d e f v h i ∧ (w5.cell? ⟨F + 1, 0, none⟩ = some x ∧ w5.cell? ⟨F + 1, 1, none⟩ = some y) ∧ d7 w5 G t.i t.o t.k t.x t.y t.f t.d ∧ trow w5 (some ⟨G + 1, 0, none⟩) [t] ∧ Below w.heap.size w w5 := by
  have b3 : Below w2.heap.size w2 w3 := by rw [← h3]; exact alloc_below _ _
  have b4 : Below w3.heap.size w3 w4 := by rw [← h4]; exact alloc_below _ _
  have s3 : w3.heap.size = G + 1 := by rw [← h3, World.size_alloc, hG]
  have x3 : w3.heap[G]? = some (.cells #[.int .i64 t.i, .int .i64 t.o, .int .i64 t.k, .int .i64 t.x, .int .i64 t.y, .int .i64 t.f, .int .i64 t.d] 41) := by rw [← h3, ← hG]; exact World.alloc_heap_new w2 _
  have x4 : w4.heap[G + 1]? = some (.cells #[.int .i64 t.i, .int .i64 t.o, .int .i64 t.k, .int .i64 t.x, .int .i64 t.y, .int .i64 t.f, .int .i64 t.d] 41) := by rw [← h4, ← s3]; exact World.alloc_heap_new w3 _
  have b24 : Below w2.heap.size w2 w4 := below_call b3 b3.size b4
  have hFG : F < w2.heap.size := bx9_lt h9
  have hF1 : F + 1 < w2.heap.size := cell_lt hxy.1
  have he : Ex (fun g => g = F) w4 w5 := by rw [← h5]; exact Ex.set (S := fun g => g = F) w4 ⟨F, 6, none⟩ rfl _
  have y3 : w5.heap[G]? = some (.cells #[.int .i64 t.i, .int .i64 t.o, .int .i64 t.k, .int .i64 t.x, .int .i64 t.y, .int .i64 t.f, .int .i64 t.d] 41) := (he.block G (by have := heap_lt x3; have := b4.size; omega) (by omega)).trans ((b4.block _ (heap_lt x3)).trans x3)
  have y4 : w5.heap[G + 1]? = some (.cells #[.int .i64 t.i, .int .i64 t.o, .int .i64 t.k, .int .i64 t.x, .int .i64 t.y, .int .i64 t.f, .int .i64 t.d] 41) := (he.block (G + 1) (heap_lt x4) (by omega)).trans x4
  refine ⟨?_, ⟨?_, ?_⟩, ?_, ?_, ?_⟩
  · rw [← h5]; exact bx9_set6 (bx9_below h9 b24) v
  · exact (he.cell (p := ⟨F + 1, 0, none⟩) (by show F + 1 < _; have := b24.size; omega) (by show ¬ F + 1 = F; omega)).trans (cell_call b24 hxy.1)
  · exact (he.cell (p := ⟨F + 1, 1, none⟩) (by show F + 1 < _; have := b24.size; omega) (by show ¬ F + 1 = F; omega)).trans (cell_call b24 hxy.2)
  · unfold d7; simp [World.cell?, y3]
  · have hrow : row id w5 (some ⟨G + 1, 0, none⟩) (tl7 t ++ []) := by
      intro j u hj
      rw [List.append_nil] at hj
      refine ⟨_, rfl, ?_⟩
      have e : (Addr.add ⟨G + 1, 0, none⟩ j) = ⟨G + 1, j, none⟩ := by simp [Addr.add]; exact fun e => e.symm
      rw [e]
      exact (cells_heap (l := tl7 t) y4 j).trans hj
    exact hrow
  · exact (below_call hB hB.size b24).trans (he.below (below_call hB hB.size b24).size (fun j hj e => by omega))
/-- What is left to see at the end: how far one has come. -/
theorem come {A B : Int} {l : List Int} {t : Trp} {b : Cel} {w6 : World} {n0 : Nat} {v : Value} {D Ef : Int} {L' : List Trp} {kk : Nat} (hf : finr A B l t.c b n0 w6 v D Ef) (hr : Rch A B l (gol [⟨t.i, b.x, b.y⟩]) 1 [t] 200 L' kk) :
    (Ef ≠ 0 ∧ L' = [t] ∧ kk = 0) ∨ (Ef = 0 ∧ ∃ (u : Trp) (m g cap : Nat), L' = [u] ∧ 1 ≤ m ∧ m ≤ 2401 ∧ v = .slice (some ⟨g, 0, none⟩) m cap ∧ kk < m ∧ kk = min (m - 1) 200 ∧ w6.cell? ⟨g, kk * 2, none⟩ = some (.int .i64 u.x) ∧ w6.cell? ⟨g, kk * 2 + 1, none⟩ = some (.int .i64 u.y)) := by
  have hgo : gol [⟨t.i, b.x, b.y⟩] t.i = some b := by unfold gol; simp
  rcases hf with ⟨h1, h2, _, _⟩ | ⟨h1, W, H, far, R, g, cap, hg, h0, _, hT, hl, hv, hm⟩
  · exact .inl ⟨h1, rch_nowhere hgo h2 hr⟩
  · obtain ⟨e1, u, e2, e3⟩ := rch_way hr t R rfl hgo (onw_first hg h0 hT)
    have hk := (List.getElem?_eq_some_iff.1 e3).1
    rw [List.length_reverse] at hk
    rw [hv] at hm
    obtain ⟨c1, c2⟩ := minec_cell hm (by simp) hk e3
    exact .inr ⟨h1, u, R.length, g, cap, e2, by omega, hl, hv, hk, e1, c1, c2⟩

set_option maxRecDepth 20000 in
set_option maxHeartbeats 4000000 in
theorem walk (s0 : Wld) (a1 : Int) (x2 y2 : Int) (w1 : (Lit.int .i64 a1).wf = true) (w2x : (Lit.int .i64 x2).wf = true) (w2y : (Lit.int .i64 y2).wf = true) (w : World) (h0 : s0.fit w) :
    Calls Try.prog 6 #[s0.val, .int .i64 a1, .agg #[.int .i64 x2, .int .i64 y2]] w fun e w' => e = .returned (.bool true) ∧ Below w.heap.size w w' := by
  obtain ⟨E, hE⟩ := wre_total s0
  have fx := int_of w2x
  have fy := int_of w2y
  have HCK : Hid (∀ V, Below w.heap.size w V → Calls Try.prog 19 #[s0.val] V fun e w' => e = .returned (.int .i64 E) ∧ Below V.heap.size V w') := fun V hV => Check_world s0 E V (Wld.fit_below h0 hV) hE
  have HFND : Hid (∀ (ax ay : Int) V, Below w.heap.size w V → Calls Try.prog 29 #[.agg #[.int .i64 s0.A, .int .i64 s0.B, .slice s0.p s0.n s0.c], .agg #[.int .i64 ax, .int .i64 ay], .agg #[.int .i64 x2, .int .i64 y2]] V fun e w' => (∃ v D Ef, e = .returned (.tuple #[v, .int .i64 D, .int .i64 Ef]) ∧ finr s0.A s0.B s0.l ⟨ax, ay⟩ ⟨x2, y2⟩ V.heap.size w' v D Ef) ∧ Below V.heap.size V w') := fun ax ay V hV => pFind_any s0.A s0.B s0.p s0.n s0.c s0.l ax ay x2 y2 V (row_below h0.r hV) h0.h h0.m
  have HRE : Hid (∀ (k : Nat) (hk : k < s0.lt.length) (a : Addr) V, E = 0 → Below w.heap.size w V → trow V (some a) [s0.lt[k]] → Calls Try.prog 10 #[.agg #[.int .i64 s0.A, .int .i64 s0.B, .slice s0.p s0.n s0.c, .slice s0.pb s0.nb s0.cb, .slice s0.ps s0.ns s0.cs, .slice s0.pm s0.nm s0.cm, .slice (some a) 1 1, .int .i64 s0.N, .int .i64 s0.T], .int .i64 s0.lt[k].i, .agg #[.int .i64 x2, .int .i64 y2], .int .i64 200] V fun e w' => (∃ (s' : Wld) (kk : Nat), e = .returned (.tuple #[s'.val, .int .i64 (kk : Int), .int .i64 0]) ∧ wown V.heap.size w' s' ∧ s'.nt = 1 ∧ Rch s0.A s0.B s0.l (gol [⟨s0.lt[k].i, x2, y2⟩]) 1 [s0.lt[k]] 200 s'.lt kk) ∧ Below V.heap.size V w') := fun k hk a V he hV hr => by
    subst he
    obtain ⟨W, H, ho⟩ := wre_ok hE
    have hf := Wld.fit_below h0 hV
    have ht := h0.xt _ (List.getElem_mem hk)
    have ho1 := okw_one ho hk (some a) 1
    have hf1 : (⟨s0.A, s0.B, s0.p, s0.n, s0.c, s0.l, s0.pb, s0.nb, s0.cb, s0.lb, s0.ps, s0.ns, s0.cs, s0.ls, s0.pm, s0.nm, s0.cm, s0.lm, some a, 1, 1, [s0.lt[k]], s0.N, s0.T⟩ : Wld).fit V :=
      { hf with rt := hr, xt := fun t h => by rw [List.mem_singleton] at h; subst h; exact ht, ht := rfl, mt := (by decide : 1 ≤ 9223372036854775807), zt := fun h => (by cases h), kt := Nat.le_refl 1 }
    refine (Reach_any _ s0.lt[k].i x2 y2 200 0 V hf1 ht.1 fx fy ⟨0, wre_of ho1, .inr (.inr (.inr ⟨rfl, ⟨by decide, by decide⟩, ⟨_, List.mem_singleton.2 rfl, rfl⟩, rfl⟩))⟩).mono ?_
    rintro e w' ⟨⟨s', kk, rfl, h1, h2⟩, hb⟩
    rcases h2 with ⟨h2, _⟩ | ⟨_, h2, h3, m, kn, h4, rfl, _, h5⟩
    · exact absurd rfl h2
    · obtain rfl : m = 200 := by omega
      exact ⟨⟨s', kn, rfl, h1, h3, h5⟩, hb⟩
  have HRT : Hid (trow w s0.pt s0.lt) := h0.rt
  have HLT : Hid (s0.lt.length = s0.nt ∧ s0.nt ≤ 9223372036854775807) := ⟨h0.ht, h0.mt⟩
  clear h0 hE fx fy w2x w2y w1
  obtain ⟨A, B, p, n, c, l, pb, nb, cb, lb, ps, ns, cs, ls, pm, nm, cm, lm, pt, nt, ct, lt, N, T⟩ := s0
  unfold Wld.val at *
  dsimp only at *
  obtain ⟨F, hF⟩ : ∃ F, w.heap.size = F := ⟨_, rfl⟩
  obtain ⟨w0, hw0⟩ : ∃ w0, (w.alloc (.cells #[.int .i64 A, .int .i64 B, .slice p n c, .slice pb nb cb, .slice ps ns cs, .slice pm nm cm, .slice pt nt ct, .int .i64 N, .int .i64 T] 28)).alloc (.cells #[.int .i64 x2, .int .i64 y2] 31) = w0 := ⟨_, rfl⟩
  have HBX : Hid (∀ V, Below w0.heap.size w0 V → bx9 V F (.int .i64 A) (.int .i64 B) (.slice p n c) (.slice pb nb cb) (.slice ps ns cs) (.slice pm nm cm) (.slice pt nt ct) (.int .i64 N) (.int .i64 T) ∧ (V.cell? ⟨F + 1, 0, none⟩ = some (.int .i64 x2) ∧ V.cell? ⟨F + 1, 1, none⟩ = some (.int .i64 y2))) := fun V hV => hboxes hF hw0 hV
  have hB0 : Below w.heap.size w w0 := by rw [← hw0]; exact (alloc_below w _).alloc (by simp) _
  have HB0 : Hid (Below w.heap.size w w0) := hB0
  have HF : Hid (w.heap.size ≤ F) := Nat.le_of_eq hF
  have HUP : Hid (∀ V, Below w0.heap.size w0 V → Below w.heap.size w V) := fun V hV => HB0.out.trans (hV.mono HB0.out.size)
  clear hB0
  go_enter Try.func6, Try.ntmps6
  go_wp2_with fail
  clear hw0 hF
  refine (mlives_any w0).mono ?_
  rintro e w1 ⟨rfl, hb1⟩
  have HB1 : Hid (Below w0.heap.size w0 w1) := hb1
  obtain ⟨hx1, -⟩ := HBX.out w1 hb1
  obtain ⟨z0, z1, z2, z3, z4, z5, z6, z7, z8⟩ := bx9_c9 hx1
  clear hb1 hx1
  go_wp2_with fail
  refine (HCK.out w1 (HUP.out w1 HB1.out)).mono ?_
  rintro e w2 ⟨rfl, hb2⟩
  have HB2 : Hid (Below w0.heap.size w0 w2) := below_call HB1.out HB1.out.size hb2
  clear hb2 z0 z1 z2 z3 z4 z5 z6 z7 z8 HCK
  obtain ⟨hx2, y0, y1⟩ := HBX.out w2 HB2.out
  obtain ⟨z0, z1, z2, z3, z4, z5, z6, z7, z8⟩ := bx9_c9 hx2
  have hways : E ≠ 0 ∨ (E = 0 ∧ a1 < 0) ∨ (E = 0 ∧ ¬ a1 < 0 ∧ (nt : Int) ≤ a1) ∨ (E = 0 ∧ ¬ a1 < 0 ∧ ¬ (nt : Int) ≤ a1) := by
    by_cases h1 : E = 0 <;> by_cases h2 : a1 < 0 <;> by_cases h3 : (nt : Int) ≤ a1 <;> simp [h1, h2, h3]
  rcases hways with hE0 | ⟨rfl, hn⟩ | ⟨rfl, hn, hge⟩ | ⟨rfl, hn, hge⟩
  · have d1 : (E != 0) = true := by simp [hE0]
    clear hx2
    go_wp2_with fail
    refine (mlives_any w2).mono ?_
    rintro e w3 ⟨rfl, hb3⟩
    have HB3 : Hid (Below w.heap.size w w3) := HUP.out w3 (below_call HB2.out HB2.out.size hb3)
    clear hb3
    go_wp2_with fail
    go_ret
    exact ⟨by simp, HB3.out⟩
  · clear hx2
    go_wp2_with fail
    refine (mlives_any w2).mono ?_
    rintro e w3 ⟨rfl, hb3⟩
    have HB3 : Hid (Below w.heap.size w w3) := HUP.out w3 (below_call HB2.out HB2.out.size hb3)
    clear hb3
    go_wp2_with fail
    go_ret
    exact ⟨by simp, HB3.out⟩
  · clear hx2
    go_wp2_with fail
    refine (mlives_any w2).mono ?_
    rintro e w3 ⟨rfl, hb3⟩
    have HB3 : Hid (Below w.heap.size w w3) := HUP.out w3 (below_call HB2.out HB2.out.size hb3)
    clear hb3
    go_wp2_with fail
    go_ret
    exact ⟨by simp, HB3.out⟩
  · obtain ⟨k, rfl⟩ : ∃ k : Nat, a1 = k := ⟨a1.toNat, by omega⟩
    have hkl : k < lt.length := by rw [HLT.out.1]; omega
    obtain ⟨a, rfl, c0, c1_, c2, c3, c4, c5, c6⟩ := trow_at (trow_below HRT.out (HUP.out w2 HB2.out)) hkl
    have HRK := HRE.out k hkl
    obtain ⟨t, ht⟩ : ∃ t, lt[k] = t := ⟨_, rfl⟩
    rw [ht] at c0 c1_ c2 c3 c4 c5 c6 HRK
    obtain ⟨ti, to_, tk, tx, ty, tf, td⟩ := t
    simp only at c0 c1_ c2 c3 c4 c5 c6
    have HR2 : Hid _ := HRK
    obtain ⟨G, hG⟩ : ∃ G, w2.heap.size = G := ⟨_, rfl⟩
    obtain ⟨w3, hw3⟩ : ∃ w3, w2.alloc (.cells #[.int .i64 ti, .int .i64 to_, .int .i64 tk, .int .i64 tx, .int .i64 ty, .int .i64 tf, .int .i64 td] 41) = w3 := ⟨_, rfl⟩
    obtain ⟨w4, hw4⟩ : ∃ w4, w3.alloc (.cells #[.int .i64 ti, .int .i64 to_, .int .i64 tk, .int .i64 tx, .int .i64 ty, .int .i64 tf, .int .i64 td] 41) = w4 := ⟨_, rfl⟩
    obtain ⟨w5, hw5⟩ : ∃ w5, w4.setCell ⟨F, 6, none⟩ (.slice (some ⟨G + 1, 0, none⟩) 1 1) = w5 := ⟨_, rfl⟩
    have HT5 := tboxes (t := ⟨ti, to_, tk, tx, ty, tf, td⟩) hx2 ⟨y0, y1⟩ (HUP.out w2 HB2.out) HF.out hG hw3 hw4 hw5
    have HT : Hid _ := HT5
    have hb3 : Below w2.heap.size w2 w3 := by rw [← hw3]; exact alloc_below _ _
    have hb4 : Below w3.heap.size w3 w4 := by rw [← hw4]; exact alloc_below _ _
    have s3 : w3.heap.size = G + 1 := by rw [← hw3, World.size_alloc, hG]
    have hx4 := bx9_below hx2 (below_call hb3 hb3.size hb4)
    have fz6 := bx9_free hx4 6
    obtain ⟨-, -, -, -, -, -, x6, -, -⟩ := bx9_c9 hx4
    obtain ⟨v0, v1, v2, v3, v4, v5, v6⟩ := boxt hG hw3 (Below.refl _ _)
    have hGF : ¬ F = G := by have := bx9_lt hx2; omega
    have hGF1 : ¬ F = G + 1 := by have := bx9_lt hx2; omega
    have l1 : (k : Int) < nt := by omega
    have l2 : (0 : Int) ≤ k := by omega
    clear HRK HT5 hx2 ht y0 y1 hx4 hb3 hb4
    have HT5c : Hid (∀ V, Below w5.heap.size w5 V → bx9 V F (.int .i64 A) (.int .i64 B) (.slice p n c) (.slice pb nb cb) (.slice ps ns cs) (.slice pm nm cm) (.slice (some ⟨G + 1, 0, none⟩) 1 1) (.int .i64 N) (.int .i64 T) ∧ (V.cell? ⟨F + 1, 0, none⟩ = some (.int .i64 x2) ∧ V.cell? ⟨F + 1, 1, none⟩ = some (.int .i64 y2)) ∧ d7 V G ti to_ tk tx ty tf td ∧ trow V (some ⟨G + 1, 0, none⟩) [⟨ti, to_, tk, tx, ty, tf, td⟩] ∧ Below w.heap.size w V) := fun V hV => by
      obtain ⟨h1, h2, ⟨h30, h31, h32, h33, h34, h35, h36⟩, h4, h5⟩ := HT.out
      exact ⟨bx9_below h1 hV, ⟨cell_call hV h2.1, cell_call hV h2.2⟩, ⟨cell_call hV h30, cell_call hV h31, cell_call hV h32, cell_call hV h33, cell_call hV h34, cell_call hV h35, cell_call hV h36⟩, trow_below h4 hV, below_call h5 h5.size hV⟩
    obtain ⟨gx5, ⟨g0, g1⟩, ⟨u0, u1, u2, u3, u4, u5, u6⟩, -, hB5⟩ := HT5c.out w5 (Below.refl _ _)
    obtain ⟨q0, q1, q2, q3, q4, q5, q6, q7, q8⟩ := bx9_c9 gx5
    have HF5 : Hid _ := HFND.out tx ty w5 hB5
    clear gx5 hB5
    go_wp2_with fail
    refine Calls.mono HF5.out ?_
    rintro e w6 ⟨⟨v, D, Ef, rfl, hf⟩, hb6⟩
    have HB6 : Hid (Below w5.heap.size w5 w6) := hb6
    have HFR : Hid (finr A B l ⟨tx, ty⟩ ⟨x2, y2⟩ w5.heap.size w6 v D Ef) := hf
    clear hf hb6 c0 c1_ c2 c3 c4 c5 c6 z0 z1 z2 z3 z4 z5 z6 z7 z8 x6 fz6 v0 v1 v2 v3 v4 v5 v6 g0 g1 u0 u1 u2 u3 u4 u5 u6 q0 q1 q2 q3 q4 q5 q6 q7 q8 hw3 hw4 hw5 HF5 hG s3
    obtain ⟨gx6, ⟨g0, g1⟩, ⟨u0, u1, u2, u3, u4, u5, u6⟩, hr6, hB6⟩ := HT5c.out w6 HB6.out
    obtain ⟨q0, q1, q2, q3, q4, q5, q6, q7, q8⟩ := bx9_c9 gx6
    have HR6 : Hid _ := HR2.out ⟨G + 1, 0, none⟩ w6 (by first | rfl | trivial) hB6 hr6
    clear gx6 hr6 hB6 HR2
    go_wp2_with fail
    refine Calls.mono HR6.out ?_
    rintro e w7 ⟨⟨s', kk, rfl, how, hnt, hr⟩, hb7⟩
    have hend := come (t := ⟨ti, to_, tk, tx, ty, tf, td⟩) (b := ⟨x2, y2⟩) HFR.out hr
    obtain ⟨A', B', p', n', c', l', pb', nb', cb', lb', ps', ns', cs', ls', pm', nm', cm', lm', pt', nt', ct', lt', N', T'⟩ := s'
    dsimp only at hnt hr hend
    subst hnt
    have HB57 : Hid (Below w5.heap.size w5 w7) := below_call HB6.out HB6.out.size hb7
    have HB67 : Hid (Below w6.heap.size w6 w7) := hb7
    obtain ⟨J, hJ⟩ : ∃ J, w7.heap.size = J := ⟨_, rfl⟩
    obtain ⟨w8, hw8⟩ : ∃ w8, w7.alloc (.cells #[.int .i64 A', .int .i64 B', .slice p' n' c', .slice pb' nb' cb', .slice ps' ns' cs', .slice pm' nm' cm', .slice pt' 1 ct', .int .i64 N', .int .i64 T'] 28) = w8 := ⟨_, rfl⟩
    have b78 : Below w7.heap.size w7 w8 := by rw [← hw8]; exact alloc_below _ _
    have HB58 : Hid (Below w5.heap.size w5 w8) := below_call HB57.out HB57.out.size b78
    have HB68 : Hid (Below w6.heap.size w6 w8) := below_call HB67.out HB67.out.size b78
    have x8 : bx9 w8 J (.int .i64 A') (.int .i64 B') (.slice p' n' c') (.slice pb' nb' cb') (.slice ps' ns' cs') (.slice pm' nm' cm') (.slice pt' 1 ct') (.int .i64 N') (.int .i64 T') := by rw [← hw8, ← hJ]; exact box9_new _ _ _ _ _ _ _ _ _ _
    have HM8 : Hid (minet w6.heap.size w8 (.slice pt' 1 ct') lt') := minet_kept how.kt b78
    clear hr how hb7 b78 g0 g1 u0 u1 u2 u3 u4 u5 u6 q0 q1 q2 q3 q4 q5 q6 q7 q8 HR6
    obtain ⟨-, -, -, -, -, -, r6, -, -⟩ := bx9_c9 x8
    obtain ⟨-, -, ⟨u0, u1, u2, u3, u4, u5, u6⟩, -, hB8⟩ := HT5c.out w8 HB58.out
    have HB8 : Hid (Below w.heap.size w w8) := hB8
    rcases hend with ⟨hEf, rfl, rfl⟩ | ⟨rfl, u, m, g, cap, rfl, hm1, hm2, rfl, hkm, hkk, k0, k1⟩
    · have d1 : (Ef != 0) = true := by simp [hEf]
      obtain ⟨g, rfl⟩ := minet_ptr HM8.out rfl (by decide)
      obtain ⟨c0, c1, c2, c3, c4, c5, c6⟩ := minet_at HM8.out rfl (k := 0) (t := ⟨ti, to_, tk, tx, ty, tf, td⟩) rfl
      simp only [Nat.zero_mul, Nat.zero_add] at c0 c1 c2 c3 c4 c5 c6
      clear x8 hB8
      go_wp2_with fail
      clear hw8 hJ
      go_quiet (fail)
      go_wp2_with fail
      go_ret
      exact ⟨rfl, below_drewN HB8.out _⟩
    · obtain ⟨g2, rfl⟩ := minet_ptr HM8.out rfl (by decide)
      obtain ⟨c0, c1, c2, c3, c4, c5, c6⟩ := minet_at HM8.out rfl (k := 0) (t := u) rfl
      simp only [Nat.zero_mul, Nat.zero_add] at c0 c1 c2 c3 c4 c5 c6
      obtain ⟨ui, uo, uk, ux, uy, uf, ud⟩ := u
      dsimp only at c3 c4 k0 k1
      have k0 := cell_call HB68.out k0
      have k1 := cell_call HB68.out k1
      clear x8 hB8 c0 c1 c2 c5 c6
      by_cases h200 : 200 < m - 1
      · obtain rfl : kk = 200 := by omega
        have k0 : w8.cell? ⟨g, 400, none⟩ = some (.int .i64 ux) := k0
        have k1 : w8.cell? ⟨g, 401, none⟩ = some (.int .i64 uy) := k1
        obtain ⟨M, hM⟩ : ∃ M : Int, (m : Int) - 1 = M := ⟨_, rfl⟩
        have d1 : IntKind.i64.wrap ((m : Int) - 1) = M := by rw [hM]; exact wrp (by omega) (by omega)
        have l1 : (200 : Int) < M := by omega
        have l3 : (200 : Int) < m := by omega
        clear hkk h200 hM hm1 hm2 hkm
        go_wp2_with fail
        clear hw8 hJ
        go_quiet (fail)
        go_wp2_with fail
        go_ret
        exact ⟨rfl, below_drewN HB8.out _⟩
      · have d1 : IntKind.i64.wrap ((m : Int) - 1) = (kk : Int) := by rw [wrp (by omega) (by omega)]; omega
        have l1 : ¬ (200 : Int) < (kk : Int) := by omega
        have l3 : (kk : Int) < m := by omega
        have l4 : (0 : Int) ≤ (kk : Int) := by omega
        clear hkk h200 hm1 hm2 hkm
        go_wp2_with fail
        clear hw8 hJ
        go_quiet (fail)
        go_wp2_with fail
        go_ret
        exact ⟨rfl, below_drewN HB8.out _⟩

set_option maxRecDepth 100000 in
theorem lifted (os : Os) (started : os.Started) (H : Type) (enc : TypeId × Value → H) :
    ReturnsInHanded {} Try.checked os 6 .any (Rows.marchComesSpec.pre6 enc Try.prog Try.f6 Rows.marchComesRow.domain false) (Rows.marchComesSpec.post enc Try.prog Try.f6 false true false false) := by
  refine returnsInHanded_of_change (C := Try.checked) own started (by kernel_rfl) Try.func6
    (ChangeSpec.witness6 (enc := enc) (C := Try.checked) false ⟨#[], #[.agg #[.int .i64 0, .int .i64 0, .slice none 0 0, .slice none 0 0, .slice none 0 0, .slice none 0 0, .slice none 0 0, .int .i64 0, .int .i64 0], .int .i64 0, .agg #[.int .i64 0, .int .i64 0]], []⟩ 8 (by kernel_rfl) (by kernel_rfl) (by kernel_rfl) (by kernel_rfl)) ?_
  intro W base args ds gs before hval0 hW hcnd _
  have hval : ∀ (j : Nat) t v, Try.f6.params[j]? = some t → args[j]? = some v → Value.okWide Try.prog W .any base t v := hval0
  have hW' := hW
  obtain ⟨p, q, hA0, hV, rfl, hfz, hnd⟩ := hW
  have hA : DataW.TrodAll enc Try.prog W 0 (fun _ => true) true Try.f6.params.toList args.toList ds p := hA0
  rw [Try.params6] at hA hval
  obtain ⟨v0, vs0, d0, ds0, p0, q0, hargs, rfl, rfl, h0, r0⟩ := trodAll_cons hA
  obtain ⟨v1, vs1, d1, ds1, p1, q1, rfl, rfl, rfl, h1, r1⟩ := trodAll_cons r0
  obtain ⟨v2, vs2, d2, ds2, p2, q2, rfl, rfl, rfl, h2, r2⟩ := trodAll_cons r1
  obtain ⟨rfl, rfl, rfl⟩ := trodAll_nil r2
  obtain rfl : args = #[v0, v1, v2] := by cases args; simp_all
  obtain ⟨rfl, rfl⟩ := trodVars_none hV
  obtain ⟨s0, rfl, k0⟩ := open_wld (hval 0 28 v0 rfl rfl) h0
  obtain ⟨a1, rfl, rfl, rfl, w1⟩ := open_int Try.underlying3 (hval 1 3 v1 rfl rfl) h1
  obtain ⟨x2, y2, rfl, rfl, rfl, w2x, w2y⟩ := open_two Try.underlying31 Try.underlying3 Try.underlying3 rfl rfl (by kernel_rfl) (by kernel_rfl) (by kernel_rfl) (hval 2 31 v2 rfl rfl) h2

  clear hA0 hval0
  refine (walk s0 a1 x2 y2 w1 w2x w2y W k0).mono fun e W' ⟨he, hg⟩ => ?_
  subst he
  exact ⟨_, rfl, law_post (by kernel_rfl) (by kernel_rfl) rfl (by kernel_rfl) Try.underlying4 hW' rfl hg⟩

theorem over : Rows.marchComesRow.holds Try.pinned (OpenSpec.ofChange Rows.marchComesSpec) :=
  OpenClaim.holds_of_wide 6 Try.f6 rfl rfl rfl rfl rfl rfl rfl ⟨rfl, rfl, rfl, rfl, rfl⟩ rfl rfl rfl rfl rfl (by kernel_rfl) Try.func6 (by kernel_rfl)
    (of_decide_eq_true (by kernel_rfl)) (by unfold Func.isWrapper; first | (rw [if_pos (by decide +kernel)]; kernel_rfl) | (rw [if_neg (by decide +kernel)]; exact ⟨rfl, rfl⟩))
    (fun os started H enc _ => lifted os started H enc)

theorem proved : Rows.MarchComesSaid :=
  over
end Go.Proofs.Ytnbbfnlfcncgnaa.marchComes

namespace Go.Proofs.Ytnbbfnlfcncgnaa
/-- who is alone comes wherever there is a way -/
theorem marchComes_holds : Rows.MarchComesSaid := marchComes.proved
#print axioms marchComes_holds
end Go.Proofs.Ytnbbfnlfcncgnaa
