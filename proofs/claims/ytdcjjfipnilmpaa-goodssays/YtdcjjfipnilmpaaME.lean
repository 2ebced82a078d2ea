/- What lies in memory while the document's own Deeded works; a deed of no kind -/
import Derived.Test.YtdcjjfipnilmpaaRa
import Derived.Test.YtdcjjfipnilmpaaKg
import Derived.Test.YtdcjjfipnilmpaaGx
/- What lies in memory while the document's own Deeded works. -/
namespace Go.Proofs.Ytdcjjfipnilmpaa
open Go.RowKit
set_option linter.unusedVariables false

/-- Stocks, mines and troops are one's own. -/
structure sown (B : Nat) (V : World) (s : Wld) : Prop where
  ks : mine 3 vi B V (.slice s.ps s.ns s.cs) s.ls
  km : mine 3 vi B V (.slice s.pm s.nm s.cm) s.lm
  kt : minet B V (.slice s.pt s.nt s.ct) s.lt
  ap : apart (.slice s.ps s.ns s.cs) (.slice s.pm s.nm s.cm)
/-- A deed's box. -/
def bxd (V : World) (D : Nat) (d : Ded) : Prop := V.heap[D]? = some (.cells #[.int .i64 d.k, .int .i64 d.w, .int .i64 d.x, .int .i64 d.y, .int .i64 d.a] 52)
/-- The boxes of Deeded's world (J), its deed (D), its answer (R); behind C the rows of its own. -/
structure sit (C J D R : Nat) (V : World) (s : Wld) (d : Ded) : Prop where
  x : bx9 V J (.int .i64 s.A) (.int .i64 s.B) (.slice s.p s.n s.c) (.slice s.pb s.nb s.cb) (.slice s.ps s.ns s.cs) (.slice s.pm s.nm s.cm) (.slice s.pt s.nt s.ct) (.int .i64 s.N) (.int .i64 s.T)
  d : bxd V D d
  r : ∃ a b c e f g h i j, bx9 V R a b c e f g h i j
  o : sown C V s
  jd : J < D
  dr : D < R
  rc : R < C
theorem bxd_ex {S : Nat → Prop} {V V' : World} {D : Nat} {d : Ded} (h : bxd V D d) (he : Ex S V V') (hn : ¬ S D) : bxd V' D d := by
  unfold bxd at h ⊢
  rw [he.block D (heap_lt h) hn]; exact h
theorem bxd_cells {V : World} {D : Nat} {d : Ded} (h : bxd V D d) : V.cell? ⟨D, 0, none⟩ = some (.int .i64 d.k) ∧ V.cell? ⟨D, 1, none⟩ = some (.int .i64 d.w) ∧ V.cell? ⟨D, 2, none⟩ = some (.int .i64 d.x) ∧ V.cell? ⟨D, 3, none⟩ = some (.int .i64 d.y) ∧ V.cell? ⟨D, 4, none⟩ = some (.int .i64 d.a) := by
  unfold bxd at h
  simp [World.cell?, h]
theorem sown_ex {S : Nat → Prop} {C : Nat} {V V' : World} {s : Wld} (h : sown C V s) (he : Ex S V V') (hn : ∀ g, C ≤ g → ¬ S g) : sown C V' s where
  ks := own_stays h.ks he (fun g hg => hn g (World.ownsRow.lt h.ks g hg).1)
  km := own_stays h.km he (fun g hg => hn g (World.ownsRow.lt h.km g hg).1)
  kt := own_stays h.kt he (fun g hg => hn g (World.ownsRow.lt h.kt g hg).1)
  ap := h.ap
theorem sown_mono {B C : Nat} {V : World} {s : Wld} (h : sown C V s) (hB : B ≤ C) : sown B V s := ⟨own_mono h.ks hB, own_mono h.km hB, own_mono h.kt hB, h.ap⟩
section
variable {C J D R : Nat} {V V' : World} {s : Wld} {d : Ded}
theorem sit_below (h : sit C J D R V s d) (hb : Below V.heap.size V V') : sit C J D R V' s d := by
  have he : Ex (fun _ => False) V V' := Ex.of_below hb
  obtain ⟨a, b, c, e, f, g, h', i, j, hr⟩ := h.r
  exact ⟨bx9_below h.x hb, bxd_ex h.d he (fun e => e), ⟨a, b, c, e, f, g, h', i, j, bx9_below hr hb⟩, sown_ex h.o he (fun _ _ e => e), h.jd, h.dr, h.rc⟩
/-- A cell of a row of one's own written: the boxes are as they were. -/
theorem sit_boxes {g : Nat} {s' : Wld} (h : sit C J D R V s d) (hg : C ≤ g) (he : Ex (fun j => j = g) V V') (ho : sown C V' s') (hs : likes s s') (h1 : s'.ps = s.ps) (h2 : s'.ns = s.ns) (h3 : s'.cs = s.cs) (h4 : s'.pm = s.pm) (h5 : s'.nm = s.nm) (h6 : s'.cm = s.cm) (h7 : s'.pt = s.pt) (h8 : s'.nt = s.nt) (h9 : s'.ct = s.ct) (h10 : s'.N = s.N) : sit C J D R V' s' d := by
  have q1 := h.jd
  have q2 := h.dr
  have q3 := h.rc
  obtain ⟨a, b, c, e, f, g', h', i, j, hr⟩ := h.r
  refine ⟨?_, bxd_ex h.d he (by omega), ⟨a, b, c, e, f, g', h', i, j, bx9_ex hr he (by omega)⟩, ho, q1, q2, q3⟩
  rw [hs.a, hs.b, hs.p, hs.n, hs.c, hs.pb, hs.nb, hs.cb, hs.t, h1, h2, h3, h4, h5, h6, h7, h8, h9, h10]
  exact bx9_ex h.x he (by omega)
theorem sit_load {g k : Nat} {t : Trp} (h : sit C J D R V s d) (hp : s.pt = some ⟨g, 0, none⟩) (hk : s.lt[k]? = some t) (x : Int) : sit C J D R (V.setCell ⟨g, k * 7 + 6, none⟩ (.int .i64 x)) { s with lt := s.lt.set k (t.load x) } d := by
  have he : Ex (fun j => j = g) V (V.setCell ⟨g, k * 7 + 6, none⟩ (.int .i64 x)) := Ex.set (S := fun j => j = g) V ⟨g, k * 7 + 6, none⟩ rfl _
  have hg : (Value.slice s.pt s.nt s.ct).ownBlock = some g := by rw [hp]; rfl
  have hC := (World.ownsRow.lt h.o.kt g hg).1
  refine sit_boxes h hC he ⟨own_stays h.o.ks he (fun j hj e => own_apart h.o.ks h.o.kt (by decide) j hj (by rw [e, hg])), own_stays h.o.km he (fun j hj e => own_apart h.o.km h.o.kt (by decide) j hj (by rw [e, hg])), ?_, h.o.ap⟩ ⟨rfl, rfl, rfl, rfl, rfl, rfl, rfl, rfl, rfl, rfl, rfl⟩ rfl rfl rfl rfl rfl rfl rfl rfl rfl rfl
  have hm := h.o.kt
  unfold minet at hm ⊢
  simp only
  rw [flat7_load t x s.lt k hk, List.length_set]
  rw [hp, ← (own_parts h.o.kt).1] at hm ⊢
  exact (World.ownsRow.stored hm _ _).1
theorem sit_lm {g : Nat} (h : sit C J D R V s d) (hp : s.pm = some ⟨g, 0, none⟩) (j : Nat) (x : Int) : sit C J D R (V.setCell ⟨g, j, none⟩ (.int .i64 x)) { s with lm := s.lm.set j x } d := by
  have he : Ex (fun j => j = g) V (V.setCell ⟨g, j, none⟩ (.int .i64 x)) := Ex.set (S := fun j => j = g) V ⟨g, j, none⟩ rfl _
  have hg : (Value.slice s.pm s.nm s.cm).ownBlock = some g := by rw [hp]; rfl
  have hC := (World.ownsRow.lt h.o.km g hg).1
  refine sit_boxes h hC he ⟨own_stays h.o.ks he (fun j hj e => h.o.ap j hj (by rw [e, hg])), ?_, own_stays h.o.kt he (fun j hj e => own_apart h.o.kt h.o.km (by decide) j hj (by rw [e, hg])), h.o.ap⟩ ⟨rfl, rfl, rfl, rfl, rfl, rfl, rfl, rfl, rfl, rfl, rfl⟩ rfl rfl rfl rfl rfl rfl rfl rfl rfl rfl
  have hm := h.o.km
  simp only
  rw [hp] at hm ⊢
  exact mine_put hm (own_parts h.o.km).1 j x
theorem sit_ls {g : Nat} (h : sit C J D R V s d) (hp : s.ps = some ⟨g, 0, none⟩) (j : Nat) (x : Int) : sit C J D R (V.setCell ⟨g, j, none⟩ (.int .i64 x)) { s with ls := s.ls.set j x } d := by
  have he : Ex (fun j => j = g) V (V.setCell ⟨g, j, none⟩ (.int .i64 x)) := Ex.set (S := fun j => j = g) V ⟨g, j, none⟩ rfl _
  have hg : (Value.slice s.ps s.ns s.cs).ownBlock = some g := by rw [hp]; rfl
  have hC := (World.ownsRow.lt h.o.ks g hg).1
  refine sit_boxes h hC he ⟨?_, own_stays h.o.km he (fun j hj e => h.o.ap g hg (by rw [← e, hj])), own_stays h.o.kt he (fun j hj e => own_apart h.o.kt h.o.ks (by decide) j hj (by rw [e, hg])), h.o.ap⟩ ⟨rfl, rfl, rfl, rfl, rfl, rfl, rfl, rfl, rfl, rfl, rfl⟩ rfl rfl rfl rfl rfl rfl rfl rfl rfl rfl
  have hm := h.o.ks
  simp only
  rw [hp] at hm ⊢
  exact mine_put hm (own_parts h.o.ks).1 j x
end
/-- What Deeded tells. -/
def dres (B : Nat) (s : Wld) (P : Shp → Bool → Prop) (e : Ending) (V : World) : Prop := ∃ (s' : Wld) (r : Bool), e = .returned (.tuple #[s'.val, .bool r]) ∧ likes s s' ∧ sown B V s' ∧ P s'.shp r
end Go.Proofs.Ytdcjjfipnilmpaa
/- The cells about a base, one behind the other; a troop appended to the troops of Deeded's world, its NextId written. -/
namespace Go.Proofs.Ytdcjjfipnilmpaa
open Go.RowKit Go.Maps
set_option linter.unusedVariables false

/-- The k-th cell that is tried. -/
def bcl (b : Cel) : Nat → Cel
  | 0 => b
  | j + 1 => nc b j
theorem bcl_some {P : Cel → Bool} {b : Cel} {k : Nat} (hk : k < 10) (hn : ∀ j, j < k → P (bcl b j) = false) (hp : P (bcl b k) = true) : (b :: nineN b).find? P = some (bcl b k) := by
  cases k with
  | zero => rw [List.find?_cons]; have : P b = true := hp; rw [this]; rfl
  | succ j => exact nine_some (hn 0 (by omega)) (by omega) (fun i hi => hn (i + 1) (by omega)) hp
theorem bcl_none {P : Cel → Bool} {b : Cel} (hn : ∀ j, j < 10 → P (bcl b j) = false) : (b :: nineN b).find? P = none :=
  nine_none (hn 0 (by omega)) (fun i hi => hn (i + 1) (by omega))
section
variable {C J D R : Nat} {V V' : World} {s : Wld} {d : Ded}
theorem sit_N (h : sit C J D R V s d) (x : Int) : sit C J D R (V.setCell ⟨J, 7, none⟩ (.int .i64 x)) { s with N := x } d := by
  have he : Ex (fun j => j = J) V (V.setCell ⟨J, 7, none⟩ (.int .i64 x)) := Ex.set (S := fun j => j = J) V ⟨J, 7, none⟩ rfl _
  have q1 := h.jd
  have q2 := h.dr
  have q3 := h.rc
  obtain ⟨a, b, c, e, f, g', h', i, j, hr⟩ := h.r
  have ho := sown_ex h.o he (by intro g hg; omega)
  exact ⟨bx9_set7 h.x _, bxd_ex h.d he (by omega), ⟨a, b, c, e, f, g', h', i, j, bx9_ex hr he (by omega)⟩, ⟨ho.ks, ho.km, ho.kt, ho.ap⟩, q1, q2, q3⟩
/-- A box of a cell written: all else is as it was. -/
theorem sit_cell {G : Nat} {q : Array Value} (h : sit C J D R V s d) (he : Ex (fun j => j = G) V V') (hg : C ≤ G) (hG : V.heap[G]? = some (.cells q 45)) : sit C J D R V' s d := by
  have q1 := h.jd
  have q2 := h.dr
  have q3 := h.rc
  obtain ⟨a, b, c, e, f, g', h', i, j, hr⟩ := h.r
  exact ⟨bx9_ex h.x he (by omega), bxd_ex h.d he (by omega), ⟨a, b, c, e, f, g', h', i, j, bx9_ex hr he (by omega)⟩, ⟨own_stays h.o.ks he (fun g hg e => own_not h.o.ks hG (by decide) g hg e), own_stays h.o.km he (fun g hg e => own_not h.o.km hG (by decide) g hg e), own_stays h.o.kt he (fun g hg e => own_not h.o.kt hG (by decide) g hg e), h.o.ap⟩, q1, q2, q3⟩
theorem sit_append (h : sit C J D R V s d) (T : Trp) (hl : s.lt.length ≤ 100) (hC : C ≤ V.heap.size) :
    ∃ p9 c9 V9, (Builtin.append_ #[26, 26] 26 #[.slice s.pt s.nt s.ct, .slice (some ⟨V.heap.size, 0, none⟩) 1 1]).run Try.prog (V.alloc (.cells #[.int .i64 T.i, .int .i64 T.o, .int .i64 T.k, .int .i64 T.x, .int .i64 T.y, .int .i64 T.f, .int .i64 T.d] 47)) = .ok (.slice p9 (s.nt + 1) c9) V9 ∧
      Ex (fun g => some g = (Value.slice s.pt s.nt s.ct).ownBlock) V V9 ∧ bx9 V9 J (.int .i64 s.A) (.int .i64 s.B) (.slice s.p s.n s.c) (.slice s.pb s.nb s.cb) (.slice s.ps s.ns s.cs) (.slice s.pm s.nm s.cm) (.slice s.pt s.nt s.ct) (.int .i64 s.N) (.int .i64 s.T) ∧
      sit C J D R (V9.setCell ⟨J, 6, none⟩ (.slice p9 (s.nt + 1) c9)) { s with pt := p9, nt := s.nt + 1, ct := c9, lt := s.lt ++ [T] } d := by
  obtain ⟨V0, hV0⟩ : ∃ V0, V.alloc (.cells #[.int .i64 T.i, .int .i64 T.o, .int .i64 T.k, .int .i64 T.x, .int .i64 T.y, .int .i64 T.f, .int .i64 T.d] 47) = V0 := ⟨_, rfl⟩
  have h0 : Below V.heap.size V V0 := by rw [← hV0]; exact alloc_below _ _
  have hT7 : trow V0 (some ⟨V.heap.size, 0, none⟩) [T] := by rw [← hV0]; exact trow_heap (World.alloc_heap_new V _)
  have hnt := (own_parts h.o.kt).1
  obtain ⟨v9, V9, hrun9, hm9, hg9⟩ := run_moret (d := 1) (m := 1) 26 (minet_kept h.o.kt h0) hT7 rfl (by omega) (Nat.le_trans hC h0.size)
  obtain ⟨p9, c9, hv9⟩ := mine_form hm9
  have hn9 : (s.lt ++ [T]).length = s.nt + 1 := by rw [List.length_append, List.length_singleton, hnt]
  rw [hn9] at hv9
  subst hv9
  have e1 : Ex (fun g => some g = (Value.slice s.pt s.nt s.ct).ownBlock) V V9 := (Ex.of_below (S := fun g => some g = (Value.slice s.pt s.nt s.ct).ownBlock) h0).trans (Ex.of_grown hg9) (fun _ _ e => e)
  have hJt : ¬ some J = (Value.slice s.pt s.nt s.ct).ownBlock := fun e => own_not h.o.kt h.x (by decide) J e.symm rfl
  have hx9 := bx9_ex h.x e1 hJt
  have q1 := h.jd
  have q2 := h.dr
  have q3 := h.rc
  have e2 : Ex (fun g => g = J) V9 (V9.setCell ⟨J, 6, none⟩ (.slice p9 (s.nt + 1) c9)) := Ex.set (S := fun j => j = J) V9 ⟨J, 6, none⟩ rfl _
  have e3 : Ex (fun g => g = J ∨ some g = (Value.slice s.pt s.nt s.ct).ownBlock) V (V9.setCell ⟨J, 6, none⟩ (.slice p9 (s.nt + 1) c9)) := (e1.mono (S' := fun g => g = J ∨ some g = (Value.slice s.pt s.nt s.ct).ownBlock) (fun _ _ e => .inr e)).trans e2 (fun _ _ e => .inl e)
  have hx : ∀ {e : TypeId} {z B' n : Nat} {v : Value} {xs : List Value}, V.ownsRow B' e z v n xs → e ≠ 28 → e ≠ 47 → ∀ j, v.ownBlock = some j → ¬ (j = J ∨ some j = (Value.slice s.pt s.nt s.ct).ownBlock) := fun hr hne hne2 j hj hh => by
    rcases hh with e | e
    · exact own_not hr h.x hne j hj e
    · exact own_apart hr h.o.kt hne2 j hj e
  obtain ⟨a, b, c, e, f, g', h', i, j, hr⟩ := h.r
  have hRt : ¬ some R = (Value.slice s.pt s.nt s.ct).ownBlock := fun e => own_not h.o.kt hr (by decide) R e.symm rfl
  have hDt : ¬ some D = (Value.slice s.pt s.nt s.ct).ownBlock := fun e => own_not h.o.kt h.d (by decide) D e.symm rfl
  refine ⟨p9, c9, V9, by rw [hV0]; exact hrun9, e1, hx9, ⟨bx9_set6 hx9 _, bxd_ex h.d e3 (fun e => e.elim (fun e => by omega) hDt), ⟨a, b, c, e, f, g', h', i, j, bx9_ex hr e3 (fun e => e.elim (fun e => by omega) hRt)⟩, ⟨own_stays h.o.ks e3 (hx h.o.ks (by decide) (by decide)), own_stays h.o.km e3 (hx h.o.km (by decide) (by decide)), ?_, h.o.ap⟩, q1, q2, q3⟩⟩
  have hm9' : minet C V9 (.slice p9 (s.nt + 1) c9) (s.lt ++ [T]) := hm9
  exact own_stays hm9' e2 (fun j hj e => own_not hm9' hx9 (by decide) j hj e)
end
end Go.Proofs.Ytdcjjfipnilmpaa
/- What Deeded tells of a deed of no kind. -/
namespace Go.Proofs.Ytdcjjfipnilmpaa
open Go.RowKit Go.Maps
set_option linter.unusedVariables false

set_option maxRecDepth 40000 in
set_option maxHeartbeats 16000000 in
theorem Deeded_none (s : Wld) (W H : Nat) (d : Ded) (w : World) (h : s.fit w) (hk : okw s W H) (hd : fitd d) (h1 : ¬ d.k = 1) (h2 : ¬ d.k = 2) (h3 : ¬ d.k = 3) :
    Calls Try.prog 38 #[s.val, dv d] w fun e w' => dres w.heap.size s (fun s' r => Ds W H s.l s.lb s.shp d s' r) e w' ∧ Below w.heap.size w w' := by
  have HK : Hid (¬ d.k = 1 ∧ ¬ d.k = 2 ∧ ¬ d.k = 3) := ⟨h1, h2, h3⟩
  clear h1 h2 h3
  have HOK : Hid (oks W H s.l s.lb s.shp ∧ s.A = W ∧ s.B = H) := ⟨okw_oks hk h.hb h.ht, hk.a, hk.b⟩
  have HPB : Hid (row vi w s.p s.l ∧ s.l.length = s.n ∧ crow w s.pb s.lb ∧ s.lb.length = s.nb) := ⟨h.r, h.h, h.rb, h.hb⟩
  have HC1 : Hid (∀ V, Below w.heap.size w V → Calls Try.prog 24 #[.slice s.ps s.ns s.cs] V fun e w' => (∃ v, e = .returned v ∧ w'.ownsRow V.heap.size 3 1 v s.ls.length (s.ls.map vi)) ∧ Below V.heap.size V w') := fun V hV => by
    refine (Clonei_any s.ps s.ns s.cs s.ls V (row_below h.rs hV) h.hs (by have := HOK.out.1.pl.1; have := HOK.out.1.nb; have := h.hs; have e : s.shp.ls.length = s.ls.length := rfl; omega)).mono ?_
    rintro e w' ⟨⟨v, rfl, hv, _⟩, hb⟩
    exact ⟨⟨v, rfl, hv⟩, hb⟩
  have HC2 : Hid (∀ V, Below w.heap.size w V → Calls Try.prog 24 #[.slice s.pm s.nm s.cm] V fun e w' => (∃ v, e = .returned v ∧ w'.ownsRow V.heap.size 3 1 v s.lm.length (s.lm.map vi)) ∧ Below V.heap.size V w') := fun V hV => by
    refine (Clonei_any s.pm s.nm s.cm s.lm V (row_below h.rm hV) h.hm (by
      have h1 := HOK.out.1.mn.1
      have h2 := HOK.out.1.f.2.2.1
      have h3 := wh_le HOK.out.1.f.1 HOK.out.1.f.2.1
      have h4 := h.hm
      have e : s.shp.lm.length = s.lm.length := rfl
      omega)).mono ?_
    rintro e w' ⟨⟨v, rfl, hv, _⟩, hb⟩
    exact ⟨⟨v, rfl, hv⟩, hb⟩
  have HC3 : Hid (∀ V, Below w.heap.size w V → Calls Try.prog 23 #[.slice s.pt s.nt s.ct] V fun e w' => (∃ v, e = .returned v ∧ w'.ownsRow V.heap.size 47 7 v s.lt.length (flat7 s.lt)) ∧ Below V.heap.size V w') := fun V hV => by
    refine (Clonet_any s.pt s.nt s.ct s.lt V (trow_below h.rt hV) h.ht (by have := HOK.out.1.nt; have := h.ht; have e : s.shp.lt.length = s.lt.length := rfl; omega)).mono ?_
    rintro e w' ⟨⟨v, rfl, hv, _⟩, hb⟩
    exact ⟨⟨v, rfl, hv⟩, hb⟩
  have HFD : Hid (fitd d) := hd
  clear h hk hd
  obtain ⟨A, B, p, n, c, l, pb, nb, cb, lb, ps, ns, cs, ls, pm, nm, cm, lm, pt, nt, ct, lt, N, T⟩ := s
  obtain ⟨dk, dw, dx, dy, da⟩ := d
  unfold Wld.val dv
  dsimp only at *
  obtain ⟨J, hJ⟩ : ∃ J, w.heap.size = J := ⟨_, rfl⟩
  obtain ⟨w0, hw0⟩ : ∃ w0, ((w.alloc (.cells #[.int .i64 A, .int .i64 B, .slice p n c, .slice pb nb cb, .slice ps ns cs, .slice pm nm cm, .slice pt nt ct, .int .i64 N, .int .i64 T] 28)).alloc (.cells #[.int .i64 dk, .int .i64 dw, .int .i64 dx, .int .i64 dy, .int .i64 da] 52)).alloc (.cells #[.int .i64 0, .int .i64 0, .slice none 0 0, .slice none 0 0, .slice none 0 0, .slice none 0 0, .slice none 0 0, .int .i64 0, .int .i64 0] 28) = w0 := ⟨_, rfl⟩
  have hB0 : Below w.heap.size w w0 := by rw [← hw0]; exact ((alloc_below w _).alloc (by simp) _).alloc (by simp; omega) _
  have hx0 : bx9 w0 J (.int .i64 A) (.int .i64 B) (.slice p n c) (.slice pb nb cb) (.slice ps ns cs) (.slice pm nm cm) (.slice pt nt ct) (.int .i64 N) (.int .i64 T) := by
    rw [← hw0, ← hJ]
    exact bx9_below (bx9_below (box9_new w _ _ _ _ _ _ _ _ _) (alloc_below _ _)) (alloc_below _ _)
  have hd0 : bxd w0 (J + 1) ⟨dk, dw, dx, dy, da⟩ := by
    rw [← hw0, ← hJ]
    refine bxd_ex (S := fun _ => False) ?_ (Ex.of_below (alloc_below _ _)) (fun e => e)
    have := World.alloc_heap_new (w.alloc (.cells #[.int .i64 A, .int .i64 B, .slice p n c, .slice pb nb cb, .slice ps ns cs, .slice pm nm cm, .slice pt nt ct, .int .i64 N, .int .i64 T] 28)) (.cells #[.int .i64 dk, .int .i64 dw, .int .i64 dx, .int .i64 dy, .int .i64 da] 52)
    rw [World.size_alloc] at this
    exact this
  have hr0 : bx9 w0 (J + 1 + 1) (.int .i64 0) (.int .i64 0) (.slice none 0 0) (.slice none 0 0) (.slice none 0 0) (.slice none 0 0) (.slice none 0 0) (.int .i64 0) (.int .i64 0) := by
    rw [← hw0, ← hJ]
    have := box9_new ((w.alloc (.cells #[.int .i64 A, .int .i64 B, .slice p n c, .slice pb nb cb, .slice ps ns cs, .slice pm nm cm, .slice pt nt ct, .int .i64 N, .int .i64 T] 28)).alloc (.cells #[.int .i64 dk, .int .i64 dw, .int .i64 dx, .int .i64 dy, .int .i64 da] 52)) (.int .i64 0) (.int .i64 0) (.slice none 0 0) (.slice none 0 0) (.slice none 0 0) (.slice none 0 0) (.slice none 0 0) (.int .i64 0) (.int .i64 0)
    rw [World.size_alloc, World.size_alloc] at this
    exact this
  have hs0 : w0.heap.size = J + 1 + 1 + 1 := by rw [← hw0, World.size_alloc, World.size_alloc, World.size_alloc, hJ]
  have HB0 : Hid (Below w.heap.size w w0) := hB0
  have HS0 : Hid (w0.heap.size = J + 1 + 1 + 1 ∧ w.heap.size = J) := ⟨hs0, hJ⟩
  have HX0 : Hid (bx9 w0 J (.int .i64 A) (.int .i64 B) (.slice p n c) (.slice pb nb cb) (.slice ps ns cs) (.slice pm nm cm) (.slice pt nt ct) (.int .i64 N) (.int .i64 T)) := hx0
  have HD0 : Hid (bxd w0 (J + 1) ⟨dk, dw, dx, dy, da⟩ ∧ bx9 w0 (J + 1 + 1) (.int .i64 0) (.int .i64 0) (.slice none 0 0) (.slice none 0 0) (.slice none 0 0) (.slice none 0 0) (.slice none 0 0) (.int .i64 0) (.int .i64 0)) := ⟨hd0, hr0⟩
  have HUP : Hid (∀ V, Ex (fun g => g = J) w0 V → Below w.heap.size w V) := fun V hV => HB0.out.trans (hV.below HB0.out.size (fun k hk e => by have := HS0.out.2; omega))
  clear hB0 hx0 hd0 hr0 hs0
  go_enter Try.func38, Try.ntmps38
  go_wp2_with fail
  clear hw0
  refine regd1 J A B N T p pb ps pm pt n c nb cb ns cs nm cm nt ct ls lm lt w0 _ _ _ _ _ _ _ _ _ _ _ _ _ _ _ _ _ _ _ _ _ _ _ _ _ _ _ _ _ _ _ _ _ _ _ _ _ _ _ _ _ _ _ _ _ _ _ _ _ _ _ _ _ _ _ _ _ _ _ _ _ _ _ _ _ _ _ _ _ _ _ _ _ _ _ _ _ _ _ _ _ _ _ _ _ _ _ _ _ _ _ _ _ _ _ _ _ _ _ _ _ _ _ _ _ _ _ _ _ _ _ _ _ _ _ _ _ _ _ _ _ _ _ _ _ _ _ _ _ _ _ _ _ _ _ _ _ _ _ _ _ _ _ _ _ _ _ _ _ _ _ _ _ _ _ _ _ _ _ _ _ _ _ _ _ _ _ _ _ _ _ _ _ _ _ _ _ _ _ _ _ _ _ _ _ _ _ _ _ _ _ _ _ _ _ _ _ _ _ _ _ _ _ _ _ _ _ _ _ _ _ _ _ _ _ _ _ _ _ _ _ _ _ _ _ _ _ _ _ _ _ _ _ _ _ _ _ _ _ _ _ _ _ _ _ _ _ _ _ _ _ _ _ _ _ _ _ _ _ _ _ _ _ _ _ _ _ _ _ _ _ _ _ _ _ _ _ _ _ _ _ _ _ _ _ _ _ _ _ _ _ _ HX0.out (fun V hV => HC1.out V (HUP.out V hV)) (fun V hV => HC2.out V (HUP.out V hV)) (fun V hV => HC3.out V (HUP.out V hV)) ?_
  intro qs es qm em qt et w1 he hx os om ot ap
  obtain ⟨s1, hs1⟩ : ∃ s1 : Wld, s1 = ⟨A, B, p, n, c, l, pb, nb, cb, lb, qs, ls.length, es, ls, qm, lm.length, em, lm, qt, lt.length, et, lt, N, T⟩ := ⟨_, rfl⟩
  have HSIT1 : Hid (sit (J + 1 + 1 + 1) J (J + 1) (J + 1 + 1) w1 ⟨A, B, p, n, c, l, pb, nb, cb, lb, qs, ls.length, es, ls, qm, lm.length, em, lm, qt, lt.length, et, lt, N, T⟩ ⟨dk, dw, dx, dy, da⟩) := by
    rw [HS0.out.1] at os om ot
    exact ⟨hx, bxd_ex HD0.out.1 he (by omega), ⟨_, _, _, _, _, _, _, _, _, bx9_ex HD0.out.2 he (by omega)⟩, ⟨os, om, ot, ap⟩, by omega, by omega, by omega⟩
  have HB1 : Hid (Below w.heap.size w w1) := HUP.out w1 he
  clear he hx os om ot ap hs1
  obtain ⟨z0, z1, z2, z3, z4, z5, z6, z7, z8⟩ := bx9_c9 HSIT1.out.x
  have HIX : Hid (Calls Try.prog 50 #[.slice qt lt.length et, .func (.func 51) #[] #[.pointer (some ⟨J + 1, 0, none⟩)]] w1 fun e w' => (∃ r, e = .returned (.int .i64 r) ∧ Hid (fst1 (fun t => t.i == dw) lt r)) ∧ Below w1.heap.size w1 w') :=
    IndexFunct_any Try.call51 _ qt lt.length et lt (fun t => t.i == dw) w1 (own_trow HSIT1.out.o.kt) rfl (by have h := HOK.out.1.nt; have e : (Wld.shp ⟨A, B, p, n, c, l, pb, nb, cb, lb, ps, ns, cs, ls, pm, nm, cm, lm, pt, nt, ct, lt, N, T⟩).lt.length = lt.length := rfl; omega)
      (fun t V2 _ hV2 => Who1_at t dw (J + 1) V2 (cell_call2 (bxd_cells HSIT1.out.d).2.1 hV2))
  clear HC1 HC2 HC3 HX0 HD0
  go_wp2_with fail
  refine Calls.mono HIX.out ?_
  rintro e w2 ⟨⟨r, rfl, hfr⟩, hb2⟩
  have HFR : Hid (fst1 (fun t => t.i == dw) lt r) := hfr.out
  have HSIT : Hid (sit (J + 1 + 1 + 1) J (J + 1) (J + 1 + 1) w2 ⟨A, B, p, n, c, l, pb, nb, cb, lb, qs, ls.length, es, ls, qm, lm.length, em, lm, qt, lt.length, et, lt, N, T⟩ ⟨dk, dw, dx, dy, da⟩) := sit_below HSIT1.out hb2
  have HB2 : Hid (Below w.heap.size w w2) := below_call HB1.out HB1.out.size hb2
  clear hfr hb2 HIX z0 z1 z2 z3 z4 z5 z6 z7 z8
  obtain ⟨k1, k2, k3⟩ := HK.out
  have g1 : (dk == 1) = false := by simp [k1]
  have g2 : (dk == 2) = false := by simp [k2]
  have g3 : (dk == 3) = false := by simp [k3]
  obtain ⟨q0, q1, q2, q3, q4⟩ := bxd_cells HSIT.out.d
  obtain ⟨ra, rb, rc, rd, re, rf, rg, rh, ri, hrr⟩ := HSIT.out.r
  obtain ⟨u9, hu9⟩ : ∃ u9, (((((((((w2.setCell ⟨J + 1 + 1, 0, none⟩ (.int .i64 A)).setCell ⟨J + 1 + 1, 1, none⟩ (.int .i64 B)).setCell ⟨J + 1 + 1, 2, none⟩ (.slice p n c)).setCell ⟨J + 1 + 1, 3, none⟩ (.slice pb nb cb)).setCell ⟨J + 1 + 1, 4, none⟩ (.slice qs ls.length es)).setCell ⟨J + 1 + 1, 5, none⟩ (.slice qm lm.length em)).setCell ⟨J + 1 + 1, 6, none⟩ (.slice qt lt.length et)).setCell ⟨J + 1 + 1, 7, none⟩ (.int .i64 N)).setCell ⟨J + 1 + 1, 8, none⟩ (.int .i64 T)) = u9 := ⟨_, rfl⟩
  obtain ⟨x9, e9⟩ := set9 hrr hu9.symm
  have HF9 : Hid (sown w.heap.size u9 ⟨A, B, p, n, c, l, pb, nb, cb, lb, qs, ls.length, es, ls, qm, lm.length, em, lm, qt, lt.length, et, lt, N, T⟩ ∧ Below w.heap.size w u9) := ⟨sown_mono (sown_ex HSIT.out.o e9 (by intro g hg; omega)) (by have := HS0.out.2; omega), HB2.out.trans (e9.below HB2.out.size (by intro k hk; have := HS0.out.2; omega))⟩
  obtain ⟨y0, y1, y2, y3, y4, y5, y6, y7, y8⟩ := bx9_c9 x9
  obtain ⟨o0, o1, o2, o3, o4, o5, o6, o7, o8⟩ := bx9_c9 hrr
  have fr0 := bx9_free hrr 0
  have fr1 := bx9_free hrr 1
  have fr2 := bx9_free hrr 2
  have fr3 := bx9_free hrr 3
  have fr4 := bx9_free hrr 4
  have fr5 := bx9_free hrr 5
  have fr6 := bx9_free hrr 6
  have fr7 := bx9_free hrr 7
  have fr8 := bx9_free hrr 8
  obtain ⟨z0, z1, z2, z3, z4, z5, z6, z7, z8⟩ := bx9_c9 HSIT.out.x
  clear hrr x9 e9
  go_wp2_with fail
  refine ⟨by simp, .tuple #[.agg #[.int .i64 A, .int .i64 B, .slice p n c, .slice pb nb cb, .slice qs ls.length es, .slice qm lm.length em, .slice qt lt.length et, .int .i64 N, .int .i64 T], .bool false], ?_, ⟨⟨A, B, p, n, c, l, pb, nb, cb, lb, qs, ls.length, es, ls, qm, lm.length, em, lm, qt, lt.length, et, lt, N, T⟩, false, rfl, ⟨rfl, rfl, rfl, rfl, rfl, rfl, rfl, rfl, rfl, rfl, rfl⟩, ?_, ds_none HK.out.1 HK.out.2.1 HK.out.2.2⟩, ?_⟩
  · simp [results, Try.results38, go_sem, y0, y1, y2, y3, y4, y5, y6, y7, y8]
  · first | exact HF9.out.1 | (rw [← HS0.out.2]; exact HF9.out.1)
  · first | exact HF9.out.2 | (rw [← HS0.out.2]; exact HF9.out.2)
end Go.Proofs.Ytdcjjfipnilmpaa
