/- A shop in memory: its box, its world's rows of its own, its map of places; what stores and appends do to it. -/
import Derived.Test.YtdcjjfipnilmpaaDp
namespace Go.Proofs.Ytdcjjfipnilmpaa
open Go.RowKit Go.Maps
set_option linter.unusedVariables false

/-- The box of ten. -/
def bx10 (V : World) (J b : Nat) (s : Wld) : Prop := V.heap[J]? = some (.cells #[.int .i64 s.A, .int .i64 s.B, .slice s.p s.n s.c, .slice s.pb s.nb s.cb, .slice s.ps s.ns s.cs, .slice s.pm s.nm s.cm, .slice s.pt s.nt s.ct, .int .i64 s.N, .int .i64 s.T, .map (some b)] 68)
/-- A shop at J, but for its map. -/
structure shop0 (B J b : Nat) (V : World) (s : Wld) : Prop where
  x : bx10 V J b s
  o : wown B V s
  a : apart3 s
  jB : B ≤ J
  bB : B ≤ b
/-- A shop at J, its map at b. -/
def shop (B J b : Nat) (V : World) (s : Wld) : Prop := shop0 B J b V s ∧ mapi V b (s.lt.map Trp.i)
/-- The blocks that may turn. -/
def shS (J b : Nat) (s : Wld) (g : Nat) : Prop := g = J ∨ g = b ∨ some g = (Value.slice s.ps s.ns s.cs).ownBlock ∨ some g = (Value.slice s.pm s.nm s.cm).ownBlock ∨ some g = (Value.slice s.pt s.nt s.ct).ownBlock
section
variable {B J b g k : Nat} {V V' : World} {s : Wld}
theorem wown_ex {S : Nat → Prop} (h : wown B V s) (he : Ex S V V') (h1 : ∀ g, (Value.slice s.p s.n s.c).ownBlock = some g → ¬ S g) (h2 : ∀ g, (Value.slice s.pb s.nb s.cb).ownBlock = some g → ¬ S g) (h3 : ∀ g, (Value.slice s.ps s.ns s.cs).ownBlock = some g → ¬ S g)
    (h4 : ∀ g, (Value.slice s.pm s.nm s.cm).ownBlock = some g → ¬ S g) (h5 : ∀ g, (Value.slice s.pt s.nt s.ct).ownBlock = some g → ¬ S g) : wown B V' s :=
  ⟨own_stays h.kp he h1, alli_ex h.jp he h1, own_stays h.kb he h2, alli_ex h.jb he h2, own_stays h.ks he h3, alli_ex h.js he h3, own_stays h.km he h4, alli_ex h.jm he h4, own_stays h.kt he h5, alli_ex h.jt he h5⟩
theorem wown_below (h : wown B V s) (hb : Below V.heap.size V V') : wown B V' s :=
  wown_ex (S := fun _ => False) h (Ex.of_below hb) (fun _ _ e => e) (fun _ _ e => e) (fun _ _ e => e) (fun _ _ e => e) (fun _ _ e => e)
theorem bx10_lt (h : bx10 V J b s) : J < V.heap.size := heap_lt h
theorem bx10_ex {S : Nat → Prop} (h : bx10 V J b s) (he : Ex S V V') (hn : ¬ S J) : bx10 V' J b s := (he.block J (bx10_lt h) hn).trans h
theorem bx10_free (h : bx10 V J b s) (o : Nat) : V.frozen? ⟨J, o, none⟩ = false := by
  unfold bx10 at h
  simp [World.frozen?, h]
theorem shop0_below (h : shop0 B J b V s) (hb : Below V.heap.size V V') : shop0 B J b V' s :=
  ⟨(hb.block J (bx10_lt h.x)).trans h.x, wown_below h.o hb, h.a, h.jB, h.bB⟩
theorem mapi_below {L : List Int} (h : mapi V b L) (hb : Below V.heap.size V V') : mapi V' b L := mapi_kept (S := fun _ => False) h (Ex.of_below hb) (fun e => e)
theorem shop_below (h : shop B J b V s) (hb : Below V.heap.size V V') : shop B J b V' s := ⟨shop0_below h.1 hb, mapi_below h.2 hb⟩
theorem shS_ge (h : shop0 B J b V s) : ∀ g, shS J b s g → B ≤ g := by
  intro g hg
  rcases hg with rfl | rfl | hg | hg | hg
  · exact h.jB
  · exact h.bB
  · exact own_base h.o.ks g hg.symm
  · exact own_base h.o.km g hg.symm
  · exact own_base h.o.kt g hg.symm
/-- Its ten cells. -/
def c10 (V : World) (J b : Nat) (s : Wld) : Prop :=
  V.cell? ⟨J, 0, none⟩ = some (.int .i64 s.A) ∧ V.cell? ⟨J, 1, none⟩ = some (.int .i64 s.B) ∧ V.cell? ⟨J, 2, none⟩ = some (.slice s.p s.n s.c) ∧ V.cell? ⟨J, 3, none⟩ = some (.slice s.pb s.nb s.cb) ∧ V.cell? ⟨J, 4, none⟩ = some (.slice s.ps s.ns s.cs) ∧ V.cell? ⟨J, 5, none⟩ = some (.slice s.pm s.nm s.cm) ∧ V.cell? ⟨J, 6, none⟩ = some (.slice s.pt s.nt s.ct) ∧ V.cell? ⟨J, 7, none⟩ = some (.int .i64 s.N) ∧ V.cell? ⟨J, 8, none⟩ = some (.int .i64 s.T) ∧ V.cell? ⟨J, 9, none⟩ = some (.map (some b))
theorem bx10_c10 (h : bx10 V J b s) : c10 V J b s := by
  unfold bx10 at h
  unfold c10
  simp [World.cell?, h]
/-- A map and a row lie apart. -/
theorem mapi_not {e : TypeId} {z B' n : Nat} {v : Value} {xs : List Value} {L : List Int} (h : V.ownsRow B' e z v n xs) (hm : mapi V b L) : ∀ g, v.ownBlock = some g → g ≠ b := by
  intro g hg e2
  subst e2
  obtain ⟨D, m, ⟨es, clock, h1, h2⟩, h3⟩ := hm
  rcases h.2 with ⟨h0, _⟩ | ⟨g1, cap, cur, hv, hB, hblk, hr⟩
  · rw [h0] at hg; cases hg
  · rw [hv] at hg
    simp [Value.ownBlock] at hg
    subst hg
    rw [hblk] at h1; cases h1
theorem mapi_cells {l : Array Value} {e : TypeId} {L : List Int} (h : V.heap[J]? = some (.cells l e)) (hm : mapi V b L) : J ≠ b := by
  intro e2
  subst e2
  obtain ⟨D, m, ⟨es, clock, h1, h2⟩, h3⟩ := hm
  rw [h] at h1; cases h1
/-- What lies apart from all that may turn. -/
theorem shS_row {e : TypeId} {z B' n : Nat} {v : Value} {xs : List Value} (h : shop B J b V s) (hr : V.ownsRow B' e z v n xs) (h3 : e ≠ 3) (h47 : e ≠ 47) (h68 : e ≠ 68) : ∀ g, v.ownBlock = some g → ¬ shS J b s g := by
  intro g hg hS
  rcases hS with rfl | rfl | hS | hS | hS
  · exact own_not hr h.1.x h68 _ hg rfl
  · exact mapi_not hr h.2 _ hg rfl
  · exact own_apart hr h.1.o.ks h3 g hg hS
  · exact own_apart hr h.1.o.km h3 g hg hS
  · exact own_apart hr h.1.o.kt h47 g hg hS
theorem flat7_load (t : Trp) (d : Int) : ∀ (Q : List Trp) (k : Nat), Q[k]? = some t → flat7 (Q.set k (t.load d)) = (flat7 Q).set (k * 7 + 6) (.int .i64 d) := by
  intro Q
  induction Q with
  | nil => intro k h; simp at h
  | cons s Q ih =>
    intro k h
    cases k with
    | zero => simp at h; subst h; rfl
    | succ k =>
      have := ih k (by simpa using h)
      have e : (k + 1) * 7 + 6 = (k * 7 + 6) + 7 := by omega
      rw [e, List.set_cons_succ, flat7_cons, flat7_cons, this]; rfl
/-- A Load written. -/
theorem shop_load {t : Trp} (h : shop B J b V s) (hp : s.pt = some ⟨g, 0, none⟩) (hk : s.lt[k]? = some t) (d : Int) : shop B J b (V.setCell ⟨g, k * 7 + 6, none⟩ (.int .i64 d)) { s with lt := s.lt.set k (t.load d) } := by
  have he : Ex (fun j => j = g) V (V.setCell ⟨g, k * 7 + 6, none⟩ (.int .i64 d)) := Ex.set (S := fun j => j = g) V ⟨g, k * 7 + 6, none⟩ rfl _
  have hg : (Value.slice s.pt s.nt s.ct).ownBlock = some g := by rw [hp]; rfl
  have hx : ∀ {e : TypeId} {z B' n : Nat} {v : Value} {xs : List Value}, V.ownsRow B' e z v n xs → e ≠ 47 → ∀ j, v.ownBlock = some j → ¬ j = g := fun hr hne j hj e => own_apart hr h.1.o.kt hne j hj (by rw [e, hg])
  have hgJ : ¬ J = g := fun e => own_not h.1.o.kt h.1.x (by decide) g hg e.symm
  refine ⟨⟨bx10_ex h.1.x he hgJ, ⟨own_stays h.1.o.kp he (hx h.1.o.kp (by decide)), alli_set h.1.o.jp _ _ _, own_stays h.1.o.kb he (hx h.1.o.kb (by decide)), alli_set h.1.o.jb _ _ _, own_stays h.1.o.ks he (hx h.1.o.ks (by decide)), alli_set h.1.o.js _ _ _, own_stays h.1.o.km he (hx h.1.o.km (by decide)), alli_set h.1.o.jm _ _ _, ?_, alli_set h.1.o.jt _ _ _⟩, h.1.a, h.1.jB, h.1.bB⟩, ?_⟩
  · have hm := h.1.o.kt
    unfold minet at hm ⊢
    simp only
    rw [flat7_load t d s.lt k hk, List.length_set]
    rw [hp, ← (own_parts h.1.o.kt).1] at hm ⊢
    exact (World.ownsRow.stored hm _ _).1
  · simp only
    rw [map_set_same hk (by rfl)]
    exact mapi_kept h.2 he (fun e => mapi_not h.1.o.kt h.2 g hg e.symm)
/-- A mine written. -/
theorem shop_lm (h : shop B J b V s) (hp : s.pm = some ⟨g, 0, none⟩) (hn : s.lm.length = s.nm) (j : Nat) (x : Int) : shop B J b (V.setCell ⟨g, j, none⟩ (.int .i64 x)) { s with lm := s.lm.set j x } := by
  have he : Ex (fun j => j = g) V (V.setCell ⟨g, j, none⟩ (.int .i64 x)) := Ex.set (S := fun j => j = g) V ⟨g, j, none⟩ rfl _
  have hg : (Value.slice s.pm s.nm s.cm).ownBlock = some g := by rw [hp]; rfl
  have hx : ∀ {e : TypeId} {z B' n : Nat} {v : Value} {xs : List Value}, V.ownsRow B' e z v n xs → e ≠ 3 → ∀ j, v.ownBlock = some j → ¬ j = g := fun hr hne j hj e => own_apart hr h.1.o.km hne j hj (by rw [e, hg])
  have ha : ∀ {v : Value}, apart v (.slice s.pm s.nm s.cm) → ∀ j, v.ownBlock = some j → ¬ j = g := fun h1 j hj e => h1 j hj (by rw [e, hg])
  have hgJ : ¬ J = g := fun e => own_not h.1.o.km h.1.x (by decide) g hg e.symm
  refine ⟨⟨bx10_ex h.1.x he hgJ, ⟨own_stays h.1.o.kp he (ha h.1.a.2.1), alli_set h.1.o.jp _ _ _, own_stays h.1.o.kb he (hx h.1.o.kb (by decide)), alli_set h.1.o.jb _ _ _, own_stays h.1.o.ks he (ha h.1.a.2.2), alli_set h.1.o.js _ _ _, ?_, alli_set h.1.o.jm _ _ _, own_stays h.1.o.kt he (hx h.1.o.kt (by decide)), alli_set h.1.o.jt _ _ _⟩, h.1.a, h.1.jB, h.1.bB⟩, ?_⟩
  · have hm := h.1.o.km
    simp only
    rw [hp] at hm ⊢
    exact mine_put hm hn j x
  · exact mapi_kept h.2 he (fun e => mapi_not h.1.o.km h.2 g hg e.symm)
/-- A stock written. -/
theorem shop_ls (h : shop B J b V s) (hp : s.ps = some ⟨g, 0, none⟩) (hn : s.ls.length = s.ns) (j : Nat) (x : Int) : shop B J b (V.setCell ⟨g, j, none⟩ (.int .i64 x)) { s with ls := s.ls.set j x } := by
  have he : Ex (fun j => j = g) V (V.setCell ⟨g, j, none⟩ (.int .i64 x)) := Ex.set (S := fun j => j = g) V ⟨g, j, none⟩ rfl _
  have hg : (Value.slice s.ps s.ns s.cs).ownBlock = some g := by rw [hp]; rfl
  have hx : ∀ {e : TypeId} {z B' n : Nat} {v : Value} {xs : List Value}, V.ownsRow B' e z v n xs → e ≠ 3 → ∀ j, v.ownBlock = some j → ¬ j = g := fun hr hne j hj e => own_apart hr h.1.o.ks hne j hj (by rw [e, hg])
  have ha : ∀ j, (Value.slice s.p s.n s.c).ownBlock = some j → ¬ j = g := fun j hj e => h.1.a.1 j hj (by rw [e, hg])
  have ha2 : ∀ j, (Value.slice s.pm s.nm s.cm).ownBlock = some j → ¬ j = g := fun j hj e => h.1.a.2.2 g hg (by rw [hj, e])
  have hgJ : ¬ J = g := fun e => own_not h.1.o.ks h.1.x (by decide) g hg e.symm
  refine ⟨⟨bx10_ex h.1.x he hgJ, ⟨own_stays h.1.o.kp he ha, alli_set h.1.o.jp _ _ _, own_stays h.1.o.kb he (hx h.1.o.kb (by decide)), alli_set h.1.o.jb _ _ _, ?_, alli_set h.1.o.js _ _ _, own_stays h.1.o.km he ha2, alli_set h.1.o.jm _ _ _, own_stays h.1.o.kt he (hx h.1.o.kt (by decide)), alli_set h.1.o.jt _ _ _⟩, h.1.a, h.1.jB, h.1.bB⟩, ?_⟩
  · have hm := h.1.o.ks
    simp only
    rw [hp] at hm ⊢
    exact mine_put hm hn j x
  · exact mapi_kept h.2 he (fun e => mapi_not h.1.o.ks h.2 g hg e.symm)
/-- The cell of a row of one's own by its number. -/
theorem own_cell {n c : Nat} {p : Option Addr} {L : List Int} (h : mine 3 vi B V (.slice p n c) L) {j : Nat} (hj : j < L.length) : ∃ g, p = some ⟨g, 0, none⟩ ∧ V.cell? ⟨g, j, none⟩ = some (.int .i64 (L.getD j 0)) ∧ V.frozen? ⟨g, j, none⟩ = false ∧ B ≤ g ∧ g < V.heap.size := by
  have hp := own_parts h
  rcases h.2 with ⟨h0, h1⟩ | ⟨g, cap, cur, hv, hB, hblk, hr⟩
  · omega
  · simp only [Value.slice.injEq] at hv
    obtain ⟨rfl, _, _⟩ := hv
    refine ⟨g, rfl, ?_, mine_free h hp.1 j, mine_lt h⟩
    rw [mine_cell h hp.1 hj rfl, List.getD_eq_getElem?_getD, List.getElem?_eq_getElem hj]; rfl
theorem own_tcell {n c : Nat} {p : Option Addr} {L : List Trp} (h : minet B V (.slice p n c) L) {j : Nat} {t : Trp} (hj : L[j]? = some t) : ∃ g, p = some ⟨g, 0, none⟩ ∧ (V.cell? ⟨g, j * 7, none⟩ = some (.int .i64 t.i) ∧ V.cell? ⟨g, j * 7 + 1, none⟩ = some (.int .i64 t.o) ∧ V.cell? ⟨g, j * 7 + 2, none⟩ = some (.int .i64 t.k) ∧ V.cell? ⟨g, j * 7 + 3, none⟩ = some (.int .i64 t.x) ∧ V.cell? ⟨g, j * 7 + 4, none⟩ = some (.int .i64 t.y) ∧ V.cell? ⟨g, j * 7 + 5, none⟩ = some (.int .i64 t.f) ∧ V.cell? ⟨g, j * 7 + 6, none⟩ = some (.int .i64 t.d)) ∧ V.frozen? ⟨g, j * 7 + 6, none⟩ = false ∧ B ≤ g ∧ g < V.heap.size := by
  have hp := own_parts h
  have hl := (List.getElem?_eq_some_iff.1 hj).1
  obtain ⟨g, rfl⟩ := minet_ptr h hp.1 (by omega)
  exact ⟨g, rfl, minet_at h hp.1 hj, minet_free h hp.1 _, World.ownsRow.lt h g rfl⟩
end
end Go.Proofs.Ytdcjjfipnilmpaa
