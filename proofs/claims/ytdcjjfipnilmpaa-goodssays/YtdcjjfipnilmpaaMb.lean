/- Rows of one's own: how they stay, lie apart, are written; which error is told of a world and goes. -/
import Derived.Test.YtdcjjfipnilmpaaCp
import Derived.Test.YtdcjjfipnilmpaaOpc
import Derived.Test.YtdcjjfipnilmpaaMS
import Derived.Test.YtdcjjfipnilmpaaGm
namespace Go.Proofs.Ytdcjjfipnilmpaa
open Go.RowKit Go.Maps
set_option linter.unusedVariables false

section
variable {α : Type} {t : TypeId} {f : α → Value} {B : Nat} {w w' : World} {v : Value} {L : List α}
theorem mine_kept {S : Nat → Prop} (h : mine t f B w v L) (he : Ex S w w') (hn : ∀ g, v.ownBlock = some g → ¬ S g) : mine t f B w' v L := by
  refine ⟨h.1, ?_⟩
  rcases h.2 with h0 | ⟨g', cap, cur, hv, hB, hblk, hr⟩
  · exact .inl h0
  · refine .inr ⟨g', cap, cur, hv, hB, ?_, hr⟩
    have : g' < w.heap.size := by
      rcases Nat.lt_or_ge g' w.heap.size with hlt | hge
      · exact hlt
      · rw [Array.getElem?_eq_none hge] at hblk; cases hblk
    rw [he.block g' this (hn g' (by rw [hv]; rfl))]; exact hblk
end
section
variable {α : Type} {t : TypeId} {f : α → Value} {B : Nat} {w w' : World} {v : Value} {L : List α}
variable {g n cap : Nat}
theorem mine_put (h : mine t f B w (.slice (some ⟨g, 0, none⟩) n cap) L) (hn : L.length = n) (k : Nat) (x : α) : mine t f B (w.setCell ⟨g, k, none⟩ (f x)) (.slice (some ⟨g, 0, none⟩) n cap) (L.set k x) := by
  subst hn
  unfold mine at h ⊢
  rw [List.length_set, List.map_set]
  exact (World.ownsRow.stored h k (f x)).1
theorem mine_cell (h : mine t f B w (.slice (some ⟨g, 0, none⟩) n cap) L) (hn : L.length = n) {k : Nat} (hk : k < L.length) {x : α} (hx : L[k] = x) : w.cell? ⟨g, k, none⟩ = some (f x) := by
  subst hn
  rw [World.ownsRow.cellAt h k (by omega), List.getElem?_map, List.getElem?_eq_getElem hk, hx]; rfl
theorem mine_free (h : mine t f B w (.slice (some ⟨g, 0, none⟩) n cap) L) (hn : L.length = n) (k : Nat) : w.frozen? ⟨g, k, none⟩ = false := by
  subst hn; exact World.ownsRow.frozenAt h k
theorem mine_lt (h : mine t f B w (.slice (some ⟨g, 0, none⟩) n cap) L) : B ≤ g ∧ g < w.heap.size := World.ownsRow.lt h g rfl
theorem mine_row (h : mine t f B w (.slice (some ⟨g, 0, none⟩) n cap) L) (hn : L.length = n) : row f w (some ⟨g, 0, none⟩) L := by
  intro j x hj
  obtain ⟨hjl, e⟩ := List.getElem?_eq_some_iff.1 hj
  exact ⟨_, rfl, by rw [add_zero_at]; exact mine_cell h hn hjl e⟩
end
/-- A truth value as a value. -/
def vbl (b : Bool) : Value := .bool b
theorem mapi_kept {S : Nat → Prop} {w w' : World} {b : Nat} {L : List Int} (h : mapi w b L) (he : Ex S w w') (hn : ¬ S b) : mapi w' b L := by
  obtain ⟨D, n, ⟨es, clock, hb, hr⟩, h2⟩ := h
  refine ⟨D, n, ⟨es, clock, ?_, hr⟩, h2⟩
  have : b < w.heap.size := by
    rcases Nat.lt_or_ge b w.heap.size with hlt | hge
    · exact hlt
    · rw [Array.getElem?_eq_none hge] at hb; cases hb
  rw [he.block b this hn]; exact hb
theorem mapi_lt {w : World} {b : Nat} {L : List Int} (h : mapi w b L) : b < w.heap.size := by
  obtain ⟨D, n, ⟨es, clock, hb, hr⟩, h2⟩ := h
  rcases Nat.lt_or_ge b w.heap.size with hlt | hge
  · exact hlt
  · rw [Array.getElem?_eq_none hge] at hb; cases hb
/-- What a map of the troops' places tells of a number. -/
theorem mapi_find {w : World} {b : Nat} {L : List Int} {c : Int} (h : mapi w b L) (fc : fits c) (hd : L.Nodup) :
    ∃ (v : Int) (r : Bool), (Instr.lookup 66 (.map (some b)) (.int .i64 c) true).run Try.prog w = .ok (.tuple #[.int .i64 v, .bool r]) w ∧ ((c ∉ L ∧ r = false) ∨ (r = true ∧ ∃ i, ∃ hi : i < L.length, v = (i : Int) ∧ L[i] = c)) := by
  obtain ⟨v, r, h1, h2⟩ := mapi_look h fc
  refine ⟨v, r, h1, ?_⟩
  rcases h2 with ⟨h2, _, h3⟩ | ⟨h2, h3, h4⟩
  · exact .inl ⟨h2, h3⟩
  · obtain ⟨i, hi, e⟩ := List.getElem_of_mem h3
    refine .inr ⟨h2, i, hi, h4 i (by rw [List.getElem?_eq_getElem hi, e]) (fun j hj hjc => ?_), e⟩
    obtain ⟨hjl, ej⟩ := List.getElem?_eq_some_iff.1 hjc
    exact List.pairwise_iff_getElem.1 hd i j hi hjl hj (by rw [e, ej])

/-- Which error is told of a world and blows. -/
def ber (s : Wld) (n : Nat) (E : Int) : Prop := ∃ E0, wre s E0 ∧ ((E0 ≠ 0 ∧ E = E0) ∨ (E0 = 0 ∧ 200 < n ∧ E = 2) ∨ (E0 = 0 ∧ n ≤ 200 ∧ E = 0))
theorem ber_total (s : Wld) (n : Nat) : ∃ E, ber s n E := by
  obtain ⟨E0, h⟩ := wre_total s
  by_cases h0 : E0 = 0
  · by_cases h1 : 200 < n
    · exact ⟨2, E0, h, .inr (.inl ⟨h0, h1, rfl⟩)⟩
    · exact ⟨0, E0, h, .inr (.inr ⟨h0, by omega, rfl⟩)⟩
  · exact ⟨E0, E0, h, .inl ⟨h0, rfl⟩⟩
theorem ber_ok {s : Wld} {n : Nat} (h : ber s n 0) : (∃ W H, okw s W H) ∧ n ≤ 200 := by
  obtain ⟨E0, h0, h1⟩ := h
  rcases h1 with ⟨h1, h2⟩ | ⟨_, _, h⟩ | ⟨h1, h2, _⟩
  · exact absurd h2.symm h1
  · omega
  · subst h1; exact ⟨wre_ok h0, h2⟩
theorem flat7_setk (t : Trp) : ∀ (Q : List Trp) (k : Nat), k < Q.length → flat7 (Q.set k t) = (((((((flat7 Q).set (k * 7) (.int .i64 t.i)).set (k * 7 + 1) (.int .i64 t.o)).set (k * 7 + 2) (.int .i64 t.k)).set (k * 7 + 3) (.int .i64 t.x)).set (k * 7 + 4) (.int .i64 t.y)).set (k * 7 + 5) (.int .i64 t.f)).set (k * 7 + 6) (.int .i64 t.d) := by
  intro Q
  induction Q with
  | nil => intro k h; simp at h
  | cons s Q ih =>
    intro k h
    cases k with
    | zero => rfl
    | succ k =>
      have := ih k (by simpa using h)
      have e : (k + 1) * 7 = k * 7 + 7 := by omega
      rw [e, List.set_cons_succ, flat7_cons, flat7_cons, this]; rfl
theorem alli_set {w : World} {v : Value} (h : alli w v) (b o : Nat) (x : Int) : alli (w.setCell ⟨b, o, none⟩ (.int .i64 x)) v := fun g hg => by
  obtain ⟨cur, e, hb, hi⟩ := h g hg
  by_cases hgb : g = b
  · subst hgb
    refine ⟨_, e, heap_setCell_same w g o cur e _ hb, ?_⟩
    intro u hu
    rw [Array.toList_setIfInBounds] at hu
    rcases List.mem_or_eq_of_mem_set hu with h | h
    · exact hi u h
    · exact ⟨x, h⟩
  · exact ⟨cur, e, by rw [(Ex.set (S := fun k => k = b) w ⟨b, o, none⟩ rfl _).block g (alli_lt h g hg) hgb]; exact hb, hi⟩
section
variable {B g n cap : Nat} {w : World} {Q : List Trp}
/-- A troop written into a row of one's own. -/
theorem minet_put (h : minet B w (.slice (some ⟨g, 0, none⟩) n cap) Q) (hn : Q.length = n) {k : Nat} (hk : k < n) (t : Trp) :
    minet B (((((((w.setCell ⟨g, k * 7, none⟩ (.int .i64 t.i)).setCell ⟨g, k * 7 + 1, none⟩ (.int .i64 t.o)).setCell ⟨g, k * 7 + 2, none⟩ (.int .i64 t.k)).setCell ⟨g, k * 7 + 3, none⟩ (.int .i64 t.x)).setCell ⟨g, k * 7 + 4, none⟩ (.int .i64 t.y)).setCell ⟨g, k * 7 + 5, none⟩ (.int .i64 t.f)).setCell ⟨g, k * 7 + 6, none⟩ (.int .i64 t.d)) (.slice (some ⟨g, 0, none⟩) n cap) (Q.set k t) := by
  subst hn
  unfold minet at h ⊢
  rw [flat7_setk t Q k hk, List.length_set]
  exact (World.ownsRow.stored (World.ownsRow.stored (World.ownsRow.stored (World.ownsRow.stored (World.ownsRow.stored (World.ownsRow.stored (World.ownsRow.stored h _ _).1 _ _).1 _ _).1 _ _).1 _ _).1 _ _).1 _ _).1
end
section
variable {B g n cap : Nat} {w : World} {Q : List Trp}
theorem minet_cell (h : minet B w (.slice (some ⟨g, 0, none⟩) n cap) Q) (hn : Q.length = n) {k : Nat} (hk : k < Q.length) {t : Trp} (ht : Q[k] = t) :
    w.cell? ⟨g, k * 7, none⟩ = some (.int .i64 t.i) ∧ w.cell? ⟨g, k * 7 + 1, none⟩ = some (.int .i64 t.o) ∧ w.cell? ⟨g, k * 7 + 2, none⟩ = some (.int .i64 t.k) ∧ w.cell? ⟨g, k * 7 + 3, none⟩ = some (.int .i64 t.x) ∧ w.cell? ⟨g, k * 7 + 4, none⟩ = some (.int .i64 t.y) ∧ w.cell? ⟨g, k * 7 + 5, none⟩ = some (.int .i64 t.f) ∧ w.cell? ⟨g, k * 7 + 6, none⟩ = some (.int .i64 t.d) := by
  subst hn ht
  have f : ∀ i u, i < 7 → (tl7 Q[k])[i]? = some u → w.cell? ⟨g, k * 7 + i, none⟩ = some u := fun i u hi hu => by
    rw [World.ownsRow.cellAt h _ (by omega), flat7_at Q k hk i hi]; exact hu
  exact ⟨f 0 _ (by omega) rfl, f 1 _ (by omega) rfl, f 2 _ (by omega) rfl, f 3 _ (by omega) rfl, f 4 _ (by omega) rfl, f 5 _ (by omega) rfl, f 6 _ (by omega) rfl⟩
end
section
variable {B g n cap : Nat} {w : World} {Q : List Trp}
theorem minet_free (h : minet B w (.slice (some ⟨g, 0, none⟩) n cap) Q) (hn : Q.length = n) (k : Nat) : w.frozen? ⟨g, k, none⟩ = false := by
  subst hn; exact World.ownsRow.frozenAt h k
end
section
variable {B g n cap : Nat} {w : World} {Q : List Trp}
theorem minet_row (h : minet B w (.slice (some ⟨g, 0, none⟩) n cap) Q) (hn : Q.length = n) : trow w (some ⟨g, 0, none⟩) Q := by
  subst hn
  intro j u hj
  have hjl : j < Q.length * 7 := by have := (List.getElem?_eq_some_iff.1 hj).1; rwa [flat7_len] at this
  exact ⟨_, rfl, by rw [add_zero_at, World.ownsRow.cellAt h _ hjl]; exact hj⟩
end
theorem minet_kept {B : Nat} {w w' : World} {v : Value} {Q : List Trp} (h : minet B w v Q) (hb : Below w.heap.size w w') : minet B w' v Q := by
  refine ⟨h.1, ?_⟩
  rcases h.2 with h0 | ⟨g', cap, cur, hv, hB, hblk, hr⟩
  · exact .inl h0
  · refine .inr ⟨g', cap, cur, hv, hB, ?_, hr⟩
    have : g' < w.heap.size := by
      rcases Nat.lt_or_ge g' w.heap.size with hlt | hge
      · exact hlt
      · rw [Array.getElem?_eq_none hge] at hblk; cases hblk
    rw [hb.block g' this]; exact hblk
theorem minet_at {B g n cap : Nat} {w : World} {Q : List Trp} (h : minet B w (.slice (some ⟨g, 0, none⟩) n cap) Q) (hn : Q.length = n) {k : Nat} {t : Trp} (ht : Q[k]? = some t) :
    w.cell? ⟨g, k * 7, none⟩ = some (.int .i64 t.i) ∧ w.cell? ⟨g, k * 7 + 1, none⟩ = some (.int .i64 t.o) ∧ w.cell? ⟨g, k * 7 + 2, none⟩ = some (.int .i64 t.k) ∧ w.cell? ⟨g, k * 7 + 3, none⟩ = some (.int .i64 t.x) ∧ w.cell? ⟨g, k * 7 + 4, none⟩ = some (.int .i64 t.y) ∧ w.cell? ⟨g, k * 7 + 5, none⟩ = some (.int .i64 t.f) ∧ w.cell? ⟨g, k * 7 + 6, none⟩ = some (.int .i64 t.d) := by
  obtain ⟨hk, e⟩ := List.getElem?_eq_some_iff.1 ht
  exact minet_cell h hn hk e
theorem minet_ptr {B n cap : Nat} {p : Option Addr} {w : World} {Q : List Trp} (h : minet B w (.slice p n cap) Q) (hn : Q.length = n) (h0 : 0 < n) : ∃ g, p = some ⟨g, 0, none⟩ := by
  rcases h.2 with ⟨_, h1⟩ | ⟨g, cap', cur, hv, hB, hblk, hr⟩
  · omega
  · simp only [Value.slice.injEq] at hv
    exact ⟨g, hv.1⟩
theorem own_stays {e : TypeId} {size B n : Nat} {w w' : World} {v : Value} {xs : List Value} {S : Nat → Prop} (h : w.ownsRow B e size v n xs) (he : Ex S w w') (hn : ∀ g, v.ownBlock = some g → ¬ S g) : w'.ownsRow B e size v n xs := by
  refine ⟨h.1, ?_⟩
  rcases h.2 with h0 | ⟨g', cap, cur, hv, hB, hblk, hr⟩
  · exact .inl h0
  · refine .inr ⟨g', cap, cur, hv, hB, ?_, hr⟩
    have : g' < w.heap.size := by
      rcases Nat.lt_or_ge g' w.heap.size with hlt | hge
      · exact hlt
      · rw [Array.getElem?_eq_none hge] at hblk; cases hblk
    rw [he.block g' this (hn g' (by rw [hv]; rfl))]; exact hblk
/-- Two rows of elements of two types lie apart. -/
theorem own_apart {e e' : TypeId} {z z' B B' n n' : Nat} {w : World} {v v' : Value} {xs xs' : List Value} (h : w.ownsRow B e z v n xs) (h' : w.ownsRow B' e' z' v' n' xs') (hne : e ≠ e') : ∀ g, v.ownBlock = some g → ¬ some g = v'.ownBlock := by
  intro g hg hg'
  rcases h.2 with ⟨h0, _⟩ | ⟨g1, cap, cur, hv, hB, hblk, hr⟩
  · rw [h0] at hg; cases hg
  · rcases h'.2 with ⟨h0, _⟩ | ⟨g2, cap2, cur2, hv2, hB2, hblk2, hr2⟩
    · rw [h0] at hg'; cases hg'
    · rw [hv] at hg
      rw [hv2] at hg'
      simp [Value.ownBlock] at hg hg'
      subst hg hg'
      rw [hblk] at hblk2
      simp at hblk2
      exact hne hblk2.2
/-- No world. -/
def wz : Wld := ⟨0, 0, none, 0, 0, [], none, 0, 0, [], none, 0, 0, [], none, 0, 0, [], none, 0, 0, [], 0, 0⟩
theorem wz_own (B : Nat) (V : World) : wown B V wz := ⟨mine_nil _ _ _ _, alli_nil _, minec_nil _ _, alli_nil _, mine_nil _ _ _ _, alli_nil _, mine_nil _ _ _ _, alli_nil _, World.ownsRow_nil _ _ _ _, alli_nil _⟩
/-- A world that is like another one, but for its troops. -/
def likew (s s' : Wld) : Prop := s'.A = s.A ∧ s'.B = s.B ∧ s'.n = s.n ∧ s'.l = s.l ∧ s'.nb = s.nb ∧ s'.lb = s.lb ∧ s'.ns = s.ns ∧ s'.ls = s.ls ∧ s'.nm = s.nm ∧ s'.lm = s.lm ∧ s'.N = s.N ∧ s'.T = s.T
theorem own_parts {e : TypeId} {z B n c : Nat} {V : World} {p : Option Addr} {m : Nat} {xs : List Value} (h : V.ownsRow B e z (.slice p n c) m xs) : m = n ∧ n ≤ c ∧ (p = none → c = 0) ∧ n ≤ 9223372036854775807 := by
  rcases h.2 with ⟨h0, h1⟩ | ⟨g, cap, cur, hv, hB, hblk, hc, hm, hr⟩
  · simp only [Value.slice.injEq] at h0
    omega
  · simp only [Value.slice.injEq] at hv
    unfold maxLen at hm
    exact ⟨hv.2.1.symm, by omega, (fun hp => (by rw [hp] at hv; cases hv.1)), by omega⟩
theorem own_row {V : World} {B n c : Nat} {p : Option Addr} {L : List Int} (h : mine 3 vi B V (.slice p n c) L) : row vi V p L := by
  obtain ⟨p', c', e, r, _, _⟩ := mine_full h
  simp only [Value.slice.injEq] at e
  rw [e.1]; exact r
theorem own_crow {V : World} {B n c : Nat} {p : Option Addr} {L : List Cel} (h : minec B V (.slice p n c) L) : crow V p L := by
  obtain ⟨p', c', e, r, _, _⟩ := minec_full h
  simp only [Value.slice.injEq] at e
  rw [e.1]; exact r
theorem own_trow {V : World} {B n c : Nat} {p : Option Addr} {L : List Trp} (h : minet B V (.slice p n c) L) : trow V p L := by
  have hp := own_parts h
  rcases h.2 with ⟨h0, h1⟩ | ⟨g, cap, cur, hv, hB, hblk, hr⟩
  · have : L = [] := List.eq_nil_of_length_eq_zero h1
    subst this; exact trow_nil _ _
  · simp only [Value.slice.injEq] at hv
    obtain ⟨rfl, _, _⟩ := hv
    exact minet_row h hp.1
theorem fit_of_own {B : Nat} {V : World} {s : Wld} (hw : wown B V s) (fA : fits s.A) (fB : fits s.B) (fN : fits s.N) (fT : fits s.T) (x : ∀ x ∈ s.l, fits x) (xb : ∀ c ∈ s.lb, fits c.x ∧ fits c.y) (xs : ∀ x ∈ s.ls, fits x) (xm : ∀ x ∈ s.lm, fits x)
    (xt : ∀ t ∈ s.lt, fits t.i ∧ fits t.o ∧ fits t.k ∧ fits t.x ∧ fits t.y ∧ fits t.f ∧ fits t.d) : s.fit V where
  fA := fA
  fB := fB
  r := own_row hw.kp
  x := x
  h := (own_parts hw.kp).1
  m := (own_parts hw.kp).2.2.2
  z := (own_parts hw.kp).2.2.1
  k := (own_parts hw.kp).2.1
  rb := own_crow hw.kb
  xb := xb
  hb := (own_parts hw.kb).1
  mb := (own_parts hw.kb).2.2.2
  zb := (own_parts hw.kb).2.2.1
  kb := (own_parts hw.kb).2.1
  rs := own_row hw.ks
  xs := xs
  hs := (own_parts hw.ks).1
  ms := (own_parts hw.ks).2.2.2
  rm := own_row hw.km
  xm := xm
  hm := (own_parts hw.km).1
  mm := (own_parts hw.km).2.2.2
  rt := own_trow hw.kt
  xt := xt
  ht := (own_parts hw.kt).1
  mt := (own_parts hw.kt).2.2.2
  zt := (own_parts hw.kt).2.2.1
  kt := (own_parts hw.kt).2.1
  fN := fN
  fT := fT
theorem cell_call {V V' : World} {q : Addr} {v : Value} (hb : Below V.heap.size V V') (h : V.cell? q = some v) : V'.cell? q = some v := (hb.cell (cell_lt h)).trans h
theorem flat7_lies {w : World} {a : Addr} {Q : List Trp} (h : trow w (some a) Q) : ∀ j u, (flat7 Q)[j]? = some u → w.cell? (a.add j) = some u := by
  intro j u hj
  obtain ⟨b, hb, hc⟩ := h j u hj
  cases hb; exact hc
theorem run_moret {B : Nat} {w : World} {v : Value} {Q R : List Trp} {a : Addr} {d m : Nat} (ty : TypeId) (h : minet B w v Q) (hq : trow w (some a) R) (hm : R.length = m) (hl : Q.length + m ≤ 2000000) (hB : B ≤ w.heap.size) :
    ∃ v' w', (Builtin.append_ #[26, 26] ty #[v, .slice (some a) m d]).run Try.prog w = .ok v' w' ∧ minet B w' v' (Q ++ R) ∧ w.grownBy w' v.ownBlock := by
  obtain ⟨i0, hi, hz0, hz1, hz2⟩ := info_parts kint
  obtain ⟨v', w', h1, h2, h3, _⟩ := run_append_own (P := Try.prog) w B 26 ty 47 i0 _ 7 56 Try.underlying26 hi hz0 hz1 hz2 rfl (by decide) v Q.length (flat7 Q) h a m d (flat7 R) (by rw [flat7_len, hm]) (flat7_lies hq) (fun u hu => by obtain ⟨x, rfl⟩ := ints_flat7 R u hu; rfl) (by unfold maxLen; omega) (by omega) hB
  refine ⟨v', w', h1, ?_, h3⟩
  unfold minet
  rw [flat7_app, List.length_append, hm]; exact h2
theorem own_of {e : TypeId} {z B g n cap : Nat} {w : World} {l : List Value} (h : w.heap[g]? = some (.cells l.toArray e)) (hB : B ≤ g) (hl : l.length = n * z) (hc : n = cap) (hm : cap ≤ 1000) : w.ownsRow B e z (.slice (some ⟨g, 0, none⟩) n cap) n l := by
  subst hc
  exact ⟨hl, .inr ⟨g, n, l.toArray, rfl, hB, h, Nat.le_refl _, by unfold maxLen; omega, by simp [hl], by rw [List.take_of_length_le (by simp [hl])]⟩⟩
theorem grown_block {w w' : World} {r : Option Nat} (h : w.grownBy w' r) {k : Nat} {o : Obj} (hk : w.heap[k]? = some o) (hr : some k ≠ r) : w'.heap[k]? = some o := by
  have : k < w.heap.size := by
    rcases Nat.lt_or_ge k w.heap.size with hlt | hge
    · exact hlt
    · rw [Array.getElem?_eq_none hge] at hk; cases hk
  exact (h.block k this hr).trans hk
theorem heap_lt {w : World} {k : Nat} {o : Obj} (hk : w.heap[k]? = some o) : k < w.heap.size := by
  rcases Nat.lt_or_ge k w.heap.size with hlt | hge
  · exact hlt
  · rw [Array.getElem?_eq_none hge] at hk; cases hk
theorem own_not {e e' : TypeId} {z B n : Nat} {w : World} {v : Value} {xs : List Value} {k : Nat} {l : Array Value} (h : w.ownsRow B e z v n xs) (hk : w.heap[k]? = some (.cells l e')) (hne : e ≠ e') : ∀ g, v.ownBlock = some g → g ≠ k := by
  intro g hg hgk
  subst hgk
  rcases h.2 with ⟨h0, _⟩ | ⟨g1, cap, cur, hv, hB, hblk, hr⟩
  · rw [h0] at hg; cases hg
  · rw [hv] at hg
    simp [Value.ownBlock] at hg
    subst hg
    rw [hblk] at hk
    simp at hk
    exact hne hk.2
theorem row_frame {α : Type} {f : α → Value} {S : Nat → Prop} {w V : World} {a : Addr} {l : List α} (h : row f w (some a) l) (he : Ex S w V) (hS : ¬ S a.block) : row f V (some a) l := by
  intro j x hj
  obtain ⟨b, hb, hc⟩ := h j x hj
  cases hb
  have hl := cell_lt hc
  exact ⟨_, rfl, by rw [he.cell (p := a.add j) hl (by rw [add_block]; exact hS)]; exact hc⟩
theorem set7 {W' V : World} {R : Nat} {x0 x1 x2 x3 x4 x5 x6 a b c d e f g : Value} {t : TypeId} (hR : W'.heap[R]? = some (.cells #[x0, x1, x2, x3, x4, x5, x6] t))
    (hV : V = ((((((W'.setCell ⟨R, 0, none⟩ a).setCell ⟨R, 1, none⟩ b).setCell ⟨R, 2, none⟩ c).setCell ⟨R, 3, none⟩ d).setCell ⟨R, 4, none⟩ e).setCell ⟨R, 5, none⟩ f).setCell ⟨R, 6, none⟩ g) :
    (V.cell? ⟨R, 0, none⟩ = some a ∧ V.cell? ⟨R, 1, none⟩ = some b ∧ V.cell? ⟨R, 2, none⟩ = some c ∧ V.cell? ⟨R, 3, none⟩ = some d ∧ V.cell? ⟨R, 4, none⟩ = some e ∧ V.cell? ⟨R, 5, none⟩ = some f ∧ V.cell? ⟨R, 6, none⟩ = some g) ∧ Ex (fun g => g = R) W' V := by
  have h1 := heap_setCell_same W' R 0 _ t a hR
  have h2 := heap_setCell_same _ R 1 _ t b h1
  have h3 := heap_setCell_same _ R 2 _ t c h2
  have h4 := heap_setCell_same _ R 3 _ t d h3
  have h5 := heap_setCell_same _ R 4 _ t e h4
  have h6 := heap_setCell_same _ R 5 _ t f h5
  have h7 := heap_setCell_same _ R 6 _ t g h6
  have hRV : V.heap[R]? = some (.cells #[a, b, c, d, e, f, g] t) := by rw [hV, h7]; rfl
  refine ⟨by simp [World.cell?, hRV], ?_⟩
  subst hV
  exact ex_set (ex_set (ex_set (ex_set (ex_set (ex_set (ex_set (Ex.refl (fun g => g = R) _) ⟨R, 0, none⟩ rfl _) ⟨R, 1, none⟩ rfl _) ⟨R, 2, none⟩ rfl _) ⟨R, 3, none⟩ rfl _) ⟨R, 4, none⟩ rfl _) ⟨R, 5, none⟩ rfl _) ⟨R, 6, none⟩ rfl _
end Go.Proofs.Ytdcjjfipnilmpaa
