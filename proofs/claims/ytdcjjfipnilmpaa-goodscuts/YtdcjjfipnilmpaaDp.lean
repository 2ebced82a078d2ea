/- The mathematics of deeds: a right world stays right, nothing is lost, who there was is there; deeds in two goes; those that are not done. -/
import Derived.Test.YtdcjjfipnilmpaaDm
namespace Go.Proofs.Ytdcjjfipnilmpaa
open Go.RowKit
set_option linter.unusedVariables false

theorem any_am {l : List Int} : l.any am = false ↔ ∀ x ∈ l, 0 ≤ x ∧ x ≤ 1000000 := by
  rw [List.any_eq_false]
  constructor
  · intro h x hx
    have := h x hx
    unfold am at this
    simp at this; omega
  · intro h x hx
    have := h x hx
    unfold am
    simp; omega
theorem am_set {l : List Int} (h : l.any am = false) (k : Nat) {x : Int} (h0 : 0 ≤ x) (h1 : x ≤ 1000000) : (l.set k x).any am = false := by
  rw [any_am] at h ⊢
  intro y hy
  rcases List.mem_or_eq_of_mem_set hy with hy | rfl
  · exact h y hy
  · exact ⟨h0, h1⟩
theorem am_at {l : List Int} (h : l.any am = false) (k : Nat) : 0 ≤ l.getD k 0 ∧ l.getD k 0 ≤ 1000000 := by
  rw [any_am] at h
  rw [List.getD_eq_getElem?_getD]
  cases hk : l[k]? with
  | none => simp
  | some x => exact h x (List.mem_of_getElem? hk)
section
variable {W H nb : Nat} {l : List Int} {lb : List Cel} {N : Int} {lt : List Trp} {s s1 s2 s' : Shp} {d : Ded}
theorem tr_at (h : TRr W H l nb N lt) {k : Nat} {t : Trp} (hk : lt[k]? = some t) : 1 ≤ t.i ∧ t.i < N ∧ T1r W H l nb t := by
  obtain ⟨hkl, rfl⟩ := List.getElem?_eq_some_iff.1 hk
  exact h.1 k hkl
theorem map_set_same {α β : Type} {f : α → β} {L : List α} {k : Nat} {t u : α} (hk : L[k]? = some t) (hf : f u = f t) : (L.set k u).map f = L.map f := by
  rw [List.map_set, hf]
  apply List.ext_getElem?
  intro i
  by_cases e : k = i
  · subst e
    rw [List.getElem?_set]
    obtain ⟨hkl, rfl⟩ := List.getElem?_eq_some_iff.1 hk
    simp [hkl]
  · rw [List.getElem?_set_ne e]
theorem tr_load (h : TRr W H l nb N lt) {k : Nat} {t : Trp} (hk : lt[k]? = some t) {d : Int} (h0 : 0 ≤ d) (h1 : d ≤ loadOf t.k) : TRr W H l nb N (lt.set k (t.load d)) := by
  refine ⟨?_, ?_, ?_⟩
  · intro i hi
    have hil : i < lt.length := by simpa using hi
    by_cases e : k = i
    · subst e
      obtain ⟨a1, a2, a3⟩ := tr_at h hk
      rw [List.getElem_set_self]
      exact ⟨a1, a2, a3.1, a3.2.1, a3.2.2.1, a3.2.2.2.1, a3.2.2.2.2.1, a3.2.2.2.2.2.1, h0, h1⟩
    · rw [List.getElem_set_ne e]
      exact h.1 i hil
  · have := h.2.1
    rw [← List.pairwise_map (f := Trp.i) (R := fun a b => a < b)] at this ⊢
    rw [map_set_same hk (by rfl)]
    exact this
  · rw [map_set_same hk (by rfl)]
    exact h.2.2
theorem pl_set (h : PLr W H l lb s.ls) (k : Nat) {x : Int} (h0 : 0 ≤ x) (h1 : x ≤ 1000000) : PLr W H l lb (s.ls.set k x) :=
  ⟨by rw [List.length_set]; exact h.1, am_set h.2.1 k h0 h1, h.2.2⟩
theorem ixp_lt {x y : Int} (h : inb W H x y = true) : ixp W x y < W * H := by
  obtain ⟨a, b, rfl, rfl, ha, hb⟩ := inb_nat h
  unfold ixp
  simp only [Int.toNat_natCast]
  exact place_lt ha hb
theorem drop_bd (ho : oks W H l lb s) {k : Nat} {t : Trp} (hk : s.lt[k]? = some t) : 0 ≤ dropN s t ∧ dropN s t ≤ t.d ∧ s.ls.getD t.o.toNat 0 + dropN s t ≤ 1000000 ∧ 0 ≤ s.ls.getD t.o.toNat 0 ∧ t.d ≤ 5 ∧ t.o.toNat < lb.length := by
  have h1 := (tr_at ho.tr hk).2.2
  have h2 := am_at ho.pl.2.1 t.o.toNat
  have h3 : loadOf t.k ≤ 5 := by unfold loadOf; split <;> omega
  have h4 : 0 ≤ t.d := h1.2.2.2.2.2.2.1
  have h5 : t.d ≤ loadOf t.k := h1.2.2.2.2.2.2.2
  have h6 := h1.2.1
  have h7 := h1.2.2.1
  unfold dropN mnd
  split <;> refine ⟨by omega, by omega, by omega, by omega, by omega, by omega⟩
theorem opn_inb {x y : Int} (h : opn W H l x y = true) : inb W H x y = true := by unfold opn at h; simp at h; exact h.1
theorem find_free {c : Cel} (h : makeF W H l lb s d.w = some c) : freq W H l s.lt c = true := List.find?_some h
theorem freq_parts {c : Cel} (h : freq W H l lt c = true) : opn W H l c.x c.y = true ∧ ∀ t ∈ lt, t.c ≠ c := by
  unfold freq onq at h
  rw [Bool.and_eq_true, Bool.not_eq_true', List.any_eq_false] at h
  exact ⟨h.1, fun t ht e => h.2 t ht (onb_iff.2 e)⟩
theorem dd_oks (ho : oks W H l lb s) (h : Dd W H l lb s d s') : oks W H l lb s' := by
  cases h with
  | mine a1 a2 a3 a4 =>
    rename_i k t
    obtain ⟨b1, b2, b3, b4, b5⟩ := a4
    have hm := am_at ho.mn.2.1 (ixp W d.x d.y)
    refine ⟨ho.f, ho.nb, by show (s.lt.set k _).length ≤ 100; rw [List.length_set]; exact ho.nt, ho.n1, ho.n2, ho.pl, ?_, tr_load ho.tr a2 (by have := (tr_at ho.tr a2).2.2.2.2.2.2.2.2.1; omega) (by unfold loadOf; rw [b3]; simp; omega)⟩
    refine ⟨by show (s.lm.set _ _).length = l.length; rw [List.length_set]; exact ho.mn.1, am_set ho.mn.2.1 _ (by omega) (by omega), ?_⟩
    intro i hi hne
    have hil : i < s.lm.length := by simpa [mineS] using hi
    by_cases e : ixp W d.x d.y = i
    · subst e
      refine ho.mn.2.2 _ hil (fun h0 => b2 ?_)
      rw [List.getD_eq_getElem?_getD, List.getElem?_eq_getElem hil, h0]; rfl
    · refine ho.mn.2.2 i hil (fun h0 => hne ?_)
      simp only [mineS]
      rw [List.getElem_set_ne e]; exact h0
  | drop a1 a2 a3 a4 =>
    rename_i k t
    obtain ⟨b1, b2, b3, b4, b5, b6⟩ := drop_bd ho a2
    have h5 : t.d ≤ loadOf t.k := (tr_at ho.tr a2).2.2.2.2.2.2.2.2.2
    exact ⟨ho.f, ho.nb, by show (s.lt.set k _).length ≤ 100; rw [List.length_set]; exact ho.nt, ho.n1, ho.n2, pl_set ho.pl _ (by omega) b3, ho.mn, tr_load ho.tr a2 (by omega) (by omega)⟩
  | make a1 a2 a3 =>
    rename_i c
    obtain ⟨b1, b2, b3, b4, b5, b6⟩ := a2
    obtain ⟨f1, f2⟩ := freq_parts (find_free a3)
    have hs := am_at ho.pl.2.1 d.w.toNat
    have hp : 5 ≤ priceOf d.a := by unfold priceOf; split <;> omega
    have hl1 : 10 ≤ lifeOf d.a := by unfold lifeOf; split <;> omega
    have hl2 : 0 ≤ loadOf d.a := by unfold loadOf; split <;> omega
    have n1 := ho.n1
    refine ⟨ho.f, ho.nb, by show (s.lt ++ [_]).length ≤ 100; rw [List.length_append, List.length_singleton]; omega, by show 1 ≤ s.N + 1; omega, by show s.N + 1 ≤ 1000000; omega, pl_set ho.pl _ (by omega) (by omega), ho.mn, ?_, ?_, ?_⟩
    · intro i hi
      simp only [makeS] at hi ⊢
      by_cases e : i < s.lt.length
      · rw [List.getElem_append_left e]
        have := ho.tr.1 i e
        exact ⟨this.1, by omega, this.2.2⟩
      · have e2 : i = s.lt.length := by rw [List.length_append, List.length_singleton] at hi; omega
        subst e2
        rw [List.getElem_append_right (Nat.le_refl _)]
        simp only [Nat.sub_self, List.getElem_singleton, makeT]
        exact ⟨n1, by omega, b1, b2, b3, f1, by show 1 ≤ lifeOf d.a; omega, Int.le_refl _, Int.le_refl _, hl2⟩
    · simp only [makeS]
      rw [List.pairwise_append]
      refine ⟨ho.tr.2.1, by simp, fun a ha b hb => ?_⟩
      simp at hb
      subst hb
      obtain ⟨i, hi, rfl⟩ := List.getElem_of_mem ha
      exact (ho.tr.1 i hi).2.1
    · simp only [makeS]
      rw [List.map_append, List.nodup_append]
      refine ⟨ho.tr.2.2, by simp, fun a ha b hb => ?_⟩
      simp at hb
      subst hb
      obtain ⟨t, ht, rfl⟩ := List.mem_map.1 ha
      exact f2 t ht
theorem ds_oks {r : Bool} (ho : oks W H l lb s) (h : Ds W H l lb s d s' r) : oks W H l lb s' := by
  rcases h with ⟨_, h⟩ | ⟨_, rfl, _⟩
  · exact dd_oks ho h
  · exact ho
/-- What all there is is worth. -/
def tws (lt : List Trp) : Int := (lt.map fun t => t.d + priceOf t.k).sum
def wth (s : Shp) : Int := s.lm.sum + s.ls.sum + tws s.lt
theorem sum_set : ∀ (L : List Int) (k : Nat) (x : Int), k < L.length → (L.set k x).sum = L.sum - L.getD k 0 + x := by
  intro L
  induction L with
  | nil => intro k x h; simp at h
  | cons y L ih =>
    intro k x h
    cases k with
    | zero => simp; omega
    | succ k =>
      have := ih k x (by simpa using h)
      simp only [List.set_cons_succ, List.sum_cons, List.getD_cons_succ]
      omega
theorem tws_set {k : Nat} {t : Trp} (hk : lt[k]? = some t) (d : Int) : tws (lt.set k (t.load d)) = tws lt - t.d + d := by
  obtain ⟨hkl, rfl⟩ := List.getElem?_eq_some_iff.1 hk
  unfold tws
  rw [List.map_set, sum_set _ _ _ (by simpa using hkl), List.getD_eq_getElem?_getD, List.getElem?_map, List.getElem?_eq_getElem hkl]
  simp only [Option.map_some, Option.getD_some, Trp.load]
  omega
theorem dd_wth (ho : oks W H l lb s) (h : Dd W H l lb s d s') : wth s' = wth s := by
  cases h with
  | mine a1 a2 a3 a4 =>
    rename_i k t
    have h1 := ixp_lt a4.1
    have h2 : ixp W d.x d.y < s.lm.length := by rw [ho.mn.1, ho.f.2.2.1]; exact h1
    unfold wth mineS
    simp only
    rw [sum_set _ _ _ h2, tws_set a2]
    omega
  | drop a1 a2 a3 a4 =>
    rename_i k t
    have h1 := (drop_bd ho a2).2.2.2.2.2
    unfold wth dropS
    simp only
    rw [sum_set _ _ _ (by rw [ho.pl.1]; exact h1), tws_set a2]
    omega
  | make a1 a2 a3 =>
    have h1 : d.w.toNat < s.ls.length := by rw [ho.pl.1]; have := a2.2.1; have := a2.2.2.1; omega
    unfold wth makeS
    simp only
    rw [sum_set _ _ _ h1]
    unfold tws
    rw [List.map_append, List.sum_append]
    simp [makeT]
    omega
theorem ds_wth {r : Bool} (ho : oks W H l lb s) (h : Ds W H l lb s d s' r) : wth s' = wth s := by
  rcases h with ⟨_, h⟩ | ⟨_, rfl, _⟩
  · exact dd_wth ho h
  · rfl
/-- Who there was is there, but for the Load; who is new has a new number. -/
structure grew (s s' : Shp) : Prop where
  n : s.lt.length ≤ s'.lt.length
  i : s'.N - s.N = s'.lt.length - s.lt.length
  a : ∀ (k : Nat) (t : Trp), s.lt[k]? = some t → ∃ d, s'.lt[k]? = some (t.load d)
  b : ∀ (k : Nat) (t : Trp), s.lt.length ≤ k → s'.lt[k]? = some t → s.N ≤ t.i
theorem grew.refl (s : Shp) : grew s s := ⟨Nat.le_refl _, by omega, fun k t h => ⟨t.d, h⟩, fun k t h1 h2 => by have := (List.getElem?_eq_some_iff.1 h2).1; omega⟩
theorem grew.trans (h : grew s s1) (g : grew s1 s2) : grew s s2 where
  n := Nat.le_trans h.n g.n
  i := by have := h.i; have := g.i; omega
  a := fun k t hk => by
    obtain ⟨d, h1⟩ := h.a k t hk
    obtain ⟨d2, h2⟩ := g.a k _ h1
    exact ⟨d2, h2⟩
  b := fun k t hk ht => by
    by_cases e : k < s1.lt.length
    · obtain ⟨d, h1⟩ := g.a k _ (List.getElem?_eq_getElem e)
      have h2 := h.b k _ hk (List.getElem?_eq_getElem e)
      rw [ht] at h1
      cases h1
      exact h2
    · have h1 := g.b k t (by omega) ht
      have h2 := h.i
      have h3 := h.n
      omega
theorem set_grew {k : Nat} {t : Trp} (hk : lt[k]? = some t) (d : Int) {ls lm ls' lm' : List Int} : grew ⟨ls, lm, lt, N⟩ ⟨ls', lm', lt.set k (t.load d), N⟩ where
  n := by simp
  i := by simp
  a := fun j u hj => by
    by_cases e : k = j
    · subst e
      rw [hk] at hj
      cases hj
      refine ⟨d, ?_⟩
      obtain ⟨hkl, _⟩ := List.getElem?_eq_some_iff.1 hk
      simp [hkl]
    · exact ⟨u.d, by simp only; rw [List.getElem?_set_ne e]; exact hj⟩
  b := fun j u h1 h2 => by have := (List.getElem?_eq_some_iff.1 h2).1; simp at this h1; omega
theorem dd_grew (h : Dd W H l lb s d s') : grew s s' := by
  cases h with
  | mine a1 a2 a3 a4 => exact set_grew a2 _
  | drop a1 a2 a3 a4 => exact set_grew a2 _
  | make a1 a2 a3 =>
    refine ⟨by simp [makeS], by simp [makeS]; omega, fun k t hk => ⟨t.d, ?_⟩, fun k t hk ht => ?_⟩
    · simp only [makeS]
      have := (List.getElem?_eq_some_iff.1 hk).1
      rw [List.getElem?_append_left this]; exact hk
    · simp only [makeS] at ht
      rw [List.getElem?_append_right hk] at ht
      have h1 := (List.getElem?_eq_some_iff.1 ht).1
      have h2 : k - s.lt.length = 0 := by simpa using h1
      rw [h2] at ht
      simp at ht
      rw [← ht]
      exact Int.le_refl _
theorem ds_grew {r : Bool} (h : Ds W H l lb s d s' r) : grew s s' := by
  rcases h with ⟨_, h⟩ | ⟨_, rfl, _⟩
  · exact dd_grew h
  · exact grew.refl _
variable {ds es : List Ded} {bs cs : List Bool}
theorem dr_oks (ho : oks W H l lb s) (h : Dr W H l lb s ds s' bs) : oks W H l lb s' := by
  induction h with
  | zero => exact ho
  | more h1 h2 ih => exact ds_oks ih h2
theorem dr_wth (ho : oks W H l lb s) (h : Dr W H l lb s ds s' bs) : wth s' = wth s := by
  induction h with
  | zero => rfl
  | more h1 h2 ih => rw [ds_wth (dr_oks ho h1) h2, ih]
theorem dr_grew (h : Dr W H l lb s ds s' bs) : grew s s' := by
  induction h with
  | zero => exact grew.refl _
  | more h1 h2 ih => exact ih.trans (ds_grew h2)
theorem dr_len (h : Dr W H l lb s ds s' bs) : bs.length = ds.length := by
  induction h with
  | zero => rfl
  | more h1 h2 ih => simp [ih]
theorem dr_one (ho : oks W H l lb s) (h1 : Dr W H l lb s ds s1 bs) : ∀ {s2 cs}, Dr W H l lb s ds s2 cs → s1 = s2 ∧ bs = cs := by
  induction h1 with
  | zero =>
    intro s2 cs h2
    generalize hd : ([] : List Ded) = ds at h2
    cases h2 with
    | zero => exact ⟨rfl, rfl⟩
    | more => simp at hd
  | more a1 a2 ih =>
    rename_i ds d s3 s4 bs r
    intro s2 cs h2
    generalize hd : ds ++ [d] = ds' at h2
    cases h2 with
    | zero => simp at hd
    | more b1 b2 =>
      obtain ⟨rfl, hd2⟩ := List.append_inj' hd rfl
      simp at hd2
      subst hd2
      obtain ⟨rfl, rfl⟩ := ih b1
      obtain ⟨rfl, rfl⟩ := ds_one (dr_oks ho a1) a2 b2
      exact ⟨rfl, rfl⟩
theorem dr_app (h1 : Dr W H l lb s ds s1 bs) (h2 : Dr W H l lb s1 es s2 cs) : Dr W H l lb s (ds ++ es) s2 (bs ++ cs) := by
  induction h2 with
  | zero => simpa using h1
  | more a1 a2 ih =>
    rw [← List.append_assoc, ← List.append_assoc]
    exact ih.more a2
/-- Those that are done. -/
def only (ds : List Ded) (bs : List Bool) : List Ded := ((ds.zip bs).filter fun p => p.2).map fun p => p.1
theorem only_snoc (h : bs.length = ds.length) (d : Ded) (r : Bool) : only (ds ++ [d]) (bs ++ [r]) = only ds bs ++ if r then [d] else [] := by
  unfold only
  rw [List.zip_append h.symm, List.filter_append, List.map_append]
  cases r <;> simp
theorem dr_only (h : Dr W H l lb s ds s' bs) : ∃ cs, Dr W H l lb s (only ds bs) s' cs := by
  induction h with
  | zero => exact ⟨[], .zero⟩
  | more a1 a2 ih =>
    obtain ⟨cs, ih⟩ := ih
    rw [only_snoc (dr_len a1)]
    rcases a2 with ⟨rfl, h⟩ | ⟨rfl, rfl, h⟩
    · exact ⟨_, ih.more (.inl ⟨rfl, h⟩)⟩
    · exact ⟨cs, by simpa using ih⟩
theorem only_len (ds : List Ded) (bs : List Bool) : (only ds bs).length ≤ ds.length := by
  unfold only
  rw [List.length_map]
  exact Nat.le_trans (List.length_filter_le _ _) (by rw [List.length_zip]; omega)
theorem sum_nn : ∀ {L : List Int}, (∀ x ∈ L, 0 ≤ x) → 0 ≤ L.sum
  | [], _ => by simp
  | x :: L, h => by
    have h1 := h x (by simp)
    have h2 := sum_nn (L := L) (fun y hy => h y (by simp [hy]))
    simp only [List.sum_cons]; omega
theorem wth_nn (ho : oks W H l lb s) : 0 ≤ wth s := by
  have h1 : 0 ≤ s.lm.sum := sum_nn fun x hx => (any_am.1 ho.mn.2.1 x hx).1
  have h2 : 0 ≤ s.ls.sum := sum_nn fun x hx => (any_am.1 ho.pl.2.1 x hx).1
  have h3 : 0 ≤ tws s.lt := sum_nn fun x hx => by
    obtain ⟨t, ht, rfl⟩ := List.mem_map.1 hx
    obtain ⟨k, hk, rfl⟩ := List.getElem_of_mem ht
    have h4 := (ho.tr.1 k hk).2.2.2.2.2.2.2.2.1
    have h5 : 5 ≤ priceOf s.lt[k].k := by unfold priceOf; split <;> omega
    omega
  unfold wth; omega
end
end Go.Proofs.Ytdcjjfipnilmpaa
