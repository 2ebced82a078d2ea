/- The mathematics of deeds, and a shop in memory -/
import Derived.Test.YtdcjjfipnilmpaaMb
import Derived.Test.YtdcjjfipnilmpaaMS
import Derived.Test.YtdcjjfipnilmpaaAp
import Derived.Test.YtdcjjfipnilmpaaMW
/- The mathematics of deeds: what one does, what many do, one behind the other. -/
namespace Go.Proofs.Ytdcjjfipnilmpaa
open Go.RowKit
set_option linter.unusedVariables false

/-- What deeds change of a world: stocks, mines, troops, NextId. -/
structure Shp where
  ls : List Int
  lm : List Int
  lt : List Trp
  N : Int
def priceOf (k : Int) : Int := if k = 2 then 12 else 5
/-- The place of a troop in a list, by its number. -/
def fnd (lt : List Trp) (i : Int) : Option Nat := lt.findIdx? fun t => t.i == i
def ixp (W : Nat) (x y : Int) : Nat := y.toNat * W + x.toNat
def Trp.load (t : Trp) (d : Int) : Trp := ⟨t.i, t.o, t.k, t.x, t.y, t.f, d⟩
/-- One more Load of troop k, one less in the mine J. -/
def mineS (s : Shp) (k J : Nat) (t : Trp) (m : Int) : Shp := ⟨s.ls, s.lm.set J (m - 1), s.lt.set k (t.load (t.d + 1)), s.N⟩
def mineC (W H : Nat) (s : Shp) (t : Trp) (x y : Int) : Prop := inb W H x y = true ∧ s.lm.getD (ixp W x y) 0 ≠ 0 ∧ t.k = 1 ∧ t.d < 5 ∧ kg t.x t.y x y ≤ 1
def mnd (a b : Int) : Int := if b < a then b else a
def dropN (s : Shp) (t : Trp) : Int := mnd t.d (1000000 - s.ls.getD t.o.toNat 0)
def dropC (lb : List Cel) (s : Shp) (t : Trp) : Prop := dropN s t ≠ 0 ∧ kg t.x t.y (lb.getD t.o.toNat ⟨0, 0⟩).x (lb.getD t.o.toNat ⟨0, 0⟩).y ≤ 1
def dropS (s : Shp) (k : Nat) (t : Trp) (n : Int) : Shp := ⟨s.ls.set t.o.toNat (s.ls.getD t.o.toNat 0 + n), s.lm, s.lt.set k (t.load (t.d - n)), s.N⟩
/-- Does some troop stand there? -/
def onq (lt : List Trp) (c : Cel) : Bool := lt.any (onb c.x c.y)
/-- A cell of the field, no rock, and no troop on it. -/
def freq (W H : Nat) (l : List Int) (lt : List Trp) (c : Cel) : Bool := opn W H l c.x c.y && !onq lt c
/-- The cells beside a base, in their order. -/
def nineN (b : Cel) : List Cel := (List.range 9).map fun (k : Nat) => ⟨b.x - 1 + (k % 3 : Nat), b.y - 1 + (k / 3 : Nat)⟩
def makeC (lb : List Cel) (s : Shp) (p a : Int) : Prop := (a = 1 ∨ a = 2) ∧ 0 ≤ p ∧ p < lb.length ∧ priceOf a ≤ s.ls.getD p.toNat 0 ∧ s.lt.length < 100 ∧ s.N < 1000000
def makeF (W H : Nat) (l : List Int) (lb : List Cel) (s : Shp) (p : Int) : Option Cel := (lb.getD p.toNat ⟨0, 0⟩ :: nineN (lb.getD p.toNat ⟨0, 0⟩)).find? (freq W H l s.lt)
def makeT (s : Shp) (p a : Int) (c : Cel) : Trp := ⟨s.N, p, a, c.x, c.y, lifeOf a, 0⟩
def makeS (s : Shp) (p a : Int) (c : Cel) : Shp := ⟨s.ls.set p.toNat (s.ls.getD p.toNat 0 - priceOf a), s.lm, s.lt ++ [makeT s p a c], s.N + 1⟩
/-- What one deed does, if it is done: mine, drop, make. -/
inductive Dd (W H : Nat) (l : List Int) (lb : List Cel) (s : Shp) (d : Ded) : Shp → Prop
  | mine {k : Nat} {t : Trp} : d.k = 1 → s.lt[k]? = some t → t.i = d.w → mineC W H s t d.x d.y → Dd W H l lb s d (mineS s k (ixp W d.x d.y) t (s.lm.getD (ixp W d.x d.y) 0))
  | drop {k : Nat} {t : Trp} : d.k = 2 → s.lt[k]? = some t → t.i = d.w → dropC lb s t → Dd W H l lb s d (dropS s k t (dropN s t))
  | make {c : Cel} : d.k = 3 → makeC lb s d.w d.a → makeF W H l lb s d.w = some c → Dd W H l lb s d (makeS s d.w d.a c)
/-- And with whether it is done. -/
def Ds (W H : Nat) (l : List Int) (lb : List Cel) (s : Shp) (d : Ded) (s' : Shp) (r : Bool) : Prop := (r = true ∧ Dd W H l lb s d s') ∨ (r = false ∧ s' = s ∧ ∀ s2, ¬ Dd W H l lb s d s2)
/-- Many deeds, one behind the other. -/
inductive Dr (W H : Nat) (l : List Int) (lb : List Cel) (s : Shp) : List Ded → Shp → List Bool → Prop
  | zero : Dr W H l lb s [] s []
  | more {ds : List Ded} {d : Ded} {s1 s2 : Shp} {bs : List Bool} {r : Bool} : Dr W H l lb s ds s1 bs → Ds W H l lb s1 d s2 r → Dr W H l lb s (ds ++ [d]) s2 (bs ++ [r])
/-- What is right of what deeds change. -/
structure oks (W H : Nat) (l : List Int) (lb : List Cel) (s : Shp) : Prop where
  f : okf W H l
  nb : lb.length ≤ 8
  nt : s.lt.length ≤ 100
  n1 : 1 ≤ s.N
  n2 : s.N ≤ 1000000
  pl : PLr W H l lb s.ls
  mn : MNr l s.lm
  tr : TRr W H l lb.length s.N s.lt
def Wld.shp (s : Wld) : Shp := ⟨s.ls, s.lm, s.lt, s.N⟩
theorem okw_oks {s : Wld} {W H : Nat} (h : okw s W H) (hb : s.lb.length = s.nb) (ht : s.lt.length = s.nt) : oks W H s.l s.lb s.shp := by
  have hc := h.c
  unfold cok at hc
  simp at hc
  exact ⟨h.f, by rw [hb]; exact h.nb, by show s.lt.length ≤ 100; rw [ht]; exact h.nt, by show 1 ≤ s.N; omega, by show s.N ≤ 1000000; omega, h.pl, h.mn, by rw [hb]; exact h.tr⟩
theorem oks_okw {s : Wld} {W H : Nat} (h : oks W H s.l s.lb s.shp) (ha : s.A = W) (hB : s.B = H) (hb : s.lb.length = s.nb) (ht : s.lt.length = s.nt) (hT : 0 ≤ s.T ∧ s.T ≤ 1000000) : okw s W H where
  a := ha
  b := hB
  f := h.f
  nb := by rw [← hb]; exact h.nb
  nt := by rw [← ht]; exact h.nt
  c := by
    have h1 : 1 ≤ s.N := h.n1
    have h2 : s.N ≤ 1000000 := h.n2
    unfold cok; simp; omega
  pl := h.pl
  mn := h.mn
  tr := by rw [← hb]; exact h.tr

/-- No two troops have one number. -/
theorem tr_one {W H nb : Nat} {l : List Int} {N : Int} {lt : List Trp} (h : TRr W H l nb N lt) {j k : Nat} {t u : Trp} (hj : lt[j]? = some t) (hk : lt[k]? = some u) (e : t.i = u.i) : j = k := by
  obtain ⟨hjl, rfl⟩ := List.getElem?_eq_some_iff.1 hj
  obtain ⟨hkl, rfl⟩ := List.getElem?_eq_some_iff.1 hk
  have hp := List.pairwise_iff_getElem.1 h.2.1
  rcases Nat.lt_trichotomy j k with h1 | h1 | h1
  · have := hp j k hjl hkl h1; omega
  · exact h1
  · have := hp k j hkl hjl h1; omega
theorem dd_one {W H : Nat} {l : List Int} {lb : List Cel} {s : Shp} {d : Ded} {s1 s2 : Shp} (ho : oks W H l lb s) (h1 : Dd W H l lb s d s1) (h2 : Dd W H l lb s d s2) : s1 = s2 := by
  cases h1 with
  | mine a1 a2 a3 a4 =>
    cases h2 with
    | mine b1 b2 b3 b4 =>
      obtain rfl := tr_one ho.tr a2 b2 (by rw [a3, b3])
      rw [a2] at b2; cases b2; rfl
    | drop b1 => omega
    | make b1 => omega
  | drop a1 a2 a3 a4 =>
    cases h2 with
    | mine b1 => omega
    | drop b1 b2 b3 b4 =>
      obtain rfl := tr_one ho.tr a2 b2 (by rw [a3, b3])
      rw [a2] at b2; cases b2; rfl
    | make b1 => omega
  | make a1 a2 a3 =>
    cases h2 with
    | mine b1 => omega
    | drop b1 => omega
    | make b1 b2 b3 => rw [a3] at b3; cases b3; rfl
theorem ds_one {W H : Nat} {l : List Int} {lb : List Cel} {s : Shp} {d : Ded} {s1 s2 : Shp} {r1 r2 : Bool} (ho : oks W H l lb s) (h1 : Ds W H l lb s d s1 r1) (h2 : Ds W H l lb s d s2 r2) : s1 = s2 ∧ r1 = r2 := by
  rcases h1 with ⟨rfl, h1⟩ | ⟨rfl, rfl, h1⟩
  · rcases h2 with ⟨rfl, h2⟩ | ⟨rfl, rfl, h2⟩
    · exact ⟨dd_one ho h1 h2, rfl⟩
    · exact absurd h1 (h2 _)
  · rcases h2 with ⟨rfl, h2⟩ | ⟨rfl, rfl, h2⟩
    · exact absurd h2 (h1 _)
    · exact ⟨rfl, rfl⟩
end Go.Proofs.Ytdcjjfipnilmpaa
/- The mathematics of deeds: a right world stays right, nothing is lost, who there was is there; deeds in two goes; those that are not done. -/
namespace Go.Proofs.Ytdcjjfipnilmpaa
open Go.RowKit
set_option linter.unusedVariables false

theorem any_am {l : List Int} : l.any am = false ↔ ∀ x ∈ l, 0 ≤ x ∧ x ≤ 1000000 := by
  rw [List.any_eq_false]
  constructor
  · intro h x hx
    have := h x hx
    unfold am at this
    simp at this; omega
  · intro h x hx
    have := h x hx
    unfold am
    simp; omega
theorem am_set {l : List Int} (h : l.any am = false) (k : Nat) {x : Int} (h0 : 0 ≤ x) (h1 : x ≤ 1000000) : (l.set k x).any am = false := by
  rw [any_am] at h ⊢
  intro y hy
  rcases List.mem_or_eq_of_mem_set hy with hy | rfl
  · exact h y hy
  · exact ⟨h0, h1⟩
theorem am_at {l : List Int} (h : l.any am = false) (k : Nat) : 0 ≤ l.getD k 0 ∧ l.getD k 0 ≤ 1000000 := by
  rw [any_am] at h
  rw [List.getD_eq_getElem?_getD]
  cases hk : l[k]? with
  | none => simp
  | some x => exact h x (List.mem_of_getElem? hk)
section
variable {W H nb : Nat} {l : List Int} {lb : List Cel} {N : Int} {lt : List Trp} {s s1 s2 s' : Shp} {d : Ded}
theorem tr_at (h : TRr W H l nb N lt) {k : Nat} {t : Trp} (hk : lt[k]? = some t) : 1 ≤ t.i ∧ t.i < N ∧ T1r W H l nb t := by
  obtain ⟨hkl, rfl⟩ := List.getElem?_eq_some_iff.1 hk
  exact h.1 k hkl
theorem map_set_same {α β : Type} {f : α → β} {L : List α} {k : Nat} {t u : α} (hk : L[k]? = some t) (hf : f u = f t) : (L.set k u).map f = L.map f := by
  rw [List.map_set, hf]
  apply List.ext_getElem?
  intro i
  by_cases e : k = i
  · subst e
    rw [List.getElem?_set]
    obtain ⟨hkl, rfl⟩ := List.getElem?_eq_some_iff.1 hk
    simp [hkl]
  · rw [List.getElem?_set_ne e]
theorem tr_load (h : TRr W H l nb N lt) {k : Nat} {t : Trp} (hk : lt[k]? = some t) {d : Int} (h0 : 0 ≤ d) (h1 : d ≤ loadOf t.k) : TRr W H l nb N (lt.set k (t.load d)) := by
  refine ⟨?_, ?_, ?_⟩
  · intro i hi
    have hil : i < lt.length := by simpa using hi
    by_cases e : k = i
    · subst e
      obtain ⟨a1, a2, a3⟩ := tr_at h hk
      rw [List.getElem_set_self]
      exact ⟨a1, a2, a3.1, a3.2.1, a3.2.2.1, a3.2.2.2.1, a3.2.2.2.2.1, a3.2.2.2.2.2.1, h0, h1⟩
    · rw [List.getElem_set_ne e]
      exact h.1 i hil
  · have := h.2.1
    rw [← List.pairwise_map (f := Trp.i) (R := fun a b => a < b)] at this ⊢
    rw [map_set_same hk (by rfl)]
    exact this
  · rw [map_set_same hk (by rfl)]
    exact h.2.2
theorem pl_set (h : PLr W H l lb s.ls) (k : Nat) {x : Int} (h0 : 0 ≤ x) (h1 : x ≤ 1000000) : PLr W H l lb (s.ls.set k x) :=
  ⟨by rw [List.length_set]; exact h.1, am_set h.2.1 k h0 h1, h.2.2⟩
theorem ixp_lt {x y : Int} (h : inb W H x y = true) : ixp W x y < W * H := by
  obtain ⟨a, b, rfl, rfl, ha, hb⟩ := inb_nat h
  unfold ixp
  simp only [Int.toNat_natCast]
  exact place_lt ha hb
theorem drop_bd (ho : oks W H l lb s) {k : Nat} {t : Trp} (hk : s.lt[k]? = some t) : 0 ≤ dropN s t ∧ dropN s t ≤ t.d ∧ s.ls.getD t.o.toNat 0 + dropN s t ≤ 1000000 ∧ 0 ≤ s.ls.getD t.o.toNat 0 ∧ t.d ≤ 5 ∧ t.o.toNat < lb.length := by
  have h1 := (tr_at ho.tr hk).2.2
  have h2 := am_at ho.pl.2.1 t.o.toNat
  have h3 : loadOf t.k ≤ 5 := by unfold loadOf; split <;> omega
  have h4 : 0 ≤ t.d := h1.2.2.2.2.2.2.1
  have h5 : t.d ≤ loadOf t.k := h1.2.2.2.2.2.2.2
  have h6 := h1.2.1
  have h7 := h1.2.2.1
  unfold dropN mnd
  split <;> refine ⟨by omega, by omega, by omega, by omega, by omega, by omega⟩
theorem opn_inb {x y : Int} (h : opn W H l x y = true) : inb W H x y = true := by unfold opn at h; simp at h; exact h.1
theorem find_free {c : Cel} (h : makeF W H l lb s d.w = some c) : freq W H l s.lt c = true := List.find?_some h
theorem freq_parts {c : Cel} (h : freq W H l lt c = true) : opn W H l c.x c.y = true ∧ ∀ t ∈ lt, t.c ≠ c := by
  unfold freq onq at h
  rw [Bool.and_eq_true, Bool.not_eq_true', List.any_eq_false] at h
  exact ⟨h.1, fun t ht e => h.2 t ht (onb_iff.2 e)⟩
theorem dd_oks (ho : oks W H l lb s) (h : Dd W H l lb s d s') : oks W H l lb s' := by
  cases h with
  | mine a1 a2 a3 a4 =>
    rename_i k t
    obtain ⟨b1, b2, b3, b4, b5⟩ := a4
    have hm := am_at ho.mn.2.1 (ixp W d.x d.y)
    refine ⟨ho.f, ho.nb, by show (s.lt.set k _).length ≤ 100; rw [List.length_set]; exact ho.nt, ho.n1, ho.n2, ho.pl, ?_, tr_load ho.tr a2 (by have := (tr_at ho.tr a2).2.2.2.2.2.2.2.2.1; omega) (by unfold loadOf; rw [b3]; simp; omega)⟩
    refine ⟨by show (s.lm.set _ _).length = l.length; rw [List.length_set]; exact ho.mn.1, am_set ho.mn.2.1 _ (by omega) (by omega), ?_⟩
    intro i hi hne
    have hil : i < s.lm.length := by simpa [mineS] using hi
    by_cases e : ixp W d.x d.y = i
    · subst e
      refine ho.mn.2.2 _ hil (fun h0 => b2 ?_)
      rw [List.getD_eq_getElem?_getD, List.getElem?_eq_getElem hil, h0]; rfl
    · refine ho.mn.2.2 i hil (fun h0 => hne ?_)
      simp only [mineS]
      rw [List.getElem_set_ne e]; exact h0
  | drop a1 a2 a3 a4 =>
    rename_i k t
    obtain ⟨b1, b2, b3, b4, b5, b6⟩ := drop_bd ho a2
    have h5 : t.d ≤ loadOf t.k := (tr_at ho.tr a2).2.2.2.2.2.2.2.2.2
    exact ⟨ho.f, ho.nb, by show (s.lt.set k _).length ≤ 100; rw [List.length_set]; exact ho.nt, ho.n1, ho.n2, pl_set ho.pl _ (by omega) b3, ho.mn, tr_load ho.tr a2 (by omega) (by omega)⟩
  | make a1 a2 a3 =>
    rename_i c
    obtain ⟨b1, b2, b3, b4, b5, b6⟩ := a2
    obtain ⟨f1, f2⟩ := freq_parts (find_free a3)
    have hs := am_at ho.pl.2.1 d.w.toNat
    have hp : 5 ≤ priceOf d.a := by unfold priceOf; split <;> omega
    have hl1 : 10 ≤ lifeOf d.a := by unfold lifeOf; split <;> omega
    have hl2 : 0 ≤ loadOf d.a := by unfold loadOf; split <;> omega
    have n1 := ho.n1
    refine ⟨ho.f, ho.nb, by show (s.lt ++ [_]).length ≤ 100; rw [List.length_append, List.length_singleton]; omega, by show 1 ≤ s.N + 1; omega, by show s.N + 1 ≤ 1000000; omega, pl_set ho.pl _ (by omega) (by omega), ho.mn, ?_, ?_, ?_⟩
    · intro i hi
      simp only [makeS] at hi ⊢
      by_cases e : i < s.lt.length
      · rw [List.getElem_append_left e]
        have := ho.tr.1 i e
        exact ⟨this.1, by omega, this.2.2⟩
      · have e2 : i = s.lt.length := by rw [List.length_append, List.length_singleton] at hi; omega
        subst e2
        rw [List.getElem_append_right (Nat.le_refl _)]
        simp only [Nat.sub_self, List.getElem_singleton, makeT]
        exact ⟨n1, by omega, b1, b2, b3, f1, by show 1 ≤ lifeOf d.a; omega, Int.le_refl _, Int.le_refl _, hl2⟩
    · simp only [makeS]
      rw [List.pairwise_append]
      refine ⟨ho.tr.2.1, by simp, fun a ha b hb => ?_⟩
      simp at hb
      subst hb
      obtain ⟨i, hi, rfl⟩ := List.getElem_of_mem ha
      exact (ho.tr.1 i hi).2.1
    · simp only [makeS]
      rw [List.map_append, List.nodup_append]
      refine ⟨ho.tr.2.2, by simp, fun a ha b hb => ?_⟩
      simp at hb
      subst hb
      obtain ⟨t, ht, rfl⟩ := List.mem_map.1 ha
      exact f2 t ht
theorem ds_oks {r : Bool} (ho : oks W H l lb s) (h : Ds W H l lb s d s' r) : oks W H l lb s' := by
  rcases h with ⟨_, h⟩ | ⟨_, rfl, _⟩
  · exact dd_oks ho h
  · exact ho
/-- What all there is is worth. -/
def tws (lt : List Trp) : Int := (lt.map fun t => t.d + priceOf t.k).sum
def wth (s : Shp) : Int := s.lm.sum + s.ls.sum + tws s.lt
theorem sum_set : ∀ (L : List Int) (k : Nat) (x : Int), k < L.length → (L.set k x).sum = L.sum - L.getD k 0 + x := by
  intro L
  induction L with
  | nil => intro k x h; simp at h
  | cons y L ih =>
    intro k x h
    cases k with
    | zero => simp; omega
    | succ k =>
      have := ih k x (by simpa using h)
      simp only [List.set_cons_succ, List.sum_cons, List.getD_cons_succ]
      omega
theorem tws_set {k : Nat} {t : Trp} (hk : lt[k]? = some t) (d : Int) : tws (lt.set k (t.load d)) = tws lt - t.d + d := by
  obtain ⟨hkl, rfl⟩ := List.getElem?_eq_some_iff.1 hk
  unfold tws
  rw [List.map_set, sum_set _ _ _ (by simpa using hkl), List.getD_eq_getElem?_getD, List.getElem?_map, List.getElem?_eq_getElem hkl]
  simp only [Option.map_some, Option.getD_some, Trp.load]
  omega
theorem dd_wth (ho : oks W H l lb s) (h : Dd W H l lb s d s') : wth s' = wth s := by
  cases h with
  | mine a1 a2 a3 a4 =>
    rename_i k t
    have h1 := ixp_lt a4.1
    have h2 : ixp W d.x d.y < s.lm.length := by rw [ho.mn.1, ho.f.2.2.1]; exact h1
    unfold wth mineS
    simp only
    rw [sum_set _ _ _ h2, tws_set a2]
    omega
  | drop a1 a2 a3 a4 =>
    rename_i k t
    have h1 := (drop_bd ho a2).2.2.2.2.2
    unfold wth dropS
    simp only
    rw [sum_set _ _ _ (by rw [ho.pl.1]; exact h1), tws_set a2]
    omega
  | make a1 a2 a3 =>
    have h1 : d.w.toNat < s.ls.length := by rw [ho.pl.1]; have := a2.2.1; have := a2.2.2.1; omega
    unfold wth makeS
    simp only
    rw [sum_set _ _ _ h1]
    unfold tws
    rw [List.map_append, List.sum_append]
    simp [makeT]
    omega
theorem ds_wth {r : Bool} (ho : oks W H l lb s) (h : Ds W H l lb s d s' r) : wth s' = wth s := by
  rcases h with ⟨_, h⟩ | ⟨_, rfl, _⟩
  · exact dd_wth ho h
  · rfl
/-- Who there was is there, but for the Load; who is new has a new number. -/
structure grew (s s' : Shp) : Prop where
  n : s.lt.length ≤ s'.lt.length
  i : s'.N - s.N = s'.lt.length - s.lt.length
  a : ∀ (k : Nat) (t : Trp), s.lt[k]? = some t → ∃ d, s'.lt[k]? = some (t.load d)
  b : ∀ (k : Nat) (t : Trp), s.lt.length ≤ k → s'.lt[k]? = some t → s.N ≤ t.i
theorem grew.refl (s : Shp) : grew s s := ⟨Nat.le_refl _, by omega, fun k t h => ⟨t.d, h⟩, fun k t h1 h2 => by have := (List.getElem?_eq_some_iff.1 h2).1; omega⟩
theorem grew.trans (h : grew s s1) (g : grew s1 s2) : grew s s2 where
  n := Nat.le_trans h.n g.n
  i := by have := h.i; have := g.i; omega
  a := fun k t hk => by
    obtain ⟨d, h1⟩ := h.a k t hk
    obtain ⟨d2, h2⟩ := g.a k _ h1
    exact ⟨d2, h2⟩
  b := fun k t hk ht => by
    by_cases e : k < s1.lt.length
    · obtain ⟨d, h1⟩ := g.a k _ (List.getElem?_eq_getElem e)
      have h2 := h.b k _ hk (List.getElem?_eq_getElem e)
      rw [ht] at h1
      cases h1
      exact h2
    · have h1 := g.b k t (by omega) ht
      have h2 := h.i
      have h3 := h.n
      omega
theorem set_grew {k : Nat} {t : Trp} (hk : lt[k]? = some t) (d : Int) {ls lm ls' lm' : List Int} : grew ⟨ls, lm, lt, N⟩ ⟨ls', lm', lt.set k (t.load d), N⟩ where
  n := by simp
  i := by simp
  a := fun j u hj => by
    by_cases e : k = j
    · subst e
      rw [hk] at hj
      cases hj
      refine ⟨d, ?_⟩
      obtain ⟨hkl, _⟩ := List.getElem?_eq_some_iff.1 hk
      simp [hkl]
    · exact ⟨u.d, by simp only; rw [List.getElem?_set_ne e]; exact hj⟩
  b := fun j u h1 h2 => by have := (List.getElem?_eq_some_iff.1 h2).1; simp at this h1; omega
theorem dd_grew (h : Dd W H l lb s d s') : grew s s' := by
  cases h with
  | mine a1 a2 a3 a4 => exact set_grew a2 _
  | drop a1 a2 a3 a4 => exact set_grew a2 _
  | make a1 a2 a3 =>
    refine ⟨by simp [makeS], by simp [makeS]; omega, fun k t hk => ⟨t.d, ?_⟩, fun k t hk ht => ?_⟩
    · simp only [makeS]
      have := (List.getElem?_eq_some_iff.1 hk).1
      rw [List.getElem?_append_left this]; exact hk
    · simp only [makeS] at ht
      rw [List.getElem?_append_right hk] at ht
      have h1 := (List.getElem?_eq_some_iff.1 ht).1
      have h2 : k - s.lt.length = 0 := by simpa using h1
      rw [h2] at ht
      simp at ht
      rw [← ht]
      exact Int.le_refl _
theorem ds_grew {r : Bool} (h : Ds W H l lb s d s' r) : grew s s' := by
  rcases h with ⟨_, h⟩ | ⟨_, rfl, _⟩
  · exact dd_grew h
  · exact grew.refl _
variable {ds es : List Ded} {bs cs : List Bool}
theorem dr_oks (ho : oks W H l lb s) (h : Dr W H l lb s ds s' bs) : oks W H l lb s' := by
  induction h with
  | zero => exact ho
  | more h1 h2 ih => exact ds_oks ih h2
theorem dr_wth (ho : oks W H l lb s) (h : Dr W H l lb s ds s' bs) : wth s' = wth s := by
  induction h with
  | zero => rfl
  | more h1 h2 ih => rw [ds_wth (dr_oks ho h1) h2, ih]
theorem dr_grew (h : Dr W H l lb s ds s' bs) : grew s s' := by
  induction h with
  | zero => exact grew.refl _
  | more h1 h2 ih => exact ih.trans (ds_grew h2)
theorem dr_len (h : Dr W H l lb s ds s' bs) : bs.length = ds.length := by
  induction h with
  | zero => rfl
  | more h1 h2 ih => simp [ih]
theorem dr_one (ho : oks W H l lb s) (h1 : Dr W H l lb s ds s1 bs) : ∀ {s2 cs}, Dr W H l lb s ds s2 cs → s1 = s2 ∧ bs = cs := by
  induction h1 with
  | zero =>
    intro s2 cs h2
    generalize hd : ([] : List Ded) = ds at h2
    cases h2 with
    | zero => exact ⟨rfl, rfl⟩
    | more => simp at hd
  | more a1 a2 ih =>
    rename_i ds d s3 s4 bs r
    intro s2 cs h2
    generalize hd : ds ++ [d] = ds' at h2
    cases h2 with
    | zero => simp at hd
    | more b1 b2 =>
      obtain ⟨rfl, hd2⟩ := List.append_inj' hd rfl
      simp at hd2
      subst hd2
      obtain ⟨rfl, rfl⟩ := ih b1
      obtain ⟨rfl, rfl⟩ := ds_one (dr_oks ho a1) a2 b2
      exact ⟨rfl, rfl⟩
theorem dr_app (h1 : Dr W H l lb s ds s1 bs) (h2 : Dr W H l lb s1 es s2 cs) : Dr W H l lb s (ds ++ es) s2 (bs ++ cs) := by
  induction h2 with
  | zero => simpa using h1
  | more a1 a2 ih =>
    rw [← List.append_assoc, ← List.append_assoc]
    exact ih.more a2
/-- Those that are done. -/
def only (ds : List Ded) (bs : List Bool) : List Ded := ((ds.zip bs).filter fun p => p.2).map fun p => p.1
theorem only_snoc (h : bs.length = ds.length) (d : Ded) (r : Bool) : only (ds ++ [d]) (bs ++ [r]) = only ds bs ++ if r then [d] else [] := by
  unfold only
  rw [List.zip_append h.symm, List.filter_append, List.map_append]
  cases r <;> simp
theorem dr_only (h : Dr W H l lb s ds s' bs) : ∃ cs, Dr W H l lb s (only ds bs) s' cs := by
  induction h with
  | zero => exact ⟨[], .zero⟩
  | more a1 a2 ih =>
    obtain ⟨cs, ih⟩ := ih
    rw [only_snoc (dr_len a1)]
    rcases a2 with ⟨rfl, h⟩ | ⟨rfl, rfl, h⟩
    · exact ⟨_, ih.more (.inl ⟨rfl, h⟩)⟩
    · exact ⟨cs, by simpa using ih⟩
theorem only_len (ds : List Ded) (bs : List Bool) : (only ds bs).length ≤ ds.length := by
  unfold only
  rw [List.length_map]
  exact Nat.le_trans (List.length_filter_le _ _) (by rw [List.length_zip]; omega)
theorem sum_nn : ∀ {L : List Int}, (∀ x ∈ L, 0 ≤ x) → 0 ≤ L.sum
  | [], _ => by simp
  | x :: L, h => by
    have h1 := h x (by simp)
    have h2 := sum_nn (L := L) (fun y hy => h y (by simp [hy]))
    simp only [List.sum_cons]; omega
theorem wth_nn (ho : oks W H l lb s) : 0 ≤ wth s := by
  have h1 : 0 ≤ s.lm.sum := sum_nn fun x hx => (any_am.1 ho.mn.2.1 x hx).1
  have h2 : 0 ≤ s.ls.sum := sum_nn fun x hx => (any_am.1 ho.pl.2.1 x hx).1
  have h3 : 0 ≤ tws s.lt := sum_nn fun x hx => by
    obtain ⟨t, ht, rfl⟩ := List.mem_map.1 hx
    obtain ⟨k, hk, rfl⟩ := List.getElem_of_mem ht
    have h4 := (ho.tr.1 k hk).2.2.2.2.2.2.2.2.1
    have h5 : 5 ≤ priceOf s.lt[k].k := by unfold priceOf; split <;> omega
    omega
  unfold wth; omega
end
end Go.Proofs.Ytdcjjfipnilmpaa
/- A shop in memory: its box, its world's rows of its own, its map of places; what stores and appends do to it. -/
namespace Go.Proofs.Ytdcjjfipnilmpaa
open Go.RowKit Go.Maps
set_option linter.unusedVariables false

/-- The box of ten. -/
def bx10 (V : World) (J b : Nat) (s : Wld) : Prop := V.heap[J]? = some (.cells #[.int .i64 s.A, .int .i64 s.B, .slice s.p s.n s.c, .slice s.pb s.nb s.cb, .slice s.ps s.ns s.cs, .slice s.pm s.nm s.cm, .slice s.pt s.nt s.ct, .int .i64 s.N, .int .i64 s.T, .map (some b)] 68)
/-- A shop at J, but for its map. -/
structure shop0 (B J b : Nat) (V : World) (s : Wld) : Prop where
  x : bx10 V J b s
  o : wown B V s
  a : apart3 s
  jB : B ≤ J
  bB : B ≤ b
/-- A shop at J, its map at b. -/
def shop (B J b : Nat) (V : World) (s : Wld) : Prop := shop0 B J b V s ∧ mapi V b (s.lt.map Trp.i)
/-- The blocks that may turn. -/
def shS (J b : Nat) (s : Wld) (g : Nat) : Prop := g = J ∨ g = b ∨ some g = (Value.slice s.ps s.ns s.cs).ownBlock ∨ some g = (Value.slice s.pm s.nm s.cm).ownBlock ∨ some g = (Value.slice s.pt s.nt s.ct).ownBlock
section
variable {B J b g k : Nat} {V V' : World} {s : Wld}
theorem wown_ex {S : Nat → Prop} (h : wown B V s) (he : Ex S V V') (h1 : ∀ g, (Value.slice s.p s.n s.c).ownBlock = some g → ¬ S g) (h2 : ∀ g, (Value.slice s.pb s.nb s.cb).ownBlock = some g → ¬ S g) (h3 : ∀ g, (Value.slice s.ps s.ns s.cs).ownBlock = some g → ¬ S g)
    (h4 : ∀ g, (Value.slice s.pm s.nm s.cm).ownBlock = some g → ¬ S g) (h5 : ∀ g, (Value.slice s.pt s.nt s.ct).ownBlock = some g → ¬ S g) : wown B V' s :=
  ⟨own_stays h.kp he h1, alli_ex h.jp he h1, own_stays h.kb he h2, alli_ex h.jb he h2, own_stays h.ks he h3, alli_ex h.js he h3, own_stays h.km he h4, alli_ex h.jm he h4, own_stays h.kt he h5, alli_ex h.jt he h5⟩
theorem wown_below (h : wown B V s) (hb : Below V.heap.size V V') : wown B V' s :=
  wown_ex (S := fun _ => False) h (Ex.of_below hb) (fun _ _ e => e) (fun _ _ e => e) (fun _ _ e => e) (fun _ _ e => e) (fun _ _ e => e)
theorem bx10_lt (h : bx10 V J b s) : J < V.heap.size := heap_lt h
theorem bx10_ex {S : Nat → Prop} (h : bx10 V J b s) (he : Ex S V V') (hn : ¬ S J) : bx10 V' J b s := (he.block J (bx10_lt h) hn).trans h
theorem bx10_free (h : bx10 V J b s) (o : Nat) : V.frozen? ⟨J, o, none⟩ = false := by
  unfold bx10 at h
  simp [World.frozen?, h]
theorem shop0_below (h : shop0 B J b V s) (hb : Below V.heap.size V V') : shop0 B J b V' s :=
  ⟨(hb.block J (bx10_lt h.x)).trans h.x, wown_below h.o hb, h.a, h.jB, h.bB⟩
theorem mapi_below {L : List Int} (h : mapi V b L) (hb : Below V.heap.size V V') : mapi V' b L := mapi_kept (S := fun _ => False) h (Ex.of_below hb) (fun e => e)
theorem shop_below (h : shop B J b V s) (hb : Below V.heap.size V V') : shop B J b V' s := ⟨shop0_below h.1 hb, mapi_below h.2 hb⟩
theorem shS_ge (h : shop0 B J b V s) : ∀ g, shS J b s g → B ≤ g := by
  intro g hg
  rcases hg with rfl | rfl | hg | hg | hg
  · exact h.jB
  · exact h.bB
  · exact own_base h.o.ks g hg.symm
  · exact own_base h.o.km g hg.symm
  · exact own_base h.o.kt g hg.symm
/-- Its ten cells. -/
def c10 (V : World) (J b : Nat) (s : Wld) : Prop :=
  V.cell? ⟨J, 0, none⟩ = some (.int .i64 s.A) ∧ V.cell? ⟨J, 1, none⟩ = some (.int .i64 s.B) ∧ V.cell? ⟨J, 2, none⟩ = some (.slice s.p s.n s.c) ∧ V.cell? ⟨J, 3, none⟩ = some (.slice s.pb s.nb s.cb) ∧ V.cell? ⟨J, 4, none⟩ = some (.slice s.ps s.ns s.cs) ∧ V.cell? ⟨J, 5, none⟩ = some (.slice s.pm s.nm s.cm) ∧ V.cell? ⟨J, 6, none⟩ = some (.slice s.pt s.nt s.ct) ∧ V.cell? ⟨J, 7, none⟩ = some (.int .i64 s.N) ∧ V.cell? ⟨J, 8, none⟩ = some (.int .i64 s.T) ∧ V.cell? ⟨J, 9, none⟩ = some (.map (some b))
theorem bx10_c10 (h : bx10 V J b s) : c10 V J b s := by
  unfold bx10 at h
  unfold c10
  simp [World.cell?, h]
/-- A map and a row lie apart. -/
theorem mapi_not {e : TypeId} {z B' n : Nat} {v : Value} {xs : List Value} {L : List Int} (h : V.ownsRow B' e z v n xs) (hm : mapi V b L) : ∀ g, v.ownBlock = some g → g ≠ b := by
  intro g hg e2
  subst e2
  obtain ⟨D, m, ⟨es, clock, h1, h2⟩, h3⟩ := hm
  rcases h.2 with ⟨h0, _⟩ | ⟨g1, cap, cur, hv, hB, hblk, hr⟩
  · rw [h0] at hg; cases hg
  · rw [hv] at hg
    simp [Value.ownBlock] at hg
    subst hg
    rw [hblk] at h1; cases h1
theorem mapi_cells {l : Array Value} {e : TypeId} {L : List Int} (h : V.heap[J]? = some (.cells l e)) (hm : mapi V b L) : J ≠ b := by
  intro e2
  subst e2
  obtain ⟨D, m, ⟨es, clock, h1, h2⟩, h3⟩ := hm
  rw [h] at h1; cases h1
/-- What lies apart from all that may turn. -/
theorem shS_row {e : TypeId} {z B' n : Nat} {v : Value} {xs : List Value} (h : shop B J b V s) (hr : V.ownsRow B' e z v n xs) (h3 : e ≠ 3) (h47 : e ≠ 47) (h68 : e ≠ 68) : ∀ g, v.ownBlock = some g → ¬ shS J b s g := by
  intro g hg hS
  rcases hS with rfl | rfl | hS | hS | hS
  · exact own_not hr h.1.x h68 _ hg rfl
  · exact mapi_not hr h.2 _ hg rfl
  · exact own_apart hr h.1.o.ks h3 g hg hS
  · exact own_apart hr h.1.o.km h3 g hg hS
  · exact own_apart hr h.1.o.kt h47 g hg hS
theorem flat7_load (t : Trp) (d : Int) : ∀ (Q : List Trp) (k : Nat), Q[k]? = some t → flat7 (Q.set k (t.load d)) = (flat7 Q).set (k * 7 + 6) (.int .i64 d) := by
  intro Q
  induction Q with
  | nil => intro k h; simp at h
  | cons s Q ih =>
    intro k h
    cases k with
    | zero => simp at h; subst h; rfl
    | succ k =>
      have := ih k (by simpa using h)
      have e : (k + 1) * 7 + 6 = (k * 7 + 6) + 7 := by omega
      rw [e, List.set_cons_succ, flat7_cons, flat7_cons, this]; rfl
/-- A Load written. -/
theorem shop_load {t : Trp} (h : shop B J b V s) (hp : s.pt = some ⟨g, 0, none⟩) (hk : s.lt[k]? = some t) (d : Int) : shop B J b (V.setCell ⟨g, k * 7 + 6, none⟩ (.int .i64 d)) { s with lt := s.lt.set k (t.load d) } := by
  have he : Ex (fun j => j = g) V (V.setCell ⟨g, k * 7 + 6, none⟩ (.int .i64 d)) := Ex.set (S := fun j => j = g) V ⟨g, k * 7 + 6, none⟩ rfl _
  have hg : (Value.slice s.pt s.nt s.ct).ownBlock = some g := by rw [hp]; rfl
  have hx : ∀ {e : TypeId} {z B' n : Nat} {v : Value} {xs : List Value}, V.ownsRow B' e z v n xs → e ≠ 47 → ∀ j, v.ownBlock = some j → ¬ j = g := fun hr hne j hj e => own_apart hr h.1.o.kt hne j hj (by rw [e, hg])
  have hgJ : ¬ J = g := fun e => own_not h.1.o.kt h.1.x (by decide) g hg e.symm
  refine ⟨⟨bx10_ex h.1.x he hgJ, ⟨own_stays h.1.o.kp he (hx h.1.o.kp (by decide)), alli_set h.1.o.jp _ _ _, own_stays h.1.o.kb he (hx h.1.o.kb (by decide)), alli_set h.1.o.jb _ _ _, own_stays h.1.o.ks he (hx h.1.o.ks (by decide)), alli_set h.1.o.js _ _ _, own_stays h.1.o.km he (hx h.1.o.km (by decide)), alli_set h.1.o.jm _ _ _, ?_, alli_set h.1.o.jt _ _ _⟩, h.1.a, h.1.jB, h.1.bB⟩, ?_⟩
  · have hm := h.1.o.kt
    unfold minet at hm ⊢
    simp only
    rw [flat7_load t d s.lt k hk, List.length_set]
    rw [hp, ← (own_parts h.1.o.kt).1] at hm ⊢
    exact (World.ownsRow.stored hm _ _).1
  · simp only
    rw [map_set_same hk (by rfl)]
    exact mapi_kept h.2 he (fun e => mapi_not h.1.o.kt h.2 g hg e.symm)
/-- A mine written. -/
theorem shop_lm (h : shop B J b V s) (hp : s.pm = some ⟨g, 0, none⟩) (hn : s.lm.length = s.nm) (j : Nat) (x : Int) : shop B J b (V.setCell ⟨g, j, none⟩ (.int .i64 x)) { s with lm := s.lm.set j x } := by
  have he : Ex (fun j => j = g) V (V.setCell ⟨g, j, none⟩ (.int .i64 x)) := Ex.set (S := fun j => j = g) V ⟨g, j, none⟩ rfl _
  have hg : (Value.slice s.pm s.nm s.cm).ownBlock = some g := by rw [hp]; rfl
  have hx : ∀ {e : TypeId} {z B' n : Nat} {v : Value} {xs : List Value}, V.ownsRow B' e z v n xs → e ≠ 3 → ∀ j, v.ownBlock = some j → ¬ j = g := fun hr hne j hj e => own_apart hr h.1.o.km hne j hj (by rw [e, hg])
  have ha : ∀ {v : Value}, apart v (.slice s.pm s.nm s.cm) → ∀ j, v.ownBlock = some j → ¬ j = g := fun h1 j hj e => h1 j hj (by rw [e, hg])
  have hgJ : ¬ J = g := fun e => own_not h.1.o.km h.1.x (by decide) g hg e.symm
  refine ⟨⟨bx10_ex h.1.x he hgJ, ⟨own_stays h.1.o.kp he (ha h.1.a.2.1), alli_set h.1.o.jp _ _ _, own_stays h.1.o.kb he (hx h.1.o.kb (by decide)), alli_set h.1.o.jb _ _ _, own_stays h.1.o.ks he (ha h.1.a.2.2), alli_set h.1.o.js _ _ _, ?_, alli_set h.1.o.jm _ _ _, own_stays h.1.o.kt he (hx h.1.o.kt (by decide)), alli_set h.1.o.jt _ _ _⟩, h.1.a, h.1.jB, h.1.bB⟩, ?_⟩
  · have hm := h.1.o.km
    simp only
    rw [hp] at hm ⊢
    exact mine_put hm hn j x
  · exact mapi_kept h.2 he (fun e => mapi_not h.1.o.km h.2 g hg e.symm)
/-- A stock written. -/
theorem shop_ls (h : shop B J b V s) (hp : s.ps = some ⟨g, 0, none⟩) (hn : s.ls.length = s.ns) (j : Nat) (x : Int) : shop B J b (V.setCell ⟨g, j, none⟩ (.int .i64 x)) { s with ls := s.ls.set j x } := by
  have he : Ex (fun j => j = g) V (V.setCell ⟨g, j, none⟩ (.int .i64 x)) := Ex.set (S := fun j => j = g) V ⟨g, j, none⟩ rfl _
  have hg : (Value.slice s.ps s.ns s.cs).ownBlock = some g := by rw [hp]; rfl
  have hx : ∀ {e : TypeId} {z B' n : Nat} {v : Value} {xs : List Value}, V.ownsRow B' e z v n xs → e ≠ 3 → ∀ j, v.ownBlock = some j → ¬ j = g := fun hr hne j hj e => own_apart hr h.1.o.ks hne j hj (by rw [e, hg])
  have ha : ∀ j, (Value.slice s.p s.n s.c).ownBlock = some j → ¬ j = g := fun j hj e => h.1.a.1 j hj (by rw [e, hg])
  have ha2 : ∀ j, (Value.slice s.pm s.nm s.cm).ownBlock = some j → ¬ j = g := fun j hj e => h.1.a.2.2 g hg (by rw [hj, e])
  have hgJ : ¬ J = g := fun e => own_not h.1.o.ks h.1.x (by decide) g hg e.symm
  refine ⟨⟨bx10_ex h.1.x he hgJ, ⟨own_stays h.1.o.kp he ha, alli_set h.1.o.jp _ _ _, own_stays h.1.o.kb he (hx h.1.o.kb (by decide)), alli_set h.1.o.jb _ _ _, ?_, alli_set h.1.o.js _ _ _, own_stays h.1.o.km he ha2, alli_set h.1.o.jm _ _ _, own_stays h.1.o.kt he (hx h.1.o.kt (by decide)), alli_set h.1.o.jt _ _ _⟩, h.1.a, h.1.jB, h.1.bB⟩, ?_⟩
  · have hm := h.1.o.ks
    simp only
    rw [hp] at hm ⊢
    exact mine_put hm hn j x
  · exact mapi_kept h.2 he (fun e => mapi_not h.1.o.ks h.2 g hg e.symm)
/-- The cell of a row of one's own by its number. -/
theorem own_cell {n c : Nat} {p : Option Addr} {L : List Int} (h : mine 3 vi B V (.slice p n c) L) {j : Nat} (hj : j < L.length) : ∃ g, p = some ⟨g, 0, none⟩ ∧ V.cell? ⟨g, j, none⟩ = some (.int .i64 (L.getD j 0)) ∧ V.frozen? ⟨g, j, none⟩ = false ∧ B ≤ g ∧ g < V.heap.size := by
  have hp := own_parts h
  rcases h.2 with ⟨h0, h1⟩ | ⟨g, cap, cur, hv, hB, hblk, hr⟩
  · omega
  · simp only [Value.slice.injEq] at hv
    obtain ⟨rfl, _, _⟩ := hv
    refine ⟨g, rfl, ?_, mine_free h hp.1 j, mine_lt h⟩
    rw [mine_cell h hp.1 hj rfl, List.getD_eq_getElem?_getD, List.getElem?_eq_getElem hj]; rfl
theorem own_tcell {n c : Nat} {p : Option Addr} {L : List Trp} (h : minet B V (.slice p n c) L) {j : Nat} {t : Trp} (hj : L[j]? = some t) : ∃ g, p = some ⟨g, 0, none⟩ ∧ (V.cell? ⟨g, j * 7, none⟩ = some (.int .i64 t.i) ∧ V.cell? ⟨g, j * 7 + 1, none⟩ = some (.int .i64 t.o) ∧ V.cell? ⟨g, j * 7 + 2, none⟩ = some (.int .i64 t.k) ∧ V.cell? ⟨g, j * 7 + 3, none⟩ = some (.int .i64 t.x) ∧ V.cell? ⟨g, j * 7 + 4, none⟩ = some (.int .i64 t.y) ∧ V.cell? ⟨g, j * 7 + 5, none⟩ = some (.int .i64 t.f) ∧ V.cell? ⟨g, j * 7 + 6, none⟩ = some (.int .i64 t.d)) ∧ V.frozen? ⟨g, j * 7 + 6, none⟩ = false ∧ B ≤ g ∧ g < V.heap.size := by
  have hp := own_parts h
  have hl := (List.getElem?_eq_some_iff.1 hj).1
  obtain ⟨g, rfl⟩ := minet_ptr h hp.1 (by omega)
  exact ⟨g, rfl, minet_at h hp.1 hj, minet_free h hp.1 _, World.ownsRow.lt h g rfl⟩
end
end Go.Proofs.Ytdcjjfipnilmpaa
