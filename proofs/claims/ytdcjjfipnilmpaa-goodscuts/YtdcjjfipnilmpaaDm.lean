/- The mathematics of deeds: what one does, what many do, one behind the other. -/
import Derived.Test.YtdcjjfipnilmpaaMb
import Derived.Test.YtdcjjfipnilmpaaFe
import Derived.Test.YtdcjjfipnilmpaaAp
import Derived.Test.YtdcjjfipnilmpaaWc
namespace Go.Proofs.Ytdcjjfipnilmpaa
open Go.RowKit
set_option linter.unusedVariables false

/-- What deeds change of a world: stocks, mines, troops, NextId. -/
structure Shp where
  ls : List Int
  lm : List Int
  lt : List Trp
  N : Int
def priceOf (k : Int) : Int := if k = 2 then 12 else 5
/-- The place of a troop in a list, by its number. -/
def fnd (lt : List Trp) (i : Int) : Option Nat := lt.findIdx? fun t => t.i == i
def ixp (W : Nat) (x y : Int) : Nat := y.toNat * W + x.toNat
def Trp.load (t : Trp) (d : Int) : Trp := ⟨t.i, t.o, t.k, t.x, t.y, t.f, d⟩
/-- One more Load of troop k, one less in the mine J. -/
def mineS (s : Shp) (k J : Nat) (t : Trp) (m : Int) : Shp := ⟨s.ls, s.lm.set J (m - 1), s.lt.set k (t.load (t.d + 1)), s.N⟩
def mineC (W H : Nat) (s : Shp) (t : Trp) (x y : Int) : Prop := inb W H x y = true ∧ s.lm.getD (ixp W x y) 0 ≠ 0 ∧ t.k = 1 ∧ t.d < 5 ∧ kg t.x t.y x y ≤ 1
def mnd (a b : Int) : Int := if b < a then b else a
def dropN (s : Shp) (t : Trp) : Int := mnd t.d (1000000 - s.ls.getD t.o.toNat 0)
def dropC (lb : List Cel) (s : Shp) (t : Trp) : Prop := dropN s t ≠ 0 ∧ kg t.x t.y (lb.getD t.o.toNat ⟨0, 0⟩).x (lb.getD t.o.toNat ⟨0, 0⟩).y ≤ 1
def dropS (s : Shp) (k : Nat) (t : Trp) (n : Int) : Shp := ⟨s.ls.set t.o.toNat (s.ls.getD t.o.toNat 0 + n), s.lm, s.lt.set k (t.load (t.d - n)), s.N⟩
/-- Does some troop stand there? -/
def onq (lt : List Trp) (c : Cel) : Bool := lt.any (onb c.x c.y)
/-- A cell of the field, no rock, and no troop on it. -/
def freq (W H : Nat) (l : List Int) (lt : List Trp) (c : Cel) : Bool := opn W H l c.x c.y && !onq lt c
/-- The cells beside a base, in their order. -/
def nineN (b : Cel) : List Cel := (List.range 9).map fun (k : Nat) => ⟨b.x - 1 + (k % 3 : Nat), b.y - 1 + (k / 3 : Nat)⟩
def makeC (lb : List Cel) (s : Shp) (p a : Int) : Prop := (a = 1 ∨ a = 2) ∧ 0 ≤ p ∧ p < lb.length ∧ priceOf a ≤ s.ls.getD p.toNat 0 ∧ s.lt.length < 100 ∧ s.N < 1000000
def makeF (W H : Nat) (l : List Int) (lb : List Cel) (s : Shp) (p : Int) : Option Cel := (lb.getD p.toNat ⟨0, 0⟩ :: nineN (lb.getD p.toNat ⟨0, 0⟩)).find? (freq W H l s.lt)
def makeT (s : Shp) (p a : Int) (c : Cel) : Trp := ⟨s.N, p, a, c.x, c.y, lifeOf a, 0⟩
def makeS (s : Shp) (p a : Int) (c : Cel) : Shp := ⟨s.ls.set p.toNat (s.ls.getD p.toNat 0 - priceOf a), s.lm, s.lt ++ [makeT s p a c], s.N + 1⟩
/-- What one deed does, if it is done: mine, drop, make. -/
inductive Dd (W H : Nat) (l : List Int) (lb : List Cel) (s : Shp) (d : Ded) : Shp → Prop
  | mine {k : Nat} {t : Trp} : d.k = 1 → s.lt[k]? = some t → t.i = d.w → mineC W H s t d.x d.y → Dd W H l lb s d (mineS s k (ixp W d.x d.y) t (s.lm.getD (ixp W d.x d.y) 0))
  | drop {k : Nat} {t : Trp} : d.k = 2 → s.lt[k]? = some t → t.i = d.w → dropC lb s t → Dd W H l lb s d (dropS s k t (dropN s t))
  | make {c : Cel} : d.k = 3 → makeC lb s d.w d.a → makeF W H l lb s d.w = some c → Dd W H l lb s d (makeS s d.w d.a c)
/-- And with whether it is done. -/
def Ds (W H : Nat) (l : List Int) (lb : List Cel) (s : Shp) (d : Ded) (s' : Shp) (r : Bool) : Prop := (r = true ∧ Dd W H l lb s d s') ∨ (r = false ∧ s' = s ∧ ∀ s2, ¬ Dd W H l lb s d s2)
/-- Many deeds, one behind the other. -/
inductive Dr (W H : Nat) (l : List Int) (lb : List Cel) (s : Shp) : List Ded → Shp → List Bool → Prop
  | zero : Dr W H l lb s [] s []
  | more {ds : List Ded} {d : Ded} {s1 s2 : Shp} {bs : List Bool} {r : Bool} : Dr W H l lb s ds s1 bs → Ds W H l lb s1 d s2 r → Dr W H l lb s (ds ++ [d]) s2 (bs ++ [r])
/-- What is right of what deeds change. -/
structure oks (W H : Nat) (l : List Int) (lb : List Cel) (s : Shp) : Prop where
  f : okf W H l
  nb : lb.length ≤ 8
  nt : s.lt.length ≤ 100
  n1 : 1 ≤ s.N
  n2 : s.N ≤ 1000000
  pl : PLr W H l lb s.ls
  mn : MNr l s.lm
  tr : TRr W H l lb.length s.N s.lt
def Wld.shp (s : Wld) : Shp := ⟨s.ls, s.lm, s.lt, s.N⟩
theorem okw_oks {s : Wld} {W H : Nat} (h : okw s W H) (hb : s.lb.length = s.nb) (ht : s.lt.length = s.nt) : oks W H s.l s.lb s.shp := by
  have hc := h.c
  unfold cok at hc
  simp at hc
  exact ⟨h.f, by rw [hb]; exact h.nb, by show s.lt.length ≤ 100; rw [ht]; exact h.nt, by show 1 ≤ s.N; omega, by show s.N ≤ 1000000; omega, h.pl, h.mn, by rw [hb]; exact h.tr⟩
theorem oks_okw {s : Wld} {W H : Nat} (h : oks W H s.l s.lb s.shp) (ha : s.A = W) (hB : s.B = H) (hb : s.lb.length = s.nb) (ht : s.lt.length = s.nt) (hT : 0 ≤ s.T ∧ s.T ≤ 1000000) : okw s W H where
  a := ha
  b := hB
  f := h.f
  nb := by rw [← hb]; exact h.nb
  nt := by rw [← ht]; exact h.nt
  c := by
    have h1 : 1 ≤ s.N := h.n1
    have h2 : s.N ≤ 1000000 := h.n2
    unfold cok; simp; omega
  pl := h.pl
  mn := h.mn
  tr := by rw [← hb]; exact h.tr

/-- No two troops have one number. -/
theorem tr_one {W H nb : Nat} {l : List Int} {N : Int} {lt : List Trp} (h : TRr W H l nb N lt) {j k : Nat} {t u : Trp} (hj : lt[j]? = some t) (hk : lt[k]? = some u) (e : t.i = u.i) : j = k := by
  obtain ⟨hjl, rfl⟩ := List.getElem?_eq_some_iff.1 hj
  obtain ⟨hkl, rfl⟩ := List.getElem?_eq_some_iff.1 hk
  have hp := List.pairwise_iff_getElem.1 h.2.1
  rcases Nat.lt_trichotomy j k with h1 | h1 | h1
  · have := hp j k hjl hkl h1; omega
  · exact h1
  · have := hp k j hkl hjl h1; omega
theorem dd_one {W H : Nat} {l : List Int} {lb : List Cel} {s : Shp} {d : Ded} {s1 s2 : Shp} (ho : oks W H l lb s) (h1 : Dd W H l lb s d s1) (h2 : Dd W H l lb s d s2) : s1 = s2 := by
  cases h1 with
  | mine a1 a2 a3 a4 =>
    cases h2 with
    | mine b1 b2 b3 b4 =>
      obtain rfl := tr_one ho.tr a2 b2 (by rw [a3, b3])
      rw [a2] at b2; cases b2; rfl
    | drop b1 => omega
    | make b1 => omega
  | drop a1 a2 a3 a4 =>
    cases h2 with
    | mine b1 => omega
    | drop b1 b2 b3 b4 =>
      obtain rfl := tr_one ho.tr a2 b2 (by rw [a3, b3])
      rw [a2] at b2; cases b2; rfl
    | make b1 => omega
  | make a1 a2 a3 =>
    cases h2 with
    | mine b1 => omega
    | drop b1 => omega
    | make b1 b2 b3 => rw [a3] at b3; cases b3; rfl
theorem ds_one {W H : Nat} {l : List Int} {lb : List Cel} {s : Shp} {d : Ded} {s1 s2 : Shp} {r1 r2 : Bool} (ho : oks W H l lb s) (h1 : Ds W H l lb s d s1 r1) (h2 : Ds W H l lb s d s2 r2) : s1 = s2 ∧ r1 = r2 := by
  rcases h1 with ⟨rfl, h1⟩ | ⟨rfl, rfl, h1⟩
  · rcases h2 with ⟨rfl, h2⟩ | ⟨rfl, rfl, h2⟩
    · exact ⟨dd_one ho h1 h2, rfl⟩
    · exact absurd h1 (h2 _)
  · rcases h2 with ⟨rfl, h2⟩ | ⟨rfl, rfl, h2⟩
    · exact absurd h2 (h1 _)
    · exact ⟨rfl, rfl⟩
end Go.Proofs.Ytdcjjfipnilmpaa
