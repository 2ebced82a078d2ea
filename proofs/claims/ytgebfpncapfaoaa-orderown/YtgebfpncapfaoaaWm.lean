/- The mathematics of a world: when its players, mines and troops are right, and which error it is of. -/
import Derived.Test.YtgebfpncapfaoaaWa
namespace Go.Proofs.Ytgebfpncapfaoaa
open Go.RowKit
set_option linter.unusedVariables false

def Trp.c (t : Trp) : Cel := ⟨t.x, t.y⟩
def lifeOf (k : Int) : Int := if k = 2 then 20 else 10
def loadOf (k : Int) : Int := if k = 2 then 0 else 5
/-- The players are right: as many stocks as bases, each stock an amount, each base a cell that is no rock, no two one. -/
def PLr (W H : Nat) (l : List Int) (lb : List Cel) (ls : List Int) : Prop := ls.length = lb.length ∧ ls.any am = false ∧ (∀ i (h : i < lb.length), opn W H l lb[i].x lb[i].y = true) ∧ lb.Nodup
/-- The mines are right. -/
def MNr (l lm : List Int) : Prop := lm.length = l.length ∧ lm.any am = false ∧ ∀ i (h : i < lm.length), lm[i] ≠ 0 → l.getD i 0 = 3
/-- A troop is right by itself, but for its Id. -/
def T1r (W H : Nat) (l : List Int) (nb : Nat) (t : Trp) : Prop := (t.k = 1 ∨ t.k = 2) ∧ 0 ≤ t.o ∧ t.o < nb ∧ opn W H l t.x t.y = true ∧ 1 ≤ t.f ∧ t.f ≤ lifeOf t.k ∧ 0 ≤ t.d ∧ t.d ≤ loadOf t.k
/-- The troops are right. -/
def TRr (W H : Nat) (l : List Int) (nb : Nat) (N : Int) (lt : List Trp) : Prop := (∀ i (h : i < lt.length), 1 ≤ lt[i].i ∧ lt[i].i < N ∧ T1r W H l nb lt[i]) ∧ lt.Pairwise (fun a b => a.i < b.i) ∧ (lt.map Trp.c).Nodup
/-- A right world, of so many places to a side. -/
structure okw (s : Wld) (W H : Nat) : Prop where
  a : s.A = W
  b : s.B = H
  f : okf W H s.l
  nb : s.nb ≤ 8
  nt : s.nt ≤ 100
  c : cok s.N s.T = true
  pl : PLr W H s.l s.lb s.ls
  mn : MNr s.l s.lm
  tr : TRr W H s.l s.nb s.N s.lt
/-- Which error a world is of. -/
def wre (s : Wld) (E : Int) : Prop :=
  (ck s.A s.B s.l ≠ 0 ∧ E = ck s.A s.B s.l) ∨ (ck s.A s.B s.l = 0 ∧ (8 < s.nb ∨ 100 < s.nt) ∧ E = 2) ∨ (ck s.A s.B s.l = 0 ∧ s.nb ≤ 8 ∧ s.nt ≤ 100 ∧ (((∃ W H, okw s W H) ∧ E = 0) ∨ ((¬ ∃ W H, okw s W H) ∧ E = 4)))

theorem ck_zero {A B : Int} {l : List Int} (h : ck A B l = 0) : ∃ W H : Nat, A = W ∧ B = H ∧ okf W H l := by
  unfold ck at h
  by_cases h1 : sd A = true ∧ sd B = true
  · rw [if_pos h1] at h
    have ha : 1 ≤ A ∧ A ≤ 40 := by have := h1.1; unfold sd at this; simpa using this
    have hb : 1 ≤ B ∧ B ≤ 40 := by have := h1.2; unfold sd at this; simpa using this
    by_cases h2 : (l.length : Int) = A * B ∧ l.any bad = false
    · refine ⟨A.toNat, B.toNat, by omega, by omega, by omega, by omega, ?_, h2.2⟩
      have e1 : A = (A.toNat : Int) := by omega
      have e2 : B = (B.toNat : Int) := by omega
      have := h2.1
      rw [e1, e2, ← Int.natCast_mul] at this
      exact Int.ofNat.inj this
    · rw [if_neg h2] at h; omega
  · rw [if_neg h1] at h; omega
theorem ck_of {W H : Nat} {l : List Int} (h : okf W H l) : ck W H l = 0 := by
  obtain ⟨h1, h2, h3, h4⟩ := h
  have a1 : sd (W : Int) = true := by unfold sd; simp; omega
  have a2 : sd (H : Int) = true := by unfold sd; simp; omega
  unfold ck
  rw [if_pos ⟨a1, a2⟩, if_pos ⟨by rw [h3, Int.natCast_mul], h4⟩]
theorem wre_total (s : Wld) : ∃ E, wre s E := by
  by_cases h0 : ck s.A s.B s.l = 0
  · by_cases h1 : s.nb ≤ 8 ∧ s.nt ≤ 100
    · by_cases h2 : ∃ W H, okw s W H
      · exact ⟨0, .inr (.inr ⟨h0, h1.1, h1.2, .inl ⟨h2, rfl⟩⟩)⟩
      · exact ⟨4, .inr (.inr ⟨h0, h1.1, h1.2, .inr ⟨h2, rfl⟩⟩)⟩
    · exact ⟨2, .inr (.inl ⟨h0, by omega, rfl⟩)⟩
  · exact ⟨_, .inl ⟨h0, rfl⟩⟩
theorem wre_ok {s : Wld} (h : wre s 0) : ∃ W H, okw s W H := by
  rcases h with ⟨h1, h2⟩ | ⟨_, _, h⟩ | ⟨_, _, _, ⟨h, _⟩ | ⟨_, h⟩⟩
  · exact absurd h2.symm h1
  · omega
  · exact h
  · omega
theorem wre_no {s : Wld} {E : Int} (h : wre s E) (hE : E ≠ 0) : ¬ ∃ W H, okw s W H := by
  rintro ⟨W, H, hk⟩
  have h0 : ck s.A s.B s.l = 0 := by rw [hk.a, hk.b]; exact ck_of hk.f
  have := hk.nb
  have := hk.nt
  rcases h with ⟨h1, h2⟩ | ⟨_, h1, h⟩ | ⟨_, _, _, ⟨h, h1⟩ | ⟨h, h1⟩⟩
  · exact h1 h0
  · omega
  · exact hE h1
  · exact h ⟨W, H, hk⟩
theorem wre_of {s : Wld} {W H : Nat} (hk : okw s W H) : wre s 0 :=
  .inr (.inr ⟨by rw [hk.a, hk.b]; exact ck_of hk.f, hk.nb, hk.nt, .inl ⟨⟨W, H, hk⟩, rfl⟩⟩)

/-- Some k of a list, and the next one. -/
theorem take_nodup {α : Type} {l : List α} {k : Nat} (hk : k < l.length) : (l.take (k + 1)).Nodup ↔ (l.take k).Nodup ∧ l[k] ∉ l.take k := by
  rw [List.take_succ_eq_append_getElem hk, List.nodup_append]
  constructor
  · rintro ⟨h1, _, h2⟩; exact ⟨h1, fun h => h2 _ h _ (by simp) rfl⟩
  · rintro ⟨h1, h2⟩; exact ⟨h1, by simp, fun a ha b hb => by simp at hb; subst hb; exact fun e => h2 (e ▸ ha)⟩
theorem nodup_take {α : Type} {l : List α} {k : Nat} (h : l.Nodup) : (l.take k).Nodup := List.Nodup.sublist (List.take_sublist k l) h
/-- The cells of a box of nine at a call's head. -/
theorem boxw {w w0 V : World} {a b c d e f g h i : Value} {t : TypeId} {F : Nat} (hF : w.heap.size = F) (hw : w.alloc (.cells #[a, b, c, d, e, f, g, h, i] t) = w0) (hb : Below w0.heap.size w0 V) :
    V.cell? ⟨F, 0, none⟩ = some a ∧ V.cell? ⟨F, 1, none⟩ = some b ∧ V.cell? ⟨F, 2, none⟩ = some c ∧ V.cell? ⟨F, 3, none⟩ = some d ∧ V.cell? ⟨F, 4, none⟩ = some e ∧ V.cell? ⟨F, 5, none⟩ = some f ∧ V.cell? ⟨F, 6, none⟩ = some g ∧ V.cell? ⟨F, 7, none⟩ = some h ∧ V.cell? ⟨F, 8, none⟩ = some i := by
  subst hw hF
  refine ⟨?_, ?_, ?_, ?_, ?_, ?_, ?_, ?_, ?_⟩
  all_goals
    rw [hb.cell (by simp)]
    simp [go_sem]
/-- The cells of a box of nine in V. -/
def c9 (V : World) (F : Nat) (a b c d e f g h i : Value) : Prop :=
  V.cell? ⟨F, 0, none⟩ = some a ∧ V.cell? ⟨F, 1, none⟩ = some b ∧ V.cell? ⟨F, 2, none⟩ = some c ∧ V.cell? ⟨F, 3, none⟩ = some d ∧ V.cell? ⟨F, 4, none⟩ = some e ∧ V.cell? ⟨F, 5, none⟩ = some f ∧ V.cell? ⟨F, 6, none⟩ = some g ∧ V.cell? ⟨F, 7, none⟩ = some h ∧ V.cell? ⟨F, 8, none⟩ = some i
end Go.Proofs.Ytgebfpncapfaoaa
