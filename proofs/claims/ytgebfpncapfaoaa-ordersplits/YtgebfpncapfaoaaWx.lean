/- What the document's own WorldRight returns. -/
import Derived.Test.YtgebfpncapfaoaaWr
namespace Go.Proofs.Ytgebfpncapfaoaa
open Go.RowKit
set_option linter.unusedVariables false
set_option linter.unusedSimpArgs false

theorem KindOf_at (k : Int) (h : k = 1 ∨ k = 2) : ∃ r g q : Int, ∀ (w : World), Calls Try.prog 52 #[.int .i64 k] w fun e w' => e = .returned (.agg #[.int .i64 (lifeOf k), .int .i64 r, .int .i64 g, .int .i64 q]) ∧ Below w.heap.size w w' := by
  rcases h with rfl | rfl
  · exact ⟨1, 1, 5, KindOf_1⟩
  · exact ⟨2, 4, 12, KindOf_2⟩
/-- The first k players are right. -/
def QA (W H : Nat) (l : List Int) (lb : List Cel) (ls : List Int) (k : Nat) : Prop := (∀ i (h : i < lb.length), i < k → opn W H l lb[i].x lb[i].y = true ∧ am (ls.getD i 0) = false) ∧ (lb.take k).Nodup
theorem QA_zero (W H : Nat) (l : List Int) (lb : List Cel) (ls : List Int) : QA W H l lb ls 0 := ⟨fun i h hi => by omega, by simp⟩
theorem QA_succ {W H : Nat} {l : List Int} {lb : List Cel} {ls : List Int} {k : Nat} (hk : k < lb.length) : QA W H l lb ls (k + 1) ↔ QA W H l lb ls k ∧ opn W H l lb[k].x lb[k].y = true ∧ am (ls.getD k 0) = false ∧ ∀ i (h : i < lb.length), i < k → lb[i] ≠ lb[k] := by
  unfold QA
  rw [take_nodup hk]
  constructor
  · rintro ⟨h1, h2, h3⟩
    refine ⟨⟨fun i h hi => h1 i h (by omega), h2⟩, (h1 k hk (by omega)).1, (h1 k hk (by omega)).2, fun i h hi e => h3 ?_⟩
    rw [← e]
    exact List.mem_take_iff_getElem.2 ⟨i, by omega, rfl⟩
  · rintro ⟨⟨h1, h2⟩, h3, h4, h5⟩
    refine ⟨fun i h hi => ?_, h2, fun hm => ?_⟩
    · by_cases e : i = k
      · subst e; exact ⟨h3, h4⟩
      · exact h1 i h (by omega)
    · obtain ⟨i, hi, e⟩ := List.mem_take_iff_getElem.1 hm
      exact h5 i (by omega) (by omega) e
theorem QA_all {W H : Nat} {l : List Int} {lb : List Cel} {ls : List Int} (hl : ls.length = lb.length) : QA W H l lb ls lb.length ↔ PLr W H l lb ls := by
  unfold QA PLr
  rw [List.take_of_length_le (Nat.le_refl _)]
  constructor
  · rintro ⟨h1, h2⟩
    refine ⟨hl, ?_, fun i hi => (h1 i hi hi).1, h2⟩
    rw [List.any_eq_false]
    intro x hx
    obtain ⟨i, hi, e⟩ := List.getElem_of_mem hx
    have := (h1 i (by omega) (by omega)).2
    rw [List.getD_eq_getElem?_getD, List.getElem?_eq_getElem hi] at this
    rw [← e]; simpa using this
  · rintro ⟨_, h1, h2, h3⟩
    refine ⟨fun i h hi => ⟨h2 i h, ?_⟩, h3⟩
    rw [List.getD_eq_getElem?_getD, List.getElem?_eq_getElem (by omega)]
    simpa using List.any_eq_false.1 h1 _ (List.getElem_mem (by omega : i < ls.length))
/-- The first k mines are right. -/
def QM (l lm : List Int) (k : Nat) : Prop := ∀ i (h : i < lm.length), i < k → am lm[i] = false ∧ (lm[i] = 0 ∨ l.getD i 0 = 3)
theorem QM_succ {l lm : List Int} {k : Nat} (hk : k < lm.length) : QM l lm (k + 1) ↔ QM l lm k ∧ am lm[k] = false ∧ (lm[k] = 0 ∨ l.getD k 0 = 3) := by
  unfold QM
  constructor
  · intro h; exact ⟨fun i hi hik => h i hi (by omega), h k hk (by omega)⟩
  · rintro ⟨h1, h2⟩ i hi hik
    by_cases e : i = k
    · subst e; exact h2
    · exact h1 i hi (by omega)
theorem QM_all {l lm : List Int} (hl : lm.length = l.length) : QM l lm lm.length ↔ MNr l lm := by
  unfold QM MNr
  constructor
  · intro h
    refine ⟨hl, ?_, fun i hi hne => ?_⟩
    · rw [List.any_eq_false]
      intro x hx
      obtain ⟨i, hi, e⟩ := List.getElem_of_mem hx
      rw [← e]; simpa using (h i hi hi).1
    · rcases (h i hi hi).2 with h | h
      · exact absurd h hne
      · exact h
  · rintro ⟨_, h1, h2⟩ i hi _
    refine ⟨by simpa using List.any_eq_false.1 h1 _ (List.getElem_mem hi), ?_⟩
    by_cases e : lm[i] = 0
    · exact .inl e
    · exact .inr (h2 i hi e)
/-- The first k troops are right. -/
def QT (W H : Nat) (l : List Int) (nb : Nat) (N : Int) (lt : List Trp) (k : Nat) : Prop := ∀ i (h : i < lt.length), i < k → (1 ≤ lt[i].i ∧ lt[i].i < N ∧ T1r W H l nb lt[i]) ∧ ∀ j (hj : j < lt.length), j < i → lt[j].i < lt[i].i ∧ lt[j].c ≠ lt[i].c
theorem QT_succ {W H : Nat} {l : List Int} {nb : Nat} {N : Int} {lt : List Trp} {k : Nat} (hk : k < lt.length) : QT W H l nb N lt (k + 1) ↔ QT W H l nb N lt k ∧ (1 ≤ lt[k].i ∧ lt[k].i < N ∧ T1r W H l nb lt[k]) ∧ ∀ j (hj : j < lt.length), j < k → lt[j].i < lt[k].i ∧ lt[j].c ≠ lt[k].c := by
  unfold QT
  constructor
  · intro h; exact ⟨fun i hi hik => h i hi (by omega), h k hk (by omega)⟩
  · rintro ⟨h1, h2⟩ i hi hik
    by_cases e : i = k
    · subst e; exact h2
    · exact h1 i hi (by omega)
theorem QT_all {W H : Nat} {l : List Int} {nb : Nat} {N : Int} {lt : List Trp} : QT W H l nb N lt lt.length ↔ TRr W H l nb N lt := by
  unfold QT TRr
  rw [List.Nodup, List.pairwise_iff_getElem, List.pairwise_iff_getElem]
  constructor
  · intro h
    refine ⟨fun i hi => (h i hi hi).1, fun i j hi hj hij => ((h j hj hj).2 i hi hij).1, fun i j hi hj hij => ?_⟩
    rw [List.getElem_map, List.getElem_map]
    rw [List.length_map] at hi hj
    exact ((h j hj hj).2 i hi hij).2
  · rintro ⟨h1, h2, h3⟩ i hi _
    refine ⟨h1 i hi, fun j hj hji => ⟨h2 j i hj hi hji, ?_⟩⟩
    have := h3 j i (by rw [List.length_map]; exact hj) (by rw [List.length_map]; exact hi) hji
    rw [List.getElem_map, List.getElem_map] at this
    exact this
end Go.Proofs.Ytgebfpncapfaoaa
