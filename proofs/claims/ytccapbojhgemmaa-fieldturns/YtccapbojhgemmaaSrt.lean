/- What slices.Sort does to a row of one's own. -/
import Derived.Test.YtccapbojhgemmaaOwn
import Derived.Test.YtccapbojhgemmaaShelf
import Derived.Sort.OwnSortedInts
namespace Go.Proofs.Ytccapbojhgemmaa
open Go.RowKit Go.Sort
set_option linter.unusedVariables false
theorem Sort_mine {B g n c : Nat} {L : List Int} {w : World} (hn : L.length = n) (hl : n ≤ 1000000) (ho : mine 3 vi B w (.slice (some ⟨g, 0, none⟩) n c) L) :
    Calls Try.prog 13 #[.slice (some ⟨g, 0, none⟩) n c] w fun e w' => e = .returned (.tuple #[]) ∧ mine 3 vi B w' (.slice (some ⟨g, 0, none⟩) n c) (L.mergeSort fun x y => decide (x ≤ y)) ∧ w.grownBy w' (some g) := by
  subst hn
  rcases ho.2 with ⟨h0, _⟩ | ⟨g', cap, cur, hv, hg, hb, h1, h2, h3, h4⟩
  · cases h0
  · cases hv
    rw [Nat.mul_one] at h4
    have hH := holds_of_blockI hb h4
    refine (Try.slices_Sort_int g 0 c L w hH (Array.getElem?_eq_some_iff.1 hb).1 (by omega)).mono ?_
    rintro e w' ⟨rfl, m, os, rfl⟩
    refine ⟨rfl, ?_, grownBy_sortedI _⟩
    have hs : (L.mergeSort fun x y => decide (x ≤ y)).length = L.length := List.length_mergeSort _
    have := ownsRow_sortedI (n := m) (os := os) (ss := L) (ts := L.mergeSort fun x y => decide (x ≤ y)) hs hg hb h1 h2 h3
    unfold mine
    rw [hs]
    exact this
end Go.Proofs.Ytccapbojhgemmaa
