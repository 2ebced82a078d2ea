/- A region that ends in several ways, joined: what it wrote is named slot by slot, all else is as it was. -/
import Derived.Test.YtgebfpncapfaoaaKx
namespace Go.Proofs.Ytgebfpncapfaoaa
open Go.RowKit
set_option linter.unusedVariables false

theorem cut_wp {P : Program} {s : Code} {K : Act → World → Prop} {Q' : Exit → Act → World → Prop} {a : Act} {w : World} (R : Act → World → Prop)
    (first : s.wp P (Exit.then R Q') a w) (rest : ∀ a' w', R a' w' → K a' w') : s.wp P (Exit.then K Q') a w := by
  refine Code.wp_mono ?_ first
  intro e a' w' hq
  cases e with
  | normal => exact rest _ _ hq
  | exit id => exact hq
  | goto l => exact hq
  | ret => exact hq
  | panic c => exact hq
  | outgrown => exact hq
/-- The frame a with the slots ds written anew. -/
def setAll (a : Act) (ds : List Nat) (u : Nat → Value) : Act := ds.foldl (fun a d => a.put (some d) (u d)) a
/-- What is asked of a region's end: but for the slots ds the frame is a. -/
def ends (a : Act) (ds : List Nat) (T : (Nat → Value) → World → Prop) (a' : Act) (w' : World) : Prop := a' = setAll a ds (fun i => a'.tmps.getD i undef) ∧ T (fun i => a'.tmps.getD i undef) w'
theorem cut_set {P : Program} {s : Code} {K : Act → World → Prop} {Q' : Exit → Act → World → Prop} {a : Act} {w : World} (ds : List Nat) (T : (Nat → Value) → World → Prop)
    (first : s.wp P (Exit.then (ends a ds T) Q') a w) (rest : ∀ u w', T u w' → K (setAll a ds u) w') : s.wp P (Exit.then K Q') a w :=
  cut_wp _ first (fun a' w' h => by
    have := rest _ w' h.2
    rw [← h.1] at this; exact this)
end Go.Proofs.Ytgebfpncapfaoaa
