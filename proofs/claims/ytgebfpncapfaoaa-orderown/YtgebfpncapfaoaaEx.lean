/- What is turned, and what is not: a frame but for some blocks. -/
import Derived.Test.YtgebfpncapfaoaaOwn
import Derived.WalkSmall
namespace Go.Proofs.Ytgebfpncapfaoaa
open Go.RowKit
set_option linter.unusedVariables false

/-- All that was there is as it was, but for the blocks of S. -/
structure Ex (S : Nat → Prop) (w w' : World) : Prop where
  os : w'.os = w.os
  tape : w'.tape = w.tape
  output : w'.output = w.output
  size : w.heap.size ≤ w'.heap.size
  block : ∀ k, k < w.heap.size → ¬ S k → w'.heap[k]? = w.heap[k]?
theorem Ex.refl (S : Nat → Prop) (w : World) : Ex S w w := ⟨rfl, rfl, rfl, Nat.le_refl _, fun _ _ _ => rfl⟩
theorem Ex.trans {S S' : Nat → Prop} {a b c : World} (h : Ex S a b) (k : Ex S' b c) (hs : ∀ i, i < a.heap.size → S' i → S i) : Ex S a c :=
  ⟨k.os.trans h.os, k.tape.trans h.tape, k.output.trans h.output, Nat.le_trans h.size k.size, fun i hi hn => (k.block i (Nat.lt_of_lt_of_le hi h.size) (fun e => hn (hs i hi e))).trans (h.block i hi hn)⟩
theorem Ex.mono {S S' : Nat → Prop} {a b : World} (h : Ex S a b) (hs : ∀ i, i < a.heap.size → S i → S' i) : Ex S' a b := ⟨h.os, h.tape, h.output, h.size, fun i hi hn => h.block i hi (fun e => hn (hs i hi e))⟩
theorem Ex.of_below {S : Nat → Prop} {a b : World} (h : Below a.heap.size a b) : Ex S a b := ⟨h.os, h.tape, h.output, h.size, fun i hi _ => h.block i hi⟩
theorem Ex.of_grown {a b : World} {r : Option Nat} (h : a.grownBy b r) : Ex (fun k => some k = r) a b := ⟨h.os, h.tape, h.output, h.size, fun i hi hn => h.block i hi hn⟩
theorem Ex.set {S : Nat → Prop} (w : World) (p : Addr) (hp : S p.block) (u : Value) : Ex S w (w.setCell p u) := ⟨rfl, rfl, rfl, by simp [World.setCell], fun k hk hn => Below.heap_setCell _ _ _ _ (fun e => hn (e ▸ hp))⟩
theorem Ex.below {S : Nat → Prop} {a b : World} {B : Nat} (h : Ex S a b) (hB : B ≤ a.heap.size) (hs : ∀ k, k < B → ¬ S k) : Below B a b := ⟨h.os, h.tape, h.output, h.size, fun k hk => h.block k (by omega) (hs k hk)⟩
theorem Ex.cell {S : Nat → Prop} {a b : World} (h : Ex S a b) {p : Addr} (hp : p.block < a.heap.size) (hn : ¬ S p.block) : b.cell? p = a.cell? p := World.cell?_of_block (h.block _ hp hn)
theorem Ex.drewN {S : Nat → Prop} {a b : World} (h : Ex S a b) (m : Nat) : Ex S a (b.drewN m) := h.trans (Ex.of_below (S := fun _ => False) (below_drewN (Below.refl _ _) m)) (fun _ _ e => e.elim)
theorem Ex.drew {S : Nat → Prop} {a b : World} (h : Ex S a b) : Ex S a b.drew := h.drewN 1

end Go.Proofs.Ytgebfpncapfaoaa
