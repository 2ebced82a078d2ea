/- What is turned, and what is not: a frame but for some blocks. A queue of stops in memory. -/
import Derived.Test.YtkdammmikmljmaaOwn
import Derived.Test.YtkdammmikmljmaaMh
import Derived.WalkSmall
namespace Go.Proofs.Ytkdammmikmljmaa
open Go.RowKit
set_option linter.unusedVariables false

/-- All that was there is as it was, but for the blocks of S. -/
structure Ex (S : Nat → Prop) (w w' : World) : Prop where
  os : w'.os = w.os
  tape : w'.tape = w.tape
  output : w'.output = w.output
  size : w.heap.size ≤ w'.heap.size
  block : ∀ k, k < w.heap.size → ¬ S k → w'.heap[k]? = w.heap[k]?
theorem Ex.refl (S : Nat → Prop) (w : World) : Ex S w w := ⟨rfl, rfl, rfl, Nat.le_refl _, fun _ _ _ => rfl⟩
theorem Ex.trans {S S' : Nat → Prop} {a b c : World} (h : Ex S a b) (k : Ex S' b c) (hs : ∀ i, i < a.heap.size → S' i → S i) : Ex S a c :=
  ⟨k.os.trans h.os, k.tape.trans h.tape, k.output.trans h.output, Nat.le_trans h.size k.size, fun i hi hn => (k.block i (Nat.lt_of_lt_of_le hi h.size) (fun e => hn (hs i hi e))).trans (h.block i hi hn)⟩
theorem Ex.mono {S S' : Nat → Prop} {a b : World} (h : Ex S a b) (hs : ∀ i, i < a.heap.size → S i → S' i) : Ex S' a b := ⟨h.os, h.tape, h.output, h.size, fun i hi hn => h.block i hi (fun e => hn (hs i hi e))⟩
theorem Ex.of_below {S : Nat → Prop} {a b : World} (h : Below a.heap.size a b) : Ex S a b := ⟨h.os, h.tape, h.output, h.size, fun i hi _ => h.block i hi⟩
theorem Ex.of_grown {a b : World} {r : Option Nat} (h : a.grownBy b r) : Ex (fun k => some k = r) a b := ⟨h.os, h.tape, h.output, h.size, fun i hi hn => h.block i hi hn⟩
theorem Ex.set {S : Nat → Prop} (w : World) (p : Addr) (hp : S p.block) (u : Value) : Ex S w (w.setCell p u) := ⟨rfl, rfl, rfl, by simp [World.setCell], fun k hk hn => Below.heap_setCell _ _ _ _ (fun e => hn (e ▸ hp))⟩
theorem Ex.below {S : Nat → Prop} {a b : World} {B : Nat} (h : Ex S a b) (hB : B ≤ a.heap.size) (hs : ∀ k, k < B → ¬ S k) : Below B a b := ⟨h.os, h.tape, h.output, h.size, fun k hk => h.block k (by omega) (hs k hk)⟩
theorem Ex.cell {S : Nat → Prop} {a b : World} (h : Ex S a b) {p : Addr} (hp : p.block < a.heap.size) (hn : ¬ S p.block) : b.cell? p = a.cell? p := World.cell?_of_block (h.block _ hp hn)
theorem Ex.drewN {S : Nat → Prop} {a b : World} (h : Ex S a b) (m : Nat) : Ex S a (b.drewN m) := h.trans (Ex.of_below (S := fun _ => False) (below_drewN (Below.refl _ _) m)) (fun _ _ e => e.elim)
theorem Ex.drew {S : Nat → Prop} {a b : World} (h : Ex S a b) : Ex S a b.drew := h.drewN 1

def fl (s : Stop) : List Value := [.int .i64 s.x, .int .i64 s.y, .int .i64 s.c]
def flat (Q : List Stop) : List Value := Q.flatMap fl
theorem flat_cons (s : Stop) (Q : List Stop) : flat (s :: Q) = .int .i64 s.x :: .int .i64 s.y :: .int .i64 s.c :: flat Q := rfl
theorem flat_len (Q : List Stop) : (flat Q).length = Q.length * 3 := by
  induction Q with
  | nil => rfl
  | cons s Q ih => rw [flat_cons]; simp [ih]; omega
theorem flat_app (Q R : List Stop) : flat (Q ++ R) = flat Q ++ flat R := by unfold flat; rw [List.flatMap_append]
theorem flat_at (Q : List Stop) : ∀ k, (h : k < Q.length) → (flat Q)[k * 3]? = some (.int .i64 Q[k].x) ∧ (flat Q)[k * 3 + 1]? = some (.int .i64 Q[k].y) ∧ (flat Q)[k * 3 + 2]? = some (.int .i64 Q[k].c) := by
  induction Q with
  | nil => intro k h; simp at h
  | cons s Q ih =>
    intro k h
    rw [flat_cons]
    cases k with
    | zero => exact ⟨rfl, rfl, rfl⟩
    | succ k =>
      have := ih k (by simpa using h)
      have e : (k + 1) * 3 = k * 3 + 3 := by omega
      rw [e]
      exact this
theorem flat_set (s : Stop) : ∀ (Q : List Stop) (k : Nat), k < Q.length → flat (Q.set k s) = (((flat Q).set (k * 3) (.int .i64 s.x)).set (k * 3 + 1) (.int .i64 s.y)).set (k * 3 + 2) (.int .i64 s.c) := by
  intro Q
  induction Q with
  | nil => intro k h; simp at h
  | cons t Q ih =>
    intro k h
    cases k with
    | zero => rfl
    | succ k =>
      have := ih k (by simpa using h)
      have e : (k + 1) * 3 = k * 3 + 3 := by omega
      rw [e, List.set_cons_succ, flat_cons, flat_cons, this]; rfl
/-- The queue v holds the stops Q, in memory of one's own from block B on. -/
def que (B : Nat) (w : World) (v : Value) (Q : List Stop) : Prop := w.ownsRow B 68 3 v Q.length (flat Q)
section
variable {B : Nat} {w w' : World} {v : Value} {Q : List Stop}
theorem que_nil (B : Nat) (w : World) : que B w (.slice none 0 0) [] := World.ownsRow_nil _ _ _ _
theorem que_kept {S : Nat → Prop} (h : que B w v Q) (he : Ex S w w') (hn : ∀ g, v.ownBlock = some g → ¬ S g) : que B w' v Q := by
  refine ⟨h.1, ?_⟩
  rcases h.2 with h0 | ⟨g', cap, cur, hv, hB, hblk, hr⟩
  · exact .inl h0
  · refine .inr ⟨g', cap, cur, hv, hB, ?_, hr⟩
    have : g' < w.heap.size := by
      rcases Nat.lt_or_ge g' w.heap.size with hlt | hge
      · exact hlt
      · rw [Array.getElem?_eq_none hge] at hblk; cases hblk
    rw [he.block g' this (hn g' (by rw [hv]; rfl))]; exact hblk
theorem que_drewN (h : que B w v Q) (m : Nat) : que B (w.drewN m) v Q := h
theorem que_drew (h : que B w v Q) : que B w.drew v Q := h
theorem que_form (h : que B w v Q) (hl : 0 < Q.length) : ∃ g cap, v = .slice (some ⟨g, 0, none⟩) Q.length cap ∧ B ≤ g ∧ g < w.heap.size ∧ Q.length ≤ cap := by
  rcases h.2 with ⟨_, h0⟩ | ⟨g, cap, cur, hv, hB, hblk, hr⟩
  · omega
  · refine ⟨g, cap, hv, hB, ?_, hr.1⟩
    rcases Nat.lt_or_ge g w.heap.size with hlt | hge
    · exact hlt
    · rw [Array.getElem?_eq_none hge] at hblk; cases hblk
theorem que_forms (h : que B w v Q) : (∃ p cap, v = .slice p Q.length cap) ∧ ∀ g, v.ownBlock = some g → B ≤ g ∧ g < w.heap.size := by
  refine ⟨?_, World.ownsRow.lt h⟩
  rcases h.2 with ⟨h0, h1⟩ | ⟨g, cap, cur, hv, hB, hblk, hr⟩
  · exact ⟨none, 0, by rw [h1]; exact h0⟩
  · exact ⟨_, _, hv⟩
variable {g n cap : Nat}
theorem que_cell (h : que B w (.slice (some ⟨g, 0, none⟩) n cap) Q) (hn : Q.length = n) {k : Nat} (hk : k < n) {s : Stop} (hs : Q.getD k ⟨0, 0, 0⟩ = s) :
    w.cell? ⟨g, k * 3, none⟩ = some (.int .i64 s.x) ∧ w.cell? ⟨g, k * 3 + 1, none⟩ = some (.int .i64 s.y) ∧ w.cell? ⟨g, k * 3 + 2, none⟩ = some (.int .i64 s.c) := by
  subst hn
  rw [getD_at hk] at hs
  have := flat_at Q k hk
  rw [hs] at this
  exact ⟨(World.ownsRow.cellAt h _ (by omega)).trans this.1, (World.ownsRow.cellAt h _ (by omega)).trans this.2.1, (World.ownsRow.cellAt h _ (by omega)).trans this.2.2⟩
theorem que_free (h : que B w (.slice (some ⟨g, 0, none⟩) n cap) Q) (hn : Q.length = n) (k : Nat) : w.frozen? ⟨g, k, none⟩ = false := by
  subst hn; exact World.ownsRow.frozenAt h k
theorem que_put (h : que B w (.slice (some ⟨g, 0, none⟩) n cap) Q) (hn : Q.length = n) {k : Nat} (hk : k < n) (s : Stop) :
    que B (((w.setCell ⟨g, k * 3, none⟩ (.int .i64 s.x)).setCell ⟨g, k * 3 + 1, none⟩ (.int .i64 s.y)).setCell ⟨g, k * 3 + 2, none⟩ (.int .i64 s.c)) (.slice (some ⟨g, 0, none⟩) n cap) (Q.set k s) := by
  subst hn
  unfold que at h ⊢
  rw [flat_set s Q k hk, List.length_set]
  exact (World.ownsRow.stored (World.ownsRow.stored (World.ownsRow.stored h _ _).1 _ _).1 _ _).1
end
end Go.Proofs.Ytkdammmikmljmaa
