/- A tide in memory; a cell is reached. -/
import Derived.Test.YtkdammmikmljmaaFb
namespace Go.Proofs.Ytkdammmikmljmaa
open Go.RowKit
set_option linter.unusedVariables false

/-- How a tide lies in memory: its box T, the costs in block C, the queue from block B on. -/
def tde (B T C W H : Nat) (pv : Value) (cap : Nat) (far : List Int) (v : Value) (Q : List Stop) (w : World) : Prop :=
  tbx T w (.int .i64 (W : Int)) (.int .i64 (H : Int)) pv (.slice (some ⟨C, 0, none⟩) far.length cap) v ∧ mine 3 vi 0 w (.slice (some ⟨C, 0, none⟩) far.length cap) far ∧ que B w v Q ∧ hp Q.length Q ∧ T < B ∧ C < B ∧ T ≠ C ∧ B ≤ w.heap.size
section
variable {B T C W H : Nat} {pv : Value} {cap : Nat} {far : List Int} {v : Value} {Q : List Stop} {w w' : World}
theorem mine_ex {t : TypeId} {α : Type} {f : α → Value} {B : Nat} {v : Value} {L : List α} {S : Nat → Prop} (h : mine t f B w v L) (he : Ex S w w') (hn : ∀ g, v.ownBlock = some g → ¬ S g) : mine t f B w' v L := by
  refine ⟨h.1, ?_⟩
  rcases h.2 with h0 | ⟨g', cap, cur, hv, hB, hblk, hr⟩
  · exact .inl h0
  · refine .inr ⟨g', cap, cur, hv, hB, ?_, hr⟩
    have : g' < w.heap.size := by
      rcases Nat.lt_or_ge g' w.heap.size with hlt | hge
      · exact hlt
      · rw [Array.getElem?_eq_none hge] at hblk; cases hblk
    rw [he.block g' this (hn g' (by rw [hv]; rfl))]; exact hblk
theorem tde_below (h : tde B T C W H pv cap far v Q w) (hb : Below w.heap.size w w') : tde B T C W H pv cap far v Q w' := by
  obtain ⟨h1, h2, h3, h4, h5, h6, h7, h8⟩ := h
  have E : Ex (fun _ => False) w w' := Ex.of_below hb
  exact ⟨tbx_kept h1 E (fun e => e), mine_ex h2 E (fun _ _ e => e), que_kept h3 E (fun _ _ e => e), h4, h5, h6, h7, by have := hb.size; omega⟩
theorem tde_other (h : tde B T C W H pv cap far v Q w) {S : Nat → Prop} (he : Ex S w w') (hT : ¬ S T) (hC : ¬ S C) (hg : ∀ g, v.ownBlock = some g → ¬ S g) : tde B T C W H pv cap far v Q w' := by
  obtain ⟨h1, h2, h3, h4, h5, h6, h7, h8⟩ := h
  exact ⟨tbx_kept h1 he hT, mine_ex h2 he (fun g hg e => by simp [Value.ownBlock] at hg; subst hg; exact hC e), que_kept h3 he hg, h4, h5, h6, h7, by have := he.size; omega⟩
theorem tde_cost (h : tde B T C W H pv cap far v Q w) {i : Nat} (hi : i < far.length) : w.cell? ⟨C, i, none⟩ = some (.int .i64 (pa far i)) ∧ w.frozen? ⟨C, i, none⟩ = false := by
  have h2 := h.2.1
  refine ⟨?_, World.ownsRow.frozenAt h2 i⟩
  rw [World.ownsRow.cellAt h2 i (by omega), List.getElem?_map, List.getElem?_eq_getElem hi, pa_get far hi]; rfl
theorem tde_store (h : tde B T C W H pv cap far v Q w) (i : Nat) (x : Int) : tde B T C W H pv cap (far.set i x) v Q (w.setCell ⟨C, i, none⟩ (.int .i64 x)) ∧ Ex (fun k => k = C) w (w.setCell ⟨C, i, none⟩ (.int .i64 x)) := by
  obtain ⟨h1, h2, h3, h4, h5, h6, h7, h8⟩ := h
  have E : Ex (fun k => k = C) w (w.setCell ⟨C, i, none⟩ (.int .i64 x)) := Ex.set (S := fun k => k = C) w ⟨C, i, none⟩ rfl _
  refine ⟨⟨by rw [List.length_set]; exact tbx_kept h1 E h7, ?_, que_kept h3 E (fun g hg e => by have := (World.ownsRow.lt h3 g hg).1; omega), h4, h5, h6, h7, by have := E.size; omega⟩, E⟩
  have := (World.ownsRow.stored h2 i (.int .i64 x)).1
  unfold mine
  rw [List.length_set, List.map_set]
  exact this
end
/-- What reach leaves of the costs and of the queue. -/
def rch (far : List Int) (Q : List Stop) (i : Nat) (s : Stop) (far' : List Int) (Q' : List Stop) : Prop :=
  (pa far i ≠ -1 ∧ far' = far ∧ Q' = Q) ∨ (pa far i = -1 ∧ far' = far.set i s.c ∧ Q'.Perm (s :: Q))
/-- The blocks that a flood turns. -/
def trn (T C : Nat) (v : Value) (k : Nat) : Prop := k = T ∨ k = C ∨ some k = v.ownBlock

set_option maxRecDepth 20000 in
set_option maxHeartbeats 1000000 in
theorem reach_any (B T C W H : Nat) (pv : Value) (cap : Nat) (far : List Int) (v : Value) (Q : List Stop) (X Y i : Nat) (c : Int) (w : World) (ht : tde B T C W H pv cap far v Q w) (hi : Hid (Y * W + X = i)) (hil : i < far.length) (hfl : far.length ≤ 1600) (hQ : Q.length ≤ 1600) :
    Calls Try.prog 32 #[.pointer (some ⟨T, 0, none⟩), .agg #[.int .i64 (X : Int), .int .i64 (Y : Int)], .int .i64 c] w fun e w' => e = .returned (.tuple #[]) ∧ ∃ far' v' Q', tde B T C W H pv cap far' v' Q' w' ∧ rch far Q i ⟨X, Y, c⟩ far' Q' ∧ Ex (trn T C v) w w' ∧ ∀ k, v'.ownBlock = some k → v.ownBlock = some k ∨ w.heap.size ≤ k := by
  obtain ⟨n, hn⟩ : ∃ n, far.length = n := ⟨_, rfl⟩
  have HF : Hid (far.length = n) := hn
  have HT : Hid (tde B T C W H pv cap far v Q w) := ht
  rw [hn] at hil hfl
  clear ht hn
  go_enter Try.func32, Try.ntmps32
  go_wp2_with fail
  obtain ⟨w0, hw0⟩ : ∃ w0, w.alloc (.cells #[.int .i64 (X : Int), .int .i64 (Y : Int)] 26) = w0 := ⟨_, rfl⟩
  have hB0 : Below w.heap.size w w0 := by rw [← hw0]; exact alloc_below _ _
  have hs0 : w0.heap.size = w.heap.size + 1 := by rw [← hw0]; simp
  have b0 : w0.cell? ⟨w.heap.size, 0, none⟩ = some (.int .i64 (X : Int)) ∧ w0.cell? ⟨w.heap.size, 1, none⟩ = some (.int .i64 (Y : Int)) := by rw [← hw0]; constructor <;> simp [go_sem]
  rw [hw0]
  clear hw0
  have ht0 := tde_below HT.out hB0
  refine (index_any T W X Y i _ _ _ _ w0 ht0.1 hi (by omega)).mono ?_
  rintro e w1 ⟨rfl, hb1⟩
  have ht1 := tde_below ht0 hb1
  have HT1 : Hid (tde B T C W H pv cap far v Q w1) := ht1
  have HB1 : Hid (Below w.heap.size w w1) := hB0.trans (hb1.mono (by omega))
  have hs1 : w.heap.size + 1 ≤ w1.heap.size := by have := hb1.size; omega
  have q0 : w1.cell? ⟨w.heap.size, 0, none⟩ = some (.int .i64 (X : Int)) := (hb1.cell (p := ⟨w.heap.size, 0, none⟩) (by rw [hs0]; simp)).trans b0.1
  have q1 : w1.cell? ⟨w.heap.size, 1, none⟩ = some (.int .i64 (Y : Int)) := (hb1.cell (p := ⟨w.heap.size, 1, none⟩) (by rw [hs0]; simp)).trans b0.2
  obtain ⟨_, _, _, c3, c4, _⟩ := tbx_cells ht1.1
  rw [HF.out] at c3
  obtain ⟨x0, f0⟩ := tde_cost ht1 (i := i) (by rw [HF.out]; exact hil)
  have HBl : Hid (B ≤ w.heap.size) := HT.out.2.2.2.2.2.2.2
  have HG : Hid (∀ k, v.ownBlock = some k → B ≤ k ∧ k < w.heap.size) := World.ownsRow.lt HT.out.2.2.1
  have HTC : Hid (T < w.heap.size ∧ C < w.heap.size ∧ T < B ∧ C < B) := ⟨by have := HT.out.2.2.2.2.1; have := HBl.out; omega, by have := HT.out.2.2.2.2.2.1; have := HBl.out; omega, HT.out.2.2.2.2.1, HT.out.2.2.2.2.2.1⟩
  clear hB0 hb1 ht0 ht1 b0 hs0
  have i1 : (i : Int) < n := by omega
  have i2 : (0 : Int) ≤ i := by omega
  obtain ⟨x, hx⟩ : ∃ x, pa far i = x := ⟨_, rfl⟩
  rw [hx] at x0
  have HX : Hid (pa far i = x) := hx
  clear hx
  by_cases hm : x = -1
  · subst hm
    go_wp2_with fail
    obtain ⟨ht2, he2⟩ := tde_store HT1.out i c
    obtain ⟨w2, hw2⟩ : ∃ w2, w1.setCell ⟨C, i, none⟩ (.int .i64 c) = w2 := ⟨_, rfl⟩
    rw [hw2] at ht2 he2 ⊢
    clear hw2
    have p0 : w2.cell? ⟨w.heap.size, 0, none⟩ = some (.int .i64 (X : Int)) := (he2.cell (p := ⟨w.heap.size, 0, none⟩) (by show w.heap.size < w1.heap.size; omega) (by have := HTC.out; show ¬ w.heap.size = C; omega)).trans q0
    have p1 : w2.cell? ⟨w.heap.size, 1, none⟩ = some (.int .i64 (Y : Int)) := (he2.cell (p := ⟨w.heap.size, 1, none⟩) (by show w.heap.size < w1.heap.size; omega) (by have := HTC.out; show ¬ w.heap.size = C; omega)).trans q1
    have HT2 : Hid (tde B T C W H pv cap (far.set i c) v Q w2.drew) := tde_below ht2 (Below.refl _ _).drew
    have HE2 : Hid (Ex (trn T C v) w w2.drew) := ((Ex.of_below HB1.out).trans he2 (fun _ _ e => .inr (.inl e))).drew
    clear ht2 he2 q0 q1 c3 c4 x0 f0
    go_region_with ((go_at_call 46; refine (hPush_any B T _ _ _ _ v Q ⟨X, Y, c⟩ w2.drew HT2.out.1 HT2.out.2.2.1 HT2.out.2.2.2.2.1 HT2.out.2.2.2.2.2.2.2 (by omega) HT2.out.2.2.2.1).mono ?_; rintro e w3 ⟨rfl, v3, Q3, ht3, hq3, hp3, hh3, he3, ho3⟩))
    go_end0
    obtain ⟨h1, h2, h3, h4, h5, h6, h7, h8⟩ := HT2.out
    have hTC := HTC.out
    have hsz := HE2.out.size
    refine ⟨rfl, _, v3, Q3, ⟨ht3, mine_ex h2 he3 (fun g hg e => ?_), hq3, hh3, h5, h6, h7, by have := he3.size; omega⟩, .inr ⟨HX.out, rfl, hp3⟩, HE2.out.trans he3 (fun _ _ e => e.elim .inl (fun e => .inr (.inr e))), fun k hk => ?_⟩
    · simp [Value.ownBlock] at hg
      subst hg
      rcases e with e | e
      · exact h7 e.symm
      · have := (HG.out C e.symm).1; omega
    · rcases ho3 k hk with e | e
      · exact .inl e
      · exact .inr (by omega)
  · have e1 : (x == -1) = false := by simp [hm]
    have e2 : (x != -1) = true := by simp [hm]
    go_wp2_with fail
    go_returns
    exact ⟨rfl, far, v, Q, HT1.out, .inl ⟨by rw [HX.out]; exact hm, rfl, rfl⟩, Ex.of_below HB1.out, fun k hk => .inl hk⟩
end Go.Proofs.Ytkdammmikmljmaa
