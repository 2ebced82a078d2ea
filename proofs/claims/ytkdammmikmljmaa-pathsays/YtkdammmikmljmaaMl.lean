/- How far it is, made better till nothing is: on lists. No word of the program. -/
import Derived.Test.YtkdammmikmljmaaMd
namespace Go.Proofs.Ytkdammmikmljmaa
/-- How the distances stand while they are made better. -/
structure FI (W H : Nat) (l : List Int) (S : Nat → Prop) (far : List Int) : Prop where
  len : far.length = W * H
  zero : ∀ i, i < W * H → (pa far i = 0 ↔ S i)
  low : ∀ i, i < W * H → pa far i = -1 ∨ 0 ≤ pa far i
  rock : ∀ i, i < W * H → pa l i = 1 → pa far i = -1
  sup : ∀ i, i < W * H → 0 < pa far i → ∃ n, adj W H n i ∧ 0 ≤ pa far n ∧ pa far n + kc (pa l i) ≤ pa far i
  top : ∀ i, i < W * H → pa far i + 3 * (cnt far : Int) ≤ 3 * ((W * H : Nat) : Int)
/-- From n it is not nearer to i. -/
def nim (l far : List Int) (i n : Nat) : Prop := pa l i ≠ 1 → 0 ≤ pa far n → 0 ≤ pa far i ∧ pa far i ≤ pa far n + kc (pa l i)
section
variable {W H : Nat} {l : List Int} {S : Nat → Prop} {far : List Int}
theorem fi_end (h : FI W H l S far) (hn : ∀ i n, adj W H n i → nim l far i n) : Sol W H l S far where
  len := h.len
  zero := h.zero
  low := h.low
  rock := h.rock
  best := fun i j hij h0 hr => hn j i hij hr h0
  just := fun i hi h0 => by
    obtain ⟨n, h1, h2, h3⟩ := h.sup i hi h0
    have hr : pa l i ≠ 1 := fun e => by have := h.rock i hi e; omega
    have := hn i n h1 hr h2
    exact ⟨n, h1, h2, by omega⟩
  top := fun i hi => by have := h.top i hi; omega
theorem fi_step {i n : Nat} (h : FI W H l S far) (ha : adj W H n i) (hr : pa l i ≠ 1) (hd : 0 ≤ pa far n) (hb : pa far i < 0 ∨ pa far n + kc (pa l i) < pa far i) : FI W H l S (far.set i (pa far n + kc (pa l i))) := by
  have hk := kc_bd (pa l i)
  have hil := (adj_lt ha).2
  have hjl : i < far.length := by rw [h.len]; exact hil
  have hs := fun j => pa_set far j i (pa far n + kc (pa l i)) hjl
  have hni : n ≠ i := adj_ne ha
  refine ⟨by simpa using h.len, fun j hj => ?_, fun j hj => ?_, fun j hj hrj => ?_, fun j hj h0 => ?_, fun j hj => ?_⟩
  · rw [hs]
    by_cases e : j = i
    · subst e; rw [if_pos rfl]
      have := h.zero j hj
      constructor
      · intro e; omega
      · intro e; have := this.2 e; omega
    · rw [if_neg e]; exact h.zero j hj
  · rw [hs]
    by_cases e : j = i
    · rw [if_pos e]; omega
    · rw [if_neg e]; exact h.low j hj
  · rw [hs, if_neg]
    · exact h.rock j hj hrj
    · intro e; subst e; exact hr hrj
  · by_cases e : j = i
    · subst e
      exact ⟨n, ha, by rw [hs, if_neg hni]; exact hd, by rw [hs n, if_neg hni, hs j, if_pos rfl]; omega⟩
    · rw [hs, if_neg e] at h0 ⊢
      obtain ⟨m, h1, h2, h3⟩ := h.sup j hj h0
      by_cases em : m = i
      · subst em
        exact ⟨m, h1, by rw [hs, if_pos rfl]; omega, by rw [hs m, if_pos rfl]; rcases hb with q | q <;> omega⟩
      · exact ⟨m, h1, by rw [hs, if_neg em]; exact h2, by rw [hs m, if_neg em]; exact h3⟩
  · have hnt := h.top n (adj_lt ha).1
    have hjt := h.top j hj
    have hit := h.top i hil
    rw [hs]
    rcases h.low i hil with q | q
    · have hc := cnt_set (v := pa far n + kc (pa l i)) hjl q (by omega)
      by_cases e : j = i
      · rw [if_pos e]; omega
      · rw [if_neg e]; omega
    · have hc := cnt_same (v := pa far n + kc (pa l i)) hjl (by omega) (by omega)
      by_cases e : j = i
      · rw [if_pos e]; omega
      · rw [if_neg e]; omega
end
/-- How much there is to be made better. -/
def wt (x : Int) : Nat := if x < 0 then 5000 else x.toNat
def sm (far : List Int) : Nat := (far.map wt).sum
theorem sm_set : ∀ (far : List Int) (i : Nat) (v : Int), i < far.length → sm (far.set i v) + wt (pa far i) = sm far + wt v := by
  intro far
  induction far with
  | nil => intro i v h; simp at h
  | cons x far ih =>
    intro i v h
    cases i with
    | zero => simp [sm, pa]; omega
    | succ i =>
      have := ih i v (by simpa using h)
      have e1 : pa (x :: far) (i + 1) = pa far i := rfl
      rw [e1]
      simp [sm] at this ⊢
      omega
theorem sm_less {W H : Nat} {l : List Int} {S : Nat → Prop} {far : List Int} {i n : Nat} (h : FI W H l S far) (hN : W * H ≤ 1600) (ha : adj W H n i) (hd : 0 ≤ pa far n) (hb : pa far i < 0 ∨ pa far n + kc (pa l i) < pa far i) : sm (far.set i (pa far n + kc (pa l i))) < sm far := by
  have hk := kc_bd (pa l i)
  have h1 := sm_set far i (pa far n + kc (pa l i)) (by rw [h.len]; exact (adj_lt ha).2)
  have h2 := h.top n (adj_lt ha).1
  have h3 : wt (pa far n + kc (pa l i)) < wt (pa far i) := by
    unfold wt
    rw [if_neg (by omega)]
    split <;> omega
  omega
/-- Where nothing has been come to but the first ones. -/
def zer (N : Nat) (S : Nat → Prop) (far : List Int) : Prop := far.length = N ∧ ∀ i, i < N → (S i ∧ pa far i = 0) ∨ (¬ S i ∧ pa far i = -1)
theorem fi_start {W H : Nat} {l : List Int} {S : Nat → Prop} {far : List Int} (h : zer (W * H) S far) (hr : ∀ i, i < W * H → S i → pa l i ≠ 1) : FI W H l S far := by
  refine ⟨h.1, fun i hi => ?_, fun i hi => ?_, fun i hi hri => ?_, fun i hi h0 => ?_, fun i hi => ?_⟩
  · rcases h.2 i hi with ⟨q1, q2⟩ | ⟨q1, q2⟩
    · exact ⟨fun _ => q1, fun _ => q2⟩
    · exact ⟨fun e => by omega, fun e => absurd e q1⟩
  · rcases h.2 i hi with ⟨q1, q2⟩ | ⟨q1, q2⟩ <;> omega
  · rcases h.2 i hi with ⟨q1, q2⟩ | ⟨q1, q2⟩
    · exact absurd hri (hr i hi q1)
    · exact q2
  · rcases h.2 i hi with ⟨q1, q2⟩ | ⟨q1, q2⟩ <;> omega
  · have hc := cnt_le far
    rw [h.1] at hc
    rcases h.2 i hi with ⟨q1, q2⟩ | ⟨q1, q2⟩ <;> omega
theorem zer_first (N : Nat) (far : List Int) (hl : far.length = N) (h : ∀ i, i < N → pa far i = -1) : zer N (fun _ => False) far := ⟨hl, fun i hi => .inr ⟨fun e => e, h i hi⟩⟩
theorem zer_next {N j : Nat} {S S' : Nat → Prop} {far : List Int} (h : zer N S far) (hj : j < N) (hs : ∀ i, (S i ∨ i = j) ↔ S' i) : zer N S' (far.set j 0) := by
  refine ⟨by simpa using h.1, fun i hi => ?_⟩
  rw [pa_set far i j 0 (by rw [h.1]; exact hj)]
  by_cases e : i = j
  · rw [if_pos e]; exact .inl ⟨(hs i).1 (.inr e), rfl⟩
  · rw [if_neg e]
    rcases h.2 i hi with ⟨q1, q2⟩ | ⟨q1, q2⟩
    · exact .inl ⟨(hs i).1 (.inl q1), q2⟩
    · exact .inr ⟨fun q => ((hs i).2 q).elim q1 e, q2⟩
theorem zer_congr {N : Nat} {S S' : Nat → Prop} {far : List Int} (h : zer N S far) (hs : ∀ i, S i ↔ S' i) : zer N S' far :=
  ⟨h.1, fun i hi => by
    rcases h.2 i hi with ⟨q1, q2⟩ | ⟨q1, q2⟩
    · exact .inl ⟨(hs i).1 q1, q2⟩
    · exact .inr ⟨fun q => q1 ((hs i).2 q), q2⟩⟩
/-- How a round over all places stands: nothing was better yet, or all is nearer together. -/
def rnd (W H : Nat) (l : List Int) (S : Nat → Prop) (far0 : List Int) (b : Bool) (i : Nat) (far : List Int) : Prop :=
  FI W H l S far ∧ (b = false → far = far0 ∧ ∀ i' n, i' < i → adj W H n i' → nim l far i' n) ∧ (b = true → sm far < sm far0)
end Go.Proofs.Ytkdammmikmljmaa
