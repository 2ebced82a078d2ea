/- How far it is, on lists: what is asked of an answer, that there is but one, how a flood comes to it. No word of the program. -/
import Derived.Test.YtkdammmikmljmaaMh
namespace Go.Proofs.Ytkdammmikmljmaa
/-- What it costs to enter a place that is no rock. -/
def kc (p : Int) : Int := if p = 2 then 3 else 2
theorem kc_bd (p : Int) : 2 ≤ kc p ∧ kc p ≤ 3 := by unfold kc; split <;> omega
/-- From place p to place q is a step, of fields of W times H places. -/
def adj (W H p q : Nat) : Prop := ∃ x y x' y', p = y * W + x ∧ q = y' * W + x' ∧ x < W ∧ x' < W ∧ y < H ∧ y' < H ∧ ((x = x' ∧ (y + 1 = y' ∨ y' + 1 = y)) ∨ (y = y' ∧ (x + 1 = x' ∨ x' + 1 = x)))
theorem adj_symm {W H p q : Nat} (h : adj W H p q) : adj W H q p := by
  obtain ⟨x, y, x', y', h1, h2, h3, h4, h5, h6, h7⟩ := h
  exact ⟨x', y', x, y, h2, h1, h4, h3, h6, h5, by omega⟩
theorem pl_lt {W H x y : Nat} (hx : x < W) (hy : y < H) : y * W + x < W * H := by
  have : (y + 1) * W ≤ H * W := Nat.mul_le_mul_right _ hy
  rw [Nat.add_mul, Nat.mul_comm H W] at this; omega
theorem pl_inj {W x y x' y' : Nat} (hx : x < W) (hx' : x' < W) (h : y * W + x = y' * W + x') : x = x' ∧ y = y' := by
  have h0 : 0 < W := by omega
  have e1 : (y * W + x) / W = y := by rw [Nat.add_comm, Nat.add_mul_div_right _ _ h0, Nat.div_eq_of_lt hx]; omega
  have e2 : (y' * W + x') / W = y' := by rw [Nat.add_comm, Nat.add_mul_div_right _ _ h0, Nat.div_eq_of_lt hx']; omega
  have : y = y' := by rw [← e1, ← e2, h]
  subst this
  exact ⟨by omega, rfl⟩
theorem adj_lt {W H p q : Nat} (h : adj W H p q) : p < W * H ∧ q < W * H := by
  obtain ⟨x, y, x', y', h1, h2, h3, h4, h5, h6, h7⟩ := h
  exact ⟨by rw [h1]; exact pl_lt h3 h5, by rw [h2]; exact pl_lt h4 h6⟩
theorem adj_ne {W H p q : Nat} (h : adj W H p q) : p ≠ q := by
  obtain ⟨x, y, x', y', h1, h2, h3, h4, h5, h6, h7⟩ := h
  intro e
  rw [h1, h2] at e
  have := pl_inj h3 h4 e
  omega

/-- What a place holds, and what is told of it. -/
def pa (l : List Int) (i : Nat) : Int := l.getD i 0
theorem pa_set (l : List Int) (i j : Nat) (v : Int) (hj : j < l.length) : pa (l.set j v) i = if i = j then v else pa l i := by
  unfold pa
  rw [List.getD_eq_getElem?_getD, List.getElem?_set]
  by_cases h : j = i
  · rw [if_pos h, if_pos hj, if_pos h.symm]; rfl
  · rw [if_neg h, if_neg (fun e => h e.symm), List.getD_eq_getElem?_getD]
theorem pa_get (l : List Int) {i : Nat} (h : i < l.length) : pa l i = l[i] := by unfold pa; rw [List.getD_eq_getElem?_getD, List.getElem?_eq_getElem h]; rfl
theorem pa_ext {a b : List Int} (hl : a.length = b.length) (h : ∀ i, i < a.length → pa a i = pa b i) : a = b := by
  apply List.ext_getElem hl
  intro i h1 h2
  rw [← pa_get a h1, ← pa_get b h2]; exact h i h1

/-- What is asked of an answer. -/
structure Sol (W H : Nat) (l : List Int) (S : Nat → Prop) (far : List Int) : Prop where
  len : far.length = W * H
  zero : ∀ i, i < W * H → (pa far i = 0 ↔ S i)
  low : ∀ i, i < W * H → pa far i = -1 ∨ 0 ≤ pa far i
  rock : ∀ i, i < W * H → pa l i = 1 → pa far i = -1
  best : ∀ i j, adj W H i j → 0 ≤ pa far i → pa l j ≠ 1 → 0 ≤ pa far j ∧ pa far j ≤ pa far i + kc (pa l j)
  just : ∀ i, i < W * H → 0 < pa far i → ∃ n, adj W H n i ∧ 0 ≤ pa far n ∧ pa far i = pa far n + kc (pa l i)
  top : ∀ i, i < W * H → pa far i ≤ 3 * ((W * H : Nat) : Int)

theorem sol_le {W H : Nat} {l : List Int} {S : Nat → Prop} {a b : List Int} (ha : Sol W H l S a) (hb : Sol W H l S b) : ∀ (n : Nat) (i : Nat), i < W * H → pa a i = n → 0 ≤ pa b i ∧ pa b i ≤ n := by
  intro n
  induction n using Nat.strongRecOn with
  | ind n ih =>
    intro i hi he
    rcases Nat.eq_zero_or_pos n with h0 | h0
    · have : pa b i = 0 := (hb.zero i hi).2 ((ha.zero i hi).1 (by omega))
      omega
    · obtain ⟨m, h1, h2, h3⟩ := ha.just i hi (by omega)
      have hk := kc_bd (pa l i)
      have hr : pa l i ≠ 1 := fun e => by have := ha.rock i hi e; omega
      have := ih (pa a m).toNat (by omega) m (adj_lt h1).1 (by omega)
      have := hb.best m i h1 (by omega) hr
      omega
theorem sol_one {W H : Nat} {l : List Int} {S : Nat → Prop} {a b : List Int} (ha : Sol W H l S a) (hb : Sol W H l S b) : a = b := by
  refine pa_ext (ha.len.trans hb.len.symm) fun i hi => ?_
  rw [ha.len] at hi
  rcases ha.low i hi with h1 | h1
  · rcases hb.low i hi with h2 | h2
    · rw [h1, h2]
    · have := sol_le hb ha (pa b i).toNat i hi (by omega); omega
  · have := sol_le ha hb (pa a i).toNat i hi (by omega)
    have := sol_le hb ha (pa b i).toNat i hi (by omega)
    omega

/-- How many places have not been come to. -/
def cnt (far : List Int) : Nat := far.count (-1)
theorem cnt_set {far : List Int} {j : Nat} {v : Int} (hj : j < far.length) (h : pa far j = -1) (hv : v ≠ -1) : cnt (far.set j v) + 1 = cnt far := by
  unfold cnt
  have hm : (-1 : Int) ∈ far := by rw [← h, pa_get far hj]; exact List.getElem_mem hj
  have h0 := List.count_pos_iff.2 hm
  rw [List.count_set hj, ← pa_get far hj, h]
  have : (v == -1) = false := by simp [hv]
  rw [this]; simp; omega
theorem cnt_same {far : List Int} {j : Nat} {v : Int} (hj : j < far.length) (h : pa far j ≠ -1) (hv : v ≠ -1) : cnt (far.set j v) = cnt far := by
  unfold cnt
  rw [List.count_set hj, ← pa_get far hj]
  have : (v == -1) = false := by simp [hv]
  rw [this]; simp [h]
theorem cnt_le (far : List Int) : cnt far ≤ far.length := List.count_le_length

/-- The stop s is of place i. -/
def isAt (W H : Nat) (s : Stop) (i : Nat) : Prop := ∃ x y : Nat, s.x = x ∧ s.y = y ∧ x < W ∧ y < H ∧ i = y * W + x
theorem isAt_one {W H : Nat} {s : Stop} {i j : Nat} (h : isAt W H s i) (k : isAt W H s j) : i = j := by
  obtain ⟨x, y, a1, a2, a3, a4, a5⟩ := h
  obtain ⟨x', y', b1, b2, b3, b4, b5⟩ := k
  have e1 : x = x' := by omega
  have e2 : y = y' := by omega
  rw [a5, b5, e1, e2]
theorem isAt_lt {W H : Nat} {s : Stop} {i : Nat} (h : isAt W H s i) : i < W * H := by
  obtain ⟨x, y, a1, a2, a3, a4, a5⟩ := h
  rw [a5]; exact pl_lt a3 a4
/-- How a flood stands: it goes on from place 'cur', at M. -/
structure Inv (W H : Nat) (l : List Int) (S : Nat → Prop) (far : List Int) (Q : List Stop) (M : Int) (cur : Option Nat) : Prop where
  len : far.length = W * H
  M0 : 0 ≤ M
  que : ∀ s ∈ Q, ∃ i, isAt W H s i ∧ pa far i = s.c ∧ M ≤ s.c
  low : ∀ i, i < W * H → pa far i = -1 ∨ (0 ≤ pa far i ∧ pa far i ≤ M + kc (pa l i) ∧ pa l i ≠ 1)
  zero : ∀ i, i < W * H → (pa far i = 0 ↔ S i)
  just : ∀ i, i < W * H → 0 < pa far i → ∃ n, adj W H n i ∧ 0 ≤ pa far n ∧ pa far i = pa far n + kc (pa l i)
  done : ∀ i, i < W * H → 0 ≤ pa far i → (∃ s ∈ Q, isAt W H s i) ∨ cur = some i ∨ ∀ j, adj W H i j → pa l j ≠ 1 → 0 ≤ pa far j ∧ pa far j ≤ pa far i + kc (pa l j)
  top : ∀ i, i < W * H → pa far i + 3 * (cnt far : Int) ≤ 3 * ((W * H : Nat) : Int)
section
variable {W H : Nat} {l : List Int} {S : Nat → Prop} {far : List Int} {Q Q' : List Stop} {M : Int} {cur : Option Nat}
theorem inv_end (h : Inv W H l S far [] M none) : Sol W H l S far where
  len := h.len
  zero := h.zero
  low := fun i hi => by rcases h.low i hi with e | e <;> omega
  rock := fun i hi hr => by
    rcases h.low i hi with e | e
    · exact e
    · exact absurd hr e.2.2
  best := fun i j hij h0 hr => by
    rcases h.done i (adj_lt hij).1 h0 with ⟨s, hs, _⟩ | e | e
    · cases hs
    · cases e
    · exact e j hij hr
  just := h.just
  top := fun i hi => by have := h.top i hi; omega
theorem inv_pop {s : Stop} (h : Inv W H l S far Q M none) (hp : Q.Perm (s :: Q')) (hm : ∀ t ∈ Q', s.c ≤ t.c) : ∃ i, isAt W H s i ∧ pa far i = s.c ∧ Inv W H l S far Q' s.c (some i) := by
  obtain ⟨i, hi, hc, hM⟩ := h.que s (hp.symm.subset (List.mem_cons_self ..))
  refine ⟨i, hi, hc, h.len, by have := h.M0; omega, ?_, ?_, h.zero, h.just, ?_, h.top⟩
  · intro t ht
    obtain ⟨j, h1, h2, _⟩ := h.que t (hp.symm.subset (List.mem_cons_of_mem _ ht))
    exact ⟨j, h1, h2, hm t ht⟩
  · intro j hj
    rcases h.low j hj with e | e
    · exact .inl e
    · exact .inr ⟨e.1, by omega, e.2.2⟩
  · intro j hj h0
    rcases h.done j hj h0 with ⟨t, ht, e⟩ | e | e
    · rcases List.mem_cons.1 (hp.subset ht) with e' | e'
      · subst e'
        exact .inr (.inl (by rw [isAt_one hi e]))
      · exact .inl ⟨t, e', e⟩
    · cases e
    · exact .inr (.inr e)
/-- A place that was not come to is come to, from where the flood stands. -/
theorem inv_reach {p j : Nat} {t : Stop} (h : Inv W H l S far Q M (some p)) (hpm : pa far p = M) (ha : adj W H p j) (hr : pa l j ≠ 1) (hj : pa far j = -1) (ht : isAt W H t j) (hc : t.c = M + kc (pa l j)) (hp : Q'.Perm (t :: Q)) :
    Inv W H l S (far.set j t.c) Q' M (some p) := by
  have hk := kc_bd (pa l j)
  have hM := h.M0
  have hjl : j < far.length := by rw [h.len]; exact (adj_lt ha).2
  have hs := fun i => pa_set far i j t.c hjl
  have ho : ∀ i, 0 ≤ pa far i → pa (far.set j t.c) i = pa far i := fun i hi => by rw [hs, if_neg]; intro e; subst e; omega
  refine ⟨by simpa using h.len, hM, ?_, ?_, ?_, ?_, ?_, ?_⟩
  · intro s hsq
    rcases List.mem_cons.1 (hp.subset hsq) with e | e
    · subst e
      exact ⟨j, ht, by rw [hs, if_pos rfl], by omega⟩
    · obtain ⟨i, h1, h2, h3⟩ := h.que s e
      exact ⟨i, h1, by rw [ho i (by omega)]; exact h2, h3⟩
  · intro i hi
    rw [hs]
    by_cases e : i = j
    · subst e; rw [if_pos rfl]; exact .inr ⟨by omega, by omega, hr⟩
    · rw [if_neg e]; exact h.low i hi
  · intro i hi
    rw [hs]
    by_cases e : i = j
    · subst e; rw [if_pos rfl]
      have := h.zero i hi
      constructor
      · intro e; omega
      · intro e; have := this.2 e; omega
    · rw [if_neg e]; exact h.zero i hi
  · intro i hi h0
    by_cases e : i = j
    · subst e
      refine ⟨p, ha, by rw [ho p (by omega)]; omega, ?_⟩
      rw [ho p (by omega), hs, if_pos rfl]; omega
    · rw [hs, if_neg e] at h0 ⊢
      obtain ⟨n, h1, h2, h3⟩ := h.just i hi h0
      exact ⟨n, h1, by rw [ho n h2]; exact h2, by rw [ho n h2]; exact h3⟩
  · intro i hi h0
    by_cases e : i = j
    · subst e; exact .inl ⟨t, hp.symm.subset (List.mem_cons_self ..), ht⟩
    · rw [hs, if_neg e] at h0
      rcases h.done i hi h0 with ⟨s, h1, h2⟩ | h1 | h1
      · exact .inl ⟨s, hp.symm.subset (List.mem_cons_of_mem _ h1), h2⟩
      · exact .inr (.inl h1)
      · refine .inr (.inr fun q hq hq2 => ?_)
        have := h1 q hq hq2
        rw [ho q this.1, ho i h0]; exact this
  · intro i hi
    have hct := cnt_set (v := t.c) hjl hj (by omega)
    have hpt := h.top p (adj_lt ha).1
    rw [hs]
    by_cases e : i = j
    · rw [if_pos e]; omega
    · rw [if_neg e]; have := h.top i hi; omega
/-- Where the flood stands it has gone on to all sides. -/
theorem inv_spread {p : Nat} (h : Inv W H l S far Q M (some p)) (hd : ∀ j, adj W H p j → pa l j ≠ 1 → 0 ≤ pa far j ∧ pa far j ≤ pa far p + kc (pa l j)) : Inv W H l S far Q M none := by
  refine ⟨h.len, h.M0, h.que, h.low, h.zero, h.just, ?_, h.top⟩
  intro i hi h0
  rcases h.done i hi h0 with h1 | h1 | h1
  · exact .inl h1
  · cases h1; exact .inr (.inr hd)
  · exact .inr (.inr h1)
/-- Before anything. -/
theorem inv_start (W H : Nat) (l : List Int) : Inv W H l (fun _ => False) (List.replicate (W * H) (-1)) [] 0 none := by
  have hp : ∀ i, i < W * H → pa (List.replicate (W * H) (-1)) i = -1 := fun i hi => by unfold pa; simp [List.getD_eq_getElem?_getD, hi]
  refine ⟨by simp, by omega, fun s hs => (by cases hs), fun i hi => .inl (hp i hi), fun i hi => ⟨fun e => by rw [hp i hi] at e; omega, fun e => e.elim⟩, fun i hi h0 => by rw [hp i hi] at h0; omega, fun i hi h0 => by rw [hp i hi] at h0; omega, fun i hi => ?_⟩
  rw [hp i hi]; unfold cnt; rw [List.count_replicate_self]; omega
/-- A first cell is come to. -/
theorem inv_first {j : Nat} {t : Stop} (h : Inv W H l S far Q 0 none) (hz : ∀ i, i < W * H → pa far i ≤ 0) (hj : pa far j = -1) (hr : pa l j ≠ 1) (ht : isAt W H t j) (hc : t.c = 0) (hp : Q'.Perm (t :: Q)) :
    Inv W H l (fun i => S i ∨ i = j) (far.set j 0) Q' 0 none := by
  have hk := kc_bd (pa l j)
  have hjn := isAt_lt ht
  have hjl : j < far.length := by rw [h.len]; exact hjn
  have hs := fun i => pa_set far i j 0 hjl
  have ho : ∀ i, 0 ≤ pa far i → pa (far.set j 0) i = pa far i := fun i hi => by rw [hs, if_neg]; intro e; subst e; omega
  refine ⟨by simpa using h.len, by omega, ?_, ?_, ?_, ?_, ?_, ?_⟩
  · intro s hsq
    rcases List.mem_cons.1 (hp.subset hsq) with e | e
    · subst e
      exact ⟨j, ht, by rw [hs, if_pos rfl, hc], by omega⟩
    · obtain ⟨i, h1, h2, h3⟩ := h.que s e
      exact ⟨i, h1, by rw [ho i (by omega)]; exact h2, h3⟩
  · intro i hi
    rw [hs]
    by_cases e : i = j
    · subst e; rw [if_pos rfl]; exact .inr ⟨by omega, by omega, hr⟩
    · rw [if_neg e]; exact h.low i hi
  · intro i hi
    rw [hs]
    by_cases e : i = j
    · subst e; rw [if_pos rfl]; exact ⟨fun _ => .inr rfl, fun _ => rfl⟩
    · rw [if_neg e, h.zero i hi]; exact ⟨fun e => .inl e, fun e' => e'.elim id (fun e'' => absurd e'' e)⟩
  · intro i hi h0
    rw [hs] at h0
    split at h0
    · omega
    · have := hz i hi; omega
  · intro i hi h0
    by_cases e : i = j
    · subst e; exact .inl ⟨t, hp.symm.subset (List.mem_cons_self ..), ht⟩
    · rw [hs, if_neg e] at h0
      rcases h.done i hi h0 with ⟨s, h1, h2⟩ | h1 | h1
      · exact .inl ⟨s, hp.symm.subset (List.mem_cons_of_mem _ h1), h2⟩
      · exact .inr (.inl h1)
      · refine .inr (.inr fun q hq hq2 => ?_)
        have := h1 q hq hq2
        rw [ho q this.1, ho i h0]; exact this
  · intro i hi
    have hct := cnt_set (v := 0) hjl hj (by omega)
    have hjt := h.top j hjn
    rw [hs]
    by_cases e : i = j
    · rw [if_pos e]; omega
    · rw [if_neg e]; have := h.top i hi; omega
theorem inv_again {j : Nat} (h : Inv W H l S far Q 0 none) (hz : ∀ i, i < W * H → pa far i ≤ 0) (hjn : j < W * H) (hj : pa far j ≠ -1) : Inv W H l (fun i => S i ∨ i = j) far Q 0 none := by
  have h0 : pa far j = 0 := by have := hz j hjn; rcases h.low j hjn with e | e <;> omega
  refine ⟨h.len, h.M0, h.que, h.low, fun i hi => ?_, h.just, h.done, h.top⟩
  rw [h.zero i hi]
  exact ⟨fun e => .inl e, fun e => e.elim id (fun e => by rw [e]; exact (h.zero j hjn).1 h0)⟩
end
end Go.Proofs.Ytkdammmikmljmaa
