/- package flood: costs, distances, ways on lists -/
import Derived.Test.YtnbbfnlfcncgnaaCon
import Derived.Laws.ResultCell
import Derived.Test.YtnbbfnlfcncgnaaPA
import Derived.Test.YtnbbfnlfcncgnaaAt
import Derived.Laws.BitsAllLaws
import Derived.Laws.CopyOwn
import Derived.Test.YtnbbfnlfcncgnaaUse
/- What Write returns of a field that is none. -/
namespace Go.Proofs.Ytnbbfnlfcncgnaa
open Go.RowKit
set_option linter.unusedVariables false

/-- Three stores into a box of three. -/
theorem set3 {W' : World} {R : Nat} {x y z x' y' z' : Value} {t : TypeId} (hR : W'.heap[R]? = some (.cells #[x, y, z] t)) (V : World) (hV : V = ((W'.setCell ⟨R, 0, none⟩ x').setCell ⟨R, 1, none⟩ y').setCell ⟨R, 2, none⟩ z') :
    V.cell? ⟨R, 0, none⟩ = some x' ∧ V.cell? ⟨R, 1, none⟩ = some y' ∧ V.cell? ⟨R, 2, none⟩ = some z' ∧ ∀ B, B ≤ R → Below B W' V := by
  have hRV : V.heap[R]? = some (.cells #[x', y', z'] t) := by
    have h1 := heap_setCell_same W' R 0 _ t x' hR
    have h2 := heap_setCell_same _ R 1 _ t y' h1
    have h3 := heap_setCell_same _ R 2 _ t z' h2
    rw [hV, h3]; rfl
  refine ⟨by simp [World.cell?, hRV], by simp [World.cell?, hRV], by simp [World.cell?, hRV], fun B hB => ?_⟩
  rw [hV]
  exact (((Below.refl B W').setCell (p := ⟨R, 0, none⟩) hB _).setCell (p := ⟨R, 1, none⟩) hB _).setCell (p := ⟨R, 2, none⟩) hB _

end Go.Proofs.Ytnbbfnlfcncgnaa
/- How far it is, on lists: what is asked of an answer, that there is but one, how a flood comes to it. No word of the program. -/
namespace Go.Proofs.Ytnbbfnlfcncgnaa
/-- What it costs to enter a place that is no rock. -/
def kc (p : Int) : Int := if p = 2 then 3 else 2
theorem kc_bd (p : Int) : 2 ≤ kc p ∧ kc p ≤ 3 := by unfold kc; split <;> omega
/-- From place p to place q is a step, of fields of W times H places. -/
def adj (W H p q : Nat) : Prop := ∃ x y x' y', p = y * W + x ∧ q = y' * W + x' ∧ x < W ∧ x' < W ∧ y < H ∧ y' < H ∧ ((x = x' ∧ (y + 1 = y' ∨ y' + 1 = y)) ∨ (y = y' ∧ (x + 1 = x' ∨ x' + 1 = x)))
theorem adj_symm {W H p q : Nat} (h : adj W H p q) : adj W H q p := by
  obtain ⟨x, y, x', y', h1, h2, h3, h4, h5, h6, h7⟩ := h
  exact ⟨x', y', x, y, h2, h1, h4, h3, h6, h5, by omega⟩
theorem pl_lt {W H x y : Nat} (hx : x < W) (hy : y < H) : y * W + x < W * H := by
  have : (y + 1) * W ≤ H * W := Nat.mul_le_mul_right _ hy
  rw [Nat.add_mul, Nat.mul_comm H W] at this; omega
theorem pl_inj {W x y x' y' : Nat} (hx : x < W) (hx' : x' < W) (h : y * W + x = y' * W + x') : x = x' ∧ y = y' := by
  have h0 : 0 < W := by omega
  have e1 : (y * W + x) / W = y := by rw [Nat.add_comm, Nat.add_mul_div_right _ _ h0, Nat.div_eq_of_lt hx]; omega
  have e2 : (y' * W + x') / W = y' := by rw [Nat.add_comm, Nat.add_mul_div_right _ _ h0, Nat.div_eq_of_lt hx']; omega
  have : y = y' := by rw [← e1, ← e2, h]
  subst this
  exact ⟨by omega, rfl⟩
theorem adj_lt {W H p q : Nat} (h : adj W H p q) : p < W * H ∧ q < W * H := by
  obtain ⟨x, y, x', y', h1, h2, h3, h4, h5, h6, h7⟩ := h
  exact ⟨by rw [h1]; exact pl_lt h3 h5, by rw [h2]; exact pl_lt h4 h6⟩
theorem adj_ne {W H p q : Nat} (h : adj W H p q) : p ≠ q := by
  obtain ⟨x, y, x', y', h1, h2, h3, h4, h5, h6, h7⟩ := h
  intro e
  rw [h1, h2] at e
  have := pl_inj h3 h4 e
  omega

/-- What a place holds, and what is told of it. -/
def pa (l : List Int) (i : Nat) : Int := l.getD i 0
theorem pa_set (l : List Int) (i j : Nat) (v : Int) (hj : j < l.length) : pa (l.set j v) i = if i = j then v else pa l i := by
  unfold pa
  rw [List.getD_eq_getElem?_getD, List.getElem?_set]
  by_cases h : j = i
  · rw [if_pos h, if_pos hj, if_pos h.symm]; rfl
  · rw [if_neg h, if_neg (fun e => h e.symm), List.getD_eq_getElem?_getD]
theorem pa_get (l : List Int) {i : Nat} (h : i < l.length) : pa l i = l[i] := by unfold pa; rw [List.getD_eq_getElem?_getD, List.getElem?_eq_getElem h]; rfl
theorem pa_ext {a b : List Int} (hl : a.length = b.length) (h : ∀ i, i < a.length → pa a i = pa b i) : a = b := by
  apply List.ext_getElem hl
  intro i h1 h2
  rw [← pa_get a h1, ← pa_get b h2]; exact h i h1

/-- What is asked of an answer. -/
structure Sol (W H : Nat) (l : List Int) (S : Nat → Prop) (far : List Int) : Prop where
  len : far.length = W * H
  zero : ∀ i, i < W * H → (pa far i = 0 ↔ S i)
  low : ∀ i, i < W * H → pa far i = -1 ∨ 0 ≤ pa far i
  rock : ∀ i, i < W * H → pa l i = 1 → pa far i = -1
  best : ∀ i j, adj W H i j → 0 ≤ pa far i → pa l j ≠ 1 → 0 ≤ pa far j ∧ pa far j ≤ pa far i + kc (pa l j)
  just : ∀ i, i < W * H → 0 < pa far i → ∃ n, adj W H n i ∧ 0 ≤ pa far n ∧ pa far i = pa far n + kc (pa l i)
  top : ∀ i, i < W * H → pa far i ≤ 3 * ((W * H : Nat) : Int)

theorem sol_le {W H : Nat} {l : List Int} {S : Nat → Prop} {a b : List Int} (ha : Sol W H l S a) (hb : Sol W H l S b) : ∀ (n : Nat) (i : Nat), i < W * H → pa a i = n → 0 ≤ pa b i ∧ pa b i ≤ n := by
  intro n
  induction n using Nat.strongRecOn with
  | ind n ih =>
    intro i hi he
    rcases Nat.eq_zero_or_pos n with h0 | h0
    · have : pa b i = 0 := (hb.zero i hi).2 ((ha.zero i hi).1 (by omega))
      omega
    · obtain ⟨m, h1, h2, h3⟩ := ha.just i hi (by omega)
      have hk := kc_bd (pa l i)
      have hr : pa l i ≠ 1 := fun e => by have := ha.rock i hi e; omega
      have := ih (pa a m).toNat (by omega) m (adj_lt h1).1 (by omega)
      have := hb.best m i h1 (by omega) hr
      omega
theorem sol_one {W H : Nat} {l : List Int} {S : Nat → Prop} {a b : List Int} (ha : Sol W H l S a) (hb : Sol W H l S b) : a = b := by
  refine pa_ext (ha.len.trans hb.len.symm) fun i hi => ?_
  rw [ha.len] at hi
  rcases ha.low i hi with h1 | h1
  · rcases hb.low i hi with h2 | h2
    · rw [h1, h2]
    · have := sol_le hb ha (pa b i).toNat i hi (by omega); omega
  · have := sol_le ha hb (pa a i).toNat i hi (by omega)
    have := sol_le hb ha (pa b i).toNat i hi (by omega)
    omega

/-- How many places have not been come to. -/
def pcnt (far : List Int) : Nat := far.count (-1)
theorem cnt_set {far : List Int} {j : Nat} {v : Int} (hj : j < far.length) (h : pa far j = -1) (hv : v ≠ -1) : pcnt (far.set j v) + 1 = pcnt far := by
  unfold pcnt
  have hm : (-1 : Int) ∈ far := by rw [← h, pa_get far hj]; exact List.getElem_mem hj
  have h0 := List.count_pos_iff.2 hm
  rw [List.count_set hj, ← pa_get far hj, h]
  have : (v == -1) = false := by simp [hv]
  rw [this]; simp; omega
theorem cnt_same {far : List Int} {j : Nat} {v : Int} (hj : j < far.length) (h : pa far j ≠ -1) (hv : v ≠ -1) : pcnt (far.set j v) = pcnt far := by
  unfold pcnt
  rw [List.count_set hj, ← pa_get far hj]
  have : (v == -1) = false := by simp [hv]
  rw [this]; simp [h]
theorem cnt_le (far : List Int) : pcnt far ≤ far.length := List.count_le_length

/-- The stop s is of place i. -/
def isAt (W H : Nat) (s : Stop) (i : Nat) : Prop := ∃ x y : Nat, s.x = x ∧ s.y = y ∧ x < W ∧ y < H ∧ i = y * W + x
theorem isAt_one {W H : Nat} {s : Stop} {i j : Nat} (h : isAt W H s i) (k : isAt W H s j) : i = j := by
  obtain ⟨x, y, a1, a2, a3, a4, a5⟩ := h
  obtain ⟨x', y', b1, b2, b3, b4, b5⟩ := k
  have e1 : x = x' := by omega
  have e2 : y = y' := by omega
  rw [a5, b5, e1, e2]
theorem isAt_lt {W H : Nat} {s : Stop} {i : Nat} (h : isAt W H s i) : i < W * H := by
  obtain ⟨x, y, a1, a2, a3, a4, a5⟩ := h
  rw [a5]; exact pl_lt a3 a4
/-- How a flood stands: it goes on from place 'cur', at M. -/
structure Inv (W H : Nat) (l : List Int) (S : Nat → Prop) (far : List Int) (Q : List Stop) (M : Int) (cur : Option Nat) : Prop where
  len : far.length = W * H
  M0 : 0 ≤ M
  que : ∀ s ∈ Q, ∃ i, isAt W H s i ∧ pa far i = s.c ∧ M ≤ s.c
  low : ∀ i, i < W * H → pa far i = -1 ∨ (0 ≤ pa far i ∧ pa far i ≤ M + kc (pa l i) ∧ pa l i ≠ 1)
  zero : ∀ i, i < W * H → (pa far i = 0 ↔ S i)
  just : ∀ i, i < W * H → 0 < pa far i → ∃ n, adj W H n i ∧ 0 ≤ pa far n ∧ pa far i = pa far n + kc (pa l i)
  done : ∀ i, i < W * H → 0 ≤ pa far i → (∃ s ∈ Q, isAt W H s i) ∨ cur = some i ∨ ∀ j, adj W H i j → pa l j ≠ 1 → 0 ≤ pa far j ∧ pa far j ≤ pa far i + kc (pa l j)
  top : ∀ i, i < W * H → pa far i + 3 * (pcnt far : Int) ≤ 3 * ((W * H : Nat) : Int)
section
variable {W H : Nat} {l : List Int} {S : Nat → Prop} {far : List Int} {Q Q' : List Stop} {M : Int} {cur : Option Nat}
theorem inv_end (h : Inv W H l S far [] M none) : Sol W H l S far where
  len := h.len
  zero := h.zero
  low := fun i hi => by rcases h.low i hi with e | e <;> omega
  rock := fun i hi hr => by
    rcases h.low i hi with e | e
    · exact e
    · exact absurd hr e.2.2
  best := fun i j hij h0 hr => by
    rcases h.done i (adj_lt hij).1 h0 with ⟨s, hs, _⟩ | e | e
    · cases hs
    · cases e
    · exact e j hij hr
  just := h.just
  top := fun i hi => by have := h.top i hi; omega
theorem inv_pop {s : Stop} (h : Inv W H l S far Q M none) (hp : Q.Perm (s :: Q')) (hm : ∀ t ∈ Q', s.c ≤ t.c) : ∃ i, isAt W H s i ∧ pa far i = s.c ∧ Inv W H l S far Q' s.c (some i) := by
  obtain ⟨i, hi, hc, hM⟩ := h.que s (hp.symm.subset (List.mem_cons_self ..))
  refine ⟨i, hi, hc, h.len, by have := h.M0; omega, ?_, ?_, h.zero, h.just, ?_, h.top⟩
  · intro t ht
    obtain ⟨j, h1, h2, _⟩ := h.que t (hp.symm.subset (List.mem_cons_of_mem _ ht))
    exact ⟨j, h1, h2, hm t ht⟩
  · intro j hj
    rcases h.low j hj with e | e
    · exact .inl e
    · exact .inr ⟨e.1, by omega, e.2.2⟩
  · intro j hj h0
    rcases h.done j hj h0 with ⟨t, ht, e⟩ | e | e
    · rcases List.mem_cons.1 (hp.subset ht) with e' | e'
      · subst e'
        exact .inr (.inl (by rw [isAt_one hi e]))
      · exact .inl ⟨t, e', e⟩
    · cases e
    · exact .inr (.inr e)
/-- A place that was not come to is come to, from where the flood stands. -/
theorem inv_reach {p j : Nat} {t : Stop} (h : Inv W H l S far Q M (some p)) (hpm : pa far p = M) (ha : adj W H p j) (hr : pa l j ≠ 1) (hj : pa far j = -1) (ht : isAt W H t j) (hc : t.c = M + kc (pa l j)) (hp : Q'.Perm (t :: Q)) :
    Inv W H l S (far.set j t.c) Q' M (some p) := by
  have hk := kc_bd (pa l j)
  have hM := h.M0
  have hjl : j < far.length := by rw [h.len]; exact (adj_lt ha).2
  have hs := fun i => pa_set far i j t.c hjl
  have ho : ∀ i, 0 ≤ pa far i → pa (far.set j t.c) i = pa far i := fun i hi => by rw [hs, if_neg]; intro e; subst e; omega
  refine ⟨by simpa using h.len, hM, ?_, ?_, ?_, ?_, ?_, ?_⟩
  · intro s hsq
    rcases List.mem_cons.1 (hp.subset hsq) with e | e
    · subst e
      exact ⟨j, ht, by rw [hs, if_pos rfl], by omega⟩
    · obtain ⟨i, h1, h2, h3⟩ := h.que s e
      exact ⟨i, h1, by rw [ho i (by omega)]; exact h2, h3⟩
  · intro i hi
    rw [hs]
    by_cases e : i = j
    · subst e; rw [if_pos rfl]; exact .inr ⟨by omega, by omega, hr⟩
    · rw [if_neg e]; exact h.low i hi
  · intro i hi
    rw [hs]
    by_cases e : i = j
    · subst e; rw [if_pos rfl]
      have := h.zero i hi
      constructor
      · intro e; omega
      · intro e; have := this.2 e; omega
    · rw [if_neg e]; exact h.zero i hi
  · intro i hi h0
    by_cases e : i = j
    · subst e
      refine ⟨p, ha, by rw [ho p (by omega)]; omega, ?_⟩
      rw [ho p (by omega), hs, if_pos rfl]; omega
    · rw [hs, if_neg e] at h0 ⊢
      obtain ⟨n, h1, h2, h3⟩ := h.just i hi h0
      exact ⟨n, h1, by rw [ho n h2]; exact h2, by rw [ho n h2]; exact h3⟩
  · intro i hi h0
    by_cases e : i = j
    · subst e; exact .inl ⟨t, hp.symm.subset (List.mem_cons_self ..), ht⟩
    · rw [hs, if_neg e] at h0
      rcases h.done i hi h0 with ⟨s, h1, h2⟩ | h1 | h1
      · exact .inl ⟨s, hp.symm.subset (List.mem_cons_of_mem _ h1), h2⟩
      · exact .inr (.inl h1)
      · refine .inr (.inr fun q hq hq2 => ?_)
        have := h1 q hq hq2
        rw [ho q this.1, ho i h0]; exact this
  · intro i hi
    have hct := cnt_set (v := t.c) hjl hj (by omega)
    have hpt := h.top p (adj_lt ha).1
    rw [hs]
    by_cases e : i = j
    · rw [if_pos e]; omega
    · rw [if_neg e]; have := h.top i hi; omega
/-- Where the flood stands it has gone on to all sides. -/
theorem inv_spread {p : Nat} (h : Inv W H l S far Q M (some p)) (hd : ∀ j, adj W H p j → pa l j ≠ 1 → 0 ≤ pa far j ∧ pa far j ≤ pa far p + kc (pa l j)) : Inv W H l S far Q M none := by
  refine ⟨h.len, h.M0, h.que, h.low, h.zero, h.just, ?_, h.top⟩
  intro i hi h0
  rcases h.done i hi h0 with h1 | h1 | h1
  · exact .inl h1
  · cases h1; exact .inr (.inr hd)
  · exact .inr (.inr h1)
/-- Before anything. -/
theorem inv_start (W H : Nat) (l : List Int) : Inv W H l (fun _ => False) (List.replicate (W * H) (-1)) [] 0 none := by
  have hp : ∀ i, i < W * H → pa (List.replicate (W * H) (-1)) i = -1 := fun i hi => by unfold pa; simp [List.getD_eq_getElem?_getD, hi]
  refine ⟨by simp, by omega, fun s hs => (by cases hs), fun i hi => .inl (hp i hi), fun i hi => ⟨fun e => by rw [hp i hi] at e; omega, fun e => e.elim⟩, fun i hi h0 => by rw [hp i hi] at h0; omega, fun i hi h0 => by rw [hp i hi] at h0; omega, fun i hi => ?_⟩
  rw [hp i hi]; unfold pcnt; rw [List.count_replicate_self]; omega
/-- A first cell is come to. -/
theorem inv_first {j : Nat} {t : Stop} (h : Inv W H l S far Q 0 none) (hz : ∀ i, i < W * H → pa far i ≤ 0) (hj : pa far j = -1) (hr : pa l j ≠ 1) (ht : isAt W H t j) (hc : t.c = 0) (hp : Q'.Perm (t :: Q)) :
    Inv W H l (fun i => S i ∨ i = j) (far.set j 0) Q' 0 none := by
  have hk := kc_bd (pa l j)
  have hjn := isAt_lt ht
  have hjl : j < far.length := by rw [h.len]; exact hjn
  have hs := fun i => pa_set far i j 0 hjl
  have ho : ∀ i, 0 ≤ pa far i → pa (far.set j 0) i = pa far i := fun i hi => by rw [hs, if_neg]; intro e; subst e; omega
  refine ⟨by simpa using h.len, by omega, ?_, ?_, ?_, ?_, ?_, ?_⟩
  · intro s hsq
    rcases List.mem_cons.1 (hp.subset hsq) with e | e
    · subst e
      exact ⟨j, ht, by rw [hs, if_pos rfl, hc], by omega⟩
    · obtain ⟨i, h1, h2, h3⟩ := h.que s e
      exact ⟨i, h1, by rw [ho i (by omega)]; exact h2, h3⟩
  · intro i hi
    rw [hs]
    by_cases e : i = j
    · subst e; rw [if_pos rfl]; exact .inr ⟨by omega, by omega, hr⟩
    · rw [if_neg e]; exact h.low i hi
  · intro i hi
    rw [hs]
    by_cases e : i = j
    · subst e; rw [if_pos rfl]; exact ⟨fun _ => .inr rfl, fun _ => rfl⟩
    · rw [if_neg e, h.zero i hi]; exact ⟨fun e => .inl e, fun e' => e'.elim id (fun e'' => absurd e'' e)⟩
  · intro i hi h0
    rw [hs] at h0
    split at h0
    · omega
    · have := hz i hi; omega
  · intro i hi h0
    by_cases e : i = j
    · subst e; exact .inl ⟨t, hp.symm.subset (List.mem_cons_self ..), ht⟩
    · rw [hs, if_neg e] at h0
      rcases h.done i hi h0 with ⟨s, h1, h2⟩ | h1 | h1
      · exact .inl ⟨s, hp.symm.subset (List.mem_cons_of_mem _ h1), h2⟩
      · exact .inr (.inl h1)
      · refine .inr (.inr fun q hq hq2 => ?_)
        have := h1 q hq hq2
        rw [ho q this.1, ho i h0]; exact this
  · intro i hi
    have hct := cnt_set (v := 0) hjl hj (by omega)
    have hjt := h.top j hjn
    rw [hs]
    by_cases e : i = j
    · rw [if_pos e]; omega
    · rw [if_neg e]; have := h.top i hi; omega
theorem inv_again {j : Nat} (h : Inv W H l S far Q 0 none) (hz : ∀ i, i < W * H → pa far i ≤ 0) (hjn : j < W * H) (hj : pa far j ≠ -1) : Inv W H l (fun i => S i ∨ i = j) far Q 0 none := by
  have h0 : pa far j = 0 := by have := hz j hjn; rcases h.low j hjn with e | e <;> omega
  refine ⟨h.len, h.M0, h.que, h.low, fun i hi => ?_, h.just, h.done, h.top⟩
  rw [h.zero i hi]
  exact ⟨fun e => .inl e, fun e => e.elim id (fun e => by rw [e]; exact (h.zero j hjn).1 h0)⟩
end
end Go.Proofs.Ytnbbfnlfcncgnaa
/- What a place costs to enter; where a cell lies; which cells are beside it. -/
namespace Go.Proofs.Ytnbbfnlfcncgnaa
open Go.RowKit
set_option linter.unusedVariables false

/-- What Cost returns. -/
def co (p : Int) : Int := if p = 0 ∨ p = 3 then 2 else if p = 2 then 3 else 0
def ce (p : Int) : Int := if p = 0 ∨ p = 2 ∨ p = 3 then 0 else if p = 1 then 9 else 1
set_option maxRecDepth 20000 in
theorem Cost_any (p : Int) (w : World) : Calls Try.prog 85 #[.int .i64 p] w fun e w' => e = .returned (.tuple #[.int .i64 (co p), .int .i64 (ce p)]) ∧ w' = w := by
  by_cases h0 : p = 0
  · subst h0
    go_enter Try.func85, Try.ntmps85
    go_wp2_with fail
    go_ret2
    exact ⟨rfl, rfl⟩
  by_cases h3 : p = 3
  · subst h3
    go_enter Try.func85, Try.ntmps85
    go_wp2_with fail
    go_ret2
    exact ⟨rfl, rfl⟩
  by_cases h2 : p = 2
  · subst h2
    go_enter Try.func85, Try.ntmps85
    go_wp2_with fail
    go_ret2
    exact ⟨rfl, rfl⟩
  by_cases h1 : p = 1
  · subst h1
    go_enter Try.func85, Try.ntmps85
    go_wp2_with fail
    go_ret2
    exact ⟨rfl, rfl⟩
  have d0 : (p == 0) = false := by simp [h0]
  have d1 : (p == 1) = false := by simp [h1]
  have d2 : (p == 2) = false := by simp [h2]
  have d3 : (p == 3) = false := by simp [h3]
  have e1 : co p = 0 := by unfold co; rw [if_neg (by omega), if_neg h2]
  have e2 : ce p = 1 := by unfold ce; rw [if_neg (by omega), if_neg h1]
  rw [e1, e2]
  go_enter Try.func85, Try.ntmps85
  go_wp2_with fail
  go_ret2
  exact ⟨rfl, rfl⟩
theorem Cost_at (p k e : Int) (w : World) (hk : Hid (co p = k)) (he : Hid (ce p = e)) : Calls Try.prog 85 #[.int .i64 p] w fun x w' => x = .returned (.tuple #[.int .i64 k, .int .i64 e]) ∧ w' = w := by rw [← hk.out, ← he.out]; exact Cost_any p w

set_option maxRecDepth 20000 in
theorem index_any (T : Nat) (W X Y i : Nat) (b c d v : Value) (w : World) (ht : tbx T w (.int .i64 (W : Int)) b c d v) (hi : Hid (Y * W + X = i)) (hb : i ≤ 1000000) :
    Calls Try.prog 99 #[.pointer (some ⟨T, 0, none⟩), .agg #[.int .i64 (X : Int), .int .i64 (Y : Int)]] w fun e w' => e = .returned (.int .i64 (i : Int)) ∧ Below w.heap.size w w' := by
  have hTl := tbx_lt ht
  have c0 := (tbx_cells ht).1
  obtain ⟨V, hV⟩ : ∃ V, w.alloc (.cells #[.int .i64 (X : Int), .int .i64 (Y : Int)] 31) = V := ⟨_, rfl⟩
  have hB : Below w.heap.size w V := by rw [← hV]; exact alloc_below _ _
  have c1 : V.cell? ⟨T, 0, none⟩ = some (.int .i64 (W : Int)) := (hB.cell (p := ⟨T, 0, none⟩) hTl).trans c0
  have c2 : V.cell? ⟨w.heap.size, 0, none⟩ = some (.int .i64 (X : Int)) := by rw [← hV]; simp [go_sem]
  have c3 : V.cell? ⟨w.heap.size, 1, none⟩ = some (.int .i64 (Y : Int)) := by rw [← hV]; simp [go_sem]
  obtain ⟨P, hP⟩ : ∃ P : Nat, Y * W = P := ⟨_, rfl⟩
  have hPi : P + X = i := by rw [← hP]; exact hi.out
  have eP : IntKind.i64.wrap ((Y : Int) * (W : Int)) = (P : Int) := by rw [← Int.natCast_mul, hP]; exact wrp (by omega) (by omega)
  have eJ : (P : Int) + X = i := by omega
  have eJ2 : IntKind.i64.wrap (i : Int) = i := wrp (by omega) (by omega)
  have HB : Hid (Below w.heap.size w V) := hB
  clear ht hi hB c0 hPi hP
  go_enter Try.func99, Try.ntmps99
  go_wp2_with fail
  clear hV
  go_quiet (fail)
  go_wp2_with fail
  go_ret
  exact ⟨rfl, below_drewN HB.out _⟩
set_option maxRecDepth 20000 in
set_option maxHeartbeats 1000000 in
theorem isIn_any (W H X Y : Int) (v : Value) (w : World) :
    Calls Try.prog 102 #[.agg #[.int .i64 W, .int .i64 H, v], .agg #[.int .i64 X, .int .i64 Y]] w fun e w' => e = .returned (.bool (inb W H X Y)) ∧ Below w.heap.size w w' := by
  have hb : Below w.heap.size w ((w.alloc (.cells #[.int .i64 W, .int .i64 H, v] 24)).alloc (.cells #[.int .i64 X, .int .i64 Y] 31)) := (alloc_below w _).alloc (by simp) _
  have HB : Hid _ := hb
  clear hb
  go_enter Try.func102, Try.ntmps102
  by_cases x0 : 0 ≤ X
  · by_cases x1 : X < W
    · by_cases y0 : 0 ≤ Y
      · by_cases y1 : Y < H
        all_goals
          go_wp2_with fail
          go_ret
          exact ⟨by unfold inb; congr 2; simp <;> omega, HB.out⟩
      · go_wp2_with fail
        go_ret
        exact ⟨by unfold inb; congr 2; simp <;> omega, HB.out⟩
    · go_wp2_with fail
      go_ret
      exact ⟨by unfold inb; congr 2; simp <;> omega, HB.out⟩
  · go_wp2_with fail
    go_ret
    exact ⟨by unfold inb; congr 2; simp <;> omega, HB.out⟩
theorem isIn_at (W H X Y : Int) (v : Value) (r : Bool) (w : World) (hr : Hid (inb W H X Y = r)) :
    Calls Try.prog 102 #[.agg #[.int .i64 W, .int .i64 H, v], .agg #[.int .i64 X, .int .i64 Y]] w fun e w' => e = .returned (.bool r) ∧ Below w.heap.size w w' := by rw [← hr.out]; exact isIn_any W H X Y v w
end Go.Proofs.Ytnbbfnlfcncgnaa
/- Which cells are beside a cell; the cheapest stop is taken. -/
namespace Go.Proofs.Ytnbbfnlfcncgnaa
open Go.RowKit
set_option linter.unusedVariables false

/-- The cells beside one, as an array. -/
def bes (X Y : Int) : Value := .agg #[.int .i64 X, .int .i64 (Y - 1), .int .i64 (X - 1), .int .i64 Y, .int .i64 (X + 1), .int .i64 Y, .int .i64 X, .int .i64 (Y + 1)]
def bX (X : Int) (k : Nat) : Int := if k = 1 then X - 1 else if k = 2 then X + 1 else X
def bY (Y : Int) (k : Nat) : Int := if k = 0 then Y - 1 else if k = 3 then Y + 1 else Y
theorem bes_at (X Y : Int) (k : Nat) (hk : k < 4) (w : World) : (Instr.index 120 (bes X Y) (.int .i64 (k : Int))).run Try.prog w = .ok (.agg #[.int .i64 (bX X k), .int .i64 (bY Y k)]) w := by
  match k, hk with
  | 0, _ => simp [Instr.index, Go.part, go_sem, bes, bX, bY]
  | 1, _ => simp [Instr.index, Go.part, go_sem, bes, bX, bY]
  | 2, _ => simp [Instr.index, Go.part, go_sem, bes, bX, bY]
  | 3, _ => simp [Instr.index, Go.part, go_sem, bes, bX, bY]
set_option maxRecDepth 20000 in
set_option maxHeartbeats 1000000 in
theorem beside_any (X Y : Nat) (w : World) (hX : X ≤ 1000000) (hY : Y ≤ 1000000) :
    Calls Try.prog 101 #[.agg #[.int .i64 (X : Int), .int .i64 (Y : Int)]] w fun e w' => e = .returned (bes X Y) ∧ Below w.heap.size w w' := by
  go_enter Try.func101, Try.ntmps101
  go_wp2_with fail
  go_returns
  exact ⟨rfl, (alloc_below w _).alloc (by simp) _⟩

set_option maxRecDepth 20000 in
set_option maxHeartbeats 1000000 in
theorem next_any (B T : Nat) (a b c d v : Value) (Q : List Stop) (n : Nat) (w : World) (ht : tbx T w a b c d v) (hq : que B w v Q) (hn : Q.length = n + 1) (hT : T < B) (hB : B ≤ w.heap.size) (hl : n < 1000000) (hh : hp Q.length Q) :
    Calls Try.prog 97 #[.pointer (some ⟨T, 4, none⟩)] w fun e w' => ∃ (s : Stop) (v' : Value) (Q' : List Stop), e = .returned (.agg #[.int .i64 s.x, .int .i64 s.y, .int .i64 s.c]) ∧ tbx T w' a b c d v' ∧ que B w' v' Q' ∧ Q.Perm (s :: Q') ∧ hp Q'.length Q' ∧ (∀ t ∈ Q', s.c ≤ t.c) ∧ Ex (fun k => k = T ∨ some k = v.ownBlock) w w' ∧ v'.ownBlock = v.ownBlock := by
  have HT : Hid (tbx T w a b c d v) := ht
  have HQ : Hid (que B w v Q) := hq
  have HN : Hid (Q.length = n + 1) := hn
  have HH : Hid (hp Q.length Q) := hh
  have hTl := tbx_lt ht
  have hgl := World.ownsRow.lt hq
  have HG : Hid (∀ k, v.ownBlock = some k → B ≤ k ∧ k < w.heap.size) := hgl
  clear ht hq hn hh hgl
  have ta := ta_stop
  go_enter Try.func97, Try.ntmps97
  go_wp2_with fail
  obtain ⟨w0, hw0⟩ : ∃ w0, w.alloc (.cells #[.int .i64 0, .int .i64 0, .int .i64 0] 136) = w0 := ⟨_, rfl⟩
  have hB0 : Below w.heap.size w w0 := by rw [← hw0]; exact alloc_below _ _
  have hs0 : w0.heap.size = w.heap.size + 1 := by rw [← hw0]; simp
  have hr0 : w0.heap[w.heap.size]? = some (.cells #[.int .i64 0, .int .i64 0, .int .i64 0] 136) := by rw [← hw0]; exact World.alloc_heap_new _ _
  rw [hw0]
  clear hw0
  have E0 : Ex (fun _ => False) w w0 := Ex.of_below hB0
  refine (hPop_any B T a b c d v Q n w0 (tbx_kept HT.out E0 (fun e => e)) (que_kept HQ.out E0 (fun _ _ e => e)) HN.out hT hl HH.out).mono ?_
  rintro e w1 ⟨s, v', Q', rfl, ht1, hq1, hp1, hh1, hm1, he1, ho1⟩
  have hr1 : w1.heap[w.heap.size]? = some (.cells #[.int .i64 0, .int .i64 0, .int .i64 0] 136) := by
    rw [he1.block w.heap.size (by omega) (fun e => e.elim (by omega) (fun e => by have := (HG.out _ e.symm).2; omega))]; exact hr0
  have r0 : w1.cell? ⟨w.heap.size, 0, none⟩ = some (.int .i64 0) ∧ w1.cell? ⟨w.heap.size, 1, none⟩ = some (.int .i64 0) ∧ w1.cell? ⟨w.heap.size, 2, none⟩ = some (.int .i64 0) ∧ w1.frozen? ⟨w.heap.size, 0, none⟩ = false ∧ w1.frozen? ⟨w.heap.size, 1, none⟩ = false ∧ w1.frozen? ⟨w.heap.size, 2, none⟩ = false := by simp [World.cell?, World.frozen?, hr1]
  obtain ⟨r0, r1, r2, r3, r4, r5⟩ := r0
  have HR1 : Hid (w1.heap[w.heap.size]? = some (.cells #[.int .i64 0, .int .i64 0, .int .i64 0] 136)) := hr1
  have HT1 : Hid _ := ht1
  have HQ1 : Hid _ := hq1
  have HE1 : Hid (Ex (fun k => k = T ∨ some k = v.ownBlock) w w1) := (E0.mono (S' := fun k => k = T ∨ some k = v.ownBlock) (fun _ _ e => e.elim)).trans he1 (fun _ _ e => e)
  have HR : Hid (Q.Perm (s :: Q') ∧ hp Q'.length Q' ∧ (∀ t ∈ Q', s.c ≤ t.c) ∧ v'.ownBlock = v.ownBlock) := ⟨hp1, hh1, hm1, ho1⟩
  clear ht1 hq1 he1 hp1 hh1 hm1 ho1 hr1 hr0 hB0 E0
  go_wp2_with fail
  obtain ⟨V, hV⟩ : ∃ V, ((w1.setCell ⟨w.heap.size, 0, none⟩ (.int .i64 s.x)).setCell ⟨w.heap.size, 1, none⟩ (.int .i64 s.y)).setCell ⟨w.heap.size, 2, none⟩ (.int .i64 s.c) = V := ⟨_, rfl⟩
  rw [hV]
  have k2 := set3 HR1.out V hV.symm
  have EV : Ex (fun k => k = w.heap.size) w1 V := by
    rw [← hV]
    have E1 := fun (V : World) (p : Addr) (u : Value) (hp : p.block = w.heap.size) => Ex.set (S := fun k => k = w.heap.size) V p hp u
    exact ((E1 w1 _ _ rfl).trans (E1 _ _ _ rfl) (fun _ _ e => e)).trans (E1 _ _ _ rfl) (fun _ _ e => e)
  refine ⟨by simp, .agg #[.int .i64 s.x, .int .i64 s.y, .int .i64 s.c], ?_, s, v', Q', rfl, ?_, ?_, HR.out.1, HR.out.2.1, HR.out.2.2.1, ?_, HR.out.2.2.2⟩
  · simp [results, Try.f97, go_sem, k2.1, k2.2.1, k2.2.2.1]
  · exact tbx_kept HT1.out EV (by omega)
  · refine que_kept HQ1.out EV (fun g hg e => ?_)
    have := (HG.out g (HR.out.2.2.2.symm.trans hg)).2; omega
  · exact HE1.out.trans EV (fun i hi e => by omega)
end Go.Proofs.Ytnbbfnlfcncgnaa
/- A tide in memory; a cell is reached. -/
namespace Go.Proofs.Ytnbbfnlfcncgnaa
open Go.RowKit
set_option linter.unusedVariables false

/-- How a tide lies in memory: its box T, the costs in block C, the queue from block B on. -/
def tde (B T C W H : Nat) (pv : Value) (cap : Nat) (far : List Int) (v : Value) (Q : List Stop) (w : World) : Prop :=
  tbx T w (.int .i64 (W : Int)) (.int .i64 (H : Int)) pv (.slice (some ⟨C, 0, none⟩) far.length cap) v ∧ mine 3 vi 0 w (.slice (some ⟨C, 0, none⟩) far.length cap) far ∧ que B w v Q ∧ hp Q.length Q ∧ T < B ∧ C < B ∧ T ≠ C ∧ B ≤ w.heap.size
section
variable {B T C W H : Nat} {pv : Value} {cap : Nat} {far : List Int} {v : Value} {Q : List Stop} {w w' : World}
theorem mine_ex {t : TypeId} {α : Type} {f : α → Value} {B : Nat} {v : Value} {L : List α} {S : Nat → Prop} (h : mine t f B w v L) (he : Ex S w w') (hn : ∀ g, v.ownBlock = some g → ¬ S g) : mine t f B w' v L := by
  refine ⟨h.1, ?_⟩
  rcases h.2 with h0 | ⟨g', cap, cur, hv, hB, hblk, hr⟩
  · exact .inl h0
  · refine .inr ⟨g', cap, cur, hv, hB, ?_, hr⟩
    have : g' < w.heap.size := by
      rcases Nat.lt_or_ge g' w.heap.size with hlt | hge
      · exact hlt
      · rw [Array.getElem?_eq_none hge] at hblk; cases hblk
    rw [he.block g' this (hn g' (by rw [hv]; rfl))]; exact hblk
theorem tde_below (h : tde B T C W H pv cap far v Q w) (hb : Below w.heap.size w w') : tde B T C W H pv cap far v Q w' := by
  obtain ⟨h1, h2, h3, h4, h5, h6, h7, h8⟩ := h
  have E : Ex (fun _ => False) w w' := Ex.of_below hb
  exact ⟨tbx_kept h1 E (fun e => e), mine_ex h2 E (fun _ _ e => e), que_kept h3 E (fun _ _ e => e), h4, h5, h6, h7, by have := hb.size; omega⟩
theorem tde_other (h : tde B T C W H pv cap far v Q w) {S : Nat → Prop} (he : Ex S w w') (hT : ¬ S T) (hC : ¬ S C) (hg : ∀ g, v.ownBlock = some g → ¬ S g) : tde B T C W H pv cap far v Q w' := by
  obtain ⟨h1, h2, h3, h4, h5, h6, h7, h8⟩ := h
  exact ⟨tbx_kept h1 he hT, mine_ex h2 he (fun g hg e => by simp [Value.ownBlock] at hg; subst hg; exact hC e), que_kept h3 he hg, h4, h5, h6, h7, by have := he.size; omega⟩
theorem tde_cost (h : tde B T C W H pv cap far v Q w) {i : Nat} (hi : i < far.length) : w.cell? ⟨C, i, none⟩ = some (.int .i64 (pa far i)) ∧ w.frozen? ⟨C, i, none⟩ = false := by
  have h2 := h.2.1
  refine ⟨?_, World.ownsRow.frozenAt h2 i⟩
  rw [World.ownsRow.cellAt h2 i (by omega), List.getElem?_map, List.getElem?_eq_getElem hi, pa_get far hi]; rfl
theorem tde_store (h : tde B T C W H pv cap far v Q w) (i : Nat) (x : Int) : tde B T C W H pv cap (far.set i x) v Q (w.setCell ⟨C, i, none⟩ (.int .i64 x)) ∧ Ex (fun k => k = C) w (w.setCell ⟨C, i, none⟩ (.int .i64 x)) := by
  obtain ⟨h1, h2, h3, h4, h5, h6, h7, h8⟩ := h
  have E : Ex (fun k => k = C) w (w.setCell ⟨C, i, none⟩ (.int .i64 x)) := Ex.set (S := fun k => k = C) w ⟨C, i, none⟩ rfl _
  refine ⟨⟨by rw [List.length_set]; exact tbx_kept h1 E h7, ?_, que_kept h3 E (fun g hg e => by have := (World.ownsRow.lt h3 g hg).1; omega), h4, h5, h6, h7, by have := E.size; omega⟩, E⟩
  have := (World.ownsRow.stored h2 i (.int .i64 x)).1
  unfold mine
  rw [List.length_set, List.map_set]
  exact this
end
/-- What reach leaves of the costs and of the queue. -/
def prch (far : List Int) (Q : List Stop) (i : Nat) (s : Stop) (far' : List Int) (Q' : List Stop) : Prop :=
  (pa far i ≠ -1 ∧ far' = far ∧ Q' = Q) ∨ (pa far i = -1 ∧ far' = far.set i s.c ∧ Q'.Perm (s :: Q))
/-- The blocks that a flood turns. -/
def trn (T C : Nat) (v : Value) (k : Nat) : Prop := k = T ∨ k = C ∨ some k = v.ownBlock

set_option maxRecDepth 20000 in
set_option maxHeartbeats 1000000 in
theorem reach_any (B T C W H : Nat) (pv : Value) (cap : Nat) (far : List Int) (v : Value) (Q : List Stop) (X Y i : Nat) (c : Int) (w : World) (ht : tde B T C W H pv cap far v Q w) (hi : Hid (Y * W + X = i)) (hil : i < far.length) (hfl : far.length ≤ 1600) (hQ : Q.length ≤ 1600) :
    Calls Try.prog 95 #[.pointer (some ⟨T, 0, none⟩), .agg #[.int .i64 (X : Int), .int .i64 (Y : Int)], .int .i64 c] w fun e w' => e = .returned (.tuple #[]) ∧ ∃ far' v' Q', tde B T C W H pv cap far' v' Q' w' ∧ prch far Q i ⟨X, Y, c⟩ far' Q' ∧ Ex (trn T C v) w w' ∧ ∀ k, v'.ownBlock = some k → v.ownBlock = some k ∨ w.heap.size ≤ k := by
  obtain ⟨n, hn⟩ : ∃ n, far.length = n := ⟨_, rfl⟩
  have HF : Hid (far.length = n) := hn
  have HT : Hid (tde B T C W H pv cap far v Q w) := ht
  rw [hn] at hil hfl
  clear ht hn
  go_enter Try.func95, Try.ntmps95
  go_wp2_with fail
  obtain ⟨w0, hw0⟩ : ∃ w0, w.alloc (.cells #[.int .i64 (X : Int), .int .i64 (Y : Int)] 31) = w0 := ⟨_, rfl⟩
  have hB0 : Below w.heap.size w w0 := by rw [← hw0]; exact alloc_below _ _
  have hs0 : w0.heap.size = w.heap.size + 1 := by rw [← hw0]; simp
  have b0 : w0.cell? ⟨w.heap.size, 0, none⟩ = some (.int .i64 (X : Int)) ∧ w0.cell? ⟨w.heap.size, 1, none⟩ = some (.int .i64 (Y : Int)) := by rw [← hw0]; constructor <;> simp [go_sem]
  rw [hw0]
  clear hw0
  have ht0 := tde_below HT.out hB0
  refine (index_any T W X Y i _ _ _ _ w0 ht0.1 hi (by omega)).mono ?_
  rintro e w1 ⟨rfl, hb1⟩
  have ht1 := tde_below ht0 hb1
  have HT1 : Hid (tde B T C W H pv cap far v Q w1) := ht1
  have HB1 : Hid (Below w.heap.size w w1) := hB0.trans (hb1.mono (by omega))
  have hs1 : w.heap.size + 1 ≤ w1.heap.size := by have := hb1.size; omega
  have q0 : w1.cell? ⟨w.heap.size, 0, none⟩ = some (.int .i64 (X : Int)) := (hb1.cell (p := ⟨w.heap.size, 0, none⟩) (by rw [hs0]; simp)).trans b0.1
  have q1 : w1.cell? ⟨w.heap.size, 1, none⟩ = some (.int .i64 (Y : Int)) := (hb1.cell (p := ⟨w.heap.size, 1, none⟩) (by rw [hs0]; simp)).trans b0.2
  obtain ⟨_, _, _, c3, c4, _⟩ := tbx_cells ht1.1
  rw [HF.out] at c3
  obtain ⟨x0, f0⟩ := tde_cost ht1 (i := i) (by rw [HF.out]; exact hil)
  have HBl : Hid (B ≤ w.heap.size) := HT.out.2.2.2.2.2.2.2
  have HG : Hid (∀ k, v.ownBlock = some k → B ≤ k ∧ k < w.heap.size) := World.ownsRow.lt HT.out.2.2.1
  have HTC : Hid (T < w.heap.size ∧ C < w.heap.size ∧ T < B ∧ C < B) := ⟨by have := HT.out.2.2.2.2.1; have := HBl.out; omega, by have := HT.out.2.2.2.2.2.1; have := HBl.out; omega, HT.out.2.2.2.2.1, HT.out.2.2.2.2.2.1⟩
  clear hB0 hb1 ht0 ht1 b0 hs0
  have i1 : (i : Int) < n := by omega
  have i2 : (0 : Int) ≤ i := by omega
  obtain ⟨x, hx⟩ : ∃ x, pa far i = x := ⟨_, rfl⟩
  rw [hx] at x0
  have HX : Hid (pa far i = x) := hx
  clear hx
  by_cases hm : x = -1
  · subst hm
    go_wp2_with fail
    obtain ⟨ht2, he2⟩ := tde_store HT1.out i c
    obtain ⟨w2, hw2⟩ : ∃ w2, w1.setCell ⟨C, i, none⟩ (.int .i64 c) = w2 := ⟨_, rfl⟩
    rw [hw2] at ht2 he2 ⊢
    clear hw2
    have p0 : w2.cell? ⟨w.heap.size, 0, none⟩ = some (.int .i64 (X : Int)) := (he2.cell (p := ⟨w.heap.size, 0, none⟩) (by show w.heap.size < w1.heap.size; omega) (by have := HTC.out; show ¬ w.heap.size = C; omega)).trans q0
    have p1 : w2.cell? ⟨w.heap.size, 1, none⟩ = some (.int .i64 (Y : Int)) := (he2.cell (p := ⟨w.heap.size, 1, none⟩) (by show w.heap.size < w1.heap.size; omega) (by have := HTC.out; show ¬ w.heap.size = C; omega)).trans q1
    have HT2 : Hid (tde B T C W H pv cap (far.set i c) v Q w2.drew) := tde_below ht2 (Below.refl _ _).drew
    have HE2 : Hid (Ex (trn T C v) w w2.drew) := ((Ex.of_below HB1.out).trans he2 (fun _ _ e => .inr (.inl e))).drew
    clear ht2 he2 q0 q1 c3 c4 x0 f0
    go_region_with ((go_at_call 100; refine (hPush_any B T _ _ _ _ v Q ⟨X, Y, c⟩ w2.drew HT2.out.1 HT2.out.2.2.1 HT2.out.2.2.2.2.1 HT2.out.2.2.2.2.2.2.2 (by omega) HT2.out.2.2.2.1).mono ?_; rintro e w3 ⟨rfl, v3, Q3, ht3, hq3, hp3, hh3, he3, ho3⟩))
    go_end0
    obtain ⟨h1, h2, h3, h4, h5, h6, h7, h8⟩ := HT2.out
    have hTC := HTC.out
    have hsz := HE2.out.size
    refine ⟨rfl, _, v3, Q3, ⟨ht3, mine_ex h2 he3 (fun g hg e => ?_), hq3, hh3, h5, h6, h7, by have := he3.size; omega⟩, .inr ⟨HX.out, rfl, hp3⟩, HE2.out.trans he3 (fun _ _ e => e.elim .inl (fun e => .inr (.inr e))), fun k hk => ?_⟩
    · simp [Value.ownBlock] at hg
      subst hg
      rcases e with e | e
      · exact h7 e.symm
      · have := (HG.out C e.symm).1; omega
    · rcases ho3 k hk with e | e
      · exact .inl e
      · exact .inr (by omega)
  · have e1 : (x == -1) = false := by simp [hm]
    have e2 : (x != -1) = true := by simp [hm]
    go_wp2_with fail
    go_returns
    exact ⟨rfl, far, v, Q, HT1.out, .inl ⟨by rw [HX.out]; exact hm, rfl, rfl⟩, Ex.of_below HB1.out, fun k hk => .inl hk⟩
end Go.Proofs.Ytnbbfnlfcncgnaa
/- The flood goes on from a stop to the cells beside it. -/
namespace Go.Proofs.Ytnbbfnlfcncgnaa
open Go.RowKit
set_option linter.unusedVariables false

theorem adj_bes {W H X Y k x y : Nat} (hk : k < 4) (hX : X < W) (hY : Y < H) (ex : bX X k = x) (ey : bY Y k = y) (hx : x < W) (hy : y < H) : adj W H (Y * W + X) (y * W + x) := by
  refine ⟨X, Y, x, y, rfl, rfl, hX, hx, hY, hy, ?_⟩
  unfold bX at ex
  unfold bY at ey
  match k, hk with
  | 0, _ => simp at ex ey; omega
  | 1, _ => simp at ex ey; omega
  | 2, _ => simp at ex ey; omega
  | 3, _ => simp at ex ey; omega
theorem bes_adj {W H X Y j : Nat} (hX : X < W) (h : adj W H (Y * W + X) j) : ∃ k x y : Nat, k < 4 ∧ bX X k = x ∧ bY Y k = y ∧ x < W ∧ y < H ∧ j = y * W + x := by
  obtain ⟨x, y, x', y', h1, h2, h3, h4, h5, h6, h7⟩ := h
  obtain ⟨rfl, rfl⟩ := pl_inj hX h3 h1
  have : (X = x' ∧ y' + 1 = Y) ∨ (Y = y' ∧ x' + 1 = X) ∨ (Y = y' ∧ X + 1 = x') ∨ (X = x' ∧ Y + 1 = y') := by omega
  rcases this with ⟨e1, e2⟩ | ⟨e1, e2⟩ | ⟨e1, e2⟩ | ⟨e1, e2⟩
  · exact ⟨0, x', y', by omega, by unfold bX; simp; omega, by unfold bY; simp; omega, h4, h6, h2⟩
  · exact ⟨1, x', y', by omega, by unfold bX; simp; omega, by unfold bY; simp; omega, h4, h6, h2⟩
  · exact ⟨2, x', y', by omega, by unfold bX; simp; omega, by unfold bY; simp; omega, h4, h6, h2⟩
  · exact ⟨3, x', y', by omega, by unfold bX; simp; omega, by unfold bY; simp; omega, h4, h6, h2⟩
/-- The neighbours up to k are come to. -/
def nbs (W H X Y : Nat) (l : List Int) (M : Int) (far : List Int) (k : Nat) : Prop := ∀ k' x y : Nat, k' < k → bX X k' = x → bY Y k' = y → x < W → y < H → pa l (y * W + x) ≠ 1 → 0 ≤ pa far (y * W + x) ∧ pa far (y * W + x) ≤ M + kc (pa l (y * W + x))
section
variable {W H : Nat} {l : List Int} {S : Nat → Prop} {far far' : List Int} {Q Q' : List Stop} {M : Int} {X Y k : Nat}
theorem nbs_skip (h : nbs W H X Y l M far k) (hn : ∀ x y : Nat, bX X k = x → bY Y k = y → x < W → y < H → pa l (y * W + x) = 1) : nbs W H X Y l M far (k + 1) := by
  intro k' x y hk ex ey hx hy hr
  by_cases e : k' = k
  · subst e; exact absurd (hn x y ex ey hx hy) hr
  · exact h k' x y (by omega) ex ey hx hy hr
theorem spr_step {p j x y : Nat} (h : Inv W H l S far Q M (some p)) (hM : pa far p = M) (hp : p = Y * W + X) (hk : k < 4) (hX : X < W) (hY : Y < H) (ex : bX X k = x) (ey : bY Y k = y) (hx : x < W) (hy : y < H) (hj : y * W + x = j) (hr : pa l j ≠ 1)
    (hc : prch far Q j ⟨x, y, M + kc (pa l j)⟩ far' Q') (hn : nbs W H X Y l M far k) :
    Inv W H l S far' Q' M (some p) ∧ pa far' p = M ∧ pcnt far' + Q'.length = pcnt far + Q.length ∧ nbs W H X Y l M far' (k + 1) := by
  have ha : adj W H p j := by rw [hp, ← hj]; exact adj_bes hk hX hY ex ey hx hy
  have hkc := kc_bd (pa l j)
  have hM0 := h.M0
  have key : ∀ i, 0 ≤ pa far i → pa far' i = pa far i := by
    intro i hi
    rcases hc with ⟨_, e, _⟩ | ⟨hm, e, _⟩
    · rw [e]
    · rw [e, pa_set far i j _ (by rw [h.len]; exact (adj_lt ha).2), if_neg]
      intro e; subst e; omega
  have hnew : 0 ≤ pa far' j ∧ pa far' j ≤ M + kc (pa l j) := by
    rcases hc with ⟨hm, e, _⟩ | ⟨hm, e, _⟩
    · rw [e]
      rcases h.low j (adj_lt ha).2 with e | e
      · exact absurd e hm
      · exact ⟨e.1, e.2.1⟩
    · rw [e, pa_set far j j _ (by rw [h.len]; exact (adj_lt ha).2), if_pos rfl]; show 0 ≤ M + kc (pa l j) ∧ M + kc (pa l j) ≤ M + kc (pa l j); omega
  refine ⟨?_, by rw [key p (by omega)]; exact hM, ?_, ?_⟩
  · rcases hc with ⟨_, e, e'⟩ | ⟨hm, e, hpq⟩
    · rw [e, e']; exact h
    · rw [e]; exact inv_reach h hM ha hr hm ⟨x, y, rfl, rfl, hx, hy, hj.symm⟩ rfl hpq
  · rcases hc with ⟨_, e, e'⟩ | ⟨hm, e, hpq⟩
    · rw [e, e']
    · have := cnt_set (v := M + kc (pa l j)) (by rw [h.len]; exact (adj_lt ha).2) hm (by omega)
      have h2 := hpq.length_eq
      rw [e]
      simp at h2 ⊢; omega
  · intro k' x' y' hk' ex' ey' hx' hy' hr'
    by_cases e : k' = k
    · subst e
      have e1 : x' = x := by rw [ex] at ex'; omega
      have e2 : y' = y := by rw [ey] at ey'; omega
      rw [e1, e2, hj]; exact hnew
    · have := hn k' x' y' (by omega) ex' ey' hx' hy' hr'
      rw [key _ this.1]; exact this
theorem spr_end {p : Nat} (h : Inv W H l S far Q M (some p)) (hM : pa far p = M) (hp : p = Y * W + X) (hX : X < W) (hn : nbs W H X Y l M far 4) : Inv W H l S far Q M none := by
  refine inv_spread h fun j ha hr => ?_
  rw [hp] at ha
  obtain ⟨k, x, y, h1, h2, h3, h4, h5, h6⟩ := bes_adj hX ha
  rw [h6] at hr ⊢
  rw [hM]
  exact hn k x y h1 h2 h3 h4 h5 hr
end
/-- How the spreading stands. -/
def sst (B T C W H : Nat) (pv : Value) (cap : Nat) (v : Value) (l : List Int) (S : Nat → Prop) (M : Int) (p X Y D : Nat) (w1 : World) (k : Nat) (far : List Int) (v' : Value) (Q : List Stop) (wr : World) : Prop :=
  tde B T C W H pv cap far v' Q wr ∧ Inv W H l S far Q M (some p) ∧ pa far p = M ∧ nbs W H X Y l M far k ∧ pcnt far + Q.length = D ∧ Ex (trn T C v) w1 wr ∧ ∀ g, v'.ownBlock = some g → v.ownBlock = some g ∨ w1.heap.size ≤ g
section
variable {B T C W H : Nat} {pv : Value} {cap : Nat} {v : Value} {l : List Int} {S : Nat → Prop} {M : Int} {p X Y D : Nat} {w1 : World} {k : Nat} {far : List Int} {v' : Value} {Q : List Stop} {wr w' : World}
theorem sst_below (h : sst B T C W H pv cap v l S M p X Y D w1 k far v' Q wr) (hb : Below wr.heap.size wr w') : sst B T C W H pv cap v l S M p X Y D w1 k far v' Q w' :=
  ⟨tde_below h.1 hb, h.2.1, h.2.2.1, h.2.2.2.1, h.2.2.2.2.1, h.2.2.2.2.2.1.trans (Ex.of_below (S := fun _ => False) hb) (fun _ _ e => e.elim), h.2.2.2.2.2.2⟩
theorem sst_skip (h : sst B T C W H pv cap v l S M p X Y D w1 k far v' Q wr) (hn : ∀ x y : Nat, bX X k = x → bY Y k = y → x < W → y < H → pa l (y * W + x) = 1) : sst B T C W H pv cap v l S M p X Y D w1 (k + 1) far v' Q wr :=
  ⟨h.1, h.2.1, h.2.2.1, nbs_skip h.2.2.2.1 hn, h.2.2.2.2.1, h.2.2.2.2.2.1, h.2.2.2.2.2.2⟩
theorem sst_next (h : sst B T C W H pv cap v l S M p X Y D w1 k far v' Q wr) {far' : List Int} {v2 : Value} {Q' : List Stop} {j x y : Nat} (hp : p = Y * W + X) (hk : k < 4) (hX : X < W) (hY : Y < H) (ex : bX X k = x) (ey : bY Y k = y) (hx : x < W) (hy : y < H) (hj : y * W + x = j) (hr : pa l j ≠ 1)
    (ht : tde B T C W H pv cap far' v2 Q' w') (hc : prch far Q j ⟨x, y, M + kc (pa l j)⟩ far' Q') (he : Ex (trn T C v') wr w') (ho : ∀ g, v2.ownBlock = some g → v'.ownBlock = some g ∨ wr.heap.size ≤ g) : sst B T C W H pv cap v l S M p X Y D w1 (k + 1) far' v2 Q' w' := by
  obtain ⟨h1, h2, h3, h4, h5, h6, h7⟩ := h
  obtain ⟨a1, a2, a3, a4⟩ := spr_step h2 h3 hp hk hX hY ex ey hx hy hj hr hc h4
  refine ⟨ht, a1, a2, a4, by omega, h6.trans he (fun i hi e => ?_), fun g hg => ?_⟩
  · rcases e with e | e | e
    · exact .inl e
    · exact .inr (.inl e)
    · rcases h7 i e.symm with e' | e'
      · exact .inr (.inr e'.symm)
      · omega
  · rcases ho g hg with e | e
    · exact h7 g e
    · exact .inr (by have := h6.size; omega)
end
theorem pk4_drew {w V : World} {x y z u : Addr} {a b c d : Value} (h : Below w.heap.size w V ∧ V.cell? x = some a ∧ V.cell? y = some b ∧ V.cell? z = some c ∧ V.cell? u = some d) : Below w.heap.size w V.drew ∧ V.drew.cell? x = some a ∧ V.drew.cell? y = some b ∧ V.drew.cell? z = some c ∧ V.drew.cell? u = some d := ⟨h.1.drew, h.2.1, h.2.2.1, h.2.2.2.1, h.2.2.2.2⟩
theorem k4_drewN {w V : World} {x y z u : Addr} {a b c d : Value} (h : Below w.heap.size w V ∧ V.cell? x = some a ∧ V.cell? y = some b ∧ V.cell? z = some c ∧ V.cell? u = some d) (n : Nat) : Below w.heap.size w (V.drewN n) ∧ (V.drewN n).cell? x = some a ∧ (V.drewN n).cell? y = some b ∧ (V.drewN n).cell? z = some c ∧ (V.drewN n).cell? u = some d := ⟨below_drewN h.1 n, h.2.1, h.2.2.1, h.2.2.2.1, h.2.2.2.2⟩
theorem pk4_call {w V V' : World} {x y z u : Addr} {a b c d : Value} (h : Below w.heap.size w V ∧ V.cell? x = some a ∧ V.cell? y = some b ∧ V.cell? z = some c ∧ V.cell? u = some d) (hb : Below V.heap.size V V') : Below w.heap.size w V' ∧ V'.cell? x = some a ∧ V'.cell? y = some b ∧ V'.cell? z = some c ∧ V'.cell? u = some d :=
  ⟨h.1.trans (hb.mono h.1.size), by rw [hb.cell (cell_lt h.2.1)]; exact h.2.1, by rw [hb.cell (cell_lt h.2.2.1)]; exact h.2.2.1, by rw [hb.cell (cell_lt h.2.2.2.1)]; exact h.2.2.2.1, by rw [hb.cell (cell_lt h.2.2.2.2)]; exact h.2.2.2.2⟩
theorem pk5_drew {w V : World} {x y z u t : Addr} {a b c d e : Value} (h : Below w.heap.size w V ∧ V.cell? x = some a ∧ V.cell? y = some b ∧ V.cell? z = some c ∧ V.cell? u = some d ∧ V.cell? t = some e) : Below w.heap.size w V.drew ∧ V.drew.cell? x = some a ∧ V.drew.cell? y = some b ∧ V.drew.cell? z = some c ∧ V.drew.cell? u = some d ∧ V.drew.cell? t = some e := ⟨h.1.drew, h.2.1, h.2.2.1, h.2.2.2.1, h.2.2.2.2.1, h.2.2.2.2.2⟩
theorem k5_drewN {w V : World} {x y z u t : Addr} {a b c d e : Value} (h : Below w.heap.size w V ∧ V.cell? x = some a ∧ V.cell? y = some b ∧ V.cell? z = some c ∧ V.cell? u = some d ∧ V.cell? t = some e) (n : Nat) : Below w.heap.size w (V.drewN n) ∧ (V.drewN n).cell? x = some a ∧ (V.drewN n).cell? y = some b ∧ (V.drewN n).cell? z = some c ∧ (V.drewN n).cell? u = some d ∧ (V.drewN n).cell? t = some e := ⟨below_drewN h.1 n, h.2.1, h.2.2.1, h.2.2.2.1, h.2.2.2.2.1, h.2.2.2.2.2⟩
theorem pk5_call {w V V' : World} {x y z u t : Addr} {a b c d e : Value} (h : Below w.heap.size w V ∧ V.cell? x = some a ∧ V.cell? y = some b ∧ V.cell? z = some c ∧ V.cell? u = some d ∧ V.cell? t = some e) (hb : Below V.heap.size V V') : Below w.heap.size w V' ∧ V'.cell? x = some a ∧ V'.cell? y = some b ∧ V'.cell? z = some c ∧ V'.cell? u = some d ∧ V'.cell? t = some e :=
  ⟨h.1.trans (hb.mono h.1.size), by rw [hb.cell (cell_lt h.2.1)]; exact h.2.1, by rw [hb.cell (cell_lt h.2.2.1)]; exact h.2.2.1, by rw [hb.cell (cell_lt h.2.2.2.1)]; exact h.2.2.2.1, by rw [hb.cell (cell_lt h.2.2.2.2.1)]; exact h.2.2.2.2.1, by rw [hb.cell (cell_lt h.2.2.2.2.2)]; exact h.2.2.2.2.2⟩
theorem pinb_nat {W H : Nat} {x y : Int} (h : inb W H x y = true) : ∃ a b : Nat, x = a ∧ y = b ∧ a < W ∧ b < H := by
  unfold inb at h
  simp at h
  exact ⟨x.toNat, y.toNat, by omega, by omega, by omega, by omega⟩
theorem pinb_no {W H : Nat} {x y : Int} (h : inb W H x y = false) : ∀ a b : Nat, x = a → y = b → a < W → b < H → False := by
  unfold inb at h
  intro a b e1 e2 h1 h2
  subst e1 e2
  simp at h; omega
theorem co_kc {p : Int} (h0 : 0 ≤ p) (h3 : p ≤ 3) (h1 : p ≠ 1) : co p = kc p ∧ ce p = 0 := by
  have : p = 0 ∨ p = 2 ∨ p = 3 := by omega
  rcases this with e | e | e <;> subst e <;> exact ⟨by decide, by decide⟩

theorem row_ex {w w' : World} {a : Addr} {l : List Int} {S : Nat → Prop} (h : row vi w (some a) l) (he : Ex S w w') (hn : ¬ S a.block) : row vi w' (some a) l := by
  intro j x hj
  obtain ⟨b, hb, hc⟩ := h j x hj
  cases hb
  refine ⟨a, rfl, ?_⟩
  rw [he.cell (p := a.add j) (by exact cell_lt hc) (by rw [add_block]; exact hn)]; exact hc
theorem psort_bd {l : List Int} (hg : l.any bad = false) {j : Nat} (hj : j < l.length) : 0 ≤ pa l j ∧ pa l j ≤ 3 := by
  rw [pa_get l hj]
  have := List.any_eq_false.1 hg l[j] (List.getElem_mem hj)
  unfold bad at this
  simp at this; omega
set_option maxRecDepth 20000 in
set_option maxHeartbeats 4000000 in
theorem spread_any (B T C W H : Nat) (a : Addr) (cp cap : Nat) (far : List Int) (v : Value) (Q : List Stop) (l : List Int) (S : Nat → Prop) (M : Int) (X Y p D : Nat) (w : World)
    (ht : tde B T C W H (.slice (some a) (W * H) cp) cap far v Q w) (hI : Inv W H l S far Q M (some p)) (hM : pa far p = M) (hp : p = Y * W + X) (hX : X < W) (hY : Y < H) (hW : W ≤ 40) (hH : H ≤ 40) (hl : l.length = W * H) (hg : l.any bad = false)
    (hrow : row vi w (some a) l) (ha : a.block < B) (haT : a.block ≠ T) (haC : a.block ≠ C) (hD : pcnt far + Q.length = D) (hD2 : D ≤ 1600) :
    Calls Try.prog 96 #[.pointer (some ⟨T, 0, none⟩), .agg #[.int .i64 (X : Int), .int .i64 (Y : Int), .int .i64 M]] w fun e w' => e = .returned (.tuple #[]) ∧ ∃ far' v' Q', tde B T C W H (.slice (some a) (W * H) cp) cap far' v' Q' w' ∧ Inv W H l S far' Q' M none ∧ pcnt far' + Q'.length = D ∧ Ex (trn T C v) w w' ∧ ∀ k, v'.ownBlock = some k → v.ownBlock = some k ∨ w.heap.size ≤ k := by
  have HT : Hid (tde B T C W H (.slice (some a) (W * H) cp) cap far v Q w) := ht
  have HTC : Hid (T < w.heap.size ∧ C < w.heap.size ∧ T < B ∧ C < B ∧ B ≤ w.heap.size) := by
    obtain ⟨h1, h2, h3, h4, h5, h6, h7, h8⟩ := ht
    exact ⟨by omega, by omega, h5, h6, h8⟩
  have HG : Hid (∀ k, v.ownBlock = some k → B ≤ k ∧ k < w.heap.size) := World.ownsRow.lt ht.2.2.1
  have hM0 := hI.M0
  have hM1 : M ≤ 4800 := by
    have h1 := hI.top p (by rw [hp]; exact pl_lt hX hY)
    have h2 : W * H ≤ 1600 := by have := Nat.mul_le_mul hW hH; omega
    rw [hM] at h1; omega
  have HWH : Hid (W * H ≤ 1600) := by have := Nat.mul_le_mul hW hH; unfold Hid; omega
  have HI : Hid (Inv W H l S far Q M (some p) ∧ pa far p = M ∧ p = Y * W + X ∧ pcnt far + Q.length = D) := ⟨hI, hM, hp, hD⟩
  have HR : Hid (row vi w (some a) l ∧ a.block < B ∧ a.block ≠ T ∧ a.block ≠ C ∧ l.length = W * H ∧ l.any bad = false) := ⟨hrow, ha, haT, haC, hl, hg⟩
  clear ht hI hM hp hD hrow ha haT haC hl hg
  go_enter Try.func96, Try.ntmps96
  go_wp2_with fail
  obtain ⟨F, hF⟩ : ∃ F, w.heap.size = F := ⟨_, rfl⟩
  obtain ⟨w0, hw0⟩ : ∃ w0, w.alloc (.cells #[.int .i64 (X : Int), .int .i64 (Y : Int), .int .i64 M] 136) = w0 := ⟨_, rfl⟩
  have hB0 : Below w.heap.size w w0 := by rw [← hw0]; exact alloc_below _ _
  have hs0 : w0.heap.size = F + 1 := by rw [← hw0, ← hF]; simp
  have b0 : w0.cell? ⟨F, 2, none⟩ = some (.int .i64 M) := by rw [← hw0, ← hF]; simp [go_sem]
  rw [hw0]
  clear hw0
  refine (beside_any X Y w0 (by omega) (by omega)).mono ?_
  rintro e w1 ⟨rfl, hb1⟩
  have hb2 : Below w.heap.size w w1 := hB0.trans (hb1.mono (by omega))
  have HB1 : Hid (Below w.heap.size w w1) := hb2
  have HS1 : Hid (F < w1.heap.size) := by have := hb1.size; unfold Hid; omega
  have B1 : Hid (w1.cell? ⟨F, 2, none⟩ = some (.int .i64 M)) := (hb1.cell (p := ⟨F, 2, none⟩) (by show F < w0.heap.size; omega)).trans b0
  have HF : Hid (w.heap.size = F) := hF
  have H0 : Hid (sst B T C W H (.slice (some a) (W * H) cp) cap v l S M p X Y D w1 0 far v Q w1) :=
    ⟨tde_below HT.out hb2, HI.out.1, HI.out.2.1, fun k' x y hk => by omega, HI.out.2.2.2, Ex.refl _ _, fun g hg => .inl hg⟩
  clear hB0 hb1 hb2 b0 hs0 hF
  go_wp2_with fail
  go_loopw [11] (fun i wr => ∃ (k : Nat), i = .int .i64 k ∧ k ≤ 4 ∧ ∃ far' v' Q', Hid (sst B T C W H (.slice (some a) (W * H) cp) cap v l S M p X Y D w1 k far' v' Q' wr)) (fun i _ => 4 - (intOf i).toNat)
  case atStart => exact ⟨0, rfl, by omega, far, v, Q, H0⟩
  case round =>
    obtain ⟨k, rfl, hk, far', v', Q', HS⟩ := hrel
    by_cases hlt : k < 4
    · have hix := fun V => bes_at (X : Int) (Y : Int) k hlt V
      obtain ⟨x, hx⟩ : ∃ x, bX (X : Int) k = x := ⟨_, rfl⟩
      obtain ⟨y, hy⟩ : ∃ y, bY (Y : Int) k = y := ⟨_, rfl⟩
      simp only [hx, hy] at hix
      have HX : Hid (bX (X : Int) k = x) := hx
      have HY : Hid (bY (Y : Int) k = y) := hy
      clear hx hy
      have hki : (k : Int) < 4 := by omega
      obtain ⟨w4, hw4⟩ : ∃ w4, wr.alloc (.cells #[.int .i64 x, .int .i64 y] 31) = w4 := ⟨_, rfl⟩
      obtain ⟨G, hG⟩ : ∃ G, wr.heap.size = G := ⟨_, rfl⟩
      have hS4 : sst B T C W H (.slice (some a) (W * H) cp) cap v l S M p X Y D w1 k far' v' Q' w4 := sst_below HS.out (by rw [← hw4]; exact alloc_below _ _)
      have HS4 : Hid (sst B T C W H (.slice (some a) (W * H) cp) cap v l S M p X Y D w1 k far' v' Q' w4) := hS4
      have g0 : w4.cell? ⟨G, 0, none⟩ = some (.int .i64 x) ∧ w4.cell? ⟨G, 1, none⟩ = some (.int .i64 y) := by rw [← hw4, ← hG]; constructor <;> simp [go_sem]
      obtain ⟨g0, g1⟩ := g0
      obtain ⟨t0, t1, t2, _, _, _⟩ := tbx_cells hS4.1.1
      clear hS4
      cases hin : inb W H x y with
      | false =>
        have HIN : Hid (inb W H x y = false) := hin
        clear hin
        go_wp2_with fail
        go_region_held3 (fun V => Below w4.heap.size w4 V ∧ V.cell? ⟨T, 0, none⟩ = some (.int .i64 (W : Int)) ∧ V.cell? ⟨T, 1, none⟩ = some (.int .i64 (H : Int)) ∧ V.cell? ⟨T, 2, none⟩ = some (.slice (some a) (W * H) cp) ∧ V.cell? ⟨G, 0, none⟩ = some (.int .i64 x) ∧ V.cell? ⟨G, 1, none⟩ = some (.int .i64 y)) (first | assumption | exact pk5_drew (by assumption) | exact k5_drewN (by assumption) _ | exact pk5_call (by assumption) (by assumption) | exact ⟨Below.drew (Below.refl _ _), t0, t1, t2, g0, g1⟩ | exact ⟨Below.refl _ _, t0, t1, t2, g0, g1⟩) (first
          | (go_at_call 102; refine (isIn_at (W : Int) (H : Int) _ _ _ false _ HIN).mono ?_; rintro e w5 ⟨rfl, hb5⟩))
        have HS5 : Hid (sst B T C W H (.slice (some a) (W * H) cp) cap v l S M p X Y D w1 k far' v' Q' w5) := sst_below HS4.out ((Below.refl _ _).drew.trans hb5)
        clear hb5
        go_wp2_with fail
        go_roundw
        case rel => exact ⟨k + 1, by go_num, by omega, far', v', Q', sst_skip HS5.out (fun x' y' ex ey hx hy => (pinb_no HIN.out x' y' (by rw [← HX.out]; exact ex) (by rw [← HY.out]; exact ey) hx hy).elim)⟩
        case measure => simp [intOf]; omega
      | true =>
        obtain ⟨x', y', rfl, rfl, hx', hy'⟩ := pinb_nat hin
        have HIN : Hid (inb W H x' y' = true) := hin
        clear hin
        obtain ⟨j, hj⟩ : ∃ j, y' * W + x' = j := ⟨_, rfl⟩
        have hjl : j < W * H := by rw [← hj]; exact pl_lt hx' hy'
        have HJ : Hid (y' * W + x' = j) := hj
        clear hj
        obtain ⟨Z, hZ⟩ : ∃ Z, pa l j = Z := ⟨_, rfl⟩
        have HZ : Hid (pa l j = Z) := hZ
        have hbd := psort_bd HR.out.2.2.2.2.2 (j := j) (by rw [HR.out.2.2.2.2.1]; exact hjl)
        rw [hZ] at hbd
        have HBD : Hid (0 ≤ Z ∧ Z ≤ 3) := hbd
        clear hbd hZ
        have hj16 : j ≤ 1600 := by have := HWH.out; omega
        go_wp2_with fail
        go_region_held3 (fun V => Below w4.heap.size w4 V ∧ V.cell? ⟨T, 0, none⟩ = some (.int .i64 (W : Int)) ∧ V.cell? ⟨T, 1, none⟩ = some (.int .i64 (H : Int)) ∧ V.cell? ⟨T, 2, none⟩ = some (.slice (some a) (W * H) cp) ∧ V.cell? ⟨G, 0, none⟩ = some (.int .i64 (x' : Int)) ∧ V.cell? ⟨G, 1, none⟩ = some (.int .i64 (y' : Int))) (first | assumption | exact pk5_drew (by assumption) | exact k5_drewN (by assumption) _ | exact pk5_call (by assumption) (by assumption) | exact ⟨Below.drew (Below.refl _ _), t0, t1, t2, g0, g1⟩ | exact ⟨Below.refl _ _, t0, t1, t2, g0, g1⟩) (first
          | (go_at_call 102; refine (isIn_at (W : Int) (H : Int) _ _ _ true _ HIN).mono ?_; rintro e w5 ⟨rfl, hb5⟩))
        have hb45 : Below w4.heap.size w4 w5 := (Below.refl _ _).drew.trans hb5
        have hs5 := sst_below HS4.out hb45
        have HS5 : Hid (sst B T C W H (.slice (some a) (W * H) cp) cap v l S M p X Y D w1 k far' v' Q' w5) := hs5
        obtain ⟨r0, r1, r2, _, _, _⟩ := tbx_cells hs5.1.1
        have q0 : w5.cell? ⟨G, 0, none⟩ = some (.int .i64 (x' : Int)) := (hb45.cell (p := ⟨G, 0, none⟩) (cell_lt g0)).trans g0
        have q1 : w5.cell? ⟨G, 1, none⟩ = some (.int .i64 (y' : Int)) := (hb45.cell (p := ⟨G, 1, none⟩) (cell_lt g1)).trans g1
        have hrw : row vi w5 (some a) l := row_ex (row_below HR.out.1 HB1.out) hs5.2.2.2.2.2.1 (fun e => by
          have h1 := HR.out; have h2 := HTC.out
          rcases e with e | e | e
          · exact h1.2.2.1 e
          · exact h1.2.2.2.1 e
          · have := (HG.out _ e.symm).1; omega)
        obtain ⟨a', ea, qz⟩ := row_at hrw (j := j) (by rw [HR.out.2.2.2.2.1]; exact hjl)
        cases ea
        have ez : l[j]'(by rw [HR.out.2.2.2.2.1]; exact hjl) = Z := by rw [← HZ.out, pa_get]
        rw [ez] at qz
        have qz' : w5.cell? (a.add j) = some (.int .i64 Z) := qz
        clear hb45 hb5 hs5 hrw ez qz g0 g1 t0 t1 t2 hix hw4
        have i1 : (j : Int) < W * H := by omega
        have i2 : (0 : Int) ≤ j := by omega
        have HIX : Hid (∀ V, Below w5.heap.size w5 V → Calls Try.prog 99 #[.pointer (some ⟨T, 0, none⟩), .agg #[.int .i64 (x' : Int), .int .i64 (y' : Int)]] V fun e w' => e = .returned (.int .i64 (j : Int)) ∧ Below V.heap.size V w') :=
          fun V hV => index_any T W x' y' j _ _ _ _ V (tde_below HS5.out.1 hV).1 HJ (by omega)
        by_cases hr : Z = 1
        · have HC : Hid (co Z = 0) := by subst hr; unfold Hid; decide
          have HE : Hid (ce Z = 9) := by subst hr; unfold Hid; decide
          have HZ1 : Hid (Z = 1) := hr
          clear hr
          go_wp2_with fail
          go_region_held3 (fun V => Below w5.heap.size w5 V ∧ V.cell? ⟨T, 2, none⟩ = some (.slice (some a) (W * H) cp) ∧ V.cell? ⟨G, 0, none⟩ = some (.int .i64 (x' : Int)) ∧ V.cell? ⟨G, 1, none⟩ = some (.int .i64 (y' : Int)) ∧ V.cell? (a.add j) = some (.int .i64 Z)) (first | assumption | exact pk4_drew (by assumption) | exact k4_drewN (by assumption) _ | exact pk4_call (by assumption) (by assumption) | exact ⟨Below.drew (Below.refl _ _), r2, q0, q1, qz'⟩ | exact ⟨Below.refl _ _, r2, q0, q1, qz'⟩) (first
            | (go_at_call 99; refine (HIX.out _ (And.left (by assumption))).mono ?_; rintro e w6 ⟨rfl, hb6⟩)
            | (go_at_call 85; refine (Cost_at Z 0 9 _ HC HE).mono ?_; rintro e w' ⟨rfl, hw⟩; subst w'))
          have HS6 : Hid (sst B T C W H (.slice (some a) (W * H) cp) cap v l S M p X Y D w1 k far' v' Q' w6) := sst_below HS5.out ((Below.refl _ _).drew.trans hb6)
          clear hb6
          go_wp2_with fail
          go_roundw
          case rel =>
            refine ⟨k + 1, by go_num, by omega, far', v', Q', sst_skip HS6.out (fun x2 y2 ex ey hx hy => ?_)⟩
            have e1 : x2 = x' := by have := HX.out; rw [ex] at this; omega
            have e2 : y2 = y' := by have := HY.out; rw [ey] at this; omega
            rw [e1, e2, HJ.out, HZ.out]; exact HZ1.out
          case measure => simp [intOf]; omega
        · obtain ⟨K, hK⟩ : ∃ K, kc Z = K := ⟨_, rfl⟩
          have hkb := kc_bd Z
          rw [hK] at hkb
          have hck := co_kc HBD.out.1 HBD.out.2 hr
          have HC : Hid (co Z = K) := hck.1.trans hK
          have HE : Hid (ce Z = 0) := hck.2
          have HK : Hid (kc Z = K) := hK
          have HZ1 : Hid (Z ≠ 1) := hr
          clear hr hck hK
          go_wp2_with fail
          go_region_held3 (fun V => Below w5.heap.size w5 V ∧ V.cell? ⟨T, 2, none⟩ = some (.slice (some a) (W * H) cp) ∧ V.cell? ⟨G, 0, none⟩ = some (.int .i64 (x' : Int)) ∧ V.cell? ⟨G, 1, none⟩ = some (.int .i64 (y' : Int)) ∧ V.cell? (a.add j) = some (.int .i64 Z)) (first | assumption | exact pk4_drew (by assumption) | exact k4_drewN (by assumption) _ | exact pk4_call (by assumption) (by assumption) | exact ⟨Below.drew (Below.refl _ _), r2, q0, q1, qz'⟩ | exact ⟨Below.refl _ _, r2, q0, q1, qz'⟩) (first
            | (go_at_call 99; refine (HIX.out _ (And.left (by assumption))).mono ?_; rintro e w6 ⟨rfl, hb6⟩)
            | (go_at_call 85; refine (Cost_at Z K 0 _ HC HE).mono ?_; rintro e w' ⟨rfl, hw⟩; subst w'))
          have hb56 : Below w5.heap.size w5 w6 := (Below.refl _ _).drew.trans hb6
          have hs6 := sst_below HS5.out hb56
          have HS6 : Hid (sst B T C W H (.slice (some a) (W * H) cp) cap v l S M p X Y D w1 k far' v' Q' w6) := hs6
          have p0 : w6.cell? ⟨G, 0, none⟩ = some (.int .i64 (x' : Int)) := (hb56.cell (p := ⟨G, 0, none⟩) (cell_lt q0)).trans q0
          have p1 : w6.cell? ⟨G, 1, none⟩ = some (.int .i64 (y' : Int)) := (hb56.cell (p := ⟨G, 1, none⟩) (cell_lt q1)).trans q1
          have p2 : w6.cell? ⟨w.heap.size, 2, none⟩ = some (.int .i64 M) := by
            rw [HF.out, hs6.2.2.2.2.2.1.cell (p := ⟨F, 2, none⟩) HS1.out (fun e => by
              have h2 := HTC.out
              have h3 := HF.out
              rcases e with e | e | e
              · simp at e; omega
              · simp at e; omega
              · have := (HG.out _ e.symm).2; simp at this; omega)]
            exact B1.out
          have hfl : far'.length = W * H := hs6.2.1.len
          have hQl : Q'.length ≤ 1600 := by have := hs6.2.2.2.2.1; omega
          have HFL : Hid (far'.length = W * H) := hfl
          clear hb6 hb56 hs6 q0 q1 qz' r0 r1 r2 hfl
          go_wp2_with fail
          refine (reach_any B T C W H _ cap far' v' Q' x' y' j (M + K) w6 HS6.out.1 HJ (by rw [HFL.out]; exact hjl) (by rw [HFL.out]; exact HWH.out) hQl).mono ?_
          rintro e w7 ⟨rfl, far2, v2, Q2, ht7, hc7, he7, ho7⟩
          have HS7 : Hid (sst B T C W H (.slice (some a) (W * H) cp) cap v l S M p X Y D w1 (k + 1) far2 v2 Q2 w7) :=
            sst_next HS6.out HI.out.2.2.1 hlt hX hY HX.out HY.out hx' hy' HJ.out (by rw [HZ.out]; exact HZ1.out) ht7 (by rw [HZ.out, HK.out]; exact hc7) he7 ho7
          clear ht7 hc7 he7 ho7 p0 p1 p2
          go_wp2_with fail
          go_roundw
          case rel => exact ⟨k + 1, by go_num, by omega, far2, v2, Q2, HS7⟩
          case measure => simp [intOf]; omega
    · obtain rfl : k = 4 := by omega
      go_wp2_with fail
      go_end0
      obtain ⟨h1, h2, h3, h4, h5, h6, h7⟩ := HS.out
      refine ⟨rfl, far', v', Q', h1, spr_end h2 h3 HI.out.2.2.1 hX h4, h5, (Ex.of_below HB1.out).trans h6 (fun _ _ e => e), fun g hg => ?_⟩
      rcases h7 g hg with e | e
      · exact .inl e
      · exact .inr (by have := HB1.out.size; omega)
end Go.Proofs.Ytnbbfnlfcncgnaa
/- slices.Repeat of one number. -/
namespace Go.Proofs.Ytnbbfnlfcncgnaa
open Go.RowKit
set_option linter.unusedVariables false
set_option maxRecDepth 20000 in
set_option maxHeartbeats 1000000 in
theorem Mul64_one (n : Nat) (w : World) (hn : n ≤ 1000000) : Calls Try.prog 105 #[.int .u64 1, .int .u64 (n : Int)] w fun e w' => e = .returned (.tuple #[.int .u64 0, .int .u64 (n : Int)]) ∧ w' = w := by
  have a1 : bits BinOp.and IntKind.u64 1 4294967295 = 1 := by decide
  have a0 : bits BinOp.and IntKind.u64 0 4294967295 = 0 := by decide
  have an : bits BinOp.and IntKind.u64 (n : Int) 4294967295 = (n : Int) := by
    have h := u64_and_nat n 4294967295 (by omega) (by decide)
    have e : n &&& 4294967295 = n := by
      have := Nat.and_two_pow_sub_one_eq_mod n 32
      simp at this
      rw [this]; exact Nat.mod_eq_of_lt (by omega)
    rw [e] at h
    exact h
  have d0 : (n : Int) / 4294967296 = 0 := by omega
  go_enter Try.func105, Try.ntmps105
  go_wp2_with fail
  go_ret2
  exact ⟨rfl, rfl⟩
set_option maxRecDepth 20000 in
theorem Mul_one (n : Nat) (w : World) (hn : n ≤ 1000000) : Calls Try.prog 98 #[.int .u64 1, .int .u64 (n : Int)] w fun e w' => e = .returned (.tuple #[.int .u64 0, .int .u64 (n : Int)]) ∧ w' = w := by
  go_enter Try.func98, Try.ntmps98
  go_wp2_with fail
  refine (Mul64_one n w hn).mono ?_
  rintro e w' ⟨rfl, hw⟩; subst w'
  go_wp2_with fail
  go_ret2
  exact ⟨rfl, rfl⟩
/-- A row of N numbers, the first m of which are -1. -/
def rp (m N : Nat) : List Value := List.replicate m (vi (-1)) ++ List.replicate (N - m) (vi 0)
theorem rp_len {m N : Nat} (h : m ≤ N) : (rp m N).length = N := by unfold rp; simp; omega
theorem rp_splice {m r N : Nat} (h : m + r ≤ N) : splice (rp m N) m (List.replicate r (vi (-1))) = rp (m + r) N := by
  unfold splice rp
  apply List.ext_getElem
  · simp; omega
  · intro i h1 h2
    simp [List.getElem_append, List.getElem_drop]
    by_cases q1 : i < m
    · rw [if_pos q1, if_pos (by omega)]
    · rw [if_neg q1]
      by_cases q2 : i - m < r
      · rw [if_pos q2, if_pos (by omega)]
      · rw [if_neg q2, if_neg (by omega), if_neg (by omega)]
theorem rp_at {m N : Nat} {w : World} {g : Nat} (hm : m ≤ N) (h : w.heap[g]? = some (.cells (rp m N).toArray 3 (0, 0))) (r : Nat) (hr : r ≤ m) : ∀ j v, (List.replicate r (vi (-1)))[j]? = some v → w.cell? ((⟨g, 0, none⟩ : Addr).add j) = some v := by
  intro j v hj
  rw [List.getElem?_replicate] at hj
  split at hj
  · cases hj
    rw [add_zero_at]
    have hjm : j < m := by omega
    simp [World.cell?, h, rp, List.getElem?_append, hjm]
  · cases hj
theorem own_cells {B g n cap : Nat} {w : World} {t : TypeId} {xs : List Value} (h : w.ownsRow B t 1 (.slice (some ⟨g, 0, none⟩) n n) n xs) : w.heap[g]? = some (.cells xs.toArray t (0, 0)) := by
  rcases h.2 with ⟨h0, _⟩ | ⟨g', cap', cur, hv, _, hg, _, _, hs, ht⟩
  · cases h0
  · simp only [Value.slice.injEq, Option.some.injEq, Addr.mk.injEq, and_true, true_and] at hv
    obtain ⟨rfl, rfl⟩ := hv
    rw [List.take_of_length_le (by simp [hs])] at ht
    rw [hg, ← ht]
theorem mine_rp {g N : Nat} {B : Nat} {w : World} (hB : B ≤ g) (hN : N ≤ 1000000) (h : w.heap[g]? = some (.cells (rp N N).toArray 3 (0, 0))) : mine 3 vi B w (.slice (some ⟨g, 0, none⟩) N N) (List.replicate N (-1)) := by
  have e : rp N N = (List.replicate N (-1)).map vi := by unfold rp; simp
  have hl : (List.replicate N (-1 : Int)).length = N := by simp
  unfold mine
  rw [hl, ← e]
  refine ⟨by rw [rp_len (Nat.le_refl _)]; omega, .inr ⟨g, N, _, rfl, hB, h, Nat.le_refl _, by unfold maxLen; omega, by simp [rp_len], by rw [List.take_of_length_le]; simp [rp_len]⟩⟩
theorem copy_rp {B g m R N : Nat} {w0 w : World} (hB : B ≤ g) (hb : Below B w0 w) (hm : m ≤ N) (hR : R ≤ m) (hRN : m + R ≤ N) (hmin : R = Nat.min m (N - m)) (h : w.heap[g]? = some (.cells (rp m N).toArray 3 (0, 0))) :
    ∃ w4, (Builtin.copy_ #[22, 22] 3 #[.slice (some ⟨g, m, none⟩) (N - m) (N - m), .slice (some ⟨g, 0, none⟩) m N]).run Try.prog w = .ok (.int .i64 (R : Int)) w4 ∧ w4.heap[g]? = some (.cells (rp (m + R) N).toArray 3 (0, 0)) ∧ Below B w0 w4 := by
  have hrun := run_copy_row (P := Try.prog) w 22 22 3 3 g m (N - m) (N - m) ⟨g, 0, none⟩ m N (rp m N).toArray 3 (List.replicate R (vi (-1))) Try.underlying22 (by kernel_rfl) h (by simpa using hmin) (rp_at hm h R hR) (by simp [rp_len hm]; omega) (by intro v hv; rw [List.eq_of_mem_replicate hv]; rfl)
  refine ⟨_, by simpa [goInt] using hrun, ?_, below_setRow hb hB _⟩
  have e := setRow_heap w g _ ((rp m N).take m ++ (List.replicate R (vi (-1)) ++ (rp m N).drop (m + (List.replicate R (vi (-1))).length))).toArray 3 _ h
  rw [← rp_splice hRN]
  simpa [splice] using e
set_option maxRecDepth 20000 in
set_option maxHeartbeats 1000000 in
theorem Repeat_any (ad : Addr) (c N : Nat) (w : World) (hc : w.cell? ad = some (.int .i64 (-1))) (hN : 1 ≤ N) (hN2 : N ≤ 1600) :
    Calls Try.prog 94 #[.slice (some ad) 1 c, .int .i64 (N : Int)] w fun e w' => ∃ g, e = .returned (.slice (some ⟨g, 0, none⟩) N N) ∧ w.heap.size ≤ g ∧ mine 3 vi w.heap.size w' (.slice (some ⟨g, 0, none⟩) N N) (List.replicate N (-1)) ∧ Below w.heap.size w w' := by
  obtain ⟨i0, hi, hz0, hz1, hz2⟩ := info_parts ki.hi
  have d0 : decide ((N : Int) < 0) = false := by simp
  have d1 : decide ((9223372036854775807 : Int) < (N : Int)) = false := by simp; omega
  have HC : Hid (w.cell? ad = some (.int .i64 (-1))) := hc
  clear hc
  go_enter Try.func94, Try.ntmps94
  go_wp2_with fail
  refine (Mul_one N w (by omega)).mono ?_
  rintro e w' ⟨rfl, hw⟩; subst w'
  go_wp2_with (at_make; refine wpList_make_full _ rfl (.tmp 29) (.tmp 29) 22 rfl w.heap.size 3 i0 (.int .i64 0) 1 Try.underlying22 hi hz0 hz1 .i64 .i64 (N : Int) (N : Int) N rfl rfl rfl rfl ?_ ?_ (Nat.le_refl _) ?_)
  · rw [hz2]; omega
  · unfold maxLen; omega
  intro w1 hown hgr
  have hg1 := own_cells (cap := N) hown
  have e1 : (madeCells #[Value.int .i64 0] N).toList = rp 0 N := by
    rw [toList_madeCells_one (.int .i64 0) N]
    simp [rp, vi]
  rw [e1] at hg1
  have hb1 : Below w.heap.size w w1 := (Below.refl _ _).grown hgr (Nat.le_refl _) (by simp)
  have HC1 : Hid (w1.cell? ad = some (.int .i64 (-1))) := (hb1.cell (cell_lt HC.out)).trans HC.out
  have HG1 : Hid (w1.heap[w.heap.size]? = some (.cells (rp 0 N).toArray 3 (0, 0))) := hg1
  have HB1 : Hid (Below w.heap.size w w1) := hb1
  clear hown hgr hg1 e1 hb1
  go_wp2_with (refine wpList_copy_splice rfl (.tmp 31) (.tmp 32) 22 22 rfl 3 Try.underlying22 (by kernel_rfl) (some ⟨w.heap.size, 0, none⟩) (some ad) N N 1 c rfl rfl w.heap.size 0 (rp 0 N) 3 HG1.out (List.replicate 1 (vi (-1))) ?q1 ?q2 ?q3 ?q4 w.heap.size w HB1.out (Nat.le_refl _) ?q5)
  · simp [Nat.min]; omega
  · intro j v hj
    match j, hj with
    | 0, hj =>
      have e : ad.add 0 = ad := by unfold Addr.add; simp
      simp at hj
      rw [e, ← hj]; exact HC1.out
    | (k + 1), hj => simp at hj
  · rw [rp_len (by omega)]; simp; omega
  · intro v hv; rw [List.eq_of_mem_replicate hv]; rfl
  intro w2 hg2 hb2
  have hg2' := hg2.out
  have es : [vi (-1)] = List.replicate 1 (vi (-1)) := rfl
  rw [es, rp_splice (by omega)] at hg2'
  have HG2 : Hid (w2.heap[w.heap.size]? = some (.cells (rp 1 N).toArray 3 (0, 0))) := hg2'
  have HB2 : Hid (Below w.heap.size w w2) := hb2
  clear hg2 hg2' hb2
  go_wp2_with fail
  go_loopw [8] (fun i wr => ∃ (m : Nat), i = .int .i64 m ∧ 1 ≤ m ∧ m ≤ N ∧ Hid (wr.heap[w.heap.size]? = some (.cells (rp m N).toArray 3 (0, 0))) ∧ Hid (Below w.heap.size w wr)) (fun i _ => N - (intOf i).toNat)
  case atStart => exact ⟨1, rfl, by omega, hN, HG2, HB2⟩
  case round =>
    obtain ⟨m, rfl, hm1, hmN, HG, HB⟩ := hrel
    by_cases hlt : m < N
    · have l1 : (m : Int) < N := by omega
      obtain ⟨R, hR⟩ : ∃ R, Nat.min m (N - m) = R := ⟨_, rfl⟩
      have hR2 : R ≤ m ∧ m + R ≤ N ∧ 1 ≤ R := by rw [← hR]; simp [Nat.min_def]; split <;> omega
      have HR : Hid (R = Nat.min m (N - m)) := hR.symm
      clear hR
      obtain ⟨w4, hrun, hg4, hb4⟩ := copy_rp (w := wr.drew) (Nat.le_refl _) HB.out.drew hmN hR2.1 hR2.2.1 HR.out HG.out
      have HG4 : Hid (w4.heap[w.heap.size]? = some (.cells (rp (m + R) N).toArray 3 (0, 0))) := hg4
      have HB4 : Hid (Below w.heap.size w w4) := hb4
      clear hg4 hb4
      go_wp2_with fail
      go_region
      go_wp2_with fail
      go_roundw
      case rel => exact ⟨m + R, by go_num, by omega, by omega, HG4, HB4⟩
      case measure => simp [intOf]; omega
    · obtain rfl : m = N := by omega
      go_wp2_with fail
      go_ret
      exact ⟨_, rfl, Nat.le_refl _, mine_rp (Nat.le_refl _) (by omega) HG.out, HB.out⟩
end Go.Proofs.Ytnbbfnlfcncgnaa
/- What Write returns of a right field. -/
namespace Go.Proofs.Ytnbbfnlfcncgnaa
open Go.RowKit
set_option linter.unusedVariables false

theorem ck_ok {W H : Nat} {l : List Int} (hW : 1 ≤ W ∧ W ≤ 40) (hH : 1 ≤ H ∧ H ≤ 40) (hl : l.length = W * H) (hg : l.any bad = false) : ck W H l = 0 := by
  unfold ck sd
  rw [if_pos ⟨by simp; omega, by simp; omega⟩, if_pos ⟨by rw [hl]; push_cast; rfl, hg⟩]
theorem Check_ok (W H : Nat) (a : Addr) (c : Nat) (l : List Int) (w : World) (hr : row vi w (some a) l) (hW : 1 ≤ W ∧ W ≤ 40) (hH : 1 ≤ H ∧ H ≤ 40) (hl : l.length = W * H) (hg : l.any bad = false) :
    Calls Try.prog 50 #[.agg #[.int .i64 (W : Int), .int .i64 (H : Int), .slice (some a) (W * H) c]] w fun e w' => e = .returned (.int .i64 0) ∧ Below w.heap.size w w' := by
  have hWH : W * H ≤ 1600 := by have := Nat.mul_le_mul hW.2 hH.2; omega
  have := Check_any W H (some a) (W * H) c l w hr hl (by omega)
  rw [ck_ok hW hH hl hg] at this
  exact this

end Go.Proofs.Ytnbbfnlfcncgnaa
/- What flood.check returns. -/
namespace Go.Proofs.Ytnbbfnlfcncgnaa
open Go.RowKit
set_option linter.unusedVariables false

/-- Which error the cells are of. -/
def cke (W H : Nat) (l : List Int) : List Cel → Int
  | [] => 0
  | c :: cs => if inb W H c.x c.y = false then 7 else if pa l (c.y.toNat * W + c.x.toNat) = 1 then 9 else cke W H l cs
theorem cke_out {W H : Nat} {l : List Int} {cs : List Cel} {k : Nat} (hk : k < cs.length) (h : inb W H cs[k].x cs[k].y = false) : cke W H l (cs.drop k) = 7 := by
  rw [List.drop_eq_getElem_cons hk]; unfold cke; rw [if_pos h]
theorem cke_rock {W H : Nat} {l : List Int} {cs : List Cel} {k : Nat} (hk : k < cs.length) (h : inb W H cs[k].x cs[k].y = true) (hr : pa l (cs[k].y.toNat * W + cs[k].x.toNat) = 1) : cke W H l (cs.drop k) = 9 := by
  rw [List.drop_eq_getElem_cons hk]; unfold cke; rw [if_neg (by rw [h]; decide), if_pos hr]
theorem cke_next {W H : Nat} {l : List Int} {cs : List Cel} {k : Nat} (hk : k < cs.length) (h : inb W H cs[k].x cs[k].y = true) (hr : pa l (cs[k].y.toNat * W + cs[k].x.toNat) ≠ 1) : cke W H l (cs.drop k) = cke W H l (cs.drop (k + 1)) := by
  rw [List.drop_eq_getElem_cons hk]
  show (if inb W H cs[k].x cs[k].y = false then 7 else if pa l (cs[k].y.toNat * W + cs[k].x.toNat) = 1 then 9 else cke W H l (cs.drop (k + 1))) = _
  rw [if_neg (by rw [h]; decide), if_neg hr]
set_option maxRecDepth 20000 in
set_option maxHeartbeats 1000000 in
theorem check_no (W H : Int) (p q : Option Addr) (n c m d : Nat) (l : List Int) (E : Int) (w : World) (hr : row vi w p l) (hn : l.length = n) (hm : n ≤ 9223372036854775807) (hE : Hid (ck W H l = E)) (h0 : E ≠ 0) :
    Calls Try.prog 93 #[.agg #[.int .i64 W, .int .i64 H, .slice p n c], .slice q m d] w fun e w' => e = .returned (.int .i64 E) ∧ Below w.heap.size w w' := by
  have HR : Hid (row vi w p l) := hr
  have HN : Hid (l.length = n) := hn
  clear hr hn
  have e0 : (E == 0) = false := by simp [h0]
  go_enter Try.func93, Try.ntmps93
  go_wp2_with fail
  refine (Check_at W H p n c l E _ (row_below HR.out (alloc_below _ _)) HN.out hm hE).mono ?_
  rintro e w1 ⟨rfl, hb⟩
  have HB : Hid (Below w.heap.size w w1) := below_step (alloc_below w _) (by simp) hb
  clear hb
  go_wp2_with fail
  go_ret
  exact ⟨rfl, HB.out⟩
set_option maxRecDepth 20000 in
set_option maxHeartbeats 1000000 in
theorem check_many (W H : Int) (p q : Option Addr) (n c m d : Nat) (l : List Int) (w : World) (hr : row vi w p l) (hn : l.length = n) (hm : n ≤ 9223372036854775807) (hE : Hid (ck W H l = 0)) (h0 : 100 < m) :
    Calls Try.prog 93 #[.agg #[.int .i64 W, .int .i64 H, .slice p n c], .slice q m d] w fun e w' => e = .returned (.int .i64 2) ∧ Below w.heap.size w w' := by
  have HR : Hid (row vi w p l) := hr
  have HN : Hid (l.length = n) := hn
  clear hr hn
  have h1 : (100 : Int) < m := by omega
  go_enter Try.func93, Try.ntmps93
  go_wp2_with fail
  refine (Check_at W H p n c l 0 _ (row_below HR.out (alloc_below _ _)) HN.out hm hE).mono ?_
  rintro e w1 ⟨rfl, hb⟩
  have HB : Hid (Below w.heap.size w w1) := below_step (alloc_below w _) (by simp) hb
  clear hb
  go_wp2_with fail
  go_ret
  exact ⟨rfl, HB.out⟩
set_option maxRecDepth 20000 in
set_option maxHeartbeats 2000000 in
theorem check_cells (W H : Nat) (a : Addr) (q : Option Addr) (c m d : Nat) (l : List Int) (cs : List Cel) (E : Int) (w : World) (hr : row vi w (some a) l) (hW : 1 ≤ W ∧ W ≤ 40) (hH : 1 ≤ H ∧ H ≤ 40) (hl : l.length = W * H) (hg : l.any bad = false)
    (hc : crow w q cs) (hm : cs.length = m) (h100 : m ≤ 100) (hE : Hid (cke W H l cs = E)) :
    Calls Try.prog 93 #[.agg #[.int .i64 (W : Int), .int .i64 (H : Int), .slice (some a) (W * H) c], .slice q m d] w fun e w' => e = .returned (.int .i64 E) ∧ Below w.heap.size w w' := by
  have HR : Hid (row vi w (some a) l) := hr
  have HC : Hid (crow w q cs) := hc
  have HM : Hid (cs.length = m) := hm
  have HX : Hid ((1 ≤ W ∧ W ≤ 40) ∧ (1 ≤ H ∧ H ≤ 40) ∧ l.length = W * H ∧ l.any bad = false) := ⟨hW, hH, hl, hg⟩
  clear hr hW hH hl hg hc hm
  have h1 : (m : Int) ≤ 100 := by omega
  obtain ⟨w0, hw0⟩ : ∃ w0, w.alloc (.cells #[.int .i64 (W : Int), .int .i64 (H : Int), .slice (some a) (W * H) c] 24) = w0 := ⟨_, rfl⟩
  have hB0 : Below w.heap.size w w0 := by rw [← hw0]; exact alloc_below _ _
  have hb0 : ∀ V, Below w0.heap.size w0 V → V.cell? ⟨w.heap.size, 0, none⟩ = some (.int .i64 (W : Int)) ∧ V.cell? ⟨w.heap.size, 1, none⟩ = some (.int .i64 (H : Int)) ∧ V.cell? ⟨w.heap.size, 2, none⟩ = some (.slice (some a) (W * H) c) := by
    intro V hV; subst hw0; exact box3 hV
  have HB0 : Hid (Below w.heap.size w w0) := hB0
  have HF : Hid (∀ V, Below w0.heap.size w0 V → V.cell? ⟨w.heap.size, 0, none⟩ = some (.int .i64 (W : Int)) ∧ V.cell? ⟨w.heap.size, 1, none⟩ = some (.int .i64 (H : Int)) ∧ V.cell? ⟨w.heap.size, 2, none⟩ = some (.slice (some a) (W * H) c)) := hb0
  obtain ⟨z0, z1, z2⟩ := hb0 w0 (Below.refl _ _)
  clear hB0 hb0
  go_enter Try.func93, Try.ntmps93
  go_wp2_with fail
  refine (Check_ok W H a c l _ (row_below HR.out HB0.out) HX.out.1 HX.out.2.1 HX.out.2.2.1 HX.out.2.2.2).mono ?_
  rintro e w1 ⟨rfl, hb1⟩
  have HB1 : Hid (Below w0.heap.size w0 w1) := hb1
  clear hb1 hw0 z0 z1 z2
  go_wp2_with fail
  go_loopw [22] (fun i wr => ∃ (k : Nat), i = .int .i64 k ∧ k ≤ m ∧ Hid (Below w0.heap.size w0 wr) ∧ Hid (cke W H l (cs.drop k) = E)) (fun i _ => m - (intOf i).toNat)
  case atStart => exact ⟨0, rfl, by omega, HB1, hE⟩
  case round =>
    obtain ⟨k, rfl, hk, HB, HE⟩ := hrel
    by_cases hlt : k < m
    · have hBw : Below w.heap.size w wr := HB0.out.trans (HB.out.mono HB0.out.size)
      have hkl : k < cs.length := by rw [HM.out]; exact hlt
      obtain ⟨b, rfl, hx, hy⟩ := crow_at (crow_below HC.out hBw) hkl
      obtain ⟨x, ex⟩ : ∃ x, cs[k].x = x := ⟨_, rfl⟩
      obtain ⟨y, ey⟩ : ∃ y, cs[k].y = y := ⟨_, rfl⟩
      rw [ex] at hx
      rw [ey] at hy
      have hy2 : wr.cell? ⟨(b.add (k * 2)).block, (b.add (k * 2)).off + 1, none⟩ = some (.int .i64 y) := cell_two hy
      have HEX : Hid (cs[k].x = x) := ex
      have HEY : Hid (cs[k].y = y) := ey
      have l1 : (k : Int) < m := by omega
      obtain ⟨w4, hw4⟩ : ∃ w4, wr.alloc (.cells #[.int .i64 x, .int .i64 y] 31) = w4 := ⟨_, rfl⟩
      obtain ⟨G, hG⟩ : ∃ G, wr.heap.size = G := ⟨_, rfl⟩
      have hB4 : Below wr.heap.size wr w4 := by rw [← hw4]; exact alloc_below _ _
      have hB04 : Below w0.heap.size w0 w4 := HB.out.trans (hB4.mono HB.out.size)
      have g0 : w4.cell? ⟨G, 0, none⟩ = some (.int .i64 x) ∧ w4.cell? ⟨G, 1, none⟩ = some (.int .i64 y) := by rw [← hw4, ← hG]; constructor <;> simp [go_sem]
      obtain ⟨g0, g1⟩ := g0
      obtain ⟨f0, f1, f2⟩ := HF.out w4 hB04
      have HB4 : Hid (Below w0.heap.size w0 w4) := hB04
      have hr4 : row vi w4 (some a) l := row_below HR.out (HB0.out.trans (hB04.mono HB0.out.size))
      have HR4 : Hid (row vi w4 (some a) l) := hr4
      clear hB04 hB4 hr4 ex ey
      cases hin : inb W H x y with
      | false =>
        have HIN : Hid (inb W H x y = false) := hin
        have HO : Hid (x < 0 ∨ (W : Int) ≤ x ∨ y < 0 ∨ (H : Int) ≤ y) := by
          unfold inb at hin; unfold Hid; simp at hin; omega
        have HZ : Hid (E = 7) := by unfold Hid; rw [← HE.out]; exact cke_out hkl (by rw [HEX.out, HEY.out]; exact HIN.out)
        clear hin
        go_wp2_with fail
        refine (At_out (W : Int) (H : Int) (some a) (W * H) c l x y _ HR4.out HX.out.2.2.1 (by have := Nat.mul_le_mul HX.out.1.2 HX.out.2.1.2; omega) (ck_ok HX.out.1 HX.out.2.1 HX.out.2.2.1 HX.out.2.2.2) HO.out).mono ?_
        rintro e w5 ⟨rfl, hb5⟩
        have HB5 : Hid (Below w.heap.size w w5) := HB0.out.trans ((HB4.out.trans (hb5.mono HB4.out.size)).mono HB0.out.size)
        clear hb5
        go_wp2_with fail
        go_ret
        exact ⟨by rw [HZ.out]; rfl, HB5.out⟩
      | true =>
        obtain ⟨x', y', rfl, rfl, hx', hy'⟩ := pinb_nat hin
        have HIN : Hid (inb W H x' y' = true) := hin
        clear hin
        obtain ⟨Z, hZ⟩ : ∃ Z, l.getD (y' * W + x') 0 = Z := ⟨_, rfl⟩
        have HZ : Hid (l.getD (y' * W + x') 0 = Z) := hZ
        have hbd := psort_bd HX.out.2.2.2 (j := y' * W + x') (by rw [HX.out.2.2.1]; exact pl_lt hx' hy')
        have HBD : Hid (0 ≤ Z ∧ Z ≤ 3) := by unfold pa at hbd; rw [hZ] at hbd; exact hbd
        clear hbd hZ
        by_cases hr1 : Z = 1
        · have HC2 : Hid (co Z = 0) := by subst hr1; unfold Hid; decide
          have HE2 : Hid (ce Z = 9) := by subst hr1; unfold Hid; decide
          have HZ9 : Hid (E = 9) := by
            unfold Hid; rw [← HE.out]
            refine cke_rock hkl (by rw [HEX.out, HEY.out]; exact HIN.out) ?_
            rw [HEX.out, HEY.out]
            show l.getD ((y' : Int).toNat * W + (x' : Int).toNat) 0 = 1
            simp only [Int.toNat_natCast]
            rw [HZ.out]; exact hr1
          clear hr1
          go_wp2_with fail
          refine (At_in W H a c l x' y' Z _ HR4.out HX.out.1 HX.out.2.1 HX.out.2.2.1 HX.out.2.2.2 hx' hy' HZ).mono ?_
          rintro e w5 ⟨rfl, hb5⟩
          have HB5 : Hid (Below w.heap.size w w5) := HB0.out.trans ((HB4.out.trans (hb5.mono HB4.out.size)).mono HB0.out.size)
          clear hb5
          go_wp2_with fail
          refine (Cost_at Z 0 9 _ HC2 HE2).mono ?_
          rintro e w' ⟨rfl, hw⟩; subst w'
          go_wp2_with fail
          go_ret
          exact ⟨by rw [HZ9.out]; rfl, HB5.out⟩
        · obtain ⟨K, hK⟩ : ∃ K, co Z = K := ⟨_, rfl⟩
          have HC2 : Hid (co Z = K) := hK
          have HE2 : Hid (ce Z = 0) := (co_kc HBD.out.1 HBD.out.2 hr1).2
          have HEn : Hid (cke W H l (cs.drop (k + 1)) = E) := by
            unfold Hid
            rw [← HE.out]
            refine (cke_next hkl (by rw [HEX.out, HEY.out]; exact HIN.out) ?_).symm
            rw [HEX.out, HEY.out]
            show l.getD ((y' : Int).toNat * W + (x' : Int).toNat) 0 ≠ 1
            simp only [Int.toNat_natCast]
            rw [HZ.out]; exact hr1
          clear hr1 hK
          go_wp2_with fail
          refine (At_in W H a c l x' y' Z _ HR4.out HX.out.1 HX.out.2.1 HX.out.2.2.1 HX.out.2.2.2 hx' hy' HZ).mono ?_
          rintro e w5 ⟨rfl, hb5⟩
          have HB5 : Hid (Below w0.heap.size w0 w5) := HB4.out.trans (hb5.mono HB4.out.size)
          clear hb5
          go_wp2_with fail
          refine (Cost_at Z K 0 _ HC2 HE2).mono ?_
          rintro e w' ⟨rfl, hw⟩; subst w'
          go_wp2_with fail
          go_roundw
          case rel => exact ⟨k + 1, by go_num, by omega, HB5, HEn⟩
          case measure => simp [intOf]; omega
    · have HZ : Hid (E = 0) := by
        unfold Hid; rw [← HE.out, List.drop_of_length_le (by rw [HM.out]; omega)]; rfl
      go_wp2_with fail
      go_ret
      exact ⟨by rw [HZ.out]; rfl, HB0.out.trans (HB.out.mono HB0.out.size)⟩
end Go.Proofs.Ytnbbfnlfcncgnaa
/- Ways on lists: the cell ahead of one, and the row of cells from a place back to the first one. No word of the program. -/
namespace Go.Proofs.Ytnbbfnlfcncgnaa
set_option linter.unusedVariables false

/-- Where a cell lies. -/
def ixc (W : Nat) (c : Cel) : Nat := c.y.toNat * W + c.x.toNat
theorem ixc_nat (W x y : Nat) : ixc W ⟨x, y⟩ = y * W + x := by simp [ixc]
/-- The k-th beside a cell. -/
def bc (c : Cel) (k : Nat) : Cel := ⟨bX c.x k, bY c.y k⟩
/-- c is a cell of the field. -/
def inf (W H : Nat) (c : Cel) : Prop := ∃ x y : Nat, c = ⟨x, y⟩ ∧ x < W ∧ y < H
theorem inf_inb {W H : Nat} {c : Cel} : inb W H c.x c.y = true ↔ inf W H c := by
  constructor
  · intro h
    obtain ⟨x, y, h1, h2, h3, h4⟩ := pinb_nat h
    obtain ⟨a, b⟩ := c
    exact ⟨x, y, by simp at h1 h2; rw [h1, h2], h3, h4⟩
  · rintro ⟨x, y, rfl, h3, h4⟩
    unfold inb; simp; omega
theorem inf_lt {W H : Nat} {c : Cel} (h : inf W H c) : ixc W c < W * H := by
  obtain ⟨x, y, rfl, h3, h4⟩ := h
  rw [ixc_nat]; exact pl_lt h3 h4
theorem ixc_inj {W H : Nat} {c d : Cel} (h : inf W H c) (h' : inf W H d) (e : ixc W c = ixc W d) : c = d := by
  obtain ⟨x, y, rfl, h3, h4⟩ := h
  obtain ⟨x', y', rfl, h3', h4'⟩ := h'
  rw [ixc_nat, ixc_nat] at e
  obtain ⟨rfl, rfl⟩ := pl_inj h3 h3' e
  rfl
/-- Whether the k-th cell beside c is one from which c is come to so cheaply. -/
def phit (W H : Nat) (l far : List Int) (c : Cel) (k : Nat) : Bool := inb W H (bc c k).x (bc c k).y && decide (pa far (ixc W (bc c k)) = pa far (ixc W c) - kc (pa l (ixc W c)))
/-- d stands ahead of c. -/
def ahd (W H : Nat) (l far : List Int) (c d : Cel) : Prop := ∃ k, k < 4 ∧ (∀ j, j < k → phit W H l far c j = false) ∧ phit W H l far c k = true ∧ d = bc c k
/-- None stands ahead of c. -/
def nah (W H : Nat) (l far : List Int) (c : Cel) : Prop := ∀ k, k < 4 → phit W H l far c k = false
section
variable {W H : Nat} {l far : List Int} {c d : Cel} {S : Nat → Prop} {p : Nat}
theorem ahd_one {d' : Cel} (h : ahd W H l far c d) (h' : ahd W H l far c d') : d = d' := by
  obtain ⟨k, h1, h2, h3, rfl⟩ := h
  obtain ⟨k', h1', h2', h3', rfl⟩ := h'
  rcases Nat.lt_trichotomy k k' with e | e | e
  · rw [h2' k e] at h3; cases h3
  · rw [e]
  · rw [h2 k' e] at h3'; cases h3'
theorem ahd_nah (h : ahd W H l far c d) (h' : nah W H l far c) : False := by
  obtain ⟨k, h1, h2, h3, rfl⟩ := h
  rw [h' k h1] at h3; cases h3
theorem hit_adj {k : Nat} (hc : inf W H c) (hk : k < 4) (h : phit W H l far c k = true) : inf W H (bc c k) ∧ adj W H (ixc W (bc c k)) (ixc W c) ∧ pa far (ixc W (bc c k)) = pa far (ixc W c) - kc (pa l (ixc W c)) := by
  unfold phit at h
  rw [Bool.and_eq_true, decide_eq_true_eq] at h
  have hi := inf_inb.1 h.1
  refine ⟨hi, ?_, h.2⟩
  obtain ⟨X, Y, rfl, hX, hY⟩ := hc
  obtain ⟨x, y, e, hx, hy⟩ := hi
  have e' := e
  unfold bc at e'
  simp only [Cel.mk.injEq] at e'
  rw [e, ixc_nat, ixc_nat]
  exact adj_symm (adj_bes hk hX hY e'.1 e'.2 hx hy)
theorem adj_hit {n : Nat} (hc : inf W H c) (ha : adj W H n (ixc W c)) (h : pa far n = pa far (ixc W c) - kc (pa l (ixc W c))) : ∃ k, k < 4 ∧ phit W H l far c k = true := by
  obtain ⟨X, Y, rfl, hX, hY⟩ := hc
  rw [ixc_nat] at ha
  obtain ⟨k, x, y, hk, ex, ey, hx, hy, rfl⟩ := bes_adj hX (adj_symm ha)
  refine ⟨k, hk, ?_⟩
  have e : bc ⟨X, Y⟩ k = ⟨x, y⟩ := by unfold bc; rw [ex, ey]
  unfold phit
  rw [e, Bool.and_eq_true, decide_eq_true_eq, ixc_nat W x y]
  exact ⟨inf_inb.2 ⟨x, y, rfl, hx, hy⟩, h⟩
theorem least_four (f : Nat → Bool) (h : ∃ k, k < 4 ∧ f k = true) : ∃ k, k < 4 ∧ (∀ j, j < k → f j = false) ∧ f k = true := by
  by_cases h0 : f 0 = true
  · exact ⟨0, by omega, fun j hj => by omega, h0⟩
  by_cases h1 : f 1 = true
  · refine ⟨1, by omega, fun j hj => ?_, h1⟩
    obtain rfl : j = 0 := by omega
    simpa using h0
  by_cases h2 : f 2 = true
  · refine ⟨2, by omega, fun j hj => ?_, h2⟩
    have : j = 0 ∨ j = 1 := by omega
    rcases this with rfl | rfl
    · simpa using h0
    · simpa using h1
  · obtain ⟨k, hk, hf⟩ := h
    refine ⟨3, by omega, fun j hj => ?_, ?_⟩
    · have : j = 0 ∨ j = 1 ∨ j = 2 := by omega
      rcases this with rfl | rfl | rfl
      · simpa using h0
      · simpa using h1
      · simpa using h2
    · have : k = 0 ∨ k = 1 ∨ k = 2 ∨ k = 3 := by omega
      rcases this with rfl | rfl | rfl | rfl
      · exact absurd hf h0
      · exact absurd hf h1
      · exact absurd hf h2
      · exact hf
theorem sol_nah (hs : Sol W H l S far) (hc : inf W H c) (h0 : pa far (ixc W c) = 0) : nah W H l far c := by
  intro k hk
  cases hh : phit W H l far c k with
  | false => rfl
  | true =>
    obtain ⟨h1, h2, h3⟩ := hit_adj hc hk hh
    have := kc_bd (pa l (ixc W c))
    rcases hs.low _ (inf_lt h1) with e | e <;> omega
theorem sol_ahd (hs : Sol W H l S far) (hc : inf W H c) (h0 : 0 < pa far (ixc W c)) : ∃ d, ahd W H l far c d := by
  obtain ⟨n, h1, h2, h3⟩ := hs.just _ (inf_lt hc) h0
  obtain ⟨k, k1, k2, k3⟩ := least_four _ (adj_hit (l := l) (far := far) hc h1 (by omega))
  exact ⟨_, k, k1, k2, k3, rfl⟩
theorem ahd_far (hs : Sol W H l S far) (hc : inf W H c) (h0 : 0 < pa far (ixc W c)) (h : ahd W H l far c d) : inf W H d ∧ adj W H (ixc W d) (ixc W c) ∧ 0 ≤ pa far (ixc W d) ∧ pa far (ixc W c) = pa far (ixc W d) + kc (pa l (ixc W c)) := by
  obtain ⟨k, k1, k2, k3, rfl⟩ := h
  obtain ⟨h1, h2, h3⟩ := hit_adj hc k1 k3
  obtain ⟨n, n1, n2, n3⟩ := hs.just _ (inf_lt hc) h0
  exact ⟨h1, h2, by omega, by omega⟩

/-- The row of cells from c back to a first one. -/
inductive Trl (W H : Nat) (l far : List Int) : Cel → List Cel → Prop
  | one {c : Cel} : inf W H c → pa far (ixc W c) = 0 → Trl W H l far c [c]
  | more {c d : Cel} {R : List Cel} : inf W H c → 0 < pa far (ixc W c) → ahd W H l far c d → Trl W H l far d R → Trl W H l far c (c :: R)
theorem trl_ex (hs : Sol W H l S far) : ∀ (n : Nat) (c : Cel), inf W H c → pa far (ixc W c) = n → ∃ R, Trl W H l far c R ∧ 2 * R.length ≤ n + 2 := by
  intro n
  induction n using Nat.strongRecOn with
  | ind n ih =>
    intro c hc he
    rcases Nat.eq_zero_or_pos n with h0 | h0
    · exact ⟨[c], .one hc (by omega), by simp⟩
    · obtain ⟨d, hd⟩ := sol_ahd hs hc (by omega)
      obtain ⟨d1, d2, d3, d4⟩ := ahd_far hs hc (by omega) hd
      have hk := kc_bd (pa l (ixc W c))
      obtain ⟨R, r1, r2⟩ := ih (pa far (ixc W d)).toNat (by omega) d d1 (by omega)
      exact ⟨c :: R, .more hc (by omega) hd r1, by simp; omega⟩
theorem trl_one {R R' : List Cel} (h : Trl W H l far c R) (h' : Trl W H l far c R') : R = R' := by
  induction h generalizing R' with
  | one h1 h2 => cases h' with
    | one => rfl
    | more h3 h4 => omega
  | more h1 h2 h3 h4 ih => cases h' with
    | one h5 h6 => omega
    | more h5 h6 h7 h8 =>
      obtain rfl := ahd_one h3 h7
      rw [ih h8]
theorem trl_inf {R : List Cel} (h : Trl W H l far c R) : inf W H c := by cases h <;> assumption
theorem trl_low {R : List Cel} (h : Trl W H l far c R) : 0 ≤ pa far (ixc W c) := by cases h <;> omega
theorem trl_head {R : List Cel} (h : Trl W H l far c R) : R[0]? = some c := by cases h <;> rfl
theorem trl_pos {R : List Cel} (h : Trl W H l far c R) : 0 < R.length := by cases h <;> simp
theorem trl_drop {R : List Cel} (h : Trl W H l far c R) : ∀ k, (hk : k < R.length) → Trl W H l far R[k] (R.drop k) := by
  induction h with
  | one h1 h2 =>
    intro k hk
    obtain rfl : k = 0 := by simpa using hk
    exact .one h1 h2
  | more h1 h2 h3 h4 ih =>
    intro k hk
    cases k with
    | zero => exact .more h1 h2 h3 h4
    | succ k => exact ih k (by simpa using hk)
theorem trl_last {R : List Cel} (h : Trl W H l far c R) {k : Nat} (hk : k + 1 = R.length) : pa far (ixc W R[k]) = 0 := by
  have h1 := trl_drop h k (by omega)
  generalize e1 : R[k] = x at h1 ⊢
  generalize e2 : R.drop k = T at h1
  have hl : T.length = 1 := by rw [← e2]; simp; omega
  cases h1 with
  | one => assumption
  | more h2 h3 h4 h5 =>
    have := trl_pos h5
    rw [List.length_cons] at hl
    omega
theorem trl_next {R : List Cel} (h : Trl W H l far c R) {k : Nat} (hk : k + 1 < R.length) : 0 < pa far (ixc W R[k]) ∧ ahd W H l far R[k] R[k + 1] := by
  have h1 := trl_drop h k (by omega)
  have h6 : (R.drop k)[1]? = some R[k + 1] := by rw [List.getElem?_drop, List.getElem?_eq_getElem hk]
  generalize e1 : R[k] = x at h1 ⊢
  generalize e2 : R.drop k = T at h1 h6
  cases h1 with
  | one => simp at h6
  | more h2 h3 h4 h5 =>
    refine ⟨h3, ?_⟩
    have h7 := trl_head h5
    rw [List.getElem?_cons_succ] at h6
    rw [h6] at h7
    rw [Option.some.inj h7]; exact h4
theorem trl_at {R : List Cel} (h : Trl W H l far c R) {k : Nat} (hk : k < R.length) : inf W H R[k] ∧ 0 ≤ pa far (ixc W R[k]) := ⟨trl_inf (trl_drop h k hk), trl_low (trl_drop h k hk)⟩
theorem trl_step (hs : Sol W H l S far) {R : List Cel} (h : Trl W H l far c R) {k : Nat} (hk : k + 1 < R.length) : adj W H (ixc W R[k + 1]) (ixc W R[k]) ∧ pa far (ixc W R[k]) = pa far (ixc W R[k + 1]) + kc (pa l (ixc W R[k])) := by
  obtain ⟨h1, h2⟩ := trl_next h hk
  obtain ⟨d1, d2, d3, d4⟩ := ahd_far hs (trl_at h (by omega)).1 h1 h2
  exact ⟨d2, d4⟩
theorem trl_less (hs : Sol W H l S far) {R : List Cel} (h : Trl W H l far c R) : ∀ (m k : Nat) (hk : k + m + 1 < R.length), pa far (ixc W R[k + m + 1]) < pa far (ixc W R[k]) := by
  intro m
  induction m with
  | zero =>
    intro k hk
    have := (trl_step hs h hk).2
    have := kc_bd (pa l (ixc W R[k]))
    simp only [Nat.add_zero]; omega
  | succ m ih =>
    intro k hk
    have h1 := ih k (by omega)
    have h2 := (trl_step hs h (k := k + m + 1) (by omega)).2
    have := kc_bd (pa l (ixc W (R[k + m + 1]'(by omega))))
    show pa far (ixc W R[k + m + 1 + 1]) < _
    omega
theorem trl_ne (hs : Sol W H l S far) {R : List Cel} (h : Trl W H l far c R) {i j : Nat} (hi : i < j) (hj : j < R.length) : R[i]'(by omega) ≠ R[j] := by
  intro e
  have := trl_less hs h (j - i - 1) i (by omega)
  have e2 : i + (j - i - 1) + 1 = j := by omega
  simp only [e2] at this
  rw [e] at this
  omega
theorem trl_end (hs : Sol W H l S far) (hS : ∀ i, i < W * H → (S i ↔ i = p)) {R : List Cel} (h : Trl W H l far c R) {k : Nat} (hk : k + 1 = R.length) : ixc W R[k] = p := by
  have h1 := trl_at h (k := k) (by omega)
  exact (hS _ (inf_lt h1.1)).1 ((hs.zero _ (inf_lt h1.1)).1 (trl_last h hk))
end
theorem nodup_le : ∀ (n : Nat) (L : List Nat), (∀ x ∈ L, x < n) → L.Nodup → L.length ≤ n := by
  intro n
  induction n with
  | zero =>
    intro L h _
    cases L with
    | nil => simp
    | cons x L => exact absurd (h x (by simp)) (by omega)
  | succ n ih =>
    intro L h hn
    have h1 := ih (L.erase n) (fun x hx => by
      have := h x (List.mem_of_mem_erase hx)
      have : x ≠ n := fun e => by subst e; exact (List.Nodup.not_mem_erase hn) hx
      omega) (hn.erase n)
    rw [List.length_erase] at h1
    split at h1 <;> omega
end Go.Proofs.Ytnbbfnlfcncgnaa
