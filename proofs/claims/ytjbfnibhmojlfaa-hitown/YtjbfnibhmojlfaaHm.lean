/- The mathematics of blows: which counts, which is a troop's first, how much harm each takes; who is left, who is gone. -/
import Derived.Test.YtjbfnibhmojlfaaWm
import Derived.Test.YtjbfnibhmojlfaaSm
namespace Go.Proofs.Ytjbfnibhmojlfaa
set_option linter.unusedVariables false

/-- How far a kind reaches, how hard it hits. -/
def rch (k : Int) : Int := if k = 2 then 2 else 1
def hrk (k : Int) : Int := if k = 2 then 4 else 1
theorem hrk_bd (k : Int) : 1 ≤ hrk k ∧ hrk k ≤ 4 := by unfold hrk; split <;> omega
/-- Can the one hit the other? -/
def hit (W : Nat) (l : List Int) (s t : Trp) : Bool := !(s.o == t.o) && (decide (kg s.x s.y t.x t.y ≤ rch s.k) && se W l s.x s.y t.x t.y)
/-- The troop of a number. -/
def trf (ts : List Trp) (i : Int) : Option Trp := ts.find? fun t => t.i == i
/-- Does a blow count, by itself? (x: By, y: At) -/
def cnt (W : Nat) (l : List Int) (ts : List Trp) (b : Cel) : Bool :=
  match trf ts b.x with
  | none => false
  | some s => match trf ts b.y with
    | none => false
    | some t => hit W l s t
section
variable {cn : Cel → Bool}
/-- The first blow of a troop that counts. -/
def fsb (cn : Cel → Bool) (i : Int) (bl : List Cel) : Option Cel := bl.find? fun b => b.x == i && cn b
def oneh (cn : Cel → Bool) (bl : List Cel) (id : Int) (t : Trp) : Int :=
  match fsb cn t.i bl with
  | none => 0
  | some b => if b.y = id then hrk t.k else 0
def sumh (f : Trp → Int) : List Trp → Int
  | [] => 0
  | t :: ts => f t + sumh f ts
/-- How much harm the troop of a number takes. -/
def hm (cn : Cel → Bool) (ts : List Trp) (bl : List Cel) (id : Int) : Int := sumh (oneh cn bl id) ts
theorem sumh_app (f : Trp → Int) (a b : List Trp) : sumh f (a ++ b) = sumh f a + sumh f b := by
  induction a with
  | nil => simp [sumh]
  | cons t a ih => simp [sumh, ih]; omega
theorem sumh_take (f : Trp → Int) {ts : List Trp} {k : Nat} (hk : k < ts.length) : sumh f (ts.take (k + 1)) = sumh f (ts.take k) + f ts[k] := by
  rw [List.take_succ_eq_append_getElem hk, sumh_app]; simp [sumh]
theorem sumh_congr {f g : Trp → Int} {ts : List Trp} (h : ∀ t ∈ ts, f t = g t) : sumh f ts = sumh g ts := by
  induction ts with
  | nil => rfl
  | cons t ts ih => simp only [sumh]; rw [h t (by simp), ih fun u hu => h u (by simp [hu])]
theorem sumh_le {f g : Trp → Int} {ts : List Trp} (h : ∀ t ∈ ts, f t ≤ g t) : sumh f ts ≤ sumh g ts := by
  induction ts with
  | nil => exact Int.le_refl _
  | cons t ts ih =>
    have h1 := h t (by simp)
    have h2 := ih fun u hu => h u (by simp [hu])
    simp only [sumh]; omega
theorem sumh_bd {f : Trp → Int} {ts : List Trp} (h : ∀ t ∈ ts, 0 ≤ f t ∧ f t ≤ 4) : 0 ≤ sumh f ts ∧ sumh f ts ≤ 4 * (ts.length : Int) := by
  induction ts with
  | nil => simp [sumh]
  | cons t ts ih =>
    have h1 := h t (by simp)
    have h2 := ih fun u hu => h u (by simp [hu])
    simp only [sumh, List.length_cons]; omega
theorem oneh_bd (bl : List Cel) (id : Int) (t : Trp) : 0 ≤ oneh cn bl id t ∧ oneh cn bl id t ≤ 4 := by
  unfold oneh
  have := hrk_bd t.k
  cases fsb cn t.i bl with
  | none => simp
  | some b => simp only; split <;> omega
theorem hm_bd (ts : List Trp) (bl : List Cel) (id : Int) : 0 ≤ hm cn ts bl id ∧ hm cn ts bl id ≤ 4 * (ts.length : Int) := sumh_bd fun t _ => oneh_bd bl id t
theorem fsb_nil (i : Int) : fsb cn i [] = none := rfl
theorem hm_nil (ts : List Trp) (id : Int) : hm cn ts [] id = 0 := by
  unfold hm
  induction ts with
  | nil => rfl
  | cons t ts ih => simp only [sumh, ih]; rfl
theorem fsb_snoc (i : Int) (bl : List Cel) (b : Cel) : fsb cn i (bl ++ [b]) = (fsb cn i bl).or (if (b.x == i && cn b) = true then some b else none) := by
  unfold fsb
  rw [List.find?_append]
  congr 1
  by_cases h : (b.x == i && cn b) = true
  · rw [if_pos h]; simp only [List.find?, h]
  · rw [if_neg h]; simp only [List.find?, Bool.eq_false_iff.2 h]
theorem fsb_snoc_no {i : Int} {bl : List Cel} {b : Cel} (h : (b.x == i && cn b) = false) : fsb cn i (bl ++ [b]) = fsb cn i bl := by
  rw [fsb_snoc, h]; simp
theorem fsb_snoc_had {i : Int} {bl : List Cel} {b x : Cel} (h : fsb cn i bl = some x) : fsb cn i (bl ++ [b]) = some x := by rw [fsb_snoc, h]; rfl
theorem fsb_snoc_new {i : Int} {bl : List Cel} {b : Cel} (h : fsb cn i bl = none) (h1 : b.x = i) (h2 : cn b = true) : fsb cn i (bl ++ [b]) = some b := by
  rw [fsb_snoc, h]; simp [h1, h2]
theorem fsb_some {i : Int} {bl : List Cel} {b : Cel} (h : fsb cn i bl = some b) : b ∈ bl ∧ b.x = i ∧ cn b = true := by
  unfold fsb at h
  have h1 := List.find?_some h
  have h2 := List.mem_of_find?_eq_some h
  simp at h1
  exact ⟨h2, h1.1, h1.2⟩
/-- A blow that changes no troop's first one changes nothing. -/
theorem hm_same {ts : List Trp} {bl bl' : List Cel} (h : ∀ t ∈ ts, fsb cn t.i bl' = fsb cn t.i bl) (id : Int) : hm cn ts bl' id = hm cn ts bl id := by
  unfold hm
  exact sumh_congr fun t ht => by unfold oneh; rw [h t ht]
theorem hm_skip {ts : List Trp} {bl : List Cel} {b : Cel} (h : ∀ t ∈ ts, b.x = t.i → cn b = true → (fsb cn t.i bl).isSome = true) (id : Int) : hm cn ts (bl ++ [b]) id = hm cn ts bl id := by
  refine hm_same (fun t ht => ?_) id
  cases hc : (b.x == t.i && cn b) with
  | false => exact fsb_snoc_no hc
  | true =>
    simp at hc
    have := h t ht hc.1 hc.2
    cases hf : fsb cn t.i bl with
    | none => rw [hf] at this; cases this
    | some x => exact fsb_snoc_had hf
/-- The first blow of the troop k. -/
theorem hm_new {ts : List Trp} {bl : List Cel} {b : Cel} {k : Nat} (hk : k < ts.length) (hd : (ts.map Trp.i).Nodup) (h1 : b.x = ts[k].i) (h2 : cn b = true) (h3 : fsb cn ts[k].i bl = none) (id : Int) :
    hm cn ts (bl ++ [b]) id = hm cn ts bl id + (if b.y = id then hrk ts[k].k else 0) := by
  unfold hm
  have e : ts = ts.take k ++ ts[k] :: ts.drop (k + 1) := by rw [← List.drop_eq_getElem_cons hk, List.take_append_drop]
  have hne : ∀ j (hj : j < ts.length), j ≠ k → fsb cn ts[j].i (bl ++ [b]) = fsb cn ts[j].i bl := by
    intro j hj hjk
    refine fsb_snoc_no ?_
    have : ¬ b.x = ts[j].i := by
      intro e2
      have h4 : ts[j].i = ts[k].i := by rw [← e2, h1]
      have := (List.getElem_inj (h₀ := by simpa using hj) (h₁ := by simpa using hk) hd).1 (by rw [List.getElem_map, List.getElem_map]; exact h4)
      exact hjk this
    simp [this]
  have hold : ∀ S : List Trp, (∀ t ∈ S, ∃ j, ∃ hj : j < ts.length, j ≠ k ∧ t = ts[j]) → sumh (oneh cn (bl ++ [b]) id) S = sumh (oneh cn bl id) S := by
    intro S hS
    refine sumh_congr fun t ht => ?_
    obtain ⟨j, hj, hjk, rfl⟩ := hS t ht
    unfold oneh; rw [hne j hj hjk]
  have hA := hold (ts.take k) (fun t ht => by
    obtain ⟨j, hj, rfl⟩ := List.getElem_of_mem ht
    rw [List.length_take] at hj
    exact ⟨j, by omega, by omega, by rw [List.getElem_take]⟩)
  have hB := hold (ts.drop (k + 1)) (fun t ht => by
    obtain ⟨j, hj, rfl⟩ := List.getElem_of_mem ht
    rw [List.length_drop] at hj
    exact ⟨k + 1 + j, by omega, by omega, by rw [List.getElem_drop]⟩)
  have hC : oneh cn (bl ++ [b]) id ts[k] = (if b.y = id then hrk ts[k].k else 0) := by unfold oneh; rw [fsb_snoc_new h3 h1 h2]
  have hD : oneh cn bl id ts[k] = 0 := by unfold oneh; rw [h3]
  have key : ∀ f : Trp → Int, sumh f ts = sumh f (ts.take k) + (f ts[k] + sumh f (ts.drop (k + 1))) := fun f => by conv => lhs; rw [e, sumh_app]; simp only [sumh]
  rw [key, key, hA, hB, hC, hD]; omega
/-- Where each troop strikes but once it is no matter in what order. -/
theorem fsb_rev {bl : List Cel} (h : bl.Pairwise fun a b => a.x ≠ b.x) (i : Int) : fsb cn i bl.reverse = fsb cn i bl := by
  have uniq : ∀ a ∈ bl, ∀ b ∈ bl, a.x = b.x → a = b := by
    intro a ha b hb e
    obtain ⟨j, hj, rfl⟩ := List.getElem_of_mem ha
    obtain ⟨k, hk, rfl⟩ := List.getElem_of_mem hb
    have hp := List.pairwise_iff_getElem.1 h
    rcases Nat.lt_trichotomy j k with hlt | rfl | hgt
    · exact absurd e (hp j k hj hk hlt)
    · rfl
    · exact absurd e.symm (hp k j hk hj hgt)
  cases h1 : fsb cn i bl with
  | none =>
    unfold fsb at h1 ⊢
    rw [List.find?_eq_none] at h1 ⊢
    intro x hx
    exact h1 x (by simpa using hx)
  | some b =>
    obtain ⟨hb, hx, hc⟩ := fsb_some h1
    cases h2 : fsb cn i bl.reverse with
    | none =>
      unfold fsb at h2
      rw [List.find?_eq_none] at h2
      exact absurd (by simp [hx, hc]) (h2 b (by simpa using hb))
    | some a =>
      obtain ⟨ha, hxa, _⟩ := fsb_some h2
      rw [uniq a (by simpa using ha) b hb (by rw [hxa, hx])]
theorem hm_rev {ts : List Trp} {bl : List Cel} (h : bl.Pairwise fun a b => a.x ≠ b.x) (id : Int) : hm cn ts bl.reverse id = hm cn ts bl id := hm_same (fun t _ => fsb_rev h t.i) id
end

theorem trf_some {ts : List Trp} {i : Int} {t : Trp} (h : trf ts i = some t) : t ∈ ts ∧ t.i = i := by
  unfold trf at h
  exact ⟨List.mem_of_find?_eq_some h, by simpa using List.find?_some h⟩
theorem trf_none {ts : List Trp} {i : Int} (h : trf ts i = none) : ∀ t ∈ ts, t.i ≠ i := by
  unfold trf at h
  rw [List.find?_eq_none] at h
  intro t ht
  simpa using h t ht
theorem ids_inj {ts : List Trp} (hd : (ts.map Trp.i).Nodup) {j k : Nat} (hj : j < ts.length) (hk : k < ts.length) (h : ts[j].i = ts[k].i) : j = k :=
  (List.getElem_inj (h₀ := by simpa using hj) (h₁ := by simpa using hk) hd).1 (by rw [List.getElem_map, List.getElem_map]; exact h)
theorem trf_at {ts : List Trp} (hd : (ts.map Trp.i).Nodup) {k : Nat} (hk : k < ts.length) : trf ts ts[k].i = some ts[k] := by
  cases h : trf ts ts[k].i with
  | none => exact absurd rfl (trf_none h ts[k] (List.getElem_mem hk))
  | some t =>
    obtain ⟨h1, h2⟩ := trf_some h
    obtain ⟨j, hj, rfl⟩ := List.getElem_of_mem h1
    have := ids_inj hd hj hk h2
    subst this; rfl
theorem trf_no {ts : List Trp} {i : Int} (h : i ∉ ts.map Trp.i) : trf ts i = none := by
  cases e : trf ts i with
  | none => rfl
  | some t => obtain ⟨h1, h2⟩ := trf_some e; exact absurd (List.mem_map.2 ⟨t, h1, h2⟩) h
theorem cnt_at {W : Nat} {l : List Int} {ts : List Trp} (hd : (ts.map Trp.i).Nodup) {j k : Nat} (hj : j < ts.length) (hk : k < ts.length) {b : Cel} (h1 : b.x = ts[j].i) (h2 : b.y = ts[k].i) : cnt W l ts b = hit W l ts[j] ts[k] := by
  unfold cnt
  rw [h1, h2, trf_at hd hj, trf_at hd hk]
theorem cnt_no {W : Nat} {l : List Int} {ts : List Trp} {b : Cel} (h : b.x ∉ ts.map Trp.i ∨ b.y ∉ ts.map Trp.i) : cnt W l ts b = false := by
  unfold cnt
  rcases h with h | h
  · rw [trf_no h]
  · rw [trf_no h]; cases trf ts b.x <;> rfl
theorem cnt_yes {W : Nat} {l : List Int} {ts : List Trp} {b : Cel} (h : cnt W l ts b = true) : ∃ s t, s ∈ ts ∧ t ∈ ts ∧ s.i = b.x ∧ t.i = b.y ∧ hit W l s t = true := by
  unfold cnt at h
  cases h1 : trf ts b.x with
  | none => rw [h1] at h; cases h
  | some s =>
    cases h2 : trf ts b.y with
    | none => rw [h1, h2] at h; cases h
    | some t =>
      rw [h1, h2] at h
      exact ⟨s, t, (trf_some h1).1, (trf_some h2).1, (trf_some h1).2, (trf_some h2).2, h⟩
theorem tr_nodup {W H : Nat} {l : List Int} {nb : Nat} {N : Int} {lt : List Trp} (h : TRr W H l nb N lt) : (lt.map Trp.i).Nodup := by
  refine List.pairwise_map.2 (List.Pairwise.imp ?_ h.2.1)
  intro a b hab e
  omega

/-- A troop behind the blows. -/
def upd (h : Int → Int) (t : Trp) : Trp := { t with f := t.f - h t.i }
/-- Those who are left, and those who are gone. -/
def lft (h : Int → Int) (ts : List Trp) : List Trp := (ts.map (upd h)).filter fun t => decide (0 < t.f)
def gon (h : Int → Int) (ts : List Trp) : List Int := (ts.filter fun t => decide (t.f - h t.i ≤ 0)).map Trp.i
theorem lft_snoc_yes {h : Int → Int} {ts : List Trp} {t : Trp} (ht : 0 < t.f - h t.i) : lft h (ts ++ [t]) = lft h ts ++ [upd h t] := by
  unfold lft
  rw [List.map_append, List.filter_append]; simp [upd]; omega
theorem lft_snoc_no {h : Int → Int} {ts : List Trp} {t : Trp} (ht : ¬ 0 < t.f - h t.i) : lft h (ts ++ [t]) = lft h ts := by
  unfold lft
  rw [List.map_append, List.filter_append]; simp [upd]; omega
theorem gon_snoc_yes {h : Int → Int} {ts : List Trp} {t : Trp} (ht : t.f - h t.i ≤ 0) : gon h (ts ++ [t]) = gon h ts ++ [t.i] := by
  unfold gon
  rw [List.filter_append, List.map_append]; simp [ht]
theorem gon_snoc_no {h : Int → Int} {ts : List Trp} {t : Trp} (ht : ¬ t.f - h t.i ≤ 0) : gon h (ts ++ [t]) = gon h ts := by
  unfold gon
  rw [List.filter_append, List.map_append]; simp [ht]
theorem gon_len (h : Int → Int) (ts : List Trp) : (gon h ts).length ≤ ts.length := by
  unfold gon; rw [List.length_map]; exact List.length_filter_le _ _
theorem lft_len (h : Int → Int) (ts : List Trp) : (lft h ts).length ≤ ts.length := by
  unfold lft; have := List.length_filter_le (fun t : Trp => decide (0 < t.f)) (ts.map (upd h)); rw [List.length_map] at this; exact this
theorem both_len (h : Int → Int) (ts : List Trp) : (lft h ts).length + (gon h ts).length = ts.length := by
  induction ts with
  | nil => rfl
  | cons t ts ih =>
    unfold lft gon at ih ⊢
    simp only [List.map_cons, List.filter_cons]
    by_cases h1 : t.f - h t.i ≤ 0
    · have e1 : decide (0 < (upd h t).f) = false := by simp [upd]; omega
      have e2 : decide (t.f - h t.i ≤ 0) = true := by simp [h1]
      simp only [e1, e2, Bool.false_eq_true, if_false, if_true, List.map_cons, List.length_cons]; omega
    · have e1 : decide (0 < (upd h t).f) = true := by simp [upd]; omega
      have e2 : decide (t.f - h t.i ≤ 0) = false := by simp; omega
      simp only [e1, e2, Bool.false_eq_true, if_false, if_true, List.length_cons]; omega
theorem lft_mem {h : Int → Int} {ts : List Trp} {u : Trp} : u ∈ lft h ts ↔ ∃ t ∈ ts, u = upd h t ∧ 0 < t.f - h t.i := by
  unfold lft
  rw [List.mem_filter, List.mem_map]
  constructor
  · rintro ⟨⟨t, ht, rfl⟩, h1⟩
    exact ⟨t, ht, rfl, by simpa [upd] using h1⟩
  · rintro ⟨t, ht, rfl, h1⟩
    exact ⟨⟨t, ht, rfl⟩, by simpa [upd] using h1⟩
theorem gon_mem {h : Int → Int} {ts : List Trp} {i : Int} : i ∈ gon h ts ↔ ∃ t ∈ ts, t.i = i ∧ t.f - h t.i ≤ 0 := by
  unfold gon
  rw [List.mem_map]
  constructor
  · rintro ⟨t, ht, rfl⟩
    rw [List.mem_filter] at ht
    exact ⟨t, ht.1, rfl, by simpa using ht.2⟩
  · rintro ⟨t, ht, rfl, h1⟩
    exact ⟨t, List.mem_filter.2 ⟨ht, by simpa using h1⟩, rfl⟩
end Go.Proofs.Ytjbfnibhmojlfaa
