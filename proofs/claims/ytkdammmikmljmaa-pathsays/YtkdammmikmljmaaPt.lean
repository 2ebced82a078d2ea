/- A part of a cheapest way is a cheapest way. -/
import Derived.Test.YtkdammmikmljmaaWf
namespace Go.Proofs.Ytkdammmikmljmaa
set_option linter.unusedVariables false
section
variable {W H : Nat} {l far : List Int} {a b c t : Cel} {R : List Cel} {A B : Int}
theorem way_trans {p q r : Nat} {c1 c2 : Int} (h1 : Way W H l p q c1) (h2 : Way W H l q r c2) : Way W H l p r (c1 + c2) := by
  induction h2 with
  | nil => rwa [Int.add_zero]
  | snoc h3 h4 h5 ih => have := Way.snoc ih h4 h5; rwa [Int.add_assoc] at this
theorem sol_way2 (hs : Sol W H l (fst_ W [a]) far) (ha : inf W H a) (hb : inf W H b) (h0 : 0 ≤ pa far (ixc W b)) : Way W H l (ixc W a) (ixc W b) (pa far (ixc W b)) := by
  have := sol_way hs (fun i _ => fst_cel ha i) (pa far (ixc W b)).toNat (ixc W b) (inf_lt hb) (by omega)
  rwa [Int.toNat_of_nonneg h0] at this
theorem way_le2 {q : Nat} {k : Int} (hs : Sol W H l (fst_ W [a]) far) (ha : inf W H a) (hw : Way W H l (ixc W a) q k) : 0 ≤ pa far q ∧ pa far q ≤ k :=
  way_le hs (fun i _ => fst_cel ha i) (inf_lt ha) hw
theorem ate_ok (hok : okf W H l) (hc : inf W H c) : ate W H l c = 0 ∧ atz W H l c = pa l (ixc W c) := by
  have h0 : ck W H l = 0 := ck_ok hok.1 hok.2.1 hok.2.2.1 hok.2.2.2
  have h1 : ate W H l c = 0 := by
    unfold ate
    rw [if_neg (by simp [h0])]
    have := inf_inb.2 hc
    simp [this]
  refine ⟨h1, ?_⟩
  unfold atz
  rw [if_neg (by simp [h1])]; rfl
theorem per_ok (hok : okf W H l) (ha : inf W H a) (hb : inf W H b) (ra : pa l (ixc W a) ≠ 1) (rb : pa l (ixc W b) ≠ 1) : per W H l a b = 0 := by
  unfold per
  rw [(ate_ok hok ha).1, (ate_ok hok hb).1, (ate_ok hok ha).2, (ate_ok hok hb).2]
  simp [ra, rb]
theorem good_one {W' H' : Nat} {far' : List Int} {b' : Cel} (h : good A B l a b W H far) (h' : good A B l a b' W' H' far') : W' = W ∧ H' = H ∧ far' = far := by
  obtain ⟨h1, h2, _, _, _, _, _, h3⟩ := h
  obtain ⟨k1, k2, _, _, _, _, _, k3⟩ := h'
  have e1 : W' = W := by omega
  have e2 : H' = H := by omega
  subst e1 e2
  exact ⟨rfl, rfl, sol_one k3 h3⟩
/-- An error is told only where b cannot be come to from a. -/
theorem rerr_no {E : Int} (hok : okf W H l) (ha : inf W H a) (hb : inf W H b) (ra : pa l (ixc W a) ≠ 1) (rb : pa l (ixc W b) ≠ 1) {k : Int} (hw : Way W H l (ixc W a) (ixc W b) k) (hr : rerr W H l a b E) : False := by
  rcases hr with ⟨h1, _⟩ | ⟨_, W', H', far', h2, h3⟩
  · exact h1 (per_ok hok ha hb ra rb)
  · obtain ⟨k1, k2, _, ka, _, _, _, k3⟩ := h2
    have e1 : W' = W := by omega
    have e2 : H' = H := by omega
    subst e1 e2
    have := way_le2 k3 ha hw
    omega
/-- What Far tells where b can be come to from a by a way: no more than that, and a way of that cost there is. -/
theorem farr_way {D E : Int} (hok : okf W H l) (ha : inf W H a) (hb : inf W H b) (ra : pa l (ixc W a) ≠ 1) (rb : pa l (ixc W b) ≠ 1) {k : Int} (hw : Way W H l (ixc W a) (ixc W b) k) (hf : farr W H l a b D E) : E = 0 ∧ 0 ≤ D ∧ D ≤ k ∧ D ≤ 4800 ∧ Way W H l (ixc W a) (ixc W b) D := by
  rcases hf with ⟨_, h2, _⟩ | ⟨h1, W', H', far', h2, h3, h4⟩
  · exact (rerr_no hok ha hb ra rb hw h2).elim
  · obtain ⟨k1, k2, _, ka, kb, _, _, k3⟩ := h2
    have e1 : W' = W := by omega
    have e2 : H' = H := by omega
    subst e1 e2
    have h5 := way_le2 k3 ha hw
    have h6 := sol_way2 k3 ha hb h3
    have h7 := sol_bd k3 (wh_le hok.1 hok.2.1) _ (inf_lt hb)
    rw [← h4] at h5 h6 h7
    exact ⟨h1, by omega, by omega, by omega, h6⟩
theorem part_third {x y g h : Int} (hgd : good A B l a b W H far) (h0 : 0 ≤ pa far (ixc W b)) (h1 : farr A B l a c x g) (h2 : farr A B l c b y h) : g ≠ 0 ∨ (g = 0 ∧ h = 0 ∧ pa far (ixc W b) ≤ x + y ∧ 0 ≤ x ∧ x ≤ 4800 ∧ 0 ≤ y ∧ y ≤ 4800) := by
  rcases h1 with ⟨h1, _⟩ | ⟨rfl, W', H', far', h3, h4, h5⟩
  · exact .inl h1
  · obtain ⟨rfl, rfl, rfl⟩ := good_one hgd h3
    obtain ⟨rfl, rfl, hok, ha, hb, ra, rb, hs⟩ := hgd
    obtain ⟨_, _, _, _, hc, _, rc, _⟩ := h3
    have w1 := sol_way2 hs ha hc h4
    have w2 := sol_way2 hs ha hb h0
    have w3 := way_trans (way_back ra w1) w2
    obtain ⟨e1, e2, e3, e4, w4⟩ := farr_way hok hc hb rc rb w3 h2
    have h6 := way_le2 hs ha (way_trans w1 w4)
    have h7 := sol_bd hs (wh_le hok.1 hok.2.1) _ (inf_lt hc)
    exact .inr ⟨rfl, e1, by omega, by omega, by omega, by omega, by omega⟩
theorem way_along {S : Nat → Prop} (hs : Sol W H l S far) (h : Trl W H l far b R) {n : Nat} (ht : (R.reverse)[n]? = some t) : ∀ (j : Nat) (d : Cel), (R.reverse)[n + j]? = some d → Way W H l (ixc W t) (ixc W d) (pa far (ixc W d) - pa far (ixc W t)) := by
  intro j
  induction j with
  | zero =>
    intro d hd
    rw [Nat.add_zero, ht] at hd
    obtain rfl := Option.some.inj hd
    rw [Int.sub_self]; exact Way.nil
  | succ j ih =>
    intro d hd
    have hl : n + j < (R.reverse).length := by have := (List.getElem?_eq_some_iff.1 hd).1; omega
    have h1 := ih _ (List.getElem?_eq_getElem hl)
    have h2 := way_next hs h (List.getElem?_eq_getElem hl) hd
    have h3 := Way.snoc h1 h2.1 (way_at hs h hd).2.2
    have e : pa far (ixc W (R.reverse)[n + j]) - pa far (ixc W t) + kc (pa l (ixc W d)) = pa far (ixc W d) - pa far (ixc W t) := by omega
    rwa [e] at h3
theorem part_rest {n : Nat} {q j : Int} (hgd : good A B l a b W H far) (hR : Trl W H l far b R) (ht : (R.reverse)[n]? = some t) (hf : farr A B l t b q j) : j = 0 ∧ pa far (ixc W t) + q = pa far (ixc W b) ∧ 0 ≤ q ∧ q ≤ 4800 := by
  obtain ⟨rfl, rfl, hok, ha, hb, ra, rb, hs⟩ := hgd
  obtain ⟨it, pt, rt⟩ := way_at hs hR ht
  have hl : n < (R.reverse).length := (List.getElem?_eq_some_iff.1 ht).1
  obtain ⟨M, hM⟩ : ∃ M, R.length = M + 1 := ⟨R.length - 1, by have := trl_pos hR; omega⟩
  rw [List.length_reverse, hM] at hl
  have w1 := way_along hs hR ht (M - n) b (by
    have : n + (M - n) = M := by omega
    rw [this]; exact way_last hR hM)
  obtain ⟨e1, e2, e3, e4, w2⟩ := farr_way hok it hb rt rb w1 hf
  have w3 := way_le2 hs ha (way_trans (sol_way2 hs ha it pt) w2)
  exact ⟨e1, by omega, e2, e4⟩
theorem part_first {n n0 : Nat} {w' : World} {v : Value} {D E : Int} (hgd : good A B l a b W H far) (hR : Trl W H l far b R) (ht : (R.reverse)[n]? = some t) (hf : finr A B l a t n0 w' v D E) : E = 0 ∧ D = pa far (ixc W t) ∧ ∃ g cap, v = .slice (some ⟨g, 0, none⟩) (n + 1) cap ∧ minec n0 w' v ((R.reverse).take (n + 1)) := by
  have hgd' := hgd
  obtain ⟨rfl, rfl, hok, ha, hb, ra, rb, hs⟩ := hgd
  obtain ⟨it, pt, rt⟩ := way_at hs hR ht
  rcases hf with ⟨_, h2, _⟩ | ⟨h1, W', H', far', R', g, cap, h2, h3, h4, h5, h6, h7, h8⟩
  · exact (rerr_no hok ha it ra rt (sol_way2 hs ha it pt) h2).elim
  · obtain ⟨rfl, rfl, rfl⟩ := good_one hgd' h2
    have hl : n < R.length := by have := (List.getElem?_eq_some_iff.1 ht).1; simpa using this
    rw [List.getElem?_reverse hl, List.getElem?_eq_getElem (by omega)] at ht
    have e := Option.some.inj ht
    have h9 := trl_drop hR (R.length - 1 - n) (by omega)
    rw [e] at h9
    have h10 := trl_one h5 h9
    have h11 : R'.reverse = (R.reverse).take (n + 1) := by
      rw [h10, List.take_reverse]
      congr 2
      omega
    have h12 : R'.length = n + 1 := by rw [h10, List.length_drop]; omega
    refine ⟨h1, h4, g, cap, by rw [h7, h12], ?_⟩
    rw [← h11]; exact h8
end
end Go.Proofs.Ytkdammmikmljmaa
