/- What a step does to each troop; who has moved has moved by one cell, and is nearer by what that cell costs. -/
import Derived.Test.YtnbbfnlfcncgnaaSn
import Derived.Test.YtnbbfnlfcncgnaaGc
import Derived.Test.YtnbbfnlfcncgnaaSl
namespace Go.Proofs.Ytnbbfnlfcncgnaa
open Go.RowKit
set_option linter.unusedVariables false

theorem has_iff {v : Int} {l : List Int} : has v l = true ↔ v ∈ l := by
  unfold has
  rw [List.any_eq_true]
  constructor
  · rintro ⟨x, hx, he⟩
    have : x = v := by simpa using he
    subst this; exact hx
  · exact fun h => ⟨v, h, by simp⟩
section
variable {A B : Int} {l : List Int} {f : Int → Option Cel} {L0 : List Trp}
/-- What has become of each troop, and which Ids are told: theirs alone, and in their order. -/
theorem mst_all (hp : L0.Pairwise fun a b => a.i < b.i) {k : Nat} {L : List Trp} {I : List Int} (h : Mst A B l f L0 k L I) :
    (∀ i ∈ I, ∃ j, ∃ hj : j < L0.length, j < k ∧ L0[j].i = i) ∧ I.Pairwise (· < ·) ∧
    ∀ j (hj : j < L0.length), (L[j]? = some L0[j] ∧ L0[j].i ∉ I) ∨ (L0[j].i ∈ I ∧ ∃ c b, f L0[j].i = some b ∧ nxs A B l L0[j].c b (some c) ∧ L[j]? = some (L0[j].go c)) := by
  induction h with
  | zero => exact ⟨fun i hi => (by cases hi), List.Pairwise.nil, fun j hj => .inl ⟨List.getElem?_eq_getElem hj, fun h => by cases h⟩⟩
  | stay h1 h2 h3 ih =>
    refine ⟨fun i hi => ?_, ih.2.1, ih.2.2⟩
    obtain ⟨j, hj, hk, e⟩ := ih.1 i hi
    exact ⟨j, hj, by omega, e⟩
  | @go k L I t c h1 h2 h3 ih =>
    obtain ⟨i1, i2, i3⟩ := ih
    have hr := mst_rest h1 k (Nat.le_refl _)
    rw [hr] at h2
    obtain ⟨hk, rfl⟩ := List.getElem?_eq_some_iff.1 h2
    have hlt : ∀ i j (hi : i < L0.length) (hj : j < L0.length), i < j → L0[i].i < L0[j].i := fun i j hi hj hij => List.pairwise_iff_getElem.1 hp i j hi hj hij
    have hni : ∀ i ∈ I, i < L0[k].i := fun i hi => by
      obtain ⟨j, hj, hjk, rfl⟩ := i1 i hi
      exact hlt j k hj hk hjk
    have hll := (mst_len h1).1
    refine ⟨fun i hi => ?_, ?_, fun j hj => ?_⟩
    · rw [List.mem_append, List.mem_singleton] at hi
      rcases hi with hi | rfl
      · obtain ⟨j, hj, hjk, e⟩ := i1 i hi
        exact ⟨j, hj, by omega, e⟩
      · exact ⟨k, hk, by omega, rfl⟩
    · rw [List.pairwise_append]
      refine ⟨i2, by simp, fun a ha b hb => ?_⟩
      rw [List.mem_singleton] at hb
      subst hb
      exact hni a ha
    · by_cases e : j = k
      · subst e
        obtain ⟨b, g1, g2, _⟩ := h3
        exact .inr ⟨by simp, c, b, g1, g2, by rw [List.getElem?_set_self (by omega)]⟩
      · rw [List.getElem?_set_ne (fun e' => e e'.symm)]
        have hne : L0[j].i ≠ L0[k].i := by
          rcases Nat.lt_or_gt_of_ne e with h | h
          · have := hlt j k hj hk h; omega
          · have := hlt k j hk hj h; omega
        rcases i3 j hj with ⟨a1, a2⟩ | ⟨a1, a2⟩
        · refine .inl ⟨a1, fun h => ?_⟩
          rw [List.mem_append, List.mem_singleton] at h
          exact h.elim a2 hne
        · exact .inr ⟨List.mem_append_left _ a1, a2⟩
theorem sorted_getD {I : List Int} (h : I.Pairwise (· < ·)) : ∀ k, k + 1 < I.length → I.getD k 0 ≤ I.getD (k + 1) 0 := fun k hk => by
  have h1 := List.pairwise_iff_getElem.1 h k (k + 1) (by omega) hk (by omega)
  rw [List.getD_eq_getElem?_getD, List.getD_eq_getElem?_getD, List.getElem?_eq_getElem (by omega), List.getElem?_eq_getElem hk]
  simp only [Option.getD_some]
  omega
theorem way_pos {W H : Nat} {p q : Nat} {k : Int} (h : Way W H l p q k) : 0 ≤ k := by
  induction h with
  | nil => exact Int.le_refl _
  | snoc h1 h2 h3 ih => have := kc_bd (pa l ‹_›); omega
/-- By one cell to a side; nearer by what it costs. -/
theorem nxs_far {a b c : Cel} (h : nxs A B l a b (some c)) :
    ((∃ P Q : Int, (c.x - a.x) * (c.x - a.x) = P ∧ (c.y - a.y) * (c.y - a.y) = Q ∧ P + Q = 1 ∧ 0 ≤ P ∧ P ≤ 1 ∧ 0 ≤ Q ∧ Q ≤ 1) ∧ -1 ≤ c.x - a.x ∧ c.x - a.x ≤ 1 ∧ -1 ≤ c.y - a.y ∧ c.y - a.y ≤ 1) ∧
    ∃ D S : Int, 0 ≤ S ∧ S ≤ 4800 ∧ 0 ≤ D - S ∧ D - S ≤ 4800 ∧ (∀ d e, farr A B l a b d e → e = 0 ∧ d = D) ∧ (∀ d e, farr A B l c b d e → e = 0 ∧ d = D - S) ∧ ∀ d e, farr A B l a c d e → e = 0 ∧ d = S := by
  rcases h with ⟨_, _, _, h⟩ | ⟨W, H, far, R, hg, h0, hT, ho⟩
  · cases h
  have hg0 := hg
  obtain ⟨rfl, rfl, hok, ha, hb, ra, rb, hs⟩ := hg
  have ht : R.reverse[1]? = some c := ho.symm
  obtain ⟨ic, pc, rc⟩ := way_at hs hT ht
  have hbd := sol_bd hs (wh_le hok.1 hok.2.1) _ (inf_lt ic)
  have hbb := sol_bd hs (wh_le hok.1 hok.2.1) _ (inf_lt hb)
  have hst := way_next hs hT (way_first hs ha hT) ht
  obtain ⟨P, Q, e1, e2, e3, e4, e5, e6, e7, e8, e9, e10, e11⟩ := near_sq (adj_near ha ic hst.1)
  have hrest : ∀ d e, farr W H l c b d e → e = 0 ∧ pa far (ixc W c) + d = pa far (ixc W b) ∧ 0 ≤ d ∧ d ≤ 4800 := fun d e hf => part_rest hg0 hT ht hf
  obtain ⟨M, hM⟩ : ∃ M, R.length = M + 1 := ⟨R.length - 1, by have := trl_pos hT; omega⟩
  have hle : pa far (ixc W c) ≤ pa far (ixc W b) := by
    have hl : 1 < (R.reverse).length := (List.getElem?_eq_some_iff.1 ht).1
    rw [List.length_reverse, hM] at hl
    have w1 := way_along hs hT ht (M - 1) b (by
      have : 1 + (M - 1) = M := by omega
      rw [this]; exact way_last hT hM)
    have := way_pos w1
    omega
  refine ⟨⟨⟨P, Q, e1, e2, e3, e4, e5, e6, e7⟩, e8, e9, e10, e11⟩, pa far (ixc W b), pa far (ixc W c), pc, by omega, by omega, by omega, ?_, ?_, ?_⟩
  · intro d e hf
    rcases hf with ⟨_, h2, _⟩ | ⟨h1, W', H', far', h3, h4, h5⟩
    · exact (rerr_good h2 hg0 h0).elim
    · obtain ⟨rfl, rfl, rfl⟩ := good_one hg0 h3
      exact ⟨h1, h5⟩
  · intro d e hf
    obtain ⟨h1, h2, _⟩ := hrest d e hf
    exact ⟨h1, by omega⟩
  · intro d e hf
    rcases hf with ⟨_, h2, _⟩ | ⟨h1, W', H', far', h3, h4, h5⟩
    · exact (rerr_no hok ha ic ra rc (sol_way2 hs ha ic pc) h2).elim
    · obtain ⟨rfl, rfl, rfl⟩ := good_one hg0 h3
      exact ⟨h1, h5⟩
end
end Go.Proofs.Ytnbbfnlfcncgnaa
