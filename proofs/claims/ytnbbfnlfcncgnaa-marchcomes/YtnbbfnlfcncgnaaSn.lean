/- What march.Step returns, whatever is handed in; that what it tells is a world. -/
import Derived.Test.YtnbbfnlfcncgnaaStb
namespace Go.Proofs.Ytnbbfnlfcncgnaa
open Go.RowKit
set_option linter.unusedVariables false

/-- What Step tells. -/
def stk (s : Wld) (gs : List Goe) (E : Int) (s' : Wld) (I : List Int) : Prop :=
  (E ≠ 0 ∧ s' = wz ∧ I = []) ∨ (E = 0 ∧ likew s s' ∧ s'.nt = s.nt ∧ Mst s.A s.B s.l (gol gs) s.lt s.nt s'.lt I)
theorem Step_any (s : Wld) (E : Int) (pl : Option Addr) (nl cl : Nat) (gs : List Goe) (w : World) (h : s.fit w) (hg : gor w pl gs) (hx : ∀ t ∈ gs, fitg t) (hn : gs.length = nl) (hm : nl ≤ 9223372036854775807) (hE : Hid (ber s nl E)) :
    Calls Try.prog 9 #[s.val, .slice pl nl cl] w fun e w' => (∃ (s' : Wld) (gp : Option Addr) (gc : Nat) (I : List Int), e = .returned (.tuple #[s'.val, .slice gp I.length gc, .int .i64 E]) ∧ row vi w' gp I ∧ wown w.heap.size w' s' ∧ stk s gs E s' I) ∧ Below w.heap.size w w' := by
  by_cases h0 : E = 0
  · subst h0
    obtain ⟨⟨W, H, hk⟩, h200⟩ := ber_ok hE.out
    refine (Step_ok s W H pl nl cl gs w h hk hg hx hn h200).mono ?_
    rintro e w' ⟨⟨s', gp, gc, I, rfl, h1, h2, h3, h4, h5⟩, hb⟩
    exact ⟨⟨s', gp, gc, I, rfl, h1, h2, .inr ⟨rfl, h3, h4, h5⟩⟩, hb⟩
  · refine (Step_no s E pl nl cl w h hm hE h0).mono ?_
    rintro e w' ⟨rfl, hb⟩
    exact ⟨⟨wz, none, 0, [], rfl, row_nil _ _ _, wz_own _ _, .inl ⟨h0, rfl, rfl⟩⟩, hb⟩
theorem wz_fit {B : Nat} {V : World} (hw : wown B V wz) : wz.fit V := by
  have h0 : fits 0 := by unfold fits; omega
  exact fit_of_own hw h0 h0 h0 h0 (fun x hx => by cases hx) (fun x hx => by cases hx) (fun x hx => by cases hx) (fun x hx => by cases hx) (fun x hx => by cases hx)
/-- What Step tells is a world. -/
theorem step_fit {s s' : Wld} {w V : World} {B : Nat} {gs : List Goe} {E : Int} {I : List Int} (h : s.fit w) (hw : wown B V s') (ho : stk s gs E s' I) : s'.fit V := by
  rcases ho with ⟨_, rfl, _⟩ | ⟨rfl, hl, ht, hn⟩
  · exact wz_fit hw
  · obtain ⟨hA, hB, _, h1, _, h2, _, h3, _, h4, hN, hT⟩ := hl
    refine fit_of_own hw (by rw [hA]; exact h.fA) (by rw [hB]; exact h.fB) (by rw [hN]; exact h.fN) (by rw [hT]; exact h.fT) (by rw [h1]; exact h.x) (by rw [h2]; exact h.xb) (by rw [h3]; exact h.xs) (by rw [h4]; exact h.xm) ?_
    exact (mst_fits h.fA h.fB h.xt hn).1
theorem step_ids {s s' : Wld} {w : World} {gs : List Goe} {E : Int} {I : List Int} (h : s.fit w) (hE : ∃ n, ber s n E) (ho : stk s gs E s' I) : I.length ≤ 100 ∧ ∀ i ∈ I, fits i := by
  rcases ho with ⟨_, _, rfl⟩ | ⟨rfl, hl, ht, hn⟩
  · exact ⟨by simp, fun i hi => by cases hi⟩
  · obtain ⟨n, hn2⟩ := hE
    obtain ⟨⟨W, H, hk⟩, _⟩ := ber_ok hn2
    have := hk.nt
    exact ⟨by have := (mst_len hn).2; omega, (mst_fits h.fA h.fB h.xt hn).2⟩
/-- A right world is right behind a step. -/
theorem mst_right {A B : Int} {l : List Int} {f : Int → Option Cel} {L0 : List Trp} {W H nb : Nat} {N : Int} (hA : A = W) (hB : B = H) (h0 : TRr W H l nb N L0) {k : Nat} {L : List Trp} {I : List Int} (h : Mst A B l f L0 k L I) : TRr W H l nb N L ∧ ∀ j (hj : j < L0.length), ∃ hl : j < L.length, L[j].i = L0[j].i := by
  induction h with
  | zero => exact ⟨h0, fun j hj => ⟨hj, rfl⟩⟩
  | stay h1 h2 h3 ih => exact ih
  | @go k L I t c h1 h2 h3 ih =>
    obtain ⟨⟨a1, a2, a3⟩, a4⟩ := ih
    obtain ⟨hk, rfl⟩ := List.getElem?_eq_some_iff.1 h2
    obtain ⟨b, _, hn, hf⟩ := h3
    obtain ⟨W', H', e1, e2, ⟨x, y, rfl, hx, hy⟩, hp⟩ := opn_nxs hn
    have e1 : W = W' := by omega
    have e2 : H = H' := by omega
    subst e1 e2
    have hop : opn W H l x y = true := by
      rw [opn_in hx hy]
      rw [ixc_nat] at hp
      unfold pa at hp
      rw [beq_eq_false_iff_ne.2 hp]; rfl
    have hi : ∀ j (hj : j < (L.set k (L[k].go ⟨x, y⟩)).length), ((L.set k (L[k].go ⟨x, y⟩))[j]).i = (L[j]'(by simpa using hj)).i := fun j hj => by
      rw [List.getElem_set]
      split
      · next e => subst e; rfl
      · rfl
    refine ⟨⟨?_, ?_, ?_⟩, ?_⟩
    · intro j hj
      have hj2 : j < L.length := by simpa using hj
      rw [List.getElem_set]
      split
      · next e =>
        subst e
        obtain ⟨q1, q2, q3, q4, q5, q6, q7⟩ := a1 _ hk
        exact ⟨q1, q2, q3, q4, q5, hop, q7⟩
      · exact a1 j hj2
    · rw [List.pairwise_iff_getElem]
      intro i j h1 h2 hij
      rw [hi i h1, hi j h2]
      exact List.pairwise_iff_getElem.1 a2 i j (by simpa using h1) (by simpa using h2) hij
    · have hno : ∀ u ∈ L, u.c ≠ ⟨x, y⟩ := fun u hu e => by
        have := List.any_eq_false.1 hf u hu
        exact this (onb_iff.2 e)
      refine List.pairwise_iff_getElem.2 ?_
      intro i j h1 h2 hij
      have hi2 : i < L.length := by simpa using h1
      have hj : j < L.length := by simpa using h2
      have hne : (L[i]'hi2).c ≠ (L[j]'hj).c := fun e => by
        have := List.pairwise_iff_getElem.1 a3 i j (by simpa using hi2) (by simpa using hj) hij
        rw [List.getElem_map, List.getElem_map] at this
        exact this e
      rw [List.getElem_map, List.getElem_map, List.getElem_set, List.getElem_set]
      by_cases e1 : k = i
      · subst e1
        have e2 : k ≠ j := by omega
        rw [if_pos rfl, if_neg e2]
        exact fun e => hno _ (List.getElem_mem hj) e.symm
      · rw [if_neg e1]
        by_cases e2 : k = j
        · subst e2
          rw [if_pos rfl]
          exact fun e => hno _ (List.getElem_mem hi2) e
        · rw [if_neg e2]
          exact hne
    · intro j hj
      obtain ⟨hl, e⟩ := a4 j hj
      exact ⟨by simpa using hl, by rw [hi j (by simpa using hl)]; exact e⟩
theorem step_right {s s' : Wld} {W H : Nat} {gs : List Goe} {I : List Int} (hk : okw s W H) (hl : likew s s') (ht : s'.nt = s.nt) (hm : Mst s.A s.B s.l (gol gs) s.lt s.nt s'.lt I) : okw s' W H := by
  obtain ⟨hA, hB, h0, h1, h5, h2, h6, h3, h7, h4, hN, hT⟩ := hl
  refine ⟨by rw [hA]; exact hk.a, by rw [hB]; exact hk.b, by rw [h1]; exact hk.f, by rw [h5]; exact hk.nb, by rw [ht]; exact hk.nt, by rw [hN, hT]; exact hk.c, by rw [h1, h2, h3]; exact hk.pl, by rw [h1, h4]; exact hk.mn, ?_⟩
  rw [h1, h5, hN]
  exact (mst_right hk.a hk.b hk.tr hm).1
end Go.Proofs.Ytnbbfnlfcncgnaa
