/- Alone on a field: what is left of a way behind its first step is the way from there; who is alone walks it cell by cell. -/
import Derived.Test.YtnbbfnlfcncgnaaRa
namespace Go.Proofs.Ytnbbfnlfcncgnaa
open Go.RowKit
set_option linter.unusedVariables false
section
variable {W H : Nat} {l fa fc : List Int} {a b c : Cel} {A B : Int} {R : List Cel}
/-- What is ahead of a cell on the way is so from a later first cell too. -/
theorem trl_cut (hsa : Sol W H l (fst_ W [a]) fa) (hsc : Sol W H l (fst_ W [c]) fc) (ha : inf W H a) (hc : inf W H c) (h0 : 0 ≤ pa fa (ixc W c)) {x e : Cel} {T : List Cel} (h : Trl W H l fa x T) :
    ∀ T', T = T' ++ [e] → (∀ y ∈ T', pa fc (ixc W y) = pa fa (ixc W y) - pa fa (ixc W c)) → T'.getLast? = some c → Trl W H l fc x T' := by
  induction h with
  | @one x h1 h2 =>
    intro T' hT hy hl
    cases T' with
    | nil => cases hl
    | cons z T1 => simp at hT
  | @more x d T1 h1 h2 h3 h4 ih =>
    intro T' hT hy hl
    cases T' with
    | nil => cases hl
    | cons z T2 =>
      obtain ⟨rfl, hT1⟩ : x = z ∧ T1 = T2 ++ [e] := by simpa using hT
      have hx := hy x (by simp)
      cases hT2 : T2 with
      | nil =>
        rw [hT2] at hl
        obtain rfl : x = c := by simpa using hl
        exact .one h1 (by omega)
      | cons z2 T3 =>
        have hl2 : T2.getLast? = some c := by rw [hT2] at hl ⊢; simpa using hl
        have hd := ih T2 hT1 (fun y hy' => hy y (by simp [hy'])) hl2
        have hdm : d ∈ T2 := by
          have := trl_head hd
          exact List.mem_of_getElem? this
        have hfd := hy d (by simp [hdm])
        have hd0 := trl_low hd
        obtain ⟨d1, d2, d3, d4⟩ := ahd_far hsa h1 h2 h3
        have hkc := kc_bd (pa l (ixc W x))
        have hrx : pa l (ixc W x) ≠ 1 := fun er => by have := hsa.rock _ (inf_lt h1) er; omega
        have hback : ∀ k, k < 4 → phit W H l fc x k = true → phit W H l fa x k = true := fun k hk4 hh => by
          obtain ⟨hi, hadj, he⟩ := hit_adj h1 hk4 hh
          have hle := (way_le2 hsa ha (way_trans (sol_way2 hsa ha hc h0) (sol_way2 hsc hc hi (by omega))))
          have hle2 := (way_le2 hsa ha (Way.snoc (sol_way2 hsa ha hi hle.1) hadj hrx))
          unfold phit
          rw [Bool.and_eq_true, decide_eq_true_eq]
          exact ⟨inf_inb.2 hi, by omega⟩
        rw [← hT2]
        refine .more h1 (by omega) ?_ hd
        obtain ⟨k, k1, k2, k3, rfl⟩ := h3
        refine ⟨k, k1, fun j hj => ?_, ?_, rfl⟩
        · cases hh : phit W H l fc x j with
          | false => rfl
          | true => have := hback j (by omega) hh; rw [k2 j hj] at this; cases this
        · unfold phit at k3 ⊢
          rw [Bool.and_eq_true, decide_eq_true_eq] at k3 ⊢
          exact ⟨k3.1, by omega⟩
/-- From the cell behind the first one: what is left of the way. -/
theorem trl_tail (hga : good A B l a b W H fa) (h0 : 0 ≤ pa fa (ixc W b)) (hT : Trl W H l fa b R) (hc : R.reverse[1]? = some c) (hgc : good A B l c b W H fc) : Trl W H l fc b R.dropLast := by
  have hga0 := hga
  obtain ⟨rfl, rfl, hok, ha, hb, ra, rb, hs⟩ := hga
  obtain ⟨_, _, _, ic, _, rc, _, hsc⟩ := hgc
  obtain ⟨_, pc, _⟩ := way_at hs hT hc
  have hl : 1 < R.reverse.length := (List.getElem?_eq_some_iff.1 hc).1
  rw [List.length_reverse] at hl
  have hne : R ≠ [] := fun e => by rw [e] at hl; simp at hl
  refine trl_cut hs hsc ha ic pc hT R.dropLast (List.dropLast_concat_getLast hne).symm (fun y hy => ?_) ?_
  · obtain ⟨i, hi, rfl⟩ := List.getElem_of_mem hy
    rw [List.length_dropLast] at hi
    rw [List.getElem_dropLast]
    have hrev : R.reverse[1 + (R.length - 1 - i - 1)]? = some R[i] := by
      rw [List.getElem?_reverse (by omega), List.getElem?_eq_getElem (by omega)]
      congr 2
      omega
    have w1 := way_along hs hT hc _ _ hrev
    obtain ⟨ii, pi, _⟩ := way_at hs hT hrev
    have h1 := way_le2 hsc ic w1
    have h2 := way_le2 hs ha (way_trans (sol_way2 hs ha ic pc) (sol_way2 hsc ic ii h1.1))
    omega
  · rw [List.getElem?_reverse hl] at hc
    rw [List.getLast?_eq_getElem?, List.length_dropLast, List.getElem?_dropLast, if_pos (by omega)]
    exact hc
theorem drop_rev {R : List Cel} (h : R ≠ []) : R.reverse = (R.getLast h) :: R.dropLast.reverse := by
  conv => lhs; rw [← List.dropLast_concat_getLast h]
  rw [List.reverse_append]; rfl
end
/-- The rest of a way, from a. -/
def onw (A B : Int) (l : List Int) (b : Cel) (R : List Cel) (a : Cel) : Prop :=
  R.reverse[0]? = some a ∧ (∀ E, ¬ rerr A B l a b E) ∧ ∀ W H far R', good A B l a b W H far → 0 ≤ pa far (ixc W b) → Trl W H l far b R' → R' = R
section
variable {A B : Int} {l : List Int} {a b : Cel} {R : List Cel}
theorem onw_first {W H : Nat} {far : List Int} (hg : good A B l a b W H far) (h0 : 0 ≤ pa far (ixc W b)) (hT : Trl W H l far b R) : onw A B l b R a := by
  refine ⟨way_first hg.2.2.2.2.2.2.2 hg.2.2.2.1 hT, fun E hr => rerr_good hr hg h0, fun W' H' far' R' hg' _ hT' => ?_⟩
  obtain ⟨rfl, rfl, rfl⟩ := good_one hg hg'
  exact trl_one hT' hT
theorem onw_stop (h : onw A B l b R a) (hn : nxs A B l a b none) : R.length = 1 := by
  obtain ⟨h1, h2, h3⟩ := h
  have hl := (List.getElem?_eq_some_iff.1 h1).1
  rw [List.length_reverse] at hl
  rcases hn with ⟨E, _, hr, _⟩ | ⟨W, H, far, R', hg, h0, hT, ho⟩
  · exact (h2 E hr).elim
  · obtain rfl := h3 W H far R' hg h0 hT
    have := List.getElem?_eq_none_iff.1 ho.symm
    rw [List.length_reverse] at this
    omega
theorem onw_next {c : Cel} (h : onw A B l b R a) (hn : nxs A B l a b (some c)) : R.reverse[1]? = some c ∧ a ≠ c ∧ onw A B l b R.dropLast c := by
  obtain ⟨h1, h2, h3⟩ := h
  rcases hn with ⟨E, _, hr, _⟩ | ⟨W, H, far, R', hg, h0, hT, ho⟩
  · exact (h2 E hr).elim
  obtain rfl := h3 W H far R' hg h0 hT
  have hc := ho.symm
  have hg0 := hg
  obtain ⟨rfl, rfl, hok, ha, hb, ra, rb, hs⟩ := hg
  obtain ⟨ic, pc, rc⟩ := way_at hs hT hc
  have hl : 1 < R'.reverse.length := (List.getElem?_eq_some_iff.1 hc).1
  rw [List.length_reverse] at hl
  have hne : R' ≠ [] := fun e => by rw [e] at hl; simp at hl
  refine ⟨hc, fun e => ?_, ?_, fun E hr => ?_, fun W' H' far' R2 hg' h0' hT' => ?_⟩
  · subst e
    have hn1 := (way_next hs hT h1 hc).2
    have := kc_bd (pa l (ixc W a))
    omega
  · rw [drop_rev hne, List.getElem?_cons_succ] at hc
    exact hc
  · obtain ⟨M, hM⟩ : ∃ M, R'.length = M + 1 := ⟨R'.length - 1, by omega⟩
    have w1 := way_along hs hT hc (M - 1) b (by
      have : 1 + (M - 1) = M := by omega
      rw [this]; exact way_last hT hM)
    exact rerr_no hok ic hb rc rb w1 hr
  · have e1 : W' = W := by have := hg'.1; omega
    have e2 : H' = H := by have := hg'.2.1; omega
    subst e1 e2
    exact trl_one hT' (trl_tail hg0 h0 hT hc hg')
/-- Who is alone either stays or goes. -/
theorem mst_alone {f : Int → Option Cel} {u : Trp} {L2 : List Trp} {I : List Int} (h : Mst A B l f [u] 1 L2 I) : (L2 = [u] ∧ I = [] ∧ sty A B l f [u] u) ∨ ∃ c, L2 = [u.go c] ∧ I = [u.i] ∧ gos A B l f [u] u c := by
  cases h with
  | stay h1 h2 h3 =>
    cases h1
    cases h2
    exact .inl ⟨rfl, rfl, h3⟩
  | go h1 h2 h3 =>
    cases h1
    cases h2
    exact .inr ⟨_, rfl, rfl, h3⟩
/-- Who is alone walks the way cell by cell. -/
theorem rch_way {f : Int → Option Cel} {L L' : List Trp} {n k : Nat} (h : Rch A B l f 1 L n L' k) : ∀ (u : Trp) (R : List Cel), L = [u] → f u.i = some b → onw A B l b R u.c → k = min (R.length - 1) n ∧ ∃ u', L' = [u'] ∧ R.reverse[k]? = some u'.c := by
  induction h with
  | none =>
    intro u R hL hf ho
    subst hL
    exact ⟨by simp, u, rfl, ho.1⟩
  | @stuck n L L2 h1 =>
    intro u R hL hf ho
    subst hL
    have hl := (List.getElem?_eq_some_iff.1 ho.1).1
    rw [List.length_reverse] at hl
    rcases mst_alone h1 with ⟨_, _, h2⟩ | ⟨c, _, h2, _⟩
    · rcases h2 with h2 | ⟨b', h2, h3 | ⟨c, h3, h4⟩⟩
      · rw [h2] at hf; cases hf
      · rw [hf] at h2
        cases h2
        have := onw_stop ho h3
        exact ⟨by omega, u, rfl, ho.1⟩
      · rw [hf] at h2
        cases h2
        obtain ⟨_, h5, _⟩ := onw_next ho h3
        have : onb c.x c.y u = true := by simpa using h4
        exact absurd (onb_iff.1 this) h5
    · cases h2
  | @step n k L L2 L' I h1 h2 h3 ih =>
    intro u R hL hf ho
    subst hL
    rcases mst_alone h1 with ⟨_, h4, _⟩ | ⟨c, h4, _, b', h5, h6, _⟩
    · exact absurd h4 h2
    · rw [hf] at h5
      cases h5
      obtain ⟨e1, _, e2⟩ := onw_next ho h6
      have hl := (List.getElem?_eq_some_iff.1 e1).1
      rw [List.length_reverse] at hl
      obtain ⟨i1, u', i2, i3⟩ := ih (u.go c) R.dropLast h4 hf e2
      rw [List.length_dropLast] at i1
      have hne : R ≠ [] := fun e => by rw [e] at hl; simp at hl
      refine ⟨by omega, u', i2, ?_⟩
      rw [drop_rev hne, List.getElem?_cons_succ]
      exact i3
/-- Where there is no way one stays. -/
theorem rch_nowhere {f : Int → Option Cel} {u : Trp} {L' : List Trp} {n k : Nat} {E : Int} (hf : f u.i = some b) (hr : rerr A B l u.c b E) (h : Rch A B l f 1 [u] n L' k) : L' = [u] ∧ k = 0 := by
  cases h with
  | none => exact ⟨rfl, rfl⟩
  | stuck => exact ⟨rfl, rfl⟩
  | step h1 h2 h3 =>
    rcases mst_alone h1 with ⟨_, h4, _⟩ | ⟨c, h4, _, b', h5, h6, _⟩
    · exact absurd h4 h2
    · rw [hf] at h5
      cases h5
      rcases h6 with ⟨_, _, _, h⟩ | ⟨W, H, far, R', hg, h0, _, _⟩
      · cases h
      · exact (rerr_good hr hg h0).elim
end
/-- A right world with but one of its troops is a right one. -/
theorem okw_one {s : Wld} {W H : Nat} (hk : okw s W H) {k : Nat} (hl : k < s.lt.length) (q : Option Addr) (c : Nat) : okw ⟨s.A, s.B, s.p, s.n, s.c, s.l, s.pb, s.nb, s.cb, s.lb, s.ps, s.ns, s.cs, s.ls, s.pm, s.nm, s.cm, s.lm, q, 1, c, [s.lt[k]], s.N, s.T⟩ W H := by
  obtain ⟨a1, a2, a3⟩ := hk.tr
  refine ⟨hk.a, hk.b, hk.f, hk.nb, by show 1 ≤ 100; omega, hk.c, hk.pl, hk.mn, fun i hi => ?_, List.pairwise_singleton _ _, by simp⟩
  obtain rfl : i = 0 := by simpa using hi
  exact a1 k hl
end Go.Proofs.Ytnbbfnlfcncgnaa
