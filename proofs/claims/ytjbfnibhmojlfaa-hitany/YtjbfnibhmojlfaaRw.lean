/- What slices.Reverse does to a row of blows of one's own, of whatever length; rows of blows cut short; two worlds struck by the same blows in another order. -/
import Derived.Test.YtjbfnibhmojlfaaRev
import Derived.Test.YtjbfnibhmojlfaaSn
import Derived.Test.YtjbfnibhmojlfaaSf
namespace Go.Proofs.Ytjbfnibhmojlfaa
open Go.RowKit
set_option linter.unusedVariables false

set_option maxRecDepth 20000 in
theorem Reverse_zero (p : Option Addr) (c : Nat) (w : World) : Calls Try.prog 16 #[.slice p 0 c] w fun e w' => e = .returned (.tuple #[]) ∧ w' = w := by
  go_enter Try.func16, Try.ntmps16
  go_wp2_with fail
  go_loopw [2, 3] (fun i j wr => i = .int .i64 0 ∧ j = .int .i64 (-1) ∧ wr = w) (fun _ _ _ => 0)
  case atStart => exact ⟨rfl, rfl, rfl⟩
  case round =>
    obtain ⟨rfl, rfl, rfl⟩ := hrel
    go_wp2_with fail
    go_end0
    exact ⟨rfl, rfl⟩
theorem Reverse_any (B n cap : Nat) (p : Option Addr) (Q : List Cel) (w : World) (hq : mineb B w (.slice p n cap) Q) (hn : Q.length = n) (h4 : n ≤ 9000000000000) :
    Calls Try.prog 16 #[.slice p n cap] w fun e w' => e = .returned (.tuple #[]) ∧ mineb B w' (.slice p n cap) Q.reverse ∧ Ex (fun k => some k = (Value.slice p n cap).ownBlock) w w' := by
  rcases Nat.eq_zero_or_pos n with h0 | h0
  · subst h0
    have hQ : Q = [] := List.eq_nil_of_length_eq_zero hn
    subst hQ
    refine (Reverse_zero p cap w).mono ?_
    rintro e w' ⟨rfl, hw⟩; subst w'
    exact ⟨rfl, hq, Ex.refl _ _⟩
  · obtain ⟨g, rfl⟩ : ∃ g, p = some ⟨g, 0, none⟩ := by
      rcases hq.2 with ⟨_, h1⟩ | ⟨g, cap', cur, hv, hB, hblk, hr⟩
      · omega
      · simp only [Value.slice.injEq] at hv
        exact ⟨g, hv.1⟩
    refine (Reverse_some B g n cap Q w hq hn h0 h4).mono ?_
    rintro e w' ⟨rfl, h1, h2⟩
    exact ⟨rfl, h1, h2.mono (fun i _ e => by rw [e]; rfl)⟩
theorem mineb_crow {B n cap : Nat} {p : Option Addr} {w : World} {Q : List Cel} (h : mineb B w (.slice p n cap) Q) (hn : Q.length = n) : crow w p Q := by
  rcases h.2 with ⟨h0, h1⟩ | ⟨g, cap', cur, hv, hB, hblk, hr⟩
  · have : Q = [] := List.eq_nil_of_length_eq_zero h1
    subst this; exact crow_nil _ _
  · simp only [Value.slice.injEq] at hv
    obtain ⟨rfl, _, _⟩ := hv
    subst hn
    have key : ∀ j u, (flat2 Q)[j]? = some u → w.cell? ⟨g, j, none⟩ = some u := fun j u hj => by
      have hjl : j < Q.length * 2 := by have := (List.getElem?_eq_some_iff.1 hj).1; rwa [flat2_len] at this
      rw [World.ownsRow.cellAt h _ hjl]; exact hj
    have f : ∀ (Q : List Cel) (j : Nat) (c : Cel), Q[j]? = some c → (flat2 Q)[j * 2]? = some (.int .i64 c.x) ∧ (flat2 Q)[j * 2 + 1]? = some (.int .i64 c.y) := by
      intro Q
      induction Q with
      | nil => intro j c hj; simp at hj
      | cons s Q ih =>
        intro j c hj
        rw [flat2_cons]
        cases j with
        | zero => simp at hj; subst hj; exact ⟨rfl, rfl⟩
        | succ j =>
          have := ih j c (by simpa using hj)
          have e : (j + 1) * 2 = j * 2 + 2 := by omega
          rw [e]
          exact this
    intro j c hj
    obtain ⟨h1, h2⟩ := f Q j c hj
    exact ⟨_, rfl, by rw [add_zero_at]; exact key _ _ h1, by rw [add_zero_at]; exact key _ _ h2⟩
/-- Struck by the same blows in another order two worlds are the same. -/
theorem sok_rev {s s1 s2 : Wld} {bl : List Cel} {g1 g2 : List Int} (hp : bl.Pairwise fun a b => a.x ≠ b.x) (h1 : sok s bl 0 s1 g1) (h2 : sok s bl.reverse 0 s2 g2) : samew s1 s2 ∧ g1 = g2 := by
  have hh : hms s bl.reverse = hms s bl := by funext id; unfold hms; exact hm_rev hp id
  rcases h1 with ⟨h, _⟩ | ⟨_, a1, t1, _, e1⟩
  · exact absurd rfl h
  · rcases h2 with ⟨h, _⟩ | ⟨_, a2, t2, _, e2⟩
    · exact absurd rfl h
    · rw [hh] at t2 e2
      obtain ⟨x1, x2, _, x3, _, x4, _, x5, _, x6, x7, x8⟩ := a1
      obtain ⟨y1, y2, _, y3, _, y4, _, y5, _, y6, y7, y8⟩ := a2
      exact ⟨⟨x1.trans y1.symm, x2.trans y2.symm, x3.trans y3.symm, x4.trans y4.symm, x5.trans y5.symm, x6.trans y6.symm, t1.trans t2.symm, x7.trans y7.symm, x8.trans y8.symm⟩, e1.trans e2.symm⟩
theorem sok_len {s s' : Wld} {w : World} {n : Nat} {E : Int} {bl : List Cel} {gl : List Int} (h : s.fit w) (hE : ber s n E) (ho : sok s bl E s' gl) : gl.length ≤ 100 := by
  rcases ho with ⟨_, _, rfl⟩ | ⟨rfl, _, _, _, rfl⟩
  · simp
  · obtain ⟨⟨W, H, hk⟩, _⟩ := ber_ok hE
    have h1 := gon_len (hms s bl) s.lt
    have h2 := hk.nt
    have h3 := h.ht
    omega
end Go.Proofs.Ytjbfnibhmojlfaa
