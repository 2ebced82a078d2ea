/- What Get returns. -/
import Derived.Test.YtgebfpncapfaoaaKPut
import Derived.OwnWalk
namespace Go.Proofs.Ytgebfpncapfaoaa.pk
open Go.RowKit
set_option linter.unusedVariables false
attribute [local go_sem ↓] Go.wp_at_zero Go.wp_at_succ

/-- What is got of a text: the number, the rest, the error. -/
def gn (s : ByteArray) : Nat := (gl (bs s)).1
def gr (s : ByteArray) : ByteArray := ⟨(gl (bs s)).2.1.toArray⟩
def ge (s : ByteArray) : Nat := (gl (bs s)).2.2
theorem bs_gr (s : ByteArray) : bs (gr s) = (gl (bs s)).2.1 := by simp [bs, gr]
theorem gr_size (s : ByteArray) : (gr s).size ≤ s.size := by rw [← bs_len, bs_gr, ← bs_len]; exact gl_rest _
theorem gn_lt (s : ByteArray) : gn s < 18446744073709551616 := gl_lt _
theorem bs_head (s : ByteArray) (k : Nat) : bs (s.extract 0 k) = (bs s).take k := by simp [bs]
theorem bs_tail (s : ByteArray) (k : Nat) : bs (s.extract k s.size) = (bs s).drop k := by
  have e : bs (s.extract k s.size) = ((bs s).drop k).take (s.size - k) := by simp [bs]
  rw [e, List.take_of_length_le (by rw [List.length_drop, bs_len]; exact Nat.le_refl _)]
theorem of_bs {s t : ByteArray} (h : bs s = bs t) : s = t := str_eq h
/-- The three answers. -/
theorem get_no {s : ByteArray} {x : Nat} (h : gl (bs s) = (0, [], x)) : gn s = 0 ∧ gr s = ⟨#[]⟩ ∧ ge s = x := by
  unfold gn gr ge; rw [h]; exact ⟨rfl, rfl, rfl⟩
theorem get_yes {s : ByteArray} (h : ix (bs s) < 10) (h2 : ix (bs s) < s.size) (h3 : ps (nm (bs (s.extract 0 (ix (bs s) + 1)))) = s.extract 0 (ix (bs s) + 1)) :
    gn s = nm (bs (s.extract 0 (ix (bs s) + 1))) ∧ gr s = s.extract (ix (bs s) + 1) s.size ∧ ge s = 0 := by
  have e := congrArg bs h3
  rw [bs_ps, bs_head] at e
  have := gl_good h (by rw [bs_len]; exact h2) e
  refine ⟨?_, of_bs ?_, ?_⟩
  · unfold gn; rw [this, bs_head]
  · rw [bs_gr, this, bs_tail]
  · unfold ge; rw [this]
theorem get_form {s : ByteArray} (h : ix (bs s) < 10) (h2 : ix (bs s) < s.size) (h3 : ¬ ps (nm (bs (s.extract 0 (ix (bs s) + 1)))) = s.extract 0 (ix (bs s) + 1)) : gn s = 0 ∧ gr s = ⟨#[]⟩ ∧ ge s = 4 := by
  refine get_no (gl_form h (by rw [bs_len]; exact h2) ?_)
  intro e
  apply h3
  apply of_bs
  rw [bs_ps, bs_head]; exact e
theorem ret_get {a a' : Nat} {b b' : ByteArray} {c c' : Nat} (h1 : a = a') (h2 : b = b') (h3 : c = c') : Ending.returned (.tuple #[.int .u64 a, .string b, .int .i64 c]) = .returned (.tuple #[.int .u64 a', .string b', .int .i64 c']) := by rw [h1, h2, h3]

set_option maxRecDepth 20000 in
set_option maxHeartbeats 1000000 in
theorem Get_any (s : ByteArray) (w : World) (hs : s.size ≤ 9223372036854775807) : Calls Try.prog 60 #[.string s] w fun e w' => e = .returned (.tuple #[.int .u64 (gn s), .string (gr s), .int .i64 (ge s)]) ∧ Below w.heap.size w w' := by
  have HZ : Hid (Calls Try.prog 74 #[.string s] w fun e w' => szd (ix (bs s)) s.size e ∧ w' = w) := sizeOf_any s w hs
  have H1 : Hid (¬ (ix (bs s) < 10 ∧ ix (bs s) < s.size) → s.size < 10 → gn s = 0 ∧ gr s = ⟨#[]⟩ ∧ ge s = 3) := fun h h2 => get_no (gl_short (by rw [bs_len]; omega) (by rw [bs_len]; exact h2))
  have H2 : Hid (¬ (ix (bs s) < 10 ∧ ix (bs s) < s.size) → ¬ s.size < 10 → gn s = 0 ∧ gr s = ⟨#[]⟩ ∧ ge s = 4) := fun h h2 => get_no (gl_long (by rw [bs_len]; exact h) (by rw [bs_len]; exact h2))
  have H3 : Hid (ix (bs s) < 10 → ix (bs s) < s.size → ps (nm (bs (s.extract 0 (ix (bs s) + 1)))) = s.extract 0 (ix (bs s) + 1) → gn s = nm (bs (s.extract 0 (ix (bs s) + 1))) ∧ gr s = s.extract (ix (bs s) + 1) s.size ∧ ge s = 0) := get_yes
  have H4 : Hid (ix (bs s) < 10 → ix (bs s) < s.size → ¬ ps (nm (bs (s.extract 0 (ix (bs s) + 1)))) = s.extract 0 (ix (bs s) + 1) → gn s = 0 ∧ gr s = ⟨#[]⟩ ∧ ge s = 4) := get_form
  obtain ⟨I, hI⟩ : ∃ I, ix (bs s) = I := ⟨_, rfl⟩
  rw [hI] at HZ H1 H2 H3 H4
  clear hI
  go_enter Try.func60, Try.ntmps60
  go_wp2_with fail
  refine HZ.out.mono ?_
  rintro e w' ⟨he, hw⟩; subst w'
  rcases he with ⟨h1, h2, rfl⟩ | ⟨h1, h2, rfl⟩ | ⟨h1, h2, rfl⟩
  · have A3 := H3.out h1 h2
    have A4 := H4.out h1 h2
    obtain ⟨K, hK⟩ : ∃ K, I + 1 = K := ⟨_, rfl⟩
    rw [hK] at A3 A4 ⊢
    have hKs : K ≤ s.size := by omega
    have hK0 : (0 : Int) ≤ K := by omega
    have HNu : Hid (∀ w : World, Calls Try.prog 75 #[.string (s.extract 0 K)] w fun e w' => e = .returned (.int .u64 (nm (bs (s.extract 0 K)))) ∧ w' = w) := fun w => number_any _ w (by simp; omega)
    have HPu : Hid (∀ w : World, Calls Try.prog 76 #[.int .u64 (nm (bs (s.extract 0 K)))] w fun e w' => e = .returned (.string (ps (nm (bs (s.extract 0 K))))) ∧ Below w.heap.size w w') := fun w => Put_any _ w (nm_lt _)
    obtain ⟨M, hM⟩ : ∃ M, nm (bs (s.extract 0 K)) = M := ⟨_, rfl⟩
    rw [hM] at A3 A4 HNu HPu
    clear H1 H2 H3 H4 HZ hM hK h1 h2
    by_cases hq : ps M = s.extract 0 K
    · have A3 : Hid (gn s = M ∧ gr s = s.extract K s.size ∧ ge s = 0) := A3 hq
      rw [hq] at HPu
      clear A4 hq
      go_wp2_with fail
      refine (HNu.out _).mono ?_
      rintro e w' ⟨rfl, hw⟩; subst w'
      go_wp2_with fail
      have h0 : Below w.heap.size w w := Below.refl _ _
      go_region_held3 (fun w' => Below w.heap.size w w') (first | exact Below.drew (by assumption) | exact below_drewN (by assumption) _ | exact below_step (by assumption) (Below.size (by assumption)) (by assumption)) (first | (go_at_call 76; refine (HPu.out _).mono ?_; rintro e w1 ⟨rfl, hb⟩))
      go_wp2_with fail
      go_quiet (fail)
      go_wp2_with fail
      go_ret3
      exact ⟨ret_get A3.out.1.symm A3.out.2.1.symm A3.out.2.2.symm, below_drewN (by assumption) _⟩
    · have A4 : Hid (gn s = 0 ∧ gr s = ⟨#[]⟩ ∧ ge s = 4) := A4 hq
      have hne : (((ps M).toList == (s.extract 0 K).toList) = false) := str_ne hq
      clear A3 hq
      obtain ⟨t, ht⟩ : ∃ t, ps M = t := ⟨_, rfl⟩
      rw [ht] at hne HPu
      clear ht
      go_wp2_with fail
      refine (HNu.out _).mono ?_
      rintro e w' ⟨rfl, hw⟩; subst w'
      go_wp2_with fail
      have h0 : Below w.heap.size w w := Below.refl _ _
      go_region_held3 (fun w' => Below w.heap.size w w') (first | exact Below.drew (by assumption) | exact below_drewN (by assumption) _ | exact below_step (by assumption) (Below.size (by assumption)) (by assumption)) (first | (go_at_call 76; refine (HPu.out _).mono ?_; rintro e w1 ⟨rfl, hb⟩))
      go_wp2_with fail
      go_ret3
      exact ⟨ret_get A4.out.1.symm A4.out.2.1.symm A4.out.2.2.symm, by assumption⟩
  · have A := H1.out h1 h2
    have A : Hid (gn s = 0 ∧ gr s = ⟨#[]⟩ ∧ ge s = 3) := A
    clear H1 H2 H3 H4 h1 HZ
    go_wp2_with fail
    go_ret3
    exact ⟨ret_get A.out.1.symm A.out.2.1.symm A.out.2.2.symm, Below.refl _ _⟩
  · have A := H2.out h1 h2
    have A : Hid (gn s = 0 ∧ gr s = ⟨#[]⟩ ∧ ge s = 4) := A
    clear H1 H2 H3 H4 h1 HZ
    go_wp2_with fail
    go_ret3
    exact ⟨ret_get A.out.1.symm A.out.2.1.symm A.out.2.2.symm, Below.refl _ _⟩
end Go.Proofs.Ytgebfpncapfaoaa.pk
