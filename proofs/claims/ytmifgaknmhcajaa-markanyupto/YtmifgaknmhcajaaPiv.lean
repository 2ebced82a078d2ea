/- Choosing a pivot keeps what there is. -/
import Derived.Test.YtmifgaknmhcajaaSrt
namespace Go.Proofs.Ytmifgaknmhcajaa
open Go.RowKit
set_option linter.unusedVariables false

/-- The row as it was, and a counter in block h. -/
def srb (w0 : World) (g n c : Nat) (L0 : List Nat) (h : Nat) (wr : World) : Prop :=
  srd w0 g n c L0 wr ∧ h ≠ g ∧ w0.heap.size ≤ h ∧ ∃ v : Int, wr.cell? ⟨h, 0, none⟩ = some (.int .i64 v) ∧ wr.frozen? ⟨h, 0, none⟩ = false
section
variable {w0 wr : World} {g n c : Nat} {L0 : List Nat} {h : Nat}
theorem srb_drewN (s : srb w0 g n c L0 h wr) (m : Nat) : srb w0 g n c L0 h (wr.drewN m) := ⟨srd_drewN s.1 m, s.2⟩
theorem srb_put (s : srb w0 g n c L0 h wr) (v : Int) : srb w0 g n c L0 h (wr.setCell ⟨h, 0, none⟩ (.int .i64 v)) := by
  obtain ⟨h1, h2, h3, u, hc, hf⟩ := s
  refine ⟨srd_other h1 h2 h3 _, h2, h3, v, ?_, ?_⟩
  · rw [World.cell?_setCell_same (h := hc)]
  · rw [World.frozen?_setCell]; exact hf
end

set_option maxRecDepth 20000 in
set_option maxHeartbeats 1000000 in
theorem order2_any (w0 : World) (g n c : Nat) (L0 : List Nat) (h a b : Nat) (w : World) (s : srb w0 g n c L0 h w) (hn : n ≤ 1152921504606846976) (ha : a < n) (hb : b < n) :
    Calls Try.prog 41 #[.slice (some ⟨g, 0, none⟩) n c, .int .i64 a, .int .i64 b, .pointer (some ⟨h, 0, none⟩)] w fun e w' => ∃ (p q : Nat), e = .returned (.tuple #[.int .i64 p, .int .i64 q]) ∧ (p = a ∧ q = b ∨ p = b ∧ q = a) ∧ srb w0 g n c L0 h w' := by
  obtain ⟨x, ci, fi⟩ := srd_cell s.1 hb
  obtain ⟨y, cj, fj⟩ := srd_cell s.1 ha
  have HS : Hid (srb w0 g n c L0 h w) := s
  clear s
  go_enter Try.func41, Try.ntmps41
  go_wp2_with fail
  go_quiet ((go_at_call 30; exact Calls.quiet_of_same (Less_any _ _ _)))
  generalize decide (x < y) = bb
  have HS2 : Hid (srb w0 g n c L0 h (w.drewN nq)) := srb_drewN HS.out nq
  generalize w.drewN nq = w1 at HS2 ⊢
  clear HS ci fi cj fj
  cases bb
  · go_wp2_with fail
    exact bodyPost_ret (v := .tuple #[.int .i64 a, .int .i64 b]) (by simp [results, Try.results41, go_sem]) rfl ⟨a, b, rfl, .inl ⟨rfl, rfl⟩, HS2.out⟩
  · obtain ⟨_, _, _, v, hc, hf⟩ := HS2.out
    have HP : Hid (∀ u, srb w0 g n c L0 h (w1.setCell ⟨h, 0, none⟩ (.int .i64 u))) := fun u => srb_put HS2.out u
    go_wp2_with fail
    exact bodyPost_ret (v := .tuple #[.int .i64 b, .int .i64 a]) (by simp [results, Try.results41, go_sem]) rfl ⟨b, a, rfl, .inr ⟨rfl, rfl⟩, HP.out _⟩

set_option maxRecDepth 20000 in
set_option maxHeartbeats 1000000 in
theorem median_any (w0 : World) (g n c : Nat) (L0 : List Nat) (h a b d : Nat) (w : World) (s : srb w0 g n c L0 h w) (hn : n ≤ 1152921504606846976) (ha : a < n) (hb : b < n) (hd : d < n) :
    Calls Try.prog 39 #[.slice (some ⟨g, 0, none⟩) n c, .int .i64 a, .int .i64 b, .int .i64 d, .pointer (some ⟨h, 0, none⟩)] w fun e w' => ∃ (p : Nat), e = .returned (.int .i64 p) ∧ (p = a ∨ p = b ∨ p = d) ∧ srb w0 g n c L0 h w' := by
  have HS : Hid (srb w0 g n c L0 h w) := s
  clear s
  go_enter Try.func39, Try.ntmps39
  go_wp2_with fail
  refine (order2_any w0 g n c L0 h a b _ HS.out hn ha hb).mono ?_
  rintro e w1 ⟨p1, q1, rfl, hpq1, s1⟩
  have HS1 : Hid (srb w0 g n c L0 h w1) := s1
  have HP1 : Hid (p1 = a ∧ q1 = b ∨ p1 = b ∧ q1 = a) := hpq1
  clear HS s1 hpq1
  have hq1 : q1 < n := by have := HP1.out; omega
  have hp1 : p1 < n := by have := HP1.out; omega
  go_wp2_with fail
  refine (order2_any w0 g n c L0 h q1 d _ HS1.out hn hq1 hd).mono ?_
  rintro e w2 ⟨p2, q2, rfl, hpq2, s2⟩
  have HS2 : Hid (srb w0 g n c L0 h w2) := s2
  have HP2 : Hid (p2 = q1 ∧ q2 = d ∨ p2 = d ∧ q2 = q1) := hpq2
  clear HS1 s2 hpq2
  have hp2 : p2 < n := by have := HP2.out; omega
  go_wp2_with fail
  refine (order2_any w0 g n c L0 h p1 p2 _ HS2.out hn hp1 hp2).mono ?_
  rintro e w3 ⟨p3, q3, rfl, hpq3, s3⟩
  have HS3 : Hid (srb w0 g n c L0 h w3) := s3
  have HP3 : Hid (p3 = p1 ∧ q3 = p2 ∨ p3 = p2 ∧ q3 = p1) := hpq3
  clear HS2 s3 hpq3
  go_wp2_with fail
  go_ret
  exact ⟨q3, rfl, by have h1 := HP1.out; have h2 := HP2.out; have h3 := HP3.out; omega, HS3.out⟩

set_option maxRecDepth 20000 in
set_option maxHeartbeats 1000000 in
theorem medianAdj_any (w0 : World) (g n c : Nat) (L0 : List Nat) (h A : Nat) (w : World) (s : srb w0 g n c L0 h w) (hn : n ≤ 1152921504606846976) (h1 : 1 ≤ A) (h2 : A + 1 < n) :
    Calls Try.prog 38 #[.slice (some ⟨g, 0, none⟩) n c, .int .i64 A, .pointer (some ⟨h, 0, none⟩)] w fun e w' => ∃ (p : Nat), e = .returned (.int .i64 p) ∧ (A ≤ p + 1 ∧ p ≤ A + 1) ∧ srb w0 g n c L0 h w' := by
  have HS : Hid (srb w0 g n c L0 h w) := s
  clear s
  obtain ⟨a, hA0⟩ : ∃ a : Nat, (A : Int) - 1 = (a : Int) := ⟨A - 1, by omega⟩
  obtain ⟨A2, hA2⟩ : ∃ A2 : Nat, (A : Int) + 1 = (A2 : Int) := ⟨A + 1, by omega⟩
  go_enter Try.func38, Try.ntmps38
  go_wp2_with fail
  refine (median_any w0 g n c L0 h a A A2 _ HS.out hn (by omega) (by omega) (by omega)).mono ?_
  rintro e w1 ⟨p, rfl, hp, s1⟩
  have HS1 : Hid (srb w0 g n c L0 h w1) := s1
  have HP : Hid (p = a ∨ p = A ∨ p = A2) := hp
  clear hp s1
  go_wp2_with fail
  go_ret
  exact ⟨p, rfl, by have := HP.out; omega, HS1.out⟩
theorem srb_new (w0 w : World) (g n c : Nat) (L0 : List Nat) (h : srd w0 g n c L0 w) : srb w0 g n c L0 w.heap.size (w.alloc (.cells #[.int .i64 0] 3)) := by
  have hb := srd_base h
  refine ⟨srd_below h (alloc_below _ _), by omega, h.1.size, 0, new_at w [.int .i64 0] 3 0, ?_⟩
  simp

set_option maxRecDepth 20000 in
set_option maxHeartbeats 2000000 in
theorem choose_any (w0 : World) (g n c : Nat) (L0 : List Nat) (a b : Nat) (w : World) (h : srd w0 g n c L0 w) (hn : n ≤ 1152921504606846976) (hab : a + 12 < b) (hb : b ≤ n) :
    Calls Try.prog 27 #[.slice (some ⟨g, 0, none⟩) n c, .int .i64 a, .int .i64 b] w fun e w' => ∃ (p : Nat) (k : Int), e = .returned (.tuple #[.int .i64 p, .int .i64 k]) ∧ a ≤ p ∧ p < b ∧ srd w0 g n c L0 w' := by
  have HS : Hid (srb w0 g n c L0 w.heap.size (w.alloc (.cells #[.int .i64 0] 3))) := srb_new w0 w g n c L0 h
  clear h
  obtain ⟨W, hW⟩ : ∃ W : Nat, (b : Int) - (a : Int) = (W : Int) := ⟨b - a, by omega⟩
  have hW8 : 12 < W := by omega
  obtain ⟨Q, hQ⟩ : ∃ Q : Nat, (W : Int) / 4 = (Q : Int) := ⟨W / 4, by omega⟩
  have hQ1 : 4 * Q ≤ W := by omega
  have hQ2 : 3 ≤ Q := by omega
  obtain ⟨I, hI⟩ : ∃ I : Nat, (a : Int) + (Q : Int) = (I : Int) := ⟨a + Q, by omega⟩
  obtain ⟨J, hJ⟩ : ∃ J : Nat, (a : Int) + (Q : Int) * 2 = (J : Int) := ⟨a + Q * 2, by omega⟩
  obtain ⟨K, hK⟩ : ∃ K : Nat, (a : Int) + (Q : Int) * 3 = (K : Int) := ⟨a + Q * 3, by omega⟩
  have hIb : I + 1 < b ∧ 1 ≤ I ∧ a + 2 < I := by omega
  have hJb : J + 1 < b ∧ 1 ≤ J ∧ a + 2 < J := by omega
  have hKb : K + 1 < b ∧ 1 ≤ K ∧ a + 2 < K := by omega
  by_cases h50 : 50 ≤ W
  · go_enter Try.func27, Try.ntmps27
    go_wp2_with fail
    refine (medianAdj_any w0 g n c L0 w.heap.size I _ HS.out hn (by omega) (by omega)).mono ?_
    rintro e w1 ⟨p1, rfl, hp1, s1⟩
    have HS1 : Hid (srb w0 g n c L0 w.heap.size w1) := s1
    clear HS s1
    go_wp2_with fail
    refine (medianAdj_any w0 g n c L0 w.heap.size J _ HS1.out hn (by omega) (by omega)).mono ?_
    rintro e w2 ⟨p2, rfl, hp2, s2⟩
    have HS2 : Hid (srb w0 g n c L0 w.heap.size w2) := s2
    clear HS1 s2
    go_wp2_with fail
    refine (medianAdj_any w0 g n c L0 w.heap.size K _ HS2.out hn (by omega) (by omega)).mono ?_
    rintro e w3 ⟨p3, rfl, hp3, s3⟩
    have HS3 : Hid (srb w0 g n c L0 w.heap.size w3) := s3
    clear HS2 s3
    go_wp2_with fail
    refine (median_any w0 g n c L0 w.heap.size p1 p2 p3 _ HS3.out hn (by omega) (by omega) (by omega)).mono ?_
    rintro e w4 ⟨p, rfl, hp, s4⟩
    have HS4 : Hid (srb w0 g n c L0 w.heap.size w4) := s4
    have hpb : a ≤ p ∧ p < b := by omega
    clear HS3 s4 hp
    obtain ⟨_, _, _, v, hc, hf⟩ := HS4.out
    have HR : Hid (srd w0 g n c L0 w4) := HS4.out.1
    clear HS4 hf
    by_cases v0 : v = 0
    · subst v0
      go_wp2_with fail
      exact bodyPost_ret (v := .tuple #[.int .i64 p, .int .i64 1]) (by simp [results, Try.results27, go_sem]) rfl ⟨p, 1, rfl, by omega, by omega, HR.out⟩
    · have e0 : (v == 0) = false := beq_eq_false_iff_ne.2 v0
      by_cases v1 : v = 12
      · subst v1
        go_wp2_with fail
        exact bodyPost_ret (v := .tuple #[.int .i64 p, .int .i64 2]) (by simp [results, Try.results27, go_sem]) rfl ⟨p, 2, rfl, by omega, by omega, HR.out⟩
      · have e1 : (v == 12) = false := beq_eq_false_iff_ne.2 v1
        go_wp2_with fail
        exact bodyPost_ret (v := .tuple #[.int .i64 p, .int .i64 0]) (by simp [results, Try.results27, go_sem]) rfl ⟨p, 0, rfl, by omega, by omega, HR.out⟩
  · go_enter Try.func27, Try.ntmps27
    go_wp2_with fail
    refine (median_any w0 g n c L0 w.heap.size I J K _ HS.out hn (by omega) (by omega) (by omega)).mono ?_
    rintro e w4 ⟨p, rfl, hp, s4⟩
    have HS4 : Hid (srb w0 g n c L0 w.heap.size w4) := s4
    have hpb : a ≤ p ∧ p < b := by omega
    clear HS s4 hp
    obtain ⟨_, _, _, v, hc, hf⟩ := HS4.out
    have HR : Hid (srd w0 g n c L0 w4) := HS4.out.1
    clear HS4 hf
    by_cases v0 : v = 0
    · subst v0
      go_wp2_with fail
      exact bodyPost_ret (v := .tuple #[.int .i64 p, .int .i64 1]) (by simp [results, Try.results27, go_sem]) rfl ⟨p, 1, rfl, by omega, by omega, HR.out⟩
    · have e0 : (v == 0) = false := beq_eq_false_iff_ne.2 v0
      by_cases v1 : v = 12
      · subst v1
        go_wp2_with fail
        exact bodyPost_ret (v := .tuple #[.int .i64 p, .int .i64 2]) (by simp [results, Try.results27, go_sem]) rfl ⟨p, 2, rfl, by omega, by omega, HR.out⟩
      · have e1 : (v == 12) = false := beq_eq_false_iff_ne.2 v1
        go_wp2_with fail
        exact bodyPost_ret (v := .tuple #[.int .i64 p, .int .i64 0]) (by simp [results, Try.results27, go_sem]) rfl ⟨p, 0, rfl, by omega, by omega, HR.out⟩
end Go.Proofs.Ytmifgaknmhcajaa
