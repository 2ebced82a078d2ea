/- What each function of package luck, and of the document's answer to it, returns: one contract a function. -/
import Derived.Test.YtefgmgapiknemaaRows
import Derived.Test.YtefgmgapiknemaaMath
import Derived.WalkKit
import Derived.WalkSpells
import Derived.WalkLawsBesides
import Derived.Laws.BitsAllLaws
namespace Go.Proofs.Ytefgmgapiknemaa
open Go.RowKit
set_option linter.unusedVariables false

theorem ret_int {k : IntKind} {a b : Int} (h : a = b) : Ending.returned (.int k a) = .returned (.int k b) := by rw [h]

set_option maxHeartbeats 400000 in
theorem Next_any (s : Nat) (w : World) :
    Calls Try.prog 12 #[.int .u32 s] w fun e w' => e = .returned (.int .u32 (nx s)) ∧ w' = w := by
  go_enter Try.func12, Try.ntmps12
  go_wp2
  go_ret
  exact ⟨ret_int (by unfold nx; omega), rfl⟩
set_option maxHeartbeats 400000 in
theorem Back_any (s : Nat) (w : World) :
    Calls Try.prog 14 #[.int .u32 s] w fun e w' => e = .returned (.int .u32 (bk s)) ∧ w' = w := by
  go_enter Try.func14, Try.ntmps14
  go_wp2
  go_ret
  exact ⟨ret_int (by unfold bk; omega), rfl⟩
set_option maxHeartbeats 400000 in
theorem LuckNext_any (s : Nat) (w : World) (h : (s : Int) < 4294967296) :
    Calls Try.prog 13 #[.int .u32 s] w fun e w' => e = .returned (.int .u32 (nx s)) ∧ w' = w := by
  go_enter Try.func13, Try.ntmps13
  go_wp2
  go_ret
  exact ⟨ret_int (by unfold nx; omega), rfl⟩

theorem Next_at (s : Nat) (t : Int) (w : World) (ht : Hid ((nx s : Int) = t)) :
    Calls Try.prog 12 #[.int .u32 s] w fun e w' => e = .returned (.int .u32 t) ∧ w' = w := by
  rw [← ht.out]; exact Next_any s w

set_option maxHeartbeats 400000 in
theorem Pick_at (s : Nat) (t n : Int) (w : World) (ht : Hid ((nx s : Int) = t)) (t0 : 0 ≤ t) (t1 : t < 4294967296) (h1 : 1 ≤ n) (h2 : n ≤ 65536) (p1 : 0 ≤ t / 65536 * n) (p2 : t / 65536 * n < 4294967296) :
    Calls Try.prog 10 #[.int .u32 s, .int .i64 n] w fun e w' => e = .returned (.tuple #[.int .i64 (t / 65536 * n / 65536), .int .u32 t, .int .i64 0]) ∧ w' = w := by
  go_enter Try.func10, Try.ntmps10
  go_wp2_with (go_at_call 12; refine (Next_at _ _ _ ht).mono ?_; rintro e w' ⟨rfl, rfl⟩)
  refine bodyPost_ret (v := .tuple #[.int .i64 (t / 65536 * n / 65536), .int .u32 t, .int .i64 0]) (by simp [results, Try.results10, go_sem]) rfl ⟨rfl, rfl⟩
set_option maxHeartbeats 400000 in
theorem mod32_any (a b : Int) (w : World) (a0 : 0 ≤ a) (a1 : a < 4294967296) (b0 : 0 ≤ b) (b1 : b < 4294967296) :
    Calls Try.prog 26 #[.int .i64 a, .int .i64 b] w fun e w' => e = .returned (.int .i64 (a * b % 4294967296)) ∧ w' = w := by
  have p1 : 0 ≤ a % 65536 * b := Int.mul_nonneg (by omega) (by omega)
  have p2 : a % 65536 * b ≤ 281474976710656 := by
    have := Int.mul_le_mul (a := a % 65536) (b := b) (c := 65536) (d := 4294967296) (by omega) (by omega) (by omega) (by omega)
    omega
  have q1 : 0 ≤ a / 65536 * b := Int.mul_nonneg (by omega) (by omega)
  have q2 : a / 65536 * b ≤ 281474976710656 := by
    have := Int.mul_le_mul (a := a / 65536) (b := b) (c := 65536) (d := 4294967296) (by omega) (by omega) (by omega) (by omega)
    omega
  have E : Hid (a * b = a % 65536 * b + a / 65536 * b * 65536) := by
    have e := Int.mul_ediv_add_emod a 65536
    have : a * b = (65536 * (a / 65536) + a % 65536) * b := by rw [e]
    show a * b = _
    rw [this, Int.add_mul, Int.add_comm, Int.mul_assoc, Int.mul_comm 65536 (a / 65536 * b)]
  go_enter Try.func26, Try.ntmps26
  go_wp2
  go_ret
  refine ⟨ret_int ?_, rfl⟩
  have := E.out
  generalize a % 65536 * b = x at *
  generalize a / 65536 * b = y at *
  generalize a * b = z at *
  omega

theorem Pick_any (s : Nat) (n : Int) (w : World) (h1 : 1 ≤ n) (h2 : n ≤ 65536) :
    Calls Try.prog 10 #[.int .u32 s, .int .i64 n] w fun e w' => e = .returned (.tuple #[.int .i64 (pk s n.toNat), .int .u32 (nx s), .int .i64 0]) ∧ w' = w := by
  have t1 := nx_lt s
  have p1 : 0 ≤ (nx s : Int) / 65536 * n := Int.mul_nonneg (by omega) (by omega)
  have p2 : (nx s : Int) / 65536 * n < 4294967296 := by
    have := Int.mul_le_mul (a := (nx s : Int) / 65536) (b := n) (c := 65535) (d := 65536) (by omega) (by omega) (by omega) (by omega)
    omega
  have := Pick_at s (nx s) n w rfl (by omega) (by omega) h1 h2 p1 p2
  have e : ((pk s n.toNat : Nat) : Int) = (nx s : Int) / 65536 * n / 65536 := by
    unfold pk
    rw [Int.natCast_ediv, Int.natCast_mul, Int.natCast_ediv, Int.toNat_of_nonneg (by omega)]; rfl
  rw [e]; exact this

set_option maxHeartbeats 400000 in
theorem Pick_no (s : Nat) (n : Int) (w : World) (h : n < 1 ∨ 65536 < n) :
    Calls Try.prog 10 #[.int .u32 s, .int .i64 n] w fun e w' => e = .returned (.tuple #[.int .i64 0, .int .u32 s, .int .i64 1]) ∧ w' = w := by
  rcases h with h | h
  · go_enter Try.func10, Try.ntmps10
    go_wp2_with fail
    exact bodyPost_ret (v := .tuple #[.int .i64 0, .int .u32 s, .int .i64 1]) (by simp [results, Try.results10, go_sem]) rfl ⟨rfl, rfl⟩
  · go_enter Try.func10, Try.ntmps10
    go_wp2_with fail
    exact bodyPost_ret (v := .tuple #[.int .i64 0, .int .u32 s, .int .i64 1]) (by simp [results, Try.results10, go_sem]) rfl ⟨rfl, rfl⟩

theorem val_int {k : IntKind} {a b : Int} (h : a = b) : Value.int k a = .int k b := by rw [h]

theorem and_one (N : Nat) (h : (N : Int) ≤ 4294967296) : bits .and .u64 (N : Int) 1 = ((N % 2 : Nat) : Int) := by
  have := u64_and_nat N 1 (by omega) (by omega)
  rw [nat_mask1] at this; exact this

set_option maxHeartbeats 400000 in
theorem leap_any (s n : Nat) (w : World) (hs : s < 4294967296) (h : n ≤ 4294967296) :
    Calls Try.prog 23 #[.int .u32 s, .int .u64 n] w fun e w' => e = .returned (.int .u32 (sk s n)) ∧ w' = w := by
  have HS : Hid (s < 4294967296) := hs
  have HN : Hid (n ≤ 4294967296) := h
  clear hs h
  go_enter Try.func23, Try.ntmps23
  go_wp2
  go_loop [0, 1, 5, 6] (fun a b c d => ∃ S N T A : Nat, a = .int .u32 S ∧ b = .int .u64 N ∧ c = .int .u32 T ∧ d = .int .u32 A ∧ linv s n S N T A) (fun _ b _ _ => (intOf b).toNat)
  case atStart => exact ⟨s, n, 1664525, 1013904223, rfl, rfl, rfl, rfl, linv_start s n⟩
  case round =>
    obtain ⟨S, N, T, A, rfl, rfl, rfl, rfl, hi⟩ := hrel
    have hle : (N : Int) ≤ 4294967296 := by have := linv_le hi; have := HN.out; omega
    by_cases h0 : 0 < N
    · by_cases ho : N % 2 = 1
      · have ha : bits .and .u64 (N : Int) 1 = 1 := by rw [and_one N hle, ho]; rfl
        have HO : Hid (N % 2 = 1) := ho
        clear ho
        go_wp2
        go_round
        case rel => exact ⟨_, _, _, _, val_int (by omega), val_int (by omega), val_int (by omega), val_int (by omega), linv_odd HS.out hi HO.out⟩
        case measure => simp [intOf]; omega
      · have ho' : N % 2 = 0 := by omega
        have ha : bits .and .u64 (N : Int) 1 = 0 := by rw [and_one N hle, ho']; rfl
        have HO : Hid (N % 2 = 0) := ho'
        clear ho ho'
        go_wp2
        go_round
        case rel => exact ⟨_, _, _, _, rfl, val_int (by omega), val_int (by omega), val_int (by omega), linv_even hi HO.out⟩
        case measure => simp [intOf]; omega
    · obtain rfl : N = 0 := by omega
      go_wp2
      go_ret
      exact ⟨ret_int (by rw [linv_end hi]), rfl⟩

theorem leap_at (s A : Nat) (n : Int) (w : World) (hs : s < 4294967296) (h0 : 0 ≤ n) (h : n ≤ 4294967296) (ha : Hid (sk s n.toNat = A)) :
    Calls Try.prog 23 #[.int .u32 s, .int .u64 n] w fun e w' => e = .returned (.int .u32 A) ∧ w' = w := by
  have := leap_any s n.toNat w hs (by omega)
  rw [Int.toNat_of_nonneg h0, ha.out] at this; exact this

set_option maxHeartbeats 400000 in
theorem Skip_at (s A : Nat) (n : Int) (w : World) (hs : Hid (s < 4294967296)) (h0 : 0 ≤ n) (h : n ≤ 4294967296) (ha : Hid (sk s n.toNat = A)) :
    Calls Try.prog 9 #[.int .u32 s, .int .i64 n] w fun e w' => e = .returned (.tuple #[.int .u32 A, .int .i64 0]) ∧ w' = w := by
  go_enter Try.func9, Try.ntmps9
  go_wp2_with (go_at_call 23; refine (leap_at _ _ _ _ hs.out h0 h ha).mono ?_; rintro e w' ⟨rfl, rfl⟩)
  go_ret2
  exact ⟨rfl, rfl⟩

set_option maxHeartbeats 400000 in
theorem Skip_no (s : Nat) (n : Int) (w : World) (h : n < 0 ∨ 4294967296 < n) :
    Calls Try.prog 9 #[.int .u32 s, .int .i64 n] w fun e w' => e = .returned (.tuple #[.int .u32 0, .int .i64 1]) ∧ w' = w := by
  rcases h with h | h
  · go_enter Try.func9, Try.ntmps9
    go_wp2_with fail
    go_ret2
    exact ⟨rfl, rfl⟩
  · go_enter Try.func9, Try.ntmps9
    go_wp2_with fail
    go_ret2
    exact ⟨rfl, rfl⟩

set_option maxHeartbeats 400000 in
theorem luckLives_any (w : World) :
    Calls Try.prog 20 #[] w fun e w' => e = .returned (.bool true) ∧ w' = w := by
  have c1 := fun w => Skip_at 0 1013904223 1 w (show (0 : Nat) < 4294967296 by decide) (by decide) (by decide) (show sk 0 1 = 1013904223 by decide)
  have c2 := fun w => Next_any 0 w
  rw [show nx 0 = 1013904223 by decide] at c2
  have c3 := fun w => Back_any 1013904223 w
  rw [show bk 1013904223 = 0 by decide] at c3
  have C1 : Hid (∀ w : World, _) := c1
  have C2 : Hid (∀ w : World, _) := c2
  have C3 : Hid (∀ w : World, _) := c3
  clear c1 c2 c3
  go_enter Try.func20, Try.ntmps20
  go_wp2_with (first | (go_at_call 9; refine (C1.out _).mono ?_; rintro e w' ⟨rfl, rfl⟩) | (go_at_call 12; refine (C2.out _).mono ?_; rintro e w' ⟨rfl, rfl⟩) | (go_at_call 14; refine (C3.out _).mono ?_; rintro e w' ⟨rfl, rfl⟩))
  go_ret
  exact ⟨rfl, rfl⟩

theorem steps_zero (w : World) : Calls Try.prog 25 #[.int .i64 0] w fun e w' => e = .returned (.tuple #[.int .i64 1, .int .i64 0]) ∧ w' = w := by
  go_enter Try.func25, Try.ntmps25
  go_wp2_with fail
  go_ret2
  exact ⟨rfl, rfl⟩

set_option maxHeartbeats 1000000 in
theorem steps_step (n F A : Int) (w : World) (n0 : 0 < n) (n1 : n ≤ 4294967296) (f0 : 0 ≤ F) (f1 : F < 4294967296) (a0 : 0 ≤ A) (a1 : A < 4294967296)
    (IH : Hid (∀ w, Calls Try.prog 25 #[.int .i64 (n / 2)] w fun e w' => e = .returned (.tuple #[.int .i64 F, .int .i64 A]) ∧ w' = w)) (ho : n % 2 = 1) :
    Calls Try.prog 25 #[.int .i64 n] w fun e w' => e = .returned (.tuple #[.int .i64 (F * F % 4294967296 * 1664525 % 4294967296), .int .i64 (((A * F + A) % 4294967296 * 1664525 % 4294967296 + 1013904223) % 4294967296)]) ∧ w' = w := by
  go_enter Try.func25, Try.ntmps25
  go_wp2_with (first | (go_at_call 25; refine (IH.out _).mono ?_; rintro e w' ⟨rfl, rfl⟩) | (go_at_call 26; refine (mod32_any _ _ _ (by omega) (by omega) (by omega) (by omega)).mono ?_; rintro e w' ⟨rfl, rfl⟩))
  go_ret2
  exact ⟨rfl, rfl⟩

set_option maxHeartbeats 1000000 in
theorem steps_half (n F A : Int) (w : World) (n0 : 0 < n) (n1 : n ≤ 4294967296) (f0 : 0 ≤ F) (f1 : F < 4294967296) (a0 : 0 ≤ A) (a1 : A < 4294967296)
    (IH : Hid (∀ w, Calls Try.prog 25 #[.int .i64 (n / 2)] w fun e w' => e = .returned (.tuple #[.int .i64 F, .int .i64 A]) ∧ w' = w)) (ho : n % 2 = 0) :
    Calls Try.prog 25 #[.int .i64 n] w fun e w' => e = .returned (.tuple #[.int .i64 (F * F % 4294967296), .int .i64 ((A * F % 4294967296 + A) % 4294967296)]) ∧ w' = w := by
  go_enter Try.func25, Try.ntmps25
  go_wp2_with (first | (go_at_call 25; refine (IH.out _).mono ?_; rintro e w' ⟨rfl, rfl⟩) | (go_at_call 26; refine (mod32_any _ _ _ (by omega) (by omega) (by omega) (by omega)).mono ?_; rintro e w' ⟨rfl, rfl⟩))
  go_ret2
  exact ⟨rfl, rfl⟩

theorem luckSteps_any (n : Nat) : n ≤ 4294967296 → ∀ w : World,
    Calls Try.prog 25 #[.int .i64 n] w fun e w' => e = .returned (.tuple #[.int .i64 (lf n), .int .i64 (la n)]) ∧ w' = w := by
  induction n using Nat.strongRecOn with
  | _ n ih =>
    intro hn w
    by_cases h0 : n = 0
    · subst h0; exact steps_zero w
    · have h := ih (n / 2) (by omega) (by omega)
      have f1 := lf_lt (n / 2)
      have a1 := la_lt (n / 2)
      by_cases ho : n % 2 = 1
      · have := steps_step n (lf (n / 2)) (la (n / 2)) w (by omega) (by omega) (by omega) (by omega) (by omega) (by omega) h (by omega)
        rw [(steps_odd ho).1, (steps_odd ho).2] at this; exact this
      · have ho : n % 2 = 0 := by omega
        have := steps_half n (lf (n / 2)) (la (n / 2)) w (by omega) (by omega) (by omega) (by omega) (by omega) (by omega) h (by omega)
        rw [(steps_even ho).1, (steps_even ho).2] at this; exact this

set_option maxHeartbeats 400000 in
theorem Lucks_in (s n F A : Int) (w : World) (s0 : 0 ≤ s) (s1 : s < 4294967296) (f0 : 0 ≤ F) (f1 : F < 4294967296) (a0 : 0 ≤ A) (a1 : A < 4294967296)
    (IH : Hid (∀ w, Calls Try.prog 25 #[.int .i64 n] w fun e w' => e = .returned (.tuple #[.int .i64 F, .int .i64 A]) ∧ w' = w)) :
    Calls Try.prog 16 #[.int .u32 s, .int .i64 n] w fun e w' => e = .returned (.int .u32 ((F * s + A) % 4294967296)) ∧ w' = w := by
  go_enter Try.func16, Try.ntmps16
  go_wp2_with (first | (go_at_call 25; refine (IH.out _).mono ?_; rintro e w' ⟨rfl, rfl⟩) | (go_at_call 26; refine (mod32_any _ _ _ (by omega) (by omega) (by omega) (by omega)).mono ?_; rintro e w' ⟨rfl, rfl⟩))
  go_ret
  exact ⟨rfl, rfl⟩

theorem Lucks_at (s A : Nat) (n : Int) (w : World) (hs : Hid (s < 4294967296)) (h0 : 0 ≤ n) (h : n ≤ 4294967296) (ha : Hid (sk s n.toNat = A)) :
    Calls Try.prog 16 #[.int .u32 s, .int .i64 n] w fun e w' => e = .returned (.int .u32 A) ∧ w' = w := by
  have hs' := hs.out
  have f1 := lf_lt n.toNat
  have a1 := la_lt n.toNat
  have c := luckSteps_any n.toNat (by omega)
  rw [Int.toNat_of_nonneg h0] at c
  have := Lucks_in s n (lf n.toNat) (la n.toNat) w (by omega) (by omega) (by omega) (by omega) (by omega) (by omega) c
  rw [lucks_eq hs', ha.out] at this; exact this

theorem LuckNext_at (s : Nat) (t : Int) (w : World) (hs : Hid (s < 4294967296)) (ht : Hid ((nx s : Int) = t)) :
    Calls Try.prog 13 #[.int .u32 s] w fun e w' => e = .returned (.int .u32 t) ∧ w' = w := by
  rw [← ht.out]; exact LuckNext_any s w (by have := hs.out; omega)
theorem Back_at (s : Nat) (t : Int) (w : World) (ht : Hid ((bk s : Int) = t)) :
    Calls Try.prog 14 #[.int .u32 s] w fun e w' => e = .returned (.int .u32 t) ∧ w' = w := by
  rw [← ht.out]; exact Back_any s w

set_option maxHeartbeats 400000 in
theorem Luck_in (s : Nat) (t n : Int) (w : World) (hs : Hid (s < 4294967296)) (ht : Hid ((nx s : Int) = t)) (t0 : 0 ≤ t) (t1 : t < 4294967296) (h1 : 1 ≤ n) (h2 : n ≤ 65536) (p1 : 0 ≤ t / 65536 * n) (p2 : t / 65536 * n < 4294967296) :
    Calls Try.prog 17 #[.int .u32 s, .int .i64 n] w fun e w' => e = .returned (.tuple #[.int .i64 (t / 65536 * n / 65536), .int .u32 t]) ∧ w' = w := by
  go_enter Try.func17, Try.ntmps17
  go_wp2_with (go_at_call 13; refine (LuckNext_at _ _ _ hs ht).mono ?_; rintro e w' ⟨rfl, rfl⟩)
  go_ret2
  exact ⟨rfl, rfl⟩

theorem pk_int (s : Nat) (n : Int) (h1 : 1 ≤ n) : ((pk s n.toNat : Nat) : Int) = (nx s : Int) / 65536 * n / 65536 := by
  unfold pk
  rw [Int.natCast_ediv, Int.natCast_mul, Int.natCast_ediv, Int.toNat_of_nonneg (by omega)]; rfl

theorem pk_bds (s : Nat) (n : Int) (h1 : 1 ≤ n) (h2 : n ≤ 65536) : 0 ≤ (nx s : Int) / 65536 * n ∧ (nx s : Int) / 65536 * n < 4294967296 := by
  have t1 := nx_lt s
  refine ⟨Int.mul_nonneg (by omega) (by omega), ?_⟩
  have := Int.mul_le_mul (a := (nx s : Int) / 65536) (b := n) (c := 65535) (d := 65536) (by omega) (by omega) (by omega) (by omega)
  omega

theorem Luck_at (s p t : Nat) (n : Int) (w : World) (hs : Hid (s < 4294967296)) (h1 : 1 ≤ n) (h2 : n ≤ 65536) (hp : Hid (pk s n.toNat = p)) (ht : Hid (nx s = t)) :
    Calls Try.prog 17 #[.int .u32 s, .int .i64 n] w fun e w' => e = .returned (.tuple #[.int .i64 p, .int .u32 t]) ∧ w' = w := by
  have t1 := nx_lt s
  have := Luck_in s (nx s) n w hs rfl (by omega) (by omega) h1 h2 (pk_bds s n h1 h2).1 (pk_bds s n h1 h2).2
  rw [← pk_int s n h1, hp.out, ht.out] at this; exact this

theorem Pick_is (s p t : Nat) (n : Int) (w : World) (h1 : 1 ≤ n) (h2 : n ≤ 65536) (hp : Hid (pk s n.toNat = p)) (ht : Hid (nx s = t)) :
    Calls Try.prog 10 #[.int .u32 s, .int .i64 n] w fun e w' => e = .returned (.tuple #[.int .i64 p, .int .u32 t, .int .i64 0]) ∧ w' = w := by
  have := Pick_any s n w h1 h2
  rw [hp.out, ht.out] at this; exact this

set_option maxHeartbeats 400000 in
theorem Between_any (n lo hi : Int) (w : World) :
    Calls Try.prog 15 #[.int .i64 n, .int .i64 lo, .int .i64 hi] w fun e w' => e = .returned (.bool (decide (lo ≤ n) && decide (n ≤ hi))) ∧ w' = w := by
  go_enter Try.func15, Try.ntmps15
  go_wp2
  all_goals
    go_ret
    exact ⟨by simp_all <;> omega, rfl⟩
end Go.Proofs.Ytefgmgapiknemaa
