/- Plain facts on whole numbers, no Go in sight: a number kept within its bounds, division rounded down, and the root that is rounded down. -/
namespace Go.Proofs.Ytkkpfblgackidaa

/-- a number, kept -/
def kp (n : Int) : Int := if n < -2147483647 then -2147483647 else if 2147483647 < n then 2147483647 else n

theorem kp_lo (n : Int) : -2147483647 ≤ kp n := by unfold kp; omega
theorem kp_hi (n : Int) : kp n ≤ 2147483647 := by unfold kp; omega
theorem kp_mono {a b : Int} (h : a ≤ b) : kp a ≤ kp b := by unfold kp; omega
theorem kp_id {n : Int} (h1 : -2147483647 ≤ n) (h2 : n ≤ 2147483647) : kp n = n := by unfold kp; omega
theorem kp_kp (n : Int) : kp (kp n) = kp n := kp_id (kp_lo n) (kp_hi n)
theorem kp_zero (n : Int) : kp n = 0 ↔ n = 0 := by unfold kp; omega
theorem kp_neg (n : Int) : kp n < 0 ↔ n < 0 := by unfold kp; omega

/-- products of kept numbers stay small -/
theorem mul_bd {a b : Int} (a1 : -2147483647 ≤ a) (a2 : a ≤ 2147483647) (b1 : -2147483647 ≤ b) (b2 : b ≤ 2147483647) :
    -4611686014132420609 ≤ a * b ∧ a * b ≤ 4611686014132420609 := by
  have h1 : (2147483647 - a) * (2147483647 + b) ≥ 0 := Int.mul_nonneg (by omega) (by omega)
  have h2 : (2147483647 + a) * (2147483647 - b) ≥ 0 := Int.mul_nonneg (by omega) (by omega)
  have h3 : (2147483647 - a) * (2147483647 - b) ≥ 0 := Int.mul_nonneg (by omega) (by omega)
  have h4 : (2147483647 + a) * (2147483647 + b) ≥ 0 := Int.mul_nonneg (by omega) (by omega)
  simp only [Int.sub_mul, Int.mul_sub, Int.add_mul, Int.mul_add] at h1 h2 h3 h4
  omega

/-- division rounded down -/
def flo (a b : Int) : Int := if b < 0 then (-a) / (-b) else a / b

theorem ediv_of {a b q : Int} (hb : 0 < b) (h1 : q * b ≤ a) (h2 : a < q * b + b) : q = a / b := by
  have e1 := (Int.le_ediv_iff_mul_le hb).2 h1
  have e2 : a / b < q + 1 := (Int.ediv_lt_iff_lt_mul hb).2 (by rw [Int.add_mul]; omega)
  omega

theorem flo_pos (a : Int) {b : Int} (hb : 0 < b) : flo a b * b ≤ a ∧ a < flo a b * b + b := by
  have e : flo a b = a / b := by unfold flo; rw [if_neg (by omega)]
  rw [e]
  have h1 := Int.ediv_mul_le a (b := b) (by omega)
  have h2 := Int.lt_ediv_add_one_mul_self a hb
  rw [Int.add_mul] at h2
  omega

theorem flo_neg (a : Int) {b : Int} (hb : b < 0) : a ≤ flo a b * b ∧ flo a b * b + b < a := by
  have e : flo a b = flo (-a) (-b) := by unfold flo; rw [if_pos hb, if_neg (by omega)]
  have h := flo_pos (-a) (b := -b) (by omega)
  rw [e]
  rw [Int.mul_neg] at h
  omega

theorem flo_mono {a c b : Int} (hb : 0 < b) (h : a ≤ c) : flo a b ≤ flo c b := by
  unfold flo; rw [if_neg (by omega), if_neg (by omega)]
  exact Int.ediv_le_ediv hb h

theorem flo_of_pos {a b q : Int} (hb : 0 < b) (h1 : q * b ≤ a) (h2 : a < q * b + b) : q = flo a b := by
  unfold flo; rw [if_neg (by omega)]; exact ediv_of hb h1 h2

theorem tdiv_pos {a b : Int} (hb : 0 < b) : (a.tmod b = 0 → a.tdiv b = flo a b) ∧ (a.tmod b ≠ 0 → a < 0 → a.tdiv b - 1 = flo a b) ∧ (0 ≤ a → a.tdiv b = flo a b) := by
  have h := Int.mul_tdiv_add_tmod a b
  rw [Int.mul_comm] at h
  have p := Int.tmod_lt_of_pos a hb
  have n := Int.tmod_lt_of_pos (-a) hb
  rw [Int.neg_tmod] at n
  have z : a < 0 → a.tmod b ≤ 0 := fun h0 => by
    have := Int.tmod_nonneg b (a := -a) (by omega)
    rw [Int.neg_tmod] at this; omega
  have z' : 0 ≤ a → 0 ≤ a.tmod b := fun h0 => Int.tmod_nonneg b h0
  refine ⟨fun e => flo_of_pos hb (by omega) (by omega), fun e e' => flo_of_pos hb ?_ ?_, fun e => flo_of_pos hb ?_ ?_⟩
  · rw [Int.sub_mul]; omega
  · rw [Int.sub_mul]; omega
  · have := z' e; omega
  · have := z' e; omega

theorem tdiv_neg' {a b : Int} (hb : b < 0) : (a.tmod b = 0 → a.tdiv b = flo a b) ∧ (a.tmod b ≠ 0 → 0 < a → a.tdiv b - 1 = flo a b) ∧ (a ≤ 0 → a.tdiv b = flo a b) := by
  have h := tdiv_pos (a := -a) (b := -b) (by omega)
  have e : flo (-a) (-b) = flo a b := by unfold flo; rw [if_pos hb, if_neg (by omega)]
  rw [e, Int.tmod_neg, Int.neg_tmod, Int.tdiv_neg, Int.neg_tdiv, Int.neg_neg] at h
  obtain ⟨x, y, z⟩ := h
  exact ⟨fun k => x (by omega), fun k k' => y (by omega) (by omega), fun k => z (by omega)⟩

theorem tdiv_bd {a b : Int} (h1 : -4611686018427387904 ≤ a) (h2 : a ≤ 4611686018427387904) : -4611686018427387904 ≤ a.tdiv b ∧ a.tdiv b ≤ 4611686018427387904 := by
  have := Int.natAbs_tdiv_le_natAbs a b
  omega

/-- r is the root of n, rounded down -/
def isRoot (n r : Int) : Prop := 0 ≤ r ∧ r * r ≤ n ∧ n < (r + 1) * (r + 1)

theorem sq_mono {a b : Int} (h0 : 0 ≤ a) (h : a ≤ b) : a * a ≤ b * b := Int.mul_le_mul h h h0 (by omega)

theorem root_le {m n r s : Int} (hr : isRoot m r) (hs : isRoot n s) (h : m ≤ n) : r ≤ s := by
  obtain ⟨a1, a2, a3⟩ := hr
  obtain ⟨b1, b2, b3⟩ := hs
  by_cases c : r ≤ s
  · exact c
  · have := sq_mono (a := s + 1) (b := r) (by omega) (by omega)
    omega

theorem root_one {n r s : Int} (hr : isRoot n r) (hs : isRoot n s) : r = s := by
  have h1 := root_le hr hs (by omega)
  have h2 := root_le hs hr (by omega)
  omega

/-- the root, rounded down, bit by bit: k bits are left -/
def rtb : Nat → Int → Int → Int
  | 0, _, r => r
  | k + 1, n, r => if (r + (2 ^ k : Nat)) * (r + (2 ^ k : Nat)) ≤ n then rtb k n (r + (2 ^ k : Nat)) else rtb k n r

theorem rtb_is (k : Nat) : ∀ n r : Int, 0 ≤ r → r * r ≤ n → n < (r + (2 ^ k : Nat)) * (r + (2 ^ k : Nat)) → isRoot n (rtb k n r) := by
  induction k with
  | zero => intro n r h0 h1 h2; exact ⟨h0, h1, h2⟩
  | succ k ih =>
    intro n r h0 h1 h2
    have e : (2 ^ (k + 1) : Nat) = 2 ^ k + 2 ^ k := by rw [Nat.pow_succ]; omega
    unfold rtb
    by_cases c : (r + (2 ^ k : Nat)) * (r + (2 ^ k : Nat)) ≤ n
    · rw [if_pos c]
      refine ih n _ (Int.add_nonneg h0 (Int.natCast_nonneg _)) c ?_
      have e2 : r + (2 ^ k : Nat) + (2 ^ k : Nat) = r + (2 ^ (k + 1) : Nat) := by rw [e]; omega
      rw [e2]; exact h2
    · rw [if_neg c]
      exact ih n r h0 h1 (by omega)

/-- the root, rounded down, of a number below 2^48 -/
def rt (n : Int) : Int := rtb 24 n 0

theorem rt_is {n : Int} (h : 0 ≤ n) (h2 : n ≤ 140737488289792) : isRoot n (rt n) :=
  rtb_is 24 n 0 (by omega) (by omega) (by omega)

theorem rt_of {n r : Int} (h2 : n ≤ 140737488289792) (h : isRoot n r) : rt n = r := by
  have p : 0 ≤ n := by
    obtain ⟨a, b, c⟩ := h
    have := Int.mul_nonneg a a
    omega
  exact root_one (rt_is p h2) h

theorem rt_bd {n : Int} (h : 0 ≤ n) (h2 : n ≤ 140737488289792) : 0 ≤ rt n ∧ rt n ≤ 11863283 := by
  obtain ⟨a, b, c⟩ := rt_is h h2
  refine ⟨a, ?_⟩
  by_cases d : rt n ≤ 11863283
  · exact d
  · have := sq_mono (a := 11863284) (b := rt n) (by omega) (by omega)
    omega

/-- what holds at each round of the root's search by bits: R is what has been found, B the bit that comes next -/
def rinv (n : Int) (R B : Nat) : Prop :=
  ∃ k : Nat, k ≤ 24 ∧ B = 2 ^ k / 2 ∧ R % 2 ^ k = 0 ∧ (R : Int) * R ≤ n ∧ n < ((R : Int) + (2 ^ k : Nat)) * ((R : Int) + (2 ^ k : Nat))

theorem rinv_start {n : Int} (h0 : 0 ≤ n) (h1 : n ≤ 140737488289792) : rinv n 0 8388608 :=
  ⟨24, by omega, by omega, by omega, by omega, by omega⟩

theorem rinv_some {n : Int} {R B : Nat} (h : rinv n R B) (hB : 0 < B) :
    ∃ j, j < 24 ∧ B = 2 ^ j ∧ R % (2 ^ j * 2) = 0 ∧ (R : Int) * R ≤ n ∧ n < ((R : Int) + B + B) * ((R : Int) + B + B) := by
  obtain ⟨k, h1, h2, h3, h4, h5⟩ := h
  cases k with
  | zero => omega
  | succ j =>
    have e : 2 ^ (j + 1) = 2 ^ j * 2 := Nat.pow_succ 2 j
    have e2 : B = 2 ^ j := by rw [h2, e]; omega
    rw [e, ← e2] at h5
    refine ⟨j, by omega, e2, by rw [← e]; exact h3, h4, ?_⟩
    have e3 : (R : Int) + B + B = (R : Int) + (B * 2 : Nat) := by omega
    rw [e3]; exact h5

theorem rinv_end {n : Int} {R B : Nat} (hn : n ≤ 140737488289792) (h : rinv n R B) (hB : ¬ 0 < B) : rt n = R := by
  obtain ⟨k, h1, h2, h3, h4, h5⟩ := h
  cases k with
  | zero => exact rt_of hn ⟨by omega, h4, h5⟩
  | succ j =>
    have e : 2 ^ (j + 1) = 2 ^ j * 2 := Nat.pow_succ 2 j
    have p : 0 < 2 ^ j := Nat.two_pow_pos j
    rw [e] at h2
    omega

theorem rinv_no {n : Int} {R B : Nat} (h : rinv n R B) (hB : 0 < B) (hn : n < ((R : Int) + B) * ((R : Int) + B)) : rinv n R (B / 2) := by
  obtain ⟨j, h1, h2, h3, h4, h5⟩ := rinv_some h hB
  refine ⟨j, by omega, by rw [h2], ?_, h4, ?_⟩
  · have d : 2 ^ j ∣ R := Nat.dvd_trans ⟨2, rfl⟩ (Nat.dvd_of_mod_eq_zero h3)
    exact Nat.mod_eq_zero_of_dvd d
  · rw [← h2]; exact hn

theorem rinv_yes {n : Int} {R B : Nat} (h : rinv n R B) (hB : 0 < B) (hn : ((R : Int) + B) * ((R : Int) + B) ≤ n) : rinv n (R + B) (B / 2) := by
  obtain ⟨j, h1, h2, h3, h4, h5⟩ := rinv_some h hB
  refine ⟨j, by omega, by rw [h2], ?_, ?_, ?_⟩
  · have d : 2 ^ j ∣ R := Nat.dvd_trans ⟨2, rfl⟩ (Nat.dvd_of_mod_eq_zero h3)
    have d2 : 2 ^ j ∣ B := by rw [h2]; exact Nat.dvd_refl _
    exact Nat.mod_eq_zero_of_dvd (Nat.dvd_add d d2)
  · rw [Int.natCast_add]; exact hn
  · rw [← h2, Int.natCast_add]; exact h5

theorem rinv_bd {n : Int} {R B : Nat} (h1 : n ≤ 140737488289792) (h : rinv n R B) (hB : 0 < B) : R ≤ 11863283 ∧ B ≤ 8388608 := by
  obtain ⟨j, j1, h2, h3, h4, h5⟩ := rinv_some h hB
  constructor
  · by_cases d : R ≤ 11863283
    · exact d
    · have := sq_mono (a := 11863284) (b := R) (by omega) (by omega)
      omega
  · rw [h2]
    exact (Nat.pow_le_pow_right (by omega) (show j ≤ 23 by omega) : 2 ^ j ≤ 2 ^ 23)

theorem rinv_or {n : Int} {R B : Nat} (h : rinv n R B) (hB : 0 < B) : R ||| B = R + B := by
  obtain ⟨j, j1, h2, h3, h4, h5⟩ := rinv_some h hB
  obtain ⟨c, hc⟩ := Nat.dvd_of_mod_eq_zero h3
  have e : 2 ^ (j + 1) = 2 ^ j * 2 := Nat.pow_succ 2 j
  have p : 0 < 2 ^ j := Nat.two_pow_pos j
  have := Nat.two_pow_add_eq_or_of_lt (i := j + 1) (b := B) (by rw [e, h2]; omega) c
  rw [e, ← hc] at this
  exact this.symm

/-- what holds at each round of the root's search by halves -/
theorem half_mid {lo hi : Int} (h : lo < hi) : lo < (lo + hi + 1) / 2 ∧ (lo + hi + 1) / 2 ≤ hi := by omega

theorem half_end {n lo hi : Int} (hn : n ≤ 140737488289792) (h0 : 0 ≤ lo) (h : ¬ lo < hi) (hle : lo ≤ hi) (h1 : lo * lo ≤ n) (h2 : n < (hi + 1) * (hi + 1)) : rt n = lo := by
  have e : hi = lo := by omega
  subst e
  exact rt_of hn ⟨h0, h1, h2⟩

end Go.Proofs.Ytkkpfblgackidaa
