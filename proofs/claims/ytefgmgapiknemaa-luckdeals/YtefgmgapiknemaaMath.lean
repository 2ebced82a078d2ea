/- Plain numbers of package luck: the next number, so many steps, what a leap is, rounds of the lowest bits, picks. -/
namespace Go.Proofs.Ytefgmgapiknemaa

abbrev M : Nat := 4294967296
def nx (s : Nat) : Nat := (s * 1664525 + 1013904223) % 4294967296
def bk (s : Nat) : Nat := ((s + 4294967296 - 1013904223) % 4294967296 * 4276115653) % 4294967296
def sk (s : Nat) : Nat → Nat
  | 0 => s
  | n + 1 => nx (sk s n)
def lf : Nat → Nat
  | 0 => 1
  | n + 1 => lf n * 1664525 % 4294967296
def la (n : Nat) : Nat := sk 0 n

theorem nx_lt (s : Nat) : nx s < 4294967296 := Nat.mod_lt _ (by decide)
theorem bk_lt (s : Nat) : bk s < 4294967296 := Nat.mod_lt _ (by decide)
theorem sk_lt {s : Nat} (h : s < 4294967296) : ∀ n, sk s n < 4294967296
  | 0 => h
  | _ + 1 => nx_lt _
theorem la_lt (n : Nat) : la n < 4294967296 := sk_lt (by decide) n
theorem lf_lt (n : Nat) : lf n < 4294967296 := by
  cases n with
  | zero => decide
  | succ n => exact Nat.mod_lt _ (by decide)

theorem bk_nx {s : Nat} (h : s < 4294967296) : bk (nx s) = s := by unfold bk nx; omega
theorem nx_bk {s : Nat} (h : s < 4294967296) : nx (bk s) = s := by unfold bk nx; omega

theorem sk_add (s n m : Nat) : sk s (n + m) = sk (sk s n) m := by
  induction m with
  | zero => rfl
  | succ m ih => show nx (sk s (n + m)) = nx (sk (sk s n) m); rw [ih]
theorem sk_one (s : Nat) : sk s 1 = nx s := rfl

theorem mod_mul_mod (a b m : Nat) : (a % m * b) % m = (a * b) % m := by rw [Nat.mul_mod, Nat.mod_mod, ← Nat.mul_mod]
theorem mul_mod_mod (a b m : Nat) : (a * (b % m)) % m = (a * b) % m := by rw [Nat.mul_mod, Nat.mod_mod, ← Nat.mul_mod]

theorem sk_lin {s : Nat} (h : s < 4294967296) (n : Nat) : sk s n = (s * lf n + la n) % 4294967296 := by
  induction n with
  | zero => show s = (s * 1 + 0) % 4294967296; omega
  | succ n ih =>
    show nx (sk s n) = (s * (lf n * 1664525 % 4294967296) + nx (la n)) % 4294967296
    rw [ih]
    unfold nx
    have e1 : ∀ x y : Nat, (x * y % 4294967296 + 7) % 4294967296 = (x * y + 7) % 4294967296 := fun x y => by omega
    have e : (s * (lf n * 1664525 % 4294967296)) % 4294967296 = (s * lf n * 1664525) % 4294967296 := by
      rw [mul_mod_mod, Nat.mul_assoc]
    generalize s * (lf n * 1664525 % 4294967296) = p at *
    generalize s * lf n = q at *
    omega

theorem lf_add (n m : Nat) : lf (n + m) = lf n * lf m % 4294967296 := by
  induction m with
  | zero => show lf n = lf n * 1 % 4294967296; have := lf_lt n; omega
  | succ m ih =>
    show lf (n + m) * 1664525 % 4294967296 = lf n * (lf m * 1664525 % 4294967296) % 4294967296
    rw [ih, mod_mul_mod, mul_mod_mod, Nat.mul_assoc]
theorem la_add (n m : Nat) : la (n + m) = (la n * lf m + la m) % 4294967296 := by
  show sk 0 (n + m) = _
  rw [sk_add]; exact sk_lin (la_lt n) m

theorem mod32_eq (a b : Nat) :
    (a % 65536 * b + a / 65536 * b % 65536 * 65536) % 4294967296 = a * b % 4294967296 := by
  have e : a * b = a % 65536 * b + a / 65536 * b * 65536 := by
    have := Nat.div_add_mod a 65536
    calc a * b = (65536 * (a / 65536) + a % 65536) * b := by rw [this]
      _ = _ := by rw [Nat.add_mul, Nat.add_comm, Nat.mul_assoc, Nat.mul_comm 65536 (a / 65536 * b)]
  rw [e]
  generalize a % 65536 * b = x
  generalize a / 65536 * b = y
  omega

/- The leap by powers of two. -/
def dbl (p : Nat × Nat) : Nat × Nat := (p.1 * p.1 % 4294967296, (p.2 * p.1 + p.2) % 4294967296)
def pw : Nat → Nat × Nat
  | 0 => (1664525, 1013904223)
  | k + 1 => dbl (pw k)
theorem pw_eq (k : Nat) : pw k = (lf (2 ^ k), la (2 ^ k)) := by
  induction k with
  | zero => decide
  | succ k ih =>
    show dbl (pw k) = _
    rw [ih, Nat.pow_succ, Nat.mul_two, lf_add, la_add]; rfl

theorem pw32 : pw 32 = (1, 0) := by decide
theorem two32 : (2 : Nat) ^ 32 = 4294967296 := by decide
theorem whole_f : lf 4294967296 = 1 := by
  have e := congrArg Prod.fst (pw_eq 32); rw [pw32, two32] at e; exact e.symm
theorem whole_a : la 4294967296 = 0 := by
  have e := congrArg Prod.snd (pw_eq 32); rw [pw32, two32] at e; exact e.symm
theorem whole {s : Nat} (h : s < 4294967296) : sk s 4294967296 = s := by
  rw [sk_lin h, whole_f, whole_a]; omega

def pwOk (k : Nat) : Bool := ((pw k).1 % 2 ^ (k + 1) == 1) && ((pw k).2 % 2 ^ (k + 1) == 2 ^ k)
theorem pw_ok : ∀ k, k < 32 → pwOk k = true := by decide
theorem pw_f {k : Nat} (h : k < 32) : lf (2 ^ k) % 2 ^ (k + 1) = 1 := by
  have := pw_ok k h; unfold pwOk at this; rw [pw_eq] at this; simp at this; exact this.1
theorem pw_a {k : Nat} (h : k < 32) : la (2 ^ k) % 2 ^ (k + 1) = 2 ^ k := by
  have := pw_ok k h; unfold pwOk at this; rw [pw_eq] at this; simp at this; exact this.2

theorem mod_mod_pow (x : Nat) {k : Nat} (h : k < 32) : x % 4294967296 % 2 ^ (k + 1) = x % 2 ^ (k + 1) := by
  rw [← two32]; exact Nat.mod_mod_of_dvd _ (Nat.pow_dvd_pow 2 (by omega))

/-- 2^k steps: in the lowest k + 1 bits they add 2^k. -/
theorem sk_pow {s k : Nat} (hs : s < 4294967296) (h : k < 32) : sk s (2 ^ k) % 2 ^ (k + 1) = (s + 2 ^ k) % 2 ^ (k + 1) := by
  rw [sk_lin hs, mod_mod_pow _ h, Nat.add_mod, Nat.mul_mod, pw_f h, pw_a h, Nat.mul_one, Nat.mod_mod, Nat.mod_add_mod]

theorem sk_pows {s k : Nat} (hs : s < 4294967296) (h : k < 32) (q : Nat) : sk s (2 ^ k * q) % 2 ^ (k + 1) = (s + 2 ^ k * q) % 2 ^ (k + 1) := by
  induction q with
  | zero => rfl
  | succ q ih =>
    rw [Nat.mul_succ, sk_add, sk_pow (sk_lt hs _) h, Nat.add_mod, ih, ← Nat.add_mod, Nat.add_assoc]

theorem odd_part (d : Nat) : 0 < d → ∃ j q, d = 2 ^ j * (2 * q + 1) := by
  induction d using Nat.strongRecOn with
  | _ d ih =>
    intro hd
    by_cases h : d % 2 = 1
    · exact ⟨0, d / 2, by omega⟩
    · obtain ⟨j, q, e⟩ := ih (d / 2) (by omega) (by omega)
      refine ⟨j + 1, q, ?_⟩
      rw [Nat.pow_succ, Nat.mul_assoc, Nat.mul_comm 2, ← Nat.mul_assoc, ← e]; omega

theorem sk_ne_pow {s k q : Nat} (hs : s < 4294967296) (h : k < 32) : sk s (2 ^ k * (2 * q + 1)) % 2 ^ (k + 1) ≠ s % 2 ^ (k + 1) := by
  rw [sk_pows hs h]
  have e : s + 2 ^ k * (2 * q + 1) = s + 2 ^ k + 2 ^ (k + 1) * q := by rw [Nat.pow_succ, Nat.mul_add, Nat.mul_one, Nat.mul_assoc]; omega
  rw [e, Nat.add_mul_mod_self_left]
  have p : 0 < 2 ^ k := Nat.two_pow_pos k
  have p2 : 2 ^ (k + 1) = 2 ^ k * 2 := Nat.pow_succ ..
  rw [p2]
  generalize 2 ^ k = P at *
  intro hh
  rw [Nat.add_mod] at hh
  have l : s % (P * 2) < P * 2 := Nat.mod_lt _ (by omega)
  rw [Nat.mod_eq_of_lt (a := P) (by omega)] at hh
  generalize s % (P * 2) = r at *
  by_cases c : r + P < P * 2
  · rw [Nat.mod_eq_of_lt c] at hh; omega
  · rw [Nat.mod_eq_sub_mod (by omega), Nat.mod_eq_of_lt (by omega)] at hh; omega

/-- Fewer steps than 2^b: the lowest b bits have changed. -/
theorem sk_ne {s b d : Nat} (hs : s < 4294967296) (hb : b ≤ 32) (h0 : 0 < d) (hd : d < 2 ^ b) : sk s d % 2 ^ b ≠ s % 2 ^ b := by
  obtain ⟨j, q, e⟩ := odd_part d h0
  have hj : j < b := by
    apply Classical.byContradiction; intro hn
    have : 2 ^ b ≤ 2 ^ j := Nat.pow_le_pow_right (by decide) (by omega)
    have : 2 ^ j * 1 ≤ 2 ^ j * (2 * q + 1) := Nat.mul_le_mul_left _ (by omega)
    omega
  intro hh
  apply sk_ne_pow (s := s) (k := j) (q := q) hs (by omega)
  rw [← e]
  have dv : 2 ^ (j + 1) ∣ 2 ^ b := Nat.pow_dvd_pow 2 (by omega)
  rw [← Nat.mod_mod_of_dvd (sk s d) dv, hh, Nat.mod_mod_of_dvd _ dv]

theorem sk_round {s b : Nat} (hs : s < 4294967296) (hb : b < 32) : sk s (2 ^ b) % 2 ^ b = s % 2 ^ b := by
  have h := sk_pow hs hb
  have dv : 2 ^ b ∣ 2 ^ (b + 1) := Nat.pow_dvd_pow 2 (by omega)
  rw [← Nat.mod_mod_of_dvd (sk s (2 ^ b)) dv, h, Nat.mod_mod_of_dvd _ dv, Nat.add_mod_right]

theorem sk_self {s k : Nat} (hs : s < 4294967296) (h : k < 32) : sk s (2 ^ k) ≠ s := by
  intro e
  have := sk_ne_pow (s := s) (k := k) (q := 0) hs h
  rw [show 2 ^ k * (2 * 0 + 1) = 2 ^ k by omega, e] at this
  exact this rfl

/- Picks. -/
def pk (s n : Nat) : Nat := nx s / 65536 * n / 65536
theorem pk_lt {s n : Nat} (h : 0 < n) : pk s n < n := by
  unfold pk
  have h1 := nx_lt s
  rw [Nat.div_lt_iff_lt_mul (by decide), Nat.mul_comm n]
  exact Nat.mul_lt_mul_of_pos_right (by omega) h
theorem pk_mono {s n m : Nat} (h : n ≤ m) : pk s n ≤ pk s m := Nat.div_le_div_right (Nat.mul_le_mul_left _ h)

/- The leap's loop. -/
def linv (s n S N T A : Nat) : Prop := ∃ m j : Nat, S = sk s m ∧ N * 2 ^ j + m = n ∧ T = lf (2 ^ j) ∧ A = la (2 ^ j)
theorem linv_start (s n : Nat) : linv s n s n 1664525 1013904223 := ⟨0, 0, rfl, by omega, by decide, by decide⟩
theorem linv_le {s n S N T A : Nat} (h : linv s n S N T A) : N ≤ n := by
  obtain ⟨m, j, _, e, _⟩ := h
  have : N * 1 ≤ N * 2 ^ j := Nat.mul_le_mul_left _ (Nat.two_pow_pos j)
  omega
theorem linv_next {N j : Nat} (m : Nat) : N / 2 * 2 ^ (j + 1) + (m + N % 2 * 2 ^ j) = N * 2 ^ j + m := by
  have e := Nat.div_add_mod N 2
  have e2 : N * 2 ^ j = N / 2 * 2 ^ (j + 1) + N % 2 * 2 ^ j := by
    rw [Nat.pow_succ, Nat.mul_comm (2 ^ j) 2, ← Nat.mul_assoc, ← Nat.add_mul, Nat.mul_comm (N / 2) 2, e]
  omega
theorem linv_tt (j : Nat) : lf (2 ^ j) * lf (2 ^ j) % 4294967296 = lf (2 ^ (j + 1)) := by
  rw [Nat.pow_succ, Nat.mul_two, lf_add]
theorem linv_aa (j : Nat) : (la (2 ^ j) * lf (2 ^ j) % 4294967296 + la (2 ^ j)) % 4294967296 = la (2 ^ (j + 1)) := by
  rw [Nat.pow_succ, Nat.mul_two, la_add, Nat.mod_add_mod]
theorem linv_odd {s n S N T A : Nat} (hs : s < 4294967296) (h : linv s n S N T A) (ho : N % 2 = 1) :
    linv s n ((S * T % 4294967296 + A) % 4294967296) (N / 2) (T * T % 4294967296) ((A * T % 4294967296 + A) % 4294967296) := by
  obtain ⟨m, j, rfl, e, rfl, rfl⟩ := h
  refine ⟨m + 2 ^ j, j + 1, ?_, ?_, linv_tt j, linv_aa j⟩
  · rw [sk_add, sk_lin (sk_lt hs m), Nat.mod_add_mod]
  · have := linv_next (N := N) (j := j) m
    rw [ho] at this; omega
theorem linv_even {s n S N T A : Nat} (h : linv s n S N T A) (ho : N % 2 = 0) :
    linv s n S (N / 2) (T * T % 4294967296) ((A * T % 4294967296 + A) % 4294967296) := by
  obtain ⟨m, j, rfl, e, rfl, rfl⟩ := h
  refine ⟨m, j + 1, rfl, ?_, linv_tt j, linv_aa j⟩
  have := linv_next (N := N) (j := j) m
  rw [ho] at this; omega
theorem linv_end {s n S T A : Nat} (h : linv s n S 0 T A) : S = sk s n := by
  obtain ⟨m, j, rfl, e, _⟩ := h
  rw [show n = m by omega]

/- The document's steps, by halves. -/
theorem halves (n : Nat) : n = n / 2 + n / 2 + n % 2 := by omega
theorem steps_odd {n : Nat} (h : n % 2 = 1) :
    (((lf (n / 2) : Int) * lf (n / 2) % 4294967296) * 1664525 % 4294967296 = (lf n : Int)) ∧
    ((((la (n / 2) : Int) * lf (n / 2) + la (n / 2)) % 4294967296) * 1664525 % 4294967296 + 1013904223) % 4294967296 = (la n : Int) := by
  have e := halves n
  rw [h] at e
  constructor
  · have : lf n = lf (n / 2) * lf (n / 2) % 4294967296 * 1664525 % 4294967296 := by
      rw [e]; show lf (n / 2 + n / 2) * 1664525 % 4294967296 = _; rw [lf_add, ← e]
    rw [this]
    generalize lf (n / 2) = x
    omega
  · have : la n = nx ((la (n / 2) * lf (n / 2) + la (n / 2)) % 4294967296) := by
      rw [e]; show nx (sk 0 (n / 2 + n / 2)) = _
      have := la_add (n / 2) (n / 2)
      unfold la at this ⊢
      rw [this, ← e]
    rw [this]; unfold nx
    generalize lf (n / 2) = x
    generalize la (n / 2) = y
    omega
theorem steps_even {n : Nat} (h : n % 2 = 0) :
    ((lf (n / 2) : Int) * lf (n / 2) % 4294967296 = (lf n : Int)) ∧
    ((la (n / 2) : Int) * lf (n / 2) % 4294967296 + la (n / 2)) % 4294967296 = (la n : Int) := by
  have e := halves n
  rw [h, Nat.add_zero] at e
  constructor
  · have : lf n = lf (n / 2) * lf (n / 2) % 4294967296 := by
      conv => lhs; rw [e]
      exact lf_add _ _
    rw [this]
    generalize lf (n / 2) = x
    omega
  · have : la n = (la (n / 2) * lf (n / 2) + la (n / 2)) % 4294967296 := by
      conv => lhs; rw [e]
      exact la_add _ _
    rw [this]
    generalize lf (n / 2) = x
    generalize la (n / 2) = y
    omega
theorem lucks_eq {s : Nat} (hs : s < 4294967296) (n : Nat) : ((lf n : Int) * s + la n) % 4294967296 = (sk s n : Int) := by
  have : sk s n = (lf n * s + la n) % 4294967296 := by rw [sk_lin hs, Nat.mul_comm]
  rw [this]
  generalize lf n = x
  generalize la n = y
  omega
end Go.Proofs.Ytefgmgapiknemaa
