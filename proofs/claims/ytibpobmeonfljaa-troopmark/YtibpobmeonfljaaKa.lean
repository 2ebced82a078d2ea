/- The mathematics of mark: one step, the mix, that it goes back; turning by a list. -/
import Derived.Laws.BitsAllLaws
namespace Go.Proofs.Ytibpobmeonfljaa

/-- One step: one with itself moved down, then times. -/
def st (k c x : Nat) : Nat := (x ^^^ x / 2 ^ k) * c % 18446744073709551616
def ad (n : Nat) : Nat := (n + 11400714819323198485) % 18446744073709551616
def dn (k x : Nat) : Nat := x ^^^ x / 2 ^ k
/-- The mix of n. -/
def mx (n : Nat) : Nat := dn 31 (st 27 10723151780598845931 (st 30 13787848793156543929 (ad n)))

theorem ad_lt (n : Nat) : ad n < 18446744073709551616 := Nat.mod_lt _ (by decide)
theorem st_lt (k c x : Nat) : st k c x < 18446744073709551616 := Nat.mod_lt _ (by decide)
theorem dn_lt {k x : Nat} (h : x < 18446744073709551616) : dn k x < 18446744073709551616 := by
  have h2 : x / 2 ^ k < 18446744073709551616 := Nat.lt_of_le_of_lt (Nat.div_le_self _ _) h
  have : x ^^^ x / 2 ^ k < 2 ^ 64 := Nat.xor_lt_two_pow (by omega) (by omega)
  unfold dn; omega
theorem mx_lt (n : Nat) : mx n < 18446744073709551616 := dn_lt (st_lt _ _ _)
theorem xor_lt {a b : Nat} (ha : a < 18446744073709551616) (hb : b < 18446744073709551616) : a ^^^ b < 18446744073709551616 := by
  have : a ^^^ b < 2 ^ 64 := Nat.xor_lt_two_pow (by omega) (by omega)
  omega
theorem st_dn (k c x : Nat) : st k c x = dn k x * c % 18446744073709551616 := rfl

theorem div_xor (a b k : Nat) : (a ^^^ b) / 2 ^ k = a / 2 ^ k ^^^ b / 2 ^ k := by
  simp only [← Nat.shiftRight_eq_div_pow, Nat.shiftRight_xor_distrib]
theorem dn_dn (k y : Nat) : dn k (dn k y) = dn (k * 2) y := by
  unfold dn
  rw [div_xor, Nat.div_div_eq_div_mul, ← Nat.pow_add, show k + k = k * 2 by omega]
  rw [Nat.xor_assoc, ← Nat.xor_assoc (y / 2 ^ k), Nat.xor_self, Nat.zero_xor]
theorem dn_end {k y : Nat} (h : y < 18446744073709551616) (hk : 64 ≤ k) : dn k y = y := by
  unfold dn
  have : 2 ^ 64 ≤ 2 ^ k := Nat.pow_le_pow_right (by omega) hk
  rw [Nat.div_eq_of_lt (by omega), Nat.xor_zero]

/-- One round to an odd number's other one. -/
def ro (x y : Nat) : Nat := y * ((2 + (18446744073709551616 - x * y % 18446744073709551616)) % 18446744073709551616) % 18446744073709551616
def ros (x y : Nat) : Nat → Nat
  | 0 => y
  | k + 1 => ro x (ros x y k)
theorem ro_lt (x y : Nat) : ro x y < 18446744073709551616 := Nat.mod_lt _ (by decide)
theorem ros_lt {x y : Nat} (h : y < 18446744073709551616) : ∀ k, ros x y k < 18446744073709551616
  | 0 => h
  | _ + 1 => ro_lt _ _
theorem oth_two : ros 10723151780598845931 10723151780598845931 6 = 3573116690164977347 := by decide +kernel
theorem oth_one : ros 13787848793156543929 13787848793156543929 6 = 10871156337175269513 := by decide +kernel
theorem st_back {k c d x : Nat} (h : x < 18446744073709551616) (hc : c * d % 18446744073709551616 = 1) : st k c x * d % 18446744073709551616 = dn k x := by
  rw [st_dn, Nat.mod_mul_mod, Nat.mul_assoc, Nat.mul_mod, hc, Nat.mul_one, Nat.mod_mod, Nat.mod_eq_of_lt (dn_lt h)]
theorem dn_inj {k x y : Nat} (hk : 0 < k) (hx : x < 18446744073709551616) (hy : y < 18446744073709551616) (h : dn k x = dn k y) : x = y := by
  have key : ∀ j, dn (k * 2 ^ j) x = dn (k * 2 ^ j) y := by
    intro j
    induction j with
    | zero => simpa using h
    | succ j ih =>
      rw [Nat.pow_succ, ← Nat.mul_assoc, ← dn_dn, ← dn_dn, ih]
  have := key 6
  rwa [dn_end hx (by omega), dn_end hy (by omega)] at this
theorem st_inj {k c d x y : Nat} (hk : 0 < k) (hx : x < 18446744073709551616) (hy : y < 18446744073709551616) (hc : c * d % 18446744073709551616 = 1) (h : st k c x = st k c y) : x = y := by
  have e := congrArg (fun z => z * d % 18446744073709551616) h
  simp only [st_back hx hc, st_back hy hc] at e
  exact dn_inj hk hx hy e
theorem ad_inj {x y : Nat} (hx : x < 18446744073709551616) (hy : y < 18446744073709551616) (h : ad x = ad y) : x = y := by
  unfold ad at h; omega
theorem mx_inj {x y : Nat} (hx : x < 18446744073709551616) (hy : y < 18446744073709551616) (h : mx x = mx y) : x = y :=
  ad_inj hx hy (st_inj (d := 10871156337175269513) (by decide) (ad_lt _) (ad_lt _) (by decide) (st_inj (d := 3573116690164977347) (by decide) (st_lt _ _ _) (st_lt _ _ _) (by decide) (dn_inj (by decide) (st_lt _ _ _) (st_lt _ _ _) h)))

/-- m, turned by all of l. -/
def tn (m : Nat) (l : List Nat) : Nat := l.foldl (fun a n => a ^^^ mx n) m
theorem tn_nil (m : Nat) : tn m [] = m := rfl
theorem tn_cons (m n : Nat) (l : List Nat) : tn m (n :: l) = tn (m ^^^ mx n) l := rfl
theorem tn_append (m : Nat) (a b : List Nat) : tn m (a ++ b) = tn (tn m a) b := List.foldl_append ..
theorem tn_zero (m : Nat) : ∀ l, tn m l = m ^^^ tn 0 l
  | [] => by simp [tn_nil]
  | n :: l => by rw [tn_cons, tn_cons, tn_zero (m ^^^ mx n) l, tn_zero (0 ^^^ mx n) l, Nat.zero_xor, Nat.xor_assoc]
theorem tn_lt {m : Nat} (h : m < 18446744073709551616) : ∀ l, tn m l < 18446744073709551616
  | [] => h
  | n :: l => by rw [tn_cons]; exact tn_lt (xor_lt h (mx_lt n)) l
theorem tn_perm {a b : List Nat} (h : a.Perm b) (m : Nat) : tn m a = tn m b := by
  induction h generalizing m with
  | nil => rfl
  | cons x _ ih => rw [tn_cons, tn_cons, ih]
  | swap x y l => rw [tn_cons, tn_cons, tn_cons, tn_cons, Nat.xor_assoc, Nat.xor_assoc, Nat.xor_comm (mx x)]
  | trans _ _ ih1 ih2 => rw [ih1, ih2]
theorem tn_twice (m : Nat) (l : List Nat) : tn (tn m l) l = m := by
  rw [tn_zero (tn m l), tn_zero m, Nat.xor_assoc, Nat.xor_self, Nat.xor_zero]
end Go.Proofs.Ytibpobmeonfljaa
