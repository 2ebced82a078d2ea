/- Why the nearest whole number, looked for one by one, is the one that is rounded to. -/
import Derived.Test.YtjbfnibhmojlfaaLm
namespace Go.Proofs.Ytjbfnibhmojlfaa

/-- Of all whole numbers between both ends the rounded one is nearest; of two as near it is the one farther on. -/
theorem best_up {k d n g : Int} (hn : 0 < n) (hg : g ≠ gn k d n) :
    (ds (n * gn k d n) (k * d) < ds (n * g) (k * d)) ∨ (ds (n * gn k d n) (k * d) = ds (n * g) (k * d) ∧ g < gn k d n) := by
  obtain ⟨s1, s2⟩ := gn_spec (k := k) (d := d) hn
  generalize gn k d n = G at *
  have e1 : 2 * k * d = 2 * (k * d) := Int.mul_assoc ..
  have e2 : 2 * n * G = 2 * (n * G) := Int.mul_assoc ..
  rw [e1, e2] at s1 s2
  by_cases c : g < G
  · have m : n * (g + 1) ≤ n * G := Int.mul_le_mul_of_nonneg_left (by omega) (by omega)
    rw [Int.mul_add, Int.mul_one] at m
    generalize n * g = p at *; generalize n * G = q at *; generalize k * d = r at *
    unfold ds; omega
  · have m : n * (G + 1) ≤ n * g := Int.mul_le_mul_of_nonneg_left (by omega) (by omega)
    rw [Int.mul_add, Int.mul_one] at m
    generalize n * g = p at *; generalize n * G = q at *; generalize k * d = r at *
    unfold ds; omega

theorem ds_shift (a b c : Int) : ds (a + c) (b + c) = ds a b := by unfold ds; omega
theorem ds_flip (a b : Int) : ds (-a) (-b) = ds a b := by unfold ds; omega

theorem best_any {k f t n y : Int} (hn : 0 < n) (k0 : 0 ≤ k) (k1 : k ≤ n) (h0 : f ≤ y ∨ t ≤ y) (h1 : y ≤ f ∨ y ≤ t) (hy : y ≠ bt f t k n) :
    (ds (n * bt f t k n) (n * f + k * (t - f)) < ds (n * y) (n * f + k * (t - f))) ∨ (ds (n * bt f t k n) (n * f + k * (t - f)) = ds (n * y) (n * f + k * (t - f)) ∧ ds (bt f t k n) t < ds y t) := by
  have L := ds_left f t k n hn k0 k1
  rcases bt_sign f t k n hn with ⟨c, d, b⟩ | ⟨c, d, b⟩
  · have B := best_up (k := k) (d := ds f t) (g := y - f) hn (by omega)
    have a1 : ∀ z : Int, ds (n * z) (n * f + k * (t - f)) = ds (n * (z - f)) (k * ds f t) := fun z => by
      rw [d, Int.mul_sub n z f]; generalize n * z = p; generalize n * f = q; generalize k * (t - f) = r; unfold ds; omega
    rw [a1, a1, L]
    rw [b, show f + gn k (ds f t) n - f = gn k (ds f t) n by omega]
    rcases B with h | ⟨h, g⟩
    · exact .inl h
    · refine .inr ⟨h, ?_⟩
      have : ds y t = t - y := by unfold ds; omega
      omega
  · have B := best_up (k := k) (d := ds f t) (g := f - y) hn (by omega)
    have a1 : ∀ z : Int, ds (n * z) (n * f + k * (t - f)) = ds (n * (f - z)) (k * ds f t) := fun z => by
      rw [d, Int.mul_sub n f z, show t - f = -(f - t) by omega, Int.mul_neg]; generalize n * z = p; generalize n * f = q; generalize k * (f - t) = r; unfold ds; omega
    rw [a1, a1, L]
    rw [b, show f - (f - gn k (ds f t) n) = gn k (ds f t) n by omega]
    rcases B with h | ⟨h, g⟩
    · exact .inl h
    · refine .inr ⟨h, ?_⟩
      have : ds y t = y - t := by unfold ds; omega
      omega

/-- What is kept between two looks: the best so far lies between both ends; once the right one was looked at it is that. -/
def best (f t B lo y b : Int) : Prop := lo ≤ y ∧ (f ≤ b ∨ t ≤ b) ∧ (b ≤ f ∨ b ≤ t) ∧ (B < y → b = B)

theorem bt_in (f t k n : Int) (hn : 0 < n) (k0 : 0 ≤ k) (k1 : k ≤ n) : (f ≤ bt f t k n ∨ t ≤ bt f t k n) ∧ (bt f t k n ≤ f ∨ bt f t k n ≤ t) := by
  have := gn_bd (k := k) hn (ds_nonneg f t) k0 k1
  rcases bt_sign f t k n hn with ⟨_, d, b⟩ | ⟨_, d, b⟩ <;> rw [b] <;> omega

theorem best_take {f t k n lo y b : Int} (hn : 0 < n) (k0 : 0 ≤ k) (k1 : k ≤ n) (h : best f t (bt f t k n) lo y b) (h0 : f ≤ y ∨ t ≤ y) (h1 : y ≤ f ∨ y ≤ t)
    (hc : ds (n * y) (n * f + k * (t - f)) < ds (n * b) (n * f + k * (t - f)) ∨ (ds (n * y) (n * f + k * (t - f)) = ds (n * b) (n * f + k * (t - f)) ∧ ds y t < ds b t)) : best f t (bt f t k n) lo (y + 1) y := by
  obtain ⟨a, b1, b2, b3⟩ := h
  refine ⟨by omega, h0, h1, fun hB => ?_⟩
  by_cases e : bt f t k n = y
  · exact e.symm
  · exfalso
    have hb := b3 (by omega)
    have := best_any hn k0 k1 h0 h1 (fun q => e q.symm)
    rw [hb] at hc
    omega
theorem best_stay {f t k n lo y b : Int} (hn : 0 < n) (k0 : 0 ≤ k) (k1 : k ≤ n) (h : best f t (bt f t k n) lo y b)
    (hc : ¬ (ds (n * y) (n * f + k * (t - f)) < ds (n * b) (n * f + k * (t - f)) ∨ (ds (n * y) (n * f + k * (t - f)) = ds (n * b) (n * f + k * (t - f)) ∧ ds y t < ds b t))) : best f t (bt f t k n) lo (y + 1) b := by
  obtain ⟨a, b1, b2, b3⟩ := h
  refine ⟨by omega, b1, b2, fun hB => ?_⟩
  by_cases e : bt f t k n = y
  · by_cases e2 : b = bt f t k n
    · exact e2
    · exfalso
      have := best_any hn k0 k1 b1 b2 e2
      rw [← e] at hc
      omega
  · exact b3 (by omega)

theorem bt_long (f t k n : Int) (hn : 0 < n) (h : ds f t = n) : bt f t k n = if t < f then f - k else f + k := by
  unfold bt
  rw [if_neg (by omega), h, gn_long hn]
end Go.Proofs.Ytjbfnibhmojlfaa
