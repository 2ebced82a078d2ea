/- The plain mathematics of a line from cell to cell: how far it has gone, rounded. -/
namespace Go.Proofs.Ytjbfnibhmojlfaa

def ds (a b : Int) : Int := if a ≤ b then b - a else a - b
theorem ds_bd {a b : Int} {M : Int} (h0 : -M ≤ a) (h1 : a ≤ M) (h2 : -M ≤ b) (h3 : b ≤ M) : 0 ≤ ds a b ∧ ds a b ≤ 2 * M := by unfold ds; omega
theorem ds_nonneg (a b : Int) : 0 ≤ ds a b := by unfold ds; omega
def near (x y : Int) : Bool := decide (-1000 ≤ x) && decide (x ≤ 1000) && decide (-1000 ≤ y) && decide (y ≤ 1000)
theorem near_yes {x y : Int} (h : near x y = true) : -1000 ≤ x ∧ x ≤ 1000 ∧ -1000 ≤ y ∧ y ≤ 1000 := by unfold near at h; simp at h; omega
theorem near_mk {x y : Int} (h : -1000 ≤ x ∧ x ≤ 1000 ∧ -1000 ≤ y ∧ y ≤ 1000) : near x y = true := by unfold near; simp; omega
def mx (a b : Int) : Int := if a ≤ b then b else a
def kg (x y u v : Int) : Int := mx (ds x u) (ds y v)
def gn (k d n : Int) : Int := (2 * k * d + n) / (2 * n)
def bt (f t k n : Int) : Int := if n = 0 then f else if t < f then f - gn k (ds f t) n else f + gn k (ds f t) n

theorem mx_bd {a b M : Int} (h0 : 0 ≤ a) (h1 : a ≤ M) (h2 : 0 ≤ b) (h3 : b ≤ M) : 0 ≤ mx a b ∧ mx a b ≤ M := by unfold mx; omega
theorem kg_bd {x y u v : Int} (h : near x y = true) (g : near u v = true) : 0 ≤ kg x y u v ∧ kg x y u v ≤ 2000 := by
  have h' := near_yes h
  have g' := near_yes g
  have d1 := ds_bd (a := x) (b := u) (M := 1000) (by omega) (by omega) (by omega) (by omega)
  have d2 := ds_bd (a := y) (b := v) (M := 1000) (by omega) (by omega) (by omega) (by omega)
  exact mx_bd (by omega) (by omega) (by omega) (by omega)
theorem kg_cases (x y u v : Int) : (kg x y u v = ds x u ∧ ds y v ≤ ds x u) ∨ (kg x y u v = ds y v ∧ ds x u ≤ ds y v) := by unfold kg mx; omega
theorem kg_nonneg (x y u v : Int) : 0 ≤ kg x y u v := by have := ds_nonneg x u; have := ds_nonneg y v; have := kg_cases x y u v; omega

/-- The rounding, without a division. -/
theorem gn_spec {k d n : Int} (hn : 0 < n) : 2 * n * gn k d n ≤ 2 * k * d + n ∧ 2 * k * d + n < 2 * n * gn k d n + 2 * n := by
  have h1 := Int.mul_ediv_add_emod (2 * k * d + n) (2 * n)
  have h2 := Int.emod_nonneg (2 * k * d + n) (show 2 * n ≠ 0 by omega)
  have h3 := Int.emod_lt_of_pos (2 * k * d + n) (show 0 < 2 * n by omega)
  have e : gn k d n = (2 * k * d + n) / (2 * n) := rfl
  rw [e]
  generalize (2 * k * d + n) / (2 * n) = q at *
  generalize (2 * k * d + n) % (2 * n) = r at *
  generalize 2 * n * q = s at *
  omega

theorem gn_uniq {k d n g : Int} (hn : 0 < n) (h1 : 2 * n * g ≤ 2 * k * d + n) (h2 : 2 * k * d + n < 2 * n * g + 2 * n) : gn k d n = g := by
  obtain ⟨s1, s2⟩ := gn_spec (k := k) (d := d) hn
  have a1 : 2 * n * gn k d n < 2 * n * (g + 1) := by rw [Int.mul_add, Int.mul_one]; omega
  have a2 : 2 * n * g < 2 * n * (gn k d n + 1) := by rw [Int.mul_add, Int.mul_one]; omega
  have b1 := Int.lt_of_mul_lt_mul_left a1 (by omega)
  have b2 := Int.lt_of_mul_lt_mul_left a2 (by omega)
  omega

theorem gn_long {k n : Int} (hn : 0 < n) : gn k n n = k := by
  refine gn_uniq hn ?_ ?_
  · rw [show 2 * n * k = 2 * k * n by rw [Int.mul_assoc, Int.mul_assoc, Int.mul_comm n k]]; omega
  · rw [show 2 * n * k = 2 * k * n by rw [Int.mul_assoc, Int.mul_assoc, Int.mul_comm n k]]; omega
theorem gn_zero {d n : Int} (hn : 0 < n) : gn 0 d n = 0 := by refine gn_uniq hn ?_ ?_ <;> simp <;> omega
theorem gn_end {d n : Int} (hn : 0 < n) : gn n d n = d := by refine gn_uniq hn ?_ ?_ <;> omega
theorem gn_next {k d n : Int} (hn : 0 < n) (h0 : 0 ≤ d) (h1 : d ≤ n) : gn k d n ≤ gn (k + 1) d n ∧ gn (k + 1) d n ≤ gn k d n + 1 := by
  obtain ⟨s1, s2⟩ := gn_spec (k := k) (d := d) hn
  obtain ⟨t1, t2⟩ := gn_spec (k := k + 1) (d := d) hn
  rw [show 2 * (k + 1) * d = 2 * k * d + 2 * d by rw [Int.mul_add, Int.add_mul]; omega] at t1 t2
  have a1 : 2 * n * gn k d n < 2 * n * (gn (k + 1) d n + 1) := by rw [Int.mul_add, Int.mul_one]; omega
  have a2 : 2 * n * gn (k + 1) d n < 2 * n * (gn k d n + 2) := by rw [Int.mul_add]; omega
  have b1 := Int.lt_of_mul_lt_mul_left a1 (by omega)
  have b2 := Int.lt_of_mul_lt_mul_left a2 (by omega)
  omega
theorem gn_bd {k d n : Int} (hn : 0 < n) (h0 : 0 ≤ d) (k0 : 0 ≤ k) (k1 : k ≤ n) : 0 ≤ gn k d n ∧ gn k d n ≤ d := by
  obtain ⟨s1, s2⟩ := gn_spec (k := k) (d := d) hn
  have p0 : 0 ≤ 2 * k * d := Int.mul_nonneg (by omega) h0
  have p1 : 2 * k * d ≤ 2 * n * d := Int.mul_le_mul_of_nonneg_right (by omega) h0
  have a1 : 2 * n * 0 < 2 * n * (gn k d n + 1) := by rw [Int.mul_add, Int.mul_one]; omega
  have a2 : 2 * n * gn k d n < 2 * n * (d + 1) := by rw [Int.mul_add, Int.mul_one]; omega
  have b1 := Int.lt_of_mul_lt_mul_left a1 (by omega)
  have b2 := Int.lt_of_mul_lt_mul_left a2 (by omega)
  omega
theorem gn_left {k d n : Int} (hn : 0 < n) (h1 : d ≤ n) (k1 : k ≤ n) : d - gn k d n ≤ n - k := by
  obtain ⟨s1, s2⟩ := gn_spec (k := k) (d := d) hn
  have p : (n - k) * d ≤ (n - k) * n := Int.mul_le_mul_of_nonneg_left h1 (by omega)
  have e1 : (n - k) * d = n * d - k * d := Int.sub_mul ..
  have e2 : 2 * n * (d - gn k d n) = 2 * (n * d) - 2 * n * gn k d n := by rw [Int.mul_sub, Int.mul_assoc]
  have e3 : 2 * k * d = 2 * (k * d) := Int.mul_assoc ..
  have e4 : 2 * n * (n - k + 1) = 2 * ((n - k) * n) + 2 * n := by rw [Int.mul_add, Int.mul_one, Int.mul_assoc, Int.mul_comm n]
  have a : 2 * n * (d - gn k d n) < 2 * n * (n - k + 1) := by omega
  have b := Int.lt_of_mul_lt_mul_left a (by omega)
  omega

/-- How far it has gone, with its sign. -/
theorem bt_sign (f t k n : Int) (hn : 0 < n) : (f ≤ t ∧ ds f t = t - f ∧ bt f t k n = f + gn k (ds f t) n) ∨ (t < f ∧ ds f t = f - t ∧ bt f t k n = f - gn k (ds f t) n) := by
  unfold bt
  rw [if_neg (by omega)]
  by_cases c : t < f
  · rw [if_pos c]; right; exact ⟨c, by unfold ds; omega, rfl⟩
  · rw [if_neg c]; left; exact ⟨by omega, by unfold ds; omega, rfl⟩

theorem core {k d n : Int} (hn : 0 < n) : -n ≤ 2 * (k * d - gn k d n * n) ∧ 2 * (k * d - gn k d n * n) ≤ n := by
  obtain ⟨s1, s2⟩ := gn_spec (k := k) (d := d) hn
  have e1 : 2 * k * d = 2 * (k * d) := Int.mul_assoc ..
  have e2 : 2 * n * gn k d n = 2 * (gn k d n * n) := by rw [Int.mul_assoc, Int.mul_comm n]
  omega

theorem off_bd (x y u v k n : Int) (hn : 0 < n) (hK : kg x y u v = n) :
    -n ≤ 2 * ((bt x u k n - x) * (v - y) - (bt y v k n - y) * (u - x)) ∧ 2 * ((bt x u k n - x) * (v - y) - (bt y v k n - y) * (u - x)) ≤ n := by
  have hx := bt_sign x u k n hn
  have hy := bt_sign y v k n hn
  have hc := kg_cases x y u v
  have C : -n ≤ 2 * (gn k (ds x u) n * ds y v - gn k (ds y v) n * ds x u) ∧ 2 * (gn k (ds x u) n * ds y v - gn k (ds y v) n * ds x u) ≤ n := by
    rcases hc with ⟨e, _⟩ | ⟨e, _⟩
    · have e' : ds x u = n := by omega
      rw [e', gn_long hn]; exact core hn
    · have e' : ds y v = n := by omega
      rw [e', gn_long hn]; have := core (k := k) (d := ds x u) hn; omega
  rcases hx with ⟨_, dx, bx⟩ | ⟨_, dx, bx⟩ <;> rcases hy with ⟨_, dy, by_⟩ | ⟨_, dy, by_⟩ <;> rw [bx, by_]
  · rw [show x + gn k (ds x u) n - x = gn k (ds x u) n by omega, show y + gn k (ds y v) n - y = gn k (ds y v) n by omega, ← dy, ← dx]; exact C
  · rw [show x + gn k (ds x u) n - x = gn k (ds x u) n by omega, show y - gn k (ds y v) n - y = -gn k (ds y v) n by omega, show v - y = -ds y v by omega, ← dx, Int.mul_neg, Int.neg_mul]; omega
  · rw [show x - gn k (ds x u) n - x = -gn k (ds x u) n by omega, show y + gn k (ds y v) n - y = gn k (ds y v) n by omega, show u - x = -ds x u by omega, ← dy, Int.mul_neg, Int.neg_mul]; omega
  · rw [show x - gn k (ds x u) n - x = -gn k (ds x u) n by omega, show y - gn k (ds y v) n - y = -gn k (ds y v) n by omega, show u - x = -ds x u by omega, show v - y = -ds y v by omega, Int.neg_mul_neg, Int.neg_mul_neg]; exact C

theorem bt_bd {f t k n M : Int} (h0 : -M ≤ f) (h1 : f ≤ M) (h2 : -M ≤ t) (h3 : t ≤ M) (k0 : 0 ≤ k) (k1 : k ≤ n) : -M ≤ bt f t k n ∧ bt f t k n ≤ M := by
  by_cases c : n = 0
  · unfold bt; rw [if_pos c]; omega
  · have hg := gn_bd (k := k) (n := n) (by omega) (ds_nonneg f t) k0 k1
    rcases bt_sign f t k n (by omega) with ⟨_, d, b⟩ | ⟨_, d, b⟩ <;> rw [b] <;> omega

def mx4 (a b c d : Int) : Int := mx (mx (mx a b) c) d
theorem mx4_kg (x y u v : Int) : mx4 (u - x) (-(u - x)) (v - y) (-(v - y)) = kg x y u v := by unfold mx4 kg mx ds; omega

theorem mul_bd {a b M N : Int} (h0 : -M ≤ a) (h1 : a ≤ M) (h2 : -N ≤ b) (h3 : b ≤ N) : -(M * N) ≤ a * b ∧ a * b ≤ M * N := by
  have hM : 0 ≤ M := by omega
  have hN : 0 ≤ N := by omega
  have e : (a * b).natAbs = a.natAbs * b.natAbs := Int.natAbs_mul a b
  have l : a.natAbs * b.natAbs ≤ M.toNat * N.toNat := Nat.mul_le_mul (by omega) (by omega)
  have m : ((M.toNat * N.toNat : Nat) : Int) = M * N := by rw [Int.natCast_mul, Int.toNat_of_nonneg hM, Int.toNat_of_nonneg hN]
  generalize M * N = q at *
  generalize a * b = p at *
  omega

/-- No cell is farther than half a cell from the straight line: in the numbers that are reckoned with. -/
theorem off_ok (x y u v : Int) (k n : Int) (h0 : -1000 ≤ x) (h1 : x ≤ 1000) (h2 : -1000 ≤ y) (h3 : y ≤ 1000) (g0 : -1000 ≤ u) (g1 : u ≤ 1000) (g2 : -1000 ≤ v) (g3 : v ≤ 1000) (k0 : 0 ≤ k) (k1 : k ≤ n) (hK : kg x y u v = n) (X Y : Int) (hX : bt x u k n = X) (hY : bt y v k n = Y) :
    -1000 ≤ X ∧ X ≤ 1000 ∧ -1000 ≤ Y ∧ Y ≤ 1000 ∧ -4000000 ≤ (X - x) * (v - y) ∧ (X - x) * (v - y) ≤ 4000000 ∧ -4000000 ≤ (Y - y) * (u - x) ∧ (Y - y) * (u - x) ≤ 4000000 ∧
    -n ≤ 2 * ((X - x) * (v - y) - (Y - y) * (u - x)) ∧ 2 * ((X - x) * (v - y) - (Y - y) * (u - x)) ≤ n := by
  have bX := bt_bd (k := k) (n := n) h0 h1 g0 g1 k0 k1
  have bY := bt_bd (k := k) (n := n) h2 h3 g2 g3 k0 k1
  rw [hX] at bX
  rw [hY] at bY
  have p := mul_bd (a := X - x) (b := v - y) (M := 2000) (N := 2000) (by omega) (by omega) (by omega) (by omega)
  have q := mul_bd (a := Y - y) (b := u - x) (M := 2000) (N := 2000) (by omega) (by omega) (by omega) (by omega)
  refine ⟨bX.1, bX.2, bY.1, bY.2, p.1, p.2, q.1, q.2, ?_⟩
  by_cases c : n = 0
  · have e1 : u = x := by have := kg_cases x y u v; have := ds_nonneg x u; have := ds_nonneg y v; have d : ds x u = 0 := by omega
                          unfold ds at d; omega
    have e2 : v = y := by have := kg_cases x y u v; have := ds_nonneg x u; have := ds_nonneg y v; have d : ds y v = 0 := by omega
                          unfold ds at d; omega
    rw [e1, e2, Int.sub_self, Int.sub_self, Int.mul_zero, Int.mul_zero]; omega
  · have := off_bd x y u v k n (by omega) hK
    rw [hX, hY] at this; exact this

theorem bt_zero (f t n : Int) (hn : 0 ≤ n) : bt f t 0 n = f := by
  by_cases c : n = 0
  · unfold bt; rw [if_pos c]
  · rcases bt_sign f t 0 n (by omega) with ⟨_, d, b⟩ | ⟨_, d, b⟩ <;> rw [b, gn_zero (by omega)] <;> omega
theorem bt_end (f t n : Int) (hn : 0 < n) : bt f t n n = t := by
  rcases bt_sign f t n n (by omega) with ⟨_, d, b⟩ | ⟨_, d, b⟩ <;> rw [b, gn_end (by omega)] <;> omega
theorem ds_zero {a b : Int} (h : ds a b = 0) : b = a := by unfold ds at h; omega
theorem kg_zero {x y u v : Int} (h : kg x y u v = 0) : u = x ∧ v = y := by
  have := kg_cases x y u v; have := ds_nonneg x u; have := ds_nonneg y v
  exact ⟨ds_zero (by omega), ds_zero (by omega)⟩
theorem bt_last {x y u v n : Int} (hK : kg x y u v = n) : bt x u n n = u ∧ bt y v n n = v := by
  have h0 := kg_nonneg x y u v
  by_cases c : n = 0
  · rw [c] at hK
    obtain ⟨rfl, rfl⟩ := kg_zero hK
    rw [c, bt_zero _ _ _ (by omega), bt_zero _ _ _ (by omega)]; exact ⟨rfl, rfl⟩
  · exact ⟨bt_end _ _ _ (by omega), bt_end _ _ _ (by omega)⟩
theorem ds_step (f t k n : Int) (hn : 0 < n) (h : ds f t ≤ n) : ds (bt f t k n) (bt f t (k + 1) n) = gn (k + 1) (ds f t) n - gn k (ds f t) n := by
  have := gn_next (k := k) hn (ds_nonneg f t) h
  rcases bt_sign f t k n hn with ⟨_, d, b⟩ | ⟨_, d, b⟩ <;> rcases bt_sign f t (k + 1) n hn with ⟨_, d', b'⟩ | ⟨_, d', b'⟩ <;> rw [b, b']
  · generalize gn k (ds f t) n = p at *; generalize gn (k + 1) (ds f t) n = q at *; unfold ds; omega
  · omega
  · omega
  · generalize gn k (ds f t) n = p at *; generalize gn (k + 1) (ds f t) n = q at *; unfold ds; omega
theorem ds_left (f t k n : Int) (hn : 0 < n) (k0 : 0 ≤ k) (k1 : k ≤ n) : ds (bt f t k n) t = ds f t - gn k (ds f t) n := by
  have := gn_bd (k := k) hn (ds_nonneg f t) k0 k1
  rcases bt_sign f t k n hn with ⟨_, d, b⟩ | ⟨_, d, b⟩ <;> rw [b, d] <;> rw [d] at this
  · generalize gn k (t - f) n = p at *; unfold ds; omega
  · generalize gn k (f - t) n = p at *; unfold ds; omega
theorem way_step {x y u v n k : Int} (hK : kg x y u v = n) (hn : 0 < n) : kg (bt x u k n) (bt y v k n) (bt x u (k + 1) n) (bt y v (k + 1) n) = 1 := by
  have hc := kg_cases x y u v
  have e : ∀ a b : Int, 0 ≤ a → a ≤ 1 → 0 ≤ b → b ≤ 1 → a = 1 ∨ b = 1 → mx a b = 1 := fun a b _ _ _ _ h => by unfold mx; omega
  have s1 := gn_next (k := k) (d := ds x u) hn (ds_nonneg x u) (by omega)
  have s2 := gn_next (k := k) (d := ds y v) hn (ds_nonneg y v) (by omega)
  show mx (ds _ _) (ds _ _) = 1
  rw [ds_step x u k n hn (by omega), ds_step y v k n hn (by omega)]
  refine e _ _ (by omega) (by omega) (by omega) (by omega) ?_
  rcases hc with ⟨c, _⟩ | ⟨c, _⟩
  · left; rw [show ds x u = n by omega, gn_long hn, gn_long hn]; omega
  · right; rw [show ds y v = n by omega, gn_long hn, gn_long hn]; omega
theorem way_left {x y u v n k : Int} (hK : kg x y u v = n) (hn : 0 < n) (k0 : 0 ≤ k) (k1 : k ≤ n) : kg (bt x u k n) (bt y v k n) u v = n - k := by
  have hc := kg_cases x y u v
  have e : ∀ a b c : Int, a ≤ c → b ≤ c → a = c ∨ b = c → mx a b = c := fun a b c _ _ h => by unfold mx; omega
  show mx (ds _ _) (ds _ _) = n - k
  rw [ds_left x u k n hn k0 k1, ds_left y v k n hn k0 k1]
  refine e _ _ _ (gn_left hn (by omega) k1) (gn_left hn (by omega) k1) ?_
  rcases hc with ⟨c, _⟩ | ⟨c, _⟩
  · left; rw [show ds x u = n by omega, gn_long hn]
  · right; rw [show ds y v = n by omega, gn_long hn]
theorem rook_bd {x y u v n : Int} (hK : kg x y u v = n) : n ≤ ds x u + ds y v ∧ ds x u + ds y v ≤ 2 * n := by
  have hc := kg_cases x y u v; have := ds_nonneg x u; have := ds_nonneg y v; omega
theorem near_bt {x y u v k n : Int} (h : near x y = true) (g : near u v = true) (k0 : 0 ≤ k) (k1 : k ≤ n) : near (bt x u k n) (bt y v k n) = true := by
  have h' := near_yes h
  have g' := near_yes g
  have a := bt_bd (f := x) (t := u) (k := k) (n := n) (M := 1000) (by omega) (by omega) (by omega) (by omega) k0 k1
  have b := bt_bd (f := y) (t := v) (k := k) (n := n) (M := 1000) (by omega) (by omega) (by omega) (by omega) k0 k1
  exact near_mk ⟨a.1, a.2, b.1, b.2⟩
end Go.Proofs.Ytjbfnibhmojlfaa
