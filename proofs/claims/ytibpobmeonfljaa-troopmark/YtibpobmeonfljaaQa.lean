/- The mathematics of pack: digits of base 128, numbers folded, lists. -/
import Derived.Test.YtibpobmeonfljaaOwn
namespace Go.Proofs.Ytibpobmeonfljaa

/-- What Put writes of n. -/
def pk (n : Nat) : List UInt8 := if n < 128 then [UInt8.ofNat n] else UInt8.ofNat (128 + n % 128) :: pk (n / 128)
termination_by n
decreasing_by omega
theorem pk_small {n : Nat} (h : n < 128) : pk n = [UInt8.ofNat n] := by rw [pk]; simp [h]
theorem pk_great {n : Nat} (h : ¬ n < 128) : pk n = UInt8.ofNat (128 + n % 128) :: pk (n / 128) := by rw [pk]; simp [h]
theorem pk_ind {P : Nat → Prop} (h0 : ∀ n, n < 128 → P n) (h1 : ∀ n, ¬ n < 128 → P (n / 128) → P n) (n : Nat) : P n := by
  induction n using Nat.strongRecOn with
  | _ n ih =>
    by_cases h : n < 128
    · exact h0 n h
    · exact h1 n h (ih _ (by omega))
theorem of_small {n : Nat} (h : n < 256) : (UInt8.ofNat n).toNat = n := by
  rw [UInt8.toNat_ofNat']; omega
theorem pk_pos (n : Nat) : 0 < (pk n).length := by
  by_cases h : n < 128
  · rw [pk_small h]; simp
  · rw [pk_great h]; simp
theorem pk_len : ∀ (k n : Nat), n < 128 ^ (k + 1) → (pk n).length ≤ k + 1
  | 0, n, h => by rw [pk_small (by simpa using h)]; simp
  | k + 1, n, h => by
    by_cases h2 : n < 128
    · rw [pk_small h2]; simp
    · rw [pk_great h2, List.length_cons]
      have := pk_len k (n / 128) (by rw [Nat.pow_succ] at h; exact Nat.div_lt_of_lt_mul (by omega))
      omega
theorem pow_ten : (128 : Nat) ^ (9 + 1) = 1180591620717411303424 := by decide
theorem pk_ten {n : Nat} (h : n < 18446744073709551616) : (pk n).length ≤ 10 := pk_len 9 n (by rw [pow_ten]; omega)
theorem pk_mono (a : Nat) : ∀ b, a ≤ b → (pk a).length ≤ (pk b).length := by
  induction a using pk_ind with
  | h0 n h => intro b _; rw [pk_small h]; exact pk_pos b
  | h1 n h ih =>
    intro b hb
    rw [pk_great h, pk_great (n := b) (by omega), List.length_cons, List.length_cons]
    have := ih (b / 128) (Nat.div_le_div_right hb)
    omega

/-- Folded and unfolded. -/
def fd (k : Int) : Nat := if 0 ≤ k then (2 * k).toNat else (2 * (-(k + 1)) + 1).toNat
def uf (n : Nat) : Int := if n % 2 = 0 then (n / 2 : Nat) else -((n / 2 : Nat) : Int) - 1
theorem fd_lt {k : Int} (h : fits k) : fd k < 18446744073709551616 := by unfold fits at h; unfold fd; split <;> omega
theorem uf_fits {n : Nat} (h : n < 18446744073709551616) : fits (uf n) := by unfold fits uf; split <;> omega
theorem uf_fd (k : Int) : uf (fd k) = k := by unfold uf fd; split <;> split <;> omega
theorem fd_uf (n : Nat) : fd (uf n) = n := by unfold uf fd; split <;> split <;> omega

/-- Lists of numbers. -/
def fs (l : List Int) : List UInt8 := l.flatMap fun x => pk (fd x)
def pa (l : List Int) : List UInt8 := pk l.length ++ fs l
theorem fs_cons (x : Int) (l : List Int) : fs (x :: l) = pk (fd x) ++ fs l := rfl
theorem fs_append (a b : List Int) : fs (a ++ b) = fs a ++ fs b := List.flatMap_append
theorem fs_snoc (a : List Int) (x : Int) : fs (a ++ [x]) = fs a ++ pk (fd x) := by rw [fs_append]; simp [fs]
theorem fs_len (l : List Int) (h : ∀ x ∈ l, fits x) : (fs l).length ≤ 10 * l.length := by
  induction l with
  | nil => exact Nat.le_refl _
  | cons x l ih =>
    rw [fs_cons, List.length_append, List.length_cons]
    have := ih fun y hy => h y (List.mem_cons_of_mem _ hy)
    have := pk_ten (fd_lt (h x (List.mem_cons_self ..)))
    omega
end Go.Proofs.Ytibpobmeonfljaa
