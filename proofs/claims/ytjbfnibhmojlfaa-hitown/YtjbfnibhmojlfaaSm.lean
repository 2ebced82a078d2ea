/- The mathematics of what is seen: lines that nothing stands on, and all cells that are near enough. -/
import Derived.Test.YtjbfnibhmojlfaaLq
import Derived.Test.YtjbfnibhmojlfaaCr
namespace Go.Proofs.Ytjbfnibhmojlfaa
set_option linter.unusedVariables false

/-- Does a place hide what is behind it? -/
def hds (p : Int) : Bool := !(p == 0) && !(p == 3)
/-- The place at a cell. -/
def pl (W : Nat) (l : List Int) (X Y : Int) : Int := l.getD (Y.toNat * W + X.toNat) 0
/-- Does the k-th cell of the line hide? -/
def stp (W : Nat) (l : List Int) (x y u v : Int) (k : Nat) : Bool := hds (pl W l (bt x u k (kg x y u v)) (bt y v k (kg x y u v)))
/-- Nothing stands between both ends. -/
def clr (W : Nat) (l : List Int) (x y u v : Int) : Bool := (List.range (kg x y u v).toNat).all fun k => k == 0 || !stp W l x y u v k
/-- The one is seen from the other. -/
def se (W : Nat) (l : List Int) (x y u v : Int) : Bool := clr W l x y u v || clr W l u v x y
theorem clr_iff {W : Nat} {l : List Int} {x y u v : Int} : clr W l x y u v = true ↔ ∀ k : Nat, 0 < k → (k : Int) < kg x y u v → stp W l x y u v k = false := by
  unfold clr
  rw [List.all_eq_true]
  constructor
  · intro h k h0 h1
    have := h k (List.mem_range.2 (by omega))
    have e : (k == 0) = false := by simp; omega
    rw [e] at this
    simpa using this
  · intro h k hk
    have hk' := List.mem_range.1 hk
    by_cases e : k = 0
    · simp [e]
    · simp [h k (by omega) (by omega)]
theorem clr_no {W : Nat} {l : List Int} {x y u v : Int} {k : Nat} (h0 : 0 < k) (h1 : (k : Int) < kg x y u v) (h : stp W l x y u v k = true) : clr W l x y u v = false := by
  cases e : clr W l x y u v with
  | false => rfl
  | true => have := clr_iff.1 e k h0 h1; rw [h] at this; cases this
theorem clr_near {W : Nat} {l : List Int} {x y u v : Int} (h : kg x y u v ≤ 1) : clr W l x y u v = true := clr_iff.2 fun k h0 h1 => by omega
theorem se_comm (W : Nat) (l : List Int) (x y u v : Int) : se W l x y u v = se W l u v x y := by unfold se; rw [Bool.or_comm]
theorem se_near {W : Nat} {l : List Int} {x y u v : Int} (h : kg x y u v ≤ 1) : se W l x y u v = true := by unfold se; rw [clr_near h]; rfl
/-- What is free stays free where some places become plain. -/
theorem clr_more {W : Nat} {l m : List Int} {x y u v : Int} (hm : ∀ i, m.getD i 0 = l.getD i 0 ∨ m.getD i 0 = 0) (h : clr W l x y u v = true) : clr W m x y u v = true := by
  refine clr_iff.2 fun k h0 h1 => ?_
  have := clr_iff.1 h k h0 h1
  unfold stp pl at this ⊢
  rcases hm ((bt y v k (kg x y u v)).toNat * W + (bt x u k (kg x y u v)).toNat) with e | e
  · rw [e]; exact this
  · rw [e]; rfl
theorem se_more {W : Nat} {l m : List Int} {x y u v : Int} (hm : ∀ i, m.getD i 0 = l.getD i 0 ∨ m.getD i 0 = 0) (h : se W l x y u v = true) : se W m x y u v = true := by
  unfold se at h ⊢
  have h' : clr W l x y u v = true ∨ clr W l u v x y = true := by simpa using h
  rcases h' with h | h
  · rw [clr_more hm h]; rfl
  · rw [clr_more hm h, Bool.or_true]
theorem clr_open {W : Nat} {l : List Int} {x y u v : Int} (hl : ∀ i, hds (l.getD i 0) = false) : clr W l x y u v = true := clr_iff.2 fun k _ _ => hl _
theorem se_open {W : Nat} {l : List Int} {x y u v : Int} (hl : ∀ i, hds (l.getD i 0) = false) : se W l x y u v = true := by unfold se; rw [clr_open hl]; rfl

/-- The i-th cell of the field is near enough, and seen. -/
def spc (W : Nat) (l : List Int) (X Y r x y : Int) : Bool := decide (kg X Y x y ≤ r) && se W l X Y x y
def sp (W : Nat) (l : List Int) (X Y r : Int) (i : Nat) : Bool := spc W l X Y r ((i % W : Nat) : Int) ((i / W : Nat) : Int)
/-- Those of the first n cells. -/
def sn (W : Nat) (l : List Int) (X Y r : Int) (n : Nat) : List Cel := ((List.range n).filter (sp W l X Y r)).map fun i => ⟨((i % W : Nat) : Int), ((i / W : Nat) : Int)⟩
theorem sn_zero (W : Nat) (l : List Int) (X Y r : Int) : sn W l X Y r 0 = [] := rfl
theorem sn_yes {W : Nat} {l : List Int} {X Y r : Int} {n : Nat} (h : sp W l X Y r n = true) : sn W l X Y r (n + 1) = sn W l X Y r n ++ [⟨((n % W : Nat) : Int), ((n / W : Nat) : Int)⟩] := by
  unfold sn; rw [List.range_succ, List.filter_append, List.map_append]; simp [h]
theorem sn_no {W : Nat} {l : List Int} {X Y r : Int} {n : Nat} (h : sp W l X Y r n = false) : sn W l X Y r (n + 1) = sn W l X Y r n := by
  unfold sn; rw [List.range_succ, List.filter_append, List.map_append]; simp [h]
theorem sn_len (W : Nat) (l : List Int) (X Y r : Int) (n : Nat) : (sn W l X Y r n).length ≤ n := by
  unfold sn; rw [List.length_map]; exact Nat.le_trans (List.length_filter_le _ _) (by simp)
theorem sn_skip {W : Nat} {l : List Int} {X Y r : Int} {n : Nat} : ∀ {m : Nat}, n ≤ m → (∀ i, n ≤ i → i < m → r < kg X Y ((i % W : Nat) : Int) ((i / W : Nat) : Int)) → sn W l X Y r m = sn W l X Y r n := by
  intro m
  induction m with
  | zero => intro h _; obtain rfl : n = 0 := by omega
            rfl
  | succ m ih =>
    intro h hz
    by_cases e : n = m + 1
    · rw [e]
    · rw [sn_no, ih (by omega) (fun i h1 h2 => hz i h1 (by omega))]
      have := hz m (by omega) (by omega)
      unfold sp spc
      rw [decide_eq_false (by omega)]; rfl
theorem far_x {X Y r x y : Int} (h : x < X - r ∨ X + r < x) (h0 : 0 ≤ r) : r < kg X Y x y := by
  have := kg_cases X Y x y
  have : r < ds X x := by unfold ds; omega
  omega
theorem far_y {X Y r x y : Int} (h : y < Y - r ∨ Y + r < y) (h0 : 0 ≤ r) : r < kg X Y x y := by
  have := kg_cases X Y x y
  have : r < ds Y y := by unfold ds; omega
  omega
theorem ix_mod {W x y : Nat} (h : x < W) : (y * W + x) % W = x := by rw [Nat.add_comm, Nat.add_mul_mod_self_right, Nat.mod_eq_of_lt h]
theorem ix_div {W x y : Nat} (h : x < W) : (y * W + x) / W = y := by rw [Nat.add_comm, Nat.add_mul_div_right _ _ (by omega), Nat.div_eq_of_lt h]; omega
theorem ix_form {W H i : Nat} (hW : 1 ≤ W) (h : i < W * H) : i % W < W ∧ i / W < H ∧ i / W * W + i % W = i := by
  refine ⟨Nat.mod_lt _ (by omega), Nat.div_lt_of_lt_mul h, ?_⟩
  rw [Nat.mul_comm]; exact Nat.div_add_mod i W
/-- The first rows are too far. -/
theorem sn_top {W : Nat} {l : List Int} {X Y r : Int} {b : Nat} (h0 : 0 ≤ r) (hb : (b : Int) ≤ Y - r ∨ b = 0) : sn W l X Y r (b * W) = [] := by
  rw [sn_skip (n := 0) (Nat.zero_le _) ?_, sn_zero]
  intro i _ h2
  refine far_y (.inl ?_) h0
  have : i / W < b := Nat.div_lt_of_lt_mul (by rw [Nat.mul_comm]; exact h2)
  generalize i / W = q at *
  omega
/-- The last rows are too far. -/
theorem sn_end {W H : Nat} {l : List Int} {X Y r : Int} {b : Nat} (h0 : 0 ≤ r) (hH : b ≤ H) (hb : Y + r < (b : Int) ∨ b = H) : sn W l X Y r (W * H) = sn W l X Y r (b * W) := by
  rw [Nat.mul_comm W H]
  refine sn_skip (Nat.mul_le_mul_right _ hH) fun i h1 h2 => ?_
  by_cases hW : W = 0
  · subst hW; omega
  refine far_y (.inr ?_) h0
  have : b ≤ i / W := (Nat.le_div_iff_mul_le (by omega)).2 h1
  have : i / W < H := Nat.div_lt_of_lt_mul (by rw [Nat.mul_comm]; exact h2)
  generalize i / W = q at *
  omega
/-- A row's first cells are too far. -/
theorem sn_left {W : Nat} {l : List Int} {X Y r : Int} {y a : Nat} (h0 : 0 ≤ r) (ha : (a : Int) ≤ X - r ∨ a = 0) (hW : a ≤ W) : sn W l X Y r (y * W + a) = sn W l X Y r (y * W) := by
  refine sn_skip (by omega) fun i h1 h2 => ?_
  obtain ⟨j, rfl⟩ : ∃ j, i = y * W + j := ⟨i - y * W, by omega⟩
  rw [ix_mod (by omega)]
  exact far_x (.inl (by omega)) h0
/-- A row's last cells are too far. -/
theorem sn_right {W : Nat} {l : List Int} {X Y r : Int} {y a : Nat} (h0 : 0 ≤ r) (ha : X + r < (a : Int) ∨ a = W) (hW : a ≤ W) : sn W l X Y r ((y + 1) * W) = sn W l X Y r (y * W + a) := by
  rw [Nat.add_mul, Nat.one_mul]
  refine sn_skip (by omega) fun i h1 h2 => ?_
  obtain ⟨j, rfl⟩ : ∃ j, i = y * W + j := ⟨i - y * W, by omega⟩
  rw [ix_mod (by omega)]
  exact far_x (.inr (by omega)) h0
theorem sp_at {W : Nat} {l : List Int} {X Y r : Int} {x y : Nat} (h : x < W) : sp W l X Y r (y * W + x) = spc W l X Y r x y := by unfold sp; rw [ix_mod h, ix_div h]
theorem sn_mem {W : Nat} {l : List Int} {X Y r : Int} {n : Nat} {c : Cel} : c ∈ sn W l X Y r n ↔ ∃ i, i < n ∧ sp W l X Y r i = true ∧ c = ⟨((i % W : Nat) : Int), ((i / W : Nat) : Int)⟩ := by
  unfold sn
  rw [List.mem_map]
  constructor
  · rintro ⟨i, h, rfl⟩
    have := List.mem_filter.1 h
    exact ⟨i, List.mem_range.1 this.1, this.2, rfl⟩
  · rintro ⟨i, h1, h2, rfl⟩
    exact ⟨i, List.mem_filter.2 ⟨List.mem_range.2 h1, h2⟩, rfl⟩
end Go.Proofs.Ytjbfnibhmojlfaa
