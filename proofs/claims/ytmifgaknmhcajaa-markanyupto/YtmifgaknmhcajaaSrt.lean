/- Sorting, as far as it keeps what there is: a row that holds the same numbers, in whatever order; what reads it; what swaps two of them. -/
import Derived.Test.YtmifgaknmhcajaaOwn
import Derived.WalkKit
import Derived.Deep.LoopGhost
namespace Go.Proofs.Ytmifgaknmhcajaa
open Go.RowKit
set_option linter.unusedVariables false

/-- Block g still holds the numbers L0, in some order; below what was there at w0 nothing has turned. -/
def srd (w0 : World) (g n c : Nat) (L0 : List Nat) (wr : World) : Prop := Below w0.heap.size w0 wr ∧ ∃ L : List Nat, owns w0.heap.size wr g n c L ∧ L.Perm L0

def swp (L : List Nat) (i j : Nat) : List Nat := (L.set i (L.getD j 0)).set j (L.getD i 0)
theorem swp_perm (L : List Nat) {i j : Nat} (hi : i < L.length) (hj : j < L.length) : (swp L i j).Perm L := by
  have h := Array.swap_perm (xs := L.toArray) (i := i) (j := j) (by simpa using hi) (by simpa using hj)
  have e : (L.toArray.swap i j (by simpa using hi) (by simpa using hj)).toList = swp L i j := by
    rw [Array.toList_swap]
    unfold swp
    simp [List.getD_eq_getElem?_getD, List.getElem?_eq_getElem hi, List.getElem?_eq_getElem hj]
  have h2 := h.toList
  rw [e] at h2; simpa using h2
section
variable {w0 wr w' : World} {g n c : Nat} {L0 : List Nat}
theorem srd_cell (h : srd w0 g n c L0 wr) {j : Nat} (hj : j < n) : ∃ x : Nat, wr.cell? ⟨g, j, none⟩ = some (.int .u64 (x : Int)) ∧ wr.frozen? ⟨g, j, none⟩ = false := by
  obtain ⟨_, L, ho, _⟩ := h
  exact ⟨_, owns_cell ho hj, owns_free ho j⟩
theorem srd_drewN (h : srd w0 g n c L0 wr) (m : Nat) : srd w0 g n c L0 (wr.drewN m) := ⟨below_drewN h.1 m, h.2⟩
theorem srd_drew (h : srd w0 g n c L0 wr) : srd w0 g n c L0 wr.drew := ⟨h.1.drew, h.2⟩
theorem srd_below (h : srd w0 g n c L0 wr) (hb : Below wr.heap.size wr w') : srd w0 g n c L0 w' := by
  obtain ⟨h1, L, ho, hp⟩ := h
  exact ⟨h1.trans (hb.mono h1.size), L, owns_below ho hb, hp⟩
theorem srd_base (h : srd w0 g n c L0 wr) : w0.heap.size ≤ g ∧ g < wr.heap.size := by
  obtain ⟨h1, L, ho, hp⟩ := h
  exact owns_base ho
theorem srd_swap (h : srd w0 g n c L0 wr) {i j x y : Nat} (hi : i < n) (hj : j < n) (ci : wr.cell? ⟨g, i, none⟩ = some (.int .u64 (x : Int))) (cj : wr.cell? ⟨g, j, none⟩ = some (.int .u64 (y : Int))) :
    srd w0 g n c L0 ((wr.setCell ⟨g, i, none⟩ (.int .u64 (y : Int))).setCell ⟨g, j, none⟩ (.int .u64 (x : Int))) := by
  have hB := (srd_base h).1
  obtain ⟨h1, L, ho, hp⟩ := h
  have ex : x = L.getD i 0 := by have := owns_cell ho hi; rw [ci] at this; simp at this; rw [List.getD_eq_getElem?_getD]; omega
  have ey : y = L.getD j 0 := by have := owns_cell ho hj; rw [cj] at this; simp at this; rw [List.getD_eq_getElem?_getD]; omega
  refine ⟨(h1.setCell hB _).setCell hB _, swp L i j, ?_, (swp_perm L (by rw [owns_len ho]; exact hi) (by rw [owns_len ho]; exact hj)).trans hp⟩
  rw [ex, ey]
  exact owns_put (owns_put ho i _) j _
theorem srd_swapN (h : srd w0 g n c L0 wr) {i j x y : Nat} (hi : i < n) (hj : j < n) (ci : wr.cell? ⟨g, i, none⟩ = some (.int .u64 (x : Int))) (cj : wr.cell? ⟨g, j, none⟩ = some (.int .u64 (y : Int))) (m : Nat) :
    srd w0 g n c L0 (((wr.drewN m).setCell ⟨g, i, none⟩ (.int .u64 (y : Int))).setCell ⟨g, j, none⟩ (.int .u64 (x : Int))) := srd_swap (srd_drewN h m) hi hj ci cj
theorem srd_put (h : srd w0 g n c L0 wr) {i j y : Nat} (hi : i < n) (hj : j < n) : ∃ z : Nat, (wr.setCell ⟨g, i, none⟩ (.int .u64 (y : Int))).cell? ⟨g, j, none⟩ = some (.int .u64 (z : Int)) ∧ (wr.setCell ⟨g, i, none⟩ (.int .u64 (y : Int))).frozen? ⟨g, j, none⟩ = false := by
  obtain ⟨h1, L, ho, hp⟩ := h
  exact ⟨_, owns_cell (owns_put ho i y) hj, owns_free (owns_put ho i y) j⟩
theorem srd_other (h : srd w0 g n c L0 wr) {a : Addr} (ha : a.block ≠ g) (hB : w0.heap.size ≤ a.block) (v : Value) : srd w0 g n c L0 (wr.setCell a v) := by
  obtain ⟨h1, L, ho, hp⟩ := h
  refine ⟨h1.setCell hB _, L, ?_, hp⟩
  exact ownsRow_setCell_other ho (by simp [Value.ownBlock]; exact fun e => ha e.symm) v
end

set_option maxRecDepth 20000 in
theorem isNaN_any (x : Nat) (w : World) : Calls Try.prog 40 #[.int .u64 x] w fun e w' => e = .returned (.bool false) ∧ w' = w := by
  go_enter Try.func40, Try.ntmps40
  go_wp2
  go_ret
  exact ⟨rfl, rfl⟩
set_option maxRecDepth 20000 in
theorem Less_any (x y : Nat) (w : World) : Calls Try.prog 30 #[.int .u64 x, .int .u64 y] w fun e w' => e = .returned (.bool (decide (x < y))) ∧ w' = w := by
  go_enter Try.func30, Try.ntmps30
  go_wp2_with fail
  refine (isNaN_any x _).mono ?_
  rintro e w' ⟨rfl, hw⟩; subst w'
  go_wp2_with fail
  go_ret
  exact ⟨rfl, rfl⟩

/- Reverse, and a range of it. -/
set_option maxRecDepth 20000 in
set_option maxHeartbeats 1000000 in
theorem Reverse_any (w0 : World) (g n c : Nat) (L0 : List Nat) (w : World) (h : srd w0 g n c L0 w) (hn : n ≤ 9223372036854775807) :
    Calls Try.prog 14 #[.slice (some ⟨g, 0, none⟩) n c] w fun e w' => e = .returned (.tuple #[]) ∧ srd w0 g n c L0 w' := by
  have HS : Hid (srd w0 g n c L0 w) := h
  clear h
  go_enter Try.func14, Try.ntmps14
  go_wp2_with fail
  go_loopw [2, 3] (fun a b wr => ∃ (i : Nat) (j : Int), a = .int .i64 i ∧ b = .int .i64 j ∧ -1 ≤ j ∧ j < n ∧ i ≤ n ∧ srd w0 g n c L0 wr) (fun a _ _ => n - (intOf a).toNat)
  case atStart => exact ⟨0, (n : Int) - 1, rfl, rfl, by omega, by omega, by omega, HS.out⟩
  case round =>
    obtain ⟨i, j, rfl, rfl, h1, h2, h3, hst⟩ := hrel
    clear HS
    by_cases hlt : (i : Int) < j
    · obtain ⟨J, rfl⟩ : ∃ J : Nat, j = J := ⟨j.toNat, by omega⟩
      have hi : i < n := by omega
      have hj : J < n := by omega
      obtain ⟨x, ci, fi⟩ := srd_cell hst hi
      obtain ⟨y, cj, fj⟩ := srd_cell hst hj
      obtain ⟨z, ck, fk⟩ := srd_put hst (y := y) hi hj
      have HW : Hid (srd w0 g n c L0 ((wr.setCell ⟨g, i, none⟩ (.int .u64 (y : Int))).setCell ⟨g, J, none⟩ (.int .u64 (x : Int)))) := srd_swap hst hi hj ci cj
      clear hst
      go_wp2_with fail
      go_region
      go_wp2_with fail
      go_roundw
      case rel => exact ⟨i + 1, (J : Int) - 1, by go_num, by go_num, by omega, by omega, by omega, srd_drewN HW.out _⟩
      case measure => simp [intOf]; omega
    · go_wp2_with fail
      go_end0
      exact ⟨rfl, hst⟩

theorem wrp {a : Int} (h : -9223372036854775808 ≤ a) (h' : a ≤ 9223372036854775807) : IntKind.i64.wrap a = a := by
  simp [IntKind.wrap, IntKind.bits, IntKind.signed]; omega

set_option maxRecDepth 20000 in
set_option maxHeartbeats 1000000 in
theorem insertion_any (w0 : World) (g n c : Nat) (L0 : List Nat) (a b : Nat) (w : World) (h : srd w0 g n c L0 w) (hn : n ≤ 1152921504606846976) (hab : a ≤ b) (hb : b ≤ n) :
    Calls Try.prog 24 #[.slice (some ⟨g, 0, none⟩) n c, .int .i64 a, .int .i64 b] w fun e w' => e = .returned (.tuple #[]) ∧ srd w0 g n c L0 w' := by
  have HS : Hid (srd w0 g n c L0 w) := h
  clear h
  go_enter Try.func24, Try.ntmps24
  go_wp2_with fail
  go_loopw [6] (fun i wr => ∃ (I : Nat), i = .int .i64 I ∧ a + 1 ≤ I ∧ I ≤ n + 1 ∧ srd w0 g n c L0 wr) (fun i _ => n + 1 - (intOf i).toNat)
  case atStart => exact ⟨a + 1, by go_num, by omega, by omega, HS.out⟩
  case round =>
    obtain ⟨I, rfl, h1, h2, hst⟩ := hrel
    clear HS
    have HS : Hid (srd w0 g n c L0 wr) := hst
    clear hst
    by_cases hlt : I < b
    · go_wp2_with fail
      obtain ⟨w4, hw4⟩ : ∃ w4 : World, w4 = wr := ⟨_, rfl⟩
      subst hw4
      go_loopw [7] (fun j wr => ∃ (J : Nat), j = .int .i64 J ∧ a ≤ J ∧ J ≤ I ∧ srd w0 g n c L0 wr) (fun j _ => (intOf j).toNat)
      case atStart => exact ⟨I, rfl, by omega, by omega, HS.out⟩
      case round =>
        obtain ⟨J, rfl, h3, h4, hst⟩ := hrel
        by_cases hja : a < J
        · obtain ⟨K, rfl⟩ : ∃ K, J = K + 1 := ⟨J - 1, by omega⟩
          have hK : K + 1 < n := by omega
          have hK' : K < n := by omega
          have hd : decide ((a : Int) < (K : Int) + 1) = true := by simp; omega
          have hw1 : IntKind.i64.wrap ((K : Int) + 1 - 1) = (K : Int) := by rw [show (K : Int) + 1 - 1 = K by omega]; exact wrp (by omega) (by omega)
          have hw2 : IntKind.i64.wrap (K : Int) = (K : Int) := wrp (by omega) (by omega)
          obtain ⟨x, ci, fi⟩ := srd_cell hst hK
          obtain ⟨y, cj, fj⟩ := srd_cell hst hK'
          obtain ⟨z, ck, fk⟩ := srd_put hst (y := y) hK hK'
          have HW : Hid (∀ m, srd w0 g n c L0 (((wr.drewN m).setCell ⟨g, K + 1, none⟩ (.int .u64 (y : Int))).setCell ⟨g, K, none⟩ (.int .u64 (x : Int)))) := fun m => srd_swapN hst hK hK' ci cj m
          have HR : Hid (srd w0 g n c L0 wr) := hst
          clear hst
          go_wp2_with fail
          go_quiet ((go_at_call 30; exact Calls.quiet_of_same (Less_any _ _ _)))
          by_cases hxy : x < y
          · go_wp2_with fail
            go_region
            go_wp2_with fail
            go_roundw
            case rel => exact ⟨K, by go_num, by omega, by omega, HW.out _⟩
            case measure => simp [intOf]
          · go_wp2_with fail
            go_roundw
            case rel => exact ⟨I + 1, by go_num, by omega, by omega, srd_drewN HR.out _⟩
            case measure => simp [intOf]; omega
        · have hd : decide ((a : Int) < J) = false := by simp; omega
          go_wp2_with fail
          go_quiet (fail)
          go_wp2_with fail
          go_roundw
          case rel => exact ⟨I + 1, by go_num, by omega, by omega, srd_drewN hst _⟩
          case measure => simp [intOf]; omega
    · go_wp2_with fail
      go_end0
      exact ⟨rfl, HS.out⟩
end Go.Proofs.Ytmifgaknmhcajaa
