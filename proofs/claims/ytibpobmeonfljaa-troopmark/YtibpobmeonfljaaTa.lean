/- What Leaf and LeafOf return. -/
import Derived.Test.YtibpobmeonfljaaKc
import Derived.Laws.IdiomStrings
import Derived.Laws.World
namespace Go.Proofs.Ytibpobmeonfljaa
open Go.RowKit
set_option linter.unusedVariables false

/-- One byte more. -/
def lb (m : Nat) (b : UInt8) : Nat := mx (m ^^^ b.toNat)
/-- The mark of a text. -/
def lfs (m : Nat) (l : List UInt8) : Nat := l.foldl lb m
def lf (s : ByteArray) : Nat := lfs (mx s.size) s.data.toList
theorem lfs_lt {m : Nat} (h : m < 18446744073709551616) : ∀ l, lfs m l < 18446744073709551616
  | [] => h
  | b :: l => lfs_lt (mx_lt _) l
theorem lf_lt (s : ByteArray) : lf s < 18446744073709551616 := by unfold lf; exact lfs_lt (mx_lt _) _
theorem takeb_snoc (s : ByteArray) (k : Nat) (h : k < s.size) : s.data.toList.take (k + 1) = s.data.toList.take k ++ [s[k]] := by
  rw [List.take_succ_eq_append_getElem (by simpa using h)]; rfl
theorem fold_snoc (g : Nat → UInt8 → Nat) (m : Nat) (s : ByteArray) (k : Nat) (h : k < s.size) : (s.data.toList.take (k + 1)).foldl g m = g ((s.data.toList.take k).foldl g m) s[k] := by
  rw [takeb_snoc s k h, List.foldl_append]; rfl
theorem lfs_snoc (m : Nat) (s : ByteArray) (k : Nat) (h : k < s.size) : lfs m (s.data.toList.take (k + 1)) = lb (lfs m (s.data.toList.take k)) s[k] := fold_snoc lb m s k h

set_option maxRecDepth 20000 in
set_option maxHeartbeats 400000 in
theorem Leaf_any (s : ByteArray) (w : World) (hs : s.size ≤ 9223372036854775807) :
    Calls Try.prog 53 #[.string s] w fun e w' => e = .returned (.int .u64 (lf s)) ∧ w' = w := by
  have HL : Hid (lf s = lfs (mx s.size) s.data.toList) := rfl
  have HM : Hid (mx s.size < 18446744073709551616) := mx_lt _
  go_enter Try.func53, Try.ntmps53
  go_wp2_with fail
  refine (Mix_any s.size _ (by omega)).mono ?_
  rintro e w' ⟨rfl, hw⟩; subst w'
  obtain ⟨M, hM⟩ : ∃ M, mx s.size = M := ⟨_, rfl⟩
  rw [hM] at HL HM ⊢
  clear hM
  go_wp2_with fail
  go_loop [3, 11] (fun a i => ∃ k : Nat, a = .int .u64 (lfs M (s.data.toList.take k)) ∧ i = .int .i64 k ∧ k ≤ s.size) (fun _ i => s.size - (intOf i).toNat)
  case atStart => exact ⟨0, rfl, rfl, by omega⟩
  case round =>
    obtain ⟨k, rfl, rfl, hk⟩ := hrel
    have HT : Hid (lfs M (s.data.toList.take k) < 18446744073709551616) := lfs_lt HM.out _
    by_cases hlt : k < s.size
    · have HS : Hid (lfs M (s.data.toList.take (k + 1)) = mx (lfs M (s.data.toList.take k) ^^^ s[k].toNat)) := lfs_snoc M s k hlt
      have hb : s[k].toNat < 256 := s[k].toNat_lt
      have hx := u64_xor_nat (lfs M (s.data.toList.take k)) s[k].toNat HT.out (by omega)
      have HX : Hid (lfs M (s.data.toList.take k) ^^^ s[k].toNat < 18446744073709551616) := xor_lt HT.out (by omega)
      obtain ⟨T, hT⟩ : ∃ T, lfs M (s.data.toList.take k) = T := ⟨_, rfl⟩
      rw [hT] at hx HX HS ⊢
      clear hT HT
      obtain ⟨X, hX⟩ : ∃ X, T ^^^ s[k].toNat = X := ⟨_, rfl⟩
      rw [hX] at hx HX HS
      clear hX
      go_wp2_with fail
      refine (Mix_any X _ HX.out).mono ?_
      rintro e w' ⟨rfl, hw⟩; subst w'
      go_wp2_with fail
      go_round
      case rel => exact ⟨k + 1, by rw [HS.out], by go_num, by omega⟩
      case measure => simp [intOf]; omega
    · go_wp2_with fail
      go_ret
      exact ⟨ret_int (by rw [HL.out, List.take_of_length_le (by have e : s.size = s.data.size := rfl; simp; omega)]), rfl⟩

set_option maxRecDepth 20000 in
set_option maxHeartbeats 400000 in
theorem LeafOf_any (s : ByteArray) (w : World) (hs : s.size ≤ 9223372036854775807) :
    Calls Try.prog 51 #[.string s] w fun e w' => e = .returned (.int .u64 (lf s)) ∧ Below w.heap.size w w' := by
  have HL : Hid (lf s = lfs (mx s.size) s.data.toList) := rfl
  have HM : Hid (mx s.size < 18446744073709551616) := mx_lt _
  go_enter Try.func51, Try.ntmps51
  go_wp2_with fail
  refine (Mixed_any s.size _ (by omega)).mono ?_
  rintro e w' ⟨rfl, hw⟩; subst w'
  obtain ⟨M, hM⟩ : ∃ M, mx s.size = M := ⟨_, rfl⟩
  rw [hM] at HL HM ⊢
  clear hM
  have hcv := run_bytes_of_string (P := Try.prog) w 9 92 5 s Try.underlying9 Try.underlying92 Try.underlying5
  go_wp2_with fail
  clear hcv
  obtain ⟨W1, hW1⟩ : ∃ W1 : World, (w.alloc (.cells (bytesRow s (grownCap w s.size 0 5)) 5 ((bytesRow s (grownCap w s.size 0 5)).size, (bytesRow s (grownCap w s.size 0 5)).size + 1))).drew = W1 := ⟨_, rfl⟩
  have hcell : ∀ k (h : k < s.size), W1.cell? ⟨w.heap.size, k, none⟩ = some (.int .u8 (s[k].toNat : Int)) := by
    intro k h
    rw [← hW1]
    have := World.cell?_alloc_mark w (bytesRow s (grownCap w s.size 0 5)) 5 ((bytesRow s (grownCap w s.size 0 5)).size, (bytesRow s (grownCap w s.size 0 5)).size + 1) k
    exact this.trans (bytesRow_at s _ k h)
  have hBel : Hid (Below w.heap.size w W1) := by rw [← hW1]; exact ((Below.refl _ _).alloc (Nat.le_refl _) _).drew
  rw [hW1]
  generalize grownCap w s.size 0 5 = cap at *
  clear hW1
  have HC : Hid (∀ k (h : k < s.size), W1.cell? ⟨w.heap.size, k, none⟩ = some (.int .u8 (s[k].toNat : Int))) := hcell
  clear hcell
  go_loop [3, 13] (fun a i => ∃ k : Nat, a = .int .u64 (lfs M (s.data.toList.take k)) ∧ i = .int .i64 k ∧ k ≤ s.size) (fun _ i => s.size - (intOf i).toNat)
  case atStart => exact ⟨0, rfl, rfl, by omega⟩
  case round =>
    obtain ⟨k, rfl, rfl, hk⟩ := hrel
    have HT : Hid (lfs M (s.data.toList.take k) < 18446744073709551616) := lfs_lt HM.out _
    by_cases hlt : k < s.size
    · have HS : Hid (lfs M (s.data.toList.take (k + 1)) = mx (lfs M (s.data.toList.take k) ^^^ s[k].toNat)) := lfs_snoc M s k hlt
      have hc := HC.out k hlt
      have hb : s[k].toNat < 256 := s[k].toNat_lt
      have hx := u64_xor_nat (lfs M (s.data.toList.take k)) s[k].toNat HT.out (by omega)
      have HX : Hid (lfs M (s.data.toList.take k) ^^^ s[k].toNat < 18446744073709551616) := xor_lt HT.out (by omega)
      obtain ⟨T, hT⟩ : ∃ T, lfs M (s.data.toList.take k) = T := ⟨_, rfl⟩
      rw [hT] at hx HX HS ⊢
      clear hT HT
      obtain ⟨X, hX⟩ : ∃ X, T ^^^ s[k].toNat = X := ⟨_, rfl⟩
      rw [hX] at hx HX HS
      clear hX
      go_wp2_with fail
      refine (Mixed_any X _ HX.out).mono ?_
      rintro e w' ⟨rfl, hw⟩; subst w'
      go_wp2_with fail
      go_round
      case rel => exact ⟨k + 1, by rw [HS.out], by go_num, by omega⟩
      case measure => simp [intOf]; omega
    · go_wp2_with fail
      go_ret
      exact ⟨ret_int (by rw [HL.out, List.take_of_length_le (by have e : s.size = s.data.size := rfl; simp; omega)]), hBel.out⟩
end Go.Proofs.Ytibpobmeonfljaa
