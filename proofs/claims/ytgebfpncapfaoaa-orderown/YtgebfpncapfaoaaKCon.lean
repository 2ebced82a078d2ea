/- What Fold, Unfold, their fellows of the document's answer, number and sizeOfFirst return. -/
import Derived.Test.YtgebfpncapfaoaaKMath
namespace Go.Proofs.Ytgebfpncapfaoaa.pk
open Go.RowKit
set_option linter.unusedVariables false
theorem kb : Kd 65 5 vb (.int .u8 0) 1 := ⟨Try.underlying65, by kernel_rfl, rfl, fun _ => rfl, by decide⟩
/-- A row of bytes of one's own, as a text. -/
theorem mine_string {B : Nat} {w : World} {v : Value} {L : List UInt8} (h : mine 5 vb B w v L) (hL : 0 < L.length) : (convert 65 9 v).run Try.prog w = .ok (.string ⟨L.toArray⟩) w := by
  obtain ⟨p, c, rfl, hr, _⟩ := mine_full h
  obtain ⟨a, rfl⟩ := row_some hr hL
  refine run_convert_bytes_back w 65 9 5 a c L Try.underlying65 Try.underlying5 Try.underlying9 ?_
  intro j hj
  obtain ⟨b, hb, hc⟩ := row_at hr hj
  cases hb; exact hc

set_option maxRecDepth 20000 in
theorem Fold_any (n : Int) (w : World) (h : fits n) : Calls Try.prog 56 #[.int .i64 n] w fun e w' => e = .returned (.int .u64 (fd n)) ∧ w' = w := by
  unfold fits at h
  obtain ⟨h1, h2⟩ := h
  by_cases h0 : 0 ≤ n
  · have HF : Hid ((fd n : Int) = 2 * n) := by unfold Hid fd; rw [if_pos h0]; omega
    go_enter Try.func56, Try.ntmps56
    go_wp2_with fail
    go_ret
    exact ⟨ret_int (by rw [HF.out]), rfl⟩
  · have HF : Hid ((fd n : Int) = 2 * (-(n + 1)) + 1) := by unfold Hid fd; rw [if_neg h0]; omega
    go_enter Try.func56, Try.ntmps56
    go_wp2_with fail
    go_ret
    exact ⟨ret_int (by rw [HF.out]), rfl⟩
set_option maxRecDepth 20000 in
theorem Folded_any (n : Int) (w : World) (h : fits n) : Calls Try.prog 38 #[.int .i64 n] w fun e w' => e = .returned (.int .u64 (fd n)) ∧ w' = w := by
  unfold fits at h
  obtain ⟨h1, h2⟩ := h
  by_cases h0 : 0 ≤ n
  · have HF : Hid ((fd n : Int) = 2 * n) := by unfold Hid fd; rw [if_pos h0]; omega
    go_enter Try.func38, Try.ntmps38
    go_wp2_with fail
    go_ret
    exact ⟨ret_int (by rw [HF.out]), rfl⟩
  · have HF : Hid ((fd n : Int) = 2 * (-(n + 1)) + 1) := by unfold Hid fd; rw [if_neg h0]; omega
    go_enter Try.func38, Try.ntmps38
    go_wp2_with fail
    go_ret
    exact ⟨ret_int (by rw [HF.out]), rfl⟩
set_option maxRecDepth 20000 in
theorem Unfold_any (n : Nat) (w : World) (h : n < 18446744073709551616) : Calls Try.prog 61 #[.int .u64 n] w fun e w' => e = .returned (.int .i64 (uf n)) ∧ w' = w := by
  have h' : (n : Int) < 18446744073709551616 := by omega
  by_cases h0 : n % 2 = 0
  · have HF : Hid (uf n = (n : Int) / 2) := by unfold Hid uf; rw [if_pos h0]; omega
    have h1 : (n : Int) % 2 = 0 := by omega
    clear h h0
    go_enter Try.func61, Try.ntmps61
    go_wp2_with fail
    go_ret
    exact ⟨ret_int (by rw [HF.out]; try (simp only [IntKind.wrap_i64]; omega)), rfl⟩
  · have HF : Hid (uf n = -((n : Int) / 2) - 1) := by unfold Hid uf; rw [if_neg h0]; omega
    have h1 : (n : Int) % 2 = 1 := by omega
    clear h h0
    go_enter Try.func61, Try.ntmps61
    go_wp2_with fail
    go_ret
    exact ⟨ret_int (by rw [HF.out]; try (simp only [IntKind.wrap_i64]; omega)), rfl⟩
set_option maxRecDepth 20000 in
theorem Unfolded_any (n : Nat) (w : World) (h : n < 18446744073709551616) : Calls Try.prog 63 #[.int .u64 n] w fun e w' => e = .returned (.int .i64 (uf n)) ∧ w' = w := by
  have h' : (n : Int) < 18446744073709551616 := by omega
  by_cases h0 : n % 2 = 0
  · have HF : Hid (uf n = (n : Int) / 2) := by unfold Hid uf; rw [if_pos h0]; omega
    have h1 : (n : Int) % 2 = 0 := by omega
    clear h h0
    go_enter Try.func63, Try.ntmps63
    go_wp2_with fail
    go_ret
    exact ⟨ret_int (by rw [HF.out]; try (simp only [IntKind.wrap_i64]; omega)), rfl⟩
  · have HF : Hid (uf n = -((n : Int) / 2) - 1) := by unfold Hid uf; rw [if_neg h0]; omega
    have h1 : (n : Int) % 2 = 1 := by omega
    clear h h0
    go_enter Try.func63, Try.ntmps63
    go_wp2_with fail
    go_ret
    exact ⟨ret_int (by rw [HF.out]; try (simp only [IntKind.wrap_i64]; omega)), rfl⟩

/-- The bytes of a text. -/
def bs (s : ByteArray) : List UInt8 := s.data.toList
theorem bs_len (s : ByteArray) : (bs s).length = s.size := by unfold bs; simp
theorem nm_drop (s : ByteArray) (k : Nat) (h : k < s.size) : nm ((bs s).drop k) = nx s[k] (nm ((bs s).drop (k + 1))) := by
  have e : (bs s).drop k = s[k] :: (bs s).drop (k + 1) := by
    rw [List.drop_eq_getElem_cons (by rw [bs_len]; exact h)]; rfl
  rw [e]; rfl
theorem nx_int (b : UInt8) (n : Nat) : IntKind.u64.wrap (IntKind.u64.wrap ((n : Int) * 128) + (b.toNat : Int) % 128) = (nx b n : Int) := by
  simp only [IntKind.wrap_u64]; unfold nx; omega

set_option maxRecDepth 20000 in
set_option maxHeartbeats 400000 in
theorem number_any (s : ByteArray) (w : World) (hs : s.size ≤ 9223372036854775807) : Calls Try.prog 75 #[.string s] w fun e w' => e = .returned (.int .u64 (nm (bs s))) ∧ w' = w := by
  have H0 : Hid ((bs s).drop s.size = []) := List.drop_eq_nil_of_le (by rw [bs_len]; exact Nat.le_refl _)
  go_enter Try.func75, Try.ntmps75
  go_wp2_with fail
  go_loop [3, 4] (fun n i => ∃ k : Nat, k ≤ s.size ∧ i = .int .i64 ((k : Int) - 1) ∧ n = .int .u64 (nm ((bs s).drop k))) (fun _ i => (intOf i + 1).toNat)
  case atStart => exact ⟨s.size, Nat.le_refl _, rfl, by rw [H0.out]; rfl⟩
  case round =>
    obtain ⟨k, hk, rfl, rfl⟩ := hrel
    cases k with
    | zero =>
      have e : ((0 : Nat) : Int) - 1 = -1 := rfl
      rw [e]
      go_wp2_with fail
      go_ret
      exact ⟨rfl, rfl⟩
    | succ K =>
      have e : ((K + 1 : Nat) : Int) - 1 = K := by omega
      have HS : Hid (nm ((bs s).drop K) = nx s[K] (nm ((bs s).drop (K + 1)))) := nm_drop s K (by omega)
      rw [e]
      clear e
      obtain ⟨M, hM⟩ : ∃ M, nm ((bs s).drop (K + 1)) = M := ⟨_, rfl⟩
      rw [hM] at HS ⊢
      clear hM
      have hb : s[K].toNat < 256 := s[K].toNat_lt
      go_wp2_with fail
      go_round
      case rel => exact ⟨K, by omega, rfl, val_int (by rw [HS.out, ← nx_int])⟩
      case measure => simp [intOf]

theorem ix_le (l : List UInt8) : ix l ≤ l.length := List.findIdx_le_length
theorem ix_here {l : List UInt8} {k : Nat} (h : k ≤ ix l) (hk : k < l.length) (hb : l[k].toNat < 128) : ix l = k := by
  rcases Nat.lt_or_ge k (ix l) with h1 | h1
  · have := List.not_of_lt_findIdx h1
    unfold lw at this; simp at this; omega
  · omega
theorem ix_on {l : List UInt8} {k : Nat} (h : k ≤ ix l) (hk : k < l.length) (hb : ¬ l[k].toNat < 128) : k + 1 ≤ ix l := by
  rcases Nat.lt_or_ge k (ix l) with h1 | h1
  · omega
  · have e : ix l = k := by omega
    have := List.findIdx_getElem (p := lw) (xs := l) (w := by show ix l < _; omega)
    exfalso
    apply hb
    unfold lw at this
    simpa [show List.findIdx (fun b : UInt8 => decide (b.toNat < 128)) l = k from e] using this
/-- What sizeOfFirst may answer. -/
def szd (I S : Nat) (e : Ending) : Prop :=
  I < 10 ∧ I < S ∧ e = .returned (.tuple #[.int .i64 (I + 1 : Nat), .int .i64 0]) ∨ ¬ (I < 10 ∧ I < S) ∧ S < 10 ∧ e = .returned (.tuple #[.int .i64 0, .int .i64 3]) ∨ ¬ (I < 10 ∧ I < S) ∧ ¬ S < 10 ∧ e = .returned (.tuple #[.int .i64 0, .int .i64 4])
set_option maxRecDepth 20000 in
set_option maxHeartbeats 400000 in
theorem sizeOf_any (s : ByteArray) (w : World) (hs : s.size ≤ 9223372036854775807) : Calls Try.prog 74 #[.string s] w fun e w' => szd (ix (bs s)) s.size e ∧ w' = w := by
  have HX : Hid (∀ k (h : k < s.size), k ≤ ix (bs s) → s[k].toNat < 128 → ix (bs s) = k) := fun k h h1 h2 => ix_here (k := k) h1 (by rw [bs_len]; exact h) h2
  have HY : Hid (∀ k (h : k < s.size), k ≤ ix (bs s) → ¬ s[k].toNat < 128 → k + 1 ≤ ix (bs s)) := fun k h h1 h2 => ix_on (k := k) h1 (by rw [bs_len]; exact h) h2
  obtain ⟨I, hI⟩ : ∃ I, ix (bs s) = I := ⟨_, rfl⟩
  rw [hI] at HX HY ⊢
  clear hI
  by_cases h11 : 10 < s.size
  · go_enter Try.func74, Try.ntmps74
    go_wp2_with fail
    go_loop [8] (fun i => ∃ k : Nat, k ≤ 10 ∧ k ≤ I ∧ i = .int .i64 k) (fun i => 10 - (intOf i).toNat)
    case atStart => exact ⟨0, Nat.zero_le _, Nat.zero_le _, rfl⟩
    case round =>
      obtain ⟨k, hk, hkI, rfl⟩ := hrel
      by_cases hlt : k < 10
      · have hks : k < s.size := by omega
        by_cases hb : s[k].toNat < 128
        · have HI := HX.out k hks hkI hb
          subst HI
          go_wp2_with fail
          go_ret2
          exact ⟨.inl ⟨by omega, hks, by go_num⟩, rfl⟩
        · have HI : Hid (k + 1 ≤ I) := HY.out k hks hkI hb
          go_wp2_with fail
          go_round
          case rel => exact ⟨k + 1, by omega, HI.out, by go_num⟩
          case measure => simp [intOf]; omega
      · go_wp2_with fail
        go_ret2
        exact ⟨.inr (.inr ⟨by omega, by omega, rfl⟩), rfl⟩
  · go_enter Try.func74, Try.ntmps74
    go_wp2_with fail
    go_loop [8] (fun i => ∃ k : Nat, k ≤ s.size ∧ k ≤ I ∧ i = .int .i64 k) (fun i => s.size - (intOf i).toNat)
    case atStart => exact ⟨0, Nat.zero_le _, Nat.zero_le _, rfl⟩
    case round =>
      obtain ⟨k, hk, hkI, rfl⟩ := hrel
      by_cases hlt : k < s.size
      · have hks : k < s.size := by omega
        by_cases hb : s[k].toNat < 128
        · have HI := HX.out k hks hkI hb
          subst HI
          go_wp2_with fail
          go_ret2
          exact ⟨.inl ⟨by omega, hks, by go_num⟩, rfl⟩
        · have HI : Hid (k + 1 ≤ I) := HY.out k hks hkI hb
          go_wp2_with fail
          go_round
          case rel => exact ⟨k + 1, by omega, HI.out, by go_num⟩
          case measure => simp [intOf]; omega
      · by_cases h10 : s.size < 10
        · go_wp2_with fail
          go_ret2
          exact ⟨.inr (.inl ⟨by omega, h10, rfl⟩), rfl⟩
        · go_wp2_with fail
          go_ret2
          exact ⟨.inr (.inr ⟨by omega, h10, rfl⟩), rfl⟩
end Go.Proofs.Ytgebfpncapfaoaa.pk
