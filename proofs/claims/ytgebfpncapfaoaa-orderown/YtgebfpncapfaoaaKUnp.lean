/- What Unpacked returns: what Get does. -/
import Derived.Test.YtgebfpncapfaoaaKRef
namespace Go.Proofs.Ytgebfpncapfaoaa.pk
open Go.RowKit
set_option linter.unusedVariables false
attribute [local go_sem ↓] Go.wp_at_zero Go.wp_at_succ

theorem nm_part (s : ByteArray) (I K : Nat) (h1 : K < I + 1) (h : K < s.size) : nm ((bs (s.extract 0 (I + 1))).drop K) = nx s[K] (nm ((bs (s.extract 0 (I + 1))).drop (K + 1))) := by
  rw [bs_head]
  have e : ((bs s).take (I + 1)).drop K = s[K] :: ((bs s).take (I + 1)).drop (K + 1) := by
    rw [List.drop_eq_getElem_cons (by rw [List.length_take, bs_len]; omega), List.getElem_take]; rfl
  rw [e]; rfl
theorem part_end (s : ByteArray) (I : Nat) : (bs (s.extract 0 (I + 1))).drop (I + 1) = [] := by
  rw [bs_head]; exact List.drop_eq_nil_of_le (List.length_take_le _ _)
theorem nx_int2 (b : UInt8) (n : Nat) : IntKind.u64.wrap (IntKind.u64.wrap (128 * (n : Int)) + (b.toNat : Int) % 128) = (nx b n : Int) := by
  rw [Int.mul_comm, nx_int]

set_option maxRecDepth 20000 in
set_option maxHeartbeats 2000000 in
theorem Unpacked_any (s : ByteArray) (w : World) (hs : s.size ≤ 9223372036854775806) : Calls Try.prog 62 #[.string s] w fun e w' => e = .returned (.tuple #[.int .u64 (gn s), .string (gr s), .int .i64 (ge s)]) ∧ Below w.heap.size w w' := by
  have HX : Hid (∀ k (h : k < s.size), k ≤ ix (bs s) → s[k].toNat < 128 → ix (bs s) = k) := fun k h h1 h2 => ix_here (k := k) h1 (by rw [bs_len]; exact h) h2
  have HY : Hid (∀ k (h : k < s.size), k ≤ ix (bs s) → ¬ s[k].toNat < 128 → k + 1 ≤ ix (bs s)) := fun k h h1 h2 => ix_on (k := k) h1 (by rw [bs_len]; exact h) h2
  have H1 : Hid (¬ (ix (bs s) < 10 ∧ ix (bs s) < s.size) → s.size < 10 → gn s = 0 ∧ gr s = ⟨#[]⟩ ∧ ge s = 3) := fun h h2 => get_no (gl_short (by rw [bs_len]; omega) (by rw [bs_len]; exact h2))
  have H2 : Hid (¬ (ix (bs s) < 10 ∧ ix (bs s) < s.size) → ¬ s.size < 10 → gn s = 0 ∧ gr s = ⟨#[]⟩ ∧ ge s = 4) := fun h h2 => get_no (gl_long (by rw [bs_len]; exact h) (by rw [bs_len]; exact h2))
  have H3 : Hid (ix (bs s) < 10 → ix (bs s) < s.size → ps (nm (bs (s.extract 0 (ix (bs s) + 1)))) = s.extract 0 (ix (bs s) + 1) → gn s = nm (bs (s.extract 0 (ix (bs s) + 1))) ∧ gr s = s.extract (ix (bs s) + 1) s.size ∧ ge s = 0) := get_yes
  have H4 : Hid (ix (bs s) < 10 → ix (bs s) < s.size → ¬ ps (nm (bs (s.extract 0 (ix (bs s) + 1)))) = s.extract 0 (ix (bs s) + 1) → gn s = 0 ∧ gr s = ⟨#[]⟩ ∧ ge s = 4) := get_form
  have HI : Hid (ix (bs s) ≤ s.size) := by have := ix_le (bs s); rw [bs_len] at this; exact this
  obtain ⟨I, hI⟩ : ∃ I, ix (bs s) = I := ⟨_, rfl⟩
  rw [hI] at HX HY H1 H2 H3 H4 HI
  clear hI
  go_enter Try.func62, Try.ntmps62
  go_wp2_with fail
  go_loop [5, 11] (fun t i => ∃ k : Nat, k ≤ s.size ∧ k ≤ I ∧ i = .int .i64 k ∧ t = .int .i64 (-1)) (fun _ i => s.size - (intOf i).toNat)
  case atStart => exact ⟨0, Nat.zero_le _, Nat.zero_le _, rfl, rfl⟩
  case round =>
    obtain ⟨k, hk, hkI, rfl, rfl⟩ := hrel
    by_cases hks : k < s.size
    · by_cases hb : s[k].toNat < 128
      · obtain rfl := HX.out k hks hkI hb
        clear hkI
        by_cases h9 : I < 10
        · by_cases h10 : s.size < 10
          · have A3 : Hid (ps (nm (bs (s.extract 0 (I + 1)))) = s.extract 0 (I + 1) → gn s = nm (bs (s.extract 0 (I + 1))) ∧ gr s = s.extract (I + 1) s.size ∧ ge s = 0) := H3.out h9 hks
            have A4 : Hid (¬ ps (nm (bs (s.extract 0 (I + 1)))) = s.extract 0 (I + 1) → gn s = 0 ∧ gr s = ⟨#[]⟩ ∧ ge s = 4) := H4.out h9 hks
            have HPu : Hid (∀ w : World, Calls Try.prog 37 #[.int .u64 (nm (bs (s.extract 0 (I + 1))))] w fun e w' => e = .returned (.string (ps (nm (bs (s.extract 0 (I + 1)))))) ∧ Below w.heap.size w w') := fun w => Packed_any _ w (nm_lt _)
            have HD : Hid (∀ K, K < I + 1 → ∀ h : K < s.size, nm ((bs (s.extract 0 (I + 1))).drop K) = nx s[K] (nm ((bs (s.extract 0 (I + 1))).drop (K + 1)))) := fun K h1 h2 => nm_part s I K h1 h2
            have H00 : Hid ((bs (s.extract 0 (I + 1))).drop (I + 1) = []) := part_end s I
            have hI1 : ¬ (9 : Int) < I := by omega
            have hI2 : (0 : Int) ≤ I := by omega
            have e9 : (decide ((9 : Int) < I)) = false := by simpa using hI1
            clear H1 H2 H3 H4 HX HY
            go_wp2_with fail
            go_loop [7, 8] (fun n i => ∃ k : Nat, k ≤ I + 1 ∧ i = .int .i64 ((k : Int) - 1) ∧ n = .int .u64 (nm ((bs (s.extract 0 (I + 1))).drop k))) (fun _ i => (intOf i + 1).toNat)
            case atStart => exact ⟨I + 1, Nat.le_refl _, by go_num, by rw [H00.out]; rfl⟩
            case round =>
              obtain ⟨k, hk, rfl, rfl⟩ := hrel
              cases k with
              | zero =>
                rw [show ((0 : Nat) : Int) - 1 = -1 from rfl, List.drop_zero]
                clear HD H00
                obtain ⟨M, hM⟩ : ∃ M, nm (bs (s.extract 0 (I + 1))) = M := ⟨_, rfl⟩
                rw [hM] at A3 A4 HPu ⊢
                clear hM
                have eK : IntKind.i64.wrap ((I + 1 : Nat) : Int) = ((I + 1 : Nat) : Int) := by rw [IntKind.wrap_i64]; omega
                have eK2 : (I : Int) + 1 = ((I + 1 : Nat) : Int) := by omega
                have hK : I + 1 ≤ s.size := by omega
                obtain ⟨K, hKK⟩ : ∃ K, I + 1 = K := ⟨_, rfl⟩
                rw [hKK] at A3 A4 eK eK2 hK
                clear hKK
                have k1 : (0 : Int) ≤ K := by omega
                have k2 : (K : Int) ≤ s.size := by omega
                by_cases hq : ps M = s.extract 0 K
                · have A3 : Hid (gn s = M ∧ gr s = s.extract K s.size ∧ ge s = 0) := A3.out hq
                  rw [hq] at HPu
                  clear A4 hq
                  go_wp2_with fail
                  have h0 : Below w.heap.size w w := Below.refl _ _
                  go_region_held3 (fun w' => Below w.heap.size w w') (first | exact Below.drew (by assumption) | exact below_drewN (by assumption) _ | exact below_step (by assumption) (Below.size (by assumption)) (by assumption)) (first | (go_at_call 37; refine (HPu.out _).mono ?_; rintro e w1 ⟨rfl, hb⟩))
                  go_wp2_with fail
                  go_quiet (fail)
                  go_wp2_with fail
                  go_ret3
                  exact ⟨ret_get A3.out.1.symm A3.out.2.1.symm A3.out.2.2.symm, below_drewN (by assumption) _⟩
                · have A4 : Hid (gn s = 0 ∧ gr s = ⟨#[]⟩ ∧ ge s = 4) := A4.out hq
                  have hne : (((ps M).toList == (s.extract 0 K).toList) = false) := str_ne hq
                  clear A3 hq
                  obtain ⟨t, ht⟩ : ∃ t, ps M = t := ⟨_, rfl⟩
                  rw [ht] at hne HPu
                  clear ht
                  go_wp2_with fail
                  have h0 : Below w.heap.size w w := Below.refl _ _
                  go_region_held3 (fun w' => Below w.heap.size w w') (first | exact Below.drew (by assumption) | exact below_drewN (by assumption) _ | exact below_step (by assumption) (Below.size (by assumption)) (by assumption)) (first | (go_at_call 37; refine (HPu.out _).mono ?_; rintro e w1 ⟨rfl, hb⟩))
                  go_wp2_with fail
                  go_ret3
                  exact ⟨ret_get A4.out.1.symm A4.out.2.1.symm A4.out.2.2.symm, by assumption⟩
              | succ K =>
                have HS : Hid (nm ((bs (s.extract 0 (I + 1))).drop K) = nx (s[K]'(by omega)) (nm ((bs (s.extract 0 (I + 1))).drop (K + 1)))) := HD.out K (by omega) (by omega)
                rw [show ((K + 1 : Nat) : Int) - 1 = K by omega]
                obtain ⟨M, hM⟩ : ∃ M, nm ((bs (s.extract 0 (I + 1))).drop (K + 1)) = M := ⟨_, rfl⟩
                rw [hM] at HS ⊢
                clear hM
                have hKs : K < s.size := by omega
                have hb : s[K].toNat < 256 := s[K].toNat_lt
                go_wp2_with fail
                go_round
                case rel => exact ⟨K, by omega, rfl, val_int (by rw [HS.out, ← nx_int2])⟩
                case measure => simp [intOf]
          · have A3 : Hid (ps (nm (bs (s.extract 0 (I + 1)))) = s.extract 0 (I + 1) → gn s = nm (bs (s.extract 0 (I + 1))) ∧ gr s = s.extract (I + 1) s.size ∧ ge s = 0) := H3.out h9 hks
            have A4 : Hid (¬ ps (nm (bs (s.extract 0 (I + 1)))) = s.extract 0 (I + 1) → gn s = 0 ∧ gr s = ⟨#[]⟩ ∧ ge s = 4) := H4.out h9 hks
            have HPu : Hid (∀ w : World, Calls Try.prog 37 #[.int .u64 (nm (bs (s.extract 0 (I + 1))))] w fun e w' => e = .returned (.string (ps (nm (bs (s.extract 0 (I + 1)))))) ∧ Below w.heap.size w w') := fun w => Packed_any _ w (nm_lt _)
            have HD : Hid (∀ K, K < I + 1 → ∀ h : K < s.size, nm ((bs (s.extract 0 (I + 1))).drop K) = nx s[K] (nm ((bs (s.extract 0 (I + 1))).drop (K + 1)))) := fun K h1 h2 => nm_part s I K h1 h2
            have H00 : Hid ((bs (s.extract 0 (I + 1))).drop (I + 1) = []) := part_end s I
            have hI1 : ¬ (9 : Int) < I := by omega
            have hI2 : (0 : Int) ≤ I := by omega
            have e9 : (decide ((9 : Int) < I)) = false := by simpa using hI1
            clear H1 H2 H3 H4 HX HY
            go_wp2_with fail
            go_loop [7, 8] (fun n i => ∃ k : Nat, k ≤ I + 1 ∧ i = .int .i64 ((k : Int) - 1) ∧ n = .int .u64 (nm ((bs (s.extract 0 (I + 1))).drop k))) (fun _ i => (intOf i + 1).toNat)
            case atStart => exact ⟨I + 1, Nat.le_refl _, by go_num, by rw [H00.out]; rfl⟩
            case round =>
              obtain ⟨k, hk, rfl, rfl⟩ := hrel
              cases k with
              | zero =>
                rw [show ((0 : Nat) : Int) - 1 = -1 from rfl, List.drop_zero]
                clear HD H00
                obtain ⟨M, hM⟩ : ∃ M, nm (bs (s.extract 0 (I + 1))) = M := ⟨_, rfl⟩
                rw [hM] at A3 A4 HPu ⊢
                clear hM
                have eK : IntKind.i64.wrap ((I + 1 : Nat) : Int) = ((I + 1 : Nat) : Int) := by rw [IntKind.wrap_i64]; omega
                have eK2 : (I : Int) + 1 = ((I + 1 : Nat) : Int) := by omega
                have hK : I + 1 ≤ s.size := by omega
                obtain ⟨K, hKK⟩ : ∃ K, I + 1 = K := ⟨_, rfl⟩
                rw [hKK] at A3 A4 eK eK2 hK
                clear hKK
                have k1 : (0 : Int) ≤ K := by omega
                have k2 : (K : Int) ≤ s.size := by omega
                by_cases hq : ps M = s.extract 0 K
                · have A3 : Hid (gn s = M ∧ gr s = s.extract K s.size ∧ ge s = 0) := A3.out hq
                  rw [hq] at HPu
                  clear A4 hq
                  go_wp2_with fail
                  have h0 : Below w.heap.size w w := Below.refl _ _
                  go_region_held3 (fun w' => Below w.heap.size w w') (first | exact Below.drew (by assumption) | exact below_drewN (by assumption) _ | exact below_step (by assumption) (Below.size (by assumption)) (by assumption)) (first | (go_at_call 37; refine (HPu.out _).mono ?_; rintro e w1 ⟨rfl, hb⟩))
                  go_wp2_with fail
                  go_quiet (fail)
                  go_wp2_with fail
                  go_ret3
                  exact ⟨ret_get A3.out.1.symm A3.out.2.1.symm A3.out.2.2.symm, below_drewN (by assumption) _⟩
                · have A4 : Hid (gn s = 0 ∧ gr s = ⟨#[]⟩ ∧ ge s = 4) := A4.out hq
                  have hne : (((ps M).toList == (s.extract 0 K).toList) = false) := str_ne hq
                  clear A3 hq
                  obtain ⟨t, ht⟩ : ∃ t, ps M = t := ⟨_, rfl⟩
                  rw [ht] at hne HPu
                  clear ht
                  go_wp2_with fail
                  have h0 : Below w.heap.size w w := Below.refl _ _
                  go_region_held3 (fun w' => Below w.heap.size w w') (first | exact Below.drew (by assumption) | exact below_drewN (by assumption) _ | exact below_step (by assumption) (Below.size (by assumption)) (by assumption)) (first | (go_at_call 37; refine (HPu.out _).mono ?_; rintro e w1 ⟨rfl, hb⟩))
                  go_wp2_with fail
                  go_ret3
                  exact ⟨ret_get A4.out.1.symm A4.out.2.1.symm A4.out.2.2.symm, by assumption⟩
              | succ K =>
                have HS : Hid (nm ((bs (s.extract 0 (I + 1))).drop K) = nx (s[K]'(by omega)) (nm ((bs (s.extract 0 (I + 1))).drop (K + 1)))) := HD.out K (by omega) (by omega)
                rw [show ((K + 1 : Nat) : Int) - 1 = K by omega]
                obtain ⟨M, hM⟩ : ∃ M, nm ((bs (s.extract 0 (I + 1))).drop (K + 1)) = M := ⟨_, rfl⟩
                rw [hM] at HS ⊢
                clear hM
                have hKs : K < s.size := by omega
                have hb : s[K].toNat < 256 := s[K].toNat_lt
                go_wp2_with fail
                go_round
                case rel => exact ⟨K, by omega, rfl, val_int (by rw [HS.out, ← nx_int2])⟩
                case measure => simp [intOf]
        · have A : Hid (gn s = 0 ∧ gr s = ⟨#[]⟩ ∧ ge s = 4) := H2.out (by omega) (by omega)
          clear H1 H2 H3 H4 HX HY
          go_wp2_with fail
          go_ret3
          exact ⟨ret_get A.out.1.symm A.out.2.1.symm A.out.2.2.symm, Below.refl _ _⟩
      · have HJ : Hid (k + 1 ≤ I) := HY.out k hks hkI hb
        go_wp2_with fail
        go_round
        case rel => exact ⟨k + 1, by omega, HJ.out, by go_num, rfl⟩
        case measure => simp [intOf]; omega
    · by_cases h10 : s.size < 10
      · have A : Hid (gn s = 0 ∧ gr s = ⟨#[]⟩ ∧ ge s = 3) := H1.out (by omega) h10
        clear H1 H2 H3 H4 HX HY
        go_wp2_with fail
        go_ret3
        exact ⟨ret_get A.out.1.symm A.out.2.1.symm A.out.2.2.symm, Below.refl _ _⟩
      · have A : Hid (gn s = 0 ∧ gr s = ⟨#[]⟩ ∧ ge s = 4) := H2.out (by omega) h10
        clear H1 H2 H3 H4 HX HY
        go_wp2_with fail
        go_ret3
        exact ⟨ret_get A.out.1.symm A.out.2.1.symm A.out.2.2.symm, Below.refl _ _⟩
end Go.Proofs.Ytgebfpncapfaoaa.pk
