/- What the document's own mark of a list ('MarkOf') returns. -/
import Derived.Test.YtibpobmeonfljaaKo
import Derived.Test.YtibpobmeonfljaaKd
namespace Go.Proofs.Ytibpobmeonfljaa
open Go.RowKit
set_option linter.unusedVariables false
theorem geq_int (a b : Nat) : (decide ((a : Int) ≤ (b : Int))) = decide (a ≤ b) := by
  by_cases h : a ≤ b
  · rw [decide_eq_true h, decide_eq_true (by omega)]
  · rw [decide_eq_false h, decide_eq_false (by omega)]

set_option maxRecDepth 20000 in
set_option maxHeartbeats 2000000 in
theorem MarkOf_any (p : Option Addr) (c : Nat) (l : List Nat) (w : World) (h : (⟨p, c, l⟩ : Lst).ok w) (hl : l.length ≤ 2000) :
    Calls Try.prog 35 #[.slice p l.length c] w fun e w' => e = .returned (.int .u64 (tn 0 l)) ∧ w' = w := by
  have HR : Hid (rowu w p l) := h.1
  have HS : Hid (small l) := h.2.1
  clear h
  have HE : Hid (mo l l.length = tn 0 l) := mo_end l
  obtain ⟨R, hR⟩ : ∃ R, tn 0 l = R := ⟨_, rfl⟩
  rw [hR] at HE ⊢
  clear hR
  go_enter Try.func35, Try.ntmps35
  go_wp2
  go_loop [3, 12] (fun a i => ∃ k : Nat, k ≤ l.length ∧ a = .int .u64 (mo l k) ∧ i = .int .i64 k) (fun _ i => l.length - (intOf i).toNat)
  case atStart => exact ⟨0, by omega, rfl, rfl⟩
  case round =>
    obtain ⟨k, hk, rfl, rfl⟩ := hrel
    by_cases hlt : k < l.length
    · obtain ⟨a, rfl, hca⟩ := HR.out k hlt
      have HX : Hid (l.getD k 0 < 18446744073709551616) := small_at HS.out k
      have HY : Hid ((l.take k).contains (l.getD k 0) = false → l.count (l.getD k 0) % 2 = 1 → mo l (k + 1) = mo l k ^^^ mx (l.getD k 0)) := fun a b => mo_yes a b
      have HZ : Hid ((l.take k).contains (l.getD k 0) = true → mo l (k + 1) = mo l k) := fun a => mo_seen a
      have HV : Hid (¬ l.count (l.getD k 0) % 2 = 1 → mo l (k + 1) = mo l k) := fun a => mo_even a
      obtain ⟨X, hX⟩ : ∃ X, l.getD k 0 = X := ⟨_, rfl⟩
      rw [hX] at hca HX HY HZ HV
      clear hX
      go_wp2_with fail
      go_loop [6, 7, 19] (fun t f i => ∃ (j : Nat), j ≤ l.length ∧ t = .int .i64 (ct l X j) ∧ f = .bool (ft l X k j) ∧ i = .int .i64 j) (fun _ _ i => l.length - (intOf i).toNat)
      case atStart => exact ⟨0, by omega, rfl, by simp [ft], rfl⟩
      case round =>
        obtain ⟨j, hj, rfl, rfl, rfl⟩ := hrel
        have hct := ct_le l X j
        by_cases hjl : j < l.length
        · have hcj := rowu_cell HR.out j hjl
          have HC1 : Hid (l.getD j 0 = X → ct l X (j + 1) = ct l X j + 1) := fun h => ct_yes hjl h
          have HC2 : Hid (¬ l.getD j 0 = X → ct l X (j + 1) = ct l X j) := fun h => ct_no hjl h
          have HF1 : Hid (l.getD j 0 = X → ft l X k (j + 1) = (ft l X k j && decide (k ≤ j))) := fun h => ft_yes hjl h
          have HF2 : Hid (¬ l.getD j 0 = X → ft l X k (j + 1) = ft l X k j) := fun h => ft_no hjl h
          obtain ⟨Y, hY⟩ : ∃ Y, l.getD j 0 = Y := ⟨_, rfl⟩
          rw [hY] at hcj HC1 HC2 HF1 HF2
          clear hY
          obtain ⟨T, hT⟩ : ∃ T, ct l X j = T := ⟨_, rfl⟩
          obtain ⟨F, hF⟩ : ∃ F, ft l X k j = F := ⟨_, rfl⟩
          rw [hT] at HC1 HC2 hct ⊢
          rw [hF] at HF1 HF2 ⊢
          clear hT hF
          by_cases hxy : Y = X
          · subst hxy
            have hg := geq_int k j
            cases F
            · go_wp2_with fail
              go_round
              case rel => exact ⟨j + 1, by omega, val_int (by rw [HC1.out rfl]; go_num), by rw [HF1.out rfl]; rfl, by go_num⟩
              case measure => simp [intOf]; omega
            · by_cases hkj : k ≤ j
              · go_wp2_with fail
                go_round
                case rel => exact ⟨j + 1, by omega, val_int (by rw [HC1.out rfl]; go_num), by rw [HF1.out rfl]; simp [hkj], by go_num⟩
                case measure => simp [intOf]; omega
              · go_wp2_with fail
                go_round
                case rel => exact ⟨j + 1, by omega, val_int (by rw [HC1.out rfl]; go_num), by rw [HF1.out rfl]; simp [hkj], by go_num⟩
                case measure => simp [intOf]; omega
          · have hne : ((Y : Int) == X) = false := beq_eq_false_iff_ne.2 (by omega)
            have HNE : Hid (¬ Y = X) := hxy
            clear hxy
            go_wp2_with fail
            go_round
            case rel => exact ⟨j + 1, by omega, by rw [HC2.out HNE.out], by rw [HF2.out HNE.out], by go_num⟩
            case measure => simp [intOf]; omega
        · have hfe : ft l X k j = !(l.take k).contains X := by rw [show j = l.length by omega]; exact ft_end hlt
          have hce : ct l X j = l.count X := by rw [show j = l.length by omega]; exact ct_end l X
          rw [hfe, hce]
          rw [hce] at hct
          clear hfe hce
          obtain ⟨C, hC⟩ : ∃ C, l.count X = C := ⟨_, rfl⟩
          obtain ⟨D, hD⟩ : ∃ D, (l.take k).contains X = D := ⟨_, rfl⟩
          rw [hC] at HY HV hct ⊢
          rw [hD] at HY HZ ⊢
          clear hC hD
          have hm : (C : Int).tmod 2 = ((C % 2 : Nat) : Int) := rfl
          cases D
          · by_cases ho : C % 2 = 1
            · rw [ho] at hm
              have HYY := HY.out rfl ho
              have HML : Hid (mo l k < 18446744073709551616) := mo_lt l k
              have hx := u64_xor_nat (mo l k) (mx X) HML.out (mx_lt X)
              rw [← HYY] at hx
              obtain ⟨XX, hXX⟩ : ∃ XX, mx X = XX := ⟨_, rfl⟩
              have HO : Hid (C % 2 = 1) := ho
              clear HYY ho
              go_wp2_with fail
              refine (Mixed_any X _ HX.out).mono ?_
              rintro e w' ⟨rfl, hw⟩; subst w'
              rw [hXX] at hx ⊢
              clear hXX
              go_wp2_with fail
              go_round
              case rel => exact ⟨k + 1, by omega, rfl, by go_num⟩
              case measure => simp [intOf]; omega
            · have h0 : C % 2 = 0 := by omega
              have HVV : Hid (mo l (k + 1) = mo l k) := HV.out ho
              rw [h0] at hm
              have HO : Hid (C % 2 = 0) := h0
              clear ho h0
              go_wp2_with fail
              go_round
              case rel => exact ⟨k + 1, by omega, by rw [HVV.out], by go_num⟩
              case measure => simp [intOf]; omega
          · have HVV : Hid (mo l (k + 1) = mo l k) := HZ.out rfl
            go_wp2_with fail
            go_round
            case rel => exact ⟨k + 1, by omega, by rw [HVV.out], by go_num⟩
            case measure => simp [intOf]; omega
    · go_wp2_with fail
      go_ret
      exact ⟨ret_int (by rw [← HE.out, show k = l.length by omega]), rfl⟩
end Go.Proofs.Ytibpobmeonfljaa
