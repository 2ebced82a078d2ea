/- heap.Pop: the first stop is taken, another one sinks to where it belongs. -/
import Derived.Test.YtkdammmikmljmaaHu
namespace Go.Proofs.Ytkdammmikmljmaa
open Go.RowKit
set_option linter.unusedVariables false

section
variable {k i n J1 J2 : Nat} {Q : List Stop} {X1 X2 : Int}
theorem dn_two (hki : (k - 1) / 2 = i) (hk : 0 < k) (hkn : k < n) (e1 : 2 * i + 1 = J1) (e2 : J1 + 1 = J2) (h1 : ky Q J1 = X1) (h2 : ky Q J2 = X2) (h : X2 ≤ X1) : ky Q J2 ≤ ky Q k := by
  have : k = J1 ∨ k = J2 := by omega
  rcases this with e | e <;> rw [e] <;> omega
theorem dn_one (hki : (k - 1) / 2 = i) (hk : 0 < k) (hkn : k < n) (e1 : 2 * i + 1 = J1) (e2 : J1 + 1 = J2) (h1 : ky Q J1 = X1) (h2 : ky Q J2 = X2) (h : X1 ≤ X2) : ky Q J1 ≤ ky Q k := by
  have : k = J1 ∨ k = J2 := by omega
  rcases this with e | e <;> rw [e] <;> omega
theorem dn_none (hki : (k - 1) / 2 = i) (hk : 0 < k) (hkn : k < n) (e1 : 2 * i + 1 = J1) (e2 : J1 + 1 = J2) (h : n ≤ J2) : ky Q J1 ≤ ky Q k := by
  have : k = J1 := by omega
  rw [this]; exact Int.le_refl _
end
set_option maxRecDepth 20000 in
set_option maxHeartbeats 4000000 in
theorem down_any (B T g n N cap : Nat) (a b c d : Value) (Q0 : List Stop) (w : World) (h0 : hst B T g N cap a b c d w Q0 w Q0) (hn : n < N) (hd : hdn n 0 Q0) (hm : N ≤ 1000000) :
    Calls Try.prog 60 #[.iface 83 (.pointer (some ⟨T, 4, none⟩)), .int .i64 0, .int .i64 (n : Int)] w fun e w' => (∃ r, e = .returned (.bool r)) ∧ ∃ Q, hst B T g N cap a b c d w Q0 w' Q ∧ hp n Q ∧ Q.getD n ⟨0, 0, 0⟩ = Q0.getD n ⟨0, 0, 0⟩ := by
  have H0 : Hid (hst B T g N cap a b c d w Q0 w Q0) := h0
  have HD : Hid (hdn n 0 Q0) := hd
  clear h0 hd
  go_enter Try.func60, Try.ntmps60
  go_wp2_with fail
  go_loopw [7] (fun v wr => ∃ (i : Nat) (Q : List Stop), v = .int .i64 i ∧ (i = 0 ∨ i < n) ∧ Hid (hst B T g N cap a b c d w Q0 wr Q) ∧ Hid (hdn n i Q) ∧ Hid (Q.getD n ⟨0, 0, 0⟩ = Q0.getD n ⟨0, 0, 0⟩)) (fun v _ => n - (intOf v).toNat)
  case atStart => exact ⟨0, Q0, rfl, .inl rfl, H0, HD, rfl⟩
  case round =>
    obtain ⟨i, Q, rfl, hin, HS, HD, HL⟩ := hrel
    have c4 := hst_ptr HS.out
    have mL := m_Less c4
    obtain ⟨J1, hJ1⟩ : ∃ J1 : Nat, 2 * i + 1 = J1 := ⟨_, rfl⟩
    obtain ⟨J2, hJ2⟩ : ∃ J2 : Nat, J1 + 1 = J2 := ⟨_, rfl⟩
    have e1 : 2 * (i : Int) + 1 = (J1 : Int) := by omega
    have e2 : (J1 : Int) + 1 = (J2 : Int) := by omega
    have HE1 : Hid (2 * i + 1 = J1) := hJ1
    have HE2 : Hid (J1 + 1 = J2) := hJ2
    have hi6 : i ≤ 1000000 := by omega
    have hJb : J2 ≤ 2000002 := by omega
    clear hJ1 hJ2
    by_cases hn1 : J1 < n
    · have d1 : decide ((n : Int) ≤ (J1 : Int)) = false := by simp; omega
      have d2 : decide ((J1 : Int) < 0) = false := by simp
      obtain ⟨X1, hX1⟩ : ∃ X, ky Q J1 = X := ⟨_, rfl⟩
      obtain ⟨X2, hX2⟩ : ∃ X, ky Q J2 = X := ⟨_, rfl⟩
      obtain ⟨Y, hY⟩ : ∃ Y, ky Q i = Y := ⟨_, rfl⟩
      have HX1 : Hid (ky Q J1 = X1) := hX1
      have HX2 : Hid (ky Q J2 = X2) := hX2
      have HY : Hid (ky Q i = Y) := hY
      have HI : Hid (i < J1) := by have := HE1.out; unfold Hid; omega
      have hiN : i < N := by have := HE1.out; omega
      clear hX1 hX2 hY
      by_cases hn2 : J2 < n
      · by_cases hl2 : X2 < X1
        · by_cases hl : X2 < Y
          · skip
            go_wp2_with fail
            refine (Less_at g cap N J2 J1 _ _ Q X2 X1 wr (hst_que HS.out) (hst_len HS.out) (by omega) (by omega) HX2 HX1 rfl rfl).mono ?_
            rintro e w1 ⟨rfl, m, hw⟩
            have HS1 : Hid (hst B T g N cap a b c d w Q0 w1 Q) := by rw [hw]; exact hst_drewN HS.out m
            have c41 := hst_ptr HS1.out
            have mL1 := m_Less c41
            clear mL c4 hw
            go_wp2_with fail
            refine (Less_at g cap N J2 i _ _ Q X2 Y w1 (hst_que HS1.out) (hst_len HS1.out) (by omega) (by omega) HX2 HY rfl rfl).mono ?_
            rintro e w2 ⟨rfl, m2, hw2⟩
            have HS2 : Hid (hst B T g N cap a b c d w Q0 w2 Q) := by rw [hw2]; exact hst_drewN HS1.out m2
            have c42 := hst_ptr HS2.out
            have mS := m_Swap c42
            clear mL1 c41 hw2
            go_wp2_with fail
            refine (Swap_at g cap N i J2 _ _ Q w2 (hst_que HS2.out) (hst_len HS2.out) (by omega) (by omega) rfl rfl).mono ?_
            rintro e w3 ⟨rfl, hq3, he3⟩
            have HS3 : Hid (hst B T g N cap a b c d w Q0 w3 (swp Q i J2)) := hst_swap HS2.out (by omega) (by omega) hq3 he3
            have HD3 : Hid (hdn n J2 (swp Q i J2)) := hdn_swap HD.out (by rw [hst_len HS.out]; omega) (by omega) (by have := HE1.out; have := HE2.out; omega) (by have := HE1.out; have := HE2.out; omega) (by rw [HX2.out, HY.out]; exact hl) (fun k hk hkn hki => dn_two hki hk hkn HE1.out HE2.out HX1.out HX2.out (Int.le_of_lt hl2))
            have HL3 : Hid ((swp Q i J2).getD n ⟨0, 0, 0⟩ = Q0.getD n ⟨0, 0, 0⟩) := by unfold Hid; rw [swp_get Q (by rw [hst_len HS.out]; omega) (by rw [hst_len HS.out]; omega), if_neg (by omega), if_neg (by omega)]; exact HL.out
            clear hq3 he3 mS c42
            go_wp2_with fail
            go_roundw
            case rel => exact ⟨J2, _, rfl, by omega, HS3, HD3, HL3⟩
            case measure => have := HE1.out; have := HE2.out; simp [intOf]; omega
          · have hdl := dec_ge (Int.not_lt.1 hl)
            go_wp2_with fail
            refine (Less_at g cap N J2 J1 _ _ Q X2 X1 wr (hst_que HS.out) (hst_len HS.out) (by omega) (by omega) HX2 HX1 rfl rfl).mono ?_
            rintro e w1 ⟨rfl, m, hw⟩
            have HS1 : Hid (hst B T g N cap a b c d w Q0 w1 Q) := by rw [hw]; exact hst_drewN HS.out m
            have c41 := hst_ptr HS1.out
            have mL1 := m_Less c41
            clear mL c4 hw
            go_wp2_with fail
            refine (Less_at g cap N J2 i _ _ Q X2 Y w1 (hst_que HS1.out) (hst_len HS1.out) (by omega) (by omega) HX2 HY rfl rfl).mono ?_
            rintro e w2 ⟨rfl, m2, hw2⟩
            have HS2 : Hid (hst B T g N cap a b c d w Q0 w2 Q) := by rw [hw2]; exact hst_drewN HS1.out m2
            clear mL1 c41 hw2
            go_wp2_with fail
            go_ret
            exact ⟨⟨_, rfl⟩, Q, HS2.out, hdn_end HD.out (fun k hk hkn hki => by have := dn_two hki hk hkn HE1.out HE2.out HX1.out HX2.out (Int.le_of_lt hl2); rw [HX2.out] at this; rw [HY.out]; omega), HL.out⟩
        · have hd2 := dec_ge (Int.not_lt.1 hl2)
          by_cases hl : X1 < Y
          · skip
            go_wp2_with fail
            refine (Less_at g cap N J2 J1 _ _ Q X2 X1 wr (hst_que HS.out) (hst_len HS.out) (by omega) (by omega) HX2 HX1 rfl rfl).mono ?_
            rintro e w1 ⟨rfl, m, hw⟩
            have HS1 : Hid (hst B T g N cap a b c d w Q0 w1 Q) := by rw [hw]; exact hst_drewN HS.out m
            have c41 := hst_ptr HS1.out
            have mL1 := m_Less c41
            clear mL c4 hw
            go_wp2_with fail
            refine (Less_at g cap N J1 i _ _ Q X1 Y w1 (hst_que HS1.out) (hst_len HS1.out) (by omega) (by omega) HX1 HY rfl rfl).mono ?_
            rintro e w2 ⟨rfl, m2, hw2⟩
            have HS2 : Hid (hst B T g N cap a b c d w Q0 w2 Q) := by rw [hw2]; exact hst_drewN HS1.out m2
            have c42 := hst_ptr HS2.out
            have mS := m_Swap c42
            clear mL1 c41 hw2
            go_wp2_with fail
            refine (Swap_at g cap N i J1 _ _ Q w2 (hst_que HS2.out) (hst_len HS2.out) (by omega) (by omega) rfl rfl).mono ?_
            rintro e w3 ⟨rfl, hq3, he3⟩
            have HS3 : Hid (hst B T g N cap a b c d w Q0 w3 (swp Q i J1)) := hst_swap HS2.out (by omega) (by omega) hq3 he3
            have HD3 : Hid (hdn n J1 (swp Q i J1)) := hdn_swap HD.out (by rw [hst_len HS.out]; omega) (by omega) (by have := HE1.out; have := HE2.out; omega) (by have := HE1.out; have := HE2.out; omega) (by rw [HX1.out, HY.out]; exact hl) (fun k hk hkn hki => dn_one hki hk hkn HE1.out HE2.out HX1.out HX2.out (by omega))
            have HL3 : Hid ((swp Q i J1).getD n ⟨0, 0, 0⟩ = Q0.getD n ⟨0, 0, 0⟩) := by unfold Hid; rw [swp_get Q (by rw [hst_len HS.out]; omega) (by rw [hst_len HS.out]; omega), if_neg (by omega), if_neg (by omega)]; exact HL.out
            clear hq3 he3 mS c42
            go_wp2_with fail
            go_roundw
            case rel => exact ⟨J1, _, rfl, by omega, HS3, HD3, HL3⟩
            case measure => have := HE1.out; have := HE2.out; simp [intOf]; omega
          · have hdl := dec_ge (Int.not_lt.1 hl)
            go_wp2_with fail
            refine (Less_at g cap N J2 J1 _ _ Q X2 X1 wr (hst_que HS.out) (hst_len HS.out) (by omega) (by omega) HX2 HX1 rfl rfl).mono ?_
            rintro e w1 ⟨rfl, m, hw⟩
            have HS1 : Hid (hst B T g N cap a b c d w Q0 w1 Q) := by rw [hw]; exact hst_drewN HS.out m
            have c41 := hst_ptr HS1.out
            have mL1 := m_Less c41
            clear mL c4 hw
            go_wp2_with fail
            refine (Less_at g cap N J1 i _ _ Q X1 Y w1 (hst_que HS1.out) (hst_len HS1.out) (by omega) (by omega) HX1 HY rfl rfl).mono ?_
            rintro e w2 ⟨rfl, m2, hw2⟩
            have HS2 : Hid (hst B T g N cap a b c d w Q0 w2 Q) := by rw [hw2]; exact hst_drewN HS1.out m2
            clear mL1 c41 hw2
            go_wp2_with fail
            go_ret
            exact ⟨⟨_, rfl⟩, Q, HS2.out, hdn_end HD.out (fun k hk hkn hki => by have := dn_one hki hk hkn HE1.out HE2.out HX1.out HX2.out (by omega); rw [HX1.out] at this; rw [HY.out]; omega), HL.out⟩
      · replace hn2 := Nat.not_lt.1 hn2
        have d3 : decide ((J2 : Int) < (n : Int)) = false := by simp; omega
        by_cases hl : X1 < Y
        · skip
          go_wp2_with fail
          refine (Less_at g cap N J1 i _ _ Q X1 Y wr (hst_que HS.out) (hst_len HS.out) (by omega) (by omega) HX1 HY rfl rfl).mono ?_
          rintro e w2 ⟨rfl, m2, hw2⟩
          have HS2 : Hid (hst B T g N cap a b c d w Q0 w2 Q) := by rw [hw2]; exact hst_drewN HS.out m2
          have c42 := hst_ptr HS2.out
          have mS := m_Swap c42
          clear mL c4 hw2
          go_wp2_with fail
          refine (Swap_at g cap N i J1 _ _ Q w2 (hst_que HS2.out) (hst_len HS2.out) (by omega) (by omega) rfl rfl).mono ?_
          rintro e w3 ⟨rfl, hq3, he3⟩
          have HS3 : Hid (hst B T g N cap a b c d w Q0 w3 (swp Q i J1)) := hst_swap HS2.out (by omega) (by omega) hq3 he3
          have HD3 : Hid (hdn n J1 (swp Q i J1)) := hdn_swap HD.out (by rw [hst_len HS.out]; omega) (by omega) (by have := HE1.out; have := HE2.out; omega) (by have := HE1.out; have := HE2.out; omega) (by rw [HX1.out, HY.out]; exact hl) (fun k hk hkn hki => dn_none hki hk hkn HE1.out HE2.out hn2)
          have HL3 : Hid ((swp Q i J1).getD n ⟨0, 0, 0⟩ = Q0.getD n ⟨0, 0, 0⟩) := by unfold Hid; rw [swp_get Q (by rw [hst_len HS.out]; omega) (by rw [hst_len HS.out]; omega), if_neg (by omega), if_neg (by omega)]; exact HL.out
          clear hq3 he3 mS c42
          go_wp2_with fail
          go_roundw
          case rel => exact ⟨J1, _, rfl, by omega, HS3, HD3, HL3⟩
          case measure => have := HE1.out; have := HE2.out; simp [intOf]; omega
        · have hdl := dec_ge (Int.not_lt.1 hl)
          go_wp2_with fail
          refine (Less_at g cap N J1 i _ _ Q X1 Y wr (hst_que HS.out) (hst_len HS.out) (by omega) (by omega) HX1 HY rfl rfl).mono ?_
          rintro e w2 ⟨rfl, m2, hw2⟩
          have HS2 : Hid (hst B T g N cap a b c d w Q0 w2 Q) := by rw [hw2]; exact hst_drewN HS.out m2
          clear mL c4 hw2
          go_wp2_with fail
          go_ret
          exact ⟨⟨_, rfl⟩, Q, HS2.out, hdn_end HD.out (fun k hk hkn hki => by have := dn_none (Q := Q) hki hk hkn HE1.out HE2.out hn2; rw [HX1.out] at this; rw [HY.out]; omega), HL.out⟩
    · have d1 : decide ((n : Int) ≤ (J1 : Int)) = true := by simp; omega
      go_wp2_with fail
      go_ret
      exact ⟨⟨_, rfl⟩, Q, HS.out, hdn_end HD.out (fun k hk hkn hki => by have := HE1.out; omega), HL.out⟩
set_option maxRecDepth 20000 in
set_option maxHeartbeats 1000000 in
theorem hPop_any (B T : Nat) (a b c d v : Value) (Q : List Stop) (n : Nat) (w : World) (ht : tbx T w a b c d v) (hq : que B w v Q) (hn : Q.length = n + 1) (hT : T < B) (hl : n < 1000000) (hh : hp Q.length Q) :
    Calls Try.prog 49 #[.iface 83 (.pointer (some ⟨T, 4, none⟩))] w fun e w' => ∃ (s : Stop) (v' : Value) (Q' : List Stop), e = .returned (.iface 68 (.agg #[.int .i64 s.x, .int .i64 s.y, .int .i64 s.c])) ∧ tbx T w' a b c d v' ∧ que B w' v' Q' ∧ Q.Perm (s :: Q') ∧ hp Q'.length Q' ∧ (∀ t ∈ Q', s.c ≤ t.c) ∧ Ex (fun k => k = T ∨ some k = v.ownBlock) w w' ∧ v'.ownBlock = v.ownBlock := by
  obtain ⟨g, cap, rfl, hg1, hg2, hcap⟩ := que_form hq (by omega)
  rw [hn] at ht hq hh hcap
  have HN : Hid (Q.length = n + 1) := hn
  have HH : Hid (hp (n + 1) Q) := hh
  have HS : Hid (hst B T g (n + 1) cap a b c d w Q w Q) := ⟨ht, hq, hn, List.Perm.refl _, Ex.refl _ _, hT⟩
  have c4 := (tbx_cells ht).2.2.2.2.1
  have mL := m_Len c4
  have mS := m_Swap c4
  clear ht hq hh hn
  go_enter Try.func49, Try.ntmps49
  go_wp2_with fail
  refine (Len_any _ (n + 1) cap w).mono ?_
  rintro e w' ⟨rfl, hw⟩; subst w'
  go_wp2_with fail
  refine (Swap_at g cap (n + 1) 0 n _ _ Q w (hst_que HS.out) HN.out (by omega) (by omega) rfl rfl).mono ?_
  rintro e w1 ⟨rfl, hq1, he1⟩
  have h1 := hst_swap HS.out (i := 0) (j := n) (by omega) (by omega) hq1 he1
  have HS1 : Hid (hst B T g (n + 1) cap a b c d w Q w1 (swp Q 0 n)) := h1
  have HT1 : Hid (hst B T g (n + 1) cap a b c d w1 (swp Q 0 n) w1 (swp Q 0 n)) := ⟨h1.1, h1.2.1, h1.2.2.1, List.Perm.refl _, Ex.refl _ _, hT⟩
  have HD : Hid (hdn n 0 (swp Q 0 n)) := hdn_pop HH.out HN.out
  clear hq1 he1 h1 mL mS c4
  go_wp2_with fail
  refine (down_any B T g n (n + 1) cap a b c d _ w1 HT1.out (by omega) HD.out (by omega)).mono ?_
  rintro e w2 ⟨⟨r, rfl⟩, Q2, hs2, hp2, hl2⟩
  obtain ⟨s, hs⟩ : ∃ s, Q.getD 0 ⟨0, 0, 0⟩ = s := ⟨_, rfl⟩
  have hs' : Q2.getD n ⟨0, 0, 0⟩ = s := by rw [hl2, swp_get Q (by rw [HN.out]; omega) (by rw [HN.out]; omega), if_pos rfl]; exact hs
  have HS2 : Hid (hst B T g (n + 1) cap a b c d w1 (swp Q 0 n) w2 Q2) := hs2
  have HP2 : Hid (hp n Q2) := hp2
  have HL : Hid (Q2.getD n ⟨0, 0, 0⟩ = s) := hs'
  have HL0 : Hid (Q.getD 0 ⟨0, 0, 0⟩ = s) := hs
  have mP := m_Pop
  clear hs2 hp2 hl2 hs hs'
  go_wp2_with fail
  refine (Pop_m B T g n cap a b c d Q2 s w2 HS2.out.1 (hst_que HS2.out) (hst_len HS2.out) hT (by omega) HL.out).mono ?_
  rintro e w3 ⟨rfl, ht3, hq3, he3⟩
  have H1 : Hid _ := ht3
  have H2 : Hid _ := hq3
  have H3 : Hid (Ex (fun k => k = T) w2 w3) := he3
  clear ht3 hq3 he3 mP
  go_wp2_with fail
  go_ret
  have l2 := hst_len HS2.out
  have p1 : Q2.Perm (s :: Q2.take n) := by have := split_last l2; rwa [HL.out] at this
  have p2 : Q.Perm (s :: Q2.take n) := (swp_perm Q (i := 0) (j := n) (by rw [HN.out]; omega) (by rw [HN.out]; omega)).symm.trans (HS2.out.2.2.2.1.symm.trans p1)
  refine ⟨s, _, _, rfl, H1.out, H2.out, p2, take_hp HP2.out (by omega), fun t ht => ?_, ?_, rfl⟩
  · have hm : t ∈ Q := p2.symm.subset (List.mem_cons_of_mem _ ht)
    obtain ⟨k, hk, e⟩ := mem_ky hm
    have := hp_first HH.out k (by rw [HN.out] at hk; exact hk)
    rw [ky_of HL0.out] at this
    omega
  · exact ((HS1.out.2.2.2.2.1.trans HS2.out.2.2.2.2.1 (fun _ _ e => e)).mono (S' := fun k => k = T ∨ some k = some g) (fun _ _ e => .inr (by rw [e]))).trans H3.out (fun _ _ e => .inl e)
end Go.Proofs.Ytkdammmikmljmaa
