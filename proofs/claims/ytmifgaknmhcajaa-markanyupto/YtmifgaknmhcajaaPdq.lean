/- The library's sort keeps what there is: the same numbers in some order. -/
import Derived.Test.YtmifgaknmhcajaaHeap
import Derived.Test.YtmifgaknmhcajaaPartE
import Derived.Test.YtmifgaknmhcajaaPart
import Derived.Test.YtmifgaknmhcajaaPis
import Derived.Test.YtmifgaknmhcajaaPiv
import Derived.Test.YtmifgaknmhcajaaBrk
namespace Go.Proofs.Ytmifgaknmhcajaa
open Go.RowKit
set_option linter.unusedVariables false

set_option maxRecDepth 20000 in
set_option maxHeartbeats 40000000 in
theorem pdq_step (w0 : World) (g n c : Nat) (L0 : List Nat) (hn : n ≤ 1152921504606846976) (D : Nat)
    (IH : ∀ (a b lim : Nat) (w : World), srd w0 g n c L0 w → a ≤ b → b ≤ n → b - a < D → lim ≤ 64 → Calls Try.prog 22 #[.slice (some ⟨g, 0, none⟩) n c, .int .i64 a, .int .i64 b, .int .i64 lim] w fun e w' => e = .returned (.tuple #[]) ∧ srd w0 g n c L0 w')
    (a b lim : Nat) (w : World) (h : srd w0 g n c L0 w) (hab : a ≤ b) (hb : b ≤ n) (hD : b - a ≤ D) (hl : lim ≤ 64) :
    Calls Try.prog 22 #[.slice (some ⟨g, 0, none⟩) n c, .int .i64 a, .int .i64 b, .int .i64 lim] w fun e w' => e = .returned (.tuple #[]) ∧ srd w0 g n c L0 w' := by
  have HS : Hid (srd w0 g n c L0 w) := h
  have HIH : Hid (∀ (a b lim : Nat) (w : World), srd w0 g n c L0 w → a ≤ b → b ≤ n → b - a < D → lim ≤ 64 → Calls Try.prog 22 #[.slice (some ⟨g, 0, none⟩) n c, .int .i64 a, .int .i64 b, .int .i64 lim] w fun e w' => e = .returned (.tuple #[]) ∧ srd w0 g n c L0 w') := IH
  clear h IH
  go_enter Try.func22, Try.ntmps22
  go_wp2_with fail
  go_loopw [1, 2, 3, 8, 9] (fun a b l p q wr => ∃ (A B L : Nat) (P Q : Bool), a = .int .i64 A ∧ b = .int .i64 B ∧ l = .int .i64 L ∧ p = .bool P ∧ q = .bool Q ∧ A ≤ B ∧ B ≤ n ∧ B - A ≤ D ∧ L ≤ 64 ∧ srd w0 g n c L0 wr) (fun a b _ _ _ _ => (intOf b - intOf a).toNat)
  case atStart => exact ⟨a, b, lim, true, true, rfl, rfl, rfl, rfl, rfl, hab, hb, hD, hl, HS.out⟩
  case round =>
    obtain ⟨A, B, L, P, Q, rfl, rfl, rfl, rfl, rfl, hA, hB, hBD, hL, hst⟩ := hrel
    clear HS hab hb hD hl
    by_cases h12 : (B : Int) - (A : Int) ≤ 12
    · go_wp2_with fail
      refine (insertion_any w0 g n c L0 A B _ hst hn hA hB).mono ?_
      rintro e w' ⟨rfl, hst⟩
      go_wp2_with fail
      exact bodyPost_ret (v := .tuple #[]) (by simp [results, Try.results22, go_sem]) rfl ⟨rfl, hst⟩
    by_cases hL0 : L = 0
    · subst hL0
      go_wp2_with fail
      refine (heap_any w0 g n c L0 A B _ hst hn (by omega) hB).mono ?_
      rintro e w' ⟨rfl, hst⟩
      go_wp2_with fail
      exact bodyPost_ret (v := .tuple #[]) (by simp [results, Try.results22, go_sem]) rfl ⟨rfl, hst⟩
    have hL0' : ((L : Int) == 0) = false := beq_eq_false_iff_ne.2 (by omega)
    obtain ⟨L1, hL1⟩ : ∃ L1 : Nat, (L : Int) - 1 = (L1 : Int) := ⟨L - 1, by omega⟩
    cases P
    · go_wp2_with fail
      refine (break_any w0 g n c L0 A B _ hst hn (by omega) hB).mono ?_
      rintro e wy ⟨rfl, hst⟩
      go_wp2_with fail
      refine (choose_any w0 g n c L0 A B _ hst hn (by omega) hB).mono ?_
      rintro e wy ⟨p, k, rfl, hp1, hp2, hst⟩
      by_cases hk2 : k = 2
      · subst hk2
        go_wp2_with fail
        refine (reverseRange_any w0 g n c L0 A B _ hst hn (by omega) hB).mono ?_
        rintro e wy ⟨rfl, hst⟩
        obtain ⟨p2, hp2e⟩ : ∃ p2 : Nat, (B : Int) - 1 - ((p : Int) - (A : Int)) = (p2 : Int) := ⟨B - 1 - (p - A), by omega⟩
        by_cases hA0 : 0 < A
        · obtain ⟨Z, hZ⟩ : ∃ Z : Nat, (A : Int) - 1 = (Z : Int) := ⟨A - 1, by omega⟩
          have hd : decide ((0 : Int) < (A : Int)) = true := by simp; omega
          have hd2 : decide (0 < A) = true := by simp; omega
          have hw1 : IntKind.i64.wrap ((A : Int) - 1) = (Z : Int) := by rw [hZ]; exact wrp (by omega) (by omega)
          have hw2 : IntKind.i64.wrap (Z : Int) = (Z : Int) := wrp (by omega) (by omega)
          have hZn : Z < n := by omega
          have hPn : p2 < n := by omega
          obtain ⟨x, ci, fi⟩ := srd_cell hst hZn
          obtain ⟨y, cj, fj⟩ := srd_cell hst hPn
          go_wp2_with fail
          go_quiet ((go_at_call 30; exact Calls.quiet_of_same (Less_any _ _ _)))
          generalize decide (x < y) = bb
          replace hst := srd_drewN hst nq
          generalize wy.drewN nq = wz at hst ⊢
          clear ci fi cj fj hw1 hw2 hd hd2
          cases bb
          · go_wp2_with fail
            refine (partEqual_any w0 g n c L0 A B p2 _ hst hn (by omega) hB (by omega) (by omega)).mono ?_
            rintro e w5 ⟨m, rfl, hm1, hm2, hst5⟩
            clear hst
            go_wp2_with fail
            go_roundw
            case rel => exact ⟨m, B, L1, false, Q, rfl, rfl, rfl, rfl, rfl, by omega, by omega, by omega, by omega, hst5⟩
            case measure => simp [intOf]; omega
          · go_wp2_with fail
            refine (part_any w0 g n c L0 A B p2 _ hst hn (by omega) hB (by omega) (by omega)).mono ?_
            rintro e w5 ⟨m, ff, rfl, hm1, hm2, hst5⟩
            have HS5 : Hid (srd w0 g n c L0 w5) := hst5
            clear hst hst5
            obtain ⟨m1, hm1e⟩ : ∃ m1 : Nat, (m : Int) + 1 = (m1 : Int) := ⟨m + 1, by omega⟩
            by_cases hlr : (m : Int) - (A : Int) < (B : Int) - (m : Int)
            · go_wp2_with fail
              refine (HIH.out A m L1 _ HS5.out (by omega) (by omega) (by omega) (by omega)).mono ?_
              rintro e w6 ⟨rfl, hst6⟩
              have HS6 : Hid (srd w0 g n c L0 w6) := hst6
              clear hst6 HS5
              go_wp2_with fail
              go_roundw
              case rel => exact ⟨m1, B, L1, _, ff, rfl, rfl, rfl, rfl, rfl, by omega, by omega, by omega, by omega, HS6.out⟩
              case measure => simp [intOf]; omega
            · go_wp2_with fail
              refine (HIH.out m1 B L1 _ HS5.out (by omega) (by omega) (by omega) (by omega)).mono ?_
              rintro e w6 ⟨rfl, hst6⟩
              have HS6 : Hid (srd w0 g n c L0 w6) := hst6
              clear hst6 HS5
              go_wp2_with fail
              go_roundw
              case rel => exact ⟨A, m, L1, _, ff, rfl, rfl, rfl, rfl, rfl, by omega, by omega, by omega, by omega, HS6.out⟩
              case measure => simp [intOf]; omega
        · have hA00 : A = 0 := by omega
          subst hA00
          have hd : decide ((0 : Int) < 0) = false := by simp
          have hp2e0 : (B : Int) - 1 - (p : Int) = (p2 : Int) := by omega
          go_wp2_with fail
          go_quiet (fail)
          replace hst := srd_drewN hst nq
          generalize wy.drewN nq = wz at hst ⊢
          go_wp2_with fail
          refine (part_any w0 g n c L0 0 B p2 _ hst hn (by omega) hB (by omega) (by omega)).mono ?_
          rintro e w5 ⟨m, ff, rfl, hm1, hm2, hst5⟩
          have HS5 : Hid (srd w0 g n c L0 w5) := hst5
          clear hst hst5
          obtain ⟨m1, hm1e⟩ : ∃ m1 : Nat, (m : Int) + 1 = (m1 : Int) := ⟨m + 1, by omega⟩
          by_cases hlr : (m : Int) - (((0 : Nat) : Int)) < (B : Int) - (m : Int)
          · go_wp2_with fail
            refine (HIH.out 0 m L1 _ HS5.out (by omega) (by omega) (by omega) (by omega)).mono ?_
            rintro e w6 ⟨rfl, hst6⟩
            have HS6 : Hid (srd w0 g n c L0 w6) := hst6
            clear hst6 HS5
            go_wp2_with fail
            go_roundw
            case rel => exact ⟨m1, B, L1, _, ff, rfl, rfl, rfl, rfl, rfl, by omega, by omega, by omega, by omega, HS6.out⟩
            case measure => simp [intOf]; omega
          · go_wp2_with fail
            refine (HIH.out m1 B L1 _ HS5.out (by omega) (by omega) (by omega) (by omega)).mono ?_
            rintro e w6 ⟨rfl, hst6⟩
            have HS6 : Hid (srd w0 g n c L0 w6) := hst6
            clear hst6 HS5
            go_wp2_with fail
            go_roundw
            case rel => exact ⟨0, m, L1, _, ff, rfl, rfl, rfl, rfl, rfl, by omega, by omega, by omega, by omega, HS6.out⟩
            case measure => simp [intOf]; omega
      · have hk2' : (k == 2) = false := beq_eq_false_iff_ne.2 hk2
        by_cases hA0 : 0 < A
        · obtain ⟨Z, hZ⟩ : ∃ Z : Nat, (A : Int) - 1 = (Z : Int) := ⟨A - 1, by omega⟩
          have hd : decide ((0 : Int) < (A : Int)) = true := by simp; omega
          have hd2 : decide (0 < A) = true := by simp; omega
          have hw1 : IntKind.i64.wrap ((A : Int) - 1) = (Z : Int) := by rw [hZ]; exact wrp (by omega) (by omega)
          have hw2 : IntKind.i64.wrap (Z : Int) = (Z : Int) := wrp (by omega) (by omega)
          have hZn : Z < n := by omega
          have hPn : p < n := by omega
          obtain ⟨x, ci, fi⟩ := srd_cell hst hZn
          obtain ⟨y, cj, fj⟩ := srd_cell hst hPn
          go_wp2_with fail
          go_quiet ((go_at_call 30; exact Calls.quiet_of_same (Less_any _ _ _)))
          generalize decide (x < y) = bb
          replace hst := srd_drewN hst nq
          generalize wy.drewN nq = wz at hst ⊢
          clear ci fi cj fj hw1 hw2 hd hd2
          cases bb
          · go_wp2_with fail
            refine (partEqual_any w0 g n c L0 A B p _ hst hn (by omega) hB (by omega) (by omega)).mono ?_
            rintro e w5 ⟨m, rfl, hm1, hm2, hst5⟩
            clear hst
            go_wp2_with fail
            go_roundw
            case rel => exact ⟨m, B, L1, false, Q, rfl, rfl, rfl, rfl, rfl, by omega, by omega, by omega, by omega, hst5⟩
            case measure => simp [intOf]; omega
          · go_wp2_with fail
            refine (part_any w0 g n c L0 A B p _ hst hn (by omega) hB (by omega) (by omega)).mono ?_
            rintro e w5 ⟨m, ff, rfl, hm1, hm2, hst5⟩
            have HS5 : Hid (srd w0 g n c L0 w5) := hst5
            clear hst hst5
            obtain ⟨m1, hm1e⟩ : ∃ m1 : Nat, (m : Int) + 1 = (m1 : Int) := ⟨m + 1, by omega⟩
            by_cases hlr : (m : Int) - (A : Int) < (B : Int) - (m : Int)
            · go_wp2_with fail
              refine (HIH.out A m L1 _ HS5.out (by omega) (by omega) (by omega) (by omega)).mono ?_
              rintro e w6 ⟨rfl, hst6⟩
              have HS6 : Hid (srd w0 g n c L0 w6) := hst6
              clear hst6 HS5
              go_wp2_with fail
              go_roundw
              case rel => exact ⟨m1, B, L1, _, ff, rfl, rfl, rfl, rfl, rfl, by omega, by omega, by omega, by omega, HS6.out⟩
              case measure => simp [intOf]; omega
            · go_wp2_with fail
              refine (HIH.out m1 B L1 _ HS5.out (by omega) (by omega) (by omega) (by omega)).mono ?_
              rintro e w6 ⟨rfl, hst6⟩
              have HS6 : Hid (srd w0 g n c L0 w6) := hst6
              clear hst6 HS5
              go_wp2_with fail
              go_roundw
              case rel => exact ⟨A, m, L1, _, ff, rfl, rfl, rfl, rfl, rfl, by omega, by omega, by omega, by omega, HS6.out⟩
              case measure => simp [intOf]; omega
        · have hA00 : A = 0 := by omega
          subst hA00
          have hd : decide ((0 : Int) < 0) = false := by simp
          go_wp2_with fail
          go_quiet (fail)
          replace hst := srd_drewN hst nq
          generalize wy.drewN nq = wz at hst ⊢
          go_wp2_with fail
          refine (part_any w0 g n c L0 0 B p _ hst hn (by omega) hB (by omega) (by omega)).mono ?_
          rintro e w5 ⟨m, ff, rfl, hm1, hm2, hst5⟩
          have HS5 : Hid (srd w0 g n c L0 w5) := hst5
          clear hst hst5
          obtain ⟨m1, hm1e⟩ : ∃ m1 : Nat, (m : Int) + 1 = (m1 : Int) := ⟨m + 1, by omega⟩
          by_cases hlr : (m : Int) - (((0 : Nat) : Int)) < (B : Int) - (m : Int)
          · go_wp2_with fail
            refine (HIH.out 0 m L1 _ HS5.out (by omega) (by omega) (by omega) (by omega)).mono ?_
            rintro e w6 ⟨rfl, hst6⟩
            have HS6 : Hid (srd w0 g n c L0 w6) := hst6
            clear hst6 HS5
            go_wp2_with fail
            go_roundw
            case rel => exact ⟨m1, B, L1, _, ff, rfl, rfl, rfl, rfl, rfl, by omega, by omega, by omega, by omega, HS6.out⟩
            case measure => simp [intOf]; omega
          · go_wp2_with fail
            refine (HIH.out m1 B L1 _ HS5.out (by omega) (by omega) (by omega) (by omega)).mono ?_
            rintro e w6 ⟨rfl, hst6⟩
            have HS6 : Hid (srd w0 g n c L0 w6) := hst6
            clear hst6 HS5
            go_wp2_with fail
            go_roundw
            case rel => exact ⟨0, m, L1, _, ff, rfl, rfl, rfl, rfl, rfl, by omega, by omega, by omega, by omega, HS6.out⟩
            case measure => simp [intOf]; omega
    · go_wp2_with fail
      refine (choose_any w0 g n c L0 A B _ hst hn (by omega) hB).mono ?_
      rintro e wy ⟨p, k, rfl, hp1, hp2, hst⟩
      by_cases hk2 : k = 2
      · subst hk2
        go_wp2_with fail
        refine (reverseRange_any w0 g n c L0 A B _ hst hn (by omega) hB).mono ?_
        rintro e wy ⟨rfl, hst⟩
        obtain ⟨p2, hp2e⟩ : ∃ p2 : Nat, (B : Int) - 1 - ((p : Int) - (A : Int)) = (p2 : Int) := ⟨B - 1 - (p - A), by omega⟩
        cases Q
        · by_cases hA0 : 0 < A
          · obtain ⟨Z, hZ⟩ : ∃ Z : Nat, (A : Int) - 1 = (Z : Int) := ⟨A - 1, by omega⟩
            have hd : decide ((0 : Int) < (A : Int)) = true := by simp; omega
            have hd2 : decide (0 < A) = true := by simp; omega
            have hw1 : IntKind.i64.wrap ((A : Int) - 1) = (Z : Int) := by rw [hZ]; exact wrp (by omega) (by omega)
            have hw2 : IntKind.i64.wrap (Z : Int) = (Z : Int) := wrp (by omega) (by omega)
            have hZn : Z < n := by omega
            have hPn : p2 < n := by omega
            obtain ⟨x, ci, fi⟩ := srd_cell hst hZn
            obtain ⟨y, cj, fj⟩ := srd_cell hst hPn
            go_wp2_with fail
            go_quiet ((go_at_call 30; exact Calls.quiet_of_same (Less_any _ _ _)))
            generalize decide (x < y) = bb
            replace hst := srd_drewN hst nq
            generalize wy.drewN nq = wz at hst ⊢
            clear ci fi cj fj hw1 hw2 hd hd2
            cases bb
            · go_wp2_with fail
              refine (partEqual_any w0 g n c L0 A B p2 _ hst hn (by omega) hB (by omega) (by omega)).mono ?_
              rintro e w5 ⟨m, rfl, hm1, hm2, hst5⟩
              clear hst
              go_wp2_with fail
              go_roundw
              case rel => exact ⟨m, B, L, true, false, rfl, rfl, rfl, rfl, rfl, by omega, by omega, by omega, by omega, hst5⟩
              case measure => simp [intOf]; omega
            · go_wp2_with fail
              refine (part_any w0 g n c L0 A B p2 _ hst hn (by omega) hB (by omega) (by omega)).mono ?_
              rintro e w5 ⟨m, ff, rfl, hm1, hm2, hst5⟩
              have HS5 : Hid (srd w0 g n c L0 w5) := hst5
              clear hst hst5
              obtain ⟨m1, hm1e⟩ : ∃ m1 : Nat, (m : Int) + 1 = (m1 : Int) := ⟨m + 1, by omega⟩
              by_cases hlr : (m : Int) - (A : Int) < (B : Int) - (m : Int)
              · go_wp2_with fail
                refine (HIH.out A m L _ HS5.out (by omega) (by omega) (by omega) (by omega)).mono ?_
                rintro e w6 ⟨rfl, hst6⟩
                have HS6 : Hid (srd w0 g n c L0 w6) := hst6
                clear hst6 HS5
                go_wp2_with fail
                go_roundw
                case rel => exact ⟨m1, B, L, _, ff, rfl, rfl, rfl, rfl, rfl, by omega, by omega, by omega, by omega, HS6.out⟩
                case measure => simp [intOf]; omega
              · go_wp2_with fail
                refine (HIH.out m1 B L _ HS5.out (by omega) (by omega) (by omega) (by omega)).mono ?_
                rintro e w6 ⟨rfl, hst6⟩
                have HS6 : Hid (srd w0 g n c L0 w6) := hst6
                clear hst6 HS5
                go_wp2_with fail
                go_roundw
                case rel => exact ⟨A, m, L, _, ff, rfl, rfl, rfl, rfl, rfl, by omega, by omega, by omega, by omega, HS6.out⟩
                case measure => simp [intOf]; omega
          · have hA00 : A = 0 := by omega
            subst hA00
            have hd : decide ((0 : Int) < 0) = false := by simp
            have hp2e0 : (B : Int) - 1 - (p : Int) = (p2 : Int) := by omega
            go_wp2_with fail
            go_quiet (fail)
            replace hst := srd_drewN hst nq
            generalize wy.drewN nq = wz at hst ⊢
            go_wp2_with fail
            refine (part_any w0 g n c L0 0 B p2 _ hst hn (by omega) hB (by omega) (by omega)).mono ?_
            rintro e w5 ⟨m, ff, rfl, hm1, hm2, hst5⟩
            have HS5 : Hid (srd w0 g n c L0 w5) := hst5
            clear hst hst5
            obtain ⟨m1, hm1e⟩ : ∃ m1 : Nat, (m : Int) + 1 = (m1 : Int) := ⟨m + 1, by omega⟩
            by_cases hlr : (m : Int) - (((0 : Nat) : Int)) < (B : Int) - (m : Int)
            · go_wp2_with fail
              refine (HIH.out 0 m L _ HS5.out (by omega) (by omega) (by omega) (by omega)).mono ?_
              rintro e w6 ⟨rfl, hst6⟩
              have HS6 : Hid (srd w0 g n c L0 w6) := hst6
              clear hst6 HS5
              go_wp2_with fail
              go_roundw
              case rel => exact ⟨m1, B, L, _, ff, rfl, rfl, rfl, rfl, rfl, by omega, by omega, by omega, by omega, HS6.out⟩
              case measure => simp [intOf]; omega
            · go_wp2_with fail
              refine (HIH.out m1 B L _ HS5.out (by omega) (by omega) (by omega) (by omega)).mono ?_
              rintro e w6 ⟨rfl, hst6⟩
              have HS6 : Hid (srd w0 g n c L0 w6) := hst6
              clear hst6 HS5
              go_wp2_with fail
              go_roundw
              case rel => exact ⟨0, m, L, _, ff, rfl, rfl, rfl, rfl, rfl, by omega, by omega, by omega, by omega, HS6.out⟩
              case measure => simp [intOf]; omega
        · go_wp2_with fail
          refine (partial_any w0 g n c L0 A B _ hst hn (by omega) hB).mono ?_
          rintro e wx ⟨fb, rfl, hst⟩
          cases fb
          · by_cases hA0 : 0 < A
            · obtain ⟨Z, hZ⟩ : ∃ Z : Nat, (A : Int) - 1 = (Z : Int) := ⟨A - 1, by omega⟩
              have hd : decide ((0 : Int) < (A : Int)) = true := by simp; omega
              have hd2 : decide (0 < A) = true := by simp; omega
              have hw1 : IntKind.i64.wrap ((A : Int) - 1) = (Z : Int) := by rw [hZ]; exact wrp (by omega) (by omega)
              have hw2 : IntKind.i64.wrap (Z : Int) = (Z : Int) := wrp (by omega) (by omega)
              have hZn : Z < n := by omega
              have hPn : p2 < n := by omega
              obtain ⟨x, ci, fi⟩ := srd_cell hst hZn
              obtain ⟨y, cj, fj⟩ := srd_cell hst hPn
              go_wp2_with fail
              go_quiet ((go_at_call 30; exact Calls.quiet_of_same (Less_any _ _ _)))
              generalize decide (x < y) = bb
              replace hst := srd_drewN hst nq
              generalize wx.drewN nq = wz at hst ⊢
              clear ci fi cj fj hw1 hw2 hd hd2
              cases bb
              · go_wp2_with fail
                refine (partEqual_any w0 g n c L0 A B p2 _ hst hn (by omega) hB (by omega) (by omega)).mono ?_
                rintro e w5 ⟨m, rfl, hm1, hm2, hst5⟩
                clear hst
                go_wp2_with fail
                go_roundw
                case rel => exact ⟨m, B, L, true, true, rfl, rfl, rfl, rfl, rfl, by omega, by omega, by omega, by omega, hst5⟩
                case measure => simp [intOf]; omega
              · go_wp2_with fail
                refine (part_any w0 g n c L0 A B p2 _ hst hn (by omega) hB (by omega) (by omega)).mono ?_
                rintro e w5 ⟨m, ff, rfl, hm1, hm2, hst5⟩
                have HS5 : Hid (srd w0 g n c L0 w5) := hst5
                clear hst hst5
                obtain ⟨m1, hm1e⟩ : ∃ m1 : Nat, (m : Int) + 1 = (m1 : Int) := ⟨m + 1, by omega⟩
                by_cases hlr : (m : Int) - (A : Int) < (B : Int) - (m : Int)
                · go_wp2_with fail
                  refine (HIH.out A m L _ HS5.out (by omega) (by omega) (by omega) (by omega)).mono ?_
                  rintro e w6 ⟨rfl, hst6⟩
                  have HS6 : Hid (srd w0 g n c L0 w6) := hst6
                  clear hst6 HS5
                  go_wp2_with fail
                  go_roundw
                  case rel => exact ⟨m1, B, L, _, ff, rfl, rfl, rfl, rfl, rfl, by omega, by omega, by omega, by omega, HS6.out⟩
                  case measure => simp [intOf]; omega
                · go_wp2_with fail
                  refine (HIH.out m1 B L _ HS5.out (by omega) (by omega) (by omega) (by omega)).mono ?_
                  rintro e w6 ⟨rfl, hst6⟩
                  have HS6 : Hid (srd w0 g n c L0 w6) := hst6
                  clear hst6 HS5
                  go_wp2_with fail
                  go_roundw
                  case rel => exact ⟨A, m, L, _, ff, rfl, rfl, rfl, rfl, rfl, by omega, by omega, by omega, by omega, HS6.out⟩
                  case measure => simp [intOf]; omega
            · have hA00 : A = 0 := by omega
              subst hA00
              have hd : decide ((0 : Int) < 0) = false := by simp
              have hp2e0 : (B : Int) - 1 - (p : Int) = (p2 : Int) := by omega
              go_wp2_with fail
              go_quiet (fail)
              replace hst := srd_drewN hst nq
              generalize wx.drewN nq = wz at hst ⊢
              go_wp2_with fail
              refine (part_any w0 g n c L0 0 B p2 _ hst hn (by omega) hB (by omega) (by omega)).mono ?_
              rintro e w5 ⟨m, ff, rfl, hm1, hm2, hst5⟩
              have HS5 : Hid (srd w0 g n c L0 w5) := hst5
              clear hst hst5
              obtain ⟨m1, hm1e⟩ : ∃ m1 : Nat, (m : Int) + 1 = (m1 : Int) := ⟨m + 1, by omega⟩
              by_cases hlr : (m : Int) - (((0 : Nat) : Int)) < (B : Int) - (m : Int)
              · go_wp2_with fail
                refine (HIH.out 0 m L _ HS5.out (by omega) (by omega) (by omega) (by omega)).mono ?_
                rintro e w6 ⟨rfl, hst6⟩
                have HS6 : Hid (srd w0 g n c L0 w6) := hst6
                clear hst6 HS5
                go_wp2_with fail
                go_roundw
                case rel => exact ⟨m1, B, L, _, ff, rfl, rfl, rfl, rfl, rfl, by omega, by omega, by omega, by omega, HS6.out⟩
                case measure => simp [intOf]; omega
              · go_wp2_with fail
                refine (HIH.out m1 B L _ HS5.out (by omega) (by omega) (by omega) (by omega)).mono ?_
                rintro e w6 ⟨rfl, hst6⟩
                have HS6 : Hid (srd w0 g n c L0 w6) := hst6
                clear hst6 HS5
                go_wp2_with fail
                go_roundw
                case rel => exact ⟨0, m, L, _, ff, rfl, rfl, rfl, rfl, rfl, by omega, by omega, by omega, by omega, HS6.out⟩
                case measure => simp [intOf]; omega
          · go_wp2_with fail
            exact bodyPost_ret (v := .tuple #[]) (by simp [results, Try.results22, go_sem]) rfl ⟨rfl, hst⟩
      · have hk2' : (k == 2) = false := beq_eq_false_iff_ne.2 hk2
        cases Q
        · by_cases hA0 : 0 < A
          · obtain ⟨Z, hZ⟩ : ∃ Z : Nat, (A : Int) - 1 = (Z : Int) := ⟨A - 1, by omega⟩
            have hd : decide ((0 : Int) < (A : Int)) = true := by simp; omega
            have hd2 : decide (0 < A) = true := by simp; omega
            have hw1 : IntKind.i64.wrap ((A : Int) - 1) = (Z : Int) := by rw [hZ]; exact wrp (by omega) (by omega)
            have hw2 : IntKind.i64.wrap (Z : Int) = (Z : Int) := wrp (by omega) (by omega)
            have hZn : Z < n := by omega
            have hPn : p < n := by omega
            obtain ⟨x, ci, fi⟩ := srd_cell hst hZn
            obtain ⟨y, cj, fj⟩ := srd_cell hst hPn
            go_wp2_with fail
            go_quiet ((go_at_call 30; exact Calls.quiet_of_same (Less_any _ _ _)))
            generalize decide (x < y) = bb
            replace hst := srd_drewN hst nq
            generalize wy.drewN nq = wz at hst ⊢
            clear ci fi cj fj hw1 hw2 hd hd2
            cases bb
            · go_wp2_with fail
              refine (partEqual_any w0 g n c L0 A B p _ hst hn (by omega) hB (by omega) (by omega)).mono ?_
              rintro e w5 ⟨m, rfl, hm1, hm2, hst5⟩
              clear hst
              go_wp2_with fail
              go_roundw
              case rel => exact ⟨m, B, L, true, false, rfl, rfl, rfl, rfl, rfl, by omega, by omega, by omega, by omega, hst5⟩
              case measure => simp [intOf]; omega
            · go_wp2_with fail
              refine (part_any w0 g n c L0 A B p _ hst hn (by omega) hB (by omega) (by omega)).mono ?_
              rintro e w5 ⟨m, ff, rfl, hm1, hm2, hst5⟩
              have HS5 : Hid (srd w0 g n c L0 w5) := hst5
              clear hst hst5
              obtain ⟨m1, hm1e⟩ : ∃ m1 : Nat, (m : Int) + 1 = (m1 : Int) := ⟨m + 1, by omega⟩
              by_cases hlr : (m : Int) - (A : Int) < (B : Int) - (m : Int)
              · go_wp2_with fail
                refine (HIH.out A m L _ HS5.out (by omega) (by omega) (by omega) (by omega)).mono ?_
                rintro e w6 ⟨rfl, hst6⟩
                have HS6 : Hid (srd w0 g n c L0 w6) := hst6
                clear hst6 HS5
                go_wp2_with fail
                go_roundw
                case rel => exact ⟨m1, B, L, _, ff, rfl, rfl, rfl, rfl, rfl, by omega, by omega, by omega, by omega, HS6.out⟩
                case measure => simp [intOf]; omega
              · go_wp2_with fail
                refine (HIH.out m1 B L _ HS5.out (by omega) (by omega) (by omega) (by omega)).mono ?_
                rintro e w6 ⟨rfl, hst6⟩
                have HS6 : Hid (srd w0 g n c L0 w6) := hst6
                clear hst6 HS5
                go_wp2_with fail
                go_roundw
                case rel => exact ⟨A, m, L, _, ff, rfl, rfl, rfl, rfl, rfl, by omega, by omega, by omega, by omega, HS6.out⟩
                case measure => simp [intOf]; omega
          · have hA00 : A = 0 := by omega
            subst hA00
            have hd : decide ((0 : Int) < 0) = false := by simp
            go_wp2_with fail
            go_quiet (fail)
            replace hst := srd_drewN hst nq
            generalize wy.drewN nq = wz at hst ⊢
            go_wp2_with fail
            refine (part_any w0 g n c L0 0 B p _ hst hn (by omega) hB (by omega) (by omega)).mono ?_
            rintro e w5 ⟨m, ff, rfl, hm1, hm2, hst5⟩
            have HS5 : Hid (srd w0 g n c L0 w5) := hst5
            clear hst hst5
            obtain ⟨m1, hm1e⟩ : ∃ m1 : Nat, (m : Int) + 1 = (m1 : Int) := ⟨m + 1, by omega⟩
            by_cases hlr : (m : Int) - (((0 : Nat) : Int)) < (B : Int) - (m : Int)
            · go_wp2_with fail
              refine (HIH.out 0 m L _ HS5.out (by omega) (by omega) (by omega) (by omega)).mono ?_
              rintro e w6 ⟨rfl, hst6⟩
              have HS6 : Hid (srd w0 g n c L0 w6) := hst6
              clear hst6 HS5
              go_wp2_with fail
              go_roundw
              case rel => exact ⟨m1, B, L, _, ff, rfl, rfl, rfl, rfl, rfl, by omega, by omega, by omega, by omega, HS6.out⟩
              case measure => simp [intOf]; omega
            · go_wp2_with fail
              refine (HIH.out m1 B L _ HS5.out (by omega) (by omega) (by omega) (by omega)).mono ?_
              rintro e w6 ⟨rfl, hst6⟩
              have HS6 : Hid (srd w0 g n c L0 w6) := hst6
              clear hst6 HS5
              go_wp2_with fail
              go_roundw
              case rel => exact ⟨0, m, L, _, ff, rfl, rfl, rfl, rfl, rfl, by omega, by omega, by omega, by omega, HS6.out⟩
              case measure => simp [intOf]; omega
        · by_cases hk1 : k = 1
          · subst hk1
            go_wp2_with fail
            refine (partial_any w0 g n c L0 A B _ hst hn (by omega) hB).mono ?_
            rintro e wx ⟨fb, rfl, hst⟩
            cases fb
            · by_cases hA0 : 0 < A
              · obtain ⟨Z, hZ⟩ : ∃ Z : Nat, (A : Int) - 1 = (Z : Int) := ⟨A - 1, by omega⟩
                have hd : decide ((0 : Int) < (A : Int)) = true := by simp; omega
                have hd2 : decide (0 < A) = true := by simp; omega
                have hw1 : IntKind.i64.wrap ((A : Int) - 1) = (Z : Int) := by rw [hZ]; exact wrp (by omega) (by omega)
                have hw2 : IntKind.i64.wrap (Z : Int) = (Z : Int) := wrp (by omega) (by omega)
                have hZn : Z < n := by omega
                have hPn : p < n := by omega
                obtain ⟨x, ci, fi⟩ := srd_cell hst hZn
                obtain ⟨y, cj, fj⟩ := srd_cell hst hPn
                go_wp2_with fail
                go_quiet ((go_at_call 30; exact Calls.quiet_of_same (Less_any _ _ _)))
                generalize decide (x < y) = bb
                replace hst := srd_drewN hst nq
                generalize wx.drewN nq = wz at hst ⊢
                clear ci fi cj fj hw1 hw2 hd hd2
                cases bb
                · go_wp2_with fail
                  refine (partEqual_any w0 g n c L0 A B p _ hst hn (by omega) hB (by omega) (by omega)).mono ?_
                  rintro e w5 ⟨m, rfl, hm1, hm2, hst5⟩
                  clear hst
                  go_wp2_with fail
                  go_roundw
                  case rel => exact ⟨m, B, L, true, true, rfl, rfl, rfl, rfl, rfl, by omega, by omega, by omega, by omega, hst5⟩
                  case measure => simp [intOf]; omega
                · go_wp2_with fail
                  refine (part_any w0 g n c L0 A B p _ hst hn (by omega) hB (by omega) (by omega)).mono ?_
                  rintro e w5 ⟨m, ff, rfl, hm1, hm2, hst5⟩
                  have HS5 : Hid (srd w0 g n c L0 w5) := hst5
                  clear hst hst5
                  obtain ⟨m1, hm1e⟩ : ∃ m1 : Nat, (m : Int) + 1 = (m1 : Int) := ⟨m + 1, by omega⟩
                  by_cases hlr : (m : Int) - (A : Int) < (B : Int) - (m : Int)
                  · go_wp2_with fail
                    refine (HIH.out A m L _ HS5.out (by omega) (by omega) (by omega) (by omega)).mono ?_
                    rintro e w6 ⟨rfl, hst6⟩
                    have HS6 : Hid (srd w0 g n c L0 w6) := hst6
                    clear hst6 HS5
                    go_wp2_with fail
                    go_roundw
                    case rel => exact ⟨m1, B, L, _, ff, rfl, rfl, rfl, rfl, rfl, by omega, by omega, by omega, by omega, HS6.out⟩
                    case measure => simp [intOf]; omega
                  · go_wp2_with fail
                    refine (HIH.out m1 B L _ HS5.out (by omega) (by omega) (by omega) (by omega)).mono ?_
                    rintro e w6 ⟨rfl, hst6⟩
                    have HS6 : Hid (srd w0 g n c L0 w6) := hst6
                    clear hst6 HS5
                    go_wp2_with fail
                    go_roundw
                    case rel => exact ⟨A, m, L, _, ff, rfl, rfl, rfl, rfl, rfl, by omega, by omega, by omega, by omega, HS6.out⟩
                    case measure => simp [intOf]; omega
              · have hA00 : A = 0 := by omega
                subst hA00
                have hd : decide ((0 : Int) < 0) = false := by simp
                go_wp2_with fail
                go_quiet (fail)
                replace hst := srd_drewN hst nq
                generalize wx.drewN nq = wz at hst ⊢
                go_wp2_with fail
                refine (part_any w0 g n c L0 0 B p _ hst hn (by omega) hB (by omega) (by omega)).mono ?_
                rintro e w5 ⟨m, ff, rfl, hm1, hm2, hst5⟩
                have HS5 : Hid (srd w0 g n c L0 w5) := hst5
                clear hst hst5
                obtain ⟨m1, hm1e⟩ : ∃ m1 : Nat, (m : Int) + 1 = (m1 : Int) := ⟨m + 1, by omega⟩
                by_cases hlr : (m : Int) - (((0 : Nat) : Int)) < (B : Int) - (m : Int)
                · go_wp2_with fail
                  refine (HIH.out 0 m L _ HS5.out (by omega) (by omega) (by omega) (by omega)).mono ?_
                  rintro e w6 ⟨rfl, hst6⟩
                  have HS6 : Hid (srd w0 g n c L0 w6) := hst6
                  clear hst6 HS5
                  go_wp2_with fail
                  go_roundw
                  case rel => exact ⟨m1, B, L, _, ff, rfl, rfl, rfl, rfl, rfl, by omega, by omega, by omega, by omega, HS6.out⟩
                  case measure => simp [intOf]; omega
                · go_wp2_with fail
                  refine (HIH.out m1 B L _ HS5.out (by omega) (by omega) (by omega) (by omega)).mono ?_
                  rintro e w6 ⟨rfl, hst6⟩
                  have HS6 : Hid (srd w0 g n c L0 w6) := hst6
                  clear hst6 HS5
                  go_wp2_with fail
                  go_roundw
                  case rel => exact ⟨0, m, L, _, ff, rfl, rfl, rfl, rfl, rfl, by omega, by omega, by omega, by omega, HS6.out⟩
                  case measure => simp [intOf]; omega
            · go_wp2_with fail
              exact bodyPost_ret (v := .tuple #[]) (by simp [results, Try.results22, go_sem]) rfl ⟨rfl, hst⟩
          · have hk1' : (k == 1) = false := beq_eq_false_iff_ne.2 hk1
            by_cases hA0 : 0 < A
            · obtain ⟨Z, hZ⟩ : ∃ Z : Nat, (A : Int) - 1 = (Z : Int) := ⟨A - 1, by omega⟩
              have hd : decide ((0 : Int) < (A : Int)) = true := by simp; omega
              have hd2 : decide (0 < A) = true := by simp; omega
              have hw1 : IntKind.i64.wrap ((A : Int) - 1) = (Z : Int) := by rw [hZ]; exact wrp (by omega) (by omega)
              have hw2 : IntKind.i64.wrap (Z : Int) = (Z : Int) := wrp (by omega) (by omega)
              have hZn : Z < n := by omega
              have hPn : p < n := by omega
              obtain ⟨x, ci, fi⟩ := srd_cell hst hZn
              obtain ⟨y, cj, fj⟩ := srd_cell hst hPn
              go_wp2_with fail
              go_quiet ((go_at_call 30; exact Calls.quiet_of_same (Less_any _ _ _)))
              generalize decide (x < y) = bb
              replace hst := srd_drewN hst nq
              generalize wy.drewN nq = wz at hst ⊢
              clear ci fi cj fj hw1 hw2 hd hd2
              cases bb
              · go_wp2_with fail
                refine (partEqual_any w0 g n c L0 A B p _ hst hn (by omega) hB (by omega) (by omega)).mono ?_
                rintro e w5 ⟨m, rfl, hm1, hm2, hst5⟩
                clear hst
                go_wp2_with fail
                go_roundw
                case rel => exact ⟨m, B, L, true, true, rfl, rfl, rfl, rfl, rfl, by omega, by omega, by omega, by omega, hst5⟩
                case measure => simp [intOf]; omega
              · go_wp2_with fail
                refine (part_any w0 g n c L0 A B p _ hst hn (by omega) hB (by omega) (by omega)).mono ?_
                rintro e w5 ⟨m, ff, rfl, hm1, hm2, hst5⟩
                have HS5 : Hid (srd w0 g n c L0 w5) := hst5
                clear hst hst5
                obtain ⟨m1, hm1e⟩ : ∃ m1 : Nat, (m : Int) + 1 = (m1 : Int) := ⟨m + 1, by omega⟩
                by_cases hlr : (m : Int) - (A : Int) < (B : Int) - (m : Int)
                · go_wp2_with fail
                  refine (HIH.out A m L _ HS5.out (by omega) (by omega) (by omega) (by omega)).mono ?_
                  rintro e w6 ⟨rfl, hst6⟩
                  have HS6 : Hid (srd w0 g n c L0 w6) := hst6
                  clear hst6 HS5
                  go_wp2_with fail
                  go_roundw
                  case rel => exact ⟨m1, B, L, _, ff, rfl, rfl, rfl, rfl, rfl, by omega, by omega, by omega, by omega, HS6.out⟩
                  case measure => simp [intOf]; omega
                · go_wp2_with fail
                  refine (HIH.out m1 B L _ HS5.out (by omega) (by omega) (by omega) (by omega)).mono ?_
                  rintro e w6 ⟨rfl, hst6⟩
                  have HS6 : Hid (srd w0 g n c L0 w6) := hst6
                  clear hst6 HS5
                  go_wp2_with fail
                  go_roundw
                  case rel => exact ⟨A, m, L, _, ff, rfl, rfl, rfl, rfl, rfl, by omega, by omega, by omega, by omega, HS6.out⟩
                  case measure => simp [intOf]; omega
            · have hA00 : A = 0 := by omega
              subst hA00
              have hd : decide ((0 : Int) < 0) = false := by simp
              go_wp2_with fail
              go_quiet (fail)
              replace hst := srd_drewN hst nq
              generalize wy.drewN nq = wz at hst ⊢
              go_wp2_with fail
              refine (part_any w0 g n c L0 0 B p _ hst hn (by omega) hB (by omega) (by omega)).mono ?_
              rintro e w5 ⟨m, ff, rfl, hm1, hm2, hst5⟩
              have HS5 : Hid (srd w0 g n c L0 w5) := hst5
              clear hst hst5
              obtain ⟨m1, hm1e⟩ : ∃ m1 : Nat, (m : Int) + 1 = (m1 : Int) := ⟨m + 1, by omega⟩
              by_cases hlr : (m : Int) - (((0 : Nat) : Int)) < (B : Int) - (m : Int)
              · go_wp2_with fail
                refine (HIH.out 0 m L _ HS5.out (by omega) (by omega) (by omega) (by omega)).mono ?_
                rintro e w6 ⟨rfl, hst6⟩
                have HS6 : Hid (srd w0 g n c L0 w6) := hst6
                clear hst6 HS5
                go_wp2_with fail
                go_roundw
                case rel => exact ⟨m1, B, L, _, ff, rfl, rfl, rfl, rfl, rfl, by omega, by omega, by omega, by omega, HS6.out⟩
                case measure => simp [intOf]; omega
              · go_wp2_with fail
                refine (HIH.out m1 B L _ HS5.out (by omega) (by omega) (by omega) (by omega)).mono ?_
                rintro e w6 ⟨rfl, hst6⟩
                have HS6 : Hid (srd w0 g n c L0 w6) := hst6
                clear hst6 HS5
                go_wp2_with fail
                go_roundw
                case rel => exact ⟨0, m, L, _, ff, rfl, rfl, rfl, rfl, rfl, by omega, by omega, by omega, by omega, HS6.out⟩
                case measure => simp [intOf]; omega

theorem pdq_any (w0 : World) (g n c : Nat) (L0 : List Nat) (hn : n ≤ 1152921504606846976) : ∀ (D a b lim : Nat) (w : World), srd w0 g n c L0 w → a ≤ b → b ≤ n → b - a < D → lim ≤ 64 →
    Calls Try.prog 22 #[.slice (some ⟨g, 0, none⟩) n c, .int .i64 a, .int .i64 b, .int .i64 lim] w fun e w' => e = .returned (.tuple #[]) ∧ srd w0 g n c L0 w'
  | 0, _, _, _, _, _, _, _, hD, _ => by omega
  | D + 1, a, b, lim, w, h, h1, h2, h3, h4 => pdq_step w0 g n c L0 hn D (fun a b lim w => pdq_any w0 g n c L0 hn D a b lim w) a b lim w h h1 h2 (by omega) h4

set_option maxRecDepth 20000 in
theorem Sort_any (w0 : World) (g n c : Nat) (L0 : List Nat) (w : World) (h : srd w0 g n c L0 w) (hn : n ≤ 1152921504606846976) (h0 : 0 < n) :
    Calls Try.prog 15 #[.slice (some ⟨g, 0, none⟩) n c] w fun e w' => e = .returned (.tuple #[]) ∧ srd w0 g n c L0 w' := by
  have HS : Hid (srd w0 g n c L0 w) := h
  have hbl := bitLen_le (x := n) (by omega) hn
  clear h
  go_enter Try.func15, Try.ntmps15
  go_wp2_with fail
  refine (Try.bits_Len (n : Int) _ (by omega) (by omega)).mono ?_
  rintro e w' ⟨rfl, hw⟩; subst w'
  rw [Int.toNat_natCast]
  obtain ⟨B, hB⟩ : ∃ B, Lib.bitLen n = B := ⟨_, rfl⟩
  rw [hB] at hbl ⊢
  clear hB
  go_wp2_with fail
  refine (pdq_any w0 g n c L0 hn (n + 1) 0 n B _ HS.out (by omega) (by omega) (by omega) (by omega)).mono ?_
  rintro e w' ⟨rfl, hst⟩
  go_wp2_with fail
  go_end0
  exact ⟨rfl, hst⟩
end Go.Proofs.Ytmifgaknmhcajaa
