/- Sorting by a heap keeps what there is. -/
import Derived.Test.YtmifgaknmhcajaaSrt
namespace Go.Proofs.Ytmifgaknmhcajaa
open Go.RowKit
set_option linter.unusedVariables false

set_option maxRecDepth 20000 in
set_option maxHeartbeats 1000000 in
theorem reverseRange_any (w0 : World) (g n c : Nat) (L0 : List Nat) (a b : Nat) (w : World) (h : srd w0 g n c L0 w) (hn : n ≤ 1152921504606846976) (hab : a ≤ b) (hb : b ≤ n) :
    Calls Try.prog 28 #[.slice (some ⟨g, 0, none⟩) n c, .int .i64 a, .int .i64 b] w fun e w' => e = .returned (.tuple #[]) ∧ srd w0 g n c L0 w' := by
  have HS : Hid (srd w0 g n c L0 w) := h
  clear h
  go_enter Try.func28, Try.ntmps28
  go_wp2_with fail
  go_loopw [6, 7] (fun a b wr => ∃ (i : Nat) (j : Int), a = .int .i64 i ∧ b = .int .i64 j ∧ -1 ≤ j ∧ j < n ∧ i ≤ n ∧ srd w0 g n c L0 wr) (fun a _ _ => n - (intOf a).toNat)
  case atStart => exact ⟨a, (b : Int) - 1, rfl, by go_num, by omega, by omega, by omega, HS.out⟩
  case round =>
    obtain ⟨i, j, rfl, rfl, h1, h2, h3, hst⟩ := hrel
    clear HS
    by_cases hlt : (i : Int) < j
    · obtain ⟨J, rfl⟩ : ∃ J : Nat, j = J := ⟨j.toNat, by omega⟩
      have hi : i < n := by omega
      have hj : J < n := by omega
      obtain ⟨x, ci, fi⟩ := srd_cell hst hi
      obtain ⟨y, cj, fj⟩ := srd_cell hst hj
      obtain ⟨z, ck, fk⟩ := srd_put hst (y := y) hi hj
      have HW : Hid (srd w0 g n c L0 ((wr.setCell ⟨g, i, none⟩ (.int .u64 (y : Int))).setCell ⟨g, J, none⟩ (.int .u64 (x : Int)))) := srd_swap hst hi hj ci cj
      clear hst
      go_wp2_with fail
      go_region
      go_wp2_with fail
      go_roundw
      case rel => exact ⟨i + 1, (J : Int) - 1, by go_num, by go_num, by omega, by omega, by omega, srd_drewN HW.out _⟩
      case measure => simp [intOf]; omega
    · go_wp2_with fail
      go_end0
      exact ⟨rfl, hst⟩

set_option maxRecDepth 20000 in
set_option maxHeartbeats 2000000 in
theorem sift_any (w0 : World) (g n c : Nat) (L0 : List Nat) (lo hi f : Nat) (w : World) (h : srd w0 g n c L0 w) (hn : n ≤ 1152921504606846976) (hlo : lo ≤ hi) (hb : f + hi ≤ n) :
    Calls Try.prog 35 #[.slice (some ⟨g, 0, none⟩) n c, .int .i64 lo, .int .i64 hi, .int .i64 f] w fun e w' => e = .returned (.tuple #[]) ∧ srd w0 g n c L0 w' := by
  have HS : Hid (srd w0 g n c L0 w) := h
  clear h
  go_enter Try.func35, Try.ntmps35
  go_wp2_with fail
  go_loopw [8] (fun r wr => ∃ R : Nat, r = .int .i64 R ∧ R ≤ hi ∧ srd w0 g n c L0 wr) (fun r _ => hi + 1 - (intOf r).toNat)
  case atStart => exact ⟨lo, rfl, hlo, HS.out⟩
  case round =>
    obtain ⟨R, rfl, hR, hst⟩ := hrel
    clear HS
    by_cases hch : 2 * R + 1 < hi
    · obtain ⟨C, hC⟩ : ∃ C : Nat, 2 * R + 1 = C := ⟨_, rfl⟩
      obtain ⟨F, hF⟩ : ∃ F : Nat, f + C = F := ⟨_, rfl⟩
      obtain ⟨T, hT⟩ : ∃ T : Nat, f + R = T := ⟨_, rfl⟩
      have hTn : T < n := by omega
      have hFn : F < n := by omega
      have hc1 : ((2 : Int) * (R : Int) + 1) = (C : Int) := by omega
      have hwT : IntKind.i64.wrap ((f : Int) + (R : Int)) = (T : Int) := by rw [show (f : Int) + R = T by omega]; exact wrp (by omega) (by omega)
      have HT : Hid ((f : Int) + (R : Int) = (T : Int)) := by show _ = _; omega
      by_cases hc2 : C + 1 < hi
      · have hd : decide ((C : Int) + 1 < (hi : Int)) = true := by simp; omega
        have hFn' : F + 1 < n := by omega
        have hwF : IntKind.i64.wrap ((f : Int) + (C : Int)) = (F : Int) := by rw [show (f : Int) + C = F by omega]; exact wrp (by omega) (by omega)
        have hwF1 : IntKind.i64.wrap ((F : Int) + 1) = (F : Int) + 1 := wrp (by omega) (by omega)
        have hwC1 : IntKind.i64.wrap ((C : Int) + 1) = (C : Int) + 1 := wrp (by omega) (by omega)
        obtain ⟨y, cj, fj⟩ := srd_cell hst hFn
        obtain ⟨y', cj', fj'⟩ := srd_cell hst hFn'
        go_wp2_with fail
        go_quiet ((go_at_call 30; exact Calls.quiet_of_same (Less_any _ _ _)))
        by_cases hyy : y < y'
        · go_wp2_with fail
          obtain ⟨D, hD⟩ : ∃ D : Nat, C + 1 = D := ⟨_, rfl⟩
          have hD' : (C : Int) + 1 = (D : Int) := by omega
          clear hwC1 hd
          rw [hD']
          clear hD'
          obtain ⟨E, hE⟩ : ∃ E : Nat, f + D = E := ⟨_, rfl⟩
          have hEn : E < n := by omega
          have hwE : IntKind.i64.wrap ((f : Int) + (D : Int)) = (E : Int) := by rw [show (f : Int) + D = E by omega]; exact wrp (by omega) (by omega)
          have hsE : ((f : Int) + (D : Int)) = (E : Int) := by omega
          have hsT : ((f : Int) + (R : Int)) = (T : Int) := by omega
          have hwE2 : IntKind.i64.wrap (E : Int) = (E : Int) := wrp (by omega) (by omega)
          have hwT2 : IntKind.i64.wrap (T : Int) = (T : Int) := wrp (by omega) (by omega)
          replace hst : srd w0 g n c L0 (wr.drewN nq) := srd_drewN hst nq
          generalize wr.drewN nq = wq at hst ⊢
          obtain ⟨x, ci, fi⟩ := srd_cell hst hTn
          obtain ⟨v, ce, fe⟩ := srd_cell hst hEn
          obtain ⟨z, ck, fk⟩ := srd_put hst (y := v) hTn hEn
          have HW : Hid (∀ m, srd w0 g n c L0 (((wq.drewN m).setCell ⟨g, T, none⟩ (.int .u64 (v : Int))).setCell ⟨g, E, none⟩ (.int .u64 (x : Int)))) := fun m => srd_swapN hst hTn hEn ci ce m
          go_quiet ((go_at_call 30; exact Calls.quiet_of_same (Less_any _ _ _)))
          generalize decide (x < v) = bb
          have hbb : bb = true ∨ bb = false := by cases bb <;> simp
          rcases hbb with rfl | rfl
          · have HR : Hid (srd w0 g n c L0 wq) := hst
            clear hst
            go_wp2_with fail
            go_region
            go_wp2_with fail
            go_roundw
            case rel => exact ⟨D, rfl, by omega, HW.out _⟩
            case measure => simp [intOf]; omega
          · go_wp2_with fail
            exact bodyPost_ret (v := .tuple #[]) (by simp [results, Try.results35, go_sem]) rfl ⟨rfl, srd_drewN hst _⟩
        · go_wp2_with fail
          obtain ⟨D, hD⟩ : ∃ D : Nat, C = D := ⟨_, rfl⟩
          subst hD
          obtain ⟨E, hE⟩ : ∃ E : Nat, F = E := ⟨_, rfl⟩
          have hEn : E < n := by omega
          have hwE : IntKind.i64.wrap ((f : Int) + (C : Int)) = (E : Int) := by rw [show (f : Int) + C = E by omega]; exact wrp (by omega) (by omega)
          have hsE : ((f : Int) + (C : Int)) = (E : Int) := by omega
          have hsT : ((f : Int) + (R : Int)) = (T : Int) := by omega
          have hwE2 : IntKind.i64.wrap (E : Int) = (E : Int) := wrp (by omega) (by omega)
          have hwT2 : IntKind.i64.wrap (T : Int) = (T : Int) := wrp (by omega) (by omega)
          replace hst : srd w0 g n c L0 (wr.drewN nq) := srd_drewN hst nq
          generalize wr.drewN nq = wq at hst ⊢
          obtain ⟨x, ci, fi⟩ := srd_cell hst hTn
          obtain ⟨v, ce, fe⟩ := srd_cell hst hEn
          obtain ⟨z, ck, fk⟩ := srd_put hst (y := v) hTn hEn
          have HW : Hid (∀ m, srd w0 g n c L0 (((wq.drewN m).setCell ⟨g, T, none⟩ (.int .u64 (v : Int))).setCell ⟨g, E, none⟩ (.int .u64 (x : Int)))) := fun m => srd_swapN hst hTn hEn ci ce m
          go_quiet ((go_at_call 30; exact Calls.quiet_of_same (Less_any _ _ _)))
          generalize decide (x < v) = bb
          have hbb : bb = true ∨ bb = false := by cases bb <;> simp
          rcases hbb with rfl | rfl
          · have HR : Hid (srd w0 g n c L0 wq) := hst
            clear hst
            go_wp2_with fail
            go_region
            go_wp2_with fail
            go_roundw
            case rel => exact ⟨C, rfl, by omega, HW.out _⟩
            case measure => simp [intOf]; omega
          · go_wp2_with fail
            exact bodyPost_ret (v := .tuple #[]) (by simp [results, Try.results35, go_sem]) rfl ⟨rfl, srd_drewN hst _⟩
      · have hd : decide ((C : Int) + 1 < (hi : Int)) = false := by simp; omega
        have hwC1 : IntKind.i64.wrap ((C : Int) + 1) = (C : Int) + 1 := wrp (by omega) (by omega)
        go_wp2_with fail
        go_quiet (fail)
        go_wp2_with fail
        obtain ⟨E, hE⟩ : ∃ E : Nat, F = E := ⟨_, rfl⟩
        have hEn : E < n := by omega
        have hwE : IntKind.i64.wrap ((f : Int) + (C : Int)) = (E : Int) := by rw [show (f : Int) + C = E by omega]; exact wrp (by omega) (by omega)
        have hsE : ((f : Int) + (C : Int)) = (E : Int) := by omega
        have hsT : ((f : Int) + (R : Int)) = (T : Int) := by omega
        have hwE2 : IntKind.i64.wrap (E : Int) = (E : Int) := wrp (by omega) (by omega)
        have hwT2 : IntKind.i64.wrap (T : Int) = (T : Int) := wrp (by omega) (by omega)
        replace hst : srd w0 g n c L0 (wr.drewN nq) := srd_drewN hst nq
        generalize wr.drewN nq = wq at hst ⊢
        obtain ⟨x, ci, fi⟩ := srd_cell hst hTn
        obtain ⟨v, ce, fe⟩ := srd_cell hst hEn
        obtain ⟨z, ck, fk⟩ := srd_put hst (y := v) hTn hEn
        have HW : Hid (∀ m, srd w0 g n c L0 (((wq.drewN m).setCell ⟨g, T, none⟩ (.int .u64 (v : Int))).setCell ⟨g, E, none⟩ (.int .u64 (x : Int)))) := fun m => srd_swapN hst hTn hEn ci ce m
        go_quiet ((go_at_call 30; exact Calls.quiet_of_same (Less_any _ _ _)))
        generalize decide (x < v) = bb
        have hbb : bb = true ∨ bb = false := by cases bb <;> simp
        rcases hbb with rfl | rfl
        · have HR : Hid (srd w0 g n c L0 wq) := hst
          clear hst
          go_wp2_with fail
          go_region
          go_wp2_with fail
          go_roundw
          case rel => exact ⟨C, rfl, by omega, HW.out _⟩
          case measure => simp [intOf]; omega
        · go_wp2_with fail
          exact bodyPost_ret (v := .tuple #[]) (by simp [results, Try.results35, go_sem]) rfl ⟨rfl, srd_drewN hst _⟩
    · have hch' : (hi : Int) ≤ 2 * (R : Int) + 1 := by omega
      go_wp2_with fail
      go_end0
      exact ⟨rfl, hst⟩

set_option maxRecDepth 20000 in
set_option maxHeartbeats 2000000 in
theorem heap_any (w0 : World) (g n c : Nat) (L0 : List Nat) (a b : Nat) (w : World) (h : srd w0 g n c L0 w) (hn : n ≤ 1152921504606846976) (hab : a < b) (hb : b ≤ n) :
    Calls Try.prog 25 #[.slice (some ⟨g, 0, none⟩) n c, .int .i64 a, .int .i64 b] w fun e w' => e = .returned (.tuple #[]) ∧ srd w0 g n c L0 w' := by
  have HS : Hid (srd w0 g n c L0 w) := h
  clear h
  obtain ⟨W, hW⟩ : ∃ W : Nat, (b : Int) - (a : Int) = (W : Int) := ⟨b - a, by omega⟩
  have hW1 : 1 ≤ W := by omega
  have hWn : a + W ≤ n := by omega
  go_enter Try.func25, Try.ntmps25
  go_wp2_with fail
  go_loopw [9] (fun i wr => ∃ I : Int, i = .int .i64 I ∧ -1 ≤ I ∧ I < W ∧ srd w0 g n c L0 wr) (fun i _ => (intOf i + 1).toNat)
  case atStart => exact ⟨((W : Int) - 1) / 2, rfl, by omega, by omega, HS.out⟩
  case round =>
    obtain ⟨I, rfl, h1, h2, hst⟩ := hrel
    clear HS
    have HS : Hid (srd w0 g n c L0 wr) := hst
    clear hst
    by_cases hI : 0 ≤ I
    · obtain ⟨K, rfl⟩ : ∃ K : Nat, I = K := ⟨I.toNat, by omega⟩
      go_wp2_with fail
      refine (sift_any w0 g n c L0 K W a _ HS.out hn (by omega) (by omega)).mono ?_
      rintro e w' ⟨rfl, hw⟩
      have HS2 : Hid (srd w0 g n c L0 w') := hw
      clear hw
      go_wp2_with fail
      go_roundw
      case rel => exact ⟨(K : Int) - 1, by go_num, by omega, by omega, HS2.out⟩
      case measure => simp [intOf]
    · go_wp2_with fail
      obtain ⟨w4, hw4⟩ : ∃ w4 : World, w4 = wr := ⟨_, rfl⟩
      subst hw4
      go_loopw [10] (fun i wr => ∃ I : Int, i = .int .i64 I ∧ -1 ≤ I ∧ I < W ∧ srd w0 g n c L0 wr) (fun i _ => (intOf i + 1).toNat)
      case atStart => exact ⟨(W : Int) - 1, by go_num, by omega, by omega, HS.out⟩
      case round =>
        obtain ⟨I, rfl, h1, h2, hst⟩ := hrel
        by_cases hI : 0 ≤ I
        · obtain ⟨K, rfl⟩ : ∃ K : Nat, I = K := ⟨I.toNat, by omega⟩
          obtain ⟨T, hT⟩ : ∃ T : Nat, a + K = T := ⟨_, rfl⟩
          have hTn : T < n := by omega
          have han : a < n := by omega
          have hsT : ((a : Int) + (K : Int)) = (T : Int) := by omega
          obtain ⟨x, ci, fi⟩ := srd_cell hst han
          obtain ⟨y, cj, fj⟩ := srd_cell hst hTn
          obtain ⟨z, ck, fk⟩ := srd_put hst (y := y) han hTn
          have HW : Hid (∀ m, srd w0 g n c L0 (((wr.drewN m).setCell ⟨g, a, none⟩ (.int .u64 (y : Int))).setCell ⟨g, T, none⟩ (.int .u64 (x : Int)))) := fun m => srd_swapN hst han hTn ci cj m
          clear hst
          go_wp2_with fail
          go_region
          go_wp2_with fail
          refine (sift_any w0 g n c L0 0 K a _ (HW.out 1) hn (by omega) (by omega)).mono ?_
          rintro e w' ⟨rfl, hw⟩
          have HS2 : Hid (srd w0 g n c L0 w') := hw
          clear hw
          go_wp2_with fail
          go_roundw
          case rel => exact ⟨(K : Int) - 1, by go_num, by omega, by omega, HS2.out⟩
          case measure => simp [intOf]
        · go_wp2_with fail
          go_end0
          exact ⟨rfl, hst⟩
end Go.Proofs.Ytmifgaknmhcajaa
