/- A sort that gives up soon keeps what there is. -/
import Derived.Test.YtmifgaknmhcajaaSrt
namespace Go.Proofs.Ytmifgaknmhcajaa
open Go.RowKit
set_option linter.unusedVariables false

set_option maxRecDepth 20000 in
set_option maxHeartbeats 8000000 in
theorem partial_any (w0 : World) (g n c : Nat) (L0 : List Nat) (a b : Nat) (w : World) (h : srd w0 g n c L0 w) (hn : n ≤ 1152921504606846976) (hab : a < b) (hb : b ≤ n) :
    Calls Try.prog 29 #[.slice (some ⟨g, 0, none⟩) n c, .int .i64 a, .int .i64 b] w fun e w' => ∃ (f : Bool), e = .returned (.bool f) ∧ srd w0 g n c L0 w' := by
  have HS : Hid (srd w0 g n c L0 w) := h
  clear h
  go_enter Try.func29, Try.ntmps29
  go_wp2_with fail
  go_loopw [7, 8] (fun i k wr => ∃ I K : Nat, i = .int .i64 I ∧ k = .int .i64 K ∧ K ≤ 5 ∧ a < I ∧ I ≤ b ∧ srd w0 g n c L0 wr) (fun _ k _ => 5 - (intOf k).toNat)
  case atStart => exact ⟨a + 1, 0, by go_num, rfl, by omega, by omega, by omega, HS.out⟩
  case round =>
    obtain ⟨I0, K, rfl, rfl, hK, h1, h2, hst⟩ := hrel
    clear HS
    have HS : Hid (srd w0 g n c L0 wr) := hst
    clear hst
    by_cases hK5 : K < 5
    · go_wp2_with fail
      obtain ⟨w4, hw4⟩ : ∃ w4 : World, w4 = wr := ⟨_, rfl⟩
      subst hw4
      go_loopw [7] (fun i wr => ∃ I : Nat, i = .int .i64 I ∧ a < I ∧ I ≤ b ∧ srd w0 g n c L0 wr) (fun i _ => b - (intOf i).toNat)
      case atStart => exact ⟨I0, rfl, by omega, by omega, HS.out⟩
      case round =>
        obtain ⟨I, rfl, h5, h6, hst⟩ := hrel
        clear HS
        by_cases hIb : I < b
        · obtain ⟨U, rfl⟩ : ∃ U, I = U + 1 := ⟨I - 1, by omega⟩
          have hd : decide ((U : Int) + 1 < (b : Int)) = true := by simp; omega
          have hU1 : U + 1 < n := by omega
          have hU : U < n := by omega
          have hw1 : IntKind.i64.wrap ((U : Int) + 1 - 1) = (U : Int) := by rw [show (U : Int) + 1 - 1 = U by omega]; exact wrp (by omega) (by omega)
          have hw2 : IntKind.i64.wrap (U : Int) = (U : Int) := wrp (by omega) (by omega)
          obtain ⟨x, ci, fi⟩ := srd_cell hst hU1
          obtain ⟨y, cj, fj⟩ := srd_cell hst hU
          go_wp2_with fail
          go_quiet ((go_at_call 30; exact Calls.quiet_of_same (Less_any _ _ _)))
          generalize decide (x < y) = bb
          replace hst := srd_drewN hst nq
          generalize wr.drewN nq = w6 at hst ⊢
          clear ci fi cj fj hw1 hw2 hd
          cases bb
          · go_wp2_with fail
            go_roundw
            case rel => exact ⟨U + 2, by go_num, by omega, by omega, hst⟩
            case measure => simp [intOf]; omega
          · have hne : ((U : Int) + 1 == (b : Int)) = false := beq_eq_false_iff_ne.2 (by omega)
            by_cases h50 : (b : Int) - (a : Int) < 50
            · go_wp2_with fail
              go_ret
              exact ⟨false, rfl, hst⟩
            · obtain ⟨x, ci, fi⟩ := srd_cell hst hU1
              obtain ⟨y, cj, fj⟩ := srd_cell hst hU
              obtain ⟨z, ck, fk⟩ := srd_put hst (y := y) hU1 hU
              have HW : Hid (∀ m, srd w0 g n c L0 (((w6.drewN m).setCell ⟨g, U + 1, none⟩ (.int .u64 (y : Int))).setCell ⟨g, U, none⟩ (.int .u64 (x : Int)))) := fun m => srd_swapN hst hU1 hU ci cj m
              clear hst
              go_wp2_with fail
              go_region
              have hst : srd w0 g n c L0 (((w6.setCell ⟨g, U + 1, none⟩ (.int .u64 (y : Int))).setCell ⟨g, U, none⟩ (.int .u64 (x : Int))).drew) := HW.out 1
              clear ci fi cj fj ck fk HW
              generalize ((w6.setCell ⟨g, U + 1, none⟩ (.int .u64 (y : Int))).setCell ⟨g, U, none⟩ (.int .u64 (x : Int))).drew = w7 at hst ⊢
              by_cases hia : (2 : Int) ≤ (U : Int) + 1 - (a : Int)
              · go_wp2_with fail
                go_loopw [9] (fun j wr => ∃ J : Nat, j = .int .i64 J ∧ J ≤ U ∧ srd w0 g n c L0 wr) (fun j _ => (intOf j).toNat)
                case atStart => exact ⟨U, by go_num, by omega, hst⟩
                case round =>
                  clear hst
                  obtain ⟨J, rfl, h7, hst⟩ := hrel
                  by_cases hJ1 : 1 ≤ J
                  · obtain ⟨V, rfl⟩ : ∃ V, J = V + 1 := ⟨J - 1, by omega⟩
                    have hV1 : V + 1 < n := by omega
                    have hV : V < n := by omega
                    have hw1 : IntKind.i64.wrap ((V : Int) + 1 - 1) = (V : Int) := by rw [show (V : Int) + 1 - 1 = V by omega]; exact wrp (by omega) (by omega)
                    have hw2 : IntKind.i64.wrap (V : Int) = (V : Int) := wrp (by omega) (by omega)
                    obtain ⟨x, ci, fi⟩ := srd_cell hst hV1
                    obtain ⟨y, cj, fj⟩ := srd_cell hst hV
                    go_wp2_with fail
                    go_quiet ((go_at_call 30; exact Calls.quiet_of_same (Less_any _ _ _)))
                    generalize decide (x < y) = bb
                    replace hst := srd_drewN hst nq
                    generalize wr.drewN nq = w8 at hst ⊢
                    clear ci fi cj fj hw1 hw2
                    cases bb
                    · clear hV1 hV hJ1 h7
                      by_cases hbi : (2 : Int) ≤ (b : Int) - ((U : Int) + 1)
                      · go_wp2_with fail
                        go_loopw [10] (fun j wr => ∃ J : Nat, j = .int .i64 J ∧ U + 2 ≤ J ∧ J ≤ b ∧ srd w0 g n c L0 wr) (fun j _ => b - (intOf j).toNat)
                        case atStart => exact ⟨U + 2, by go_num, by omega, by omega, hst⟩
                        case round =>
                          clear hst
                          obtain ⟨J, rfl, h7, h8, hst⟩ := hrel
                          by_cases hJb : J < b
                          · obtain ⟨V, rfl⟩ : ∃ V, J = V + 1 := ⟨J - 1, by omega⟩
                            have hV1 : V + 1 < n := by omega
                            have hV : V < n := by omega
                            have hw1 : IntKind.i64.wrap ((V : Int) + 1 - 1) = (V : Int) := by rw [show (V : Int) + 1 - 1 = V by omega]; exact wrp (by omega) (by omega)
                            have hw2 : IntKind.i64.wrap (V : Int) = (V : Int) := wrp (by omega) (by omega)
                            obtain ⟨x, ci, fi⟩ := srd_cell hst hV1
                            obtain ⟨y, cj, fj⟩ := srd_cell hst hV
                            go_wp2_with fail
                            go_quiet ((go_at_call 30; exact Calls.quiet_of_same (Less_any _ _ _)))
                            generalize decide (x < y) = bb
                            replace hst := srd_drewN hst nq
                            generalize wr.drewN nq = w9 at hst ⊢
                            clear ci fi cj fj hw1 hw2
                            cases bb
                            · have HS9 : Hid (srd w0 g n c L0 w9) := hst
                              clear hst
                              go_wp2_with fail
                              go_roundw
                              case rel => exact ⟨U + 1, K + 1, by go_num, by go_num, by omega, by omega, by omega, HS9.out⟩
                              case measure => simp [intOf]; omega
                            · obtain ⟨x, ci, fi⟩ := srd_cell hst hV1
                              obtain ⟨y, cj, fj⟩ := srd_cell hst hV
                              obtain ⟨z, ck, fk⟩ := srd_put hst (y := y) hV1 hV
                              have HW : Hid (∀ m, srd w0 g n c L0 (((w9.drewN m).setCell ⟨g, V + 1, none⟩ (.int .u64 (y : Int))).setCell ⟨g, V, none⟩ (.int .u64 (x : Int)))) := fun m => srd_swapN hst hV1 hV ci cj m
                              clear hst
                              go_wp2_with fail
                              go_region
                              go_wp2_with fail
                              go_roundw
                              case rel => exact ⟨V + 2, by go_num, by omega, by omega, HW.out _⟩
                              case measure => simp [intOf]; omega
                          · have HS9 : Hid (srd w0 g n c L0 wr) := hst
                            clear hst
                            go_wp2_with fail
                            go_roundw
                            case rel => exact ⟨U + 1, K + 1, by go_num, by go_num, by omega, by omega, by omega, HS9.out⟩
                            case measure => simp [intOf]; omega
                      · have HS9 : Hid (srd w0 g n c L0 w8) := hst
                        clear hst
                        go_wp2_with fail
                        go_roundw
                        case rel => exact ⟨U + 1, K + 1, by go_num, by go_num, by omega, by omega, by omega, HS9.out⟩
                        case measure => simp [intOf]; omega
                    · obtain ⟨x, ci, fi⟩ := srd_cell hst hV1
                      obtain ⟨y, cj, fj⟩ := srd_cell hst hV
                      obtain ⟨z, ck, fk⟩ := srd_put hst (y := y) hV1 hV
                      have HW : Hid (∀ m, srd w0 g n c L0 (((w8.drewN m).setCell ⟨g, V + 1, none⟩ (.int .u64 (y : Int))).setCell ⟨g, V, none⟩ (.int .u64 (x : Int)))) := fun m => srd_swapN hst hV1 hV ci cj m
                      clear hst
                      go_wp2_with fail
                      go_region
                      go_wp2_with fail
                      go_roundw
                      case rel => exact ⟨V, by go_num, by omega, HW.out _⟩
                      case measure => simp [intOf]
                  · have hJ0 : J = 0 := by omega
                    subst hJ0
                    obtain ⟨w8, hw8⟩ : ∃ w8 : World, w8 = wr := ⟨_, rfl⟩
                    subst hw8
                    clear hJ1 h7
                    by_cases hbi : (2 : Int) ≤ (b : Int) - ((U : Int) + 1)
                    · go_wp2_with fail
                      go_loopw [10] (fun j wr => ∃ J : Nat, j = .int .i64 J ∧ U + 2 ≤ J ∧ J ≤ b ∧ srd w0 g n c L0 wr) (fun j _ => b - (intOf j).toNat)
                      case atStart => exact ⟨U + 2, by go_num, by omega, by omega, hst⟩
                      case round =>
                        clear hst
                        obtain ⟨J, rfl, h7, h8, hst⟩ := hrel
                        by_cases hJb : J < b
                        · obtain ⟨V, rfl⟩ : ∃ V, J = V + 1 := ⟨J - 1, by omega⟩
                          have hV1 : V + 1 < n := by omega
                          have hV : V < n := by omega
                          have hw1 : IntKind.i64.wrap ((V : Int) + 1 - 1) = (V : Int) := by rw [show (V : Int) + 1 - 1 = V by omega]; exact wrp (by omega) (by omega)
                          have hw2 : IntKind.i64.wrap (V : Int) = (V : Int) := wrp (by omega) (by omega)
                          obtain ⟨x, ci, fi⟩ := srd_cell hst hV1
                          obtain ⟨y, cj, fj⟩ := srd_cell hst hV
                          go_wp2_with fail
                          go_quiet ((go_at_call 30; exact Calls.quiet_of_same (Less_any _ _ _)))
                          generalize decide (x < y) = bb
                          replace hst := srd_drewN hst nq
                          generalize wr.drewN nq = w9 at hst ⊢
                          clear ci fi cj fj hw1 hw2
                          cases bb
                          · have HS9 : Hid (srd w0 g n c L0 w9) := hst
                            clear hst
                            go_wp2_with fail
                            go_roundw
                            case rel => exact ⟨U + 1, K + 1, by go_num, by go_num, by omega, by omega, by omega, HS9.out⟩
                            case measure => simp [intOf]; omega
                          · obtain ⟨x, ci, fi⟩ := srd_cell hst hV1
                            obtain ⟨y, cj, fj⟩ := srd_cell hst hV
                            obtain ⟨z, ck, fk⟩ := srd_put hst (y := y) hV1 hV
                            have HW : Hid (∀ m, srd w0 g n c L0 (((w9.drewN m).setCell ⟨g, V + 1, none⟩ (.int .u64 (y : Int))).setCell ⟨g, V, none⟩ (.int .u64 (x : Int)))) := fun m => srd_swapN hst hV1 hV ci cj m
                            clear hst
                            go_wp2_with fail
                            go_region
                            go_wp2_with fail
                            go_roundw
                            case rel => exact ⟨V + 2, by go_num, by omega, by omega, HW.out _⟩
                            case measure => simp [intOf]; omega
                        · have HS9 : Hid (srd w0 g n c L0 wr) := hst
                          clear hst
                          go_wp2_with fail
                          go_roundw
                          case rel => exact ⟨U + 1, K + 1, by go_num, by go_num, by omega, by omega, by omega, HS9.out⟩
                          case measure => simp [intOf]; omega
                    · have HS9 : Hid (srd w0 g n c L0 w8) := hst
                      clear hst
                      go_wp2_with fail
                      go_roundw
                      case rel => exact ⟨U + 1, K + 1, by go_num, by go_num, by omega, by omega, by omega, HS9.out⟩
                      case measure => simp [intOf]; omega
              · by_cases hbi : (2 : Int) ≤ (b : Int) - ((U : Int) + 1)
                · go_wp2_with fail
                  go_loopw [10] (fun j wr => ∃ J : Nat, j = .int .i64 J ∧ U + 2 ≤ J ∧ J ≤ b ∧ srd w0 g n c L0 wr) (fun j _ => b - (intOf j).toNat)
                  case atStart => exact ⟨U + 2, by go_num, by omega, by omega, hst⟩
                  case round =>
                    clear hst
                    obtain ⟨J, rfl, h7, h8, hst⟩ := hrel
                    by_cases hJb : J < b
                    · obtain ⟨V, rfl⟩ : ∃ V, J = V + 1 := ⟨J - 1, by omega⟩
                      have hV1 : V + 1 < n := by omega
                      have hV : V < n := by omega
                      have hw1 : IntKind.i64.wrap ((V : Int) + 1 - 1) = (V : Int) := by rw [show (V : Int) + 1 - 1 = V by omega]; exact wrp (by omega) (by omega)
                      have hw2 : IntKind.i64.wrap (V : Int) = (V : Int) := wrp (by omega) (by omega)
                      obtain ⟨x, ci, fi⟩ := srd_cell hst hV1
                      obtain ⟨y, cj, fj⟩ := srd_cell hst hV
                      go_wp2_with fail
                      go_quiet ((go_at_call 30; exact Calls.quiet_of_same (Less_any _ _ _)))
                      generalize decide (x < y) = bb
                      replace hst := srd_drewN hst nq
                      generalize wr.drewN nq = w9 at hst ⊢
                      clear ci fi cj fj hw1 hw2
                      cases bb
                      · have HS9 : Hid (srd w0 g n c L0 w9) := hst
                        clear hst
                        go_wp2_with fail
                        go_roundw
                        case rel => exact ⟨U + 1, K + 1, by go_num, by go_num, by omega, by omega, by omega, HS9.out⟩
                        case measure => simp [intOf]; omega
                      · obtain ⟨x, ci, fi⟩ := srd_cell hst hV1
                        obtain ⟨y, cj, fj⟩ := srd_cell hst hV
                        obtain ⟨z, ck, fk⟩ := srd_put hst (y := y) hV1 hV
                        have HW : Hid (∀ m, srd w0 g n c L0 (((w9.drewN m).setCell ⟨g, V + 1, none⟩ (.int .u64 (y : Int))).setCell ⟨g, V, none⟩ (.int .u64 (x : Int)))) := fun m => srd_swapN hst hV1 hV ci cj m
                        clear hst
                        go_wp2_with fail
                        go_region
                        go_wp2_with fail
                        go_roundw
                        case rel => exact ⟨V + 2, by go_num, by omega, by omega, HW.out _⟩
                        case measure => simp [intOf]; omega
                    · have HS9 : Hid (srd w0 g n c L0 wr) := hst
                      clear hst
                      go_wp2_with fail
                      go_roundw
                      case rel => exact ⟨U + 1, K + 1, by go_num, by go_num, by omega, by omega, by omega, HS9.out⟩
                      case measure => simp [intOf]; omega
                · have HS9 : Hid (srd w0 g n c L0 w7) := hst
                  clear hst
                  go_wp2_with fail
                  go_roundw
                  case rel => exact ⟨U + 1, K + 1, by go_num, by go_num, by omega, by omega, by omega, HS9.out⟩
                  case measure => simp [intOf]; omega
        · have hIb' : I = b := by omega
          subst hIb'
          have hd : decide ((I : Int) < (I : Int)) = false := by simp
          go_wp2_with fail
          go_quiet (fail)
          go_wp2_with fail
          go_ret
          exact ⟨true, rfl, srd_drewN hst _⟩
    · go_wp2_with fail
      go_ret
      exact ⟨false, rfl, HS.out⟩
end Go.Proofs.Ytmifgaknmhcajaa
