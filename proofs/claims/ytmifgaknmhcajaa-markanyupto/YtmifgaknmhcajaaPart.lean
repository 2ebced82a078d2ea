/- Partitions keep what there is. -/
import Derived.Test.YtmifgaknmhcajaaSrt
namespace Go.Proofs.Ytmifgaknmhcajaa
open Go.RowKit
set_option linter.unusedVariables false

set_option maxRecDepth 20000 in
set_option maxHeartbeats 8000000 in
theorem part_any (w0 : World) (g n c : Nat) (L0 : List Nat) (a b p : Nat) (w : World) (h : srd w0 g n c L0 w) (hn : n ≤ 1152921504606846976) (hab : a + 1 < b) (hb : b ≤ n) (hp1 : a ≤ p) (hp2 : p < b) :
    Calls Try.prog 32 #[.slice (some ⟨g, 0, none⟩) n c, .int .i64 a, .int .i64 b, .int .i64 p] w fun e w' => ∃ (m : Nat) (f : Bool), e = .returned (.tuple #[.int .i64 m, .bool f]) ∧ a ≤ m ∧ m < b ∧ srd w0 g n c L0 w' := by
  have hst := h
  have ha : a < n := by omega
  have hpn : p < n := by omega
  clear h
  go_enter Try.func32, Try.ntmps32
  obtain ⟨x, ci, fi⟩ := srd_cell hst ha
  obtain ⟨y, cj, fj⟩ := srd_cell hst hpn
  obtain ⟨z, ck, fk⟩ := srd_put hst (y := y) ha hpn
  have HW : Hid (∀ m, srd w0 g n c L0 (((w.drewN m).setCell ⟨g, a, none⟩ (.int .u64 (y : Int))).setCell ⟨g, p, none⟩ (.int .u64 (x : Int)))) := fun m => srd_swapN hst ha hpn ci cj m
  clear hst
  go_wp2_with fail
  go_region
  have HS : Hid (srd w0 g n c L0 (((w.drewN 1).setCell ⟨g, a, none⟩ (.int .u64 (y : Int))).setCell ⟨g, p, none⟩ (.int .u64 (x : Int)))) := HW.out 1
  clear ci fi cj fj ck fk HW
  obtain ⟨I0, hI0⟩ : ∃ I0 : Nat, I0 = a + 1 := ⟨_, rfl⟩
  obtain ⟨J0, hJ0⟩ : ∃ J0 : Nat, (b : Int) - 1 = (J0 : Int) := ⟨b - 1, by omega⟩
  go_wp2_with fail
  go_loopw [10] (fun i wr => ∃ I : Nat, i = .int .i64 I ∧ I0 ≤ I ∧ I ≤ b ∧ srd w0 g n c L0 wr) (fun i _ => b - (intOf i).toNat)
  case atStart => exact ⟨I0, by rw [hI0]; go_num, by omega, by omega, HS.out⟩
  case round =>
    obtain ⟨I, rfl, h5, h6, hst⟩ := hrel
    clear HS
    by_cases hij : I ≤ J0
    · have hd : decide ((I : Int) ≤ (J0 : Int)) = true := by simp; omega
      have hIn : I < n := by omega
      obtain ⟨x, ci, fi⟩ := srd_cell hst hIn
      obtain ⟨y, cj, fj⟩ := srd_cell hst ha
      go_wp2_with fail
      go_quiet ((go_at_call 30; exact Calls.quiet_of_same (Less_any _ _ _)))
      generalize decide (x < y) = bb
      have hbb : bb = false ∨ bb = true := by cases bb <;> simp
      rcases hbb with rfl | rfl
      · have hst5 := srd_drewN hst nq
        generalize wr.drewN nq = w5 at hst5 ⊢
        clear hst ci fi cj fj hd
        go_wp2_with fail
        go_loopw [11] (fun j wr => ∃ J : Nat, j = .int .i64 J ∧ a ≤ J ∧ J < b ∧ srd w0 g n c L0 wr) (fun j _ => (intOf j).toNat)
        case atStart => exact ⟨J0, rfl, by omega, by omega, hst5⟩
        case round =>
          obtain ⟨J, rfl, h7, h8, hst⟩ := hrel
          clear hst5
          by_cases hij : I ≤ J
          · have hd : decide ((I : Int) ≤ (J : Int)) = true := by simp; omega
            have hIn : I < n := by omega
            have hJn : J < n := by omega
            obtain ⟨x, ci, fi⟩ := srd_cell hst hJn
            obtain ⟨y, cj, fj⟩ := srd_cell hst ha
            go_wp2_with fail
            go_quiet ((go_at_call 30; exact Calls.quiet_of_same (Less_any _ _ _)))
            generalize decide (x < y) = bb
            have hbb : bb = false ∨ bb = true := by cases bb <;> simp
            rcases hbb with rfl | rfl
            · obtain ⟨K, rfl⟩ : ∃ K, J = K + 1 := ⟨J - 1, by omega⟩
              go_wp2_with fail
              go_roundw
              case rel => exact ⟨K, by go_num, by omega, by omega, srd_drewN hst _⟩
              case measure => simp [intOf]
            · replace hst := srd_drewN hst nq
              generalize wr.drewN nq = w6 at hst ⊢
              clear ci fi cj fj hd
              obtain ⟨x, ci, fi⟩ := srd_cell hst hIn
              obtain ⟨y, cj, fj⟩ := srd_cell hst hJn
              obtain ⟨z, ck, fk⟩ := srd_put hst (y := y) hIn hJn
              have HW : Hid (∀ m, srd w0 g n c L0 (((w6.drewN m).setCell ⟨g, I, none⟩ (.int .u64 (y : Int))).setCell ⟨g, J, none⟩ (.int .u64 (x : Int)))) := fun m => srd_swapN hst hIn hJn ci cj m
              clear hst
              go_wp2_with fail
              go_region
              have HS6 : Hid (srd w0 g n c L0 (((w6.drewN 1).setCell ⟨g, I, none⟩ (.int .u64 (y : Int))).setCell ⟨g, J, none⟩ (.int .u64 (x : Int)))) := HW.out 1
              clear ci fi cj fj ck fk HW
              go_wp2_with fail
              go_loopw [10, 11] (fun i j wr => ∃ I J : Nat, i = .int .i64 I ∧ j = .int .i64 J ∧ a < I ∧ I ≤ b ∧ a ≤ J ∧ J < b ∧ srd w0 g n c L0 wr) (fun i _ _ => b - (intOf i).toNat)
              case atStart => exact ⟨I + 1, J - 1, by go_num, by first | (go_num; done) | exact val_int (by omega), by omega, by omega, by omega, by omega, HS6.out⟩
              case round =>
                clear HS6 hij hIn hJn h7 h8
                obtain ⟨I0, J0, rfl, rfl, h1, h2, h3, h4, hst⟩ := hrel
                have HS : Hid (srd w0 g n c L0 wr) := hst
                clear hst
                go_wp2_with fail
                obtain ⟨w7, hw7⟩ : ∃ w7 : World, w7 = wr := ⟨_, rfl⟩
                subst hw7
                go_loopw [10] (fun i wr => ∃ I : Nat, i = .int .i64 I ∧ I0 ≤ I ∧ I ≤ b ∧ srd w0 g n c L0 wr) (fun i _ => b - (intOf i).toNat)
                case atStart => exact ⟨I0, by first | rfl | (go_num; done), by omega, by omega, HS.out⟩
                case round =>
                  obtain ⟨I, rfl, h5, h6, hst⟩ := hrel
                  clear HS
                  by_cases hij : I ≤ J0
                  · have hd : decide ((I : Int) ≤ (J0 : Int)) = true := by simp; omega
                    have hIn : I < n := by omega
                    obtain ⟨x, ci, fi⟩ := srd_cell hst hIn
                    obtain ⟨y, cj, fj⟩ := srd_cell hst ha
                    go_wp2_with fail
                    go_quiet ((go_at_call 30; exact Calls.quiet_of_same (Less_any _ _ _)))
                    generalize decide (x < y) = bb
                    have hbb : bb = false ∨ bb = true := by cases bb <;> simp
                    rcases hbb with rfl | rfl
                    · have hst5 := srd_drewN hst nq
                      generalize wr.drewN nq = w5 at hst5 ⊢
                      clear hst ci fi cj fj hd
                      go_wp2_with fail
                      go_loopw [11] (fun j wr => ∃ J : Nat, j = .int .i64 J ∧ a ≤ J ∧ J < b ∧ srd w0 g n c L0 wr) (fun j _ => (intOf j).toNat)
                      case atStart => exact ⟨J0, rfl, by omega, by omega, hst5⟩
                      case round =>
                        obtain ⟨J, rfl, h7, h8, hst⟩ := hrel
                        clear hst5
                        by_cases hij : I ≤ J
                        · have hd : decide ((I : Int) ≤ (J : Int)) = true := by simp; omega
                          have hIn : I < n := by omega
                          have hJn : J < n := by omega
                          obtain ⟨x, ci, fi⟩ := srd_cell hst hJn
                          obtain ⟨y, cj, fj⟩ := srd_cell hst ha
                          go_wp2_with fail
                          go_quiet ((go_at_call 30; exact Calls.quiet_of_same (Less_any _ _ _)))
                          generalize decide (x < y) = bb
                          have hbb : bb = false ∨ bb = true := by cases bb <;> simp
                          rcases hbb with rfl | rfl
                          · obtain ⟨K, rfl⟩ : ∃ K, J = K + 1 := ⟨J - 1, by omega⟩
                            go_wp2_with fail
                            go_roundw
                            case rel => exact ⟨K, by go_num, by omega, by omega, srd_drewN hst _⟩
                            case measure => simp [intOf]
                          · replace hst := srd_drewN hst nq
                            generalize wr.drewN nq = w6 at hst ⊢
                            clear ci fi cj fj hd
                            obtain ⟨x, ci, fi⟩ := srd_cell hst hIn
                            obtain ⟨y, cj, fj⟩ := srd_cell hst hJn
                            obtain ⟨z, ck, fk⟩ := srd_put hst (y := y) hIn hJn
                            have HW : Hid (∀ m, srd w0 g n c L0 (((w6.drewN m).setCell ⟨g, I, none⟩ (.int .u64 (y : Int))).setCell ⟨g, J, none⟩ (.int .u64 (x : Int)))) := fun m => srd_swapN hst hIn hJn ci cj m
                            clear hst
                            go_wp2_with fail
                            go_region
                            go_wp2_with fail
                            go_roundw
                            case rel => exact ⟨I + 1, J - 1, by go_num, by first | (go_num; done) | exact val_int (by omega), by omega, by omega, by omega, by omega, HW.out _⟩
                            case measure => simp [intOf]; omega
                        · have hd : decide ((I : Int) ≤ (J : Int)) = false := by simp; omega
                          have hJn : J < n := by omega
                          go_wp2_with fail
                          go_quiet (fail)
                          replace hst := srd_drewN hst nq
                          generalize wr.drewN nq = w6 at hst ⊢
                          clear hd
                          obtain ⟨x, ci, fi⟩ := srd_cell hst hJn
                          obtain ⟨y, cj, fj⟩ := srd_cell hst ha
                          obtain ⟨z, ck, fk⟩ := srd_put hst (y := y) hJn ha
                          have HW : Hid (∀ m, srd w0 g n c L0 (((w6.drewN m).setCell ⟨g, J, none⟩ (.int .u64 (y : Int))).setCell ⟨g, a, none⟩ (.int .u64 (x : Int)))) := fun m => srd_swapN hst hJn ha ci cj m
                          clear hst
                          go_wp2_with fail
                          go_region
                          go_wp2_with fail
                          exact bodyPost_ret (v := .tuple #[.int .i64 J, .bool false]) (by simp [results, Try.results32, go_sem]) rfl ⟨J, false, rfl, by omega, by omega, HW.out _⟩
                    · go_wp2_with fail
                      go_roundw
                      case rel => exact ⟨I + 1, by go_num, by omega, by omega, srd_drewN hst _⟩
                      case measure => simp [intOf]; omega
                  · have hd : decide ((I : Int) ≤ (J0 : Int)) = false := by simp; omega
                    go_wp2_with fail
                    go_quiet (fail)
                    have hst5 := srd_drewN hst nq
                    generalize wr.drewN nq = w5 at hst5 ⊢
                    clear hst hd
                    go_wp2_with fail
                    go_loopw [11] (fun j wr => ∃ J : Nat, j = .int .i64 J ∧ a ≤ J ∧ J < b ∧ srd w0 g n c L0 wr) (fun j _ => (intOf j).toNat)
                    case atStart => exact ⟨J0, rfl, by omega, by omega, hst5⟩
                    case round =>
                      obtain ⟨J, rfl, h7, h8, hst⟩ := hrel
                      clear hst5
                      by_cases hij : I ≤ J
                      · have hd : decide ((I : Int) ≤ (J : Int)) = true := by simp; omega
                        have hIn : I < n := by omega
                        have hJn : J < n := by omega
                        obtain ⟨x, ci, fi⟩ := srd_cell hst hJn
                        obtain ⟨y, cj, fj⟩ := srd_cell hst ha
                        go_wp2_with fail
                        go_quiet ((go_at_call 30; exact Calls.quiet_of_same (Less_any _ _ _)))
                        generalize decide (x < y) = bb
                        have hbb : bb = false ∨ bb = true := by cases bb <;> simp
                        rcases hbb with rfl | rfl
                        · obtain ⟨K, rfl⟩ : ∃ K, J = K + 1 := ⟨J - 1, by omega⟩
                          go_wp2_with fail
                          go_roundw
                          case rel => exact ⟨K, by go_num, by omega, by omega, srd_drewN hst _⟩
                          case measure => simp [intOf]
                        · replace hst := srd_drewN hst nq
                          generalize wr.drewN nq = w6 at hst ⊢
                          clear ci fi cj fj hd
                          obtain ⟨x, ci, fi⟩ := srd_cell hst hIn
                          obtain ⟨y, cj, fj⟩ := srd_cell hst hJn
                          obtain ⟨z, ck, fk⟩ := srd_put hst (y := y) hIn hJn
                          have HW : Hid (∀ m, srd w0 g n c L0 (((w6.drewN m).setCell ⟨g, I, none⟩ (.int .u64 (y : Int))).setCell ⟨g, J, none⟩ (.int .u64 (x : Int)))) := fun m => srd_swapN hst hIn hJn ci cj m
                          clear hst
                          go_wp2_with fail
                          go_region
                          go_wp2_with fail
                          go_roundw
                          case rel => exact ⟨I + 1, J - 1, by go_num, by first | (go_num; done) | exact val_int (by omega), by omega, by omega, by omega, by omega, HW.out _⟩
                          case measure => simp [intOf]; omega
                      · have hd : decide ((I : Int) ≤ (J : Int)) = false := by simp; omega
                        have hJn : J < n := by omega
                        go_wp2_with fail
                        go_quiet (fail)
                        replace hst := srd_drewN hst nq
                        generalize wr.drewN nq = w6 at hst ⊢
                        clear hd
                        obtain ⟨x, ci, fi⟩ := srd_cell hst hJn
                        obtain ⟨y, cj, fj⟩ := srd_cell hst ha
                        obtain ⟨z, ck, fk⟩ := srd_put hst (y := y) hJn ha
                        have HW : Hid (∀ m, srd w0 g n c L0 (((w6.drewN m).setCell ⟨g, J, none⟩ (.int .u64 (y : Int))).setCell ⟨g, a, none⟩ (.int .u64 (x : Int)))) := fun m => srd_swapN hst hJn ha ci cj m
                        clear hst
                        go_wp2_with fail
                        go_region
                        go_wp2_with fail
                        exact bodyPost_ret (v := .tuple #[.int .i64 J, .bool false]) (by simp [results, Try.results32, go_sem]) rfl ⟨J, false, rfl, by omega, by omega, HW.out _⟩
          · have hd : decide ((I : Int) ≤ (J : Int)) = false := by simp; omega
            have hJn : J < n := by omega
            go_wp2_with fail
            go_quiet (fail)
            replace hst := srd_drewN hst nq
            generalize wr.drewN nq = w6 at hst ⊢
            clear hd
            obtain ⟨x, ci, fi⟩ := srd_cell hst hJn
            obtain ⟨y, cj, fj⟩ := srd_cell hst ha
            obtain ⟨z, ck, fk⟩ := srd_put hst (y := y) hJn ha
            have HW : Hid (∀ m, srd w0 g n c L0 (((w6.drewN m).setCell ⟨g, J, none⟩ (.int .u64 (y : Int))).setCell ⟨g, a, none⟩ (.int .u64 (x : Int)))) := fun m => srd_swapN hst hJn ha ci cj m
            clear hst
            go_wp2_with fail
            go_region
            go_wp2_with fail
            exact bodyPost_ret (v := .tuple #[.int .i64 J, .bool true]) (by simp [results, Try.results32, go_sem]) rfl ⟨J, true, rfl, by omega, by omega, HW.out _⟩
      · go_wp2_with fail
        go_roundw
        case rel => exact ⟨I + 1, by go_num, by omega, by omega, srd_drewN hst _⟩
        case measure => simp [intOf]; omega
    · have hd : decide ((I : Int) ≤ (J0 : Int)) = false := by simp; omega
      go_wp2_with fail
      go_quiet (fail)
      have hst5 := srd_drewN hst nq
      generalize wr.drewN nq = w5 at hst5 ⊢
      clear hst hd
      go_wp2_with fail
      go_loopw [11] (fun j wr => ∃ J : Nat, j = .int .i64 J ∧ a ≤ J ∧ J < b ∧ srd w0 g n c L0 wr) (fun j _ => (intOf j).toNat)
      case atStart => exact ⟨J0, rfl, by omega, by omega, hst5⟩
      case round =>
        obtain ⟨J, rfl, h7, h8, hst⟩ := hrel
        clear hst5
        by_cases hij : I ≤ J
        · exact absurd hij (by omega)
        · have hd : decide ((I : Int) ≤ (J : Int)) = false := by simp; omega
          have hJn : J < n := by omega
          go_wp2_with fail
          go_quiet (fail)
          replace hst := srd_drewN hst nq
          generalize wr.drewN nq = w6 at hst ⊢
          clear hd
          obtain ⟨x, ci, fi⟩ := srd_cell hst hJn
          obtain ⟨y, cj, fj⟩ := srd_cell hst ha
          obtain ⟨z, ck, fk⟩ := srd_put hst (y := y) hJn ha
          have HW : Hid (∀ m, srd w0 g n c L0 (((w6.drewN m).setCell ⟨g, J, none⟩ (.int .u64 (y : Int))).setCell ⟨g, a, none⟩ (.int .u64 (x : Int)))) := fun m => srd_swapN hst hJn ha ci cj m
          clear hst
          go_wp2_with fail
          go_region
          go_wp2_with fail
          exact bodyPost_ret (v := .tuple #[.int .i64 J, .bool true]) (by simp [results, Try.results32, go_sem]) rfl ⟨J, true, rfl, by omega, by omega, HW.out _⟩
end Go.Proofs.Ytmifgaknmhcajaa
