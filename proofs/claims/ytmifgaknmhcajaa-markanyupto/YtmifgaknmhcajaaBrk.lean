/- Breaking patterns keeps what there is. -/
import Derived.Test.YtmifgaknmhcajaaSrt
import Derived.Test.YtmifgaknmhcajaaShelf
namespace Go.Proofs.Ytmifgaknmhcajaa
open Go.RowKit
set_option linter.unusedVariables false

theorem bitLen_pow : ∀ (k x : Nat), x < k → x ≠ 0 → x < 2 ^ 64 → 2 ^ Lib.bitLen x ≤ 2 * x
  | 0, x, h, _, _ => by omega
  | k + 1, x, h, h0, h64 => by
    rw [Lib.bitLen_half x h0 h64]
    by_cases h1 : x = 1
    · subst h1; decide
    · have := bitLen_pow k (x / 2) (by omega) (by omega) (by omega)
      rw [Nat.pow_add]
      omega
theorem bitLen_le {x : Nat} (h0 : x ≠ 0) (h : x ≤ 1152921504606846976) : Lib.bitLen x ≤ 61 := by
  have h1 := bitLen_pow (x + 1) x (by omega) h0 (by omega)
  apply Classical.byContradiction
  intro hc
  have : 2 ^ 62 ≤ 2 ^ Lib.bitLen x := Nat.pow_le_pow_right (by decide) (by omega)
  omega

set_option maxRecDepth 20000 in
set_option maxHeartbeats 1000000 in
theorem nextPow_any (W : Nat) (w : World) (h0 : 1 ≤ W) (hW : W ≤ 1152921504606846976) :
    Calls Try.prog 36 #[.int .i64 W] w fun e w' => ∃ P : Nat, e = .returned (.int .u64 P) ∧ (1 ≤ P ∧ P ≤ 2 * W) ∧ w' = w := by
  have hb := bitLen_le (x := W) (by omega) hW
  have HP : Hid (2 ^ Lib.bitLen W ≤ 2 * W) := bitLen_pow (W + 1) W (by omega) (by omega) (by omega)
  go_enter Try.func36, Try.ntmps36
  go_wp2_with fail
  refine (Try.bits_Len (W : Int) _ (by omega) (by omega)).mono ?_
  rintro e w' ⟨rfl, hw⟩; subst w'
  rw [Int.toNat_natCast]
  obtain ⟨B, hB⟩ : ∃ B, Lib.bitLen W = B := ⟨_, rfl⟩
  rw [hB] at hb HP ⊢
  go_wp2_with fail
  go_ret
  have hp : (2 : Nat) ^ B ≤ 2 ^ 61 := Nat.pow_le_pow_right (by decide) hb
  refine ⟨2 ^ B, ?_, ⟨Nat.one_le_two_pow, HP.out⟩, rfl⟩
  apply ret_int
  have e : ((2 : Int) ^ B) = ((2 ^ B : Nat) : Int) := by simp
  rw [IntKind.wrap_u64]
  simp only [e]
  generalize (2 : Nat) ^ B = X at hp ⊢
  omega

/-- The row as it was, and a number by luck in block h. -/
def srx (w0 : World) (g n c : Nat) (L0 : List Nat) (h : Nat) (wr : World) : Prop :=
  srd w0 g n c L0 wr ∧ h ≠ g ∧ w0.heap.size ≤ h ∧ ∃ r : Nat, r < 18446744073709551616 ∧ wr.cell? ⟨h, 0, none⟩ = some (.int .u64 (r : Int)) ∧ wr.frozen? ⟨h, 0, none⟩ = false
section
variable {w0 wr : World} {g n c : Nat} {L0 : List Nat} {h : Nat}
theorem srx_drewN (s : srx w0 g n c L0 h wr) (m : Nat) : srx w0 g n c L0 h (wr.drewN m) := ⟨srd_drewN s.1 m, s.2⟩
theorem srx_drew (s : srx w0 g n c L0 h wr) : srx w0 g n c L0 h wr.drew := ⟨srd_drew s.1, s.2⟩
theorem srx_put (s : srx w0 g n c L0 h wr) (v : Nat) (hv : v < 18446744073709551616) : srx w0 g n c L0 h (wr.setCell ⟨h, 0, none⟩ (.int .u64 (v : Int))) := by
  obtain ⟨h1, h2, h3, u, hu, hc, hf⟩ := s
  refine ⟨srd_other h1 h2 h3 _, h2, h3, v, hv, ?_, ?_⟩
  · rw [World.cell?_setCell_same (h := hc)]
  · rw [World.frozen?_setCell]; exact hf
theorem srx_swap (s : srx w0 g n c L0 h wr) {i j x y : Nat} (hi : i < n) (hj : j < n) (ci : wr.cell? ⟨g, i, none⟩ = some (.int .u64 (x : Int))) (cj : wr.cell? ⟨g, j, none⟩ = some (.int .u64 (y : Int))) (m : Nat) :
    srx w0 g n c L0 h (((wr.drewN m).setCell ⟨g, i, none⟩ (.int .u64 (y : Int))).setCell ⟨g, j, none⟩ (.int .u64 (x : Int))) := by
  refine ⟨srd_swapN s.1 hi hj ci cj m, s.2.1, s.2.2.1, ?_⟩
  obtain ⟨r, hr, hc, hf⟩ := s.2.2.2
  refine ⟨r, hr, ?_, ?_⟩
  · rw [World.cell?_setCell_other (h := fun q => s.2.1 (by injection q with q1; exact q1.symm)), World.cell?_setCell_other (h := fun q => s.2.1 (by injection q with q1; exact q1.symm))]; exact hc
  · rw [World.frozen?_setCell, World.frozen?_setCell]; exact hf
end
theorem shx (r k : Nat) (h : r < 18446744073709551616) : bits .xor .u64 (r : Int) (IntKind.u64.wrap ((r : Int) * (k : Int))) = ((r ^^^ (r * k % 18446744073709551616) : Nat) : Int) := by
  have := u64_xor_nat r (r * k % 18446744073709551616) h (Nat.mod_lt _ (by decide))
  rw [← this, IntKind.wrap_u64, ro_cast 18446744073709551616 r k |>.symm]
  rfl

set_option maxRecDepth 20000 in
set_option maxHeartbeats 1000000 in
theorem Next_any (w0 : World) (g n c : Nat) (L0 : List Nat) (h : Nat) (w : World) (s : srx w0 g n c L0 h w) :
    Calls Try.prog 37 #[.pointer (some ⟨h, 0, none⟩)] w fun e w' => ∃ r : Nat, e = .returned (.int .u64 r) ∧ r < 18446744073709551616 ∧ srx w0 g n c L0 h w' := by
  obtain ⟨r, hr, hc, hf⟩ := s.2.2.2
  have HS : Hid (srx w0 g n c L0 h w) := s
  have h1 := shx r 8192 hr
  have HL : Hid (r ^^^ (r * 8192 % 18446744073709551616) < 18446744073709551616) := xor_lt hr (Nat.mod_lt _ (by decide))
  obtain ⟨R1, hR1⟩ : ∃ R1, r ^^^ (r * 8192 % 18446744073709551616) = R1 := ⟨_, rfl⟩
  rw [hR1] at h1 HL
  have h1' : bits .xor .u64 (r : Int) (IntKind.u64.wrap ((r : Int) * 8192)) = (R1 : Int) := h1
  have HR : Hid (r < 18446744073709551616) := hr
  clear s hR1 h1 hr
  go_enter Try.func37, Try.ntmps37
  go_wp2_with fail
  go_region
  have S1 := srx_drew (srx_put HS.out R1 HL.out)
  have c1 : ((w.setCell ⟨h, 0, none⟩ (.int .u64 (R1 : Int))).drew).cell? ⟨h, 0, none⟩ = some (.int .u64 (R1 : Int)) := World.cell?_setCell_same (h := hc) ..
  have f1 : ((w.setCell ⟨h, 0, none⟩ (.int .u64 (R1 : Int))).drew).frozen? ⟨h, 0, none⟩ = false := (World.frozen?_setCell ..).trans hf
  generalize (w.setCell ⟨h, 0, none⟩ (.int .u64 (R1 : Int))).drew = w1 at S1 c1 f1 ⊢
  have HS1 : Hid (srx w0 g n c L0 h w1) := S1
  have h2 := xdn R1 7 HL.out
  have HL2 : Hid (dn 7 R1 < 18446744073709551616) := dn_lt HL.out
  obtain ⟨R2, hR2⟩ : ∃ R2, dn 7 R1 = R2 := ⟨_, rfl⟩
  rw [hR2] at h2 HL2
  have h2' : bits .xor .u64 (R1 : Int) ((R1 : Int) / 128) = (R2 : Int) := h2
  have hr1 : (R1 : Int) < 18446744073709551616 := by have := HL.out; omega
  clear h1' hc hf S1 h2 hR2
  go_wp2_with fail
  go_region
  have S2 := srx_drew (srx_put HS1.out R2 HL2.out)
  have c2 : ((w1.setCell ⟨h, 0, none⟩ (.int .u64 (R2 : Int))).drew).cell? ⟨h, 0, none⟩ = some (.int .u64 (R2 : Int)) := World.cell?_setCell_same (h := c1) ..
  have f2 : ((w1.setCell ⟨h, 0, none⟩ (.int .u64 (R2 : Int))).drew).frozen? ⟨h, 0, none⟩ = false := (World.frozen?_setCell ..).trans f1
  generalize (w1.setCell ⟨h, 0, none⟩ (.int .u64 (R2 : Int))).drew = w2 at S2 c2 f2 ⊢
  have HS2 : Hid (srx w0 g n c L0 h w2) := S2
  have h3 := shx R2 131072 HL2.out
  have HL3 : Hid (R2 ^^^ (R2 * 131072 % 18446744073709551616) < 18446744073709551616) := xor_lt HL2.out (Nat.mod_lt _ (by decide))
  obtain ⟨R3, hR3⟩ : ∃ R3, R2 ^^^ (R2 * 131072 % 18446744073709551616) = R3 := ⟨_, rfl⟩
  rw [hR3] at h3 HL3
  have h3' : bits .xor .u64 (R2 : Int) (IntKind.u64.wrap ((R2 : Int) * 131072)) = (R3 : Int) := h3
  clear h2' c1 f1 S2 h3 hR3 hr1
  go_wp2_with fail
  go_region
  have S3 := srx_drew (srx_put HS2.out R3 HL3.out)
  have c3 : ((w2.setCell ⟨h, 0, none⟩ (.int .u64 (R3 : Int))).drew).cell? ⟨h, 0, none⟩ = some (.int .u64 (R3 : Int)) := World.cell?_setCell_same (h := c2) ..
  generalize (w2.setCell ⟨h, 0, none⟩ (.int .u64 (R3 : Int))).drew = w3 at S3 c3 ⊢
  have HS3 : Hid (srx w0 g n c L0 h w3) := S3
  clear h3' c2 f2 S3
  go_wp2_with fail
  go_ret
  exact ⟨R3, rfl, HL3.out, HS3.out⟩

theorem srx_new (w0 w : World) (g n c : Nat) (L0 : List Nat) (t : TypeId) (W : Nat) (hW : W < 18446744073709551616) (h : srd w0 g n c L0 w) : srx w0 g n c L0 w.heap.size (w.alloc (.cells #[.int .u64 (W : Int)] t)) := by
  have hb := srd_base h
  refine ⟨srd_below h (alloc_below _ _), by omega, h.1.size, W, hW, new_at w [.int .u64 (W : Int)] t 0, ?_⟩
  simp
theorem srx_new0 (w0 w : World) (g n c : Nat) (L0 : List Nat) (t : TypeId) (W : Nat) (hW : W < 18446744073709551616) (h : srd w0 g n c L0 w) : srx w0 g n c L0 w.heap.size ((w.alloc (.cells #[.int .u64 0] t)).setCell ⟨w.heap.size, 0, none⟩ (.int .u64 (W : Int))) :=
  srx_put (srx_new w0 w g n c L0 t 0 (by decide) h) W hW

set_option maxRecDepth 20000 in
set_option maxHeartbeats 2000000 in
theorem break_any (w0 : World) (g n c : Nat) (L0 : List Nat) (a b : Nat) (w : World) (h : srd w0 g n c L0 w) (hn : n ≤ 1152921504606846976) (hab : a + 12 < b) (hb : b ≤ n) :
    Calls Try.prog 26 #[.slice (some ⟨g, 0, none⟩) n c, .int .i64 a, .int .i64 b] w fun e w' => e = .returned (.tuple #[]) ∧ srd w0 g n c L0 w' := by
  obtain ⟨W, hW⟩ : ∃ W : Nat, (b : Int) - (a : Int) = (W : Int) := ⟨b - a, by omega⟩
  have hW8 : 12 < W := by omega
  have hWn : W ≤ n := by omega
  obtain ⟨Q, hQ⟩ : ∃ Q : Nat, (W : Int) / 4 = (Q : Int) := ⟨W / 4, by omega⟩
  have hQ1 : 4 * Q ≤ W := by omega
  have hQ2 : 3 ≤ Q := by omega
  obtain ⟨J, hJ⟩ : ∃ J : Nat, (a : Int) + (Q : Int) * 2 = (J : Int) := ⟨a + Q * 2, by omega⟩
  have hJb : J + 1 < b ∧ 1 ≤ J ∧ a + 2 < J := by omega
  have HS : Hid (srx w0 g n c L0 w.heap.size (w.alloc (.cells #[.int .u64 (W : Int)] 53))) := srx_new w0 w g n c L0 53 W (by omega) h
  clear h
  go_enter Try.func26, Try.ntmps26
  go_wp2_with fail
  refine (nextPow_any W _ (by omega) (by omega)).mono ?_
  rintro e w' ⟨P, rfl, hP, hw⟩; subst w'
  generalize w.alloc (.cells #[.int .u64 (W : Int)] 53) = w1 at HS ⊢
  obtain ⟨M, hM⟩ : ∃ M : Nat, (P : Int) - 1 = (M : Int) := ⟨P - 1, by omega⟩
  have hMW : M < 2 * W := by omega
  go_wp2_with fail
  go_loopw [9] (fun i wr => ∃ I : Nat, i = .int .i64 I ∧ J ≤ I + 1 ∧ I ≤ J + 2 ∧ srx w0 g n c L0 w.heap.size wr) (fun i _ => J + 2 - (intOf i).toNat)
  case atStart => exact ⟨J - 1, val_int (by omega), by omega, by omega, HS.out⟩
  case round =>
    obtain ⟨I, rfl, h1, h2, hst⟩ := hrel
    clear HS
    have HS : Hid (srx w0 g n c L0 w.heap.size wr) := hst
    clear hst
    by_cases hlt : I ≤ J + 1
    · have hlt' : (I : Int) ≤ (J : Int) + 1 := by omega
      go_wp2_with fail
      refine (Next_any w0 g n c L0 w.heap.size _ HS.out).mono ?_
      rintro e w2 ⟨r, rfl, hr, s2⟩
      have HS2 : Hid (srx w0 g n c L0 w.heap.size w2) := s2
      have hand := u64_and_nat r M hr (by omega)
      have hXM : r &&& M ≤ M := Nat.and_le_right
      obtain ⟨X, hX⟩ : ∃ X, r &&& M = X := ⟨_, rfl⟩
      rw [hX] at hand hXM
      clear s2 hr hX HS
      by_cases hXW : W ≤ X
      · obtain ⟨O, hO⟩ : ∃ O : Nat, (X : Int) - (W : Int) = (O : Int) := ⟨X - W, by omega⟩
        have hOW : O < W := by omega
        have hXW' : (W : Int) ≤ (X : Int) := by omega
        obtain ⟨T, hsT⟩ : ∃ T : Nat, (a : Int) + (O : Int) = (T : Int) := ⟨a + O, by omega⟩
        have hTn : T < n := by omega
        have hIn : I < n := by omega
        have hst := HS2.out.1
        have HX2 := HS2.out.2
        obtain ⟨x, ci, fi⟩ := srd_cell hst hIn
        obtain ⟨y, cj, fj⟩ := srd_cell hst hTn
        obtain ⟨z, ck, fk⟩ := srd_put hst (y := y) hIn hTn
        have HW : Hid (∀ m, srx w0 g n c L0 w.heap.size (((w2.drewN m).setCell ⟨g, I, none⟩ (.int .u64 (y : Int))).setCell ⟨g, T, none⟩ (.int .u64 (x : Int)))) := fun m => srx_swap HS2.out hIn hTn ci cj m
        clear hst HX2
        go_wp2_with fail
        go_region
        go_wp2_with fail
        go_roundw
        case rel => exact ⟨I + 1, by go_num, by omega, by omega, HW.out _⟩
        case measure => simp [intOf]; omega
      · have hOW : X < W := by omega
        have hXW' : ¬ (W : Int) ≤ (X : Int) := by omega
        obtain ⟨T, hsT⟩ : ∃ T : Nat, (a : Int) + (X : Int) = (T : Int) := ⟨a + X, by omega⟩
        have hTn : T < n := by omega
        have hIn : I < n := by omega
        have hst := HS2.out.1
        have HX2 := HS2.out.2
        obtain ⟨x, ci, fi⟩ := srd_cell hst hIn
        obtain ⟨y, cj, fj⟩ := srd_cell hst hTn
        obtain ⟨z, ck, fk⟩ := srd_put hst (y := y) hIn hTn
        have HW : Hid (∀ m, srx w0 g n c L0 w.heap.size (((w2.drewN m).setCell ⟨g, I, none⟩ (.int .u64 (y : Int))).setCell ⟨g, T, none⟩ (.int .u64 (x : Int)))) := fun m => srx_swap HS2.out hIn hTn ci cj m
        clear hst HX2
        go_wp2_with fail
        go_region
        go_wp2_with fail
        go_roundw
        case rel => exact ⟨I + 1, by go_num, by omega, by omega, HW.out _⟩
        case measure => simp [intOf]; omega
    · have hlt' : ¬ (I : Int) ≤ (J : Int) + 1 := by omega
      go_wp2_with fail
      go_end0
      exact ⟨rfl, HS.out.1⟩
end Go.Proofs.Ytmifgaknmhcajaa
