/- What the document's answer returns: Bytes, Packed, Unpacked. -/
import Derived.Test.YtgebfpncapfaoaaKGet
namespace Go.Proofs.Ytgebfpncapfaoaa.pk
open Go.RowKit
set_option linter.unusedVariables false
attribute [local go_sem ↓] Go.wp_at_zero Go.wp_at_succ

theorem info5 : (Try.prog.info? 5).map (fun i => (i.zero, i.size, i.bytes)) = some (some (.int .u8 0), 1, 1) := by kernel_rfl
theorem make1 (w : World) : (Instr.makeSlice 65 (.int .i64 1) (.int .i64 1)).run Try.prog w = .ok (.slice (some ⟨w.heap.size, 0, none⟩) 1 1) (w.alloc (.cells (madeCells #[.int .u8 0] 1) 5)) :=
  run_make_row' (P := Try.prog) 65 5 (.int .u8 0) 1 Try.underlying65 info5 rfl .i64 .i64 1 (by decide) (by decide) w
/-- What a round of Bytes keeps: the one cell is there, and behind the round holds the byte. -/
def binv (B : Nat) (w : World) (b : UInt8) (k : Nat) (wr : World) : Prop := Below B w wr ∧ B < wr.heap.size ∧ wr.frozen? ⟨B, 0, none⟩ = false ∧ ∃ x : UInt8, wr.cell? ⟨B, 0, none⟩ = some (vb x) ∧ (k = 1 → x = b)
theorem binv_start (w : World) (b : UInt8) : binv w.heap.size w b 0 (w.alloc (.cells (madeCells #[.int .u8 0] 1) 5)) := by
  have h := World.rowIs_made w (.int .u8 0) 1 5
  exact ⟨alloc_below _ _, by simp, h.frozen 0, 0, by rw [h.cell (by decide)]; rfl, fun h => by cases h⟩
theorem binv_next {w wr : World} {b : UInt8} {k : Nat} (h : binv w.heap.size w b k wr) : binv w.heap.size w b 1 (wr.setCell ⟨w.heap.size, 0, none⟩ (vb b)) := by
  obtain ⟨h1, h2, h3, x, h4, _⟩ := h
  exact ⟨h1.setCell (Nat.le_refl _) _, by simpa using h2, by rw [World.frozen?_setCell]; exact h3, b, World.cell?_setCell_same _ _ _ h4, fun _ => rfl⟩

set_option maxRecDepth 20000 in
set_option maxHeartbeats 400000 in
theorem Bytes_one (x : Int) (b : UInt8) (bl c : Nat) (w : World) (hb : bl < w.heap.size) (hc : w.cell? ⟨bl, 0, none⟩ = some (.int .i64 x)) (h0 : 0 ≤ x) (h1 : x < 256) (he : (b.toNat : Int) = x) :
    Calls Try.prog 58 #[.slice (some ⟨bl, 0, none⟩) 1 c] w fun e w' => e = .returned (.string ⟨#[b]⟩) ∧ Below w.heap.size w w' := by
  have hmk := make1
  have HE : Hid (vb b = .int .u8 x) := by show vb b = _; unfold vb; rw [he]
  clear he
  go_enter Try.func58, Try.ntmps58
  go_wp2_with fail
  clear hmk
  have H1 : Hid (binv w.heap.size w b 0 (w.alloc (.cells (madeCells #[.int .u8 0] 1) 5))) := binv_start w b
  generalize w.alloc (.cells (madeCells #[.int .u8 0] 1) 5) = w1 at H1 ⊢
  go_loopw [11] (fun i wr => ∃ k : Nat, k ≤ 1 ∧ i = .int .i64 k ∧ binv w.heap.size w b k wr) (fun i _ => 1 - (intOf i).toNat)
  case atStart => exact ⟨0, by omega, rfl, H1.out⟩
  case round =>
    obtain ⟨k, hk, rfl, R⟩ := hrel
    have RR : Hid (binv w.heap.size w b k wr) := R
    by_cases hlt : k < 1
    · obtain rfl : k = 0 := by omega
      have hs := (R.1.cell (p := ⟨bl, 0, none⟩) hb).trans hc
      obtain ⟨_, _, hf, y, hd, _⟩ := R
      unfold vb at hd
      have HN : Hid (binv w.heap.size w b 1 (wr.setCell ⟨w.heap.size, 0, none⟩ (.int .u8 x))) := by
        have := binv_next RR.out
        rw [HE.out] at this; exact this
      clear hc
      go_wp2_with fail
      go_roundw
      case rel => exact ⟨1, by omega, rfl, HN.out⟩
      case measure => simp [intOf]
    · obtain rfl : k = 1 := by omega
      have hcv : (convert 65 9 (.slice (some ⟨w.heap.size, 0, none⟩) 1 1)).run Try.prog wr = .ok (.string ⟨#[b]⟩) wr := by
        obtain ⟨_, _, _, y, hd, hy⟩ := R
        obtain rfl := hy rfl
        refine run_convert_bytes_back wr 65 9 5 ⟨w.heap.size, 0, none⟩ 1 [y] Try.underlying65 Try.underlying5 Try.underlying9 ?_
        intro j hj
        obtain rfl : j = 0 := by simpa using hj
        rw [add_zero_at]; exact hd
      clear R hc
      go_wp2_with fail
      go_ret
      exact ⟨rfl, RR.out.1⟩

/-- The call for all smaller numbers. -/
def PackedC (N : Nat) : Prop := ∀ (n : Nat) (w : World), n < N → n < 18446744073709551616 → Calls Try.prog 37 #[.int .u64 n] w fun e w' => e = .returned (.string (ps n)) ∧ Below w.heap.size w w'
theorem ps_small {n : Nat} (h : n < 128) : ps n = ⟨#[UInt8.ofNat n]⟩ := by unfold ps; rw [pk_small h]
theorem ps_great {n : Nat} (h : ¬ n < 128) : (⟨#[UInt8.ofNat (128 + n % 128)]⟩ : ByteArray) ++ ps (n / 128) = ps n := by
  apply of_bs
  have e : bs ((⟨#[UInt8.ofNat (128 + n % 128)]⟩ : ByteArray) ++ ps (n / 128)) = UInt8.ofNat (128 + n % 128) :: bs (ps (n / 128)) := by simp [bs]
  rw [e, bs_ps, bs_ps, pk_great h]
theorem one_size (b : UInt8) : (⟨#[b]⟩ : ByteArray).size = 1 := rfl

set_option maxRecDepth 20000 in
set_option maxHeartbeats 400000 in
theorem Packed_step (n : Nat) (ih : PackedC n) (w : World) (hn : n < 18446744073709551616) : Calls Try.prog 37 #[.int .u64 n] w fun e w' => e = .returned (.string (ps n)) ∧ Below w.heap.size w w' := by
  by_cases h : n < 128
  · have HS : Hid (ps n = ⟨#[UInt8.ofNat n]⟩) := ps_small h
    have HB : Hid (Calls Try.prog 58 #[.slice (some ⟨w.heap.size, 0, none⟩) 1 1] (w.alloc (.cells #[.int .i64 n] 3)) fun e w' => e = .returned (.string ⟨#[UInt8.ofNat n]⟩) ∧ Below (w.alloc (.cells #[.int .i64 n] 3)).heap.size (w.alloc (.cells #[.int .i64 n] 3)) w') :=
      Bytes_one n _ w.heap.size 1 _ (by simp) (new_one _ _ _) (by omega) (by omega) (by rw [of_small (by omega)])
    clear ih hn
    go_enter Try.func37, Try.ntmps37
    go_wp2_with fail
    refine HB.out.mono ?_
    rintro e w1 ⟨rfl, hb⟩
    go_wp2_with fail
    go_ret
    exact ⟨ret_str HS.out.symm, below_step (alloc_below _ _) (alloc_below w _).size hb⟩
  · have HS : Hid ((⟨#[UInt8.ofNat (128 + n % 128)]⟩ : ByteArray) ++ ps (n / 128) = ps n) := ps_great h
    have HI : Hid (∀ w : World, Calls Try.prog 37 #[.int .u64 (n / 128 : Nat)] w fun e w' => e = .returned (.string (ps (n / 128))) ∧ Below w.heap.size w w') := fun w => ih (n / 128) w (by omega) (by omega)
    have HB : Hid (∀ x : Int, x = 128 + (n : Int) % 128 → Calls Try.prog 58 #[.slice (some ⟨w.heap.size, 0, none⟩) 1 1] (w.alloc (.cells #[.int .i64 x] 3)) fun e w' => e = .returned (.string ⟨#[UInt8.ofNat (128 + n % 128)]⟩) ∧ Below (w.alloc (.cells #[.int .i64 x] 3)).heap.size (w.alloc (.cells #[.int .i64 x] 3)) w') :=
      fun x hx => Bytes_one x _ w.heap.size 1 _ (by simp) (new_one _ _ _) (by omega) (by omega) (by rw [of_small (by omega)]; omega)
    have hz : (ps (n / 128)).size ≤ 10 := by rw [ps_size]; exact pk_ten (by omega)
    have HW : Hid (IntKind.u64.wrap ((n : Int) / 128) = ((n / 128 : Nat) : Int)) := by unfold Hid; rw [IntKind.wrap_u64]; omega
    obtain ⟨b, hb⟩ : ∃ b, UInt8.ofNat (128 + n % 128) = b := ⟨_, rfl⟩
    rw [hb] at HS HB
    obtain ⟨t, ht⟩ : ∃ t, ps (n / 128) = t := ⟨_, rfl⟩
    rw [ht] at HS HI hz
    obtain ⟨u, hu⟩ : ∃ u : ByteArray, (⟨#[b]⟩ : ByteArray) = u := ⟨_, rfl⟩
    have hu1 : u.size = 1 := by rw [← hu]; rfl
    rw [hu] at HS HB
    obtain ⟨D, hD⟩ : ∃ D, n / 128 = D := ⟨_, rfl⟩
    rw [hD] at HI HW
    have hW := HW.out
    clear ih hn hb ht hu hD
    go_enter Try.func37, Try.ntmps37
    go_wp2_with fail
    refine (HB.out _ (by first | rfl | omega)).mono ?_
    rintro e w1 ⟨rfl, b1⟩
    go_wp2_with fail
    refine (HI.out _).mono ?_
    rintro e w2 ⟨rfl, b2⟩
    go_wp2_with fail
    go_ret
    exact ⟨ret_str HS.out, below_step (below_step (alloc_below _ _) (alloc_below w _).size b1) (Nat.le_trans (alloc_below w _).size b1.size) b2⟩
theorem Packed_all (N : Nat) : PackedC N := by
  induction N with
  | zero => intro n w h; omega
  | succ N ih =>
    intro n w h hn
    rcases Nat.lt_or_ge n N with h2 | h2
    · exact ih n w h2 hn
    · obtain rfl : n = N := by omega
      exact Packed_step n ih w hn
theorem Packed_any (n : Nat) (w : World) (hn : n < 18446744073709551616) : Calls Try.prog 37 #[.int .u64 n] w fun e w' => e = .returned (.string (ps n)) ∧ Below w.heap.size w w' := Packed_all (n + 1) n w (by omega) hn
end Go.Proofs.Ytgebfpncapfaoaa.pk
