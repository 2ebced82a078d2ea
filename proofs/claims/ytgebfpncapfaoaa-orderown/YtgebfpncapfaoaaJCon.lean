/- What each function of package crc but Join returns: one contract a function. -/
import Derived.Test.YtgebfpncapfaoaaOwn
import Derived.Test.YtgebfpncapfaoaaJMath
import Derived.WalkKit
import Derived.WalkSpells
import Derived.WalkLawsBesides
import Derived.Laws.BitsAllLaws
import Derived.Laws.IdiomStrings
import Derived.Deep.QuietTactic
import Derived.BigQuiet
namespace Go.Proofs.Ytgebfpncapfaoaa.cr
open Go.RowKit
set_option linter.unusedVariables false
theorem xor_step_one (N : Nat) (h : N < 4294967296) (h1 : N % 2 = 1) : bits .xor .u32 ((N : Int) / 2) 3988292384 = (bt N : Int) := by
  have := u32_xor_nat (N / 2) 3988292384 (by omega) (by omega)
  unfold bt; rw [h1, Nat.one_mul]; simpa using this
theorem xor_step_none (N : Nat) (h : N < 4294967296) (h1 : N % 2 = 0) : bits .xor .u32 ((N : Int) / 2) 0 = (bt N : Int) := by
  have := u32_xor_nat (N / 2) 0 (by omega) (by omega)
  unfold bt; rw [h1, Nat.zero_mul]; simpa using this
theorem and_one32 (N : Nat) (h : N < 4294967296) : bits .and .u32 (N : Int) 1 = ((N % 2 : Nat) : Int) := by
  have := u32_and_nat N 1 (by omega) (by omega)
  rw [nat_mask1] at this; exact this

/-- What a round of taking a byte keeps. -/
def tinv (X k N : Nat) : Prop := N < 4294967296 ∧ bts (8 - k) N = X ∧ k ≤ 8
theorem tinv_start {n b : Nat} (hn : n < 4294967296) (hb : b < 256) : tinv (tk n b) 0 (n ^^^ b) :=
  ⟨by have : n ^^^ b < 2 ^ 32 := Nat.xor_lt_two_pow (by omega) (by omega)
      simpa using this, rfl, by omega⟩
theorem tinv_step {X k N : Nat} (h : tinv X k N) (hk : k < 8) : tinv X (k + 1) (bt N) :=
  ⟨bt_lt h.1, by have := h.2.1; rw [show 8 - k = (8 - (k + 1)) + 1 by omega] at this; exact this, by omega⟩
theorem tinv_end {X k N : Nat} (h : tinv X k N) (hk : ¬ k < 8) : N = X := by
  have := h.2.1; rw [show 8 - k = 0 by omega] at this; exact this

set_option maxRecDepth 20000 in
set_option maxHeartbeats 400000 in
theorem take_any (n b : Nat) (w : World) (hn : n < 4294967296) (hb : b < 256) :
    Calls Try.prog 90 #[.int .u32 n, .int .u8 b] w fun e w' => e = .returned (.int .u32 (tk n b)) ∧ w' = w := by
  have hx := u32_xor_nat n b hn (by omega)
  have H0 := tinv_start hn hb
  obtain ⟨X, hX⟩ : ∃ X, n ^^^ b = X := ⟨_, rfl⟩
  obtain ⟨T, hT⟩ : ∃ T, tk n b = T := ⟨_, rfl⟩
  rw [hX] at hx H0
  rw [hT] at H0 ⊢
  clear hX hT hn
  have hb' : (b : Int) < 256 := by omega
  clear hb
  go_enter Try.func90, Try.ntmps90
  go_wp2
  go_loop [0, 10] (fun a i => ∃ N k : Nat, a = .int .u32 N ∧ i = .int .i64 k ∧ tinv T k N) (fun _ i => 8 - (intOf i).toNat)
  case atStart => exact ⟨X, 0, rfl, rfl, H0⟩
  case round =>
    obtain ⟨N, k, rfl, rfl, hi⟩ := hrel
    clear hx H0
    have h8 := hi.2.2
    by_cases hk : k < 8
    · have ha := and_one32 N hi.1
      rcases Nat.mod_two_eq_zero_or_one N with h1 | h1
      · have hs := xor_step_none N hi.1 h1
        rw [h1] at ha
        have HO : Hid (N % 2 = 0) := h1
        clear h1
        go_wp2
        go_round
        case rel => exact ⟨bt N, k + 1, by first | rfl | simp [hs], by go_num, tinv_step hi hk⟩
        case measure => simp [intOf]; omega
      · have hs := xor_step_one N hi.1 h1
        rw [h1] at ha
        have HO : Hid (N % 2 = 1) := h1
        clear h1
        go_wp2
        go_round
        case rel => exact ⟨bt N, k + 1, by first | rfl | simp [hs], by go_num, tinv_step hi hk⟩
        case measure => simp [intOf]; omega
    · go_wp2
      go_ret
      exact ⟨ret_int (by rw [tinv_end hi hk]), rfl⟩
theorem xor_turn (n : Nat) (h : n < 4294967296) : bits .xor .u32 IntKind.u32.max (n : Int) = ((4294967295 ^^^ n : Nat) : Int) := u32_xor_nat 4294967295 n (by omega) h
theorem sgn32 : ¬ IntKind.u32.signed = true := by decide
theorem take_snoc (s : ByteArray) (k : Nat) (h : k < s.size) : s.data.toList.take (k + 1) = s.data.toList.take k ++ [s[k]] := by
  rw [List.take_succ_eq_append_getElem (by simpa using h)]; rfl
theorem tks_snoc (n : Nat) (s : ByteArray) (k : Nat) (h : k < s.size) : tks n (s.data.toList.take (k + 1)) = tk (tks n (s.data.toList.take k)) s[k].toNat := by
  rw [take_snoc s k h, tks_append]; rfl

set_option maxRecDepth 20000 in
set_option maxHeartbeats 400000 in
theorem More_any (n : Nat) (s : ByteArray) (w : World) (hn : n < 4294967296) (hs : s.size ≤ maxLen) :
    Calls Try.prog 85 #[.int .u32 n, .string s] w fun e w' => e = .returned (.int .u32 (mr n s.data.toList)) ∧ w' = w := by
  unfold maxLen at hs
  have HR : Hid (∀ R : Nat, R = tks (4294967295 ^^^ n) s.data.toList → ((4294967295 ^^^ R : Nat) : Int) = mr n s.data.toList) := by intro R h; rw [h]; rfl
  have hx := xor_turn n hn
  have hN := turn_lt hn
  obtain ⟨N, hN'⟩ : ∃ N, 4294967295 ^^^ n = N := ⟨_, rfl⟩
  obtain ⟨M, hM⟩ : ∃ M, mr n s.data.toList = M := ⟨_, rfl⟩
  rw [hN'] at hx hN HR
  rw [hM] at HR ⊢
  clear hN' hM hn
  have HN : Hid (N < 4294967296) := hN
  clear hN
  have hsg := sgn32
  go_enter Try.func85, Try.ntmps85
  go_wp2
  go_loop [0, 10] (fun a i => ∃ k : Nat, a = .int .u32 (tks N (s.data.toList.take k)) ∧ i = .int .i64 k ∧ k ≤ s.size) (fun _ i => s.size - (intOf i).toNat)
  case atStart => exact ⟨0, rfl, rfl, by omega⟩
  case round =>
    obtain ⟨k, rfl, rfl, hk⟩ := hrel
    clear hx
    have HT : Hid (tks N (s.data.toList.take k) < 4294967296) := tks_lt _ HN.out
    by_cases hlt : k < s.size
    · have HS : Hid (tks N (s.data.toList.take (k + 1)) = tk (tks N (s.data.toList.take k)) s[k].toNat) := tks_snoc N s k hlt
      go_wp2_with fail
      refine (take_any _ _ _ HT.out (by have := s[k].toNat_lt; simpa using this)).mono ?_
      rintro e w' ⟨rfl, hw⟩; subst w'
      go_wp2_with fail
      go_round
      case rel => exact ⟨k + 1, by rw [HS.out], by go_num, by omega⟩
      case measure => simp [intOf]; omega
    · have hy := xor_turn _ HT.out
      rw [HR.out _ (by rw [List.take_of_length_le (by simp; omega)])] at hy
      go_wp2
      go_ret
      exact ⟨rfl, rfl⟩
set_option maxRecDepth 20000 in
set_option maxHeartbeats 400000 in
theorem Of_any (s : ByteArray) (w : World) (hs : s.size ≤ maxLen) :
    Calls Try.prog 72 #[.string s] w fun e w' => e = .returned (.int .u32 (mr 0 s.data.toList)) ∧ w' = w := by
  go_enter Try.func72, Try.ntmps72
  go_wp2_with fail
  refine (More_any 0 s _ (by omega) hs).mono ?_
  rintro e w' ⟨rfl, hw⟩; subst w'
  go_wp2_with fail
  go_ret
  exact ⟨rfl, rfl⟩
theorem conv4 (M : Nat) (w : World) : (convert 65 9 (.slice (some ⟨w.heap.size, 0, none⟩) 4 4)).run Try.prog (w.alloc (.cells #[.int .u8 ((M : Int) % 256), .int .u8 ((M : Int) / 256 % 256), .int .u8 ((M : Int) / 65536 % 256), .int .u8 ((M : Int) / 16777216 % 256)] 5))
    = .ok (.string ⟨(le4 M).toArray⟩) (w.alloc (.cells #[.int .u8 ((M : Int) % 256), .int .u8 ((M : Int) / 256 % 256), .int .u8 ((M : Int) / 65536 % 256), .int .u8 ((M : Int) / 16777216 % 256)] 5)) := by
  refine run_convert_bytes_back _ 65 9 5 ⟨w.heap.size, 0, none⟩ 4 (le4 M) Try.underlying65 Try.underlying5 Try.underlying9 ?_
  intro j hj
  have hadd : (⟨w.heap.size, 0, none⟩ : Addr).add j = ⟨w.heap.size, j, none⟩ := by unfold Addr.add; split <;> simp_all
  rw [hadd, World.cell?_alloc_mark]
  simp only [length_le4] at hj
  match j, hj with
  | 0, _ => simp [le4]
  | 1, _ => simp [le4]
  | 2, _ => simp [le4]
  | 3, _ => simp [le4]

/-- The sum behind a text, and the text with it. -/
def tl (s : ByteArray) : ByteArray := ⟨(le4 (mr 0 s.data.toList)).toArray⟩
def sl (s : ByteArray) : ByteArray := s ++ tl s
theorem tl_size (s : ByteArray) : (tl s).size = 4 := rfl
set_option maxRecDepth 20000 in
set_option maxHeartbeats 400000 in
theorem seal_any (s : ByteArray) (w : World) (hs : s.size ≤ maxLen) :
    Calls Try.prog 57 #[.string s] w fun e w' => e = .returned (.string (tl s)) ∧ Below w.heap.size w w' := by
  unfold tl
  go_enter Try.func57, Try.ntmps57
  go_wp2_with fail
  refine (Of_any s _ hs).mono ?_
  rintro e w' ⟨rfl, hw⟩; subst w'
  obtain ⟨M, hM⟩ : ∃ M, mr 0 s.data.toList = M := ⟨_, rfl⟩
  have hcv := conv4 M w
  rw [hM]
  go_wp2_with fail
  go_ret
  exact ⟨by rw [hM]; rfl, (Below.refl _ _).alloc (Nat.le_refl _) _⟩

set_option maxRecDepth 20000 in
set_option maxHeartbeats 400000 in
theorem Seal_any (s : ByteArray) (w : World) (hs : s.size + 4 ≤ maxLen) :
    Calls Try.prog 36 #[.string s] w fun e w' => e = .returned (.string (sl s)) ∧ Below w.heap.size w w' := by
  have h4 := tl_size s
  unfold sl
  go_enter Try.func36, Try.ntmps36
  go_wp2_with fail
  refine (seal_any s _ (by omega)).mono ?_
  rintro e w' ⟨rfl, hw⟩
  obtain ⟨t, ht⟩ : ∃ t : ByteArray, tl s = t := ⟨_, rfl⟩
  rw [ht] at h4 ⊢
  have HT : Hid (tl s = t) := ht
  clear ht
  unfold maxLen at hs
  go_wp2_with fail
  go_ret
  exact ⟨ret_str (by rw [HT.out]), hw⟩

set_option maxRecDepth 20000 in
set_option maxHeartbeats 400000 in
theorem Open_short (s : ByteArray) (w : World) (hs : s.size < 4) :
    Calls Try.prog 40 #[.string s] w fun e w' => e = .returned (.tuple #[.string ⟨#[]⟩, .int .i64 3]) ∧ Below w.heap.size w w' := by
  go_enter Try.func40, Try.ntmps40
  go_wp2_with fail
  go_ret2
  exact ⟨rfl, Below.refl _ _⟩

/-- A sealed text's two parts. -/
def body (s : ByteArray) : ByteArray := s.extract 0 (s.size - 4)
def foot (s : ByteArray) : ByteArray := s.extract (s.size - 4) s.size
theorem body_le (s : ByteArray) : (body s).size ≤ s.size := by unfold body; simp
theorem below_of_drewN {w : World} {n : Nat} {w' : World} (h : Below (w.drewN n).heap.size (w.drewN n) w') : Below w.heap.size w w' := ⟨h.os, h.tape, h.output, h.size, h.block⟩

set_option maxRecDepth 20000 in
set_option maxHeartbeats 400000 in
theorem Open_yes (s : ByteArray) (w : World) (hs : s.size ≤ maxLen) (h4 : 4 ≤ s.size) (he : tl (body s) = foot s) :
    Calls Try.prog 40 #[.string s] w fun e w' => e = .returned (.tuple #[.string (body s), .int .i64 0]) ∧ Below w.heap.size w w' := by
  have HE : Hid (tl (body s) = foot s) := he
  have HB : Hid ((body s).size ≤ maxLen) := Nat.le_trans (body_le s) hs
  clear he
  unfold maxLen at hs
  go_enter Try.func40, Try.ntmps40
  go_wp2_with fail
  go_quiet (fail)
  obtain ⟨b, hb⟩ : ∃ b, s.extract 0 (s.size - 4) = b := ⟨_, rfl⟩
  obtain ⟨f, hf⟩ : ∃ f, s.extract (s.size - 4) s.size = f := ⟨_, rfl⟩
  rw [hb, hf]
  have hb' : body s = b := hb
  have hf' : foot s = f := hf
  rw [hb', hf'] at HE
  rw [hb'] at HB
  clear hb hf
  go_wp2_with fail
  refine (seal_any b _ HB.out).mono ?_
  rintro e w' ⟨rfl, hw⟩
  rw [HE.out]
  go_wp2_with fail
  go_ret2
  exact ⟨by rw [hb']; rfl, below_of_drewN hw⟩

set_option maxRecDepth 20000 in
set_option maxHeartbeats 400000 in
theorem Open_no (s : ByteArray) (w : World) (hs : s.size ≤ maxLen) (h4 : 4 ≤ s.size) (he : ¬ tl (body s) = foot s) :
    Calls Try.prog 40 #[.string s] w fun e w' => e = .returned (.tuple #[.string ⟨#[]⟩, .int .i64 5]) ∧ Below w.heap.size w w' := by
  have HE : Hid (¬ tl (body s) = foot s) := he
  have HB : Hid ((body s).size ≤ maxLen) := Nat.le_trans (body_le s) hs
  clear he
  unfold maxLen at hs
  go_enter Try.func40, Try.ntmps40
  go_wp2_with fail
  go_quiet (fail)
  obtain ⟨b, hb⟩ : ∃ b, s.extract 0 (s.size - 4) = b := ⟨_, rfl⟩
  obtain ⟨f, hf⟩ : ∃ f, s.extract (s.size - 4) s.size = f := ⟨_, rfl⟩
  rw [hb, hf]
  have hb' : body s = b := hb
  have hf' : foot s = f := hf
  rw [hb', hf'] at HE
  rw [hb'] at HB
  clear hb hf
  go_wp2_with fail
  refine (seal_any b _ HB.out).mono ?_
  rintro e w' ⟨rfl, hw⟩
  obtain ⟨t, ht⟩ : ∃ t : ByteArray, tl b = t := ⟨_, rfl⟩
  rw [ht] at HE ⊢
  have hne := str_ne HE.out
  clear ht
  go_wp2_with fail
  go_ret2
  exact ⟨rfl, below_of_drewN hw⟩

end Go.Proofs.Ytgebfpncapfaoaa.cr
