/- What the document's own functions return: one contract a function. -/
import Derived.Test.YtgebfpncapfaoaaJCon
import Derived.Test.YtgebfpncapfaoaaJMem
namespace Go.Proofs.Ytgebfpncapfaoaa.cr
open Go.RowKit
set_option linter.unusedVariables false

/-- What a round of the document's way to take a byte keeps. -/
def rinv (X k N B : Nat) : Prop := N < 4294967296 ∧ B < 2 ^ (8 - k) ∧ bts (8 - k) (N ^^^ B) = X ∧ k ≤ 8
theorem rinv_start {n b : Nat} (hn : n < 4294967296) (hb : b < 256) : rinv (tk n b) 0 n b := ⟨hn, hb, rfl, by omega⟩
theorem rinv_b {X k N B : Nat} (h : rinv X k N B) : B < 256 :=
  Nat.lt_of_lt_of_le h.2.1 (by have : 2 ^ (8 - k) ≤ 2 ^ 8 := Nat.pow_le_pow_right (by omega) (by omega); simpa using this)
theorem rinv_half {k B : Nat} (h : B < 2 ^ (8 - k)) (hk : k < 8) : B / 2 < 2 ^ (8 - (k + 1)) := by
  rw [show 8 - k = (8 - (k + 1)) + 1 by omega, Nat.pow_succ] at h; omega
theorem rinv_one {X k N B : Nat} (h : rinv X k N B) (hk : k < 8) (hne : N % 2 ≠ B % 2) : rinv X (k + 1) (N / 2 ^^^ 3988292384) (B / 2) :=
  ⟨by have h1 := h.1; have : N / 2 ^^^ 3988292384 < 2 ^ 32 := Nat.xor_lt_two_pow (by omega) (by omega)
      simpa using this, rinv_half h.2.1 hk, by have := h.2.2.1; rw [show 8 - k = (8 - (k + 1)) + 1 by omega] at this; simp only [bts] at this; rw [bt_beside_one _ _ hne] at this; exact this, by omega⟩
theorem rinv_none {X k N B : Nat} (h : rinv X k N B) (hk : k < 8) (he : N % 2 = B % 2) : rinv X (k + 1) (N / 2) (B / 2) :=
  ⟨by have h1 := h.1; omega, rinv_half h.2.1 hk, by have := h.2.2.1; rw [show 8 - k = (8 - (k + 1)) + 1 by omega] at this; simp only [bts] at this; rw [bt_beside_none _ _ he] at this; exact this, by omega⟩
theorem rinv_end {X k N B : Nat} (h : rinv X k N B) (hk : ¬ k < 8) : N = X := by
  have h1 := h.2.1; have h2 := h.2.2.1
  rw [show 8 - k = 0 by omega] at h1 h2
  have h3 : B = 0 := by simpa using h1
  rw [h3, Nat.xor_zero] at h2; exact h2
theorem xor_const (N : Nat) (h : N < 4294967296) : bits .xor .u32 ((N : Int) / 2) 3988292384 = ((N / 2 ^^^ 3988292384 : Nat) : Int) := by
  have := u32_xor_nat (N / 2) 3988292384 (by omega) (by omega)
  simpa using this

set_option maxRecDepth 20000 in
set_option maxHeartbeats 400000 in
theorem CrcByte_any (n b : Nat) (w : World) (hn : n < 4294967296) (hb : b < 256) :
    Calls Try.prog 73 #[.int .u32 n, .int .u8 b] w fun e w' => e = .returned (.int .u32 (tk n b)) ∧ w' = w := by
  have H0 := rinv_start hn hb
  obtain ⟨T, hT⟩ : ∃ T, tk n b = T := ⟨_, rfl⟩
  rw [hT] at H0 ⊢
  clear hT hn hb
  go_enter Try.func73, Try.ntmps73
  go_wp2
  go_loop [0, 1, 6] (fun a c i => ∃ N B k : Nat, a = .int .u32 N ∧ c = .int .u8 B ∧ i = .int .i64 k ∧ rinv T k N B) (fun _ _ i => 8 - (intOf i).toNat)
  case atStart => exact ⟨n, b, 0, rfl, rfl, rfl, H0⟩
  case round =>
    obtain ⟨N, B, k, rfl, rfl, rfl, hi⟩ := hrel
    clear H0
    have h8 := hi.2.2.2
    by_cases hk : k < 8
    · have hx := xor_const N hi.1
      have hone : N % 2 ≠ B % 2 → rinv T (k + 1) (N / 2 ^^^ 3988292384) (B / 2) := rinv_one hi hk
      obtain ⟨Y, hY⟩ : ∃ Y, N / 2 ^^^ 3988292384 = Y := ⟨_, rfl⟩
      rw [hY] at hx hone
      clear hY
      have hb2 : (B : Int) < 256 := by have := rinv_b hi; omega
      have hn2 : Hid ((N : Int) / 2 % 4294967296 = (N : Int) / 2) := by have := hi.1; show _ = _; omega
      rw [← hn2.out] at hx
      rcases Nat.mod_two_eq_zero_or_one N with h1 | h1 <;> rcases Nat.mod_two_eq_zero_or_one B with h2 | h2
      · have HR : Hid (rinv T (k + 1) (N / 2) (B / 2)) := rinv_none hi hk (by rw [h1, h2])
        have h1' : (N : Int) % 2 = 0 := by omega
        have h2' : (B : Int) % 2 = 0 := by omega
        clear h1 h2 hi hone
        go_wp2
        go_round
        case rel => exact ⟨N / 2, B / 2, k + 1, val_int (by have := hn2.out; omega), by go_num, by go_num, HR.out⟩
        case measure => simp [intOf]; omega
      · have HR : Hid (rinv T (k + 1) Y (B / 2)) := hone (by rw [h1, h2]; decide)
        have h1' : (N : Int) % 2 = 0 := by omega
        have h2' : (B : Int) % 2 = 1 := by omega
        clear h1 h2 hi hone
        go_wp2
        go_round
        case rel => exact ⟨Y, B / 2, k + 1, rfl, by go_num, by go_num, HR.out⟩
        case measure => simp [intOf]; omega
      · have HR : Hid (rinv T (k + 1) Y (B / 2)) := hone (by rw [h1, h2]; decide)
        have h1' : (N : Int) % 2 = 1 := by omega
        have h2' : (B : Int) % 2 = 0 := by omega
        clear h1 h2 hi hone
        go_wp2
        go_round
        case rel => exact ⟨Y, B / 2, k + 1, rfl, by go_num, by go_num, HR.out⟩
        case measure => simp [intOf]; omega
      · have HR : Hid (rinv T (k + 1) (N / 2) (B / 2)) := rinv_none hi hk (by rw [h1, h2])
        have h1' : (N : Int) % 2 = 1 := by omega
        have h2' : (B : Int) % 2 = 1 := by omega
        clear h1 h2 hi hone
        go_wp2
        go_round
        case rel => exact ⟨N / 2, B / 2, k + 1, val_int (by have := hn2.out; omega), by go_num, by go_num, HR.out⟩
        case measure => simp [intOf]; omega
    · go_wp2
      go_ret
      exact ⟨ret_int (by rw [rinv_end hi hk]), rfl⟩

set_option maxRecDepth 20000 in
set_option maxHeartbeats 400000 in
theorem CrcMore_any (n : Nat) (s : ByteArray) (w : World) (hn : n < 4294967296) (hs : s.size ≤ maxLen) :
    Calls Try.prog 59 #[.int .u32 n, .string s] w fun e w' => e = .returned (.int .u32 (mr n s.data.toList)) ∧ Below w.heap.size w w' := by
  unfold maxLen at hs
  have HR : Hid (∀ R : Nat, R = tks (4294967295 ^^^ n) s.data.toList → ((4294967295 ^^^ R : Nat) : Int) = mr n s.data.toList) := by intro R h; rw [h]; rfl
  have hN := turn_lt hn
  have hx := turn_eq hn
  obtain ⟨N, hN'⟩ : ∃ N, 4294967295 ^^^ n = N := ⟨_, rfl⟩
  obtain ⟨M, hM⟩ : ∃ M, mr n s.data.toList = M := ⟨_, rfl⟩
  rw [hN'] at hx hN HR
  rw [hM] at HR ⊢
  clear hN' hM
  have HN : Hid (N < 4294967296) := hN
  have HX : Hid ((N : Int) = 4294967295 - (n : Int)) := by show (N : Int) = _; omega
  clear hN hx
  have hn' : (n : Int) < 4294967296 := by omega
  clear hn
  have hcv := run_bytes_of_string (P := Try.prog) w 9 65 5 s Try.underlying9 Try.underlying65 Try.underlying5
  go_enter Try.func59, Try.ntmps59
  go_wp2
  clear hcv
  obtain ⟨W1, hW1⟩ : ∃ W1 : World, (w.alloc (.cells (bytesRow s (grownCap w s.size 0 5)) 5 ((bytesRow s (grownCap w s.size 0 5)).size, (bytesRow s (grownCap w s.size 0 5)).size + 1))).drew = W1 := ⟨_, rfl⟩
  have hcell : ∀ k (h : k < s.size), W1.cell? ⟨w.heap.size, k, none⟩ = some (.int .u8 (s[k].toNat : Int)) := by
    intro k h
    rw [← hW1]
    have := World.cell?_alloc_mark w (bytesRow s (grownCap w s.size 0 5)) 5 ((bytesRow s (grownCap w s.size 0 5)).size, (bytesRow s (grownCap w s.size 0 5)).size + 1) k
    exact this.trans (bytesRow_at s _ k h)
  have hBel : Hid (Below w.heap.size w W1) := by rw [← hW1]; exact ((Below.refl _ _).alloc (Nat.le_refl _) _).drew
  rw [hW1]
  generalize grownCap w s.size 0 5 = cap at *
  clear hW1
  rw [← HX.out]
  go_loop [0, 12] (fun a i => ∃ k : Nat, a = .int .u32 (tks N (s.data.toList.take k)) ∧ i = .int .i64 k ∧ k ≤ s.size) (fun _ i => s.size - (intOf i).toNat)
  case atStart => exact ⟨0, rfl, rfl, by omega⟩
  case round =>
    obtain ⟨k, rfl, rfl, hk⟩ := hrel
    have HT : Hid (tks N (s.data.toList.take k) < 4294967296) := tks_lt _ HN.out
    by_cases hlt : k < s.size
    · have HS : Hid (tks N (s.data.toList.take (k + 1)) = tk (tks N (s.data.toList.take k)) s[k].toNat) := tks_snoc N s k hlt
      have hc := hcell k hlt
      clear hcell
      go_wp2_with fail
      refine (CrcByte_any _ _ _ HT.out (by have := s[k].toNat_lt; simpa using this)).mono ?_
      rintro e w' ⟨rfl, hw⟩; subst w'
      go_wp2_with fail
      go_round
      case rel => exact ⟨k + 1, by rw [HS.out], by go_num, by omega⟩
      case measure => simp [intOf]; omega
    · have hR := HR.out (tks N (s.data.toList.take k)) (by rw [List.take_of_length_le (by simp; omega)])
      have hq := turn_eq HT.out
      obtain ⟨R, hR'⟩ : ∃ R, tks N (s.data.toList.take k) = R := ⟨_, rfl⟩
      rw [hR'] at hR hq HT ⊢
      rw [hq] at hR
      have hRl : (R : Int) < 4294967296 := by have := HT.out; omega
      have HF : Hid (4294967295 - (R : Int) = M) := by show _ = _; omega
      clear hR hq hR' hcell
      go_wp2
      go_ret
      exact ⟨ret_int HF.out, hBel.out⟩

theorem info5 : (Try.prog.info? 5).map (fun i => (i.zero, i.size, i.bytes)) = some (some (.int .u8 0), 1, 1) := by kernel_rfl
theorem make4 (w : World) : (Instr.makeSlice 65 (.int .i64 4) (.int .i64 4)).run Try.prog w = .ok (.slice (some ⟨w.heap.size, 0, none⟩) 4 4) (w.alloc (.cells (madeCells #[.int .u8 0] 4) 5)) :=
  run_make_row' (P := Try.prog) 65 5 (.int .u8 0) 1 Try.underlying65 info5 rfl .i64 .i64 4 (by decide) (by decide) w

def binv (B : Nat) (w : World) (l : List UInt8) (k : Nat) (wr : World) : Prop := Below B w wr ∧ B < wr.heap.size ∧ brow wr B (filled l k)
theorem binv_next {w wr : World} {l : List UInt8} {k : Nat} (h : binv w.heap.size w l k wr) (hk : k < l.length) : binv w.heap.size w l (k + 1) (wr.setCell ⟨w.heap.size, k, none⟩ (.int .u8 (l[k].toNat : Int))) :=
  ⟨h.1.setCell (Nat.le_refl _) _, by simpa using h.2.1, by rw [← filled_next l k hk]; exact brow_set h.2.2 k (by rw [filled_length _ _ (by omega)]; exact hk) _⟩

set_option maxRecDepth 20000 in
set_option maxHeartbeats 400000 in
theorem Bytes_any (L : Nat → Int) (l : List UInt8) (bl : Nat) (w : World) (hl : l.length = 4) (hb : bl < w.heap.size) (hc : ∀ j, j < 4 → w.cell? ⟨bl, j, none⟩ = some (.int .i64 (L j))) (he : ∀ j (h : j < l.length), (l[j].toNat : Int) = L j % 256) :
    Calls Try.prog 58 #[.slice (some ⟨bl, 0, none⟩) 4 4] w fun e w' => e = .returned (.string ⟨l.toArray⟩) ∧ Below w.heap.size w w' := by
  have hmk := make4
  have HL : Hid (l.length = 4) := hl
  go_enter Try.func58, Try.ntmps58
  go_wp2_with fail
  clear hmk
  obtain ⟨w1, hw1⟩ : ∃ w1 : World, w.alloc (.cells (madeCells #[.int .u8 0] 4) 5) = w1 := ⟨_, rfl⟩
  have H1 : Hid (binv w.heap.size w l 0 w1) := by
    rw [← hw1]; exact ⟨(Below.refl _ _).alloc (Nat.le_refl _) _, by simp, by rw [filled_zero, hl]; exact brow_made w 4 5⟩
  rw [hw1]
  clear hw1 hl
  go_loopw [11] (fun i wr => ∃ k : Nat, k ≤ 4 ∧ i = .int .i64 k ∧ binv w.heap.size w l k wr) (fun i _ => 4 - (intOf i).toNat)
  case atStart => exact ⟨0, by omega, rfl, H1.out⟩
  case round =>
    obtain ⟨k, hk, rfl, R⟩ := hrel
    have RR : Hid (binv w.heap.size w l k wr) := R
    have hL := HL.out
    by_cases hlt : k < 4
    · have hs := (R.1.cell (p := ⟨bl, k, none⟩) hb).trans (hc k hlt)
      obtain ⟨v0, hd⟩ : ∃ v0, wr.cell? ⟨w.heap.size, k, none⟩ = some v0 := ⟨_, brow_cell R.2.2 k (by rw [filled_length _ _ (by omega)]; omega)⟩
      have hf := brow_free R.2.2 k (by rw [filled_length _ _ (by omega)]; omega)
      have HN : Hid (binv w.heap.size w l (k + 1) (wr.setCell ⟨w.heap.size, k, none⟩ (.int .u8 (L k % 256)))) := by
        have := binv_next R (by omega)
        rw [he k (by omega)] at this; exact this
      clear he hc R hL
      go_wp2_with fail
      go_roundw
      case rel => exact ⟨k + 1, by omega, by go_num, HN.out⟩
      case measure => simp [intOf]; omega
    · obtain rfl : k = 4 := by omega
      have hr : brow wr w.heap.size l := by have := R.2.2; rw [← hL, filled_all] at this; exact this
      have hcv := brow_string (P := Try.prog) hr 65 9 5 4 Try.underlying65 Try.underlying5 Try.underlying9
      rw [hL] at hcv
      clear he hc R hr hL
      go_wp2_with fail
      go_ret
      exact ⟨rfl, RR.out.1⟩

def lbytes (M : Nat) (j : Nat) : Int := if j = 0 then (M : Int) % 256 else if j = 1 then (M : Int) / 256 % 256 else if j = 2 then (M : Int) / 65536 % 256 else (M : Int) / 16777216
theorem lbytes_at (M : Nat) (w : World) : ∀ j, j < 4 → (w.alloc (.cells #[.int .i64 ((M : Int) % 256), .int .i64 ((M : Int) / 256 % 256), .int .i64 ((M : Int) / 65536 % 256), .int .i64 ((M : Int) / 16777216)] 3)).cell? ⟨w.heap.size, j, none⟩ = some (.int .i64 (lbytes M j)) := by
  intro j hj
  rw [World.cell?_alloc_mark]
  match j, hj with
  | 0, _ => rfl
  | 1, _ => rfl
  | 2, _ => rfl
  | 3, _ => rfl
theorem lbytes_le4 (M : Nat) (hM : M < 4294967296) : ∀ j (h : j < (le4 M).length), ((le4 M)[j].toNat : Int) = lbytes M j % 256 := by
  intro j h
  rw [length_le4] at h
  match j, h with
  | 0, _ => simp [le4, lbytes]
  | 1, _ => simp [le4, lbytes]
  | 2, _ => simp [le4, lbytes]
  | 3, _ => simp [le4, lbytes]

set_option maxRecDepth 20000 in
set_option maxHeartbeats 400000 in
theorem Sealed_any (s : ByteArray) (w : World) (hs : s.size + 4 ≤ maxLen) :
    Calls Try.prog 39 #[.string s] w fun e w' => e = .returned (.string (sl s)) ∧ Below w.heap.size w w' := by
  have hm := mr_lt s.data.toList (n := 0) (by omega)
  go_enter Try.func39, Try.ntmps39
  go_wp2_with fail
  refine (CrcMore_any 0 s _ (by omega) (by omega)).mono ?_
  rintro e w' ⟨rfl, hw⟩
  obtain ⟨M, hM⟩ : ∃ M, mr 0 s.data.toList = M := ⟨_, rfl⟩
  rw [hM] at hm ⊢
  have HM : Hid (mr 0 s.data.toList = M) := hM
  have HM' : Hid (M < 4294967296) := hm
  have hm' : (M : Int) < 4294967296 := by omega
  clear hM hm
  unfold maxLen at hs
  go_wp2_with fail
  refine (Bytes_any (lbytes M) (le4 M) w'.heap.size _ (length_le4 M) (by simp) (lbytes_at M w') (lbytes_le4 M HM'.out)).mono ?_
  rintro e w2 ⟨rfl, hw2⟩
  obtain ⟨t, ht⟩ : ∃ t : ByteArray, (⟨(le4 M).toArray⟩ : ByteArray) = t := ⟨_, rfl⟩
  have h4 : t.size = 4 := by rw [← ht]; rfl
  rw [ht]
  have HT : Hid (sl s = s ++ t) := by show sl s = s ++ t; unfold sl tl; rw [HM.out, ht]
  clear ht
  go_wp2_with fail
  go_ret
  refine ⟨ret_str (by rw [HT.out]), ?_⟩
  exact (hw.alloc hw.size _).trans (hw2.mono (by have := hw.size; simp; omega))

set_option maxRecDepth 20000 in
set_option maxHeartbeats 400000 in
theorem Opened_short (s : ByteArray) (w : World) (hs : s.size < 4) :
    Calls Try.prog 42 #[.string s] w fun e w' => e = .returned (.tuple #[.string ⟨#[]⟩, .int .i64 3]) ∧ Below w.heap.size w w' := by
  go_enter Try.func42, Try.ntmps42
  go_wp2_with fail
  go_ret2
  exact ⟨rfl, Below.refl _ _⟩
theorem sl_eq {s : ByteArray} (h4 : 4 ≤ s.size) : sl (body s) = s ↔ tl (body s) = foot s := by
  have hs : body s ++ foot s = s := by
    unfold body foot
    apply str_eq
    simp
  constructor
  · intro h
    apply str_eq
    have h' : (body s ++ tl (body s)).data.toList = (body s ++ foot s).data.toList := by
      rw [hs]; show (sl (body s)).data.toList = _; rw [h]
    simpa using h'
  · intro h
    unfold sl; rw [h]; exact hs

set_option maxRecDepth 20000 in
set_option maxHeartbeats 400000 in
theorem Opened_yes (s : ByteArray) (w : World) (hs : s.size ≤ maxLen) (h4 : 4 ≤ s.size) (he : tl (body s) = foot s) :
    Calls Try.prog 42 #[.string s] w fun e w' => e = .returned (.tuple #[.string (body s), .int .i64 0]) ∧ Below w.heap.size w w' := by
  have HE : Hid (sl (body s) = s) := (sl_eq h4).2 he
  have HB : Hid ((body s).size + 4 ≤ maxLen) := by show _ ≤ _; unfold body; simp; omega
  clear he
  unfold maxLen at hs
  go_enter Try.func42, Try.ntmps42
  go_wp2_with fail
  refine (Sealed_any _ _ HB.out).mono ?_
  rintro e w' ⟨rfl, hw⟩
  rw [HE.out]
  go_wp2_with fail
  go_ret2
  exact ⟨rfl, hw⟩
set_option maxRecDepth 20000 in
set_option maxHeartbeats 400000 in
theorem Opened_no (s : ByteArray) (w : World) (hs : s.size ≤ maxLen) (h4 : 4 ≤ s.size) (he : ¬ tl (body s) = foot s) :
    Calls Try.prog 42 #[.string s] w fun e w' => e = .returned (.tuple #[.string ⟨#[]⟩, .int .i64 5]) ∧ Below w.heap.size w w' := by
  have HE : Hid (¬ sl (body s) = s) := fun h => he ((sl_eq h4).1 h)
  have HB : Hid ((body s).size + 4 ≤ maxLen) := by show _ ≤ _; unfold body; simp; omega
  clear he
  unfold maxLen at hs
  go_enter Try.func42, Try.ntmps42
  go_wp2_with fail
  refine (Sealed_any _ _ HB.out).mono ?_
  rintro e w' ⟨rfl, hw⟩
  obtain ⟨t, ht⟩ : ∃ t : ByteArray, sl (body s) = t := ⟨_, rfl⟩
  have hne : (t.toList == s.toList) = false := by rw [← ht]; exact str_ne HE.out
  rw [ht]
  clear ht
  go_wp2_with fail
  go_ret2
  exact ⟨rfl, hw⟩
end Go.Proofs.Ytgebfpncapfaoaa.cr
