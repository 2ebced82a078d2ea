/- What each function of package fix, and of the document's answer to it, returns: one contract a function, for every input that the laws hand it. -/
import Derived.Test.YtkkpfblgackidaaRows
import Derived.Test.YtkkpfblgackidaaMath
import Derived.WalkKit
import Derived.WalkSpells
import Derived.WalkLawsBesides
namespace Go.Proofs.Ytkkpfblgackidaa
open Go.RowKit

theorem w64 (n : Int) (h : -9223372036854775808 ≤ n ∧ n ≤ 9223372036854775807) : wrap64 n = n := by unfold wrap64; omega

theorem ret_int {k : IntKind} {a b : Int} (h : a = b) : Ending.returned (.int k a) = .returned (.int k b) := by rw [h]

set_option maxHeartbeats 400000 in
theorem keep_any (n : Int) (w : World) :
    Calls Try.prog 18 #[.int .i64 n] w fun e w' => e = .returned (.int .i64 (kp n)) ∧ w' = w := by
  go_enter Try.func18, Try.ntmps18
  go_wp2
  all_goals
    go_ret
    exact ⟨ret_int (by unfold kp; omega), rfl⟩

set_option maxHeartbeats 400000 in
theorem kept_any (n : Int) (w : World) :
    Calls Try.prog 20 #[.int .i64 n] w fun e w' => e = .returned (.int .i64 (kp n)) ∧ w' = w := by
  go_enter Try.func20, Try.ntmps20
  go_wp2_with (go_at_call 18; refine (keep_any _ _).mono ?_; rintro e w' ⟨rfl, rfl⟩)
  go_ret
  exact ⟨rfl, rfl⟩

set_option maxHeartbeats 400000 in
theorem Keep_any (n : Int) (w : World) :
    Calls Try.prog 12 #[.int .i64 n] w fun e w' => e = .returned (.int .i64 (kp n)) ∧ w' = w := by
  go_enter Try.func12, Try.ntmps12
  go_wp2_with (go_at_call 18; refine (keep_any _ _).mono ?_; rintro e w' ⟨rfl, rfl⟩)
  go_ret
  exact ⟨rfl, rfl⟩

theorem fd_even {a b : Int} (h1 : -4611686018427387904 ≤ a) (h2 : a ≤ 4611686018427387904) (hb : ¬ b = 0) (h : a.tmod b = 0) : wrap64 (a.tdiv b) = flo a b := by
  have := tdiv_bd (b := b) h1 h2
  rw [w64 _ (by omega)]
  by_cases c : b < 0
  · exact (tdiv_neg' c).1 h
  · exact (tdiv_pos (by omega)).1 h

theorem fd_less {a b : Int} (h1 : -4611686018427387904 ≤ a) (h2 : a ≤ 4611686018427387904) (hb : ¬ b = 0) (h : ¬ a.tmod b = 0) (hs : (a.tmod b != 0) = true ∧ (!decide (a < 0) == decide (b < 0)) = true) :
    wrap64 (wrap64 (a.tdiv b) - 1) = flo a b := by
  have := tdiv_bd (b := b) h1 h2
  rw [w64 (a.tdiv b) (by omega), w64 _ (by omega)]
  have hs2 := hs.2
  by_cases c : b < 0
  · refine (tdiv_neg' c).2.1 h ?_
    by_cases d : a < 0
    · simp [c, d] at hs2
    · by_cases z : a = 0
      · subst z; simp at h
      · omega
  · refine (tdiv_pos (by omega)).2.1 h ?_
    by_cases d : a < 0
    · exact d
    · simp [c, d] at hs2

theorem fd_same {a b : Int} (h1 : -4611686018427387904 ≤ a) (h2 : a ≤ 4611686018427387904) (hb : ¬ b = 0) (h : ¬ a.tmod b = 0) (hs : (a.tmod b != 0) = false ∨ (!decide (a < 0) == decide (b < 0)) = false) :
    wrap64 (a.tdiv b) = flo a b := by
  have := tdiv_bd (b := b) h1 h2
  rw [w64 _ (by omega)]
  have hs2 : (!decide (a < 0) == decide (b < 0)) = false := by
    rcases hs with hs | hs
    · simp at hs; exact absurd hs h
    · exact hs
  by_cases c : b < 0
  · refine (tdiv_neg' c).2.2 ?_
    by_cases d : a < 0
    · omega
    · simp [c, d] at hs2
  · refine (tdiv_pos (by omega)).2.2 ?_
    by_cases d : a < 0
    · simp [c, d] at hs2
    · omega

set_option maxHeartbeats 400000 in
theorem floorDiv_any (a b : Int) (w : World) (ha : -4611686018427387904 ≤ a) (ha2 : a ≤ 4611686018427387904) (hb : ¬ b = 0) :
    Calls Try.prog 19 #[.int .i64 a, .int .i64 b] w fun e w' => e = .returned (.int .i64 (flo a b)) ∧ w' = w := by
  go_enter Try.func19, Try.ntmps19
  go_wp2
  all_goals
    go_ret
    exact ⟨ret_int (by first | exact fd_even ha ha2 hb ‹_› | exact fd_less ha ha2 hb ‹_› ‹_› | exact fd_same ha ha2 hb ‹_› ‹_›), rfl⟩

set_option maxHeartbeats 400000 in
theorem Add_any (a b : Int) (w : World) :
    Calls Try.prog 13 #[.int .i64 a, .int .i64 b] w fun e w' => e = .returned (.int .i64 (kp (kp a + kp b))) ∧ w' = w := by
  have a1 := kp_lo a
  have a2 := kp_hi a
  have b1 := kp_lo b
  have b2 := kp_hi b
  go_enter Try.func13, Try.ntmps13
  go_wp2_with (first | (go_at_call 20; refine (kept_any _ _).mono ?_; rintro e w' ⟨rfl, rfl⟩) | (go_at_call 18; refine (keep_any _ _).mono ?_; rintro e w' ⟨rfl, rfl⟩))
  go_ret
  exact ⟨rfl, rfl⟩

set_option maxHeartbeats 400000 in
theorem Mul_any (a b : Int) (w : World) :
    Calls Try.prog 14 #[.int .i64 a, .int .i64 b] w fun e w' => e = .returned (.int .i64 (kp (flo (kp a * kp b) 65536))) ∧ w' = w := by
  have m := mul_bd (kp_lo a) (kp_hi a) (kp_lo b) (kp_hi b)
  obtain ⟨m1, m2⟩ := m
  go_enter Try.func14, Try.ntmps14
  go_wp2_with (first | (go_at_call 20; refine (kept_any _ _).mono ?_; rintro e w' ⟨rfl, rfl⟩) | (go_at_call 19; refine (floorDiv_any _ _ _ (by omega) (by omega) (by omega)).mono ?_; rintro e w' ⟨rfl, rfl⟩) | (go_at_call 18; refine (keep_any _ _).mono ?_; rintro e w' ⟨rfl, rfl⟩))
  go_ret
  exact ⟨rfl, rfl⟩

set_option maxHeartbeats 400000 in
theorem Div_zero (a : Int) (w : World) :
    Calls Try.prog 10 #[.int .i64 a, .int .i64 0] w fun e w' => e = .returned (.tuple #[.int .i64 0, .int .i64 1]) ∧ w' = w := by
  go_enter Try.func10, Try.ntmps10
  go_wp2
  go_ret2
  exact ⟨rfl, rfl⟩

set_option maxHeartbeats 400000 in
theorem Div_any (a b : Int) (w : World) (hb : ¬ b = 0) :
    Calls Try.prog 10 #[.int .i64 a, .int .i64 b] w fun e w' => e = .returned (.tuple #[.int .i64 (kp (flo (kp a * 65536) (kp b))), .int .i64 0]) ∧ w' = w := by
  have a1 := kp_lo a
  have a2 := kp_hi a
  have b0 : ¬ kp b = 0 := fun h => hb ((kp_zero b).1 h)
  go_enter Try.func10, Try.ntmps10
  go_wp2_with (first | (go_at_call 20; refine (kept_any _ _).mono ?_; rintro e w' ⟨rfl, rfl⟩) | (go_at_call 19; refine (floorDiv_any _ _ _ (by omega) (by omega) b0).mono ?_; rintro e w' ⟨rfl, rfl⟩) | (go_at_call 18; refine (keep_any _ _).mono ?_; rintro e w' ⟨rfl, rfl⟩))
  go_ret2
  exact ⟨rfl, rfl⟩

theorem or_i64 {a b : Nat} (ha : a < 4294967296) (hb : b < 4294967296) : bits .or .i64 (a : Int) (b : Int) = ((a ||| b : Nat) : Int) := by
  have hx : a ||| b < 2 ^ 32 := Nat.or_lt_two_pow (by omega) (by omega)
  have h1 : (BitVec.ofInt 64 (a : Int)).toNat = a := by
    rw [BitVec.ofInt_natCast, BitVec.toNat_ofNat]; exact Nat.mod_eq_of_lt (by omega)
  have h2 : (BitVec.ofInt 64 (b : Int)).toNat = b := by
    rw [BitVec.ofInt_natCast, BitVec.toNat_ofNat]; exact Nat.mod_eq_of_lt (by omega)
  show IntKind.i64.wrap ((BitVec.ofInt 64 (a : Int) ||| BitVec.ofInt 64 (b : Int)).toNat : Int) = _
  rw [BitVec.toNat_or, h1, h2]
  simp [IntKind.wrap, IntKind.bits, IntKind.signed]
  omega

set_option maxHeartbeats 400000 in
theorem floorRoot_any (n : Int) (w : World) (h0 : 0 ≤ n) (h1 : n ≤ 140737488289792) :
    Calls Try.prog 21 #[.int .i64 n] w fun e w' => e = .returned (.int .i64 (rt n)) ∧ w' = w := by
  have hs := rinv_start h0 h1
  go_enter Try.func21, Try.ntmps21
  go_wp2
  go_loop [3, 4] (fun r b => ∃ R B : Nat, r = .int .i64 R ∧ b = .int .i64 B ∧ rinv n R B) (fun _ b => (intOf b).toNat)
  case atStart => exact ⟨0, 8388608, rfl, rfl, hs⟩
  case round =>
    obtain ⟨R, B, rfl, rfl, hi⟩ := hrel
    clear hs
    by_cases hB : 0 < B
    · have hbd := rinv_bd h1 hi hB
      obtain ⟨b1, b2⟩ := hbd
      have hor : bits .or .i64 (R : Int) (B : Int) = (R : Int) + B := by
        rw [or_i64 (by omega) (by omega), rinv_or hi hB, Int.natCast_add]
      have sq := mul_bd (a := (R : Int) + B) (b := (R : Int) + B) (by omega) (by omega) (by omega) (by omega)
      obtain ⟨s1, s2⟩ := sq
      go_wp2
      · go_round
        case rel => exact ⟨R + B, B / 2, by go_num, by go_num, rinv_yes hi hB ‹_›⟩
        case measure => simp [intOf]; omega
      · go_round
        case rel => exact ⟨R, B / 2, rfl, by go_num, rinv_no hi hB ‹_›⟩
        case measure => simp [intOf]; omega
    · go_wp2
      go_ret
      exact ⟨ret_int (rinv_end h1 hi hB).symm, rfl⟩

set_option maxHeartbeats 400000 in
theorem Root_neg (a : Int) (w : World) (h : a < 0) :
    Calls Try.prog 11 #[.int .i64 a] w fun e w' => e = .returned (.tuple #[.int .i64 0, .int .i64 1]) ∧ w' = w := by
  go_enter Try.func11, Try.ntmps11
  go_wp2
  go_ret2
  exact ⟨rfl, rfl⟩

set_option maxHeartbeats 400000 in
theorem Root_any (a : Int) (w : World) (h : 0 ≤ a) :
    Calls Try.prog 11 #[.int .i64 a] w fun e w' => e = .returned (.tuple #[.int .i64 (rt (kp a * 65536)), .int .i64 0]) ∧ w' = w := by
  have a1 : 0 ≤ kp a := by unfold kp; omega
  have a2 := kp_hi a
  go_enter Try.func11, Try.ntmps11
  go_wp2_with (first | (go_at_call 20; refine (kept_any _ _).mono ?_; rintro e w' ⟨rfl, rfl⟩) | (go_at_call 21; refine (floorRoot_any _ _ (by omega) (by omega)).mono ?_; rintro e w' ⟨rfl, rfl⟩))
  go_ret2
  exact ⟨rfl, rfl⟩

set_option maxHeartbeats 400000 in
theorem Kept_any (n : Int) (w : World) :
    Calls Try.prog 9 #[.int .i64 n] w fun e w' => e = .returned (.int .i64 (kp n)) ∧ w' = w := by
  go_enter Try.func9, Try.ntmps9
  go_wp2
  all_goals
    go_ret
    exact ⟨ret_int (by unfold kp; omega), rfl⟩

set_option maxHeartbeats 400000 in
theorem RootOf_any (n : Int) (w : World) (h0 : 0 ≤ n) (h1 : n ≤ 140737488289792) :
    Calls Try.prog 16 #[.int .i64 n] w fun e w' => e = .returned (.int .i64 (rt n)) ∧ w' = w := by
  go_enter Try.func16, Try.ntmps16
  go_wp2
  go_loop [3, 4] (fun l h => ∃ lo hi : Int, l = .int .i64 lo ∧ h = .int .i64 hi ∧ 0 ≤ lo ∧ lo ≤ hi ∧ hi ≤ 268435456 ∧ lo * lo ≤ n ∧ n < (hi + 1) * (hi + 1)) (fun l h => (intOf h - intOf l).toNat)
  case atStart => exact ⟨0, 268435456, rfl, rfl, by omega, by omega, by omega, by omega, by omega⟩
  case round =>
    obtain ⟨lo, hi, rfl, rfl, l0, lh, h8, hlo, hhi⟩ := hrel
    by_cases hlt : lo < hi
    · obtain ⟨m1, m2⟩ := half_mid hlt
      have sq := mul_bd (a := (lo + hi + 1) / 2) (b := (lo + hi + 1) / 2) (by omega) (by omega) (by omega) (by omega)
      obtain ⟨s1, s2⟩ := sq
      go_wp2
      · go_round
        case rel => exact ⟨(lo + hi + 1) / 2, hi, rfl, rfl, by omega, by omega, by omega, ‹_›, ‹_›⟩
        case measure => simp [intOf]; omega
      · go_round
        case rel => exact ⟨lo, (lo + hi + 1) / 2 - 1, rfl, rfl, by omega, by omega, by omega, ‹_›, by rw [Int.sub_add_cancel]; assumption⟩
        case measure => simp [intOf]; omega
    · go_wp2
      go_ret
      exact ⟨ret_int (half_end h1 l0 (by omega) lh hlo hhi).symm, rfl⟩

theorem down_start {a b : Int} (h1 : -4611686018427387904 ≤ a) (h2 : a ≤ 4611686018427387904) (hb : 0 < b) :
    (flo a b ≤ a.tdiv b ∧ a.tdiv b ≤ flo a b + 1) ∧ -4611686018427387905 ≤ flo a b ∧ flo a b ≤ 4611686018427387904 := by
  have := tdiv_bd (b := b) h1 h2
  obtain ⟨x, y, z⟩ := tdiv_pos (a := a) hb
  by_cases e : a.tmod b = 0
  · have := x e; omega
  · by_cases c : 0 ≤ a
    · have := z c; omega
    · have := y e (by omega); omega

set_option maxHeartbeats 400000 in
theorem Down_pos (a b : Int) (w : World) (h1 : -4611686018427387904 ≤ a) (h2 : a ≤ 4611686018427387904) (hb : 0 < b) (hb2 : b ≤ 2147483647) :
    Calls Try.prog 15 #[.int .i64 a, .int .i64 b] w fun e w' => e = .returned (.int .i64 (flo a b)) ∧ w' = w := by
  obtain ⟨f1, f2⟩ := flo_pos a hb
  obtain ⟨ds, g1, g2⟩ := down_start h1 h2 hb
  have DS : Hid (flo a b ≤ a.tdiv b ∧ a.tdiv b ≤ flo a b + 1) := ds
  clear ds
  go_enter Try.func15, Try.ntmps15
  go_wp2
  go_loop [5] (fun q => ∃ x : Int, q = .int .i64 x ∧ flo a b ≤ x ∧ x ≤ flo a b + 1) (fun q => (intOf q - flo a b).toNat)
  case atStart => exact ⟨_, rfl, DS.out⟩
  case round =>
    obtain ⟨x, rfl, x1, x2⟩ := hrel
    by_cases hx : x = flo a b
    · subst hx
      go_wp2
      go_ret
      exact ⟨rfl, rfl⟩
    · have e : x = flo a b + 1 := by omega
      subst e
      have e2 : (flo a b + 1) * b = flo a b * b + b := by rw [Int.add_mul]; omega
      go_wp2
      go_round
      case rel => exact ⟨flo a b, by go_num, by omega, by omega⟩
      case measure => simp [intOf]; omega

theorem flo_flip {a b : Int} (hb : b < 0) : flo (-a) (-b) = flo a b := by unfold flo; rw [if_pos hb, if_neg (by omega)]

set_option maxHeartbeats 400000 in
theorem Down_neg_at (a b F : Int) (w : World) (h1 : -4611686018427387904 ≤ a) (h2 : a ≤ 4611686018427387904) (hb : b < 0) (hb2 : -2147483647 ≤ b)
    (f1 : F * -b ≤ -a) (f2 : -a < F * -b + -b) (g1 : -4611686018427387905 ≤ F) (g2 : F ≤ 4611686018427387904) (DS : Hid (F ≤ wrap64 (a.tdiv b) ∧ wrap64 (a.tdiv b) ≤ F + 1)) :
    Calls Try.prog 15 #[.int .i64 a, .int .i64 b] w fun e w' => e = .returned (.int .i64 F) ∧ w' = w := by
  go_enter Try.func15, Try.ntmps15
  go_wp2
  go_loop [5] (fun q => ∃ x : Int, q = .int .i64 x ∧ F ≤ x ∧ x ≤ F + 1) (fun q => (intOf q - F).toNat)
  case atStart => exact ⟨_, rfl, DS.out⟩
  case round =>
    obtain ⟨x, rfl, x1, x2⟩ := hrel
    by_cases hx : x = F
    · subst hx
      go_wp2
      go_ret
      exact ⟨rfl, rfl⟩
    · have e : x = F + 1 := by omega
      subst e
      have e2 : (F + 1) * -b = F * -b + -b := by rw [Int.add_mul]; omega
      go_wp2
      go_round
      case rel => exact ⟨F, by go_num, by omega, by omega⟩
      case measure => simp [intOf]; omega

theorem Down_neg (a b : Int) (w : World) (h1 : -4611686018427387904 ≤ a) (h2 : a ≤ 4611686018427387904) (hb : b < 0) (hb2 : -2147483647 ≤ b) :
    Calls Try.prog 15 #[.int .i64 a, .int .i64 b] w fun e w' => e = .returned (.int .i64 (flo a b)) ∧ w' = w := by
  obtain ⟨f1, f2⟩ := flo_pos (-a) (b := -b) (by omega)
  rw [flo_flip hb] at f1 f2
  obtain ⟨ds, g1, g2⟩ := down_start (a := -a) (b := -b) (by omega) (by omega) (by omega)
  rw [Int.tdiv_neg, Int.neg_tdiv, Int.neg_neg, flo_flip hb] at ds
  rw [flo_flip hb] at g1 g2
  exact Down_neg_at a b (flo a b) w h1 h2 hb hb2 f1 f2 g1 g2 (show Hid _ by have := tdiv_bd (b := b) h1 h2; rw [w64 _ (by omega)]; exact ds)

theorem Down_any (a b : Int) (w : World) (h1 : -4611686018427387904 ≤ a) (h2 : a ≤ 4611686018427387904) (hb : ¬ b = 0) (hb1 : -2147483647 ≤ b) (hb2 : b ≤ 2147483647) :
    Calls Try.prog 15 #[.int .i64 a, .int .i64 b] w fun e w' => e = .returned (.int .i64 (flo a b)) ∧ w' = w := by
  by_cases c : b < 0
  · exact Down_neg a b w h1 h2 c hb1
  · exact Down_pos a b w h1 h2 (by omega) hb2

theorem lives_q : kp (flo (kp 65536 * 65536) (kp 131072)) = 32768 := by decide
theorem lives_r : rt (kp 262144 * 65536) = 131072 := rt_of (by decide) ⟨by decide, by decide, by decide⟩
theorem lives_m : kp (flo (kp 32768 * kp 196608) 65536) = 98304 := by decide
theorem lives_a : kp (kp 2147483647 + kp 1) = 2147483647 := by decide

set_option maxHeartbeats 400000 in
theorem fixLives_any (w : World) :
    Calls Try.prog 17 #[] w fun e w' => e = .returned (.bool true) ∧ w' = w := by
  have e1 := lives_q
  have e2 := lives_r
  have e3 := lives_m
  have e4 := lives_a
  go_enter Try.func17, Try.ntmps17
  go_wp2_with (first | (go_at_call 10; refine (Div_any _ _ _ (by decide)).mono ?_; rintro e w' ⟨rfl, rfl⟩) | (go_at_call 11; refine (Root_any _ _ (by decide)).mono ?_; rintro e w' ⟨rfl, rfl⟩) | (go_at_call 14; refine (Mul_any _ _ _).mono ?_; rintro e w' ⟨rfl, rfl⟩) | (go_at_call 13; refine (Add_any _ _ _).mono ?_; rintro e w' ⟨rfl, rfl⟩))
  go_ret
  exact ⟨rfl, rfl⟩

end Go.Proofs.Ytkkpfblgackidaa
