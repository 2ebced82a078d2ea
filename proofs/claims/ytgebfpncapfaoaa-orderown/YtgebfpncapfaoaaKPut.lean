/- What putBehind and Put return. -/
import Derived.Test.YtgebfpncapfaoaaKCon
namespace Go.Proofs.Ytgebfpncapfaoaa.pk
open Go.RowKit
set_option linter.unusedVariables false

/-- What a round of putBehind keeps. -/
def pinv (B : Nat) (w : World) (R : List UInt8) (wr : World) (v : Value) (m : Nat) (L : List UInt8) : Prop := mine 5 vb B wr v L ∧ L ++ pk m = R ∧ Below B w wr ∧ B ≤ wr.heap.size
theorem pinv_len {B : Nat} {w wr : World} {R : List UInt8} {v : Value} {m : Nat} {L : List UInt8} (h : pinv B w R wr v m L) : L.length ≤ R.length := by
  rw [← h.2.1, List.length_append]; omega
theorem pinv_made {B : Nat} {w wr : World} {R : List UInt8} {v : Value} {m : Nat} {L : List UInt8} (h : pinv B w R wr v m L) (o : Obj) : mine 5 vb B (wr.alloc o) v L ∧ Below B w (wr.alloc o) ∧ B ≤ (wr.alloc o).heap.size :=
  ⟨mine_below h.1 (alloc_below _ _), below_step h.2.2.1 h.2.2.2 (alloc_below _ _), Nat.le_trans h.2.2.2 (alloc_below wr o).size⟩
theorem pinv_next {B : Nat} {w wr w1 w2 : World} {R : List UInt8} {v v2 : Value} {m : Nat} {L : List UInt8} {b : UInt8} (h : pinv B w R wr v m L) (hm : ¬ m < 128) (hb : b = UInt8.ofNat (128 + m % 128)) (h1 : mine 5 vb B w1 v L ∧ Below B w w1 ∧ B ≤ w1.heap.size) (hg : w1.grownBy w2 v.ownBlock) (h2 : mine 5 vb B w2 v2 (L ++ [b])) :
    pinv B w R w2 v2 (m / 128) (L ++ [b]) :=
  ⟨h2, by rw [← h.2.1, pk_great hm, ← hb]; simp, mine_grown h1.1 h1.2.1 h1.2.2 hg, Nat.le_trans h1.2.2 hg.size⟩
theorem pinv_end {B : Nat} {w wr w1 w2 : World} {R : List UInt8} {v v2 : Value} {m : Nat} {L : List UInt8} {b : UInt8} (h : pinv B w R wr v m L) (hm : m < 128) (hb : b = UInt8.ofNat m) (h1 : mine 5 vb B w1 v L ∧ Below B w w1 ∧ B ≤ w1.heap.size) (hg : w1.grownBy w2 v.ownBlock) (h2 : mine 5 vb B w2 v2 (L ++ [b])) :
    mine 5 vb B w2 v2 R ∧ Below B w w2 :=
  ⟨by rw [← h.2.1, pk_small hm, ← hb]; exact h2, mine_grown h1.1 h1.2.1 h1.2.2 hg⟩

set_option maxRecDepth 20000 in
set_option maxHeartbeats 1000000 in
theorem putBehind_any (n B : Nat) (v : Value) (L : List UInt8) (w : World) (hn : n < 18446744073709551616) (hm : mine 5 vb B w v L) (hB : B ≤ w.heap.size) (hl : L.length ≤ 900000) :
    Calls Try.prog 55 #[v, .int .u64 n] w fun e w' => ∃ v', e = .returned v' ∧ mine 5 vb B w' v' (L ++ pk n) ∧ Below B w w' := by
  have HL : Hid ((L ++ pk n).length ≤ 1000000) := by have := pk_ten hn; unfold Hid; rw [List.length_append]; omega
  have H0 : Hid (pinv B w (L ++ pk n) w v n L) := ⟨hm, rfl, Below.refl _ _, hB⟩
  obtain ⟨R, hR⟩ : ∃ R, L ++ pk n = R := ⟨_, rfl⟩
  rw [hR] at HL H0 ⊢
  have HN : Hid (n < 18446744073709551616) := hn
  clear hR hm hB hn hl
  go_enter Try.func55, Try.ntmps55
  go_wp2_with fail
  go_loopw [0, 1] (fun a i wr => ∃ (m : Nat) (K : List UInt8), i = .int .u64 m ∧ m < 18446744073709551616 ∧ pinv B w R wr a m K) (fun _ i _ => (intOf i).toNat)
  case atStart => exact ⟨n, L, rfl, HN.out, H0.out⟩
  case round =>
    obtain ⟨m, K, rfl, hm, hi⟩ := hrel
    have HK : Hid (K.length ≤ 1000000) := Nat.le_trans (pinv_len hi) HL.out
    have HI : Hid (pinv B w R wr u0 m K) := hi
    have HM : Hid (m < 18446744073709551616) := hm
    clear hi H0 HN hm
    by_cases hlt : m < 128
    · have hb : (((UInt8.ofNat m).toNat : Nat) : Int) = m := by rw [of_small (by omega)]
      obtain ⟨b, hb2⟩ : ∃ b, UInt8.ofNat m = b := ⟨_, rfl⟩
      rw [hb2] at hb
      have Hb : Hid (b = UInt8.ofNat m) := hb2.symm
      have Hb2 : Hid ((m : Int) = (b.toNat : Int)) := hb.symm
      clear hb hb2
      have HA := pinv_made HI.out (.cells #[.int .u8 m] 5)
      have HA : Hid (mine 5 vb B (wr.alloc (.cells #[.int .u8 m] 5)) u0 K ∧ Below B w (wr.alloc (.cells #[.int .u8 m] 5)) ∧ B ≤ (wr.alloc (.cells #[.int .u8 m] 5)).heap.size) := HA
      go_wp2_with (at_builtin; refine list_one kb _ rfl _ _ rfl B u0 K rfl HA.out.1 ⟨_, 0, none⟩ 1 b rfl ((new_one _ _ _).trans (congrArg some (val_int Hb2.out))) HK.out HA.out.2.2 ?_)
      intro g cap w2 h1 h2
      have HE : Hid (mine 5 vb B w2 (.slice (some ⟨g, 0, none⟩) (K.length + 1) cap) R ∧ Below B w w2) := pinv_end HI.out hlt Hb.out HA.out h2 h1
      clear h1 h2
      go_wp2_with fail
      go_ret
      exact ⟨_, rfl, HE.out⟩
    · have HW : Hid (IntKind.u64.wrap ((m : Int) / 128) = ((m / 128 : Nat) : Int)) := by have := HM.out; unfold Hid; rw [IntKind.wrap_u64]; omega
      have hb : (((UInt8.ofNat (128 + m % 128)).toNat : Nat) : Int) = 128 + (m : Int) % 128 := by rw [of_small (by omega)]; omega
      obtain ⟨b, hb2⟩ : ∃ b, UInt8.ofNat (128 + m % 128) = b := ⟨_, rfl⟩
      rw [hb2] at hb
      have Hb : Hid (b = UInt8.ofNat (128 + m % 128)) := hb2.symm
      have Hb2 : Hid (128 + (m : Int) % 128 = (b.toNat : Int)) := hb.symm
      clear hb hb2
      have HA : Hid (mine 5 vb B (wr.alloc (.cells #[.int .u8 (128 + (m : Int) % 128)] 5)) u0 K ∧ Below B w (wr.alloc (.cells #[.int .u8 (128 + (m : Int) % 128)] 5)) ∧ B ≤ (wr.alloc (.cells #[.int .u8 (128 + (m : Int) % 128)] 5)).heap.size) := pinv_made HI.out (.cells #[.int .u8 (128 + (m : Int) % 128)] 5)
      go_wp2_with (at_builtin; refine list_one kb _ rfl _ _ rfl B u0 K rfl HA.out.1 ⟨_, 0, none⟩ 1 b rfl ((new_one _ _ _).trans (congrArg some (val_int Hb2.out))) HK.out HA.out.2.2 ?_)
      intro g cap w2 h1 h2
      have HE : Hid (pinv B w R w2 (.slice (some ⟨g, 0, none⟩) (K.length + 1) cap) (m / 128) (K ++ [b])) := pinv_next HI.out hlt Hb.out HA.out h2 h1
      clear h1 h2
      go_wp2_with fail
      go_roundw
      case rel => exact ⟨m / 128, K ++ [b], val_int HW.out, by have := HM.out; omega, HE.out⟩
      case measure => simp only [intOf, HW.out]; simp; omega

/-- What Put writes, as a text. -/
def ps (n : Nat) : ByteArray := ⟨(pk n).toArray⟩
theorem bs_ps (n : Nat) : bs (ps n) = pk n := by simp [bs, ps]
theorem ps_size (n : Nat) : (ps n).size = (pk n).length := by rw [← bs_ps, bs_len]
set_option maxRecDepth 20000 in
theorem Put_any (n : Nat) (w : World) (hn : n < 18446744073709551616) : Calls Try.prog 76 #[.int .u64 n] w fun e w' => e = .returned (.string (ps n)) ∧ Below w.heap.size w w' := by
  have HC : Hid (Calls Try.prog 55 #[.slice none 0 0, .int .u64 n] w fun e w' => ∃ v', e = .returned v' ∧ mine 5 vb w.heap.size w' v' ([] ++ pk n) ∧ Below w.heap.size w w') := putBehind_any n w.heap.size _ [] w hn (mine_nil _ _ _ _) (Nat.le_refl _) (by simp)
  have HP := pk_pos n
  have HS : Hid ((⟨(pk n).toArray⟩ : ByteArray) = ps n) := rfl
  rw [List.nil_append] at HC
  obtain ⟨L, hL⟩ : ∃ L, pk n = L := ⟨_, rfl⟩
  rw [hL] at HC HP HS
  have HP : Hid (0 < L.length) := HP
  clear hL hn
  go_enter Try.func76, Try.ntmps76
  go_wp2_with fail
  refine HC.out.mono ?_
  rintro e w' ⟨v, rfl, hv, hb⟩
  have hcv := mine_string hv HP.out
  have HB : Hid (Below w.heap.size w w') := hb
  clear hv hb
  go_wp2_with fail
  go_ret
  exact ⟨ret_str HS.out, HB.out⟩
end Go.Proofs.Ytgebfpncapfaoaa.pk
