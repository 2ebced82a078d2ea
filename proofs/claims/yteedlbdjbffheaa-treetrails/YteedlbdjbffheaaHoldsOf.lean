/- What TrailHolds returns: level by level. -/
import Derived.Test.YteedlbdjbffheaaGrows
namespace Go.Proofs.Yteedlbdjbffheaa
open Go.RowKit
set_option linter.unusedVariables false

theorem xor_i64 (a : Nat) (ha : a < 4294967296) : bits .xor .i64 (a : Int) 1 = ((a ^^^ 1 : Nat) : Int) := by
  have hx : a ^^^ 1 < 2 ^ 32 := Nat.xor_lt_two_pow (by omega) (by omega)
  have h1 : (BitVec.ofInt 64 (a : Int)).toNat = a := by
    rw [BitVec.ofInt_natCast, BitVec.toNat_ofNat]; exact Nat.mod_eq_of_lt (by omega)
  have h2 : (BitVec.ofInt 64 (1 : Int)).toNat = 1 := by decide
  show IntKind.i64.wrap ((BitVec.ofInt 64 (a : Int) ^^^ BitVec.ofInt 64 (1 : Int)).toNat : Int) = _
  rw [BitVec.toNat_xor, h1, h2, IntKind.wrap_i64]
  omega
theorem row_tail {w : World} {a : Addr} {o : Nat} {t : List Nat} (h : row w (some a) (o :: t)) : row w (some (a.add 1)) t := by
  intro j hj
  have hc := row_cell h (1 + j) (by simp; omega)
  refine ⟨_, rfl, ?_⟩
  rw [add_add, hc, Nat.add_comm 1 j]; simp
theorem lev_cons {y x k o : Nat} {t : List Nat} (h2 : 2 ≤ k) (hx : x < k) (hb : x ^^^ 1 < k) : cl pr y x k (o :: t) = cl pr (if x % 2 = 0 then pr y o else pr o y) (x / 2) ((k + 1) / 2) t := by
  rw [cl_level pr k y x _ h2 hx]
  unfold lv
  rw [if_pos hb]
theorem lev_skip {y x k : Nat} {t : List Nat} (h2 : 2 ≤ k) (hx : x < k) (hb : ¬ x ^^^ 1 < k) : cl pr y x k t = cl pr y (x / 2) ((k + 1) / 2) t := by
  rw [cl_level pr k y x _ h2 hx]
  unfold lv
  rw [if_neg hb]
/-- What a round of TrailHolds keeps. -/
def hlv (w : World) (C : Option Nat) (p : Option Addr) (x k y m c : Nat) (t : List Nat) : Prop := t.length = m ∧ row w p t ∧ small t ∧ y < 18446744073709551616 ∧ cl pr y x k t = C

set_option maxRecDepth 20000 in
set_option maxHeartbeats 4000000 in
theorem HoldsOf_any (r : Nat) (s : ByteArray) (i n m c : Nat) (t : List Nat) (p : Option Addr) (w : World) (h1 : 1 ≤ n) (hn : n ≤ 256) (hi : i < n) (hz : s.size ≤ 9223372036854775807) (hm : t.length = m) (hp : p = none → c = 0) (hm2 : m * 8 ≤ 140737488355328) (hr : row w p t) (hs : small t) :
  Calls Try.prog 20 #[.int .u64 r, .string s, .int .i64 i, .int .i64 n, .slice p m c] w fun e w' => e = .returned (.bool (hld r (lf s) i n t)) ∧ Below w.heap.size w w' := by
  have HZ : Hid (s.size ≤ 9223372036854775807) := hz
  have HM : Hid (t.length = m) := hm
  have HR : Hid (row w p t) := hr
  have HS : Hid (small t) := hs
  have HP : Hid (p = none → c = 0) := hp
  have HM2 : Hid (m * 8 ≤ 140737488355328) := hm2
  have HLF : Hid (lf s < 18446744073709551616) := lf_lt s
  obtain ⟨X, hX⟩ : ∃ X, hld r (lf s) i n t = X := ⟨_, rfl⟩
  have HX : Hid (decide (cl pr (lf s) i n t = some r) = X) := hX
  rw [hX]
  obtain ⟨C, hC⟩ : ∃ C, cl pr (lf s) i n t = C := ⟨_, rfl⟩
  have HC : Hid (cl pr (lf s) i n t = C) := hC
  rw [hC] at HX
  have hmm : m ≤ 9223372036854775807 := by omega
  clear hz hm hr hs hp hm2 hX hC
  go_enter Try.func20, Try.ntmps20
  go_wp2_with fail
  refine (LeafOf_any s _ HZ.out).mono ?_
  rintro e w1 ⟨rfl, hb⟩
  have HB1 : Hid (Below w.heap.size w w1) := hb
  clear hb
  go_wp2_with fail
  refine ((HM.out ▸ Clone_row p c t _ (row_below HR.out HB1.out) HS.out HP.out (by rw [HM.out]; exact HM2.out) : Calls Try.prog 23 #[.slice p m c] w1 fun e w' => ∃ v, e = .returned v ∧ mine w1.heap.size w' v t ∧ Below w1.heap.size w1 w')).mono ?_
  rintro e w2 ⟨v, rfl, hv, hb⟩
  have HB2 : Hid (Below w.heap.size w w2) := HB1.out.trans (hb.mono HB1.out.size)
  obtain ⟨p2, c2, rfl, hr2, hc2, _⟩ := mine_full hv
  rw [HM.out] at hc2 ⊢
  have H0 : Hid (hlv w2 C p2 i n (lf s) m c2 t) := ⟨HM.out, hr2, HS.out, HLF.out, HC.out⟩
  clear hv hb hr2 HB1 HR HC
  obtain ⟨Y0, hY0⟩ : ∃ Y, lf s = Y := ⟨_, rfl⟩
  rw [hY0] at H0 ⊢
  clear hY0
  go_wp2_with fail
  go_loop [2, 3, 4, 11] (fun xv kv tv yv => ∃ (x k y m c : Nat) (p : Option Addr) (t : List Nat), xv = .int .i64 x ∧ kv = .int .i64 k ∧ tv = .slice p m c ∧ yv = .int .u64 y ∧ 1 ≤ k ∧ k ≤ 256 ∧ x < k ∧ m ≤ c ∧ m ≤ 9223372036854775807 ∧ hlv w2 C p x k y m c t) (fun _ kv _ _ => (intOf kv).toNat)
  case atStart => exact ⟨i, n, Y0, m, c2, p2, t, rfl, rfl, rfl, rfl, h1, hn, hi, hc2, hmm, H0.out⟩
  case round =>
    clear H0 hc2 hmm
    obtain ⟨x, k, y, m, c, p, t, rfl, rfl, rfl, rfl, hk1, hk2, hxk, hmc, hm63, hlt, hrow, hsm, hy, hcl⟩ := hrel
    have HT : Hid (t.length = m) := hlt
    have HRw : Hid (row w2 p t) := hrow
    have HSm : Hid (small t) := hsm
    have HY : Hid (y < 18446744073709551616) := hy
    have HCL : Hid (cl pr y x k t = C) := hcl
    clear hlt hrow hsm hy hcl
    by_cases hk : 1 < k
    · have hxo := xor_i64 x (by omega)
      have hx1 : x ^^^ 1 = if x % 2 = 0 then x + 1 else x - 1 := xor_one x
      obtain ⟨B, hB⟩ : ∃ B, x ^^^ 1 = B := ⟨_, rfl⟩
      have hB0 : B ≤ 256 := by rw [hB] at hx1; split at hx1 <;> omega
      have k1 : (1 : Int) < k := by omega
      by_cases hbe : B < k
      · have hbx : x ^^^ 1 < k := by rw [hB]; exact hbe
        rw [hB] at hxo
        have HBX : Hid (x ^^^ 1 < k) := hbx
        clear hx1 hB hbx
        have k2 : ¬ (k : Int) ≤ B := by omega
        cases t with
        | nil =>
          obtain rfl : m = 0 := by simpa using HT.out.symm
          have hXf : X = false := by
            have h := HCL.out
            rw [cl_nil pr _ _ (by omega)] at h
            rw [← HX.out, ← h]; simp
          subst hXf
          go_wp2_with fail
          go_ret
          exact ⟨rfl, HB2.out⟩
        | cons o t =>
          obtain ⟨M, rfl⟩ : ∃ M, m = M + 1 := ⟨t.length, by simpa using HT.out.symm⟩
          obtain ⟨a, rfl⟩ := row_some HRw.out (by simp)
          have hc0 : w2.cell? a = some (.int .u64 o) := by
            have := row_cell HRw.out 0 (by simp)
            have e : a.add 0 = a := by unfold Addr.add; simp
            rw [e] at this
            simpa using this
          have HO : Hid (o < 18446744073709551616) := HSm.out o (by simp)
          have HTl : Hid (t.length = M ∧ row w2 (some (a.add 1)) t ∧ small t) := ⟨by simpa using HT.out, row_tail HRw.out, fun z hz => HSm.out z (by simp [hz])⟩
          have hm0 : ¬ ((M + 1 : Nat) : Int) = 0 := by omega
          have hm1 : (1 : Int) ≤ ((M + 1 : Nat) : Int) := by omega
          by_cases h2 : x % 2 = 0
          · have HN : Hid (cl pr (pr y o) (x / 2) ((k + 1) / 2) t = C) := by
              have h := HCL.out
              rw [lev_cons (by omega) hxk HBX.out, if_pos h2] at h
              exact h
            have x2 : (x : Int) % 2 = 0 := by omega
            clear HT HRw HSm HCL
            by_cases hc1 : c = 1
            · obtain rfl : M = 0 := by omega
              have ht0 : t = [] := List.eq_nil_of_length_eq_zero HTl.out.1
              subst ht0 hc1
              go_wp2_with fail
              refine (PairOf_any y o _ HY.out HO.out).mono ?_
              rintro e w' ⟨rfl, hw⟩; subst w'
              go_wp2_with fail
              go_round
              case rel => exact ⟨x / 2, (k + 1) / 2, pr y o, 0, 0, _, [], by go_num, by go_num, rfl, rfl, by omega, by omega, by omega, by omega, by omega, rfl, row_nil _ _, HTl.out.2.2, pr_lt _ _, HN.out⟩
              case measure => simp [intOf]; omega
            · go_wp2_with fail
              refine (PairOf_any y o _ HY.out HO.out).mono ?_
              rintro e w' ⟨rfl, hw⟩; subst w'
              go_wp2_with fail
              go_round
              case rel => exact ⟨x / 2, (k + 1) / 2, pr y o, M, c - 1, _, t, by go_num, by go_num, rfl, rfl, by omega, by omega, by omega, by omega, by omega, HTl.out.1, HTl.out.2.1, HTl.out.2.2, pr_lt _ _, HN.out⟩
              case measure => simp [intOf]; omega
          · have HN : Hid (cl pr (pr o y) (x / 2) ((k + 1) / 2) t = C) := by
              have h := HCL.out
              rw [lev_cons (by omega) hxk HBX.out, if_neg h2] at h
              exact h
            have x2 : ¬ (x : Int) % 2 = 0 := by omega
            clear HT HRw HSm HCL
            by_cases hc1 : c = 1
            · obtain rfl : M = 0 := by omega
              have ht0 : t = [] := List.eq_nil_of_length_eq_zero HTl.out.1
              subst ht0 hc1
              go_wp2_with fail
              refine (PairOf_any o y _ HO.out HY.out).mono ?_
              rintro e w' ⟨rfl, hw⟩; subst w'
              go_wp2_with fail
              go_round
              case rel => exact ⟨x / 2, (k + 1) / 2, pr o y, 0, 0, _, [], by go_num, by go_num, rfl, rfl, by omega, by omega, by omega, by omega, by omega, rfl, row_nil _ _, HTl.out.2.2, pr_lt _ _, HN.out⟩
              case measure => simp [intOf]; omega
            · go_wp2_with fail
              refine (PairOf_any o y _ HO.out HY.out).mono ?_
              rintro e w' ⟨rfl, hw⟩; subst w'
              go_wp2_with fail
              go_round
              case rel => exact ⟨x / 2, (k + 1) / 2, pr o y, M, c - 1, _, t, by go_num, by go_num, rfl, rfl, by omega, by omega, by omega, by omega, by omega, HTl.out.1, HTl.out.2.1, HTl.out.2.2, pr_lt _ _, HN.out⟩
              case measure => simp [intOf]; omega
      · have HN : Hid (cl pr y (x / 2) ((k + 1) / 2) t = C) := by
          have := HCL.out
          rw [lev_skip (by omega) hxk (by rw [hB]; exact hbe)] at this
          exact this
        rw [hB] at hxo
        clear hx1 hB HCL
        have k2 : (k : Int) ≤ B := by omega
        go_wp2_with fail
        go_round
        case rel => exact ⟨x / 2, (k + 1) / 2, y, m, c, p, t, by go_num, by go_num, rfl, rfl, by omega, by omega, by omega, hmc, hm63, HT.out, HRw.out, HSm.out, HY.out, HN.out⟩
        case measure => simp [intOf]; omega
    · obtain rfl : k = 1 := by omega
      have hXe : X = (decide ((m : Int) = 0) && ((y : Int) == (r : Int))) := by
        have h := HCL.out
        rw [cl_one] at h
        rw [← HX.out, ← h]
        cases t with
        | nil =>
          obtain rfl : m = 0 := by simpa using HT.out.symm
          rw [Bool.eq_iff_iff]; simp; omega
        | cons o t =>
          have : m = t.length + 1 := by simpa using HT.out.symm
          subst this
          simp; omega
      have HXe : Hid (X = (decide ((m : Int) = 0) && ((y : Int) == (r : Int)))) := hXe
      clear hXe HX
      by_cases hm0 : m = 0
      · subst hm0
        go_wp2_with fail
        go_ret
        exact ⟨by rw [HXe.out]; simp, HB2.out⟩
      · have hm0' : ¬ (m : Int) = 0 := by omega
        go_wp2_with fail
        go_ret
        exact ⟨by rw [HXe.out, show decide ((m : Int) = 0) = false from decide_eq_false hm0']; rfl, HB2.out⟩
end Go.Proofs.Yteedlbdjbffheaa
