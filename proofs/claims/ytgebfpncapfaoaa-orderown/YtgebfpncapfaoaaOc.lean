/- What order.Check and checkAll return, and the document's own OrdersRight: the first error of a list. -/
import Derived.Test.YtgebfpncapfaoaaOe
namespace Go.Proofs.Ytgebfpncapfaoaa
open Go.RowKit
set_option linter.unusedVariables false

theorem nd_form (b k wh x y a : Int) : ∃ p q r s, nd ⟨b, k, wh, x, y, a⟩ = ⟨b, k, p, q, r, s⟩ := by
  unfold nd
  split
  · exact ⟨_, _, _, _, rfl⟩
  · split
    · exact ⟨_, _, _, _, rfl⟩
    · split <;> exact ⟨_, _, _, _, rfl⟩
theorem neq6_at (b k x0 x1 x2 x3 y0 y1 y2 y3 : Int) (d : Bool) (h : Hid (d = !decide (Ord.nums ⟨b, k, x0, x1, x2, x3⟩ = Ord.nums ⟨b, k, y0, y1, y2, y3⟩))) (w : World) : (binOp .neq 25 (.agg #[.int .i64 b, .int .i64 k, .int .i64 x0, .int .i64 x1, .int .i64 x2, .int .i64 x3]) (.agg #[.int .i64 b, .int .i64 k, .int .i64 y0, .int .i64 y1, .int .i64 y2, .int .i64 y3])).run Try.prog w = .ok (.bool d) w := by
  rw [neq6, h.out]
  congr 3
  by_cases h0 : x0 = y0 <;> by_cases h1 : x1 = y1 <;> by_cases h2 : x2 = y2 <;> by_cases h3 : x3 = y3 <;> simp [Ord.nums, h0, h1, h2, h3]
set_option maxRecDepth 20000 in
set_option maxHeartbeats 4000000 in
theorem Check_any' (o : Ord) (w : World) : Calls Try.prog 13 #[ov o] w fun e w' => e = .returned (.int .i64 (oe o)) ∧ Below w.heap.size w w' := by
  cases hw : wn o with
  | false =>
    have HW : Hid (wn o = false) := hw
    have HE : Hid (oe o = 1) := oe_arg hw
    clear hw
    have HI : Hid (∀ V, Calls Try.prog 44 #[ov o] V fun e w' => e = .returned (.bool false) ∧ Below V.heap.size V w') := fun V => isWithin_at o false V HW
    clear HW
    obtain ⟨b, k, wh, x, y, a⟩ := o
    unfold ov at HI ⊢
    dsimp only at HI ⊢
    go_enter Try.func13, Try.ntmps13
    go_wp2_with fail
    refine (HI.out _).mono ?_
    rintro e w1 ⟨rfl, hb1⟩
    have HB1 : Hid (Below w.heap.size w w1) := below_step (alloc_below _ _) (alloc_below w _).size hb1
    clear hb1
    go_wp2_with fail
    go_ret
    exact ⟨ret_int HE.out.symm, HB1.out⟩
  | true =>
    have HW : Hid (wn o = true) := hw
    have hk := (wn_nums hw).2.1
    have HND : Hid (∀ V, Calls Try.prog 45 #[ov o] V fun e w' => e = .returned (ov (nd o)) ∧ Below V.heap.size V w') := fun V => needed_any o V hk
    obtain ⟨d, hd⟩ : ∃ d : Bool, d = !decide (o.nums = (nd o).nums) := ⟨_, rfl⟩
    have HE : Hid (oe o = if d = true then 4 else 0) := by
      unfold Hid
      rw [hd]
      by_cases h : o = nd o
      · rw [oe_ok hw h]; simp [← h]
      · rw [oe_form hw h]
        have : ¬ o.nums = (nd o).nums := fun e => h (nums_inj e)
        simp [this]
    have HD : Hid (d = !decide (o.nums = (nd o).nums)) := hd
    have HI : Hid (∀ V, Calls Try.prog 44 #[ov o] V fun e w' => e = .returned (.bool true) ∧ Below V.heap.size V w') := fun V => isWithin_at o true V HW
    clear hw hk hd HW
    obtain ⟨b, k, wh, x, y, a⟩ := o
    obtain ⟨p, q, r, s, hn⟩ := nd_form b k wh x y a
    rw [hn] at HND HD
    unfold ov at HND HI ⊢
    dsimp only at HND HI ⊢
    have HNQ := fun w => neq6_at b k wh x y a p q r s d HD w
    clear hn
    go_enter Try.func13, Try.ntmps13
    go_wp2_with fail
    refine (HI.out _).mono ?_
    rintro e w1 ⟨rfl, hb1⟩
    obtain ⟨z0, z1, z2, z3, z4, z5⟩ := box6 hb1
    have HB1 : Hid (Below w.heap.size w w1) := below_step (alloc_below _ _) (alloc_below w _).size hb1
    clear hb1 HI
    obtain ⟨F, hF⟩ : ∃ F, w.heap.size = F := ⟨_, rfl⟩
    simp only [hF] at z0 z1 z2 z3 z4 z5 ⊢
    go_wp2_with fail
    go_region_held3 (fun V => Below w1.heap.size w1 V ∧ V.cell? ⟨F, 0, none⟩ = some (.int .i64 b) ∧ V.cell? ⟨F, 1, none⟩ = some (.int .i64 k) ∧ V.cell? ⟨F, 2, none⟩ = some (.int .i64 wh) ∧ V.cell? ⟨F, 3, none⟩ = some (.int .i64 x) ∧ V.cell? ⟨F, 4, none⟩ = some (.int .i64 y) ∧ V.cell? ⟨F, 5, none⟩ = some (.int .i64 a)) (first | with_reducible assumption | with_reducible exact k6_drew (by assumption) | with_reducible exact k6_call (by assumption) (by assumption) | exact ⟨Below.drew (Below.refl _ _), z0, z1, z2, z3, z4, z5⟩) (first
            | (go_at_call 45; with_reducible refine (HND.out _).mono ?_; rintro e w5 ⟨rfl, hb5⟩))
    have HB5 : Hid (Below w.heap.size w w5) := HB1.out.trans (((Below.refl _ _).drew.trans hb5).mono HB1.out.size)
    clear hb5 z0 z1 z2 z3 z4 z5 HNQ hF
    cases d with
    | true =>
      go_wp2_with fail
      go_ret
      exact ⟨ret_int HE.out.symm, HB5.out⟩
    | false =>
      go_wp2_with fail
      go_ret
      exact ⟨ret_int HE.out.symm, HB5.out⟩

/-- The first error of a list; and whether there are too many. -/
def oes1 : List Ord → Int
  | [] => 0
  | o :: l => if oe o = 0 then oes1 l else oe o
def oes (l : List Ord) : Int := if 100 < l.length then 2 else oes1 l
theorem oes1_drop {l : List Ord} {k : Nat} (h : k < l.length) : oes1 (l.drop k) = if oe l[k] = 0 then oes1 (l.drop (k + 1)) else oe l[k] := by
  rw [List.drop_eq_getElem_cons h]; rfl
theorem oes1_zero {l : List Ord} : oes1 l = 0 ↔ ∀ o ∈ l, oe o = 0 := by
  induction l with
  | nil => simp [oes1]
  | cons o l ih =>
    unfold oes1
    split
    · rename_i h; rw [ih]; simp [h]
    · rename_i h; simp [h]
theorem oes_zero {l : List Ord} (h : oes l = 0) : l.length ≤ 100 ∧ ∀ o ∈ l, oe o = 0 := by
  unfold oes at h
  split at h
  · omega
  · exact ⟨by omega, oes1_zero.1 h⟩
theorem oes_ok {l : List Ord} (h : l.length ≤ 100) (h2 : ∀ o ∈ l, oe o = 0) : oes l = 0 := by
  unfold oes; rw [if_neg (by omega)]; exact oes1_zero.2 h2
theorem oes1_cases (l : List Ord) : oes1 l = 0 ∨ oes1 l = 1 ∨ oes1 l = 4 := by
  induction l with
  | nil => simp [oes1]
  | cons o l ih =>
    unfold oes1
    split
    · exact ih
    · exact oe_cases o
theorem oes_bd (l : List Ord) : 0 ≤ oes l ∧ oes l ≤ 4 := by
  unfold oes
  split
  · omega
  · have := oes1_cases l; omega

set_option maxRecDepth 20000 in
set_option maxHeartbeats 4000000 in
theorem checkAll_any (p : Option Addr) (n c : Nat) (l : List Ord) (w : World) (hr : rowf to6 w p l) (hn : l.length = n) (hm : n ≤ 9223372036854775807) :
    Calls Try.prog 34 #[.slice p n c] w fun e w' => e = .returned (.int .i64 (oes l)) ∧ Below w.heap.size w w' := by
  by_cases hL : 100 < n
  · have HE : Hid (oes l = 2) := by unfold Hid oes; rw [if_pos (by omega)]
    have hL' : (100 : Int) < n := by omega
    clear hr hn
    go_enter Try.func34, Try.ntmps34
    go_wp2_with fail
    go_ret
    exact ⟨ret_int HE.out.symm, Below.refl _ _⟩
  · have HE : Hid (oes l = oes1 l) := by unfold Hid oes; rw [if_neg (by omega)]
    have hL' : ¬ (100 : Int) < n := by omega
    have HR : Hid (rowf to6 w p l) := hr
    have HN : Hid (l.length = n) := hn
    have HD : Hid (∀ k (h : k < l.length), oes1 (l.drop k) = if oe l[k] = 0 then oes1 (l.drop (k + 1)) else oe l[k]) := fun k h => oes1_drop h
    clear hr hn hL
    go_enter Try.func34, Try.ntmps34
    go_wp2_with fail
    go_loopw [11] (fun i wr => ∃ k : Nat, i = .int .i64 k ∧ k ≤ n ∧ oes1 (l.drop k) = oes1 l ∧ Below w.heap.size w wr) (fun i _ => n - (intOf i).toNat)
    case atStart => exact ⟨0, rfl, by omega, rfl, Below.refl _ _⟩
    case round =>
      obtain ⟨k, rfl, hk, hd, hb⟩ := hrel
      have HB : Hid (Below w.heap.size w wr) := hb
      have HK : Hid (oes1 (l.drop k) = oes1 l) := hd
      clear hd hb
      by_cases hlt : k < n
      · have hkl : k < l.length := by rw [HN.out]; exact hlt
        obtain ⟨a, rfl, ha⟩ := oat (rowf_below HR.out HB.out) hkl
        have HX1 := HD.out k hkl
        obtain ⟨X, hX⟩ : ∃ X, l[k] = X := ⟨_, rfl⟩
        rw [hX] at ha HX1
        have HC : Hid (∀ V, Calls Try.prog 13 #[ov X] V fun e w' => e = .returned (.int .i64 (oe X)) ∧ Below V.heap.size V w') := fun V => Check_any' X V
        have HX : Hid (oes1 (l.drop k) = if oe X = 0 then oes1 (l.drop (k + 1)) else oe X) := HX1
        clear HX1
        obtain ⟨E, hE⟩ : ∃ E, oe X = E := ⟨_, rfl⟩
        rw [hE] at HX HC
        obtain ⟨b, kk, wh, x, y, aa⟩ := X
        unfold ov at HC
        obtain ⟨z0, z1, z2, z3, z4, z5⟩ := ha
        dsimp only at HC z0 z1 z2 z3 z4 z5
        clear hX hE
        have l1 : (k : Int) < n := by omega
        have l2 : (0 : Int) ≤ k := by omega
        go_wp2_with fail
        refine (HC.out _).mono ?_
        rintro e w2 ⟨rfl, hb2⟩
        have HB2 : Hid (Below w.heap.size w w2) := below_step (below_step HB.out HB.out.size (alloc_below _ _)) (Nat.le_trans HB.out.size (alloc_below wr _).size) hb2
        clear hb2 z0 z1 z2 z3 z4 z5
        by_cases hz : E = 0
        · subst hz
          have HX2 : Hid (oes1 (l.drop (k + 1)) = oes1 l) := by have := HX.out; simp only [if_true] at this; exact this.symm.trans HK.out
          go_wp2_with fail
          go_roundw
          case rel => exact ⟨k + 1, by go_num, by omega, HX2.out, HB2.out⟩
          case measure => simp [intOf]; omega
        · have HX2 : Hid (E = oes1 l) := by have := HX.out; rw [if_neg hz] at this; exact this.symm.trans HK.out
          go_wp2_with fail
          go_ret
          exact ⟨ret_int (by rw [HE.out]; exact HX2.out), HB2.out⟩
      · have HX2 : Hid (oes1 l = 0) := by have := HK.out; rw [List.drop_eq_nil_of_le (by have := HN.out; omega)] at this; exact this.symm
        go_wp2_with fail
        go_ret
        exact ⟨ret_int (by rw [HE.out, HX2.out]), HB.out⟩

set_option maxRecDepth 20000 in
set_option maxHeartbeats 4000000 in
theorem OrdersRight_any (p : Option Addr) (n c : Nat) (l : List Ord) (w : World) (hr : rowf to6 w p l) (hn : l.length = n) (hm : n ≤ 9223372036854775807) :
    Calls Try.prog 17 #[.slice p n c] w fun e w' => e = .returned (.int .i64 (oes l)) ∧ Below w.heap.size w w' := by
  by_cases hL : 100 < n
  · have HE : Hid (oes l = 2) := by unfold Hid oes; rw [if_pos (by omega)]
    have hL' : (100 : Int) < n := by omega
    clear hr hn
    go_enter Try.func17, Try.ntmps17
    go_wp2_with fail
    go_ret
    exact ⟨ret_int HE.out.symm, Below.refl _ _⟩
  · have HE : Hid (oes l = oes1 l) := by unfold Hid oes; rw [if_neg (by omega)]
    have hL' : ¬ (100 : Int) < n := by omega
    have HR : Hid (rowf to6 w p l) := hr
    have HN : Hid (l.length = n) := hn
    have HD : Hid (∀ k (h : k < l.length), oes1 (l.drop k) = if oe l[k] = 0 then oes1 (l.drop (k + 1)) else oe l[k]) := fun k h => oes1_drop h
    have H0 : Hid (oes1 (l.drop n) = 0) := by unfold Hid; rw [List.drop_eq_nil_of_le (by omega)]; rfl
    clear hr hn hL
    go_enter Try.func17, Try.ntmps17
    go_wp2_with fail
    go_loopw [3, 4] (fun ee i wr => ∃ k : Nat, i = .int .i64 ((k : Int) - 1) ∧ k ≤ n ∧ ee = .int .i64 (oes1 (l.drop k)) ∧ Below w.heap.size w wr) (fun _ i _ => (intOf i + 1).toNat)
    case atStart => exact ⟨n, rfl, by omega, by rw [H0.out], Below.refl _ _⟩
    case round =>
      obtain ⟨k, rfl, hk, rfl, hb⟩ := hrel
      have HB : Hid (Below w.heap.size w wr) := hb
      clear hb
      cases k with
      | zero =>
        have e : ((0 : Nat) : Int) - 1 = -1 := rfl
        rw [e]
        go_wp2_with fail
        go_ret
        exact ⟨ret_int (by rw [HE.out]; rfl), HB.out⟩
      | succ k =>
        have e : ((k + 1 : Nat) : Int) - 1 = k := by omega
        rw [e]
        clear e
        have hkl : k < l.length := by rw [HN.out]; omega
        obtain ⟨a, rfl, ha⟩ := oat (rowf_below HR.out HB.out) hkl
        have HX1 := HD.out k hkl
        obtain ⟨X, hX⟩ : ∃ X, l[k] = X := ⟨_, rfl⟩
        rw [hX] at ha HX1
        have HC : Hid (∀ V, Calls Try.prog 14 #[ov X] V fun e w' => e = .returned (.int .i64 (oe X)) ∧ Below V.heap.size V w') := fun V => OrderRight_any X V
        have HX : Hid (oes1 (l.drop k) = if oe X = 0 then oes1 (l.drop (k + 1)) else oe X) := HX1
        clear HX1
        obtain ⟨E, hE⟩ : ∃ E, oe X = E := ⟨_, rfl⟩
        rw [hE] at HX HC
        obtain ⟨b, kk, wh, x, y, aa⟩ := X
        unfold ov at HC
        obtain ⟨z0, z1, z2, z3, z4, z5⟩ := ha
        dsimp only at HC z0 z1 z2 z3 z4 z5
        obtain ⟨S, hS⟩ : ∃ S, oes1 (l.drop (k + 1)) = S := ⟨_, rfl⟩
        rw [hS] at HX ⊢
        clear hX hE hS
        have l1 : (k : Int) < n := by omega
        have l2 : (0 : Int) ≤ k := by omega
        go_wp2_with fail
        refine (HC.out _).mono ?_
        rintro e w2 ⟨rfl, hb2⟩
        have HB2 : Hid (Below w.heap.size w w2) := below_step HB.out HB.out.size hb2
        clear hb2 z0 z1 z2 z3 z4 z5
        by_cases hz : E = 0
        · subst hz
          have HX2 : Hid (S = oes1 (l.drop k)) := by have := HX.out; simp only [if_true] at this; exact this.symm
          go_wp2_with fail
          go_roundw
          case rel => exact ⟨k, by go_num, by omega, by rw [HX2.out], HB2.out⟩
          case measure => simp [intOf]
        · have HX2 : Hid (E = oes1 (l.drop k)) := by have := HX.out; rw [if_neg hz] at this; exact this.symm
          go_wp2_with fail
          go_roundw
          case rel => exact ⟨k, by go_num, by omega, by rw [HX2.out], HB2.out⟩
          case measure => simp [intOf]
end Go.Proofs.Ytgebfpncapfaoaa
