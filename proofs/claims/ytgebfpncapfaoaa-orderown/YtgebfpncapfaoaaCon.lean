/- What Check returns of a field, and what it is made of. -/
import Derived.Test.YtgebfpncapfaoaaOwn
namespace Go.Proofs.Ytgebfpncapfaoaa
open Go.RowKit
set_option linter.unusedVariables false

/-- A field as a value. -/
def fv (W H : Int) (v : Value) : Value := .agg #[.int .i64 W, .int .i64 H, v]
def sd (n : Int) : Bool := decide (1 ≤ n) && decide (n ≤ 40)
def bad (x : Int) : Bool := decide (x < 0) || decide (4 ≤ x)
/-- Which error a field is of. -/
def ck (W H : Int) (l : List Int) : Int := if sd W = true ∧ sd H = true then (if (l.length : Int) = W * H ∧ l.any bad = false then 0 else 4) else 1

theorem isSide_any (n : Int) (w : World) : Calls Try.prog 77 #[.int .i64 n] w fun e w' => e = .returned (.bool (sd n)) ∧ w' = w := by
  go_enter Try.func77, Try.ntmps77
  go_wp2
  all_goals
    go_ret
    exact ⟨by unfold sd; simp_all <;> omega, rfl⟩
theorem isNoSort_any (n : Int) (w : World) : Calls Try.prog 79 #[.int .i64 n] w fun e w' => e = .returned (.bool (bad n)) ∧ w' = w := by
  go_enter Try.func79, Try.ntmps79
  go_wp2
  all_goals
    go_ret
    exact ⟨by unfold bad; simp_all <;> omega, rfl⟩
theorem isNoSort_at (n : Int) (b : Bool) (w : World) (h : Hid (bad n = b)) : Calls Try.prog 79 #[.int .i64 n] w fun e w' => e = .returned (.bool b) ∧ w' = w := by rw [← h.out]; exact isNoSort_any n w
theorem isSide_at (n : Int) (b : Bool) (w : World) (h : Hid (sd n = b)) : Calls Try.prog 77 #[.int .i64 n] w fun e w' => e = .returned (.bool b) ∧ w' = w := by rw [← h.out]; exact isSide_any n w

theorem wrp {e : Int} (h0 : -9223372036854775808 ≤ e) (h1 : e ≤ 9223372036854775807) : IntKind.i64.wrap e = e := by simp [IntKind.wrap, IntKind.bits, IntKind.signed]; omega
/-- The first bad one's place, or -1. -/
theorem any_take {P : Int → Bool} {l : List Int} {k : Nat} (hk : k < l.length) (h : (l.take k).any P = false) : (l.take (k + 1)).any P = P l[k] := by
  rw [List.take_succ_eq_append_getElem hk, List.any_append, h]; simp
/-- A function that looks at one number and only computes. -/
def Enters (f : Nat) : Prop := ∀ (args : Array Value) (w : World), (callFunc f args).run Try.prog w = .ok (.enter f args) w
def Asks (f : Nat) (P : Int → Bool) : Prop := Enters f ∧ ∀ n b w, Hid (P n = b) → Calls Try.prog f #[.int .i64 n] w fun e w' => e = .returned (.bool b) ∧ w' = w
set_option maxRecDepth 20000 in
set_option maxHeartbeats 1000000 in
theorem IndexFunc_any {f : Nat} {P : Int → Bool} (hP : Asks f P) (p : Option Addr) (c : Nat) (l : List Int) (w : World) (hr : row vi w p l) (hm : l.length ≤ 9223372036854775807) :
    Calls Try.prog 86 #[.slice p l.length c, .func (.func f) #[] #[]] w fun e w' => (∃ r : Int, e = .returned (.int .i64 r) ∧ decide (0 ≤ r) = l.any P) ∧ w' = w := by
  have HPP : Hid (∀ n b w, Hid (P n = b) → Calls Try.prog f #[.int .i64 n] w fun e w' => e = .returned (.bool b) ∧ w' = w) := hP.2
  have hen : ∀ (args : Array Value) (w : World), (callFunc f args).run Try.prog w = .ok (.enter f args) w := hP.1
  clear hP
  have H1 : Hid (row vi w p l) := hr
  obtain ⟨n, hn⟩ : ∃ n, l.length = n := ⟨_, rfl⟩
  rw [hn] at hm ⊢
  have HN : Hid (l.length = n) := hn
  clear hr hn
  go_enter Try.func86, Try.ntmps86
  go_wp2_with fail
  go_loop [8] (fun i => ∃ k : Nat, i = .int .i64 k ∧ k ≤ n ∧ Hid ((l.take k).any P = false)) (fun i => n - (intOf i).toNat)
  case atStart => exact ⟨0, rfl, by omega, by unfold Hid; simp⟩
  case round =>
    obtain ⟨k, rfl, hk, HK⟩ := hrel
    by_cases hlt : k < n
    · have hkl : k < l.length := by rw [HN.out]; exact hlt
      obtain ⟨a, rfl, ha⟩ := row_at H1.out hkl
      have hat := any_take hkl HK.out
      have HT : Hid ((l.take (k + 1)).any P = true → l.any P = true) := fun h => by
        rw [← List.take_append_drop (k + 1) l, List.any_append, h]; rfl
      obtain ⟨X, hX⟩ : ∃ X, l[k] = X := ⟨_, rfl⟩
      rw [hX] at ha hat
      have ha' : w.cell? (a.add k) = some (.int .i64 X) := ha
      clear ha hX
      have HA : Hid ((l.take (k + 1)).any P = P X) := hat
      clear hat
      have l1 : (k : Int) < n := by omega
      have l2 : (0 : Int) ≤ k := by omega
      cases hb : P X with
      | true =>
        have HB : Hid (P X = true) := hb
        clear hb
        go_wp2_with fail
        refine (HPP.out X true _ HB).mono ?_
        rintro e w' ⟨rfl, hw⟩; subst w'
        go_wp2_with fail
        go_ret
        refine ⟨⟨_, rfl, ?_⟩, rfl⟩
        rw [HT.out (by rw [HA.out]; exact HB.out)]; simp
      | false =>
        have HB : Hid (P X = false) := hb
        clear hb
        go_wp2_with fail
        refine (HPP.out X false _ HB).mono ?_
        rintro e w' ⟨rfl, hw⟩; subst w'
        go_wp2_with fail
        go_round
        case rel => exact ⟨k + 1, by go_num, by omega, by unfold Hid; rw [HA.out]; exact HB.out⟩
        case measure => simp [intOf]; omega
    · have HE : Hid (l.any P = false) := by
        have e : l.take k = l := List.take_of_length_le (by rw [HN.out]; omega)
        have := HK.out; rw [e] at this; exact this
      go_wp2_with fail
      go_ret
      exact ⟨⟨_, rfl, by rw [HE.out]; decide⟩, rfl⟩
set_option maxRecDepth 20000 in
theorem ContainsFunc_any {f : Nat} {P : Int → Bool} (hP : Asks f P) (p : Option Addr) (n c : Nat) (l : List Int) (b : Bool) (w : World) (hr : row vi w p l) (hn : l.length = n) (hm : n ≤ 9223372036854775807) (hb : Hid (l.any P = b)) :
    Calls Try.prog 78 #[.slice p n c, .func (.func f) #[] #[]] w fun e w' => e = .returned (.bool b) ∧ w' = w := by
  subst hn
  have HPP : Hid (Asks f P) := hP
  clear hP
  have H1 : Hid (row vi w p l) := hr
  clear hr
  go_enter Try.func78, Try.ntmps78
  go_wp2_with fail
  refine (IndexFunc_any HPP.out p c l w H1.out hm).mono ?_
  rintro e w' ⟨⟨r, rfl, hd⟩, hw⟩; subst w'
  rw [hb.out] at hd
  subst hd
  go_wp2_with fail
  go_ret
  exact ⟨rfl, rfl⟩

/-- A struct of three cells in a box of its own: there for as long as nothing below turns. -/
theorem box3 {w w1 : World} {a b c : Value} {t : TypeId} (hb : Below (w.alloc (.cells #[a, b, c] t)).heap.size (w.alloc (.cells #[a, b, c] t)) w1) :
    w1.cell? ⟨w.heap.size, 0, none⟩ = some a ∧ w1.cell? ⟨w.heap.size, 1, none⟩ = some b ∧ w1.cell? ⟨w.heap.size, 2, none⟩ = some c := by
  refine ⟨?_, ?_, ?_⟩
  all_goals
    rw [hb.cell (by simp <;> omega)]
    simp [go_sem]

set_option maxRecDepth 20000 in
set_option maxHeartbeats 1000000 in
theorem Check_any (W H : Int) (p : Option Addr) (n c : Nat) (l : List Int) (w : World) (hr : row vi w p l) (hn : l.length = n) (hm : n ≤ 9223372036854775807) :
    Calls Try.prog 65 #[fv W H (.slice p n c)] w fun e w' => e = .returned (.int .i64 (ck W H l)) ∧ Below w.heap.size w w' := by
  have H1 : Hid (row vi w p l) := hr
  have HN : Hid (l.length = n) := hn
  clear hr hn
  unfold fv
  cases hW : sd W with
  | false =>
    have HW : Hid (sd W = false) := hW
    clear hW
    go_enter Try.func65, Try.ntmps65
    go_wp2_with fail
    refine (isSide_at W false _ HW).mono ?_
    rintro e w' ⟨rfl, hw⟩; subst w'
    go_wp2_with fail
    go_ret
    exact ⟨ret_int (by unfold ck; rw [HW.out]; simp), alloc_below _ _⟩
  | true =>
    have HW : Hid (sd W = true) := hW
    clear hW
    cases hH : sd H with
    | false =>
      have HH : Hid (sd H = false) := hH
      clear hH
      go_enter Try.func65, Try.ntmps65
      go_wp2_with fail
      refine (isSide_at W true _ HW).mono ?_
      rintro e w' ⟨rfl, hw⟩; subst w'
      go_wp2_with fail
      refine (isSide_at H false _ HH).mono ?_
      rintro e w' ⟨rfl, hw⟩; subst w'
      go_wp2_with fail
      go_ret
      exact ⟨ret_int (by unfold ck; rw [HH.out]; simp), alloc_below _ _⟩
    | true =>
      have HH : Hid (sd H = true) := hH
      clear hH
      have hw1 : 1 ≤ W ∧ W ≤ 40 := by have := HW.out; unfold sd at this; simpa using this
      have hh1 : 1 ≤ H ∧ H ≤ 40 := by have := HH.out; unfold sd at this; simpa using this
      obtain ⟨M, hM⟩ : ∃ M : Int, W * H = M := ⟨_, rfl⟩
      have hM0 : 0 ≤ M ∧ M ≤ 1600 := by
        rw [← hM]
        refine ⟨Int.mul_nonneg (by omega) (by omega), ?_⟩
        have := Int.mul_le_mul hw1.2 hh1.2 (by omega) (by omega); omega
      have hwr : IntKind.i64.wrap (W * H) = M := by rw [hM]; exact wrp (by omega) (by omega)
      have HM : Hid (W * H = M) := hM
      clear hM
      have hb := alloc_below w (.cells #[.int .i64 W, .int .i64 H, .slice p n c] 37)
      have HB : Hid (Below w.heap.size w (w.alloc (.cells #[.int .i64 W, .int .i64 H, .slice p n c] 37))) := hb
      clear hb
      by_cases he : (n : Int) = M
      · have e1 : ((n : Int) == M) = true := by simp [he]
        cases hB : l.any bad with
        | false =>
          have HF : Hid (l.any bad = false) := hB
          clear hB
          go_enter Try.func65, Try.ntmps65
          go_wp2_with fail
          refine (isSide_at W true _ HW).mono ?_
          rintro e w' ⟨rfl, hw⟩; subst w'
          go_wp2_with fail
          refine (isSide_at H true _ HH).mono ?_
          rintro e w' ⟨rfl, hw⟩; subst w'
          go_wp2_with fail
          refine (ContainsFunc_any ⟨Try.call79, isNoSort_at⟩ p n c l false _ (row_below H1.out HB.out) HN.out hm HF).mono ?_
          rintro e w' ⟨rfl, hw⟩; subst w'
          go_wp2_with fail
          go_ret
          exact ⟨ret_int (by unfold ck; rw [HW.out, HH.out, HF.out, HN.out, HM.out]; simp [he]), HB.out⟩
        | true =>
          have HF : Hid (l.any bad = true) := hB
          clear hB
          go_enter Try.func65, Try.ntmps65
          go_wp2_with fail
          refine (isSide_at W true _ HW).mono ?_
          rintro e w' ⟨rfl, hw⟩; subst w'
          go_wp2_with fail
          refine (isSide_at H true _ HH).mono ?_
          rintro e w' ⟨rfl, hw⟩; subst w'
          go_wp2_with fail
          refine (ContainsFunc_any ⟨Try.call79, isNoSort_at⟩ p n c l true _ (row_below H1.out HB.out) HN.out hm HF).mono ?_
          rintro e w' ⟨rfl, hw⟩; subst w'
          go_wp2_with fail
          go_ret
          exact ⟨ret_int (by unfold ck; rw [HW.out, HH.out, HF.out]; simp), HB.out⟩
      · have e1 : ((n : Int) == M) = false := by simp [he]
        go_enter Try.func65, Try.ntmps65
        go_wp2_with fail
        refine (isSide_at W true _ HW).mono ?_
        rintro e w' ⟨rfl, hw⟩; subst w'
        go_wp2_with fail
        refine (isSide_at H true _ HH).mono ?_
        rintro e w' ⟨rfl, hw⟩; subst w'
        go_wp2_with fail
        go_ret
        exact ⟨ret_int (by unfold ck; rw [HW.out, HH.out, HN.out, HM.out]; simp [he]), HB.out⟩
end Go.Proofs.Ytgebfpncapfaoaa
