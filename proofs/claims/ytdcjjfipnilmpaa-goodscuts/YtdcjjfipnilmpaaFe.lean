/- Whether a troop stands on a cell; whether one has a number: the closures of goods.isFree and of the document's own answer. -/
import Derived.Test.YtdcjjfipnilmpaaWst
namespace Go.Proofs.Ytdcjjfipnilmpaa
open Go.RowKit
set_option linter.unusedVariables false

/-- The first place at which P is true, or less than 0. -/
def fst1 (P : Trp → Bool) (lt : List Trp) (r : Int) : Prop := (r < 0 ∧ ∀ j (h : j < lt.length), P lt[j] = false) ∨ ∃ i : Nat, ∃ h : i < lt.length, r = i ∧ P lt[i] = true
set_option maxRecDepth 20000 in
set_option maxHeartbeats 2000000 in
theorem IndexFunct_any {f : Nat} (hen0 : Enters f) (k0 : Value) (p : Option Addr) (n c : Nat) (lt : List Trp) (P : Trp → Bool) (w : World) (hr : trow w p lt) (hn : lt.length = n) (hm : n ≤ 9223372036854775807)
    (hf : Hid (∀ t V, t ∈ lt → Below w.heap.size w V → Calls Try.prog f #[tv t, k0] V fun e w' => e = .returned (.bool (P t)) ∧ Below V.heap.size V w')) :
    Calls Try.prog 50 #[.slice p n c, .func (.func f) #[] #[k0]] w fun e w' => (∃ r, e = .returned (.int .i64 r) ∧ Hid (fst1 P lt r)) ∧ Below w.heap.size w w' := by
  have hen : ∀ (args : Array Value) (w : World), (callFunc f args).run Try.prog w = .ok (.enter f args) w := hen0
  clear hen0
  have HRT : Hid (trow w p lt) := hr
  have HN : Hid (lt.length = n) := hn
  clear hr hn
  go_enter Try.func50, Try.ntmps50
  go_wp2_with fail
  go_loopw [8] (fun i wr => ∃ k : Nat, i = .int .i64 (k : Int) ∧ k ≤ n ∧ Hid (Below w.heap.size w wr ∧ ∀ j (h : j < lt.length), j < k → P lt[j] = false)) (fun i _ => n - (intOf i).toNat)
  case atStart => exact ⟨0, rfl, by omega, Below.refl _ _, fun j h hj => by omega⟩
  case round =>
    obtain ⟨k, rfl, hk, HS⟩ := hrel
    by_cases hkn : k < n
    · have hkl : k < lt.length := by rw [HN.out]; exact hkn
      obtain ⟨a, rfl, hc⟩ := trow_at (trow_below HRT.out HS.out.1) hkl
      obtain ⟨t, ht⟩ : ∃ t, lt[k] = t := ⟨_, rfl⟩
      have HT : Hid (lt[k] = t) := ht
      obtain ⟨g, hg⟩ : ∃ g, P t = g := ⟨_, rfl⟩
      have HPT : Hid (Calls Try.prog f #[tv t, k0] wr fun e w' => e = .returned (.bool g) ∧ Below wr.heap.size wr w') := by
        have := hf.out t wr (by rw [← ht]; exact List.getElem_mem hkl) HS.out.1
        rw [hg] at this; exact this
      have HG : Hid (P t = g) := hg
      rw [ht] at hc
      clear ht hg
      obtain ⟨ti, to_, tk, tx, ty, tf, td⟩ := t
      obtain ⟨c0, c1, c2, c3, c4, c5, c6⟩ := hc
      simp only at c0 c1 c2 c3 c4 c5 c6
      have l1 : (k : Int) < n := by omega
      have l2 : (0 : Int) ≤ k := by omega
      go_wp2_with fail
      refine Calls.mono HPT.out ?_
      rintro e w5 ⟨rfl, hb5⟩
      have HB5 : Hid (Below w.heap.size w w5) := below_step HS.out.1 HS.out.1.size hb5
      clear hb5 c0 c1 c2 c3 c4 c5 c6
      cases g with
      | true =>
        have HF : Hid (fst1 P lt (k : Int)) := .inr ⟨k, hkl, rfl, by rw [HT.out]; exact HG.out⟩
        go_wp2_with fail
        go_ret
        exact ⟨⟨_, rfl, HF⟩, HB5.out⟩
      | false =>
        have HN2 : Hid (∀ j (h : j < lt.length), j < k + 1 → P lt[j] = false) := fun j h hj => by
          by_cases e : j = k
          · subst e; rw [HT.out]; exact HG.out
          · exact HS.out.2 j h (by omega)
        go_wp2_with fail
        go_roundw
        case rel => exact ⟨k + 1, by go_num, by omega, HB5.out, HN2.out⟩
        case measure => simp [intOf]; omega
    · have HF : Hid (fst1 P lt (-1)) := .inl ⟨by omega, fun j h => HS.out.2 j h (by have := HN.out; omega)⟩
      have HBr : Hid (Below w.heap.size w wr) := HS.out.1
      go_wp2_with fail
      go_ret
      exact ⟨⟨_, rfl, HF⟩, HBr.out⟩
theorem fst1_any {P : Trp → Bool} {lt : List Trp} {r : Int} (h : fst1 P lt r) : decide (0 ≤ r) = lt.any P := by
  rcases h with ⟨h1, h2⟩ | ⟨i, hi, rfl, h2⟩
  · have : lt.any P = false := List.any_eq_false.2 fun x hx => by
      obtain ⟨j, hj, rfl⟩ := List.getElem_of_mem hx
      rw [h2 j hj]; simp
    rw [this]; simp; omega
  · rw [List.any_eq_true.2 ⟨lt[i], List.getElem_mem hi, h2⟩]; simp
set_option maxRecDepth 20000 in
theorem ContainsFunct_any {f : Nat} (hen : Enters f) (k0 : Value) (p : Option Addr) (n c : Nat) (lt : List Trp) (P : Trp → Bool) (b : Bool) (w : World) (hr : trow w p lt) (hn : lt.length = n) (hm : n ≤ 9223372036854775807) (hb : Hid (lt.any P = b))
    (hf : Hid (∀ t V, t ∈ lt → Below w.heap.size w V → Calls Try.prog f #[tv t, k0] V fun e w' => e = .returned (.bool (P t)) ∧ Below V.heap.size V w')) :
    Calls Try.prog 53 #[.slice p n c, .func (.func f) #[] #[k0]] w fun e w' => e = .returned (.bool b) ∧ Below w.heap.size w w' := by
  have HIX : Hid (Calls Try.prog 50 #[.slice p n c, .func (.func f) #[] #[k0]] w fun e w' => (∃ r : Int, e = .returned (.int .i64 r) ∧ Hid (fst1 P lt r)) ∧ Below w.heap.size w w') := IndexFunct_any hen k0 p n c lt P w hr hn hm hf
  clear hf hr hn hen
  go_enter Try.func53, Try.ntmps53
  go_wp2_with fail
  refine Calls.mono HIX.out ?_
  rintro e w1 ⟨⟨r, rfl, hr⟩, hb1⟩
  have HB1 : Hid (Below w.heap.size w w1) := hb1
  have hd := fst1_any hr.out
  rw [hb.out] at hd
  subst hd
  clear hr hb1
  go_wp2_with fail
  go_ret
  exact ⟨rfl, HB1.out⟩
/-- Whether a troop stands on a cell. -/
def onb (x y : Int) (t : Trp) : Bool := decide (t.x = x) && decide (t.y = y)
theorem onb_iff {x y : Int} {t : Trp} : onb x y t = true ↔ t.c = ⟨x, y⟩ := by
  unfold onb Trp.c
  simp
set_option maxRecDepth 20000 in
theorem Free1_at (t : Trp) (x y : Int) (q : Nat) (V : World) (hq : V.cell? ⟨q, 0, none⟩ = some (.int .i64 x)) (hq2 : V.cell? ⟨q, 1, none⟩ = some (.int .i64 y)) : Calls Try.prog 73 #[tv t, .pointer (some ⟨q, 0, none⟩)] V fun e w' => e = .returned (.bool (onb x y t)) ∧ Below V.heap.size V w' := by
  obtain ⟨ti, to_, tk, tx, ty, tf, td⟩ := t
  unfold tv
  dsimp only
  obtain ⟨w0, hw0⟩ : ∃ w0, V.alloc (.cells #[.int .i64 ti, .int .i64 to_, .int .i64 tk, .int .i64 tx, .int .i64 ty, .int .i64 tf, .int .i64 td] 47) = w0 := ⟨_, rfl⟩
  obtain ⟨G, hG⟩ : ∃ G, V.heap.size = G := ⟨_, rfl⟩
  obtain ⟨g0, g1, g2, g3, g4, g5, g6⟩ := boxt hG hw0 (Below.refl _ _)
  have hb : Below V.heap.size V w0 := by rw [← hw0]; exact alloc_below _ _
  have e0 : w0.cell? ⟨q, 0, none⟩ = some (.int .i64 x) := (hb.cell (cell_lt hq)).trans hq
  have e1 : w0.cell? ⟨q, 1, none⟩ = some (.int .i64 y) := (hb.cell (cell_lt hq2)).trans hq2
  have HB : Hid (Below V.heap.size V w0) := hb
  obtain ⟨g, hg⟩ : ∃ g, onb x y ⟨ti, to_, tk, tx, ty, tf, td⟩ = g := ⟨_, rfl⟩
  have HG : Hid (g = (decide (tx = x) && decide (ty = y))) := hg.symm
  rw [hg]
  clear hq hq2 hb hg
  by_cases hx : tx = x
  · subst hx
    have m0_ : (tx == tx) = true := by simp
    by_cases hy : ty = y
    · subst hy
      have m1_ : (ty == ty) = true := by simp
      go_enter Try.func73, Try.ntmps73
      go_wp2_with fail
      go_ret
      exact ⟨by rw [HG.out]; simp, by first | exact HB.out | (rw [← hG]; exact HB.out)⟩
    · have m1_ : (ty == y) = false := by simp [hy]
      have m3_ : decide (ty = y) = false := by simp [hy]
      go_enter Try.func73, Try.ntmps73
      go_wp2_with fail
      go_ret
      exact ⟨by rw [HG.out]; simp [hy], by first | exact HB.out | (rw [← hG]; exact HB.out)⟩
  · have m1_ : (tx == x) = false := by simp [hx]
    have m3_ : decide (tx = x) = false := by simp [hx]
    go_enter Try.func73, Try.ntmps73
    go_wp2_with fail
    go_ret
    exact ⟨by rw [HG.out]; simp [hx], by first | exact HB.out | (rw [← hG]; exact HB.out)⟩
set_option maxRecDepth 20000 in
theorem Free2_at (t : Trp) (x y : Int) (q : Nat) (V : World) (hq : V.cell? ⟨q, 0, none⟩ = some (.int .i64 x)) (hq2 : V.cell? ⟨q, 1, none⟩ = some (.int .i64 y)) : Calls Try.prog 54 #[tv t, .pointer (some ⟨q, 0, none⟩)] V fun e w' => e = .returned (.bool (onb x y t)) ∧ Below V.heap.size V w' := by
  obtain ⟨ti, to_, tk, tx, ty, tf, td⟩ := t
  unfold tv
  dsimp only
  obtain ⟨w0, hw0⟩ : ∃ w0, V.alloc (.cells #[.int .i64 ti, .int .i64 to_, .int .i64 tk, .int .i64 tx, .int .i64 ty, .int .i64 tf, .int .i64 td] 47) = w0 := ⟨_, rfl⟩
  obtain ⟨G, hG⟩ : ∃ G, V.heap.size = G := ⟨_, rfl⟩
  obtain ⟨g0, g1, g2, g3, g4, g5, g6⟩ := boxt hG hw0 (Below.refl _ _)
  have hb : Below V.heap.size V w0 := by rw [← hw0]; exact alloc_below _ _
  have e0 : w0.cell? ⟨q, 0, none⟩ = some (.int .i64 x) := (hb.cell (cell_lt hq)).trans hq
  have e1 : w0.cell? ⟨q, 1, none⟩ = some (.int .i64 y) := (hb.cell (cell_lt hq2)).trans hq2
  have HB : Hid (Below V.heap.size V w0) := hb
  obtain ⟨g, hg⟩ : ∃ g, onb x y ⟨ti, to_, tk, tx, ty, tf, td⟩ = g := ⟨_, rfl⟩
  have HG : Hid (g = (decide (tx = x) && decide (ty = y))) := hg.symm
  rw [hg]
  clear hq hq2 hb hg
  by_cases hx : tx = x
  · subst hx
    have m0_ : (tx == tx) = true := by simp
    by_cases hy : ty = y
    · subst hy
      have m1_ : (ty == ty) = true := by simp
      go_enter Try.func54, Try.ntmps54
      go_wp2_with fail
      go_ret
      exact ⟨by rw [HG.out]; simp, by first | exact HB.out | (rw [← hG]; exact HB.out)⟩
    · have m1_ : (ty == y) = false := by simp [hy]
      have m3_ : decide (ty = y) = false := by simp [hy]
      go_enter Try.func54, Try.ntmps54
      go_wp2_with fail
      go_ret
      exact ⟨by rw [HG.out]; simp [hy], by first | exact HB.out | (rw [← hG]; exact HB.out)⟩
  · have m1_ : (tx == x) = false := by simp [hx]
    have m3_ : decide (tx = x) = false := by simp [hx]
    go_enter Try.func54, Try.ntmps54
    go_wp2_with fail
    go_ret
    exact ⟨by rw [HG.out]; simp [hx], by first | exact HB.out | (rw [← hG]; exact HB.out)⟩
set_option maxRecDepth 20000 in
theorem Who1_at (t : Trp) (i : Int) (q : Nat) (V : World) (hq : V.cell? ⟨q, 1, none⟩ = some (.int .i64 i)) : Calls Try.prog 51 #[tv t, .pointer (some ⟨q, 0, none⟩)] V fun e w' => e = .returned (.bool (t.i == i)) ∧ Below V.heap.size V w' := by
  obtain ⟨ti, to_, tk, tx, ty, tf, td⟩ := t
  unfold tv
  dsimp only
  obtain ⟨w0, hw0⟩ : ∃ w0, V.alloc (.cells #[.int .i64 ti, .int .i64 to_, .int .i64 tk, .int .i64 tx, .int .i64 ty, .int .i64 tf, .int .i64 td] 47) = w0 := ⟨_, rfl⟩
  obtain ⟨G, hG⟩ : ∃ G, V.heap.size = G := ⟨_, rfl⟩
  obtain ⟨g0, g1, g2, g3, g4, g5, g6⟩ := boxt hG hw0 (Below.refl _ _)
  have hb : Below V.heap.size V w0 := by rw [← hw0]; exact alloc_below _ _
  have e0 : w0.cell? ⟨q, 1, none⟩ = some (.int .i64 i) := (hb.cell (cell_lt hq)).trans hq
  have HB : Hid (Below V.heap.size V w0) := hb
  obtain ⟨r, hr⟩ : ∃ r, (ti == i) = r := ⟨_, rfl⟩
  rw [hr]
  clear hq hb
  go_enter Try.func51, Try.ntmps51
  go_wp2_with fail
  go_ret
  exact ⟨rfl, by first | exact HB.out | (rw [← hG]; exact HB.out)⟩
theorem cell_call2 {w w' : World} {p : Addr} {v : Value} (h : w.cell? p = some v) (hb : Below w.heap.size w w') : w'.cell? p = some v := (hb.cell (cell_lt h)).trans h
end Go.Proofs.Ytdcjjfipnilmpaa
