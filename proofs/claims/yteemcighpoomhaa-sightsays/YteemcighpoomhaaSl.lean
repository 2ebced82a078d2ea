/- What Sees returns, whatever is handed in; the package lives: a rock between. -/
import Derived.Test.YteemcighpoomhaaSc
namespace Go.Proofs.Yteemcighpoomhaa
open Go.RowKit
set_option linter.unusedVariables false

theorem ser_yes {A B : Int} {l : List Int} {x y u v : Int} (h : ser A B l x y u v = 0) : ∃ W H a b c d : Nat, A = W ∧ B = H ∧ x = a ∧ y = b ∧ u = c ∧ v = d ∧ a < W ∧ b < H ∧ c < W ∧ d < H ∧ okf W H l := by
  unfold ser at h
  by_cases h1 : cer A B l x y = 0
  · rw [if_pos h1] at h
    obtain ⟨W, H, a, b, rfl, rfl, rfl, rfl, ha, hb, hf⟩ := cer_yes h1
    obtain ⟨W', H', c, d, e1, e2, rfl, rfl, hc, hd, _⟩ := cer_yes h
    exact ⟨W, H, a, b, c, d, rfl, rfl, rfl, rfl, rfl, rfl, ha, hb, by omega, by omega, hf⟩
  · rw [if_neg h1] at h; exact absurd h h1
theorem ser_comm (A B : Int) (l : List Int) (x y u v : Int) : ser A B l x y u v = ser A B l u v x y := by
  unfold ser cer
  by_cases h0 : ck A B l = 0
  · by_cases h1 : inb A B x y = true <;> by_cases h2 : inb A B u v = true <;> simp [h0, h1, h2]
  · simp [h0]
theorem Sees_at (A B : Int) (p : Option Addr) (n c : Nat) (l : List Int) (x y u v E : Int) (b : Bool) (w : World) (hr : row vi w p l) (hn : l.length = n) (hm : n ≤ 9223372036854775807) (hE : Hid (ser A B l x y u v = E)) (hb : Hid ((decide (E = 0) && se A.toNat l x y u v) = b)) :
    Calls Try.prog 9 #[.agg #[.int .i64 A, .int .i64 B, .slice p n c], .agg #[.int .i64 x, .int .i64 y], .agg #[.int .i64 u, .int .i64 v]] w fun e w' => e = .returned (.tuple #[.bool b, .int .i64 E]) ∧ Below w.heap.size w w' := by
  by_cases h0 : E = 0
  · subst h0
    obtain ⟨W, H, a', b', c', d', rfl, rfl, rfl, rfl, rfl, rfl, ha, hb', hc, hd, hf⟩ := ser_yes hE.out
    obtain ⟨a, rfl⟩ := row_some hr (by rw [hf.2.2.1]; exact one_le hf.1 hf.2.1)
    rw [hf.2.2.1] at hn
    subst hn
    exact Sees_ok W H a c l a' b' c' d' b w hr hf ha hb' hc hd (by unfold Hid; have := hb.out; simpa using this)
  · obtain rfl : b = false := by rw [← hb.out, decide_eq_false h0]; rfl
    exact Sees_no A B p n c l x y u v E w hr hn hm hE h0
set_option maxRecDepth 20000 in
set_option maxHeartbeats 1000000 in
theorem lives_any (w : World) : Calls Try.prog 14 #[] w fun e w' => e = .returned (.bool true) ∧ Below w.heap.size w w' := by
  have HC1 : Hid (∀ (c : Nat) (a : Addr) (V : World), row vi V (some a) [0, 1, 0, 0, 0, 0] → _) := fun (c : Nat) (a : Addr) (V : World) hV => Sees_at 3 2 (some a) 6 c [0, 1, 0, 0, 0, 0] 0 0 2 0 0 false V hV rfl (by decide) (by unfold Hid; decide) (by unfold Hid; decide)
  have HC2 : Hid (∀ (c : Nat) (a : Addr) (V : World), row vi V (some a) [0, 1, 0, 0, 0, 0] → _) := fun (c : Nat) (a : Addr) (V : World) hV => Sees_at 3 2 (some a) 6 c [0, 1, 0, 0, 0, 0] 0 1 2 1 0 true V hV rfl (by decide) (by unfold Hid; decide) (by unfold Hid; decide)
  go_enter Try.func14, Try.ntmps14
  go_wp2_with fail
  refine (Read_ts 3 2 [0, 1, 0, 0, 0, 0] _ w (by decide) (by decide) rfl (by decide) (by decide)).mono ?_
  rintro e w1 ⟨v, rfl, hm, hb1⟩
  obtain ⟨a, c, rfl, hr, hc⟩ := mine_some (n := 6) hm rfl (by decide)
  obtain ⟨w2, hw2⟩ : ∃ w2, w1.alloc (.cells #[.int .i64 3, .int .i64 2, .slice (some a) 6 c] 24) = w2 := ⟨_, rfl⟩
  have hb2 : Below w1.heap.size w1 w2 := by rw [← hw2]; exact alloc_below _ _
  have HR : Hid (row vi w2 (some a) [0, 1, 0, 0, 0, 0]) := row_below hr hb2
  have HB2 : Hid (Below w.heap.size w w2) := hb1.trans (hb2.mono hb1.size)
  obtain ⟨z0, z1, z2⟩ : w2.cell? ⟨w1.heap.size, 0, none⟩ = some (.int .i64 3) ∧ w2.cell? ⟨w1.heap.size, 1, none⟩ = some (.int .i64 2) ∧ w2.cell? ⟨w1.heap.size, 2, none⟩ = some (.slice (some a) 6 c) := by rw [← hw2]; exact box3 (Below.refl _ _)
  clear hm hb1 hr hb2
  go_wp2_with fail
  refine (HC1.out c a w2 HR.out).mono ?_
  rintro e w3 ⟨rfl, hb3⟩
  have HB3 : Hid (Below w.heap.size w w3) := HB2.out.trans (hb3.mono HB2.out.size)
  have HR3 : Hid (row vi w3 (some a) [0, 1, 0, 0, 0, 0]) := row_below HR.out hb3
  have y0 := (hb3.cell (cell_lt z0)).trans z0
  have y1 := (hb3.cell (cell_lt z1)).trans z1
  have y2 := (hb3.cell (cell_lt z2)).trans z2
  clear hb3 hw2 z0 z1 z2
  go_wp2_with fail
  refine (HC2.out c a w3 HR3.out).mono ?_
  rintro e w4 ⟨rfl, hb4⟩
  have HB4 : Hid (Below w.heap.size w w4) := HB3.out.trans (hb4.mono HB3.out.size)
  clear hb4
  go_wp2_with fail
  go_ret
  exact ⟨rfl, HB4.out⟩
theorem run_max4 {P : Program} (w : World) (ts : Array TypeId) (t : TypeId) (k k1 k2 k3 : IntKind) (x y z u : Int) : (Builtin.max_ ts t #[.int k x, .int k1 y, .int k2 z, .int k3 u]).run P w = .ok (.int k (mx4 x y z u)) w := by
  have e : ∀ a b : Int, (if b > a then b else a) = mx a b := fun a b => by unfold mx; omega
  simp [Builtin.max_, Builtin.max2, mx4]
  simp only [← e]
theorem mx4_both (x y u v : Int) : mx4 (x - u) (u - x) (y - v) (v - y) = kg x y u v := by unfold mx4 kg mx ds; omega
/-- The boxes of a field and of two cells, later. -/
theorem boxf {w w1 w0 : World} {F : Nat} {a b c d e f g : Value} {t t' : TypeId} (hF : w.heap.size = F) (hw0 : ((w.alloc (.cells #[a, b, c] t)).alloc (.cells #[d, e] t')).alloc (.cells #[f, g] t') = w0) (hb : Below w0.heap.size w0 w1) :
    w1.cell? ⟨F, 0, none⟩ = some a ∧ w1.cell? ⟨F, 1, none⟩ = some b ∧ w1.cell? ⟨F, 2, none⟩ = some c ∧ w1.cell? ⟨F + 1, 0, none⟩ = some d ∧ w1.cell? ⟨F + 1, 1, none⟩ = some e ∧ w1.cell? ⟨F + 2, 0, none⟩ = some f ∧ w1.cell? ⟨F + 2, 1, none⟩ = some g := by
  subst hF
  obtain ⟨h0, h1, h2, h3, h4, h5, h6, _⟩ := boxes3 hw0 hb
  exact ⟨h0, h1, h2, h3, h4, h5, h6⟩
end Go.Proofs.Yteemcighpoomhaa
