/- What Sees returns, whatever is handed in. -/
import Derived.Test.YtjbfnibhmojlfaaSc
namespace Go.Proofs.Ytjbfnibhmojlfaa
open Go.RowKit
set_option linter.unusedVariables false

theorem ser_yes {A B : Int} {l : List Int} {x y u v : Int} (h : ser A B l x y u v = 0) : ∃ W H a b c d : Nat, A = W ∧ B = H ∧ x = a ∧ y = b ∧ u = c ∧ v = d ∧ a < W ∧ b < H ∧ c < W ∧ d < H ∧ okf W H l := by
  unfold ser at h
  by_cases h1 : cer A B l x y = 0
  · rw [if_pos h1] at h
    obtain ⟨W, H, a, b, rfl, rfl, rfl, rfl, ha, hb, hf⟩ := cer_yes h1
    obtain ⟨W', H', c, d, e1, e2, rfl, rfl, hc, hd, _⟩ := cer_yes h
    exact ⟨W, H, a, b, c, d, rfl, rfl, rfl, rfl, rfl, rfl, ha, hb, by omega, by omega, hf⟩
  · rw [if_neg h1] at h; exact absurd h h1
theorem ser_comm (A B : Int) (l : List Int) (x y u v : Int) : ser A B l x y u v = ser A B l u v x y := by
  unfold ser cer
  by_cases h0 : ck A B l = 0
  · by_cases h1 : inb A B x y = true <;> by_cases h2 : inb A B u v = true <;> simp [h0, h1, h2]
  · simp [h0]
theorem Sees_at (A B : Int) (p : Option Addr) (n c : Nat) (l : List Int) (x y u v E : Int) (b : Bool) (w : World) (hr : row vi w p l) (hn : l.length = n) (hm : n ≤ 9223372036854775807) (hE : Hid (ser A B l x y u v = E)) (hb : Hid ((decide (E = 0) && se A.toNat l x y u v) = b)) :
    Calls Try.prog 56 #[.agg #[.int .i64 A, .int .i64 B, .slice p n c], .agg #[.int .i64 x, .int .i64 y], .agg #[.int .i64 u, .int .i64 v]] w fun e w' => e = .returned (.tuple #[.bool b, .int .i64 E]) ∧ Below w.heap.size w w' := by
  by_cases h0 : E = 0
  · subst h0
    obtain ⟨W, H, a', b', c', d', rfl, rfl, rfl, rfl, rfl, rfl, ha, hb', hc, hd, hf⟩ := ser_yes hE.out
    obtain ⟨a, rfl⟩ := row_some hr (by rw [hf.2.2.1]; exact one_le hf.1 hf.2.1)
    rw [hf.2.2.1] at hn
    subst hn
    exact Sees_ok W H a c l a' b' c' d' b w hr hf ha hb' hc hd (by unfold Hid; have := hb.out; simpa using this)
  · obtain rfl : b = false := by rw [← hb.out, decide_eq_false h0]; rfl
    exact Sees_no A B p n c l x y u v E w hr hn hm hE h0
theorem run_max4 {P : Program} (w : World) (ts : Array TypeId) (t : TypeId) (k k1 k2 k3 : IntKind) (x y z u : Int) : (Builtin.max_ ts t #[.int k x, .int k1 y, .int k2 z, .int k3 u]).run P w = .ok (.int k (mx4 x y z u)) w := by
  have e : ∀ a b : Int, (if b > a then b else a) = mx a b := fun a b => by unfold mx; omega
  simp [Builtin.max_, Builtin.max2, mx4]
  simp only [← e]
theorem mx4_both (x y u v : Int) : mx4 (x - u) (u - x) (y - v) (v - y) = kg x y u v := by unfold mx4 kg mx ds; omega
/-- The boxes of a field and of two cells, later. -/
theorem boxf {w w1 w0 : World} {F : Nat} {a b c d e f g : Value} {t t' : TypeId} (hF : w.heap.size = F) (hw0 : ((w.alloc (.cells #[a, b, c] t)).alloc (.cells #[d, e] t')).alloc (.cells #[f, g] t') = w0) (hb : Below w0.heap.size w0 w1) :
    w1.cell? ⟨F, 0, none⟩ = some a ∧ w1.cell? ⟨F, 1, none⟩ = some b ∧ w1.cell? ⟨F, 2, none⟩ = some c ∧ w1.cell? ⟨F + 1, 0, none⟩ = some d ∧ w1.cell? ⟨F + 1, 1, none⟩ = some e ∧ w1.cell? ⟨F + 2, 0, none⟩ = some f ∧ w1.cell? ⟨F + 2, 1, none⟩ = some g := by
  subst hF
  obtain ⟨h0, h1, h2, h3, h4, h5, h6, _⟩ := boxes3 hw0 hb
  exact ⟨h0, h1, h2, h3, h4, h5, h6⟩
end Go.Proofs.Ytjbfnibhmojlfaa
