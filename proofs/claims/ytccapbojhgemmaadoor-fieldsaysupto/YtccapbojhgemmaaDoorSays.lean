/- The law of all answers, whatever is handed in. -/
import Derived.Test.YtccapbojhgemmaaDoorSaysNo
import Derived.Test.YtccapbojhgemmaaDoorSaysIn
namespace Go.Proofs.YtccapbojhgemmaaDoor
open Go.RowKit
set_option linter.unusedVariables false

theorem Says_any (s0 : Fld) (s1 : ByteArray) (X Y : Int) (w : World) (h0 : s0.fit w) (hs0 : s0.l.length ≤ 1048576) (hs1 : s1.size ≤ 1048576) :
    Calls Tryd.prog 3 #[s0.val, .string s1, .agg #[.int .i64 X, .int .i64 Y]] w fun e w' => e = .returned (.bool true) ∧ Below w.heap.size w w' := by
  obtain ⟨A, B, p, c, l⟩ := s0
  unfold Fld.val
  dsimp only
  obtain ⟨_, _, hrow, hfl, hmax, hpn, hcap⟩ := h0
  dsimp only at hrow hfl hmax hpn hcap
  obtain ⟨A1, C1, L1, R, hL1, HRD⟩ := rd_form s1
  obtain ⟨E, hE⟩ : ∃ E, ck A B l = E := ⟨_, rfl⟩
  obtain ⟨t, ht⟩ := wr_form A B p l.length c l E rfl hmax hcap hE
  by_cases hck : E = 0
  · subst hck
    obtain ⟨W, H, e1, e2, hW, hH, hl, hg⟩ := ck_yes hE
    subst e1 e2
    obtain ⟨a, ha⟩ := row_some hrow (by rw [hl]; exact one_le hW hH)
    subst ha
    rw [hl] at ht hcap ⊢
    by_cases hin : X < 0 ∨ (W : Int) ≤ X ∨ Y < 0 ∨ (H : Int) ≤ Y
    · exact Says_out W H a c l s1 X Y A1 C1 L1 R L1.length t w hrow ⟨hW, hH, hl, hg⟩ hcap hs1 hin rfl hL1 HRD ht
    · obtain ⟨x, hx⟩ : ∃ x : Nat, X = x := ⟨X.toNat, by omega⟩
      obtain ⟨y, hy⟩ : ∃ y : Nat, Y = y := ⟨Y.toNat, by omega⟩
      subst hx hy
      exact Says_in W H a c l s1 x y A1 C1 L1 R L1.length t w hrow ⟨hW, hH, hl, hg⟩ hcap hs1 (by omega) (by omega) rfl hL1 HRD ht
  · exact Says_no A B p l.length c l s1 X Y E A1 C1 L1 R L1.length t w hrow rfl hmax hs1 hE hck rfl hL1 HRD ht
end Go.Proofs.YtccapbojhgemmaaDoor
