/- Turn, Check, At and Clone as the law of turns uses them. -/
import Derived.Test.YtccapbojhgemmaaTn
import Derived.Test.YtccapbojhgemmaaTp
import Derived.Test.YtccapbojhgemmaaUse
import Derived.Test.YtccapbojhgemmaaCl
import Derived.Test.YtccapbojhgemmaaSrt
namespace Go.Proofs.Ytccapbojhgemmaa
open Go.RowKit
set_option linter.unusedVariables false

/-- A right field of n places. -/
def rgt (W H n : Nat) (l : List Int) : Prop := (1 ≤ W ∧ W ≤ 40) ∧ (1 ≤ H ∧ H ≤ 40) ∧ W * H = n ∧ l.length = n ∧ l.any bad = false
theorem rgt_tn {W H n : Nat} {l : List Int} (h : rgt W H n l) : rgt H W n (tn W H l) := ⟨h.2.1, h.1, by rw [Nat.mul_comm]; exact h.2.2.1, by rw [tn_len]; exact h.2.2.1, tn_good h.2.2.2.2⟩
theorem Turn_n (W H n : Nat) (a : Addr) (c : Nat) (l : List Int) (w : World) (hr : row vi w (some a) l) (h : rgt W H n l) (hc : n ≤ c) :
    Calls Try.prog 10 #[.agg #[.int .i64 (W : Int), .int .i64 (H : Int), .slice (some a) n c]] w fun e w' => ∃ P : Nat, e = .returned (.tuple #[.agg #[.int .i64 (H : Int), .int .i64 (W : Int), .slice (some ⟨P, 0, none⟩) n n], .int .i64 0]) ∧ row vi w' (some ⟨P, 0, none⟩) (tn W H l) ∧ Below w.heap.size w w' := by
  obtain ⟨hW, hH, hn, hl, hg⟩ := h
  subst hn
  refine (Turn_ok W H a c l w hr hW hH hl hg hc).mono ?_
  rintro e w' ⟨P, rfl, hm, hb⟩
  obtain ⟨p, c', hv, hr', _⟩ := mine_full hm
  injection hv with h1 _ _
  subst h1
  exact ⟨P, rfl, hr', hb⟩
theorem Check_n (W H n : Nat) (p : Option Addr) (c : Nat) (l : List Int) (w : World) (hr : row vi w p l) (h : rgt W H n l) :
    Calls Try.prog 11 #[.agg #[.int .i64 (W : Int), .int .i64 (H : Int), .slice p n c]] w fun e w' => e = .returned (.int .i64 0) ∧ Below w.heap.size w w' := by
  obtain ⟨hW, hH, hn, hl, hg⟩ := h
  have hwh := wh_le hW hH
  refine Check_at W H p n c l 0 w hr hl (by omega) (ck_ok hW hH (by rw [hn]; exact hl) hg)
theorem At_n (W H n : Nat) (a : Addr) (c : Nat) (l : List Int) (X Y : Nat) (Z : Int) (w : World) (hr : row vi w (some a) l) (h : rgt W H n l) (hX : X < W) (hY : Y < H) (hZ : Hid (l.getD (Y * W + X) 0 = Z)) :
    Calls Try.prog 14 #[.agg #[.int .i64 (W : Int), .int .i64 (H : Int), .slice (some a) n c], .agg #[.int .i64 (X : Int), .int .i64 (Y : Int)]] w fun e w' => e = .returned (.tuple #[.int .i64 Z, .int .i64 0]) ∧ Below w.heap.size w w' := by
  obtain ⟨hW, hH, hn, hl, hg⟩ := h
  subst hn
  exact At_in W H a c l X Y Z w hr hW hH hl hg hX hY hZ
/-- A copy of one's own: where it lies. -/
theorem Clone_n (a : Addr) (n c : Nat) (l : List Int) (w : World) (hr : row vi w (some a) l) (hl : l.length = n) (h1 : 1 ≤ n) (h2 : n ≤ 1600) :
    Calls Try.prog 12 #[.slice (some a) n c] w fun e w' => ∃ g c', e = .returned (.slice (some ⟨g, 0, none⟩) n c') ∧ w.heap.size ≤ g ∧ g < w'.heap.size ∧ mine 3 vi w.heap.size w' (.slice (some ⟨g, 0, none⟩) n c') l ∧ Below w.heap.size w w' := by
  refine (Clone_any (some a) n c l w hr hl (fun h => by cases h) (by omega)).mono ?_
  rintro e w' ⟨v, rfl, hm, hb⟩
  have hm' := hm
  rcases hm.2 with ⟨_, h0⟩ | ⟨g, cap, cur, rfl, hB, hblk, _⟩
  · omega
  · subst hl
    exact ⟨g, cap, rfl, hB, (Array.getElem?_eq_some_iff.1 hblk).1, hm', hb⟩
theorem zero_ck : ck 0 0 [] = 1 := by decide
theorem Turn_zero (w : World) : Calls Try.prog 10 #[.agg #[.int .i64 0, .int .i64 0, .slice none 0 0]] w fun e w' => e = .returned (.tuple #[.agg #[.int .i64 0, .int .i64 0, .slice none 0 0], .int .i64 1]) ∧ Below w.heap.size w w' :=
  Turn_no 0 0 none 0 0 [] 1 w (row_nil _ _ _) rfl (by omega) zero_ck (by decide)
/-- Two cells, as long as nothing below turns. -/
theorem kp_drew {w V : World} {x y : Addr} {s t : Value} (h : Below w.heap.size w V ∧ V.cell? x = some s ∧ V.cell? y = some t) : Below w.heap.size w V.drew ∧ V.drew.cell? x = some s ∧ V.drew.cell? y = some t := ⟨h.1.drew, h.2.1, h.2.2⟩
theorem kp_drewN {w V : World} {x y : Addr} {s t : Value} (h : Below w.heap.size w V ∧ V.cell? x = some s ∧ V.cell? y = some t) (n : Nat) : Below w.heap.size w (V.drewN n) ∧ (V.drewN n).cell? x = some s ∧ (V.drewN n).cell? y = some t := ⟨below_drewN h.1 n, h.2.1, h.2.2⟩
theorem kp_call {w V V' : World} {x y : Addr} {s t : Value} (h : Below w.heap.size w V ∧ V.cell? x = some s ∧ V.cell? y = some t) (hb : Below V.heap.size V V') : Below w.heap.size w V' ∧ V'.cell? x = some s ∧ V'.cell? y = some t :=
  ⟨h.1.trans (hb.mono h.1.size), by rw [hb.cell (cell_lt h.2.1)]; exact h.2.1, by rw [hb.cell (cell_lt h.2.2)]; exact h.2.2⟩
end Go.Proofs.Ytccapbojhgemmaa
