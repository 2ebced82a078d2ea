/- What the laws use: Read of a field's own text, of what is none; that the package lives. -/
import Derived.Test.YteemcighpoomhaaBk
import Derived.Test.YteemcighpoomhaaAt
namespace Go.Proofs.Yteemcighpoomhaa
open Go.RowKit
set_option linter.unusedVariables false

theorem Read_ts (W H : Nat) (l : List Int) (s : ByteArray) (w : World) (hW : 1 ≤ W ∧ W ≤ 40) (hH : 1 ≤ H ∧ H ≤ 40) (hl : l.length = W * H) (hg : l.any bad = false) (hs : ts W H l = s) :
    Calls Try.prog 24 #[.string s] w fun e w' => ∃ v, e = .returned (.tuple #[.agg #[.int .i64 (W : Int), .int .i64 (H : Int), v], .int .i64 0]) ∧ mine 3 vi w.heap.size w' v l ∧ Below w.heap.size w w' := by
  subst hs
  refine (Read_any (ts W H l) w).mono ?_
  rintro e w' ⟨(⟨_, v, rfl, hm⟩ | ⟨hn, _⟩), hb⟩
  · rw [bs_ts, gl_txt hl hg] at hm
    rw [bs_ts, gw_txt hl hH.1, gh_txt]
    exact ⟨v, rfl, hm, hb⟩
  · exact absurd (rok_ts hW hH hl hg) hn
theorem Read_none (s : ByteArray) (w : World) (h : ¬ rok s) :
    Calls Try.prog 24 #[.string s] w fun e w' => e = .returned (.tuple #[.agg #[.int .i64 0, .int .i64 0, .slice none 0 0], .int .i64 4]) ∧ Below w.heap.size w w' := by
  refine (Read_any s w).mono ?_
  rintro e w' ⟨(⟨hn, _⟩ | ⟨_, rfl⟩), hb⟩
  · exact absurd hn h
  · exact ⟨rfl, hb⟩
theorem mine_some {n : Nat} {B : Nat} {w : World} {v : Value} {l : List Int} (h : mine 3 vi B w v l) (hl : l.length = n) (hn : 1 ≤ n) : ∃ a c, v = .slice (some a) n c ∧ row vi w (some a) l ∧ n ≤ c := by
  obtain ⟨p, c, rfl, hr, hc, _⟩ := mine_full h
  obtain ⟨a, rfl⟩ := row_some hr (by omega)
  subst hl
  exact ⟨a, c, rfl, hr, hc⟩
theorem Write_ts (W H : Nat) (a : Addr) (c : Nat) (l : List Int) (s : ByteArray) (w : World) (hr : row vi w (some a) l) (hW : 1 ≤ W ∧ W ≤ 40) (hH : 1 ≤ H ∧ H ≤ 40) (hl : l.length = W * H) (hg : l.any bad = false) (hc : W * H ≤ c) (hs : ts W H l = s) :
    Calls Try.prog 32 #[.agg #[.int .i64 (W : Int), .int .i64 (H : Int), .slice (some a) (W * H) c]] w fun e w' => e = .returned (.tuple #[.string s, .int .i64 0]) ∧ Below w.heap.size w w' := by
  subst hs; exact Write_ok W H a c l w hr hW hH hl hg hc
theorem ts_size {W H : Nat} {l : List Int} (hl : l.length = W * H) : (ts W H l).size = (W + 1) * H := by rw [← bs_len, bs_ts, txt_len hl]
theorem one_le {W H : Nat} (hW : 1 ≤ W ∧ W ≤ 40) (hH : 1 ≤ H ∧ H ≤ 40) : 1 ≤ W * H := by have := Nat.mul_le_mul hW.1 hH.1; omega
theorem wh_le {W H : Nat} (hW : 1 ≤ W ∧ W ≤ 40) (hH : 1 ≤ H ∧ H ≤ 40) : W * H ≤ 1600 := by have := Nat.mul_le_mul hW.2 hH.2; omega
/-- A box of three, later. -/
theorem box_at {w w1 : World} {a b c : Value} {t : TypeId} {F : Nat} (hF : w.heap.size = F) (hb : Below (w.alloc (.cells #[a, b, c] t)).heap.size (w.alloc (.cells #[a, b, c] t)) w1) :
    w1.cell? ⟨F, 0, none⟩ = some a ∧ w1.cell? ⟨F, 1, none⟩ = some b ∧ w1.cell? ⟨F, 2, none⟩ = some c ∧ F < w1.heap.size := by
  subst hF
  obtain ⟨h0, h1, h2⟩ := box3 hb
  refine ⟨h0, h1, h2, ?_⟩
  have := hb.size; simp at this; omega
end Go.Proofs.Yteemcighpoomhaa
