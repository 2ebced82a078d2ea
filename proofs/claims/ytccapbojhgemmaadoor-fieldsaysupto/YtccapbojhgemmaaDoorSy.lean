/- What the law of all answers uses: both answers in one form; boxes, as long as nothing below turns. -/
import Derived.Test.YtccapbojhgemmaaDoorTf
import Derived.Test.YtccapbojhgemmaaDoorTn
import Derived.Test.YtccapbojhgemmaaDoorOpen
namespace Go.Proofs.YtccapbojhgemmaaDoor
open Go.RowKit
set_option linter.unusedVariables false

theorem gl_small {s : ByteArray} (h : rok s) : (gl (bs s)).length ≤ 1640 := by
  have := gl_len (bs s); rw [bs_len] at this; have := h.1; omega
/-- What is read of a text, whoever reads it. -/
theorem rd_form (s : ByteArray) : ∃ (A C : Int) (L : List Int) (R : Int), L.length ≤ 1640 ∧ ∀ B e w', rdp s B e w' → ∃ p c, e = .returned (.tuple #[.agg #[.int .i64 A, .int .i64 C, .slice p L.length c], .int .i64 R]) ∧ row vi w' p L := by
  by_cases h : rok s
  · refine ⟨gw (bs s), gh (bs s), gl (bs s), 0, gl_small h, ?_⟩
    rintro B e w' (⟨_, v, rfl, hm⟩ | ⟨hn, _⟩)
    · obtain ⟨p, c, rfl, hr, _⟩ := mine_full hm
      exact ⟨p, c, rfl, hr⟩
    · exact absurd h hn
  · refine ⟨0, 0, [], 4, by simp, ?_⟩
    rintro B e w' (⟨hn, _⟩ | ⟨_, rfl⟩)
    · exact absurd hn h
    · exact ⟨none, 0, rfl, row_nil _ _ _⟩
theorem Read_f {s : ByteArray} {A C : Int} {L : List Int} {R : Int} (h : ∀ B e w', rdp s B e w' → ∃ p c, e = .returned (.tuple #[.agg #[.int .i64 A, .int .i64 C, .slice p L.length c], .int .i64 R]) ∧ row vi w' p L) (w : World) :
    Calls Tryd.prog 6 #[.string s] w fun e w' => ∃ p c, e = .returned (.tuple #[.agg #[.int .i64 A, .int .i64 C, .slice p L.length c], .int .i64 R]) ∧ row vi w' p L ∧ Below w.heap.size w w' := by
  refine (Read_any s w).mono ?_
  rintro e w' ⟨h1, hb⟩
  obtain ⟨p, c, he, hr⟩ := h _ _ _ h1
  exact ⟨p, c, he, hr, hb⟩
theorem TextField_f {s : ByteArray} {A C : Int} {L : List Int} {R : Int} (hs : s.size ≤ 1048576) (h : ∀ B e w', rdp s B e w' → ∃ p c, e = .returned (.tuple #[.agg #[.int .i64 A, .int .i64 C, .slice p L.length c], .int .i64 R]) ∧ row vi w' p L) (w : World) :
    Calls Tryd.prog 7 #[.string s] w fun e w' => ∃ p c, e = .returned (.tuple #[.agg #[.int .i64 A, .int .i64 C, .slice p L.length c], .int .i64 R]) ∧ row vi w' p L ∧ Below w.heap.size w w' := by
  refine (TextField_any s w hs).mono ?_
  rintro e w' ⟨h1, hb⟩
  obtain ⟨p, c, he, hr⟩ := h _ _ _ h1
  exact ⟨p, c, he, hr, hb⟩
/-- What is written of a field, whoever writes it. -/
theorem wr_form (A B : Int) (p : Option Addr) (n c : Nat) (l : List Int) (E : Int) (hn : l.length = n) (hm : n ≤ 9223372036854775807) (hc : n ≤ c) (hE : Hid (ck A B l = E)) :
    ∃ t : ByteArray, ∀ w, row vi w p l →
      Calls Tryd.prog 4 #[.agg #[.int .i64 A, .int .i64 B, .slice p n c]] w (fun e w' => e = .returned (.tuple #[.string t, .int .i64 E]) ∧ Below w.heap.size w w') ∧
      Calls Tryd.prog 5 #[.agg #[.int .i64 A, .int .i64 B, .slice p n c]] w (fun e w' => e = .returned (.tuple #[.string t, .int .i64 E]) ∧ Below w.heap.size w w') := by
  by_cases h0 : E = 0
  · subst h0
    obtain ⟨W, H, e1, e2, hW, hH, hl, hg⟩ := ck_yes hE.out
    subst e1 e2
    have hnl : n = W * H := by rw [← hn, hl]
    subst hnl
    refine ⟨ts W H l, fun w hr => ?_⟩
    obtain ⟨a, ha⟩ := row_some hr (by rw [hl]; exact one_le hW hH)
    subst ha
    exact ⟨Write_ok W H a c l w hr hW hH hl hg hc, FieldText_ok W H a c l w hr hW hH hl hg⟩
  · exact ⟨⟨#[]⟩, fun w hr => ⟨Write_no A B p n c l E w hr hn hm hE h0, FieldText_no A B p n c l E w hr hn hm hE h0⟩⟩
/-- Four cells, as long as nothing below turns. -/
theorem kf_drew {w V : World} {x y z u : Addr} {a b c d : Value} (h : Below w.heap.size w V ∧ V.cell? x = some a ∧ V.cell? y = some b ∧ V.cell? z = some c ∧ V.cell? u = some d) : Below w.heap.size w V.drew ∧ V.drew.cell? x = some a ∧ V.drew.cell? y = some b ∧ V.drew.cell? z = some c ∧ V.drew.cell? u = some d := ⟨h.1.drew, h.2.1, h.2.2.1, h.2.2.2.1, h.2.2.2.2⟩
theorem kf_drewN {w V : World} {x y z u : Addr} {a b c d : Value} (h : Below w.heap.size w V ∧ V.cell? x = some a ∧ V.cell? y = some b ∧ V.cell? z = some c ∧ V.cell? u = some d) (n : Nat) : Below w.heap.size w (V.drewN n) ∧ (V.drewN n).cell? x = some a ∧ (V.drewN n).cell? y = some b ∧ (V.drewN n).cell? z = some c ∧ (V.drewN n).cell? u = some d := ⟨below_drewN h.1 n, h.2.1, h.2.2.1, h.2.2.2.1, h.2.2.2.2⟩
theorem kf_call {w V V' : World} {x y z u : Addr} {a b c d : Value} (h : Below w.heap.size w V ∧ V.cell? x = some a ∧ V.cell? y = some b ∧ V.cell? z = some c ∧ V.cell? u = some d) (hb : Below V.heap.size V V') : Below w.heap.size w V' ∧ V'.cell? x = some a ∧ V'.cell? y = some b ∧ V'.cell? z = some c ∧ V'.cell? u = some d :=
  ⟨h.1.trans (hb.mono h.1.size), by rw [hb.cell (cell_lt h.2.1)]; exact h.2.1, by rw [hb.cell (cell_lt h.2.2.1)]; exact h.2.2.1, by rw [hb.cell (cell_lt h.2.2.2.1)]; exact h.2.2.2.1, by rw [hb.cell (cell_lt h.2.2.2.2)]; exact h.2.2.2.2⟩
theorem str_same (t : ByteArray) : (t.toList == t.toList) = true := by simp
theorem tn_get {W H : Nat} {l : List Int} {j : Nat} (hj : j < W * H) (h : j < (tn W H l).length) : (tn W H l)[j] = l.getD ((H - 1 - j % H) * W + j / H) 0 := by
  unfold tn; simp [src]
end Go.Proofs.YtccapbojhgemmaaDoor
