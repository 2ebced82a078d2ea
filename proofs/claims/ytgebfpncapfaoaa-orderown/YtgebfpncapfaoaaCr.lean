/- Cells in memory: a row of them that lies there, one of one's own, how it grows. -/
import Derived.Test.YtgebfpncapfaoaaUse
import Derived.Laws.AppendOwnNone
namespace Go.Proofs.Ytgebfpncapfaoaa
open Go.RowKit
set_option linter.unusedVariables false

/-- A cell. -/
structure Cel where
  x : Int
  y : Int
/-- The cells cs lie at p. -/
def crow (w : World) (p : Option Addr) (cs : List Cel) : Prop := ∀ j c, cs[j]? = some c → ∃ a, p = some a ∧ w.cell? (a.add (j * 2)) = some (.int .i64 c.x) ∧ w.cell? (a.add (j * 2 + 1)) = some (.int .i64 c.y)
theorem cell_two {w : World} {b : Addr} {i : Nat} {v : Value} (h : w.cell? (b.add (i + 1)) = some v) : w.cell? ⟨(b.add i).block, (b.add i).off + 1, none⟩ = some v := by
  rw [← add_add] at h; exact h
theorem crow_nil (w : World) (p : Option Addr) : crow w p [] := fun j c h => by simp at h
theorem crow_at {w : World} {p : Option Addr} {cs : List Cel} (h : crow w p cs) {j : Nat} (hj : j < cs.length) : ∃ a, p = some a ∧ w.cell? (a.add (j * 2)) = some (.int .i64 cs[j].x) ∧ w.cell? (a.add (j * 2 + 1)) = some (.int .i64 cs[j].y) := h j _ (List.getElem?_eq_getElem hj)
theorem crow_below {w w' : World} {p : Option Addr} {cs : List Cel} (h : crow w p cs) (hb : Below w.heap.size w w') : crow w' p cs := by
  intro j c hj
  obtain ⟨a, ha, h1, h2⟩ := h j c hj
  exact ⟨a, ha, by rw [hb.cell (cell_lt h1)]; exact h1, by rw [hb.cell (cell_lt h2)]; exact h2⟩
theorem crow_one (w : World) (x y : Int) : crow (w.alloc (.cells #[.int .i64 x, .int .i64 y] 23)) (some ⟨w.heap.size, 0, none⟩) [⟨x, y⟩] := by
  intro j c hj
  match j, hj with
  | 0, hj =>
    simp at hj
    refine ⟨_, rfl, ?_, ?_⟩
    · rw [← hj, add_zero_at]; simp [go_sem]
    · rw [← hj, add_zero_at]; simp [go_sem]
  | (k + 1), hj => simp at hj
/-- Whether a cell is in a field. -/
def inb (W H X Y : Int) : Bool := decide (0 ≤ X) && decide (X < W) && decide (0 ≤ Y) && decide (Y < H)
/-- A field of W times H places, each of a sort. -/
def okf (W H : Nat) (l : List Int) : Prop := (1 ≤ W ∧ W ≤ 40) ∧ (1 ≤ H ∧ H ≤ 40) ∧ l.length = W * H ∧ l.any bad = false
def cl2 (c : Cel) : List Value := [.int .i64 c.x, .int .i64 c.y]
def flat2 (cs : List Cel) : List Value := cs.flatMap cl2
theorem flat2_cons (s : Cel) (Q : List Cel) : flat2 (s :: Q) = .int .i64 s.x :: .int .i64 s.y :: flat2 Q := rfl
theorem flat2_len (Q : List Cel) : (flat2 Q).length = Q.length * 2 := by
  induction Q with
  | nil => rfl
  | cons s Q ih => rw [flat2_cons]; simp [ih]; omega
theorem flat2_app (Q R : List Cel) : flat2 (Q ++ R) = flat2 Q ++ flat2 R := by unfold flat2; rw [List.flatMap_append]
theorem flat2_at (Q : List Cel) : ∀ k, (h : k < Q.length) → (flat2 Q)[k * 2]? = some (.int .i64 Q[k].x) ∧ (flat2 Q)[k * 2 + 1]? = some (.int .i64 Q[k].y) := by
  induction Q with
  | nil => intro k h; simp at h
  | cons s Q ih =>
    intro k h
    rw [flat2_cons]
    cases k with
    | zero => exact ⟨rfl, rfl⟩
    | succ k =>
      have := ih k (by simpa using h)
      have e : (k + 1) * 2 = k * 2 + 2 := by omega
      rw [e]
      exact this
theorem flat2_one (Q : List Cel) : ∀ u ∈ flat2 Q, u.oneCell' = true := by
  intro u hu
  unfold flat2 at hu
  obtain ⟨c, _, h⟩ := List.mem_flatMap.1 hu
  simp [cl2] at h
  rcases h with rfl | rfl <;> rfl
theorem flat2_in {w : World} {a : Addr} {Q : List Cel} (h : crow w (some a) Q) : ∀ j u, (flat2 Q)[j]? = some u → w.cell? (a.add j) = some u := by
  intro j u hj
  have hjl : j < Q.length * 2 := by have := (List.getElem?_eq_some_iff.1 hj).1; rwa [flat2_len] at this
  obtain ⟨b, hb, h1, h2⟩ := crow_at h (j := j / 2) (by omega)
  cases hb
  have h3 := flat2_at Q (j / 2) (by omega)
  have : j = j / 2 * 2 ∨ j = j / 2 * 2 + 1 := by omega
  rcases this with e | e
  · rw [e, h3.1] at hj; rw [e, h1]; exact hj
  · rw [e, h3.2] at hj; rw [e, h2]; exact hj
/-- v is a row of cells of one's own, or nil. -/
def minec (B : Nat) (w : World) (v : Value) (Q : List Cel) : Prop := w.ownsRow B 23 2 v Q.length (flat2 Q)
theorem minec_nil (B : Nat) (w : World) : minec B w (.slice none 0 0) [] := World.ownsRow_nil _ _ _ _
theorem minec_full {B : Nat} {w : World} {v : Value} {Q : List Cel} (h : minec B w v Q) : ∃ p c, v = .slice p Q.length c ∧ crow w p Q ∧ Q.length ≤ c ∧ (p = none → c = 0) := by
  rcases h.2 with ⟨h0, hn⟩ | ⟨g, cap, cur, hv, hB, hblk, hr⟩
  · have : Q = [] := List.eq_nil_of_length_eq_zero hn
    subst this
    exact ⟨none, 0, h0, crow_nil _ _, Nat.le_refl _, fun _ => rfl⟩
  · subst hv
    refine ⟨_, _, rfl, fun j x hj => ⟨_, rfl, ?_⟩, hr.1, fun h => by cases h⟩
    have hjl : j < Q.length := (List.getElem?_eq_some_iff.1 hj).1
    have h3 := flat2_at Q j hjl
    have e : Q[j] = x := by have := List.getElem?_eq_getElem hjl; rw [this] at hj; cases hj; rfl
    rw [e] at h3
    rw [add_zero_at, add_zero_at, World.ownsRow.cellAt h _ (by omega), World.ownsRow.cellAt h _ (by omega)]
    exact h3
theorem minec_below {B : Nat} {w w' : World} {v : Value} {Q : List Cel} (h : minec B w v Q) (hb : Below w.heap.size w w') : minec B w' v Q := by
  refine ⟨h.1, ?_⟩
  rcases h.2 with h0 | ⟨g', cap, cur, hv, hB, hblk, hr⟩
  · exact .inl h0
  · refine .inr ⟨g', cap, cur, hv, hB, ?_, hr⟩
    have : g' < w.heap.size := by
      rcases Nat.lt_or_ge g' w.heap.size with hlt | hge
      · exact hlt
      · rw [Array.getElem?_eq_none hge] at hblk; cases hblk
    rw [hb.block g' this]; exact hblk
theorem kcell : (Try.prog.info? 23).map (fun i => (i.zero, i.size, i.bytes)) = some (some (.agg #[.int .i64 0, .int .i64 0]), 2, 16) := by kernel_rfl
/-- Whatever list of cells is laid behind a row of one's own. -/
theorem run_more {B : Nat} {w : World} {v : Value} {Q R : List Cel} {q : Option Addr} {d m : Nat} (ty : TypeId) (h : minec B w v Q) (hq : crow w q R) (hm : R.length = m) (hqd : q = none → d = 0) (hl : Q.length + m ≤ 4000000) (hB : B ≤ w.heap.size) :
    ∃ v' w', (Builtin.append_ #[38, 38] ty #[v, .slice q m d]).run Try.prog w = .ok v' w' ∧ minec B w' v' (Q ++ R) ∧ w.grownBy w' v.ownBlock := by
  obtain ⟨i0, hi, hz0, hz1, hz2⟩ := info_parts kcell
  cases q with
  | some a =>
    obtain ⟨v', w', h1, h2, h3, _⟩ := run_append_own (P := Try.prog) w B 38 ty 23 i0 _ 2 16 Try.underlying38 hi hz0 hz1 hz2 rfl (by decide) v Q.length (flat2 Q) h a m d (flat2 R) (by rw [flat2_len, hm]) (flat2_in hq) (flat2_one R) (by unfold maxLen; omega) (by omega) hB
    refine ⟨v', w', h1, ?_, h3⟩
    unfold minec
    rw [flat2_app, List.length_append, hm]; exact h2
  | none =>
    have hR : R = [] := by
      rcases Nat.eq_zero_or_pos R.length with h0 | h0
      · exact List.eq_nil_of_length_eq_zero h0
      · obtain ⟨b, hb, _⟩ := crow_at hq (j := 0) h0
        cases hb
    subst hR
    have hm0 : m = 0 := by simpa using hm.symm
    subst hm0
    obtain ⟨p, c, rfl, _, hc, _⟩ := minec_full h
    refine ⟨.slice p Q.length c, w, ?_, by simpa using h, ⟨rfl, rfl, rfl, Nat.le_refl _, fun _ _ _ => rfl⟩⟩
    have hu := Try.underlying38
    cases p with
    | none => simp [Builtin.append_, run_underlying hu, sizeOf, typeInfo, hi, Builtin.lenOf, Builtin.firstCells, hc]
    | some a => simp [Builtin.append_, run_underlying hu, sizeOf, typeInfo, hi, Builtin.lenOf, Builtin.firstCells, hc, storeCells]
theorem minec_form {B n : Nat} {w : World} {v : Value} {Q : List Cel} (h : minec B w v Q) (hn : Q.length = n) : ∃ p c, v = .slice p n c ∧ crow w p Q := by
  obtain ⟨p, c, e, hc, _⟩ := minec_full h
  exact ⟨p, c, by rw [e, hn], hc⟩
theorem step_append_run {P : Program} {ops : Array Oper} {o : Oper} {a : Act} {w : World} {K : Act → World → Prop} {Q : Exit → Act → World → Prop} {E : Prop} (hgd : o.guard = none) (s x : Operand) (t : TypeId)
    (ho : o.op = .call { callee := .builtin .append, args := #[s, x], argTypes := #[t, t] }) (v u : Value) (hs : a.eval s = v) (hx : a.eval x = u) {v' : Value} {w' : World} (hrun : (Builtin.append_ #[t, t] o.type #[v, u]).run P w = .ok v' w')
    (h : K (a.put o.dst v') w') : if Region.wanted o (yielded ops a.tmps) = true then Oper.wp P o a w K Q else E := by
  have hw : Region.wanted o (yielded ops a.tmps) = true := by simp [Region.wanted, hgd]
  rw [if_pos hw]
  unfold Oper.wp
  simp [execOp, ho, resolve, invoke, builtin, hs, hx, hrun, Result.andThen]
  exact h
theorem wpList_append_run {P : Program} {ops : Array Oper} {rest : List Oper} {o : Oper} {a : Act} {w : World} {Q : Exit → Act → World → Prop} (hgd : o.guard = none) (s x : Operand) (t : TypeId)
    (ho : o.op = .call { callee := .builtin .append, args := #[s, x], argTypes := #[t, t] }) (v u : Value) (hs : a.eval s = v) (hx : a.eval x = u) {v' : Value} {w' : World} (hrun : (Builtin.append_ #[t, t] o.type #[v, u]).run P w = .ok v' w')
    (h : wpList P ops Q rest (a.put o.dst v') w') : wpList P ops Q (o :: rest) a w := by
  refine wpList_plain hgd fun K hK => ?_
  unfold Oper.wp
  simp [execOp, ho, resolve, invoke, builtin, hs, hx, hrun, Result.andThen]
  exact hK _ _ h
end Go.Proofs.Ytgebfpncapfaoaa
