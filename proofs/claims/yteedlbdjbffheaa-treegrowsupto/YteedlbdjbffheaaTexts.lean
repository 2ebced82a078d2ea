/- Rows of texts of one's own: a copy, and a list behind it. -/
import Derived.Test.YteedlbdjbffheaaGrows
import Derived.Laws.AppendOwnNone
namespace Go.Proofs.Yteedlbdjbffheaa
open Go.RowKit
set_option linter.unusedVariables false

def tvs (L : List ByteArray) : List Value := L.map fun x => Value.string x
theorem tvs_length (L : List ByteArray) : (tvs L).length = L.length := by unfold tvs; simp
theorem tvs_getElem {L : List ByteArray} {j : Nat} (h : j < L.length) : (tvs L)[j]? = some (.string (L.getD j ⟨#[]⟩)) := by
  unfold tvs
  rw [List.getElem?_map, List.getElem?_eq_getElem h]
  simp [List.getD_eq_getElem?_getD, List.getElem?_eq_getElem h]
theorem tvs_append (a b : List ByteArray) : tvs (a ++ b) = tvs a ++ tvs b := by unfold tvs; rw [List.map_append]
theorem tvs_one {L : List ByteArray} : ∀ u ∈ tvs L, u.oneCell' = true := by
  intro u hu
  unfold tvs at hu
  obtain ⟨x, _, rfl⟩ := List.mem_map.1 hu
  rfl
theorem info9 : (Try.prog.info? 9).map (fun i => (i.zero, i.size, i.bytes)) = some (some (.string ⟨#[]⟩), 1, 16) := by kernel_rfl
/-- v is a row of texts of one's own, or nil. -/
def smine (B : Nat) (w : World) (v : Value) (L : List ByteArray) : Prop := w.ownsRow B 9 1 v L.length (tvs L)
theorem smine_full {B : Nat} {w : World} {v : Value} {L : List ByteArray} (h : smine B w v L) : ∃ p c, v = .slice p L.length c ∧ txt w p L ∧ L.length ≤ c ∧ (p = none → c = 0) := by
  rcases h.2 with ⟨h0, hn⟩ | ⟨g, cap, cur, hv, hB, hblk, hr⟩
  · have : L = [] := List.eq_nil_of_length_eq_zero hn
    subst this
    exact ⟨none, 0, h0, txt_nil _ _, Nat.le_refl _, fun _ => rfl⟩
  · subst hv
    refine ⟨_, _, rfl, fun j hj => ⟨_, rfl, ?_⟩, hr.1, fun h => by cases h⟩
    rw [add_zero_at, World.ownsRow.cellAt h j (by omega), tvs_getElem hj]
theorem texts_at {w : World} {a : Addr} {l : List ByteArray} (h : txt w (some a) l) : ∀ j u, (tvs l)[j]? = some u → w.cell? (a.add j) = some u := by
  intro j u hj
  have hjl : j < l.length := by have := (List.getElem?_eq_some_iff.1 hj).1; unfold tvs at this; simpa using this
  rw [tvs_getElem hjl] at hj
  cases hj
  exact txt_cell h j hjl
theorem list_more {ops : Array Oper} {rest : List Oper} {o : Oper} {a : Act} {Q : Exit → Act → World → Prop} (w W0 : World) (hgd : o.guard = none) (s x : Operand)
    (ho : o.op = .call { callee := .builtin .append, args := #[s, x], argTypes := #[22, 22] })
    (v : Value) (L N : List ByteArray) (hs : a.eval s = v) (hown : smine W0.heap.size w v L) (hW : Below W0.heap.size W0 w) (p : Option Addr) (m c : Nat) (hx : a.eval x = .slice p m c) (hN : N.length = m) (hp : p = none → c = 0) (ht : txt w p N) (hl : (L.length + m) * 16 ≤ 140737488355328)
    (h : ∀ v' w', smine W0.heap.size w' v' (L ++ N) → Below W0.heap.size W0 w' → (v' = .slice none 0 0 ↔ v = .slice none 0 0 ∧ p = none ∨ v = .slice none 0 0 ∧ m = 0) → wpList Try.prog ops Q rest (a.put o.dst v') w') :
    wpList Try.prog ops Q (o :: rest) a w := by
  obtain ⟨i0, hi, hz0, hz1, hz2⟩ := info_parts info9
  cases p with
  | none =>
    have hN0 : N = [] := by
      rcases Nat.eq_zero_or_pos N.length with h0 | h0
      · exact List.eq_nil_of_length_eq_zero h0
      · obtain ⟨a, ha⟩ := txt_some ht h0
        cases ha
    subst hN0
    have hm : m = 0 := by simpa using hN.symm
    have hc : c = 0 := hp rfl
    subst hm hc
    refine wpList_append_own_none hgd s x 22 ho W0.heap.size 9 i0 1 Try.underlying22 hi v L.length (tvs L) hs hown hx ?_
    exact h v w (by rw [List.append_nil]; exact hown) hW ⟨fun e => .inl ⟨e, rfl⟩, fun e => e.elim (·.1) (·.1)⟩
  | some ad =>
    refine wpList_append_own w hgd s x 22 ho W0.heap.size 9 i0 (.string ⟨#[]⟩) 1 16 Try.underlying22 hi hz0 hz1 hz2 rfl (by decide) v L.length (tvs L) hs hown ad m c (tvs N) hx (by rw [tvs_length, hN, Nat.mul_one]) (texts_at ht) tvs_one (by unfold maxLen; omega) hl hW.size ?_
    intro v' w' h1 h2 h3
    refine h v' w' ?_ (hW.grown h2 hW.size (fun k hk => (World.ownsRow.lt hown k hk).1)) ?_
    · unfold smine
      rw [tvs_append, List.length_append, hN]; exact h1
    · rw [h3]
      exact ⟨fun e => .inr e, fun e => e.elim (fun x => by cases x.2) id⟩

set_option maxRecDepth 20000 in
set_option maxHeartbeats 1000000 in
theorem CloneS_some (a : Addr) (c k : Nat) (l : List ByteArray) (w : World) (h : txt w (some a) l) (hk : l.length = k) (hl : k * 16 ≤ 140737488355328) :
    Calls Try.prog 25 #[.slice (some a) k c] w fun e w' => ∃ v, e = .returned v ∧ smine w.heap.size w' v l ∧ Below w.heap.size w w' := by
  have HR : Hid (txt w (some a) l) := h
  have HK : Hid (l.length = k) := hk
  have HL : Hid (k * 16 ≤ 140737488355328) := hl
  clear h hl hk
  have q22 : ∀ (w : World) (a : Option Addr) (n c n' c' : Nat), (binOp .eql 22 (.slice a n c) (.slice none n' c')).run Try.prog w = .ok (.bool a.isNone) w := fun w a n c n' c' => Lib.run_eql_slice_nil w _ _ a n c n' c' Try.underlying22
  go_enter Try.func25, Try.ntmps25
  go_wp2_with (at_builtin; refine list_more _ w rfl _ _ rfl _ [] l rfl (World.ownsRow_made w #[] 0 (Nat.le_refl _) (Nat.zero_le _) (by simp)) (alloc_below _ _) (some a) k c rfl HK.out (fun h => by cases h) (txt_below HR.out (alloc_below _ _)) (by have := HL.out; simp; omega) ?_)
  intro v' w1 h1 h2 h3
  have HM : Hid (smine w.heap.size w1 v' l ∧ Below w.heap.size w w1) := ⟨h1, h2⟩
  clear h1 h2 h3
  go_wp2_with fail
  go_ret
  exact ⟨v', rfl, HM.out⟩
set_option maxRecDepth 20000 in
theorem CloneS_nil (w : World) : Calls Try.prog 25 #[.slice none 0 0] w fun e w' => e = .returned (.slice none 0 0) ∧ w' = w := by
  have q22 : ∀ (w : World) (a : Option Addr) (n c n' c' : Nat), (binOp .eql 22 (.slice a n c) (.slice none n' c')).run Try.prog w = .ok (.bool a.isNone) w := fun w a n c n' c' => Lib.run_eql_slice_nil w _ _ a n c n' c' Try.underlying22
  go_enter Try.func25, Try.ntmps25
  go_wp2
  go_ret
  exact ⟨rfl, rfl⟩
theorem CloneS_any (p : Option Addr) (k c : Nat) (l : List ByteArray) (w : World) (h : txt w p l) (hk : l.length = k) (hp : p = none → c = 0) (hl : k * 16 ≤ 140737488355328) :
    Calls Try.prog 25 #[.slice p k c] w fun e w' => ∃ v, e = .returned v ∧ smine w.heap.size w' v l ∧ Below w.heap.size w w' := by
  cases p with
  | none =>
    have hN0 : l = [] := by
      rcases Nat.eq_zero_or_pos l.length with h0 | h0
      · exact List.eq_nil_of_length_eq_zero h0
      · obtain ⟨a, ha⟩ := txt_some h h0
        cases ha
    subst hN0
    have hm : k = 0 := by simpa using hk.symm
    have hc : c = 0 := hp rfl
    subst hm hc
    refine (CloneS_nil w).mono ?_
    rintro e w' ⟨rfl, hw⟩; subst w'
    exact ⟨_, rfl, World.ownsRow_nil _ _ _ _, Below.refl _ _⟩
  | some a => exact CloneS_some a c k l w h hk hl

/-- Grows, whatever is handed in: it answers, and nothing below turns. -/
theorem Grows_some (l : List ByteArray) (p : Option Addr) (n : Int) (k c : Nat) (w : World) (hl : l.length = k) (hc : k ≤ c) (ht : txt w p l) (hs : tsm l) :
    Calls Try.prog 9 #[.slice p k c, .int .i64 n] w fun e w' => ∃ (v : Value) (x : Int), e = .returned (.tuple #[v, .int .i64 x]) ∧ Below w.heap.size w w' := by
  by_cases h1 : 256 < k
  · refine (Grows_large p n k c w h1).mono ?_
    rintro e w' ⟨rfl, hw⟩; subst w'
    exact ⟨_, _, rfl, Below.refl _ _⟩
  · by_cases h2 : 0 ≤ n ∧ n ≤ k
    · obtain ⟨i, rfl⟩ : ∃ i : Nat, n = i := ⟨n.toNat, by omega⟩
      refine (Grows_in l p i k c w hl (by omega) hc (by omega) ht hs).mono ?_
      rintro e w' ⟨v, rfl, _, hb⟩
      exact ⟨_, _, rfl, hb⟩
    · refine (Grows_bad p n k c w (by omega) h2).mono ?_
      rintro e w' ⟨rfl, hw⟩; subst w'
      exact ⟨_, _, rfl, Below.refl _ _⟩
end Go.Proofs.Yteedlbdjbffheaa
