/- Rows of one's own: copying a list, lengthening it. -/
import Derived.Test.YtmifgaknmhcajaaOf
import Derived.Test.YtmifgaknmhcajaaPost
import Derived.RegionTactic
import Derived.ChangeAlike
import Derived.BigQuiet
import Derived.Lib.SliceRun
namespace Go.Proofs.Ytmifgaknmhcajaa
open Go.RowKit
set_option linter.unusedVariables false

def nums (L : List Nat) : List Value := L.map fun x : Nat => Value.int .u64 (x : Int)
theorem nums_getElem {L : List Nat} {j : Nat} (h : j < L.length) : (nums L)[j]? = some (.int .u64 ((L.getD j 0 : Nat) : Int)) := by
  unfold nums
  rw [List.getElem?_map, List.getElem?_eq_getElem h]
  simp [List.getD_eq_getElem?_getD, List.getElem?_eq_getElem h]
theorem nums_set (L : List Nat) (j x : Nat) : (nums L).set j (.int .u64 (x : Int)) = nums (L.set j x) := by
  unfold nums; rw [List.map_set]
theorem nums_append (a b : List Nat) : nums (a ++ b) = nums a ++ nums b := by unfold nums; rw [List.map_append]
theorem nums_one {L : List Nat} : ∀ u ∈ nums L, u.oneCell' = true := by
  intro u hu
  unfold nums at hu
  obtain ⟨x, _, rfl⟩ := List.mem_map.1 hu
  rfl
theorem info22 : (Try.prog.info? 22).map (fun i => (i.zero, i.size, i.bytes)) = some (some (.int .u64 0), 1, 8) := by kernel_rfl

/-- A row of its own: block g, from its head, holds the numbers. -/
def owns (B : Nat) (wr : World) (g n c : Nat) (L : List Nat) : Prop := wr.ownsRow B 22 1 (.slice (some ⟨g, 0, none⟩) n c) n (nums L)
theorem owns_len {B : Nat} {wr : World} {g n c : Nat} {L : List Nat} (h : owns B wr g n c L) : L.length = n := by
  have := h.1; unfold nums at this; rw [List.length_map] at this; omega
theorem owns_cell {B : Nat} {wr : World} {g n c : Nat} {L : List Nat} (h : owns B wr g n c L) {j : Nat} (hj : j < n) :
    wr.cell? ⟨g, j, none⟩ = some (.int .u64 ((L.getD j 0 : Nat) : Int)) := by
  rw [World.ownsRow.cellAt h j (by omega), nums_getElem (by rw [owns_len h]; exact hj)]
theorem owns_free {B : Nat} {wr : World} {g n c : Nat} {L : List Nat} (h : owns B wr g n c L) (j : Nat) : wr.frozen? ⟨g, j, none⟩ = false := World.ownsRow.frozenAt h j
theorem owns_put {B : Nat} {wr : World} {g n c : Nat} {L : List Nat} (h : owns B wr g n c L) (j x : Nat) : owns B (wr.setCell ⟨g, j, none⟩ (.int .u64 (x : Int))) g n c (L.set j x) := by
  unfold owns; rw [← nums_set]; exact (World.ownsRow.stored h j _).1
theorem owns_base {B : Nat} {wr : World} {g n c : Nat} {L : List Nat} (h : owns B wr g n c L) : B ≤ g ∧ g < wr.heap.size := World.ownsRow.lt h g rfl
theorem add_zero_at (g j : Nat) : (⟨g, 0, none⟩ : Addr).add j = ⟨g, j, none⟩ := by unfold Addr.add; split <;> simp_all
theorem owns_row {B : Nat} {wr : World} {g n c : Nat} {L : List Nat} (h : owns B wr g n c L) : row wr (some ⟨g, 0, none⟩) L := by
  intro j hj
  refine ⟨_, rfl, ?_⟩
  rw [add_zero_at]; exact owns_cell h (by rw [← owns_len h]; exact hj)
theorem owns_ok {B : Nat} {wr : World} {g n c : Nat} {L : List Nat} (h : owns B wr g n c L) (hs : small L) (hn : n ≤ 9223372036854775807) : (⟨some ⟨g, 0, none⟩, c, L⟩ : Lst).ok wr :=
  ⟨owns_row h, hs, by show L.length ≤ _; rw [owns_len h]; exact hn⟩

set_option maxRecDepth 20000 in
set_option maxHeartbeats 1000000 in
theorem Clone_some (a : Addr) (c : Nat) (l : List Nat) (w : World) (h : row w (some a) l) (hl : l.length * 8 ≤ 140737488355328) :
    Calls Try.prog 7 #[.slice (some a) l.length c] w fun e w' => ∃ g c', e = .returned (.slice (some ⟨g, 0, none⟩) l.length c') ∧ owns w.heap.size w' g l.length c' l ∧ Below w.heap.size w w' := by
  obtain ⟨i0, hi, hz0, hz1, hz2⟩ := info_parts info22
  have HR : Hid (row w (some a) l) := h
  have HL : Hid (l.length * 8 ≤ 140737488355328) := hl
  clear h hl
  have q22 : ∀ (w : World) (a : Option Addr) (n c n' c' : Nat), (binOp .eql 23 (.slice a n c) (.slice none n' c')).run Try.prog w = .ok (.bool a.isNone) w := fun w a n c n' c' => Lib.run_eql_slice_nil w _ _ a n c n' c' Try.underlying23
  go_enter Try.func7, Try.ntmps7
  go_wp2_with (at_builtin; refine wpList_append_own _ rfl _ _ 23 rfl w.heap.size 22 i0 (.int .u64 0) 1 8 Try.underlying23 hi hz0 hz1 hz2 rfl (by decide) _ _ _ rfl (World.ownsRow_made w #[] 0 (Nat.le_refl _) (Nat.zero_le _) (by simp)) a l.length c (nums l) rfl ?qc1 ?qc2 ?qc3 ?qc4 ?qc5 ?qc6 ?_)
  case qc1 => unfold nums; simp
  case qc2 =>
    intro j u hj
    have hjl : j < l.length := by have := (List.getElem?_eq_some_iff.1 hj).1; unfold nums at this; simpa using this
    rw [nums_getElem hjl] at hj
    cases hj
    exact row_cell (row_below HR.out (alloc_below _ _)) j hjl
  case qc3 => exact nums_one
  case qc4 => have := HL.out; unfold maxLen; omega
  case qc5 => have := HL.out; omega
  case qc6 => simp
  intro v' w1 hown hgrow hnil
  have hb : Below w.heap.size w w1 := ((Below.refl _ w).alloc (Nat.le_refl _) _).grown hgrow (by simp) (by intro k hk; simp [Value.ownBlock] at hk; omega)
  have ho : w1.ownsRow w.heap.size 22 1 v' l.length (nums l) := by simpa using hown
  have hne : v' ≠ .slice none 0 0 := hnil
  have HO : Hid (∃ g c', v' = .slice (some ⟨g, 0, none⟩) l.length c' ∧ owns w.heap.size w1 g l.length c' l) := by
    rcases ho.2 with ⟨h0, _⟩ | ⟨g', cap, cur, rfl, hg, _, hcap, _⟩
    · exact absurd h0 hne
    · exact ⟨g', cap, rfl, ho⟩
  have HB : Hid (Below w.heap.size w w1) := hb
  clear hown hgrow hnil hb ho hne
  go_wp2_with fail
  go_ret
  obtain ⟨g, c', rfl, h2⟩ := HO.out
  exact ⟨g, c', rfl, h2, HB.out⟩

theorem Of_own {B : Nat} {w : World} {g n c : Nat} {L : List Nat} (h : owns B w g n c L) (hs : small L) (hn : n ≤ 9223372036854775807) :
    Calls Try.prog 11 #[.slice (some ⟨g, 0, none⟩) n c] w fun e w' => e = .returned (.int .u64 (tn 0 L)) ∧ Below w.heap.size w w' := by
  have := Of_any ⟨some ⟨g, 0, none⟩, c, L⟩ w (owns_ok h hs hn)
  unfold Lst.val at this
  rw [show (Lst.mk (some ⟨g, 0, none⟩) c L).l.length = n from owns_len h] at this
  exact this
theorem owns_below {B : Nat} {wr w' : World} {g n c : Nat} {L : List Nat} (h : owns B wr g n c L) (hb : Below wr.heap.size wr w') : owns B w' g n c L := by
  have hlt := (owns_base h).2
  refine ⟨h.1, ?_⟩
  rcases h.2 with h0 | ⟨g', cap, cur, hv, hB, hblk, hr⟩
  · exact .inl h0
  · refine .inr ⟨g', cap, cur, hv, hB, ?_, hr⟩
    cases hv
    rw [hb.block g hlt]; exact hblk
theorem owns_mono {B B' : Nat} {w : World} {g n c : Nat} {L : List Nat} (h : owns B w g n c L) (hB : B' ≤ B) : owns B' w g n c L := ⟨h.1, by
  rcases h.2 with h0 | ⟨g', cap, cur, hv, hb, hr⟩
  · exact .inl h0
  · exact .inr ⟨g', cap, cur, hv, Nat.le_trans hB hb, hr⟩⟩

set_option maxRecDepth 20000 in
theorem Clone_nil (w : World) : Calls Try.prog 7 #[.slice none 0 0] w fun e w' => e = .returned (.slice none 0 0) ∧ w' = w := by
  have q22 : ∀ (w : World) (a : Option Addr) (n c n' c' : Nat), (binOp .eql 23 (.slice a n c) (.slice none n' c')).run Try.prog w = .ok (.bool a.isNone) w := fun w a n c n' c' => Lib.run_eql_slice_nil w _ _ a n c n' c' Try.underlying23
  go_enter Try.func7, Try.ntmps7
  go_wp2
  go_ret
  exact ⟨rfl, rfl⟩
end Go.Proofs.Ytmifgaknmhcajaa
