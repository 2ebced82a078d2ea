/- Rows of troops of one's own: a copy, and one of them taken out. -/
import Derived.Test.YtibpobmeonfljaaWd
import Derived.Laws.AppendOwnNone
import Derived.Deep.RegionLaw
import Derived.Laws.IdiomCopy
namespace Go.Proofs.Ytibpobmeonfljaa
open Go.RowKit
set_option linter.unusedVariables false

theorem flat7_in {w : World} {a : Addr} {Q : List Trp} (h : trow w (some a) Q) : ∀ j u, (flat7 Q)[j]? = some u → w.cell? (a.add j) = some u := by
  intro j u hj
  obtain ⟨b, hb, hc⟩ := h j u hj
  cases hb; exact hc
/-- v is a row of troops of one's own, or nil. -/
def minet (B : Nat) (w : World) (v : Value) (Q : List Trp) : Prop := w.ownsRow B 47 7 v Q.length (flat7 Q)
theorem ktrp : (Try.prog.info? 47).map (fun i => (i.zero, i.size, i.bytes)) = some (some (.agg #[.int .i64 0, .int .i64 0, .int .i64 0, .int .i64 0, .int .i64 0, .int .i64 0, .int .i64 0]), 7, 56) := by kernel_rfl
theorem run_moret {B : Nat} {w : World} {v : Value} {Q R : List Trp} {a : Addr} {d m : Nat} (ty : TypeId) (h : minet B w v Q) (hq : trow w (some a) R) (hm : R.length = m) (hl : Q.length + m ≤ 4000000) (hB : B ≤ w.heap.size) :
    ∃ v' w', (Builtin.append_ #[26, 26] ty #[v, .slice (some a) m d]).run Try.prog w = .ok v' w' ∧ minet B w' v' (Q ++ R) ∧ w.grownBy w' v.ownBlock := by
  obtain ⟨i0, hi, hz0, hz1, hz2⟩ := info_parts ktrp
  obtain ⟨v', w', h1, h2, h3, _⟩ := run_append_own (P := Try.prog) w B 26 ty 47 i0 _ 7 56 Try.underlying26 hi hz0 hz1 hz2 rfl (by decide) v Q.length (flat7 Q) h a m d (flat7 R) (by rw [flat7_len, hm]) (flat7_in hq) (flat7_one R) (by unfold maxLen; omega) (by omega) hB
  refine ⟨v', w', h1, ?_, h3⟩
  unfold minet
  rw [flat7_app, List.length_append, hm]; exact h2
set_option maxRecDepth 20000 in
set_option maxHeartbeats 1000000 in
theorem Clonet_any (a : Addr) (n c : Nat) (ts : List Trp) (w : World) (h : trow w (some a) ts) (hn : ts.length = n) (hl : n ≤ 1000) :
    Calls Try.prog 27 #[.slice (some a) n c] w fun e w' => ∃ v, e = .returned v ∧ minet w.heap.size w' v ts ∧ Below w.heap.size w w' := by
  have q25 : ∀ (w : World) (a : Option Addr) (n c n' c' : Nat), (binOp .eql 26 (.slice a n c) (.slice none n' c')).run Try.prog w = .ok (.bool a.isNone) w := fun w a n c n' c' => Lib.run_eql_slice_nil w _ _ a n c n' c' Try.underlying26
  have hM : minet w.heap.size (w.alloc (.cells #[] 47)) (.slice (some ⟨w.heap.size, 0, none⟩) 0 0) [] := World.ownsRow_made w #[] 0 (Nat.le_refl _) (Nat.zero_le _) (by simp)
  obtain ⟨v', w', h1, h2, h3⟩ := run_moret (d := c) 26 hM (trow_below h (alloc_below w _)) hn (by simp; omega) (by simp)
  have HO : Hid (minet w.heap.size w' v' ts) := by unfold Hid; simpa using h2
  have HB : Hid (Below w.heap.size w w') := (alloc_below w _).grown h3 (by simp) (by intro k hk; simp [Value.ownBlock] at hk; omega)
  have HRun : Hid ((Builtin.append_ #[26, 26] 26 #[.slice (some ⟨w.heap.size, 0, none⟩) 0 0, .slice (some a) n c]).run Try.prog (w.alloc (.cells #[] 47)) = .ok v' w') := h1
  clear h h1 h2 h3 hM
  go_enter Try.func27, Try.ntmps27
  go_wp2_with (at_builtin; refine wpList_append_run rfl _ _ 26 rfl (.slice (some ⟨w.heap.size, 0, none⟩) 0 0) (.slice (some a) n c) rfl rfl HRun.out ?_)
  go_wp2_with fail
  go_ret
  exact ⟨_, rfl, HO.out, HB.out⟩

theorem below_sets {B b : Nat} {a : World} (hb : B ≤ b) : ∀ (vs : List Value) (o : Nat) (w : World), Below B a w → Below B a (w.setCells b o vs)
  | [], _, _, h => h
  | v :: r, o, w, h => below_sets hb r (o + 1) _ (h.setCell (by exact hb) v)
/-- The cells of a row of one's own: there, and free. -/
theorem minet_cells {B n : Nat} {w : World} {v : Value} {Q : List Trp} (h : minet B w v Q) (hn : Q.length = n) (h0 : 0 < n) :
    ∃ g cap, v = .slice (some ⟨g, 0, none⟩) n cap ∧ B ≤ g ∧ n ≤ cap ∧ cap ≤ 9223372036854775807 ∧ (∀ j u, (flat7 Q)[j]? = some u → w.cell? ⟨g, j, none⟩ = some u) ∧ ∀ j, w.frozen? ⟨g, j, none⟩ = false := by
  subst hn
  rcases h.2 with ⟨_, h1⟩ | ⟨g, cap, cur, hv, hB, hblk, hc, hm, hs, ht⟩
  · omega
  · refine ⟨g, cap, hv, hB, hc, by unfold maxLen at hm; omega, ?_, ?_⟩
    · intro j u hj
      have hjl : j < Q.length * 7 := by have := (List.getElem?_eq_some_iff.1 hj).1; rwa [flat7_len] at this
      subst hv
      rw [World.ownsRow.cellAt h _ (by omega)]; exact hj
    · intro j
      simp [World.frozen?, hblk]
theorem clear_one (w : World) (ty : TypeId) (b o c : Nat) (hc : ∀ j, j < 7 → (w.cell? ⟨b, o + j, none⟩).isSome = true) (hf : ∀ j, j < 7 → w.frozen? ⟨b, o + j, none⟩ = false) :
    (Builtin.clear_ #[26] ty #[.slice (some ⟨b, o, none⟩) 1 c]).run Try.prog w = .ok (.tuple #[]) (w.setCells b o (List.replicate 7 (.int .i64 0))) := by
  have hv : ∀ w, (zeroValue 47).run Try.prog w = .ok (.agg #[.int .i64 0, .int .i64 0, .int .i64 0, .int .i64 0, .int .i64 0, .int .i64 0, .int .i64 0]) w := fun w => by kernel_rfl
  have hzc : (Builtin.zeroCells (Value.agg #[.int .i64 0, .int .i64 0, .int .i64 0, .int .i64 0, .int .i64 0, .int .i64 0, .int .i64 0]).cells 1).toList = List.replicate 7 (.int .i64 0) := by kernel_rfl
  have hst := run_storeCells_cells (P := Try.prog) b o (List.replicate 7 (.int .i64 0)) 0 w (by simpa using hc) (by simpa using hf) (by intro v hv'; rw [List.eq_of_mem_replicate hv']; rfl)
  simp only [Nat.add_zero] at hst
  obtain ⟨L, hL⟩ : ∃ L, List.replicate 7 (Value.int .i64 0) = L := ⟨_, rfl⟩
  rw [hL] at hzc hst ⊢
  simp only [Builtin.clear_]
  simp [run_underlying Try.underlying26, hv, hzc, hst]
theorem flat7_erase (Q : List Trp) (k : Nat) : flat7 (Q.eraseIdx k) = flat7 (Q.take k) ++ flat7 (Q.drop (k + 1)) := by rw [List.eraseIdx_eq_take_drop_succ, flat7_app]
theorem flat7_take (Q : List Trp) (k j : Nat) (hk : k ≤ Q.length) (hj : j < k * 7) : (flat7 (Q.take k))[j]? = (flat7 Q)[j]? := by
  have e : flat7 Q = flat7 (Q.take k) ++ flat7 (Q.drop k) := by rw [← flat7_app, List.take_append_drop]
  rw [e, List.getElem?_append_left (by rw [flat7_len, List.length_take]; omega)]
theorem flat7_drop (Q : List Trp) (k j : Nat) (hk : k ≤ Q.length) : (flat7 (Q.drop k))[j]? = (flat7 Q)[k * 7 + j]? := by
  have e : flat7 Q = flat7 (Q.take k) ++ flat7 (Q.drop k) := by rw [← flat7_app, List.take_append_drop]
  have l : (flat7 (Q.take k)).length = k * 7 := by rw [flat7_len, List.length_take]; omega
  rw [e, List.getElem?_append_right (by omega), l, Nat.add_sub_cancel_left]
end Go.Proofs.Ytibpobmeonfljaa
