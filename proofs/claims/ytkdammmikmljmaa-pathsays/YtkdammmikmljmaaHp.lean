/- The queue's methods Push and Pop: a stop is laid behind all others, the last one is taken. -/
import Derived.Test.YtkdammmikmljmaaHq
import Derived.Deep.RegionLaw
namespace Go.Proofs.Ytkdammmikmljmaa
open Go.RowKit
set_option linter.unusedVariables false

/-- Where a tide lies: its field's sides, the places, what they cost, the queue. -/
def tbx (T : Nat) (w : World) (a b c d v : Value) : Prop := w.heap[T]? = some (.cells #[a, b, c, d, v] 64)
section
variable {T : Nat} {w w' : World} {a b c d v : Value}
theorem tbx_cells (h : tbx T w a b c d v) : w.cell? ⟨T, 0, none⟩ = some a ∧ w.cell? ⟨T, 1, none⟩ = some b ∧ w.cell? ⟨T, 2, none⟩ = some c ∧ w.cell? ⟨T, 3, none⟩ = some d ∧ w.cell? ⟨T, 4, none⟩ = some v ∧ w.frozen? ⟨T, 4, none⟩ = false := by
  unfold tbx at h; simp [World.cell?, World.frozen?, h]
theorem tbx_lt (h : tbx T w a b c d v) : T < w.heap.size := cell_lt (tbx_cells h).1
theorem tbx_set (h : tbx T w a b c d v) (v' : Value) : tbx T (w.setCell ⟨T, 4, none⟩ v') a b c d v' := by
  unfold tbx at h ⊢
  have := heap_setCell_same w T 4 _ 64 v' h
  rw [this]; rfl
theorem tbx_kept {S : Nat → Prop} (h : tbx T w a b c d v) (he : Ex S w w') (hn : ¬ S T) : tbx T w' a b c d v := by
  have := tbx_lt h
  unfold tbx at h ⊢
  rw [he.block T this hn]; exact h
end
theorem que_pop {B g n cap : Nat} {w : World} {Q : List Stop} (h : que B w (.slice (some ⟨g, 0, none⟩) (n + 1) cap) Q) (hn : Q.length = n + 1) : que B w (.slice (some ⟨g, 0, none⟩) n cap) (Q.take n) := by
  have e : Q = Q.take n ++ [Q.getD n ⟨0, 0, 0⟩] := by
    rw [getD_at (by omega)]
    have := (List.take_succ_eq_append_getElem (l := Q) (i := n) (by omega)).symm
    rw [this, ← hn, List.take_length]
  have hl : (Q.take n).length = n := by simp; omega
  unfold que at h ⊢
  rw [e, flat_app, ← e, hn] at h
  rw [hl]
  exact ownsRow_pop (by rw [flat_len, hl]) h
theorem kstop : (Try.prog.info? 68).map (fun i => (i.zero, i.size, i.bytes)) = some (some (.agg #[.int .i64 0, .int .i64 0, .int .i64 0]), 3, 24) := by kernel_rfl
theorem flat_one {w : World} {ad : Addr} {s : Stop} (h0 : w.cell? (ad.add 0) = some (.int .i64 s.x)) (h1 : w.cell? (ad.add 1) = some (.int .i64 s.y)) (h2 : w.cell? (ad.add 2) = some (.int .i64 s.c)) : ∀ j u, (fl s)[j]? = some u → w.cell? (ad.add j) = some u := by
  intro j u hj
  match j, hj with
  | 0, hj => simp [fl] at hj; rw [← hj]; exact h0
  | 1, hj => simp [fl] at hj; rw [← hj]; exact h1
  | 2, hj => simp [fl] at hj; rw [← hj]; exact h2
  | (k + 3), hj => simp [fl] at hj
/-- Append of one stop, at a step of a region that draws its order. -/
theorem step_stop {ops : Array Oper} {o : Oper} {a : Act} {K : Act → World → Prop} {Z' : Exit → Act → World → Prop} {Z : Prop} (w : World) (hgd : o.guard = none) (s x : Operand)
    (ho : o.op = .call { callee := .builtin .append, args := #[s, x], argTypes := #[62, 62] })
    (B : Nat) (v : Value) (Q : List Stop) (hs : a.eval s = v) (hown : que B w v Q) (ad : Addr) (c : Nat) (X : Stop) (hx : a.eval x = .slice (some ad) 1 c) (hcell : ∀ j u, (fl X)[j]? = some u → w.cell? (ad.add j) = some u) (hl : Q.length ≤ 1000000) (hB : B ≤ w.heap.size)
    (h : ∀ g cap w', que B w' (.slice (some ⟨g, 0, none⟩) (Q.length + 1) cap) (Q ++ [X]) → w.grownBy w' v.ownBlock → (v.ownBlock = some g ∨ g = w.heap.size) → g < w'.heap.size → K (a.put o.dst (.slice (some ⟨g, 0, none⟩) (Q.length + 1) cap)) w') :
    if Region.wanted o (yielded ops a.tmps) = true then Oper.wp Try.prog o a w K Z' else Z := by
  obtain ⟨i0, hi, hz0, hz1, hz2⟩ := info_parts kstop
  refine step_append_lies w hgd s x 62 ho B 68 i0 _ 3 24 Try.underlying62 hi hz0 hz1 hz2 rfl (by decide) v Q.length (flat Q) hs hown ad 1 c (fl X) hx rfl hcell (by intro u hu; simp [fl] at hu; rcases hu with rfl | rfl | rfl <;> rfl) (by decide) (by unfold maxLen; omega) (by omega) hB _ rfl ?_
  intro g cap w' h1 h2 h3 h4
  refine h g cap w' ?_ h2 h3 h4
  unfold que
  rw [flat_app, List.length_append]; exact h1
/-- What an append to the queue, and the store behind it, leaves. -/
theorem push_app {B T : Nat} {w M w6 : World} {a b c d v : Value} {v' : Value} {L' : List Stop} {Q : List Stop} (ht : tbx T w a b c d v) (hq : que B w v Q) (hT : T < B) (hM : w.grownBy M none) (hown : que B w6 v' L') (hg : M.grownBy w6 v.ownBlock) :
    tbx T w6 a b c d v ∧ tbx T (w6.setCell ⟨T, 4, none⟩ v') a b c d v' ∧ que B (w6.setCell ⟨T, 4, none⟩ v') v' L' ∧ Ex (fun k => k = T ∨ some k = v.ownBlock) w (w6.setCell ⟨T, 4, none⟩ v') := by
  have hne : some T ≠ v.ownBlock := fun e => by have := (World.ownsRow.lt hq T e.symm).1; omega
  have E1 : Ex (fun k => k = T ∨ some k = v.ownBlock) w w6 := ((Ex.of_grown hM).mono (S' := fun k => k = T ∨ some k = v.ownBlock) (fun i _ e => by cases e)).trans (Ex.of_grown hg) (fun i _ e => .inr e)
  have t6 : tbx T w6 a b c d v := by
    have := tbx_lt ht
    unfold tbx at ht ⊢
    rw [hg.block T (by have := hM.size; omega) hne, hM.block T this (by simp)]; exact ht
  refine ⟨t6, tbx_set t6 v', que_kept hown (Ex.set (S := fun k => k = T) w6 ⟨T, 4, none⟩ rfl v') (fun g hg e => ?_), E1.trans (Ex.set (S := fun k => k = T) w6 ⟨T, 4, none⟩ rfl v') (fun i _ e => .inl e)⟩
  have := (World.ownsRow.lt hown g hg).1; omega
theorem grown_drew' (W : World) : W.grownBy W.drew none := ⟨rfl, rfl, rfl, Nat.le_refl _, fun _ _ _ => rfl⟩
theorem grown_trans' {a b c : World} (h : a.grownBy b none) (k : b.grownBy c none) : a.grownBy c none :=
  ⟨k.os.trans h.os, k.tape.trans h.tape, k.output.trans h.output, Nat.le_trans h.size k.size, fun i hi hn => (k.block i (Nat.lt_of_lt_of_le hi h.size) hn).trans (h.block i hi hn)⟩
theorem new_stop (w : World) (s : Stop) : ∀ j u, (fl s)[j]? = some u → (w.alloc (.cells #[.int .i64 s.x, .int .i64 s.y, .int .i64 s.c] 68)).cell? ((⟨w.heap.size, 0, none⟩ : Addr).add j) = some u :=
  flat_one (by rw [add_zero_at]; simp [go_sem]) (by rw [add_zero_at]; simp [go_sem]) (by rw [add_zero_at]; simp [go_sem])

theorem ta_stop (v : Value) (w : World) : (Instr.typeAssert (.iface 68 v) 20 68 false).run Try.prog w = .ok v w := by
  simp [Instr.typeAssert, run_underlying Try.underlying68]
set_option maxRecDepth 20000 in
set_option maxHeartbeats 1000000 in
theorem Push_m (B T : Nat) (a b c d v : Value) (Q : List Stop) (s : Stop) (w : World) (ht : tbx T w a b c d v) (hq : que B w v Q) (hT : T < B) (hB : B ≤ w.heap.size) (hl : Q.length ≤ 1000000) :
    Calls Try.prog 92 #[.pointer (some ⟨T, 4, none⟩), .iface 68 (.agg #[.int .i64 s.x, .int .i64 s.y, .int .i64 s.c])] w fun e w' => e = .returned (.tuple #[]) ∧ ∃ g cap, tbx T w' a b c d (.slice (some ⟨g, 0, none⟩) (Q.length + 1) cap) ∧ que B w' (.slice (some ⟨g, 0, none⟩) (Q.length + 1) cap) (Q ++ [s]) ∧ Ex (fun k => k = T ∨ some k = v.ownBlock) w w' ∧ (v.ownBlock = some g ∨ w.heap.size ≤ g) := by
  obtain ⟨_, _, _, _, c4, f4⟩ := tbx_cells ht
  have HT : Hid (tbx T w a b c d v) := ht
  have HQ : Hid (que B w v Q) := hq
  have hrow2 := fun o => World.ownsRow.alloc (w := w.drew) hq o
  have hcell2 := new_stop w.drew s
  have hds : w.drew.heap.size = w.heap.size := rfl
  have hTl := tbx_lt ht
  have ta := ta_stop
  clear ht hq
  go_enter Try.func92, Try.ntmps92
  go_wp2_with fail
  go_region_law (first
    | (refine step_stop _ rfl _ _ rfl B v Q rfl (hrow2 _) ⟨w.heap.size, 0, none⟩ 1 s rfl hcell2 hl (by simp; omega) ?_; intro g cap w6 hown hgr hgg hgl; obtain ⟨q1, q2, q3, q4⟩ := push_app HT.out HQ.out hT (grown_trans' (grown_drew' _) (World.grownBy_alloc _ _ none)) hown hgr; have c6 : w6.cell? ⟨T, 4, none⟩ = some v := (tbx_cells q1).2.2.2.2.1; have f6 : w6.frozen? ⟨T, 4, none⟩ = false := (tbx_cells q1).2.2.2.2.2; have H2 : Hid (tbx T (w6.setCell ⟨T, 4, none⟩ (.slice (some ⟨g, 0, none⟩) (Q.length + 1) cap)) a b c d (.slice (some ⟨g, 0, none⟩) (Q.length + 1) cap)) := q2; have H3 : Hid (que B (w6.setCell ⟨T, 4, none⟩ (.slice (some ⟨g, 0, none⟩) (Q.length + 1) cap)) (.slice (some ⟨g, 0, none⟩) (Q.length + 1) cap) (Q ++ [s])) := q3; have H4 : Hid (Ex (fun k => k = T ∨ some k = v.ownBlock) w (w6.setCell ⟨T, 4, none⟩ (.slice (some ⟨g, 0, none⟩) (Q.length + 1) cap))) := q4; have H5 : Hid (v.ownBlock = some g ∨ g = (w.drew.alloc (.cells #[.int .i64 s.x, .int .i64 s.y, .int .i64 s.c] 68)).heap.size) := hgg; clear q1 q2 q3 q4 hgr hown hgg))
  all_goals go_end0
  all_goals
    refine ⟨rfl, g, cap, H2.out, H3.out, H4.out, ?_⟩
    rcases H5.out with h | h
    · exact .inl h
    · right; rw [h]; simp
set_option maxRecDepth 20000 in
set_option maxHeartbeats 1000000 in
theorem Pop_m (B T g n cap : Nat) (a b c d : Value) (Q : List Stop) (s : Stop) (w : World) (ht : tbx T w a b c d (.slice (some ⟨g, 0, none⟩) (n + 1) cap)) (hq : que B w (.slice (some ⟨g, 0, none⟩) (n + 1) cap) Q) (hn : Q.length = n + 1) (hT : T < B) (hl : n ≤ 1000000) (hs : Q.getD n ⟨0, 0, 0⟩ = s) :
    Calls Try.prog 91 #[.pointer (some ⟨T, 4, none⟩)] w fun e w' => e = .returned (.iface 68 (.agg #[.int .i64 s.x, .int .i64 s.y, .int .i64 s.c])) ∧ tbx T w' a b c d (.slice (some ⟨g, 0, none⟩) n cap) ∧ que B w' (.slice (some ⟨g, 0, none⟩) n cap) (Q.take n) ∧ Ex (fun k => k = T) w w' := by
  obtain ⟨_, _, _, _, c4, f4⟩ := tbx_cells ht
  have HT : Hid (tbx T w a b c d (.slice (some ⟨g, 0, none⟩) (n + 1) cap)) := ht
  have HQ : Hid (que B w (.slice (some ⟨g, 0, none⟩) (n + 1) cap) Q) := hq
  have HN : Hid (Q.length = n + 1) := hn
  have hTl := tbx_lt ht
  obtain ⟨a1, a2, a3⟩ := que_cell hq hn (k := n) (by omega) hs
  obtain ⟨hgl, hcap⟩ : g < w.heap.size ∧ n + 1 ≤ cap := by
    obtain ⟨g', cap', e, _, h2, h3⟩ := que_form hq (by omega)
    simp only [Value.slice.injEq, Option.some.injEq, Addr.mk.injEq] at e
    obtain ⟨⟨rfl, _⟩, _, rfl⟩ := e
    omega
  clear ht hq hn hs
  go_enter Try.func91, Try.ntmps91
  go_wp2_with fail
  go_ret
  obtain ⟨V, hV⟩ : ∃ V, w.setCell ⟨T, 4, none⟩ (.slice (some ⟨g, 0, none⟩) n cap) = V := ⟨_, rfl⟩
  have t1 := tbx_set HT.out (.slice (some ⟨g, 0, none⟩) n cap)
  have q1 := que_kept (que_pop HQ.out HN.out) (Ex.set (S := fun k => k = T) w ⟨T, 4, none⟩ rfl (.slice (some ⟨g, 0, none⟩) n cap)) (fun g' hg e => by
    have := (World.ownsRow.lt HQ.out g (by rfl)).1
    simp [Value.ownBlock] at hg; omega)
  have e1 := Ex.set (S := fun k => k = T) w ⟨T, 4, none⟩ rfl (.slice (some ⟨g, 0, none⟩) n cap)
  rw [hV] at t1 q1 e1 ⊢
  have e2 := Ex.of_below (S := fun _ => False) (alloc_below V (.cells #[.int .i64 s.x, .int .i64 s.y, .int .i64 s.c] 68))
  exact ⟨rfl, tbx_kept t1 e2 (fun e => e), que_kept q1 e2 (fun _ _ e => e), e1.trans e2 (fun _ _ e => e.elim)⟩
end Go.Proofs.Ytkdammmikmljmaa
