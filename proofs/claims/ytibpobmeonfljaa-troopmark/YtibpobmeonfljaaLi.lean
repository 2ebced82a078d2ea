/- What troopLives returns. -/
import Derived.Test.YtibpobmeonfljaaSw
namespace Go.Proofs.Ytibpobmeonfljaa
open Go.RowKit
set_option linter.unusedVariables false

theorem fnd_yes {s : Wld} {t : Trp} {Q : Trp → Prop} {r : Int} {b : Bool} (hl : s.lt = [t]) (hq : Q t) (h : fndr s Q 0 r b) : r = 0 ∧ b = true := by
  rcases h with ⟨h, _⟩ | ⟨_, ⟨_, _, h⟩ | ⟨h1, i, hi, h2, _⟩⟩
  · exact absurd rfl h
  · exact absurd hq (h t (by rw [hl]; simp))
  · have : i = 0 := by rw [hl] at hi; simp at hi; omega
    subst this
    exact ⟨h2, h1⟩
theorem fnd_no {s : Wld} {t : Trp} {Q : Trp → Prop} {r : Int} {b : Bool} (hl : s.lt = [t]) (hq : ¬ Q t) (h : fndr s Q 0 r b) : r = 0 ∧ b = false := by
  rcases h with ⟨h, _⟩ | ⟨_, ⟨h1, h2, _⟩ | ⟨h1, i, hi, h2, h3⟩⟩
  · exact absurd rfl h
  · exact ⟨h2, h1⟩
  · have : i = 0 := by rw [hl] at hi; simp at hi; omega
    subst this
    have e : s.lt[0] = t := by simp [hl]
    rw [e] at h3
    exact absurd h3 hq
theorem nel_small {s : Wld} (hl : s.lt = [⟨1, 0, 1, 1, 0, 10, 0⟩]) (hn : s.nt = 1) : nel s 0 0 0 1 = [1] ∧ ner 0 1 = 0 := by
  have h1 : ner 0 1 = 0 := by decide
  refine ⟨?_, h1⟩
  unfold nel
  rw [if_pos h1, hl, hn]
  have h2 : ixs (fun t => nrb t.x t.y 0 0 1) [⟨1, 0, 1, 1, 0, 10, 0⟩] 1 = [0] := by
    rw [ixs_succ (by simp)]
    have : nrb 1 0 0 0 1 = true := by decide
    simp [ixs, this]
  rw [h2]
  simp [idl]
set_option maxRecDepth 20000 in
set_option maxHeartbeats 4000000 in
theorem lives_any (w : World) : Calls Try.prog 23 #[] w fun e w' => e = .returned (.bool true) ∧ Below w.heap.size w w' := by
  go_enter Try.func23, Try.ntmps23
  go_wp2_with fail
  refine (small_any w).mono ?_
  rintro e w1 ⟨⟨s1, rfl, hf1, hk1, hl1, hn1⟩, hb1⟩
  have HB1 : Hid (Below w.heap.size w w1) := hb1
  have HC1 : Hid (Calls Try.prog 17 #[s1.val, .int .i64 1] w1 fun e w' => (∃ r b, e = .returned (.tuple #[.int .i64 r, .bool b, .int .i64 0]) ∧ Hid (fndr s1 (fun t => t.i = 1) 0 r b)) ∧ Below w1.heap.size w1 w') := Find_any s1 1 0 w1 hf1 (wre_of hk1)
  have HL1 : Hid (s1.lt = [⟨1, 0, 1, 1, 0, 10, 0⟩]) := hl1
  clear hf1 hk1 hl1 hn1 hb1
  go_wp2_with fail
  refine Calls.mono HC1.out ?_
  rintro e w2 ⟨⟨r, b, rfl, hfd⟩, hb2⟩
  have HB2 : Hid (Below w.heap.size w w2) := below_step HB1.out HB1.out.size hb2
  obtain ⟨hr, hb⟩ := fnd_yes (Q := fun t => t.i = 1) HL1.out rfl hfd.out
  subst hr hb
  clear hb2 hfd HC1
  go_wp2_with fail
  refine (small_any w2).mono ?_
  rintro e w3 ⟨⟨s3, rfl, hf3, hk3, hl3, hn3⟩, hb3⟩
  have HB3 : Hid (Below w.heap.size w w3) := below_step HB2.out HB2.out.size hb3
  have HC3 : Hid (Calls Try.prog 19 #[s3.val, .agg #[.int .i64 2, .int .i64 0]] w3 fun e w' => (∃ r b, e = .returned (.tuple #[.int .i64 r, .bool b, .int .i64 0]) ∧ Hid (fndr s3 (fun t => t.c = ⟨2, 0⟩) 0 r b)) ∧ Below w3.heap.size w3 w') := On_any s3 2 0 0 w3 hf3 (by unfold fits; omega) (by unfold fits; omega) (wre_of hk3)
  have HL3 : Hid (s3.lt = [⟨1, 0, 1, 1, 0, 10, 0⟩]) := hl3
  clear hf3 hk3 hl3 hn3 hb3
  go_wp2_with fail
  refine Calls.mono HC3.out ?_
  rintro e w4 ⟨⟨r, b, rfl, hfd⟩, hb4⟩
  have HB4 : Hid (Below w.heap.size w w4) := below_step HB3.out HB3.out.size hb4
  obtain ⟨hr, hb⟩ := fnd_no (Q := fun t => t.c = ⟨2, 0⟩) HL3.out (by simp [Trp.c]) hfd.out
  subst hr hb
  clear hb4 hfd HC3
  go_wp2_with fail
  refine (small_any w4).mono ?_
  rintro e w5 ⟨⟨s5, rfl, hf5, hk5, hl5, hn5⟩, hb5⟩
  have HB5 : Hid (Below w.heap.size w w5) := below_step HB4.out HB4.out.size hb5
  obtain ⟨hne, hn0⟩ := nel_small hl5 hn5
  have HC5 : Hid (Calls Try.prog 21 #[s5.val, .agg #[.int .i64 0, .int .i64 0], .int .i64 1] w5 fun e w' => (∃ v, e = .returned (.tuple #[v, .int .i64 0]) ∧ mine 3 vi w5.heap.size w' v [1]) ∧ Below w5.heap.size w5 w') := by
    have := Near_any s5 0 0 1 0 w5 hf5 (wre_of hk5)
    rw [hne, hn0] at this; exact this
  clear hf5 hk5 hl5 hn5 hb5 hne hn0
  go_wp2_with fail
  refine Calls.mono HC5.out ?_
  rintro e w6 ⟨⟨v, rfl, hm⟩, hb6⟩
  have HB6 : Hid (Below w.heap.size w w6) := below_step HB5.out HB5.out.size hb6
  obtain ⟨q, c, rfl, hr, -, -⟩ := mine_full hm
  have HR : Hid (row vi w6 q [1]) := hr
  have e1 : ([1] : List Int).length = 1 := rfl
  rw [e1]
  clear hb6 hm hr HC5 e1
  go_wp2_with fail
  have HB7 : Hid (Below w6.heap.size w6 (w6.alloc (.cells #[.int .i64 1] 3))) := alloc_below _ _
  have HR2 : Hid (row vi (w6.alloc (.cells #[.int .i64 1] 3)) (some ⟨w6.heap.size, 0, none⟩) [1]) := row_heap (L := [1]) (World.alloc_heap_new w6 _)
  refine (Equal_b q (some ⟨w6.heap.size, 0, none⟩) 1 c 1 [1] _ rfl (by omega) (row_below HR.out HB7.out) HR2.out).mono ?_
  rintro e w8 ⟨rfl, hb8⟩
  have HB8 : Hid (Below w.heap.size w w8) := below_step (below_step HB6.out HB6.out.size HB7.out) (Nat.le_trans HB6.out.size HB7.out.size) hb8
  clear hb8
  go_wp2_with fail
  go_ret
  exact ⟨rfl, HB8.out⟩
end Go.Proofs.Ytibpobmeonfljaa
