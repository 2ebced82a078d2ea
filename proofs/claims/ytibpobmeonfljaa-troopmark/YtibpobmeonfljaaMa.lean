/- What leaf, LeafOfNumbers and fieldLeaf return; the numbers of which a world's mark is made. -/
import Derived.Test.YtibpobmeonfljaaLi
import Derived.Test.YtibpobmeonfljaaQe
import Derived.Test.YtibpobmeonfljaaTa
import Derived.Test.YtibpobmeonfljaaKm
namespace Go.Proofs.Ytibpobmeonfljaa
open Go.RowKit
set_option linter.unusedVariables false

/-- The leaf of a list of numbers. -/
def lnum (l : List Int) : Nat := lf (qa l)
theorem lnum_lt (l : List Int) : lnum l < 18446744073709551616 := lf_lt _
theorem qa_size {l : List Int} (hf : ∀ x ∈ l, fits x) : (qa l).size ≤ 9223372036854775807 := by
  by_cases h : l.length ≤ 1000
  · rw [← bs_len, bs_qa h]
    unfold pa
    rw [List.length_append]
    have h1 := pk_ten (n := l.length) (by omega)
    have h2 := fs_len l hf
    omega
  · unfold qa
    rw [if_neg h]
    exact Nat.zero_le _
set_option maxRecDepth 20000 in
theorem leaf_any (p : Option Addr) (n c : Nat) (l : List Int) (w : World) (hr : row vi w p l) (hn : l.length = n) (hf : ∀ x ∈ l, fits x) :
    Calls Try.prog 31 #[.slice p n c] w fun e w' => e = .returned (.int .u64 (lnum l)) ∧ Below w.heap.size w w' := by
  subst hn
  have HP : Hid (Calls Try.prog 52 #[.slice p l.length c] w fun e w' => e = .returned (.tuple #[.string (qa l), .int .i64 (qe l)]) ∧ Below w.heap.size w w') := PutAll_any p l c w hr hf
  have HS : Hid ((qa l).size ≤ 9223372036854775807) := qa_size hf
  obtain ⟨S, hS⟩ : ∃ S, qa l = S := ⟨_, rfl⟩
  obtain ⟨Q, hQ⟩ : ∃ Q, qe l = Q := ⟨_, rfl⟩
  have HL : Hid (lnum l = lf S) := by unfold Hid lnum; rw [hS]
  rw [hS] at HS
  rw [hS, hQ] at HP
  clear hr hf hS hQ
  go_enter Try.func31, Try.ntmps31
  go_wp2_with fail
  refine Calls.mono HP.out ?_
  rintro e w1 ⟨rfl, hb1⟩
  have HB1 : Hid (Below w.heap.size w w1) := hb1
  clear hb1 HP
  go_wp2_with fail
  refine (Leaf_any S w1 HS.out).mono ?_
  rintro e w' ⟨rfl, hw⟩; subst w'
  go_wp2_with fail
  go_ret
  exact ⟨by rw [HL.out]; rfl, HB1.out⟩
set_option maxRecDepth 20000 in
theorem LeafOfNumbers_any (p : Option Addr) (n c : Nat) (l : List Int) (w : World) (hr : row vi w p l) (hn : l.length = n) (hf : ∀ x ∈ l, fits x) :
    Calls Try.prog 29 #[.slice p n c] w fun e w' => e = .returned (.int .u64 (lnum l)) ∧ Below w.heap.size w w' := by
  subst hn
  have HP : Hid (Calls Try.prog 50 #[.slice p l.length c] w fun e w' => e = .returned (.tuple #[.string (qa l), .int .i64 (qe l)]) ∧ Below w.heap.size w w') := PackedAll_any p l c w hr hf
  have HS : Hid ((qa l).size ≤ 9223372036854775807) := qa_size hf
  obtain ⟨S, hS⟩ : ∃ S, qa l = S := ⟨_, rfl⟩
  obtain ⟨Q, hQ⟩ : ∃ Q, qe l = Q := ⟨_, rfl⟩
  have HL : Hid (lnum l = lf S) := by unfold Hid lnum; rw [hS]
  rw [hS] at HS
  rw [hS, hQ] at HP
  clear hr hf hS hQ
  go_enter Try.func29, Try.ntmps29
  go_wp2_with fail
  refine Calls.mono HP.out ?_
  rintro e w1 ⟨rfl, hb1⟩
  have HB1 : Hid (Below w.heap.size w w1) := hb1
  clear hb1 HP
  go_wp2_with fail
  refine (LeafOf_any S w1 HS.out).mono ?_
  rintro e w2 ⟨rfl, hb2⟩
  have HB2 : Hid (Below w.heap.size w w2) := below_step HB1.out HB1.out.size hb2
  clear hb2
  go_wp2_with fail
  go_ret
  exact ⟨by rw [HL.out]; rfl, HB2.out⟩
/-- A list of one's own that has just been made of numbers. -/
theorem mine_made {B : Nat} {w : World} (L : List Int) (n : Nat) (hn : L.length = n) (hm : n ≤ 1000) (hB : B ≤ w.heap.size) : mine 3 vi B (w.alloc (.cells (L.map vi).toArray 3)) (.slice (some ⟨w.heap.size, 0, none⟩) n n) L := by
  subst hn
  refine ⟨by simp, .inr ⟨w.heap.size, L.length, (L.map vi).toArray, rfl, hB, World.alloc_heap_new w _, Nat.le_refl _, by unfold maxLen; omega, by simp, ?_⟩⟩
  rw [List.take_of_length_le (by simp)]
theorem row_made {w : World} (L : List Int) : row vi (w.alloc (.cells (L.map vi).toArray 3)) (some ⟨w.heap.size, 0, none⟩) L := row_heap (World.alloc_heap_new w _)
/-- Whatever list of numbers is laid behind one of one's own. -/
theorem run_morei {B : Nat} {w : World} {v : Value} {Q R : List Int} {q : Option Addr} {d m : Nat} (ty : TypeId) (h : mine 3 vi B w v Q) (hq : row vi w q R) (hm : R.length = m) (hqd : q = none → d = 0) (hl : Q.length + m ≤ 4000000) (hB : B ≤ w.heap.size) :
    ∃ v' w', (Builtin.append_ #[22, 22] ty #[v, .slice q m d]).run Try.prog w = .ok v' w' ∧ mine 3 vi B w' v' (Q ++ R) ∧ w.grownBy w' v.ownBlock := by
  obtain ⟨i0, hi, hz0, hz1, hz2⟩ := info_parts ki.hi
  cases q with
  | some a =>
    obtain ⟨v', w', h1, h2, h3, _⟩ := run_append_own (P := Try.prog) w B 22 ty 3 i0 _ 1 8 Try.underlying22 hi hz0 hz1 hz2 rfl (by decide) v Q.length (Q.map vi) h a m d (R.map vi) (by rw [List.length_map, hm, Nat.mul_one]) (by
      intro j u hj
      have hjl : j < R.length := by have := (List.getElem?_eq_some_iff.1 hj).1; simpa using this
      obtain ⟨b, hb, hc⟩ := row_at hq hjl
      cases hb
      rw [List.getElem?_map, List.getElem?_eq_getElem hjl] at hj
      cases hj
      exact hc) (by intro u hu; obtain ⟨y, _, rfl⟩ := List.mem_map.1 hu; rfl) (by unfold maxLen; omega) (by omega) hB
    refine ⟨v', w', h1, ?_, h3⟩
    unfold mine
    rw [List.map_append, List.length_append, hm]; exact h2
  | none =>
    have hR : R = [] := by
      rcases Nat.eq_zero_or_pos R.length with h0 | h0
      · exact List.eq_nil_of_length_eq_zero h0
      · obtain ⟨b, hb⟩ := row_some hq h0
        cases hb
    subst hR
    have hm0 : m = 0 := by simpa using hm.symm
    subst hm0
    obtain ⟨p, c, rfl, _, hc, _⟩ := mine_full h
    refine ⟨.slice p Q.length c, w, ?_, by simpa using h, ⟨rfl, rfl, rfl, Nat.le_refl _, fun _ _ _ => rfl⟩⟩
    have hu := Try.underlying22
    cases p with
    | none => simp [Builtin.append_, run_underlying hu, sizeOf, typeInfo, hi, Builtin.lenOf, Builtin.firstCells, hc]
    | some a => simp [Builtin.append_, run_underlying hu, sizeOf, typeInfo, hi, Builtin.lenOf, Builtin.firstCells, hc, storeCells]
set_option maxRecDepth 20000 in
set_option maxHeartbeats 2000000 in
theorem fieldLeaf_any (s : Wld) (w : World) (h : s.fit w) (hn16 : s.n ≤ 1600) :
    Calls Try.prog 30 #[s.val] w fun e w' => e = .returned (.int .u64 (lnum ([1, s.A, s.B, s.N, s.T] ++ s.l))) ∧ Below w.heap.size w w' := by
  have HFT : Hid (∀ x ∈ [1, s.A, s.B, s.N, s.T] ++ s.l, fits x) := fun x hx => by
    rcases List.mem_append.1 hx with hx | hx
    · simp at hx
      rcases hx with rfl | rfl | rfl | rfl | rfl
      · unfold fits; omega
      · exact h.fA
      · exact h.fB
      · exact h.fN
      · exact h.fT
    · exact h.x x hx
  obtain ⟨A, B, p, n, c, l, pb, nb, cb, lb, ps, ns, cs, ls, pm, nm, cm, lm, pt, nt, ct, lt, N, T⟩ := s
  have hr := h.r
  have hh := h.h
  have hz := h.z
  clear h
  unfold Wld.val
  dsimp only at *
  obtain ⟨L, hL⟩ : ∃ L, [1, A, B, N, T] ++ l = L := ⟨_, rfl⟩
  have HL : Hid ([1, A, B, N, T] ++ l = L) := hL
  rw [hL] at HFT
  rw [hL]
  obtain ⟨R, hR⟩ : ∃ R, lnum L = R := ⟨_, rfl⟩
  have HRR : Hid (lnum L = R) := hR
  rw [hR]
  obtain ⟨F, hF⟩ : ∃ F, w.heap.size = F := ⟨_, rfl⟩
  obtain ⟨w0, hw0⟩ : ∃ w0, w.alloc (.cells #[.int .i64 A, .int .i64 B, .slice p n c, .slice pb nb cb, .slice ps ns cs, .slice pm nm cm, .slice pt nt ct, .int .i64 N, .int .i64 T] 28) = w0 := ⟨_, rfl⟩
  have hB0 : Below w.heap.size w w0 := by rw [← hw0]; exact alloc_below _ _
  have HB0 : Hid (Below w.heap.size w w0) := hB0
  obtain ⟨w1, hw1⟩ : ∃ w1, w0.alloc (.cells #[.int .i64 1, .int .i64 A, .int .i64 B, .int .i64 N, .int .i64 T] 3) = w1 := ⟨_, rfl⟩
  have hm1 : mine 3 vi w.heap.size w1 (.slice (some ⟨w0.heap.size, 0, none⟩) 5 5) [1, A, B, N, T] := by rw [← hw1]; exact mine_made [1, A, B, N, T] 5 rfl (by omega) HB0.out.size
  have hB1 : Below w0.heap.size w0 w1 := by rw [← hw1]; exact alloc_below _ _
  have HB1 : Hid (Below w.heap.size w w1) := below_step hB0 hB0.size hB1
  obtain ⟨v2, w2, hrun, hm2, hg2⟩ := run_morei (m := n) (d := c) 22 hm1 (row_below hr HB1.out) hh hz (by simp; omega) HB1.out.size
  rw [hL] at hm2
  have HB2 : Hid (Below w.heap.size w w2) := mine_grown hm1 HB1.out HB1.out.size hg2
  have HM2 : Hid (mine 3 vi w.heap.size w2 v2 L) := hm2
  obtain ⟨z0, z1, z2, z3, z4, z5, z6, z7, z8⟩ := boxw hF hw0 (Below.refl _ _)
  obtain ⟨y0, y1, y2, y3, y4, y5, y6, y7, y8⟩ := boxw hF hw0 hB1
  clear hm1 hm2 hg2 hr hh hz hL hR hB0
  go_enter Try.func30, Try.ntmps30
  go_wp2_with (at_builtin; refine wpList_append_run rfl _ _ 22 rfl _ _ rfl rfl hrun ?_)
  obtain ⟨q, d, rfl, hq, -, -⟩ := mine_full HM2.out
  clear hrun z0 z1 z2 z3 z4 z5 z6 z7 z8 y0 y1 y2 y3 y4 y5 y6 y7 y8 hw0 hw1 hB1
  go_wp2_with fail
  refine (leaf_any q L.length d L w2 hq rfl HFT.out).mono ?_
  rintro e w3 ⟨rfl, hb3⟩
  have HB3 : Hid (Below w.heap.size w w3) := below_step HB2.out HB2.out.size hb3
  rw [HRR.out]
  clear hb3
  go_wp2_with fail
  go_ret
  exact ⟨rfl, by first | exact HB3.out | (rw [← hF]; exact HB3.out)⟩
end Go.Proofs.Ytibpobmeonfljaa
