/- slices.Repeat of one number. -/
import Derived.Test.YtkdammmikmljmaaFd
import Derived.Laws.BitsAllLaws
import Derived.Laws.CopyOwn
namespace Go.Proofs.Ytkdammmikmljmaa
open Go.RowKit
set_option linter.unusedVariables false
set_option maxRecDepth 20000 in
set_option maxHeartbeats 1000000 in
theorem Mul64_one (n : Nat) (w : World) (hn : n ≤ 1000000) : Calls Try.prog 58 #[.int .u64 1, .int .u64 (n : Int)] w fun e w' => e = .returned (.tuple #[.int .u64 0, .int .u64 (n : Int)]) ∧ w' = w := by
  have a1 : bits BinOp.and IntKind.u64 1 4294967295 = 1 := by decide
  have a0 : bits BinOp.and IntKind.u64 0 4294967295 = 0 := by decide
  have an : bits BinOp.and IntKind.u64 (n : Int) 4294967295 = (n : Int) := by
    have h := u64_and_nat n 4294967295 (by omega) (by decide)
    have e : n &&& 4294967295 = n := by
      have := Nat.and_two_pow_sub_one_eq_mod n 32
      simp at this
      rw [this]; exact Nat.mod_eq_of_lt (by omega)
    rw [e] at h
    exact h
  have d0 : (n : Int) / 4294967296 = 0 := by omega
  go_enter Try.func58, Try.ntmps58
  go_wp2_with fail
  go_ret2
  exact ⟨rfl, rfl⟩
set_option maxRecDepth 20000 in
theorem Mul_one (n : Nat) (w : World) (hn : n ≤ 1000000) : Calls Try.prog 44 #[.int .u64 1, .int .u64 (n : Int)] w fun e w' => e = .returned (.tuple #[.int .u64 0, .int .u64 (n : Int)]) ∧ w' = w := by
  go_enter Try.func44, Try.ntmps44
  go_wp2_with fail
  refine (Mul64_one n w hn).mono ?_
  rintro e w' ⟨rfl, hw⟩; subst w'
  go_wp2_with fail
  go_ret2
  exact ⟨rfl, rfl⟩
/-- A row of N numbers, the first m of which are -1. -/
def rp (m N : Nat) : List Value := List.replicate m (vi (-1)) ++ List.replicate (N - m) (vi 0)
theorem rp_len {m N : Nat} (h : m ≤ N) : (rp m N).length = N := by unfold rp; simp; omega
theorem rp_splice {m r N : Nat} (h : m + r ≤ N) : splice (rp m N) m (List.replicate r (vi (-1))) = rp (m + r) N := by
  unfold splice rp
  apply List.ext_getElem
  · simp; omega
  · intro i h1 h2
    simp [List.getElem_append, List.getElem_drop]
    by_cases q1 : i < m
    · rw [if_pos q1, if_pos (by omega)]
    · rw [if_neg q1]
      by_cases q2 : i - m < r
      · rw [if_pos q2, if_pos (by omega)]
      · rw [if_neg q2, if_neg (by omega), if_neg (by omega)]
theorem rp_at {m N : Nat} {w : World} {g : Nat} (hm : m ≤ N) (h : w.heap[g]? = some (.cells (rp m N).toArray 3 (0, 0))) (r : Nat) (hr : r ≤ m) : ∀ j v, (List.replicate r (vi (-1)))[j]? = some v → w.cell? ((⟨g, 0, none⟩ : Addr).add j) = some v := by
  intro j v hj
  rw [List.getElem?_replicate] at hj
  split at hj
  · cases hj
    rw [add_zero_at]
    have hjm : j < m := by omega
    simp [World.cell?, h, rp, List.getElem?_append, hjm]
  · cases hj
theorem own_cells {B g n cap : Nat} {w : World} {t : TypeId} {xs : List Value} (h : w.ownsRow B t 1 (.slice (some ⟨g, 0, none⟩) n n) n xs) : w.heap[g]? = some (.cells xs.toArray t (0, 0)) := by
  rcases h.2 with ⟨h0, _⟩ | ⟨g', cap', cur, hv, _, hg, _, _, hs, ht⟩
  · cases h0
  · simp only [Value.slice.injEq, Option.some.injEq, Addr.mk.injEq, and_true, true_and] at hv
    obtain ⟨rfl, rfl⟩ := hv
    rw [List.take_of_length_le (by simp [hs])] at ht
    rw [hg, ← ht]
theorem mine_rp {g N : Nat} {B : Nat} {w : World} (hB : B ≤ g) (hN : N ≤ 1000000) (h : w.heap[g]? = some (.cells (rp N N).toArray 3 (0, 0))) : mine 3 vi B w (.slice (some ⟨g, 0, none⟩) N N) (List.replicate N (-1)) := by
  have e : rp N N = (List.replicate N (-1)).map vi := by unfold rp; simp
  have hl : (List.replicate N (-1 : Int)).length = N := by simp
  unfold mine
  rw [hl, ← e]
  refine ⟨by rw [rp_len (Nat.le_refl _)]; omega, .inr ⟨g, N, _, rfl, hB, h, Nat.le_refl _, by unfold maxLen; omega, by simp [rp_len], by rw [List.take_of_length_le]; simp [rp_len]⟩⟩
theorem copy_rp {B g m R N : Nat} {w0 w : World} (hB : B ≤ g) (hb : Below B w0 w) (hm : m ≤ N) (hR : R ≤ m) (hRN : m + R ≤ N) (hmin : R = Nat.min m (N - m)) (h : w.heap[g]? = some (.cells (rp m N).toArray 3 (0, 0))) :
    ∃ w4, (Builtin.copy_ #[22, 22] 3 #[.slice (some ⟨g, m, none⟩) (N - m) (N - m), .slice (some ⟨g, 0, none⟩) m N]).run Try.prog w = .ok (.int .i64 (R : Int)) w4 ∧ w4.heap[g]? = some (.cells (rp (m + R) N).toArray 3 (0, 0)) ∧ Below B w0 w4 := by
  have hrun := run_copy_row (P := Try.prog) w 22 22 3 3 g m (N - m) (N - m) ⟨g, 0, none⟩ m N (rp m N).toArray 3 (List.replicate R (vi (-1))) Try.underlying22 (by kernel_rfl) h (by simpa using hmin) (rp_at hm h R hR) (by simp [rp_len hm]; omega) (by intro v hv; rw [List.eq_of_mem_replicate hv]; rfl)
  refine ⟨_, by simpa [goInt] using hrun, ?_, below_setRow hb hB _⟩
  have e := setRow_heap w g _ ((rp m N).take m ++ (List.replicate R (vi (-1)) ++ (rp m N).drop (m + (List.replicate R (vi (-1))).length))).toArray 3 _ h
  rw [← rp_splice hRN]
  simpa [splice] using e
set_option maxRecDepth 20000 in
set_option maxHeartbeats 1000000 in
theorem Repeat_any (ad : Addr) (c N : Nat) (w : World) (hc : w.cell? ad = some (.int .i64 (-1))) (hN : 1 ≤ N) (hN2 : N ≤ 1600) :
    Calls Try.prog 31 #[.slice (some ad) 1 c, .int .i64 (N : Int)] w fun e w' => ∃ g, e = .returned (.slice (some ⟨g, 0, none⟩) N N) ∧ w.heap.size ≤ g ∧ mine 3 vi w.heap.size w' (.slice (some ⟨g, 0, none⟩) N N) (List.replicate N (-1)) ∧ Below w.heap.size w w' := by
  obtain ⟨i0, hi, hz0, hz1, hz2⟩ := info_parts ki.hi
  have d0 : decide ((N : Int) < 0) = false := by simp
  have d1 : decide ((9223372036854775807 : Int) < (N : Int)) = false := by simp; omega
  have HC : Hid (w.cell? ad = some (.int .i64 (-1))) := hc
  clear hc
  go_enter Try.func31, Try.ntmps31
  go_wp2_with fail
  refine (Mul_one N w (by omega)).mono ?_
  rintro e w' ⟨rfl, hw⟩; subst w'
  go_wp2_with (at_make; refine wpList_make_full _ rfl (.tmp 29) (.tmp 29) 22 rfl w.heap.size 3 i0 (.int .i64 0) 1 Try.underlying22 hi hz0 hz1 .i64 .i64 (N : Int) (N : Int) N rfl rfl rfl rfl ?_ ?_ (Nat.le_refl _) ?_)
  · rw [hz2]; omega
  · unfold maxLen; omega
  intro w1 hown hgr
  have hg1 := own_cells (cap := N) hown
  have e1 : (madeCells #[Value.int .i64 0] N).toList = rp 0 N := by
    rw [toList_madeCells_one (.int .i64 0) N]
    simp [rp, vi]
  rw [e1] at hg1
  have hb1 : Below w.heap.size w w1 := (Below.refl _ _).grown hgr (Nat.le_refl _) (by simp)
  have HC1 : Hid (w1.cell? ad = some (.int .i64 (-1))) := (hb1.cell (cell_lt HC.out)).trans HC.out
  have HG1 : Hid (w1.heap[w.heap.size]? = some (.cells (rp 0 N).toArray 3 (0, 0))) := hg1
  have HB1 : Hid (Below w.heap.size w w1) := hb1
  clear hown hgr hg1 e1 hb1
  go_wp2_with (refine wpList_copy_splice rfl (.tmp 31) (.tmp 32) 22 22 rfl 3 Try.underlying22 (by kernel_rfl) (some ⟨w.heap.size, 0, none⟩) (some ad) N N 1 c rfl rfl w.heap.size 0 (rp 0 N) 3 HG1.out (List.replicate 1 (vi (-1))) ?q1 ?q2 ?q3 ?q4 w.heap.size w HB1.out (Nat.le_refl _) ?q5)
  · simp [Nat.min]; omega
  · intro j v hj
    match j, hj with
    | 0, hj =>
      have e : ad.add 0 = ad := by unfold Addr.add; simp
      simp at hj
      rw [e, ← hj]; exact HC1.out
    | (k + 1), hj => simp at hj
  · rw [rp_len (by omega)]; simp; omega
  · intro v hv; rw [List.eq_of_mem_replicate hv]; rfl
  intro w2 hg2 hb2
  have hg2' := hg2.out
  have es : [vi (-1)] = List.replicate 1 (vi (-1)) := rfl
  rw [es, rp_splice (by omega)] at hg2'
  have HG2 : Hid (w2.heap[w.heap.size]? = some (.cells (rp 1 N).toArray 3 (0, 0))) := hg2'
  have HB2 : Hid (Below w.heap.size w w2) := hb2
  clear hg2 hg2' hb2
  go_wp2_with fail
  go_loopw [8] (fun i wr => ∃ (m : Nat), i = .int .i64 m ∧ 1 ≤ m ∧ m ≤ N ∧ Hid (wr.heap[w.heap.size]? = some (.cells (rp m N).toArray 3 (0, 0))) ∧ Hid (Below w.heap.size w wr)) (fun i _ => N - (intOf i).toNat)
  case atStart => exact ⟨1, rfl, by omega, hN, HG2, HB2⟩
  case round =>
    obtain ⟨m, rfl, hm1, hmN, HG, HB⟩ := hrel
    by_cases hlt : m < N
    · have l1 : (m : Int) < N := by omega
      obtain ⟨R, hR⟩ : ∃ R, Nat.min m (N - m) = R := ⟨_, rfl⟩
      have hR2 : R ≤ m ∧ m + R ≤ N ∧ 1 ≤ R := by rw [← hR]; simp [Nat.min_def]; split <;> omega
      have HR : Hid (R = Nat.min m (N - m)) := hR.symm
      clear hR
      obtain ⟨w4, hrun, hg4, hb4⟩ := copy_rp (w := wr.drew) (Nat.le_refl _) HB.out.drew hmN hR2.1 hR2.2.1 HR.out HG.out
      have HG4 : Hid (w4.heap[w.heap.size]? = some (.cells (rp (m + R) N).toArray 3 (0, 0))) := hg4
      have HB4 : Hid (Below w.heap.size w w4) := hb4
      clear hg4 hb4
      go_wp2_with fail
      go_region
      go_wp2_with fail
      go_roundw
      case rel => exact ⟨m + R, by go_num, by omega, by omega, HG4, HB4⟩
      case measure => simp [intOf]; omega
    · obtain rfl : m = N := by omega
      go_wp2_with fail
      go_ret
      exact ⟨_, rfl, Nat.le_refl _, mine_rp (Nat.le_refl _) (by omega) HG.out, HB.out⟩
end Go.Proofs.Ytkdammmikmljmaa
