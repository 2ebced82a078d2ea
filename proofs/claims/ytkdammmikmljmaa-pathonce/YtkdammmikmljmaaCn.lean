/- What slices.Contains returns of a cell that is not there; no cell is on a way twice. -/
import Derived.Test.YtkdammmikmljmaaLv
namespace Go.Proofs.Ytkdammmikmljmaa
open Go.RowKit
set_option linter.unusedVariables false

set_option maxRecDepth 20000 in
set_option maxHeartbeats 1000000 in
theorem Indexc_none (p : Option Addr) (n c : Nat) (l : List Cel) (x y : Int) (w : World) (hn : l.length = n) (hm : n ≤ 4000000) (h1 : crow w p l) (h2 : ∀ k (h : k < l.length), l[k] ≠ ⟨x, y⟩) :
    Calls Try.prog 36 #[.slice p n c, .agg #[.int .i64 x, .int .i64 y]] w fun e w' => e = .returned (.int .i64 (-1)) ∧ Below w.heap.size w w' := by
  obtain ⟨w0, hw0⟩ : ∃ w0, w.alloc (.cells #[.int .i64 x, .int .i64 y] 26) = w0 := ⟨_, rfl⟩
  have hb0 : Below w.heap.size w w0 := by rw [← hw0]; exact alloc_below _ _
  have H1 : Hid (crow w0 p l) := crow_below h1 hb0
  have HB0 : Hid (Below w.heap.size w w0) := hb0
  have HN : Hid (l.length = n) := hn
  have HZ : Hid (∀ k (h : k < l.length), l[k] ≠ ⟨x, y⟩) := h2
  obtain ⟨F, hF⟩ : ∃ F, w.heap.size = F := ⟨_, rfl⟩
  have HC : Hid (w0.cell? ⟨F, 0, none⟩ = some (.int .i64 x) ∧ w0.cell? ⟨F, 1, none⟩ = some (.int .i64 y)) := by rw [← hw0, ← hF]; constructor <;> simp [go_sem]
  clear h1 h2 hn hb0
  go_enter Try.func36, Try.ntmps36
  go_wp2_with fail
  clear hw0
  go_loopw [8] (fun i wr => ∃ k : Nat, i = .int .i64 k ∧ k ≤ n ∧ ∃ m, wr = w0.drewN m) (fun i _ => n - (intOf i).toNat)
  case atStart => exact ⟨0, rfl, by omega, 0, rfl⟩
  case round =>
    obtain ⟨k, rfl, hk, m, rfl⟩ := hrel
    by_cases hlt : k < n
    · have hkl : k < l.length := by rw [HN.out]; exact hlt
      obtain ⟨a, rfl, ha, hay⟩ := crow_at H1.out (j := k) hkl
      have hne := HZ.out k hkl
      obtain ⟨X, hX⟩ : ∃ X, l[k].x = X := ⟨_, rfl⟩
      obtain ⟨Y, hY⟩ : ∃ Y, l[k].y = Y := ⟨_, rfl⟩
      have hxy : ¬ (x = X ∧ y = Y) := fun ⟨e1, e2⟩ => hne (by rw [e1, e2, ← hX, ← hY])
      rw [hX] at ha
      rw [hY] at hay
      clear hX hY hne
      have ha' : (w0.drewN m).cell? (a.add (k * 2)) = some (.int .i64 X) := ha
      have hay' : (w0.drewN m).cell? ⟨(a.add (k * 2)).block, (a.add (k * 2)).off + 1, none⟩ = some (.int .i64 Y) := cell_two hay
      have c0 : (w0.drewN m).cell? ⟨F, 0, none⟩ = some (.int .i64 x) := HC.out.1
      have c1 : (w0.drewN m).cell? ⟨F, 1, none⟩ = some (.int .i64 y) := HC.out.2
      have HQ : Hid (∀ n, ∃ q, (w0.drewN m).drewN n = w0.drewN q) := fun n => ⟨_, World.drewN_drewN _ _ _⟩
      clear ha hay
      generalize w0.drewN m = w5 at ha' hay' c0 c1 HQ ⊢
      have l1 : (k : Int) < n := by omega
      have l2 : (0 : Int) ≤ k := by omega
      by_cases hx : x = X
      · subst hx
        have d1 : (y == Y) = false := by simp; intro e; exact hxy ⟨rfl, e⟩
        clear hxy
        go_wp2_with fail
        go_quiet (fail)
        go_wp2_with fail
        go_roundw
        case rel => exact ⟨k + 1, by go_num, by omega, HQ.out _⟩
        case measure => simp [intOf]; omega
      · have d1 : (x == X) = false := by simp [hx]
        clear hxy
        go_wp2_with fail
        go_quiet (fail)
        go_wp2_with fail
        go_roundw
        case rel => exact ⟨k + 1, by go_num, by omega, HQ.out _⟩
        case measure => simp [intOf]; omega
    · go_wp2_with fail
      go_ret
      exact ⟨rfl, below_drewN HB0.out m⟩
set_option maxRecDepth 20000 in
theorem Containsc_none (p : Option Addr) (n c : Nat) (l : List Cel) (x y : Int) (w : World) (hn : l.length = n) (hm : n ≤ 4000000) (h1 : crow w p l) (h2 : ∀ k (h : k < l.length), l[k] ≠ ⟨x, y⟩) :
    Calls Try.prog 15 #[.slice p n c, .agg #[.int .i64 x, .int .i64 y]] w fun e w' => e = .returned (.bool false) ∧ Below w.heap.size w w' := by
  have H1 : Hid (crow w p l) := h1
  have HN : Hid (l.length = n) := hn
  have HZ : Hid (∀ k (h : k < l.length), l[k] ≠ ⟨x, y⟩) := h2
  clear h1 h2 hn
  go_enter Try.func15, Try.ntmps15
  go_wp2_with fail
  refine (Indexc_none p n c l x y _ HN.out hm (crow_below H1.out (alloc_below _ _)) HZ.out).mono ?_
  rintro e w1 ⟨rfl, hb1⟩
  have HB : Hid (Below w.heap.size w w1) := below_step (alloc_below w _) (by simp) hb1
  clear hb1
  go_wp2_with fail
  go_ret
  exact ⟨rfl, HB.out⟩
theorem trl_len {W H : Nat} {l far : List Int} {S : Nat → Prop} {c : Cel} {R : List Cel} (hs : Sol W H l S far) (h : Trl W H l far c R) : R.length ≤ W * H := by
  have h1 := nodup_le (W * H) (R.map (ixc W)) (by
    intro x hx
    obtain ⟨d, hd, rfl⟩ := List.mem_map.1 hx
    obtain ⟨k, hk, rfl⟩ := List.getElem_of_mem hd
    exact inf_lt (trl_at h hk).1) (by
    rw [List.nodup_iff_pairwise_ne, List.pairwise_iff_getElem]
    intro i j hi hj hij e
    simp only [List.length_map] at hi hj
    rw [List.getElem_map, List.getElem_map] at e
    exact trl_ne hs h hij hj (ixc_inj (trl_at h hi).1 (trl_at h hj).1 e))
  simpa using h1
theorem rev_ne {W H : Nat} {l far : List Int} {S : Nat → Prop} {c : Cel} {R : List Cel} (hs : Sol W H l S far) (h : Trl W H l far c R) {i j : Nat} (hij : i < j) (hj : j < R.reverse.length) : (R.reverse)[i]'(by omega) ≠ (R.reverse)[j] := by
  simp only [List.length_reverse] at hj
  rw [List.getElem_reverse, List.getElem_reverse]
  exact fun e => trl_ne hs h (i := R.length - 1 - j) (j := R.length - 1 - i) (by omega) (by omega) e.symm
end Go.Proofs.Ytkdammmikmljmaa
