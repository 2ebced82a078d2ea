/- Whether a cell stands in a row of cells. -/
import Derived.Test.YtgebfpncapfaoaaWm
namespace Go.Proofs.Ytgebfpncapfaoaa
open Go.RowKit
set_option linter.unusedVariables false

set_option maxRecDepth 20000 in
set_option maxHeartbeats 1000000 in
theorem Indexc_any (p : Option Addr) (n c : Nat) (l : List Cel) (x y : Int) (w : World) (hn : l.length = n) (hm : n ≤ 4000000) (h1 : crow w p l) :
    Calls Try.prog 87 #[.slice p n c, .agg #[.int .i64 x, .int .i64 y]] w fun e w' => (∃ r : Int, e = .returned (.int .i64 r) ∧ Hid (0 ≤ r ↔ (⟨x, y⟩ : Cel) ∈ l)) ∧ Below w.heap.size w w' := by
  obtain ⟨w0, hw0⟩ : ∃ w0, w.alloc (.cells #[.int .i64 x, .int .i64 y] 23) = w0 := ⟨_, rfl⟩
  have hb0 : Below w.heap.size w w0 := by rw [← hw0]; exact alloc_below _ _
  have H1 : Hid (crow w0 p l) := crow_below h1 hb0
  have HB0 : Hid (Below w.heap.size w w0) := hb0
  have HN : Hid (l.length = n) := hn
  obtain ⟨F, hF⟩ : ∃ F, w.heap.size = F := ⟨_, rfl⟩
  have HC : Hid (w0.cell? ⟨F, 0, none⟩ = some (.int .i64 x) ∧ w0.cell? ⟨F, 1, none⟩ = some (.int .i64 y)) := by rw [← hw0, ← hF]; constructor <;> simp [go_sem]
  clear h1 hn hb0
  go_enter Try.func87, Try.ntmps87
  go_wp2_with fail
  clear hw0
  go_loopw [8] (fun i wr => ∃ k : Nat, i = .int .i64 k ∧ k ≤ n ∧ Hid (∀ j (h : j < l.length), j < k → l[j] ≠ ⟨x, y⟩) ∧ ∃ m, wr = w0.drewN m) (fun i _ => n - (intOf i).toNat)
  case atStart => exact ⟨0, rfl, by omega, fun j _ h => by omega, 0, rfl⟩
  case round =>
    obtain ⟨k, rfl, hk, HJ, m, rfl⟩ := hrel
    by_cases hlt : k < n
    · have hkl : k < l.length := by rw [HN.out]; exact hlt
      obtain ⟨a, rfl, ha, hay⟩ := crow_at H1.out (j := k) hkl
      obtain ⟨X, hX⟩ : ∃ X, l[k].x = X := ⟨_, rfl⟩
      obtain ⟨Y, hY⟩ : ∃ Y, l[k].y = Y := ⟨_, rfl⟩
      have HXY : Hid (l[k] = ⟨X, Y⟩) := by unfold Hid; rw [← hX, ← hY]
      rw [hX] at ha
      rw [hY] at hay
      clear hX hY
      have ha' : (w0.drewN m).cell? (a.add (k * 2)) = some (.int .i64 X) := ha
      have hay' : (w0.drewN m).cell? ⟨(a.add (k * 2)).block, (a.add (k * 2)).off + 1, none⟩ = some (.int .i64 Y) := cell_two hay
      have c0 : (w0.drewN m).cell? ⟨F, 0, none⟩ = some (.int .i64 x) := HC.out.1
      have c1 : (w0.drewN m).cell? ⟨F, 1, none⟩ = some (.int .i64 y) := HC.out.2
      have HQ : Hid (∀ n, ∃ q, (w0.drewN m).drewN n = w0.drewN q) := fun n => ⟨_, World.drewN_drewN _ _ _⟩
      have HBm : Hid (Below w.heap.size w (w0.drewN m)) := below_drewN HB0.out m
      have HMEM : Hid (l[k] ∈ l) := List.getElem_mem hkl
      clear ha hay
      generalize w0.drewN m = w5 at ha' hay' c0 c1 HQ HBm ⊢
      have l1 : (k : Int) < n := by omega
      have l2 : (0 : Int) ≤ k := by omega
      have HNX : Hid (¬ (x = X ∧ y = Y) → ∀ j (h : j < l.length), j < k + 1 → l[j] ≠ ⟨x, y⟩) := fun hne j h hj => by
        by_cases e : j = k
        · subst e; intro e2; rw [HXY.out] at e2; cases e2; exact hne ⟨rfl, rfl⟩
        · exact HJ.out j h (by omega)
      by_cases hx : x = X
      · subst hx
        by_cases hy : y = Y
        · subst hy
          have e1 : (x == x) = true := by simp
          have e2 : (y == y) = true := by simp
          go_wp2_with fail
          go_quiet (fail)
          go_wp2_with fail
          go_ret
          refine ⟨⟨(k : Int), rfl, ⟨fun _ => ?_, fun _ => by omega⟩⟩, by first | exact below_drewN HBm.out _ | (rw [← hF]; exact below_drewN HBm.out _)⟩
          have := HMEM.out
          rw [HXY.out] at this; exact this
        · have d1 : (y == Y) = false := by simp [hy]
          have HN2 : Hid (∀ j (h : j < l.length), j < k + 1 → l[j] ≠ ⟨x, y⟩) := HNX.out (fun h => hy h.2)
          go_wp2_with fail
          go_quiet (fail)
          go_wp2_with fail
          go_roundw
          case rel => exact ⟨k + 1, by go_num, by omega, HN2, HQ.out _⟩
          case measure => simp [intOf]; omega
      · have d1 : (x == X) = false := by simp [hx]
        have HN2 : Hid (∀ j (h : j < l.length), j < k + 1 → l[j] ≠ ⟨x, y⟩) := HNX.out (fun h => hx h.1)
        go_wp2_with fail
        go_quiet (fail)
        go_wp2_with fail
        go_roundw
        case rel => exact ⟨k + 1, by go_num, by omega, HN2, HQ.out _⟩
        case measure => simp [intOf]; omega
    · have HNO : Hid ((⟨x, y⟩ : Cel) ∉ l) := fun hm => by
        obtain ⟨j, hj, e⟩ := List.getElem_of_mem hm
        exact HJ.out j hj (by have := HN.out; omega) e
      have HBm : Hid (Below w.heap.size w (w0.drewN m)) := below_drewN HB0.out m
      go_wp2_with fail
      go_ret
      exact ⟨⟨-1, rfl, ⟨fun h => by omega, fun h => absurd h HNO.out⟩⟩, HBm.out⟩
set_option maxRecDepth 20000 in
theorem Containsc_any (p : Option Addr) (n c : Nat) (l : List Cel) (x y : Int) (b : Bool) (w : World) (hn : l.length = n) (hm : n ≤ 4000000) (h1 : crow w p l) (hb : Hid (b = true ↔ (⟨x, y⟩ : Cel) ∈ l)) :
    Calls Try.prog 82 #[.slice p n c, .agg #[.int .i64 x, .int .i64 y]] w fun e w' => e = .returned (.bool b) ∧ Below w.heap.size w w' := by
  have H1 : Hid (crow w p l) := h1
  have HN : Hid (l.length = n) := hn
  clear h1 hn
  go_enter Try.func82, Try.ntmps82
  go_wp2_with fail
  refine (Indexc_any p n c l x y _ HN.out hm (crow_below H1.out (alloc_below _ _))).mono ?_
  rintro e w1 ⟨⟨r, rfl, HR⟩, hb1⟩
  have HB : Hid (Below w.heap.size w w1) := below_step (alloc_below w _) (by simp) hb1
  clear hb1
  by_cases hr : 0 ≤ r
  · have eb : b = true := hb.out.2 (HR.out.1 hr)
    subst eb
    go_wp2_with fail
    go_ret
    exact ⟨rfl, HB.out⟩
  · have eb : b = false := by
      cases hbb : b with
      | false => rfl
      | true => exact absurd (HR.out.2 (hb.out.1 hbb)) hr
    subst eb
    go_wp2_with fail
    go_ret
    exact ⟨by simp [hr], HB.out⟩
end Go.Proofs.Ytgebfpncapfaoaa
