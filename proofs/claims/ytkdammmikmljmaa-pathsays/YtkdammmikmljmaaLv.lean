/- Two rows of the same cells are equal; the package lives: around a rock. -/
import Derived.Test.YtkdammmikmljmaaPg
namespace Go.Proofs.Ytkdammmikmljmaa
open Go.RowKit
set_option linter.unusedVariables false

set_option maxRecDepth 20000 in
set_option maxHeartbeats 1000000 in
theorem Equalc_yes (p q : Option Addr) (n c d : Nat) (l : List Cel) (w : World) (hn : l.length = n) (hm : n ≤ 9223372036854775807) (h1 : crow w p l) (h2 : crow w q l) :
    Calls Try.prog 10 #[.slice p n c, .slice q n d] w fun e w' => e = .returned (.bool true) ∧ ∃ m, w' = w.drewN m := by
  have H1 : Hid (crow w p l) := h1
  have H2 : Hid (crow w q l) := h2
  have HN : Hid (l.length = n) := hn
  clear h1 h2 hn
  go_enter Try.func10, Try.ntmps10
  go_wp2_with fail
  go_loopw [13] (fun i wr => ∃ k : Nat, i = .int .i64 k ∧ k ≤ n ∧ ∃ m, wr = w.drewN m) (fun i _ => n - (intOf i).toNat)
  case atStart => exact ⟨0, rfl, by omega, 0, rfl⟩
  case round =>
    obtain ⟨k, rfl, hk, m, rfl⟩ := hrel
    by_cases hlt : k < n
    · obtain ⟨a, rfl, ha, hay⟩ := crow_at H1.out (j := k) (by rw [HN.out]; exact hlt)
      obtain ⟨b, rfl, hb, hby⟩ := crow_at H2.out (j := k) (by rw [HN.out]; exact hlt)
      obtain ⟨X, hX⟩ : ∃ X, (l[k]'(by rw [HN.out]; exact hlt)).x = X := ⟨_, rfl⟩
      obtain ⟨Y, hY⟩ : ∃ Y, (l[k]'(by rw [HN.out]; exact hlt)).y = Y := ⟨_, rfl⟩
      rw [hX] at ha hb
      rw [hY] at hay hby
      clear hX hY
      have ha' : (w.drewN m).cell? (a.add (k * 2)) = some (.int .i64 X) := ha
      have hb' : (w.drewN m).cell? (b.add (k * 2)) = some (.int .i64 X) := hb
      have hay' : (w.drewN m).cell? ⟨(a.add (k * 2)).block, (a.add (k * 2)).off + 1, none⟩ = some (.int .i64 Y) := cell_two hay
      have hby' : (w.drewN m).cell? ⟨(b.add (k * 2)).block, (b.add (k * 2)).off + 1, none⟩ = some (.int .i64 Y) := cell_two hby
      have HQ : Hid (∀ n, ∃ q, (w.drewN m).drewN n = w.drewN q) := fun n => ⟨_, World.drewN_drewN _ _ _⟩
      clear ha hb hay hby
      generalize w.drewN m = w5 at ha' hb' hay' hby' HQ ⊢
      have l1 : (k : Int) < n := by omega
      have l2 : (0 : Int) ≤ k := by omega
      go_wp2_with fail
      go_quiet (fail)
      go_wp2_with fail
      go_roundw
      case rel => exact ⟨k + 1, by go_num, by omega, HQ.out _⟩
      case measure => simp [intOf]; omega
    · go_wp2_with fail
      go_ret
      exact ⟨rfl, m, rfl⟩
theorem Equalc_b (p q : Option Addr) (n c d : Nat) (l : List Cel) (w : World) (hn : l.length = n) (hm : n ≤ 9223372036854775807) (h1 : crow w p l) (h2 : crow w q l) :
    Calls Try.prog 10 #[.slice p n c, .slice q n d] w fun e w' => e = .returned (.bool true) ∧ Below w.heap.size w w' := by
  refine (Equalc_yes p q n c d l w hn hm h1 h2).mono ?_
  rintro e w' ⟨rfl, m, rfl⟩
  exact ⟨rfl, below_drewN (Below.refl _ _) m⟩
theorem two_cases {x : Nat} (h : x < 2) : x = 0 ∨ x = 1 := by omega
theorem sol_lives : Sol 2 2 [0, 1, 0, 0] (fst_ 2 [⟨0, 0⟩]) [0, -1, 2, 4] where
  len := rfl
  zero := by
    intro i hi
    have hf : fst_ 2 [⟨0, 0⟩] i ↔ i = 0 := by
      unfold fst_
      constructor
      · rintro ⟨x, y, h, e⟩
        simp at h
        omega
      · intro e
        exact ⟨0, 0, by simp, by omega⟩
    rw [hf]
    have : i = 0 ∨ i = 1 ∨ i = 2 ∨ i = 3 := by omega
    rcases this with rfl | rfl | rfl | rfl <;> simp [pa]
  low := by
    intro i hi
    have : i = 0 ∨ i = 1 ∨ i = 2 ∨ i = 3 := by omega
    rcases this with rfl | rfl | rfl | rfl <;> simp [pa]
  rock := by
    intro i hi
    have : i = 0 ∨ i = 1 ∨ i = 2 ∨ i = 3 := by omega
    rcases this with rfl | rfl | rfl | rfl <;> simp [pa]
  best := by
    rintro i j ⟨x, y, x', y', rfl, rfl, hx, hx', hy, hy', h⟩
    rcases two_cases hx with rfl | rfl <;> rcases two_cases hx' with rfl | rfl <;> rcases two_cases hy with rfl | rfl <;> rcases two_cases hy' with rfl | rfl <;> simp [pa, kc] at h ⊢
  just := by
    intro i hi h0
    have : i = 0 ∨ i = 1 ∨ i = 2 ∨ i = 3 := by omega
    rcases this with rfl | rfl | rfl | rfl
    · simp [pa] at h0
    · simp [pa] at h0
    · exact ⟨0, ⟨0, 0, 0, 1, rfl, rfl, by omega, by omega, by omega, by omega, by omega⟩, by simp [pa], by simp [pa, kc]⟩
    · exact ⟨2, ⟨0, 1, 1, 1, rfl, rfl, by omega, by omega, by omega, by omega, by omega⟩, by simp [pa], by simp [pa, kc]⟩
  top := by
    intro i hi
    have : i = 0 ∨ i = 1 ∨ i = 2 ∨ i = 3 := by omega
    rcases this with rfl | rfl | rfl | rfl <;> simp [pa]
theorem trl_lives : Trl 2 2 [0, 1, 0, 0] [0, -1, 2, 4] ⟨1, 1⟩ [⟨1, 1⟩, ⟨0, 1⟩, ⟨0, 0⟩] := by
  refine .more ⟨1, 1, rfl, by omega, by omega⟩ (by decide) (d := ⟨0, 1⟩) ⟨1, by omega, ?_, by decide, rfl⟩ (.more ⟨0, 1, rfl, by omega, by omega⟩ (by decide) (d := ⟨0, 0⟩) ⟨0, by omega, ?_, by decide, rfl⟩ (.one ⟨0, 0, rfl, by omega, by omega⟩ (by decide)))
  · intro j hj
    obtain rfl : j = 0 := by omega
    decide
  · intro j hj; omega
set_option maxRecDepth 20000 in
set_option maxHeartbeats 1000000 in
theorem lives_any (w : World) : Calls Try.prog 11 #[] w fun e w' => e = .returned (.bool true) ∧ Below w.heap.size w w' := by
  go_enter Try.func11, Try.ntmps11
  go_wp2_with fail
  refine (Read_ts 2 2 [0, 1, 0, 0] _ w (by decide) (by decide) rfl (by decide) (by decide)).mono ?_
  rintro e w1 ⟨v, rfl, hm, hb1⟩
  obtain ⟨a, c, rfl, hr, hc⟩ := mine_some (n := 4) hm rfl (by decide)
  obtain ⟨w2, hw2⟩ : ∃ w2, w1.alloc (.cells #[.int .i64 2, .int .i64 2, .slice (some a) 4 c] 24) = w2 := ⟨_, rfl⟩
  have hb2 : Below w1.heap.size w1 w2 := by rw [← hw2]; exact alloc_below _ _
  have HR : Hid (row vi w2 (some a) [0, 1, 0, 0]) := row_below hr hb2
  have HB2 : Hid (Below w.heap.size w w2) := hb1.trans (hb2.mono hb1.size)
  obtain ⟨z0, z1, z2⟩ : w2.cell? ⟨w1.heap.size, 0, none⟩ = some (.int .i64 2) ∧ w2.cell? ⟨w1.heap.size, 1, none⟩ = some (.int .i64 2) ∧ w2.cell? ⟨w1.heap.size, 2, none⟩ = some (.slice (some a) 4 c) := by rw [← hw2]; exact box3 (Below.refl _ _)
  clear hm hb1 hr hb2
  go_wp2_with fail
  refine (Find_any 2 2 (some a) 4 c [0, 1, 0, 0] 0 0 1 1 w2 HR.out rfl (by decide)).mono ?_
  rintro e w3 ⟨⟨v, D, E, rfl, hf⟩, hb3⟩
  rcases hf with ⟨h1, h2, _⟩ | ⟨rfl, W, H, far, R, g, cap, hgd, hpos, hD, hR, hRl, rfl, hmc⟩
  · exfalso
    rcases h2 with ⟨h2, _⟩ | ⟨_, W, H, far, hgd, hneg⟩
    · exact h2 (by decide)
    · obtain ⟨hA, hB, _, _, _, _, _, hsol⟩ := hgd
      obtain rfl : W = 2 := by omega
      obtain rfl : H = 2 := by omega
      rw [sol_one hsol sol_lives] at hneg
      exact absurd hneg (by decide)
  · obtain ⟨hA, hB, _, _, _, _, _, hsol⟩ := hgd
    obtain rfl : W = 2 := by omega
    obtain rfl : H = 2 := by omega
    obtain rfl := sol_one hsol sol_lives
    have eR := trl_one hR trl_lives
    have e3 : R.length = 3 := by rw [eR]; rfl
    rw [e3] at hmc ⊢
    have hD4 : D = 4 := by rw [hD]; decide
    subst hD4
    have HMC : Hid (minec w2.heap.size w3 (.slice (some ⟨g, 0, none⟩) 3 cap) [⟨0, 0⟩, ⟨0, 1⟩, ⟨1, 1⟩]) := by rw [eR] at hmc; exact hmc
    have HB3 : Hid (Below w.heap.size w w3) := HB2.out.trans (hb3.mono HB2.out.size)
    clear hD hpos hR hRl hmc hb3 hsol hw2 eR e3 hA hB
    go_wp2_with fail
    obtain ⟨w4, hw4⟩ : ∃ w4, w3.alloc (.cells #[.int .i64 0, .int .i64 0, .int .i64 0, .int .i64 1, .int .i64 1, .int .i64 1] 26) = w4 := ⟨_, rfl⟩
    have hb4 : Below w3.heap.size w3 w4 := by rw [← hw4]; exact alloc_below _ _
    have hr4 : crow w4 (some ⟨w3.heap.size, 0, none⟩) [⟨0, 0⟩, ⟨0, 1⟩, ⟨1, 1⟩] := by
      intro j x hj
      refine ⟨_, rfl, ?_⟩
      rw [add_zero_at, add_zero_at, ← hw4]
      match j, hj with
      | 0, hj => simp at hj; rw [← hj]; constructor <;> simp [go_sem]
      | 1, hj => simp at hj; rw [← hj]; constructor <;> simp [go_sem]
      | 2, hj => simp at hj; rw [← hj]; constructor <;> simp [go_sem]
      | (k + 3), hj => simp at hj
    have hr3 : crow w4 (some ⟨g, 0, none⟩) [⟨0, 0⟩, ⟨0, 1⟩, ⟨1, 1⟩] := by
      obtain ⟨p', c', e, h, _⟩ := minec_full HMC.out
      simp only [Value.slice.injEq] at e
      rw [e.1]; exact crow_below h hb4
    rw [hw4]
    refine (Equalc_b (some ⟨g, 0, none⟩) (some ⟨w3.heap.size, 0, none⟩) 3 _ _ [⟨0, 0⟩, ⟨0, 1⟩, ⟨1, 1⟩] w4 rfl (by decide) hr3 hr4).mono ?_
    rintro e w5 ⟨rfl, hb5⟩
    have HB5 : Hid (Below w.heap.size w w5) := HB3.out.trans (below_step (hb4.mono HB3.out.size) (by have := hb4.size; have := HB3.out.size; omega) hb5)
    clear hb5 hb4 hr4 hr3 hw4
    go_wp2_with fail
    go_ret
    exact ⟨rfl, HB5.out⟩
end Go.Proofs.Ytkdammmikmljmaa
