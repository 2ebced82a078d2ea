/- What slices.Equal returns of orders, blows, goes and deeds that are the same. -/
import Derived.Test.YtgebfpncapfaoaaOr
namespace Go.Proofs.Ytgebfpncapfaoaa
open Go.RowKit
set_option linter.unusedVariables false

set_option maxRecDepth 20000 in
set_option maxHeartbeats 1000000 in
theorem Equalo_yes (p q : Option Addr) (n c d : Nat) (l : List Ord) (w : World) (hn : l.length = n) (hm : n ≤ 9223372036854775807) (h1 : rowf to6 w p l) (h2 : rowf to6 w q l) :
    Calls Try.prog 15 #[.slice p n c, .slice q n d] w fun e w' => e = .returned (.bool true) ∧ ∃ m, w' = w.drewN m := by
  have H1 : Hid (rowf to6 w p l) := h1
  have H2 : Hid (rowf to6 w q l) := h2
  have HN : Hid (l.length = n) := hn
  clear h1 h2 hn
  go_enter Try.func15, Try.ntmps15
  go_wp2_with fail
  go_loopw [13] (fun i wr => ∃ k : Nat, i = .int .i64 k ∧ k ≤ n ∧ ∃ m, wr = w.drewN m) (fun i _ => n - (intOf i).toNat)
  case atStart => exact ⟨0, rfl, by omega, 0, rfl⟩
  case round =>
    obtain ⟨k, rfl, hk, m, rfl⟩ := hrel
    by_cases hlt : k < n
    · skip
      obtain ⟨a, rfl, ha⟩ := rowf_at flt6 H1.out (k := k) (by rw [HN.out]; exact hlt)
      obtain ⟨b, rfl, hb⟩ := rowf_at flt6 H2.out (k := k) (by rw [HN.out]; exact hlt)
      obtain ⟨⟨z0, z1, z2, z3, z4, z5⟩, hX⟩ : ∃ X, l[k]'(by rw [HN.out]; exact hlt) = X := ⟨_, rfl⟩
      rw [hX] at ha hb
      clear hX
      have p0 : (w.drewN m).cell? (a.add (k * 6)) = some (.int .i64 z0) := by simpa [Addr.add] using ha 0 _ rfl
      have p1 : (w.drewN m).cell? ⟨(a.add (k * 6)).block, (a.add (k * 6)).off + 1, none⟩ = some (.int .i64 z1) := ha 1 _ rfl
      have p2 : (w.drewN m).cell? ⟨(a.add (k * 6)).block, (a.add (k * 6)).off + 2, none⟩ = some (.int .i64 z2) := ha 2 _ rfl
      have p3 : (w.drewN m).cell? ⟨(a.add (k * 6)).block, (a.add (k * 6)).off + 3, none⟩ = some (.int .i64 z3) := ha 3 _ rfl
      have p4 : (w.drewN m).cell? ⟨(a.add (k * 6)).block, (a.add (k * 6)).off + 4, none⟩ = some (.int .i64 z4) := ha 4 _ rfl
      have p5 : (w.drewN m).cell? ⟨(a.add (k * 6)).block, (a.add (k * 6)).off + 5, none⟩ = some (.int .i64 z5) := ha 5 _ rfl
      have q0 : (w.drewN m).cell? (b.add (k * 6)) = some (.int .i64 z0) := by simpa [Addr.add] using hb 0 _ rfl
      have q1 : (w.drewN m).cell? ⟨(b.add (k * 6)).block, (b.add (k * 6)).off + 1, none⟩ = some (.int .i64 z1) := hb 1 _ rfl
      have q2 : (w.drewN m).cell? ⟨(b.add (k * 6)).block, (b.add (k * 6)).off + 2, none⟩ = some (.int .i64 z2) := hb 2 _ rfl
      have q3 : (w.drewN m).cell? ⟨(b.add (k * 6)).block, (b.add (k * 6)).off + 3, none⟩ = some (.int .i64 z3) := hb 3 _ rfl
      have q4 : (w.drewN m).cell? ⟨(b.add (k * 6)).block, (b.add (k * 6)).off + 4, none⟩ = some (.int .i64 z4) := hb 4 _ rfl
      have q5 : (w.drewN m).cell? ⟨(b.add (k * 6)).block, (b.add (k * 6)).off + 5, none⟩ = some (.int .i64 z5) := hb 5 _ rfl
      clear ha hb
      have HQ : Hid (∀ n, ∃ q, (w.drewN m).drewN n = w.drewN q) := fun n => ⟨_, World.drewN_drewN _ _ _⟩
      generalize w.drewN m = w5 at p0 q0 p1 q1 p2 q2 p3 q3 p4 q4 p5 q5 HQ ⊢
      have l1 : (k : Int) < n := by omega
      have l2 : (0 : Int) ≤ k := by omega
      go_wp2_with fail
      go_quiet (fail)
      go_wp2_with fail
      go_roundw
      case rel => exact ⟨k + 1, by go_num, by omega, HQ.out _⟩
      case measure => simp [intOf]; omega
    · go_wp2_with fail
      go_ret
      exact ⟨rfl, m, rfl⟩
theorem Equalo_b (p q : Option Addr) (n c d : Nat) (l : List Ord) (w : World) (hn : l.length = n) (hm : n ≤ 9223372036854775807) (h1 : rowf to6 w p l) (h2 : rowf to6 w q l) :
    Calls Try.prog 15 #[.slice p n c, .slice q n d] w fun e w' => e = .returned (.bool true) ∧ Below w.heap.size w w' := by
  refine (Equalo_yes p q n c d l w hn hm h1 h2).mono ?_
  rintro e w' ⟨rfl, m, rfl⟩
  exact ⟨rfl, below_drewN (Below.refl _ _) m⟩
set_option maxRecDepth 20000 in
set_option maxHeartbeats 1000000 in
theorem Equalb_yes (p q : Option Addr) (n c d : Nat) (l : List Blw) (w : World) (hn : l.length = n) (hm : n ≤ 9223372036854775807) (h1 : rowf to2 w p l) (h2 : rowf to2 w q l) :
    Calls Try.prog 19 #[.slice p n c, .slice q n d] w fun e w' => e = .returned (.bool true) ∧ ∃ m, w' = w.drewN m := by
  have H1 : Hid (rowf to2 w p l) := h1
  have H2 : Hid (rowf to2 w q l) := h2
  have HN : Hid (l.length = n) := hn
  clear h1 h2 hn
  go_enter Try.func19, Try.ntmps19
  go_wp2_with fail
  go_loopw [13] (fun i wr => ∃ k : Nat, i = .int .i64 k ∧ k ≤ n ∧ ∃ m, wr = w.drewN m) (fun i _ => n - (intOf i).toNat)
  case atStart => exact ⟨0, rfl, by omega, 0, rfl⟩
  case round =>
    obtain ⟨k, rfl, hk, m, rfl⟩ := hrel
    by_cases hlt : k < n
    · skip
      obtain ⟨a, rfl, ha⟩ := rowf_at flt2 H1.out (k := k) (by rw [HN.out]; exact hlt)
      obtain ⟨b, rfl, hb⟩ := rowf_at flt2 H2.out (k := k) (by rw [HN.out]; exact hlt)
      obtain ⟨⟨z0, z1⟩, hX⟩ : ∃ X, l[k]'(by rw [HN.out]; exact hlt) = X := ⟨_, rfl⟩
      rw [hX] at ha hb
      clear hX
      have p0 : (w.drewN m).cell? (a.add (k * 2)) = some (.int .i64 z0) := by simpa [Addr.add] using ha 0 _ rfl
      have p1 : (w.drewN m).cell? ⟨(a.add (k * 2)).block, (a.add (k * 2)).off + 1, none⟩ = some (.int .i64 z1) := ha 1 _ rfl
      have q0 : (w.drewN m).cell? (b.add (k * 2)) = some (.int .i64 z0) := by simpa [Addr.add] using hb 0 _ rfl
      have q1 : (w.drewN m).cell? ⟨(b.add (k * 2)).block, (b.add (k * 2)).off + 1, none⟩ = some (.int .i64 z1) := hb 1 _ rfl
      clear ha hb
      have HQ : Hid (∀ n, ∃ q, (w.drewN m).drewN n = w.drewN q) := fun n => ⟨_, World.drewN_drewN _ _ _⟩
      generalize w.drewN m = w5 at p0 q0 p1 q1 HQ ⊢
      have l1 : (k : Int) < n := by omega
      have l2 : (0 : Int) ≤ k := by omega
      go_wp2_with fail
      go_quiet (fail)
      go_wp2_with fail
      go_roundw
      case rel => exact ⟨k + 1, by go_num, by omega, HQ.out _⟩
      case measure => simp [intOf]; omega
    · go_wp2_with fail
      go_ret
      exact ⟨rfl, m, rfl⟩
theorem Equalb_b (p q : Option Addr) (n c d : Nat) (l : List Blw) (w : World) (hn : l.length = n) (hm : n ≤ 9223372036854775807) (h1 : rowf to2 w p l) (h2 : rowf to2 w q l) :
    Calls Try.prog 19 #[.slice p n c, .slice q n d] w fun e w' => e = .returned (.bool true) ∧ Below w.heap.size w w' := by
  refine (Equalb_yes p q n c d l w hn hm h1 h2).mono ?_
  rintro e w' ⟨rfl, m, rfl⟩
  exact ⟨rfl, below_drewN (Below.refl _ _) m⟩
set_option maxRecDepth 20000 in
set_option maxHeartbeats 1000000 in
theorem Equalg_yes (p q : Option Addr) (n c d : Nat) (l : List Goe) (w : World) (hn : l.length = n) (hm : n ≤ 9223372036854775807) (h1 : rowf to3 w p l) (h2 : rowf to3 w q l) :
    Calls Try.prog 21 #[.slice p n c, .slice q n d] w fun e w' => e = .returned (.bool true) ∧ ∃ m, w' = w.drewN m := by
  have H1 : Hid (rowf to3 w p l) := h1
  have H2 : Hid (rowf to3 w q l) := h2
  have HN : Hid (l.length = n) := hn
  clear h1 h2 hn
  go_enter Try.func21, Try.ntmps21
  go_wp2_with fail
  go_loopw [13] (fun i wr => ∃ k : Nat, i = .int .i64 k ∧ k ≤ n ∧ ∃ m, wr = w.drewN m) (fun i _ => n - (intOf i).toNat)
  case atStart => exact ⟨0, rfl, by omega, 0, rfl⟩
  case round =>
    obtain ⟨k, rfl, hk, m, rfl⟩ := hrel
    by_cases hlt : k < n
    · skip
      obtain ⟨a, rfl, ha⟩ := rowf_at flt3 H1.out (k := k) (by rw [HN.out]; exact hlt)
      obtain ⟨b, rfl, hb⟩ := rowf_at flt3 H2.out (k := k) (by rw [HN.out]; exact hlt)
      obtain ⟨⟨z0, z1, z2⟩, hX⟩ : ∃ X, l[k]'(by rw [HN.out]; exact hlt) = X := ⟨_, rfl⟩
      rw [hX] at ha hb
      clear hX
      have p0 : (w.drewN m).cell? (a.add (k * 3)) = some (.int .i64 z0) := by simpa [Addr.add] using ha 0 _ rfl
      have p1 : (w.drewN m).cell? ⟨(a.add (k * 3)).block, (a.add (k * 3)).off + 1, none⟩ = some (.int .i64 z1) := ha 1 _ rfl
      have p2 : (w.drewN m).cell? ⟨(a.add (k * 3)).block, (a.add (k * 3)).off + 2, none⟩ = some (.int .i64 z2) := ha 2 _ rfl
      have q0 : (w.drewN m).cell? (b.add (k * 3)) = some (.int .i64 z0) := by simpa [Addr.add] using hb 0 _ rfl
      have q1 : (w.drewN m).cell? ⟨(b.add (k * 3)).block, (b.add (k * 3)).off + 1, none⟩ = some (.int .i64 z1) := hb 1 _ rfl
      have q2 : (w.drewN m).cell? ⟨(b.add (k * 3)).block, (b.add (k * 3)).off + 2, none⟩ = some (.int .i64 z2) := hb 2 _ rfl
      clear ha hb
      have HQ : Hid (∀ n, ∃ q, (w.drewN m).drewN n = w.drewN q) := fun n => ⟨_, World.drewN_drewN _ _ _⟩
      generalize w.drewN m = w5 at p0 q0 p1 q1 p2 q2 HQ ⊢
      have l1 : (k : Int) < n := by omega
      have l2 : (0 : Int) ≤ k := by omega
      go_wp2_with fail
      go_quiet (fail)
      go_wp2_with fail
      go_roundw
      case rel => exact ⟨k + 1, by go_num, by omega, HQ.out _⟩
      case measure => simp [intOf]; omega
    · go_wp2_with fail
      go_ret
      exact ⟨rfl, m, rfl⟩
theorem Equalg_b (p q : Option Addr) (n c d : Nat) (l : List Goe) (w : World) (hn : l.length = n) (hm : n ≤ 9223372036854775807) (h1 : rowf to3 w p l) (h2 : rowf to3 w q l) :
    Calls Try.prog 21 #[.slice p n c, .slice q n d] w fun e w' => e = .returned (.bool true) ∧ Below w.heap.size w w' := by
  refine (Equalg_yes p q n c d l w hn hm h1 h2).mono ?_
  rintro e w' ⟨rfl, m, rfl⟩
  exact ⟨rfl, below_drewN (Below.refl _ _) m⟩
set_option maxRecDepth 20000 in
set_option maxHeartbeats 1000000 in
theorem Equald_yes (p q : Option Addr) (n c d : Nat) (l : List Ded) (w : World) (hn : l.length = n) (hm : n ≤ 9223372036854775807) (h1 : rowf to5 w p l) (h2 : rowf to5 w q l) :
    Calls Try.prog 23 #[.slice p n c, .slice q n d] w fun e w' => e = .returned (.bool true) ∧ ∃ m, w' = w.drewN m := by
  have H1 : Hid (rowf to5 w p l) := h1
  have H2 : Hid (rowf to5 w q l) := h2
  have HN : Hid (l.length = n) := hn
  clear h1 h2 hn
  go_enter Try.func23, Try.ntmps23
  go_wp2_with fail
  go_loopw [13] (fun i wr => ∃ k : Nat, i = .int .i64 k ∧ k ≤ n ∧ ∃ m, wr = w.drewN m) (fun i _ => n - (intOf i).toNat)
  case atStart => exact ⟨0, rfl, by omega, 0, rfl⟩
  case round =>
    obtain ⟨k, rfl, hk, m, rfl⟩ := hrel
    by_cases hlt : k < n
    · skip
      obtain ⟨a, rfl, ha⟩ := rowf_at flt5 H1.out (k := k) (by rw [HN.out]; exact hlt)
      obtain ⟨b, rfl, hb⟩ := rowf_at flt5 H2.out (k := k) (by rw [HN.out]; exact hlt)
      obtain ⟨⟨z0, z1, z2, z3, z4⟩, hX⟩ : ∃ X, l[k]'(by rw [HN.out]; exact hlt) = X := ⟨_, rfl⟩
      rw [hX] at ha hb
      clear hX
      have p0 : (w.drewN m).cell? (a.add (k * 5)) = some (.int .i64 z0) := by simpa [Addr.add] using ha 0 _ rfl
      have p1 : (w.drewN m).cell? ⟨(a.add (k * 5)).block, (a.add (k * 5)).off + 1, none⟩ = some (.int .i64 z1) := ha 1 _ rfl
      have p2 : (w.drewN m).cell? ⟨(a.add (k * 5)).block, (a.add (k * 5)).off + 2, none⟩ = some (.int .i64 z2) := ha 2 _ rfl
      have p3 : (w.drewN m).cell? ⟨(a.add (k * 5)).block, (a.add (k * 5)).off + 3, none⟩ = some (.int .i64 z3) := ha 3 _ rfl
      have p4 : (w.drewN m).cell? ⟨(a.add (k * 5)).block, (a.add (k * 5)).off + 4, none⟩ = some (.int .i64 z4) := ha 4 _ rfl
      have q0 : (w.drewN m).cell? (b.add (k * 5)) = some (.int .i64 z0) := by simpa [Addr.add] using hb 0 _ rfl
      have q1 : (w.drewN m).cell? ⟨(b.add (k * 5)).block, (b.add (k * 5)).off + 1, none⟩ = some (.int .i64 z1) := hb 1 _ rfl
      have q2 : (w.drewN m).cell? ⟨(b.add (k * 5)).block, (b.add (k * 5)).off + 2, none⟩ = some (.int .i64 z2) := hb 2 _ rfl
      have q3 : (w.drewN m).cell? ⟨(b.add (k * 5)).block, (b.add (k * 5)).off + 3, none⟩ = some (.int .i64 z3) := hb 3 _ rfl
      have q4 : (w.drewN m).cell? ⟨(b.add (k * 5)).block, (b.add (k * 5)).off + 4, none⟩ = some (.int .i64 z4) := hb 4 _ rfl
      clear ha hb
      have HQ : Hid (∀ n, ∃ q, (w.drewN m).drewN n = w.drewN q) := fun n => ⟨_, World.drewN_drewN _ _ _⟩
      generalize w.drewN m = w5 at p0 q0 p1 q1 p2 q2 p3 q3 p4 q4 HQ ⊢
      have l1 : (k : Int) < n := by omega
      have l2 : (0 : Int) ≤ k := by omega
      go_wp2_with fail
      go_quiet (fail)
      go_wp2_with fail
      go_roundw
      case rel => exact ⟨k + 1, by go_num, by omega, HQ.out _⟩
      case measure => simp [intOf]; omega
    · go_wp2_with fail
      go_ret
      exact ⟨rfl, m, rfl⟩
theorem Equald_b (p q : Option Addr) (n c d : Nat) (l : List Ded) (w : World) (hn : l.length = n) (hm : n ≤ 9223372036854775807) (h1 : rowf to5 w p l) (h2 : rowf to5 w q l) :
    Calls Try.prog 23 #[.slice p n c, .slice q n d] w fun e w' => e = .returned (.bool true) ∧ Below w.heap.size w w' := by
  refine (Equald_yes p q n c d l w hn hm h1 h2).mono ?_
  rintro e w' ⟨rfl, m, rfl⟩
  exact ⟨rfl, below_drewN (Below.refl _ _) m⟩
end Go.Proofs.Ytgebfpncapfaoaa
