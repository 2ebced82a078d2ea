/- The document's line: what 'aside', 'LineOf', 'CellNear' and 'slices.Equal' return. -/
import Derived.Test.YtjbfnibhmojlfaaLq
import Derived.Test.YtjbfnibhmojlfaaLl
namespace Go.Proofs.Ytjbfnibhmojlfaa
open Go.RowKit
set_option linter.unusedVariables false
attribute [local go_sem ↓] Go.wp_at_zero Go.wp_at_succ

set_option maxHeartbeats 1000000 in
theorem aside_round (k n f t lo hi : Int) (w : World) (k0 : 0 ≤ k) (k1 : k ≤ n) (n0 : 0 < n) (n1 : n ≤ 120) (h0 : -1000 ≤ f) (h1 : f ≤ 1000) (h2 : -1000 ≤ t) (h3 : t ≤ 1000)
    (hc : (f ≤ t ∧ lo = f ∧ hi = t) ∨ (t < f ∧ lo = t ∧ hi = f)) :
    Calls Try.prog 84 #[.int .i64 k, .int .i64 n, .int .i64 f, .int .i64 t] w fun e w' => e = .returned (.int .i64 (bt f t k n)) ∧ w' = w := by
  have pf := mul_bd (a := n) (b := f) (M := 120) (N := 1000) (by omega) (by omega) (by omega) (by omega)
  have pk := mul_bd (a := k) (b := t - f) (M := 120) (N := 2000) (by omega) (by omega) (by omega) (by omega)
  obtain ⟨pf0, pf1⟩ := pf
  obtain ⟨pk0, pk1⟩ := pk
  have HB : Hid ((f ≤ bt f t k n ∨ t ≤ bt f t k n) ∧ (bt f t k n ≤ f ∨ bt f t k n ≤ t)) := bt_in f t k n n0 k0 k1
  obtain ⟨B, hB⟩ : ∃ B, bt f t k n = B := ⟨_, rfl⟩
  have BS : Hid (best f t (bt f t k n) lo lo f) := ⟨by omega, by omega, by omega, fun h => by have := HB.out; omega⟩
  have HBT : Hid (bt f t k n = B) := hB
  rw [hB]
  clear hB
  rcases hc with ⟨c, rfl, rfl⟩ | ⟨c, rfl, rfl⟩
  · go_enter Try.func84, Try.ntmps84
    go_wp2_with fail
    go_loop [9, 10] (fun b y => ∃ b' y' : Int, b = .int .i64 b' ∧ y = .int .i64 y' ∧ y' ≤ hi + 1 ∧ best lo hi (bt lo hi k n) lo y' b') (fun _ y => (hi + 1 - intOf y).toNat)
    case atStart => exact ⟨lo, lo, rfl, rfl, by omega, BS.out⟩
    case round =>
      obtain ⟨b, y, rfl, rfl, hy, R⟩ := hrel
      have HR : Hid (best lo hi (bt lo hi k n) lo y b) := R
      obtain ⟨r0, r1, r2, _⟩ := R
      clear BS
      by_cases hlt : y ≤ hi
      · have py := mul_bd (a := n) (b := y) (M := 120) (N := 1000) (by omega) (by omega) (by omega) (by omega)
        have pb := mul_bd (a := n) (b := b) (M := 120) (N := 1000) (by omega) (by omega) (by omega) (by omega)
        obtain ⟨py0, py1⟩ := py
        obtain ⟨pb0, pb1⟩ := pb
        have ST := best_take (y := y) (b := b) n0 k0 k1 HR.out (by omega) (by omega)
        have SS := best_stay (y := y) (b := b) n0 k0 k1 HR.out
        have HST : Hid (_ → _) := ST
        have HSS : Hid (_ → _) := SS
        clear ST SS
        have d1 : -1000 ≤ b := by omega
        have d2 : b ≤ 1000 := by omega
        clear r1 r2
        go_wp2_with ((go_at_call 60; refine (Far_any _ _ _ (by omega) (by omega) (by omega) (by omega)).mono ?_; rintro e w' ⟨rfl, rfl⟩))
        all_goals
          go_round
          case rel => first | exact ⟨y, y + 1, rfl, rfl, by omega, HST.out (.inl (by omega))⟩ | exact ⟨y, y + 1, rfl, rfl, by omega, HST.out (.inr ⟨by omega, by omega⟩)⟩ | exact ⟨b, y + 1, rfl, rfl, by omega, HSS.out (by omega)⟩
          case measure => simp [intOf]; omega
      · have hb : b = B := by have := HR.out.2.2.2 (by have := HB.out; omega); rw [this]; exact HBT.out
        clear r1 r2
        go_wp2_with fail
        all_goals
          go_ret
          exact ⟨rfl, rfl⟩
  · go_enter Try.func84, Try.ntmps84
    go_wp2_with fail
    go_loop [9, 10] (fun b y => ∃ b' y' : Int, b = .int .i64 b' ∧ y = .int .i64 y' ∧ y' ≤ hi + 1 ∧ best hi lo (bt hi lo k n) lo y' b') (fun _ y => (hi + 1 - intOf y).toNat)
    case atStart => exact ⟨hi, lo, rfl, rfl, by omega, BS.out⟩
    case round =>
      obtain ⟨b, y, rfl, rfl, hy, R⟩ := hrel
      have HR : Hid (best hi lo (bt hi lo k n) lo y b) := R
      obtain ⟨r0, r1, r2, _⟩ := R
      clear BS
      by_cases hlt : y ≤ hi
      · have py := mul_bd (a := n) (b := y) (M := 120) (N := 1000) (by omega) (by omega) (by omega) (by omega)
        have pb := mul_bd (a := n) (b := b) (M := 120) (N := 1000) (by omega) (by omega) (by omega) (by omega)
        obtain ⟨py0, py1⟩ := py
        obtain ⟨pb0, pb1⟩ := pb
        have ST := best_take (y := y) (b := b) n0 k0 k1 HR.out (by omega) (by omega)
        have SS := best_stay (y := y) (b := b) n0 k0 k1 HR.out
        have HST : Hid (_ → _) := ST
        have HSS : Hid (_ → _) := SS
        clear ST SS
        have d1 : -1000 ≤ b := by omega
        have d2 : b ≤ 1000 := by omega
        clear r1 r2
        go_wp2_with ((go_at_call 60; refine (Far_any _ _ _ (by omega) (by omega) (by omega) (by omega)).mono ?_; rintro e w' ⟨rfl, rfl⟩))
        all_goals
          go_round
          case rel => first | exact ⟨y, y + 1, rfl, rfl, by omega, HST.out (.inl (by omega))⟩ | exact ⟨y, y + 1, rfl, rfl, by omega, HST.out (.inr ⟨by omega, by omega⟩)⟩ | exact ⟨b, y + 1, rfl, rfl, by omega, HSS.out (by omega)⟩
          case measure => simp [intOf]; omega
      · have hb : b = B := by have := HR.out.2.2.2 (by have := HB.out; omega); rw [this]; exact HBT.out
        clear r1 r2
        go_wp2_with fail
        all_goals
          go_ret
          exact ⟨rfl, rfl⟩

theorem aside_any (k n f t : Int) (w : World) (k0 : 0 ≤ k) (k1 : k ≤ n) (n0 : 0 < n) (n1 : n ≤ 120) (h0 : -1000 ≤ f) (h1 : f ≤ 1000) (h2 : -1000 ≤ t) (h3 : t ≤ 1000) :
    Calls Try.prog 84 #[.int .i64 k, .int .i64 n, .int .i64 f, .int .i64 t] w fun e w' => e = .returned (.int .i64 (bt f t k n)) ∧ w' = w := by
  by_cases c : f ≤ t
  · exact aside_round k n f t f t w k0 k1 n0 n1 h0 h1 h2 h3 (.inl ⟨c, rfl, rfl⟩)
  · exact aside_round k n f t t f w k0 k1 n0 n1 h0 h1 h2 h3 (.inr ⟨by omega, rfl, rfl⟩)

def cl (X Y : Nat → Int) (m : Nat) : List Value := (List.range m).flatMap fun j => [.int .i64 (X j), .int .i64 (Y j)]
theorem cl_succ (X Y : Nat → Int) (m : Nat) : cl X Y (m + 1) = cl X Y m ++ [.int .i64 (X m), .int .i64 (Y m)] := by
  unfold cl; rw [List.range_succ, List.flatMap_append]; simp
theorem cl_length (X Y : Nat → Int) (m : Nat) : (cl X Y m).length = m * 2 := by
  induction m with
  | zero => rfl
  | succ m ih => rw [cl_succ, List.length_append, ih]; simp; omega
theorem cl_at (X Y : Nat → Int) {m j : Nat} (h : j < m) : (cl X Y m)[j * 2]? = some (.int .i64 (X j)) ∧ (cl X Y m)[j * 2 + 1]? = some (.int .i64 (Y j)) := by
  induction m with
  | zero => omega
  | succ m ih =>
    have hl := cl_length X Y m
    rw [cl_succ]
    by_cases c : j < m
    · rw [List.getElem?_append_left (by omega), List.getElem?_append_left (by omega)]; exact ih c
    · obtain rfl : j = m := by omega
      rw [List.getElem?_append_right (by omega), List.getElem?_append_right (by omega), hl]
      simp

def apd (B : Nat) (w : World) (X Y : Nat → Int) (m : Nat) (v : Value) (wr : World) : Prop := Below B w wr ∧ B ≤ wr.heap.size ∧ wr.ownsRow B 40 2 v m (cl X Y m)

theorem apd_next {B : Nat} {w wr wz w1 : World} {X Y : Nat → Int} {m : Nat} {v v' : Value} (h : apd B w X Y m v wr) (hz : Below wr.heap.size wr wz)
    (ho : w1.ownsRow B 40 2 v' (m + 1) (cl X Y m ++ [.int .i64 (X m), .int .i64 (Y m)])) (hg : wz.grownBy w1 v.ownBlock) : apd B w X Y (m + 1) v' w1 := by
  obtain ⟨hb, hB, hv⟩ := h
  have hs := hz.size
  refine ⟨(hb.trans (hz.mono hB)).grown hg (by omega) (fun j hj => (World.ownsRow.lt hv j hj).1), by have := hg.size; omega, ?_⟩
  rw [cl_succ]; exact ho
theorem apd_end {B : Nat} {w wr : World} {X Y : Nat → Int} {m : Nat} {v : Value} (hm : 0 < m) (h : apd B w X Y m v wr) : ∃ g c, v = .slice (some ⟨g, 0, none⟩) m c ∧ B ≤ g ∧ lies wr g m X Y := by
  obtain ⟨hb, hB, hv⟩ := h
  rcases hv.2 with ⟨_, e⟩ | ⟨g, cap, cur, rfl, hg, _, hc, _⟩
  · omega
  · refine ⟨g, cap, rfl, hg, (World.ownsRow.lt hv g rfl).2, fun j hj => ?_⟩
    rw [World.ownsRow.cellAt hv _ (by omega), World.ownsRow.cellAt hv _ (by omega)]
    exact cl_at X Y hj

end Go.Proofs.Ytjbfnibhmojlfaa
