/- What 'Cells' returns: a row of its own that holds the cells of the line. -/
import Derived.Test.YtjbfnibhmojlfaaLc
import Derived.Deep.RegionHeld3
import Derived.Deep.DrawnRows
namespace Go.Proofs.Ytjbfnibhmojlfaa
open Go.RowKit
set_option linter.unusedVariables false
attribute [local go_sem ↓] Go.wp_at_zero Go.wp_at_succ

theorem infoc : (Try.prog.info? 40).map (fun i => (i.zero, i.size, i.bytes)) = some (some (.agg #[.int .i64 0, .int .i64 0]), 2, 16) := by kernel_rfl

def rowTo (B : Nat) (w : World) (g n c k : Nat) (X Y : Nat → Int) (wr : World) : Prop :=
  Below B w wr ∧ ∃ xs : List Value, wr.ownsRow B 40 2 (.slice (some ⟨g, 0, none⟩) n c) n xs ∧ ∀ j, j < k → xs[j * 2]? = some (.int .i64 (X j)) ∧ xs[j * 2 + 1]? = some (.int .i64 (Y j))

theorem rowTo_cell {B : Nat} {w wr : World} {g n c k : Nat} {X Y : Nat → Int} (h : rowTo B w g n c k X Y wr) (hk : k ≤ n) {j : Nat} (hj : j < k) :
    wr.cell? ⟨g, j * 2, none⟩ = some (.int .i64 (X j)) ∧ wr.cell? ⟨g, j * 2 + 1, none⟩ = some (.int .i64 (Y j)) := by
  obtain ⟨_, xs, ho, hx⟩ := h
  rw [World.ownsRow.cellAt ho _ (by omega), World.ownsRow.cellAt ho _ (by omega)]
  exact hx j hj
theorem rowTo_some {B : Nat} {w wr : World} {g n c k : Nat} {X Y : Nat → Int} (h : rowTo B w g n c k X Y wr) {j : Nat} (hj : j < 2 * n) :
    (∃ v, wr.cell? ⟨g, j, none⟩ = some v) ∧ wr.frozen? ⟨g, j, none⟩ = false := by
  obtain ⟨_, xs, ho, hx⟩ := h
  refine ⟨?_, World.ownsRow.frozenAt ho j⟩
  rw [World.ownsRow.cellAt ho _ (by omega)]
  exact ⟨_, List.getElem?_eq_getElem (by have := ho.1; omega)⟩
theorem rowTo_store {B : Nat} {w wr : World} {g n c k : Nat} {X Y : Nat → Int} (h : rowTo B w g n c k X Y wr) (hB : B ≤ g) (hk : k < n) (m : Nat) :
    rowTo B w g n c (k + 1) X Y (((wr.setCell ⟨g, k * 2, none⟩ (.int .i64 (X k))).setCell ⟨g, k * 2 + 1, none⟩ (.int .i64 (Y k))).drewN m) := by
  obtain ⟨hb, xs, ho, hx⟩ := h
  have o1 := (World.ownsRow.stored ho (k * 2) (.int .i64 (X k))).1
  have o2 := (World.ownsRow.stored o1 (k * 2 + 1) (.int .i64 (Y k))).1
  refine ⟨below_drewN ((hb.setCell hB _).setCell hB _) m, _, o2, fun j hj => ?_⟩
  have hl := ho.1
  by_cases e : j = k
  · subst e
    rw [List.getElem?_set_ne (by omega), List.getElem?_set_self (by omega), List.getElem?_set_self (by simp; omega)]
    exact ⟨rfl, rfl⟩
  · rw [List.getElem?_set_ne (by omega), List.getElem?_set_ne (by omega), List.getElem?_set_ne (by omega), List.getElem?_set_ne (by omega)]
    exact hx j (by omega)

theorem Apart_at (x y u v : Int) (K : Nat) (w : World) (h : Hid (near x y = true)) (g : Hid (near u v = true)) (hK : Hid (kg x y u v = K)) :
    Calls Try.prog 55 #[.agg #[.int .i64 x, .int .i64 y], .agg #[.int .i64 u, .int .i64 v]] w fun e w' => e = .returned (.tuple #[.int .i64 K, .int .i64 (ds x u + ds y v), .int .i64 0]) ∧ Below w.heap.size w w' := by
  rw [← hK.out]; exact Apart_yes x y u v w h.out g.out

/-- A row of pairs that lies at block g, from its head. -/
def lies (w : World) (g n : Nat) (X Y : Nat → Int) : Prop := g < w.heap.size ∧ ∀ j, j < n → w.cell? ⟨g, j * 2, none⟩ = some (.int .i64 (X j)) ∧ w.cell? ⟨g, j * 2 + 1, none⟩ = some (.int .i64 (Y j))

theorem rowTo_lies {B : Nat} {w wr : World} {g n c : Nat} {X Y : Nat → Int} (h : rowTo B w g n c n X Y wr) : lies wr g n X Y := by
  refine ⟨?_, fun j hj => rowTo_cell h (Nat.le_refl _) hj⟩
  obtain ⟨_, xs, ho, _⟩ := h
  exact (World.ownsRow.lt ho g rfl).2

set_option maxHeartbeats 1000000 in
theorem Cells_in (x y u v : Int) (K : Nat) (w : World) (h : Hid (near x y = true)) (g : Hid (near u v = true)) (hK : Hid (kg x y u v = K)) (hk : K ≤ 2000)
    (h0 : -1000 ≤ x) (h1 : x ≤ 1000) (h2 : -1000 ≤ y) (h3 : y ≤ 1000) (g0 : -1000 ≤ u) (g1 : u ≤ 1000) (g2 : -1000 ≤ v) (g3 : v ≤ 1000) :
    Calls Try.prog 82 #[.agg #[.int .i64 x, .int .i64 y], .agg #[.int .i64 u, .int .i64 v]] w fun e w' => ∃ g, e = .returned (.tuple #[.slice (some ⟨g, 0, none⟩) (K + 1) (K + 1), .int .i64 0]) ∧ Below w.heap.size w w' ∧ w.heap.size ≤ g ∧ lies w' g (K + 1) (fun k => bt x u k K) (fun k => bt y v k K) := by
  obtain ⟨i0, hi, hz0, hz1, hz2⟩ := info_parts infoc
  have HB : Hid (i0.bytes = 16) := hz2
  clear hz2
  obtain ⟨X, hX⟩ : ∃ X : Nat → Int, X = fun k : Nat => bt x u k K := ⟨_, rfl⟩
  obtain ⟨Y, hY⟩ : ∃ Y : Nat → Int, Y = fun k : Nat => bt y v k K := ⟨_, rfl⟩
  rw [← hX, ← hY]
  have HX : Hid (∀ k : Nat, bt x u k K = X k) := fun k => by rw [hX]
  have HY : Hid (∀ k : Nat, bt y v k K = Y k) := fun k => by rw [hY]
  clear hX hY
  go_enter Try.func82, Try.ntmps82
  go_wp2_with fail
  refine (Apart_at _ _ _ _ K _ h g hK).mono ?_
  rintro e w1 ⟨rfl, hb⟩
  have HB1 : Hid (Below _ _ w1) := hb
  have hsz : w.heap.size + 2 ≤ w1.heap.size := by have := hb.size; simp at this; omega
  clear hb
  go_wp2_with (at_make; refine wpList_make_full _ rfl (.tmp 22) (.tmp 22) 25 rfl (w.heap.size + 2) 40 i0 (.agg #[.int .i64 0, .int .i64 0]) 2 Try.underlying25 hi hz0 hz1 .i64 .i64 ((K : Int) + 1) ((K : Int) + 1) (K + 1) rfl rfl rfl rfl ?_ ?_ hsz ?_)
  · rw [HB.out]; omega
  · unfold maxLen; omega
  · intro w2 hown hgrow
    have hbel : Below (w.heap.size + 2) ((w.alloc (.cells #[.int .i64 x, .int .i64 y] 40)).alloc (.cells #[.int .i64 u, .int .i64 v] 40)) w2 := (HB1.out.mono (by simp)).grown hgrow hsz (fun k h => by cases h)
    have RS : Hid (rowTo (w.heap.size + 2) ((w.alloc (.cells #[.int .i64 x, .int .i64 y] 40)).alloc (.cells #[.int .i64 u, .int .i64 v] 40)) w1.heap.size (K + 1) (K + 1) 0 X Y w2) := ⟨hbel, _, hown, fun j hj => by omega⟩
    clear hbel hown hgrow hi hz0 hz1
    go_wp2_with fail
    go_loopw [26] (fun i wr => ∃ k : Nat, k ≤ K + 1 ∧ i = .int .i64 k ∧ rowTo (w.heap.size + 2) ((w.alloc (.cells #[.int .i64 x, .int .i64 y] 40)).alloc (.cells #[.int .i64 u, .int .i64 v] 40)) w1.heap.size (K + 1) (K + 1) k X Y wr) (fun i _ => K + 1 - (intOf i).toNat)
    case atStart => exact ⟨0, by omega, rfl, RS.out⟩
    case round =>
      obtain ⟨k, hk1, rfl, R⟩ := hrel
      have RR : Hid (rowTo _ _ _ _ _ k X Y wr) := R
      clear RS
      by_cases hlt : k < K + 1
      · obtain ⟨⟨va, ca⟩, fa⟩ := rowTo_some R (j := k * 2) (by omega)
        obtain ⟨⟨vb, cb⟩, fb⟩ := rowTo_some R (j := k * 2 + 1) (by omega)
        obtain ⟨c0, c1, c2, c3⟩ := box2 (R.1.mono (by simp))
        clear R
        go_wp2_with fail
        have n1 : w1.heap.size ≠ w.heap.size := by omega
        have n2 : w1.heap.size ≠ w.heap.size + 1 := by omega
        have n3 : w.heap.size ≠ w1.heap.size := by omega
        have n4 : w.heap.size + 1 ≠ w1.heap.size := by omega
        go_region_held3 (fun w' => w'.cell? ⟨w.heap.size, 0, none⟩ = some (.int .i64 x) ∧ w'.cell? ⟨w.heap.size, 1, none⟩ = some (.int .i64 y) ∧ w'.cell? ⟨w.heap.size + 1, 0, none⟩ = some (.int .i64 u) ∧ w'.cell? ⟨w.heap.size + 1, 1, none⟩ = some (.int .i64 v)) (go_keep)
          (first | (go_at_call 85; refine (between_any _ _ _ _ _ (by omega) (by omega) (by omega) (by omega) (by omega) (by omega) (by omega) (by omega)).mono ?_; rintro e w' ⟨rfl, rfl⟩))
        have ST : Hid (∀ m : Nat, _) := fun m : Nat => rowTo_store RR.out (by omega) hlt m
        clear RR c0 c1 c2 c3 ca cb fa fb
        go_wp2_with fail
        go_roundw
        case rel => exact ⟨k + 1, by omega, by go_num, by have := ST.out 1; rw [← HX.out k, ← HY.out k] at this; exact this⟩
        case measure => simp [intOf]; omega
      · obtain rfl : k = K + 1 := by omega
        clear R
        go_wp2_with fail
        exact bodyPost_ret (v := .tuple #[.slice (some ⟨w1.heap.size, 0, none⟩) (K + 1) (K + 1), .int .i64 0]) (by simp [results, Try.results82, go_sem]) rfl ⟨_, rfl, (((Below.refl _ _).alloc (Nat.le_refl _) _).alloc (by simp) _).trans (RR.out.1.mono (by omega)), by omega, rowTo_lies RR.out⟩

theorem Cells_yes (x y u v : Int) (K : Nat) (w : World) (h : Hid (near x y = true)) (g : Hid (near u v = true)) (hK : Hid (kg x y u v = K)) :
    Calls Try.prog 82 #[.agg #[.int .i64 x, .int .i64 y], .agg #[.int .i64 u, .int .i64 v]] w fun e w' => ∃ g, e = .returned (.tuple #[.slice (some ⟨g, 0, none⟩) (K + 1) (K + 1), .int .i64 0]) ∧ Below w.heap.size w w' ∧ w.heap.size ≤ g ∧ lies w' g (K + 1) (fun k => bt x u k K) (fun k => bt y v k K) := by
  have h' := near_yes h.out
  have g' := near_yes g.out
  have hk := kg_bd h.out g.out
  have := hK.out
  exact Cells_in x y u v K w h g hK (by omega) (by omega) (by omega) (by omega) (by omega) (by omega) (by omega) (by omega) (by omega)

set_option maxHeartbeats 400000 in
theorem Cells_no (x y u v : Int) (w : World) (h : Hid (near x y = false ∨ near u v = false)) :
    Calls Try.prog 82 #[.agg #[.int .i64 x, .int .i64 y], .agg #[.int .i64 u, .int .i64 v]] w fun e w' => e = .returned (.tuple #[.slice none 0 0, .int .i64 1]) ∧ Below w.heap.size w w' := by
  go_enter Try.func82, Try.ntmps82
  go_wp2_with fail
  refine (Apart_no _ _ _ _ _ h.out).mono ?_
  rintro e w1 ⟨rfl, hb⟩
  have HB1 : Hid (Below _ _ w1) := hb
  clear hb
  go_wp2_with fail
  exact bodyPost_ret (v := .tuple #[.slice none 0 0, .int .i64 1]) (by simp [results, Try.results82, go_sem]) rfl ⟨rfl, (((Below.refl _ _).alloc (Nat.le_refl _) _).alloc (by simp) _).trans (HB1.out.mono (by simp; omega))⟩

theorem lies_later {w w' : World} {g n : Nat} {X Y : Nat → Int} (h : lies w g n X Y) (hb : Below w.heap.size w w') : lies w' g n X Y :=
  ⟨Nat.lt_of_lt_of_le h.1 hb.size, fun j hj => by rw [hb.cell (p := ⟨g, j * 2, none⟩) h.1, hb.cell (p := ⟨g, j * 2 + 1, none⟩) h.1]; exact h.2 j hj⟩

end Go.Proofs.Ytjbfnibhmojlfaa
