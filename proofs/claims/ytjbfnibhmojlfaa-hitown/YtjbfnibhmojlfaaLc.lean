/- What each function of package line, and of the document's answer to it, returns: one contract a function. -/
import Derived.Test.YtjbfnibhmojlfaaCon
import Derived.Test.YtjbfnibhmojlfaaLm
import Derived.WalkKit
import Derived.WalkSpells
import Derived.WalkLawsBesides
import Derived.RegionTactic
import Derived.Deep.QuietTactic
import Derived.BigQuiet
namespace Go.Proofs.Ytjbfnibhmojlfaa
open Go.RowKit
set_option linter.unusedVariables false

set_option maxHeartbeats 400000 in
theorem distance_any (a b : Int) (w : World) (h0 : -4000000000 ≤ a) (h1 : a ≤ 4000000000) (h2 : -4000000000 ≤ b) (h3 : b ≤ 4000000000) :
    Calls Try.prog 72 #[.int .i64 a, .int .i64 b] w fun e w' => e = .returned (.int .i64 (ds a b)) ∧ w' = w := by
  go_enter Try.func72, Try.ntmps72
  go_wp2
  all_goals
    go_ret
    exact ⟨ret_int (by unfold ds; omega), rfl⟩
set_option maxHeartbeats 400000 in
theorem Far_any (a b : Int) (w : World) (h0 : -4000000000 ≤ a) (h1 : a ≤ 4000000000) (h2 : -4000000000 ≤ b) (h3 : b ≤ 4000000000) :
    Calls Try.prog 60 #[.int .i64 a, .int .i64 b] w fun e w' => e = .returned (.int .i64 (ds a b)) ∧ w' = w := by
  go_enter Try.func60, Try.ntmps60
  go_wp2
  all_goals
    go_ret
    exact ⟨ret_int (by unfold ds; omega), rfl⟩

set_option maxHeartbeats 400000 in
theorem inBounds_any (x y : Int) (w : World) :
    Calls Try.prog 71 #[.agg #[.int .i64 x, .int .i64 y]] w fun e w' => e = .returned (.bool (near x y)) ∧ Below w.heap.size w w' := by
  go_enter Try.func71, Try.ntmps71
  go_wp2
  all_goals
    go_ret
    refine ⟨by unfold near; simp_all <;> omega, (Below.refl _ _).alloc (Nat.le_refl _) _⟩

theorem bcell {W w1 : World} (hb : Below W.heap.size W w1) : (∀ b o, b < W.heap.size → w1.cell? ⟨b, o, none⟩ = W.cell? ⟨b, o, none⟩) ∧ (∀ b o, b < W.heap.size → w1.frozen? ⟨b, o, none⟩ = W.frozen? ⟨b, o, none⟩) :=
  ⟨fun b o h => hb.cell (p := ⟨b, o, none⟩) h, fun b o h => hb.frozen (p := ⟨b, o, none⟩) h⟩


/-- Two structs in boxes of their own at the head of a call: four cells, there for as long as nothing below turns. -/
theorem box2 {w w1 : World} {a b c d : Value} (hb : Below ((w.alloc (.cells #[a, b] 40)).alloc (.cells #[c, d] 40)).heap.size ((w.alloc (.cells #[a, b] 40)).alloc (.cells #[c, d] 40)) w1) :
    w1.cell? ⟨w.heap.size, 0, none⟩ = some a ∧ w1.cell? ⟨w.heap.size, 1, none⟩ = some b ∧ w1.cell? ⟨w.heap.size + 1, 0, none⟩ = some c ∧ w1.cell? ⟨w.heap.size + 1, 1, none⟩ = some d := by
  refine ⟨?_, ?_, ?_, ?_⟩
  all_goals
    rw [hb.cell (by simp <;> omega)]
    simp [go_sem]

theorem inBounds_at (x y : Int) (b : Bool) (w : World) (h : Hid (near x y = b)) :
    Calls Try.prog 71 #[.agg #[.int .i64 x, .int .i64 y]] w fun e w' => e = .returned (.bool b) ∧ Below w.heap.size w w' := by rw [← h.out]; exact inBounds_any x y w

set_option maxHeartbeats 400000 in
theorem Apart_no (x y u v : Int) (w : World) (h : near x y = false ∨ near u v = false) :
    Calls Try.prog 55 #[.agg #[.int .i64 x, .int .i64 y], .agg #[.int .i64 u, .int .i64 v]] w fun e w' => e = .returned (.tuple #[.int .i64 0, .int .i64 0, .int .i64 1]) ∧ Below w.heap.size w w' := by
  by_cases h0 : near x y = false
  · have H0 : Hid (near x y = false) := h0
    clear h h0
    go_enter Try.func55, Try.ntmps55
    go_wp2_with fail
    refine (inBounds_at _ _ _ _ H0).mono ?_
    rintro e w1 ⟨rfl, hb⟩
    have HB : Hid (Below _ _ w1) := hb
    obtain ⟨hc, hf⟩ := bcell hb
    clear hb
    go_wp2_with fail
    exact bodyPost_ret (v := .tuple #[.int .i64 0, .int .i64 0, .int .i64 1]) (by simp [results, Try.results55, go_sem]) rfl ⟨rfl, (((Below.refl _ _).alloc (Nat.le_refl _) _).alloc (by simp) _).trans (HB.out.mono (by simp; omega))⟩
  · have H0 : Hid (near x y = true) := (by simpa using h0 : near x y = true)
    have H1 : Hid (near u v = false) := (by simpa [h0] using h : near u v = false)
    clear h h0
    go_enter Try.func55, Try.ntmps55
    go_wp2_with fail
    refine (inBounds_at _ _ _ _ H0).mono ?_
    rintro e w1 ⟨rfl, hb⟩
    have HB : Hid (Below _ _ w1) := hb
    obtain ⟨hc, hf⟩ := bcell hb
    clear hb
    go_wp2_with fail
    refine (inBounds_at _ _ _ _ H1).mono ?_
    rintro e w2 ⟨rfl, hb⟩
    have HB2 : Hid (Below _ _ w2) := hb
    clear hb
    go_wp2_with fail
    exact bodyPost_ret (v := .tuple #[.int .i64 0, .int .i64 0, .int .i64 1]) (by simp [results, Try.results55, go_sem]) rfl ⟨rfl, (((Below.refl _ _).alloc (Nat.le_refl _) _).alloc (by simp) _).trans ((HB.out.trans (HB2.out.mono HB.out.size)).mono (by simp; omega))⟩


set_option maxHeartbeats 400000 in
theorem Apart_in (x y u v : Int) (w : World) (h0 : -1000 ≤ x) (h1 : x ≤ 1000) (h2 : -1000 ≤ y) (h3 : y ≤ 1000) (g0 : -1000 ≤ u) (g1 : u ≤ 1000) (g2 : -1000 ≤ v) (g3 : v ≤ 1000)
    (D E : Int) (hD : ds x u = D) (hE : ds y v = E) (d0 : 0 ≤ D) (d1 : D ≤ 2000) (e0 : 0 ≤ E) (e1 : E ≤ 2000) :
    Calls Try.prog 55 #[.agg #[.int .i64 x, .int .i64 y], .agg #[.int .i64 u, .int .i64 v]] w fun e w' => e = .returned (.tuple #[.int .i64 (mx D E), .int .i64 (D + E), .int .i64 0]) ∧ Below w.heap.size w w' := by
  have H0 : Hid (near x y = true) := near_mk ⟨h0, h1, h2, h3⟩
  have H1 : Hid (near u v = true) := near_mk ⟨g0, g1, g2, g3⟩
  go_enter Try.func55, Try.ntmps55
  go_wp2_with fail
  refine (inBounds_at _ _ _ _ H0).mono ?_
  rintro e w1 ⟨rfl, hb⟩
  have HB : Hid (Below _ _ w1) := hb
  obtain ⟨c0, c1, c2, c3⟩ := box2 hb
  clear hb
  go_wp2_with fail
  refine (inBounds_at _ _ _ _ H1).mono ?_
  rintro e w2 ⟨rfl, hb⟩
  have hb2 := HB.out.trans (hb.mono HB.out.size)
  have HB2 : Hid (Below _ _ w2) := hb2
  clear c0 c1 c2 c3
  obtain ⟨c0, c1, c2, c3⟩ := box2 hb2
  clear hb hb2
  go_wp2_with fail
  go_quiet ((go_at_call 72; exact Calls.quiet_of_same (distance_any _ _ _ (by omega) (by omega) (by omega) (by omega))))
  go_wp2_with fail
  · have hm : mx D E = E := by unfold mx; omega
    rw [hm]
    exact bodyPost_ret (v := .tuple #[.int .i64 E, .int .i64 (D + E), .int .i64 0]) (by simp [results, Try.results55, go_sem]) rfl ⟨rfl, below_drewN ((((Below.refl _ _).alloc (Nat.le_refl _) _).alloc (by simp) _).trans (HB2.out.mono (by simp; omega))) _⟩
  · have hm : mx D E = D := by unfold mx; omega
    rw [hm]
    exact bodyPost_ret (v := .tuple #[.int .i64 D, .int .i64 (D + E), .int .i64 0]) (by simp [results, Try.results55, go_sem]) rfl ⟨rfl, below_drewN ((((Below.refl _ _).alloc (Nat.le_refl _) _).alloc (by simp) _).trans (HB2.out.mono (by simp; omega))) _⟩

theorem Apart_yes (x y u v : Int) (w : World) (h : near x y = true) (g : near u v = true) :
    Calls Try.prog 55 #[.agg #[.int .i64 x, .int .i64 y], .agg #[.int .i64 u, .int .i64 v]] w fun e w' => e = .returned (.tuple #[.int .i64 (kg x y u v), .int .i64 (ds x u + ds y v), .int .i64 0]) ∧ Below w.heap.size w w' := by
  have h' := near_yes h
  have g' := near_yes g
  have d1 := ds_bd (a := x) (b := u) (M := 1000) (by omega) (by omega) (by omega) (by omega)
  have d2 := ds_bd (a := y) (b := v) (M := 1000) (by omega) (by omega) (by omega) (by omega)
  exact Apart_in x y u v w (by omega) (by omega) (by omega) (by omega) (by omega) (by omega) (by omega) (by omega) _ _ rfl rfl (by omega) (by omega) (by omega) (by omega)


set_option maxHeartbeats 400000 in
theorem between_zero (f t k : Int) (w : World) :
    Calls Try.prog 85 #[.int .i64 f, .int .i64 t, .int .i64 k, .int .i64 0] w fun e w' => e = .returned (.int .i64 f) ∧ w' = w := by
  go_enter Try.func85, Try.ntmps85
  go_wp2_with fail
  go_ret
  exact ⟨rfl, rfl⟩

set_option maxHeartbeats 400000 in
theorem between_in (f t k n D G : Int) (w : World) (h0 : -1000 ≤ f) (h1 : f ≤ 1000) (h2 : -1000 ≤ t) (h3 : t ≤ 1000) (k0 : 0 ≤ k) (k1 : k ≤ 2000) (n0 : 0 < n) (n1 : n ≤ 2000)
    (hD : ds f t = D) (d0 : 0 ≤ D) (d1 : D ≤ 2000) (p0 : 0 ≤ 2 * k * D) (p1 : 2 * k * D ≤ 8000000) (hG : (2 * k * D + n) / (2 * n) = G) (q0 : 0 ≤ G) (q1 : G ≤ 8002000) :
    Calls Try.prog 85 #[.int .i64 f, .int .i64 t, .int .i64 k, .int .i64 n] w fun e w' => e = .returned (.int .i64 (if t < f then f - G else f + G)) ∧ w' = w := by
  by_cases c : t < f
  · rw [if_pos c]
    go_enter Try.func85, Try.ntmps85
    go_wp2_with ((go_at_call 72; refine (distance_any _ _ _ (by omega) (by omega) (by omega) (by omega)).mono ?_; rintro e w' ⟨rfl, rfl⟩))
    go_ret
    exact ⟨rfl, rfl⟩
  · rw [if_neg c]
    go_enter Try.func85, Try.ntmps85
    go_wp2_with ((go_at_call 72; refine (distance_any _ _ _ (by omega) (by omega) (by omega) (by omega)).mono ?_; rintro e w' ⟨rfl, rfl⟩))
    go_ret
    exact ⟨rfl, rfl⟩

theorem between_any (f t k n : Int) (w : World) (h0 : -1000 ≤ f) (h1 : f ≤ 1000) (h2 : -1000 ≤ t) (h3 : t ≤ 1000) (k0 : 0 ≤ k) (k1 : k ≤ 2000) (n0 : 0 ≤ n) (n1 : n ≤ 2000) :
    Calls Try.prog 85 #[.int .i64 f, .int .i64 t, .int .i64 k, .int .i64 n] w fun e w' => e = .returned (.int .i64 (bt f t k n)) ∧ w' = w := by
  by_cases c : n = 0
  · subst c
    exact between_zero f t k w
  · have hd := ds_bd (a := f) (b := t) (M := 1000) (by omega) (by omega) (by omega) (by omega)
    have p0 : 0 ≤ 2 * k * ds f t := Int.mul_nonneg (by omega) (by omega)
    have p1 : 2 * k * ds f t ≤ 8000000 := by
      have := Int.mul_le_mul (a := 2 * k) (b := ds f t) (c := 4000) (d := 2000) (by omega) (by omega) (by omega) (by omega)
      omega
    have q0 : 0 ≤ gn k (ds f t) n := Int.ediv_nonneg (by omega) (by omega)
    have q1 : gn k (ds f t) n ≤ 8002000 := Int.le_trans (Int.ediv_le_self _ (by omega)) (by omega)
    have := between_in f t k n (ds f t) (gn k (ds f t) n) w h0 h1 h2 h3 k0 k1 (by omega) n1 rfl (by omega) (by omega) p0 p1 rfl q0 q1
    unfold bt
    rw [if_neg c]; exact this
end Go.Proofs.Ytjbfnibhmojlfaa
