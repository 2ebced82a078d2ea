/- What line.Apart returns. -/
import Derived.Test.YtdcjjfipnilmpaaCon
namespace Go.Proofs.Ytdcjjfipnilmpaa
open Go.RowKit
set_option linter.unusedVariables false

def ds (a b : Int) : Int := if a ≤ b then b - a else a - b
theorem ds_bd {a b : Int} {M : Int} (h0 : -M ≤ a) (h1 : a ≤ M) (h2 : -M ≤ b) (h3 : b ≤ M) : 0 ≤ ds a b ∧ ds a b ≤ 2 * M := by unfold ds; omega
theorem ds_nonneg (a b : Int) : 0 ≤ ds a b := by unfold ds; omega
def near (x y : Int) : Bool := decide (-1000 ≤ x) && decide (x ≤ 1000) && decide (-1000 ≤ y) && decide (y ≤ 1000)
theorem near_yes {x y : Int} (h : near x y = true) : -1000 ≤ x ∧ x ≤ 1000 ∧ -1000 ≤ y ∧ y ≤ 1000 := by unfold near at h; simp at h; omega
theorem near_mk {x y : Int} (h : -1000 ≤ x ∧ x ≤ 1000 ∧ -1000 ≤ y ∧ y ≤ 1000) : near x y = true := by unfold near; simp; omega
def mxi (a b : Int) : Int := if a ≤ b then b else a
def kg (x y u v : Int) : Int := mxi (ds x u) (ds y v)
theorem mxi_bd {a b M : Int} (h0 : 0 ≤ a) (h1 : a ≤ M) (h2 : 0 ≤ b) (h3 : b ≤ M) : 0 ≤ mxi a b ∧ mxi a b ≤ M := by unfold mxi; omega
theorem kg_bd {x y u v : Int} (h : near x y = true) (g : near u v = true) : 0 ≤ kg x y u v ∧ kg x y u v ≤ 2000 := by
  have h' := near_yes h
  have g' := near_yes g
  have d1 := ds_bd (a := x) (b := u) (M := 1000) (by omega) (by omega) (by omega) (by omega)
  have d2 := ds_bd (a := y) (b := v) (M := 1000) (by omega) (by omega) (by omega) (by omega)
  exact mxi_bd (by omega) (by omega) (by omega) (by omega)
theorem kg_cases (x y u v : Int) : (kg x y u v = ds x u ∧ ds y v ≤ ds x u) ∨ (kg x y u v = ds y v ∧ ds x u ≤ ds y v) := by unfold kg mxi; omega
theorem kg_nonneg (x y u v : Int) : 0 ≤ kg x y u v := by have := ds_nonneg x u; have := ds_nonneg y v; have := kg_cases x y u v; omega

set_option maxHeartbeats 400000 in
theorem distance_any (a b : Int) (w : World) (h0 : -4000000000 ≤ a) (h1 : a ≤ 4000000000) (h2 : -4000000000 ≤ b) (h3 : b ≤ 4000000000) :
    Calls Try.prog 72 #[.int .i64 a, .int .i64 b] w fun e w' => e = .returned (.int .i64 (ds a b)) ∧ w' = w := by
  go_enter Try.func72, Try.ntmps72
  go_wp2
  all_goals
    go_ret
    exact ⟨ret_int (by unfold ds; omega), rfl⟩
set_option maxHeartbeats 400000 in
theorem inBounds_any (x y : Int) (w : World) :
    Calls Try.prog 71 #[.agg #[.int .i64 x, .int .i64 y]] w fun e w' => e = .returned (.bool (near x y)) ∧ Below w.heap.size w w' := by
  go_enter Try.func71, Try.ntmps71
  go_wp2
  all_goals
    go_ret
    refine ⟨by unfold near; simp_all <;> omega, (Below.refl _ _).alloc (Nat.le_refl _) _⟩

theorem bcell {W w1 : World} (hb : Below W.heap.size W w1) : (∀ b o, b < W.heap.size → w1.cell? ⟨b, o, none⟩ = W.cell? ⟨b, o, none⟩) ∧ (∀ b o, b < W.heap.size → w1.frozen? ⟨b, o, none⟩ = W.frozen? ⟨b, o, none⟩) :=
  ⟨fun b o h => hb.cell (p := ⟨b, o, none⟩) h, fun b o h => hb.frozen (p := ⟨b, o, none⟩) h⟩


/-- Two structs in boxes of their own at the head of a call: four cells, there for as long as nothing below turns. -/
theorem box2 {w w1 : World} {a b c d : Value} (hb : Below ((w.alloc (.cells #[a, b] 45)).alloc (.cells #[c, d] 45)).heap.size ((w.alloc (.cells #[a, b] 45)).alloc (.cells #[c, d] 45)) w1) :
    w1.cell? ⟨w.heap.size, 0, none⟩ = some a ∧ w1.cell? ⟨w.heap.size, 1, none⟩ = some b ∧ w1.cell? ⟨w.heap.size + 1, 0, none⟩ = some c ∧ w1.cell? ⟨w.heap.size + 1, 1, none⟩ = some d := by
  refine ⟨?_, ?_, ?_, ?_⟩
  all_goals
    rw [hb.cell (by simp <;> omega)]
    simp [go_sem]

theorem inBounds_at (x y : Int) (b : Bool) (w : World) (h : Hid (near x y = b)) :
    Calls Try.prog 71 #[.agg #[.int .i64 x, .int .i64 y]] w fun e w' => e = .returned (.bool b) ∧ Below w.heap.size w w' := by rw [← h.out]; exact inBounds_any x y w

set_option maxHeartbeats 400000 in
theorem Apart_no (x y u v : Int) (w : World) (h : near x y = false ∨ near u v = false) :
    Calls Try.prog 69 #[.agg #[.int .i64 x, .int .i64 y], .agg #[.int .i64 u, .int .i64 v]] w fun e w' => e = .returned (.tuple #[.int .i64 0, .int .i64 0, .int .i64 1]) ∧ Below w.heap.size w w' := by
  by_cases h0 : near x y = false
  · have H0 : Hid (near x y = false) := h0
    clear h h0
    go_enter Try.func69, Try.ntmps69
    go_wp2_with fail
    refine (inBounds_at _ _ _ _ H0).mono ?_
    rintro e w1 ⟨rfl, hb⟩
    have HB : Hid (Below _ _ w1) := hb
    obtain ⟨hc, hf⟩ := bcell hb
    clear hb
    go_wp2_with fail
    exact bodyPost_ret (v := .tuple #[.int .i64 0, .int .i64 0, .int .i64 1]) (by simp [results, Try.results69, go_sem]) rfl ⟨rfl, (((Below.refl _ _).alloc (Nat.le_refl _) _).alloc (by simp) _).trans (HB.out.mono (by simp; omega))⟩
  · have H0 : Hid (near x y = true) := (by simpa using h0 : near x y = true)
    have H1 : Hid (near u v = false) := (by simpa [h0] using h : near u v = false)
    clear h h0
    go_enter Try.func69, Try.ntmps69
    go_wp2_with fail
    refine (inBounds_at _ _ _ _ H0).mono ?_
    rintro e w1 ⟨rfl, hb⟩
    have HB : Hid (Below _ _ w1) := hb
    obtain ⟨hc, hf⟩ := bcell hb
    clear hb
    go_wp2_with fail
    refine (inBounds_at _ _ _ _ H1).mono ?_
    rintro e w2 ⟨rfl, hb⟩
    have HB2 : Hid (Below _ _ w2) := hb
    clear hb
    go_wp2_with fail
    exact bodyPost_ret (v := .tuple #[.int .i64 0, .int .i64 0, .int .i64 1]) (by simp [results, Try.results69, go_sem]) rfl ⟨rfl, (((Below.refl _ _).alloc (Nat.le_refl _) _).alloc (by simp) _).trans ((HB.out.trans (HB2.out.mono HB.out.size)).mono (by simp; omega))⟩


set_option maxHeartbeats 400000 in
theorem Apart_in (x y u v : Int) (w : World) (h0 : -1000 ≤ x) (h1 : x ≤ 1000) (h2 : -1000 ≤ y) (h3 : y ≤ 1000) (g0 : -1000 ≤ u) (g1 : u ≤ 1000) (g2 : -1000 ≤ v) (g3 : v ≤ 1000)
    (D E : Int) (hD : ds x u = D) (hE : ds y v = E) (d0 : 0 ≤ D) (d1 : D ≤ 2000) (e0 : 0 ≤ E) (e1 : E ≤ 2000) :
    Calls Try.prog 69 #[.agg #[.int .i64 x, .int .i64 y], .agg #[.int .i64 u, .int .i64 v]] w fun e w' => e = .returned (.tuple #[.int .i64 (mxi D E), .int .i64 (D + E), .int .i64 0]) ∧ Below w.heap.size w w' := by
  have H0 : Hid (near x y = true) := near_mk ⟨h0, h1, h2, h3⟩
  have H1 : Hid (near u v = true) := near_mk ⟨g0, g1, g2, g3⟩
  go_enter Try.func69, Try.ntmps69
  go_wp2_with fail
  refine (inBounds_at _ _ _ _ H0).mono ?_
  rintro e w1 ⟨rfl, hb⟩
  have HB : Hid (Below _ _ w1) := hb
  obtain ⟨c0, c1, c2, c3⟩ := box2 hb
  clear hb
  go_wp2_with fail
  refine (inBounds_at _ _ _ _ H1).mono ?_
  rintro e w2 ⟨rfl, hb⟩
  have hb2 := HB.out.trans (hb.mono HB.out.size)
  have HB2 : Hid (Below _ _ w2) := hb2
  clear c0 c1 c2 c3
  obtain ⟨c0, c1, c2, c3⟩ := box2 hb2
  clear hb hb2
  go_wp2_with fail
  go_quiet ((go_at_call 72; exact Calls.quiet_of_same (distance_any _ _ _ (by omega) (by omega) (by omega) (by omega))))
  go_wp2_with fail
  · have hm : mxi D E = E := by unfold mxi; omega
    rw [hm]
    exact bodyPost_ret (v := .tuple #[.int .i64 E, .int .i64 (D + E), .int .i64 0]) (by simp [results, Try.results69, go_sem]) rfl ⟨rfl, below_drewN ((((Below.refl _ _).alloc (Nat.le_refl _) _).alloc (by simp) _).trans (HB2.out.mono (by simp; omega))) _⟩
  · have hm : mxi D E = D := by unfold mxi; omega
    rw [hm]
    exact bodyPost_ret (v := .tuple #[.int .i64 D, .int .i64 (D + E), .int .i64 0]) (by simp [results, Try.results69, go_sem]) rfl ⟨rfl, below_drewN ((((Below.refl _ _).alloc (Nat.le_refl _) _).alloc (by simp) _).trans (HB2.out.mono (by simp; omega))) _⟩

theorem Apart_yes (x y u v : Int) (w : World) (h : near x y = true) (g : near u v = true) :
    Calls Try.prog 69 #[.agg #[.int .i64 x, .int .i64 y], .agg #[.int .i64 u, .int .i64 v]] w fun e w' => e = .returned (.tuple #[.int .i64 (kg x y u v), .int .i64 (ds x u + ds y v), .int .i64 0]) ∧ Below w.heap.size w w' := by
  have h' := near_yes h
  have g' := near_yes g
  have d1 := ds_bd (a := x) (b := u) (M := 1000) (by omega) (by omega) (by omega) (by omega)
  have d2 := ds_bd (a := y) (b := v) (M := 1000) (by omega) (by omega) (by omega) (by omega)
  exact Apart_in x y u v w (by omega) (by omega) (by omega) (by omega) (by omega) (by omega) (by omega) (by omega) _ _ rfl rfl (by omega) (by omega) (by omega) (by omega)
end Go.Proofs.Ytdcjjfipnilmpaa
