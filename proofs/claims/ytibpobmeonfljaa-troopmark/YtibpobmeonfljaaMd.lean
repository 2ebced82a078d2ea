/- What Mark returns, whatever is handed in. -/
import Derived.Test.YtibpobmeonfljaaMb
namespace Go.Proofs.Ytibpobmeonfljaa
open Go.RowKit
set_option linter.unusedVariables false

set_option maxRecDepth 20000 in
set_option maxHeartbeats 1000000 in
theorem Mark_no (s : Wld) (E : Int) (w : World) (h : s.fit w) (hE : Hid (wre s E)) (hE0 : E ≠ 0) :
    Calls Try.prog 11 #[s.val] w fun e w' => e = .returned (.tuple #[.int .u64 0, .int .i64 E]) ∧ Below w.heap.size w w' := by
  have HC : Hid (∀ V, Below w.heap.size w V → Calls Try.prog 14 #[s.val] V fun e w' => e = .returned (.int .i64 E) ∧ Below V.heap.size V w') := fun V hV => Check_world s E V (Wld.fit_below h hV) hE
  clear h hE
  obtain ⟨A, B, p, n, c, l, pb, nb, cb, lb, ps, ns, cs, ls, pm, nm, cm, lm, pt, nt, ct, lt, N, T⟩ := s
  unfold Wld.val at *
  dsimp only at *
  obtain ⟨F, hF⟩ : ∃ F, w.heap.size = F := ⟨_, rfl⟩
  obtain ⟨w0, hw0⟩ : ∃ w0, w.alloc (.cells #[.int .i64 A, .int .i64 B, .slice p n c, .slice pb nb cb, .slice ps ns cs, .slice pm nm cm, .slice pt nt ct, .int .i64 N, .int .i64 T] 28) = w0 := ⟨_, rfl⟩
  have hB0 : Below w.heap.size w w0 := by rw [← hw0]; exact alloc_below _ _
  have HB0 : Hid (Below w.heap.size w w0) := hB0
  obtain ⟨z0, z1, z2, z3, z4, z5, z6, z7, z8⟩ := boxw hF hw0 (Below.refl _ _)
  have d1 : (E != 0) = true := by simp [hE0]
  clear hB0
  go_enter Try.func11, Try.ntmps11
  go_wp2_with fail
  refine (HC.out w0 HB0.out).mono ?_
  rintro e w1 ⟨rfl, hb1⟩
  have HB1 : Hid (Below w.heap.size w w1) := below_step HB0.out HB0.out.size hb1
  clear z0 z1 z2 z3 z4 z5 z6 z7 z8 hb1 hw0 hF
  go_wp2_with fail
  go_ret2
  exact ⟨rfl, HB1.out⟩
/-- What Mark tells: the mark, or none. -/
def mkr (s : Wld) (E : Int) (m : Nat) : Prop := (E ≠ 0 → m = 0) ∧ (E = 0 → m = tn 0 (wlv s)) ∧ m < 18446744073709551616
theorem mkr_one {s : Wld} {E : Int} {m m' : Nat} (h : mkr s E m) (h' : mkr s E m') : m = m' := by
  by_cases e : E = 0
  · rw [h.2.1 e, h'.2.1 e]
  · rw [h.1 e, h'.1 e]
theorem Mark_any (s : Wld) (E : Int) (w : World) (h : s.fit w) (hE : Hid (wre s E)) :
    Calls Try.prog 11 #[s.val] w fun e w' => (∃ m : Nat, e = .returned (.tuple #[.int .u64 (m : Int), .int .i64 E]) ∧ Hid (mkr s E m)) ∧ Below w.heap.size w w' := by
  by_cases e : E = 0
  · subst e
    obtain ⟨W, H, hk⟩ := wre_ok hE.out
    refine (Mark_ok s W H w h hk).mono ?_
    rintro e w' ⟨rfl, hb⟩
    exact ⟨⟨_, rfl, fun h => absurd rfl h, fun _ => rfl, tn_lt (by decide) _⟩, hb⟩
  · refine (Mark_no s E w h hE e).mono ?_
    rintro e' w' ⟨rfl, hb⟩
    exact ⟨⟨0, rfl, fun _ => rfl, fun h => absurd h e, by decide⟩, hb⟩
end Go.Proofs.Ytibpobmeonfljaa
