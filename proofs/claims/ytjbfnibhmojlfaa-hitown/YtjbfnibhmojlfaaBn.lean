/- What Blows returns, whatever is handed in. -/
import Derived.Test.YtjbfnibhmojlfaaBl
namespace Go.Proofs.Ytjbfnibhmojlfaa
open Go.RowKit
set_option linter.unusedVariables false

/-- What Blows tells of the troops: none, with an error; else how much harm each takes. -/
def bres (s : Wld) (bl : List Cel) (E : Int) (v : Value) (w' : World) : Prop := (E ≠ 0 ∧ v = .slice none 0 0) ∨ (E = 0 ∧ ∃ g c, v = .slice (some ⟨g, 0, none⟩) s.nt c ∧ row vi w' (some ⟨g, 0, none⟩) (harms (cnt s.A.toNat s.l s.lt) s.lt bl))
set_option maxRecDepth 20000 in
set_option maxHeartbeats 2000000 in
theorem Blows_no (s : Wld) (E0 E : Int) (pl : Option Addr) (nl cl : Nat) (w : World) (h : s.fit w) (hE : Hid (wre s E0)) (hm : nl ≤ 9223372036854775807) (hq : Hid ((E0 ≠ 0 ∧ E = E0) ∨ (E0 = 0 ∧ 200 < nl ∧ E = 2))) :
    Calls Try.prog 8 #[s.val, .slice pl nl cl] w fun e w' => e = .returned (.tuple #[.slice none 0 0, .int .i64 E]) ∧ Below w.heap.size w w' := by
  have HC : Hid (∀ V, Below w.heap.size w V → Calls Try.prog 20 #[s.val] V fun e w' => e = .returned (.int .i64 E0) ∧ Below V.heap.size V w') := fun V hV => Check_world s E0 V (Wld.fit_below h hV) hE
  clear h hE
  obtain ⟨A, B, p, n, c, l, pb, nb, cb, lb, ps, ns, cs, ls, pm, nm, cm, lm, pt, nt, ct, lt, N, T⟩ := s
  unfold Wld.val at *
  dsimp only at *
  obtain ⟨F, hF⟩ : ∃ F, w.heap.size = F := ⟨_, rfl⟩
  obtain ⟨w0, hw0⟩ : ∃ w0, w.alloc (.cells #[.int .i64 A, .int .i64 B, .slice p n c, .slice pb nb cb, .slice ps ns cs, .slice pm nm cm, .slice pt nt ct, .int .i64 N, .int .i64 T] 28) = w0 := ⟨_, rfl⟩
  have hB0 : Below w.heap.size w w0 := by rw [← hw0]; exact alloc_below _ _
  have HB0 : Hid (Below w.heap.size w w0) := hB0
  obtain ⟨z0, z1, z2, z3, z4, z5, z6, z7, z8⟩ := boxw hF hw0 (Below.refl _ _)
  clear hB0
  go_enter Try.func8, Try.ntmps8
  go_wp2_with fail
  refine (HC.out w0 HB0.out).mono ?_
  rintro e w1 ⟨rfl, hb1⟩
  have HB1 : Hid (Below w.heap.size w w1) := below_step HB0.out HB0.out.size hb1
  clear z0 z1 z2 z3 z4 z5 z6 z7 z8 hb1 hw0 hF
  rcases hq.out with ⟨h0, rfl⟩ | ⟨rfl, h1, rfl⟩
  · have d1 : (E != 0) = true := by simp [h0]
    go_wp2_with fail
    go_ret2
    exact ⟨rfl, HB1.out⟩
  · have d2 : (200 : Int) < nl := by omega
    go_wp2_with fail
    go_ret2
    exact ⟨rfl, HB1.out⟩
theorem Blows_any (s : Wld) (E : Int) (pl : Option Addr) (nl cl : Nat) (bl : List Cel) (w : World) (h : s.fit w) (hb : crow w pl bl) (hx : ∀ c ∈ bl, fits c.x ∧ fits c.y) (hn : bl.length = nl) (hm : nl ≤ 9223372036854775807) (hE : Hid (ber s nl E)) :
    Calls Try.prog 8 #[s.val, .slice pl nl cl] w fun e w' => (∃ v, e = .returned (.tuple #[v, .int .i64 E]) ∧ bres s bl E v w') ∧ Below w.heap.size w w' := by
  obtain ⟨E0, h0, h1⟩ := hE.out
  rcases h1 with h1 | h1 | ⟨rfl, h1, rfl⟩
  · have hne : E ≠ 0 := by rw [h1.2]; exact h1.1
    refine (Blows_no s E0 E pl nl cl w h h0 hm (.inl h1)).mono ?_
    rintro e w' ⟨rfl, hb⟩
    exact ⟨⟨_, rfl, .inl ⟨hne, rfl⟩⟩, hb⟩
  · have hne : E ≠ 0 := by rw [h1.2.2]; decide
    refine (Blows_no s E0 E pl nl cl w h h0 hm (.inr h1)).mono ?_
    rintro e w' ⟨rfl, hb⟩
    exact ⟨⟨_, rfl, .inl ⟨hne, rfl⟩⟩, hb⟩
  · obtain ⟨W, H, hk⟩ := wre_ok h0
    refine (Blows_ok s W H pl nl cl bl w h hk hb hx hn h1).mono ?_
    rintro e w' ⟨⟨g, c, rfl, hr⟩, hb⟩
    have hA : s.A.toNat = W := by rw [hk.a]; rfl
    exact ⟨⟨_, rfl, .inr ⟨rfl, g, c, rfl, by rw [hA]; exact hr⟩⟩, hb⟩
end Go.Proofs.Ytjbfnibhmojlfaa
