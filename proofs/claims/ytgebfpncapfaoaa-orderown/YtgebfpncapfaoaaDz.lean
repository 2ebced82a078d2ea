/- What OrderOwn's second closure returns: whether a troop is of that player. -/
import Derived.Test.YtgebfpncapfaoaaDy
import Derived.Test.YtgebfpncapfaoaaAl
namespace Go.Proofs.Ytgebfpncapfaoaa
open Go.RowKit
set_option linter.unusedVariables false

theorem own_none {lt : List Trp} {id y : Int} (h : (trf lt id).isSome = false) : decide (fown lt id = some y) = false := by
  rw [fown_trf]
  cases hh : trf lt id with
  | none => simp
  | some t => rw [hh] at h; cases h
theorem own_some {lt : List Trp} {id y : Int} (h : (trf lt id).isSome = true) : decide (fown lt id = some y) = decide ((tof lt id).o = y) := by
  unfold tof
  rw [fown_trf]
  cases hh : trf lt id with
  | none => rw [hh] at h; cases h
  | some t => simp

set_option maxRecDepth 20000 in
set_option maxHeartbeats 4000000 in
theorem owned_any (id y : Int) (s : Wld) (F Bb : Nat) (w : World) (h : s.fit w) (hb : c9 w F (.int .i64 s.A) (.int .i64 s.B) (.slice s.p s.n s.c) (.slice s.pb s.nb s.cb) (.slice s.ps s.ns s.cs) (.slice s.pm s.nm s.cm) (.slice s.pt s.nt s.ct) (.int .i64 s.N) (.int .i64 s.T)) (hc : w.cell? ⟨Bb, 0, none⟩ = some (.int .i64 y)) :
    Calls Try.prog 29 #[.int .i64 id, .pointer (some ⟨F, 0, none⟩), .pointer (some ⟨Bb, 0, none⟩)] w fun e w' => e = .returned (.bool (decide (fown s.lt id = some y))) ∧ Below w.heap.size w w' := by
  have HT : Hid (∀ V, Below w.heap.size w V → Calls Try.prog 30 #[s.val, .int .i64 id] V fun e w' => e = .returned (.tuple #[tv (tof s.lt id), .bool (trf s.lt id).isSome]) ∧ Below V.heap.size V w') := fun V hV => TroopOf_any s id V (Wld.fit_below h hV)
  have HN : Hid ((trf s.lt id).isSome = false → decide (fown s.lt id = some y) = false) := fun e => own_none e
  have HY : Hid ((trf s.lt id).isSome = true → decide (fown s.lt id = some y) = decide ((tof s.lt id).o = y)) := fun e => own_some e
  obtain ⟨R, hR⟩ : ∃ R, decide (fown s.lt id = some y) = R := ⟨_, rfl⟩
  obtain ⟨U, hU⟩ : ∃ U, tof s.lt id = U := ⟨_, rfl⟩
  obtain ⟨bb, hbb⟩ : ∃ bb, (trf s.lt id).isSome = bb := ⟨_, rfl⟩
  simp only [hR, hU, hbb] at HT HN HY ⊢
  clear hR hU hbb h
  obtain ⟨ti, to_, tk, tx, ty, tf, td⟩ := U
  obtain ⟨A, B, pf, nf, cf, lf, pb, nb, cb, lb, ps, ns, cs, ls, pm, nm, cm, lm, pt, nt, ct, lt, N, T⟩ := s
  unfold tv Wld.val at HT
  dsimp only at HT HY hb
  have HC : Hid (∀ V, Below w.heap.size w V → V.cell? ⟨Bb, 0, none⟩ = some (.int .i64 y)) := fun V hV => cell_kept hc hV
  obtain ⟨z0, z1, z2, z3, z4, z5, z6, z7, z8⟩ := hb
  go_enter Try.func29, Try.ntmps29
  go_wp2_with fail
  refine (HT.out w (Below.refl _ _)).mono ?_
  rintro e w1 ⟨rfl, hb1⟩
  have HB1 : Hid (Below w.heap.size w w1) := hb1
  obtain ⟨w2, hw2⟩ : ∃ w2, w1.alloc (.cells #[.int .i64 ti, .int .i64 to_, .int .i64 tk, .int .i64 tx, .int .i64 ty, .int .i64 tf, .int .i64 td] 71) = w2 := ⟨_, rfl⟩
  obtain ⟨G, hG⟩ : ∃ G, w1.heap.size = G := ⟨_, rfl⟩
  have hb2 : Below w1.heap.size w1 w2 := by rw [← hw2]; exact alloc_below _ _
  have HB2 : Hid (Below w.heap.size w w2) := below_step hb1 hb1.size hb2
  obtain ⟨g0, g1, g2, g3, g4, g5, g6⟩ := boxt hG hw2 (Below.refl _ _)
  have hc2 := HC.out w2 HB2.out
  clear z0 z1 z2 z3 z4 z5 z6 z7 z8 hb1 hb2 HT hc
  cases bb with
  | false =>
    have HR : Hid (R = false) := HN.out rfl
    go_wp2_with fail
    go_ret
    exact ⟨by rw [HR.out]; first | rfl | simp, HB2.out⟩
  | true =>
    have HR : Hid (R = decide (to_ = y)) := HY.out rfl
    go_wp2_with fail
    go_ret
    exact ⟨by rw [HR.out]; first | rfl | simp, HB2.out⟩
end Go.Proofs.Ytgebfpncapfaoaa
