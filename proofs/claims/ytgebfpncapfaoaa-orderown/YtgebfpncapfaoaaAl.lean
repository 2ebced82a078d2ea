/- What the document's own Allowed returns: whether an order is of someone who may give it. -/
import Derived.Test.YtgebfpncapfaoaaTo
import Derived.Test.YtgebfpncapfaoaaRg
namespace Go.Proofs.Ytgebfpncapfaoaa
open Go.RowKit
set_option linter.unusedVariables false

theorem fown_trf (lt : List Trp) (i : Int) : fown lt i = (trf lt i).map (fun t => t.o) := rfl
theorem alw_five {f : Int → Option Int} {nb : Nat} {o : Ord} (h : o.k = 5) : alw f nb o = decide (o.b < (nb : Int)) := by unfold alw; rw [if_pos h]
theorem alw_none {lt : List Trp} {nb : Nat} {o : Ord} (h : ¬ o.k = 5) (h2 : (trf lt o.w).isSome = false) : alw (fown lt) nb o = false := by
  unfold alw
  rw [if_neg h, fown_trf]
  cases hh : trf lt o.w with
  | none => simp
  | some t => rw [hh] at h2; cases h2
theorem alw_some {lt : List Trp} {nb : Nat} {o : Ord} (h : ¬ o.k = 5) (h2 : (trf lt o.w).isSome = true) : alw (fown lt) nb o = decide ((tof lt o.w).o = o.b) := by
  unfold alw tof
  rw [if_neg h, fown_trf]
  cases hh : trf lt o.w with
  | none => rw [hh] at h2; cases h2
  | some t => simp

set_option maxRecDepth 20000 in
set_option maxHeartbeats 4000000 in
theorem Allowed_any (o : Ord) (s : Wld) (w : World) (h : s.fit w) : Calls Try.prog 53 #[ov o, s.val] w fun e w' => e = .returned (.bool (alw (fown s.lt) s.nb o)) ∧ Below w.heap.size w w' := by
  have HT : Hid (∀ V, Below w.heap.size w V → Calls Try.prog 30 #[s.val, .int .i64 o.w] V fun e w' => e = .returned (.tuple #[tv (tof s.lt o.w), .bool (trf s.lt o.w).isSome]) ∧ Below V.heap.size V w') := fun V hV => TroopOf_any s o.w V (Wld.fit_below h hV)
  have H5 : Hid (o.k = 5 → alw (fown s.lt) s.nb o = decide (o.b < (s.nb : Int))) := fun e => alw_five e
  have HN : Hid (¬ o.k = 5 → (trf s.lt o.w).isSome = false → alw (fown s.lt) s.nb o = false) := fun e e2 => alw_none e e2
  have HY : Hid (¬ o.k = 5 → (trf s.lt o.w).isSome = true → alw (fown s.lt) s.nb o = decide ((tof s.lt o.w).o = o.b)) := fun e e2 => alw_some e e2
  obtain ⟨R, hR⟩ : ∃ R, alw (fown s.lt) s.nb o = R := ⟨_, rfl⟩
  obtain ⟨U, hU⟩ : ∃ U, tof s.lt o.w = U := ⟨_, rfl⟩
  obtain ⟨bb, hb⟩ : ∃ bb, (trf s.lt o.w).isSome = bb := ⟨_, rfl⟩
  simp only [hR, hU, hb] at HT H5 HN HY ⊢
  clear hR hU hb h
  obtain ⟨ti, to_, tk, tx, ty, tf, td⟩ := U
  obtain ⟨ob, ok, ow, ox, oy, oa⟩ := o
  obtain ⟨A, B, pf, nf, cf, lf, pb, nb, cb, lb, ps, ns, cs, ls, pm, nm, cm, lm, pt, nt, ct, lt, N, T⟩ := s
  unfold tv Wld.val at HT
  unfold ov Wld.val
  dsimp only at *
  obtain ⟨F, hF⟩ : ∃ F, w.heap.size = F := ⟨_, rfl⟩
  obtain ⟨wa, hwa⟩ : ∃ wa, w.alloc (.cells #[.int .i64 ob, .int .i64 ok, .int .i64 ow, .int .i64 ox, .int .i64 oy, .int .i64 oa] 25) = wa := ⟨_, rfl⟩
  have sa : wa.heap.size = F + 1 := by rw [← hwa, World.size_alloc, hF]
  obtain ⟨w0, hw0⟩ : ∃ w0, wa.alloc (.cells #[.int .i64 A, .int .i64 B, .slice pf nf cf, .slice pb nb cb, .slice ps ns cs, .slice pm nm cm, .slice pt nt ct, .int .i64 N, .int .i64 T] 41) = w0 := ⟨_, rfl⟩
  have ba : Below wa.heap.size wa w0 := by rw [← hw0]; exact alloc_below _ _
  have hba : Below w.heap.size w wa := by rw [← hwa]; exact alloc_below _ _
  have HB0 : Hid (Below w.heap.size w w0) := below_step hba hba.size ba
  have HBX : Hid (∀ V, Below w0.heap.size w0 V → c9 V (F + 1) (.int .i64 A) (.int .i64 B) (.slice pf nf cf) (.slice pb nb cb) (.slice ps ns cs) (.slice pm nm cm) (.slice pt nt ct) (.int .i64 N) (.int .i64 T)) := fun V hV => boxw sa hw0 hV
  have HBO : Hid (∀ V, Below w0.heap.size w0 V → V.cell? ⟨F, 0, none⟩ = some (.int .i64 ob) ∧ V.cell? ⟨F, 1, none⟩ = some (.int .i64 ok) ∧ V.cell? ⟨F, 2, none⟩ = some (.int .i64 ow) ∧ V.cell? ⟨F, 3, none⟩ = some (.int .i64 ox) ∧ V.cell? ⟨F, 4, none⟩ = some (.int .i64 oy) ∧ V.cell? ⟨F, 5, none⟩ = some (.int .i64 oa)) := fun V hV => by
    have h1 : Below wa.heap.size wa V := below_step ba ba.size hV
    rw [← hwa] at h1
    rw [← hF]
    exact box6 h1
  have HUP : Hid (∀ V, Below w0.heap.size w0 V → Below w.heap.size w V) := fun V hV => below_step HB0.out HB0.out.size hV
  obtain ⟨z0, z1, z2, z3, z4, z5, z6, z7, z8⟩ := HBX.out w0 (Below.refl _ _)
  obtain ⟨y0, y1, y2, y3, y4, y5⟩ := HBO.out w0 (Below.refl _ _)
  clear ba hba
  by_cases hk : ok = 5
  · subst hk
    have HR : Hid (R = decide (ob < (nb : Int))) := H5.out rfl
    clear H5 HN HY HT
    go_enter Try.func53, Try.ntmps53
    go_wp2_with fail
    go_ret
    exact ⟨by rw [HR.out]; first | rfl | simp, HB0.out⟩
  · have HN : Hid (bb = false → R = false) := HN.out hk
    have HY : Hid (bb = true → R = decide (to_ = ob)) := HY.out hk
    clear H5
    go_enter Try.func53, Try.ntmps53
    go_wp2_with fail
    refine (HT.out w0 HB0.out).mono ?_
    rintro e w1 ⟨rfl, hb1⟩
    have HB1 : Hid (Below w0.heap.size w0 w1) := hb1
    obtain ⟨w2, hw2⟩ : ∃ w2, w1.alloc (.cells #[.int .i64 ti, .int .i64 to_, .int .i64 tk, .int .i64 tx, .int .i64 ty, .int .i64 tf, .int .i64 td] 71) = w2 := ⟨_, rfl⟩
    obtain ⟨G, hG⟩ : ∃ G, w1.heap.size = G := ⟨_, rfl⟩
    have hb2 : Below w1.heap.size w1 w2 := by rw [← hw2]; exact alloc_below _ _
    have HB2 : Hid (Below w0.heap.size w0 w2) := below_step hb1 hb1.size hb2
    obtain ⟨g0, g1, g2, g3, g4, g5, g6⟩ := boxt hG hw2 (Below.refl _ _)
    clear z0 z1 z2 z3 z4 z5 z6 z7 z8 y0 y1 y2 y3 y4 y5 hb1 hb2 HT
    obtain ⟨y0, y1, y2, y3, y4, y5⟩ := HBO.out w2 HB2.out
    cases bb with
    | false =>
      have HR : Hid (R = false) := HN.out rfl
      go_wp2_with fail
      go_ret
      exact ⟨by rw [HR.out]; first | rfl | simp, HUP.out _ HB2.out⟩
    | true =>
      have HR : Hid (R = decide (to_ = ob)) := HY.out rfl
      go_wp2_with fail
      go_ret
      exact ⟨by rw [HR.out]; first | rfl | simp, HUP.out _ HB2.out⟩
end Go.Proofs.Ytgebfpncapfaoaa
