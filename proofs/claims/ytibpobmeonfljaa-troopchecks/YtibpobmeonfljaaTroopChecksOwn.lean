/- Whatever is handed in, Kind, Check and Mark answer what the document says; for every world and every number, with no condition. -/
import Derived.Test.YtibpobmeonfljaaRows
import Derived.Test.YtibpobmeonfljaaPost
import Derived.Test.YtibpobmeonfljaaFc
import Derived.Test.YtibpobmeonfljaaMc
import Derived.Test.YtibpobmeonfljaaMd
import Derived.WalkKit
import Derived.ProofKit
import Derived.OpenShut

namespace Go.Proofs.Ytibpobmeonfljaa.troopChecks
open Go.ChangeShapes Go.WideShapes Go.ChangeAt Go.RowKit
set_option linter.unusedVariables false

theorem own : ownKnob Try.prog.godebug = none := by kernel_rfl

theorem k17_drew {w V : World} {x0 x1 x2 x3 x4 x5 x6 x7 x8 x9 x10 x11 x12 x13 x14 x15 x16 : Addr} {v0 v1 v2 v3 v4 v5 v6 v7 v8 v9 v10 v11 v12 v13 v14 v15 v16 : Value} (h : Below w.heap.size w V ∧ V.cell? x0 = some v0 ∧ V.cell? x1 = some v1 ∧ V.cell? x2 = some v2 ∧ V.cell? x3 = some v3 ∧ V.cell? x4 = some v4 ∧ V.cell? x5 = some v5 ∧ V.cell? x6 = some v6 ∧ V.cell? x7 = some v7 ∧ V.cell? x8 = some v8 ∧ V.cell? x9 = some v9 ∧ V.cell? x10 = some v10 ∧ V.cell? x11 = some v11 ∧ V.cell? x12 = some v12 ∧ V.cell? x13 = some v13 ∧ V.cell? x14 = some v14 ∧ V.cell? x15 = some v15 ∧ V.cell? x16 = some v16) : Below w.heap.size w V.drew ∧ V.drew.cell? x0 = some v0 ∧ V.drew.cell? x1 = some v1 ∧ V.drew.cell? x2 = some v2 ∧ V.drew.cell? x3 = some v3 ∧ V.drew.cell? x4 = some v4 ∧ V.drew.cell? x5 = some v5 ∧ V.drew.cell? x6 = some v6 ∧ V.drew.cell? x7 = some v7 ∧ V.drew.cell? x8 = some v8 ∧ V.drew.cell? x9 = some v9 ∧ V.drew.cell? x10 = some v10 ∧ V.drew.cell? x11 = some v11 ∧ V.drew.cell? x12 = some v12 ∧ V.drew.cell? x13 = some v13 ∧ V.drew.cell? x14 = some v14 ∧ V.drew.cell? x15 = some v15 ∧ V.drew.cell? x16 = some v16 := ⟨h.1.drew, h.2⟩
theorem k17_call {w V V' : World} {x0 x1 x2 x3 x4 x5 x6 x7 x8 x9 x10 x11 x12 x13 x14 x15 x16 : Addr} {v0 v1 v2 v3 v4 v5 v6 v7 v8 v9 v10 v11 v12 v13 v14 v15 v16 : Value} (h : Below w.heap.size w V ∧ V.cell? x0 = some v0 ∧ V.cell? x1 = some v1 ∧ V.cell? x2 = some v2 ∧ V.cell? x3 = some v3 ∧ V.cell? x4 = some v4 ∧ V.cell? x5 = some v5 ∧ V.cell? x6 = some v6 ∧ V.cell? x7 = some v7 ∧ V.cell? x8 = some v8 ∧ V.cell? x9 = some v9 ∧ V.cell? x10 = some v10 ∧ V.cell? x11 = some v11 ∧ V.cell? x12 = some v12 ∧ V.cell? x13 = some v13 ∧ V.cell? x14 = some v14 ∧ V.cell? x15 = some v15 ∧ V.cell? x16 = some v16) (hb : Below V.heap.size V V') : Below w.heap.size w V' ∧ V'.cell? x0 = some v0 ∧ V'.cell? x1 = some v1 ∧ V'.cell? x2 = some v2 ∧ V'.cell? x3 = some v3 ∧ V'.cell? x4 = some v4 ∧ V'.cell? x5 = some v5 ∧ V'.cell? x6 = some v6 ∧ V'.cell? x7 = some v7 ∧ V'.cell? x8 = some v8 ∧ V'.cell? x9 = some v9 ∧ V'.cell? x10 = some v10 ∧ V'.cell? x11 = some v11 ∧ V'.cell? x12 = some v12 ∧ V'.cell? x13 = some v13 ∧ V'.cell? x14 = some v14 ∧ V'.cell? x15 = some v15 ∧ V'.cell? x16 = some v16 :=
  ⟨h.1.trans (hb.mono h.1.size), by rw [hb.cell (cell_lt h.2.1)]; exact h.2.1, by rw [hb.cell (cell_lt h.2.2.1)]; exact h.2.2.1, by rw [hb.cell (cell_lt h.2.2.2.1)]; exact h.2.2.2.1, by rw [hb.cell (cell_lt h.2.2.2.2.1)]; exact h.2.2.2.2.1, by rw [hb.cell (cell_lt h.2.2.2.2.2.1)]; exact h.2.2.2.2.2.1, by rw [hb.cell (cell_lt h.2.2.2.2.2.2.1)]; exact h.2.2.2.2.2.2.1, by rw [hb.cell (cell_lt h.2.2.2.2.2.2.2.1)]; exact h.2.2.2.2.2.2.2.1, by rw [hb.cell (cell_lt h.2.2.2.2.2.2.2.2.1)]; exact h.2.2.2.2.2.2.2.2.1, by rw [hb.cell (cell_lt h.2.2.2.2.2.2.2.2.2.1)]; exact h.2.2.2.2.2.2.2.2.2.1, by rw [hb.cell (cell_lt h.2.2.2.2.2.2.2.2.2.2.1)]; exact h.2.2.2.2.2.2.2.2.2.2.1, by rw [hb.cell (cell_lt h.2.2.2.2.2.2.2.2.2.2.2.1)]; exact h.2.2.2.2.2.2.2.2.2.2.2.1, by rw [hb.cell (cell_lt h.2.2.2.2.2.2.2.2.2.2.2.2.1)]; exact h.2.2.2.2.2.2.2.2.2.2.2.2.1, by rw [hb.cell (cell_lt h.2.2.2.2.2.2.2.2.2.2.2.2.2.1)]; exact h.2.2.2.2.2.2.2.2.2.2.2.2.2.1, by rw [hb.cell (cell_lt h.2.2.2.2.2.2.2.2.2.2.2.2.2.2.1)]; exact h.2.2.2.2.2.2.2.2.2.2.2.2.2.2.1, by rw [hb.cell (cell_lt h.2.2.2.2.2.2.2.2.2.2.2.2.2.2.2.1)]; exact h.2.2.2.2.2.2.2.2.2.2.2.2.2.2.2.1, by rw [hb.cell (cell_lt h.2.2.2.2.2.2.2.2.2.2.2.2.2.2.2.2.1)]; exact h.2.2.2.2.2.2.2.2.2.2.2.2.2.2.2.2.1, by rw [hb.cell (cell_lt h.2.2.2.2.2.2.2.2.2.2.2.2.2.2.2.2.2)]; exact h.2.2.2.2.2.2.2.2.2.2.2.2.2.2.2.2.2⟩
theorem kind_at (k : Int) (a b c d e : Int) (h : kdv k = .agg #[.int .i64 a, .int .i64 b, .int .i64 c, .int .i64 d] ∧ kde k = e) (w : World) : Calls Try.prog 8 #[.int .i64 k] w fun e' w' => e' = .returned (.tuple #[.agg #[.int .i64 a, .int .i64 b, .int .i64 c, .int .i64 d], .int .i64 e]) ∧ Below w.heap.size w w' := by
  have := Kind_any k w
  rw [h.1, h.2] at this; exact this
/-- Two boxes of four, one behind the other; the second is written. -/
theorem two_boxes {w V1 V2 V3 : World} {a b c d a' b' c' d' : Value} {t : TypeId} {K : Nat} (hK : V1.heap.size = K) (h2 : V1.alloc (.cells #[a, b, c, d] t) = V2) (h3 : V2.alloc (.cells #[a', b', c', d'] t) = V3) :
    V2.heap.size = K + 1 ∧ Below V1.heap.size V1 V3 ∧ ∀ V, Below V3.heap.size V3 V → (V.cell? ⟨K, 0, none⟩ = some a ∧ V.cell? ⟨K, 1, none⟩ = some b ∧ V.cell? ⟨K, 2, none⟩ = some c ∧ V.cell? ⟨K, 3, none⟩ = some d) ∧ V.heap[K + 1]? = some (.cells #[a', b', c', d'] t) := by
  have s2 : V2.heap.size = K + 1 := by rw [← h2, World.size_alloc, hK]
  have b2 : Below V1.heap.size V1 V2 := by rw [← h2]; exact alloc_below _ _
  have b3 : Below V2.heap.size V2 V3 := by rw [← h3]; exact alloc_below _ _
  refine ⟨s2, b2.trans (b3.mono b2.size), fun V hV => ⟨box4_ hK h2 (b3.trans (hV.mono b3.size)), ?_⟩⟩
  have h : V3.heap[K + 1]? = some (.cells #[a', b', c', d'] t) := by
    have := World.alloc_heap_new V2 (.cells #[a', b', c', d'] t)
    rw [h3, s2] at this; exact this
  have hs : V3.heap.size = K + 1 + 1 := by rw [← h3, World.size_alloc, s2]
  exact (hV.block (K + 1) (by omega)).trans h
theorem four_at {V : World} {b : Nat} {x y z u : Value} {t : TypeId} (h : V.heap[b]? = some (.cells #[x, y, z, u] t)) : V.cell? ⟨b, 0, none⟩ = some x ∧ V.cell? ⟨b, 1, none⟩ = some y ∧ V.cell? ⟨b, 2, none⟩ = some z ∧ V.cell? ⟨b, 3, none⟩ = some u ∧ V.frozen? ⟨b, 0, none⟩ = false ∧ V.frozen? ⟨b, 1, none⟩ = false ∧ V.frozen? ⟨b, 2, none⟩ = false ∧ V.frozen? ⟨b, 3, none⟩ = false := by
  simp [World.cell?, World.frozen?, h]
theorem set4h {W' : World} {R : Nat} {x y z u x' y' z' u' : Value} {t : TypeId} (hR : W'.heap[R]? = some (.cells #[x, y, z, u] t)) (V : World) (hV : (((W'.setCell ⟨R, 0, none⟩ x').setCell ⟨R, 1, none⟩ y').setCell ⟨R, 2, none⟩ z').setCell ⟨R, 3, none⟩ u' = V) :
    V.heap[R]? = some (.cells #[x', y', z', u'] t) ∧ ∀ B, B ≤ R → Below B W' V := by
  have h1 := heap_setCell_same W' R 0 _ t x' hR
  have h2 := heap_setCell_same _ R 1 _ t y' h1
  have h3 := heap_setCell_same _ R 2 _ t z' h2
  have h4 := heap_setCell_same _ R 3 _ t u' h3
  refine ⟨by rw [← hV, h4]; rfl, fun B hB => ?_⟩
  rw [← hV]
  exact ((((Below.refl B W').setCell (p := ⟨R, 0, none⟩) hB _).setCell (p := ⟨R, 1, none⟩) hB _).setCell (p := ⟨R, 2, none⟩) hB _).setCell (p := ⟨R, 3, none⟩) hB _

set_option maxRecDepth 20000 in
set_option maxHeartbeats 4000000 in
theorem walk (s0 : Wld) (a1 : Int) (w1 : (Lit.int .i64 a1).wf = true) (w : World) (h0 : s0.fit w) :
    Calls Try.prog 3 #[s0.val, .int .i64 a1] w fun e w' => e = .returned (.bool true) ∧ Below w.heap.size w w' := by
  clear w1
  obtain ⟨E, hE⟩ := wre_total s0
  have HCH : Hid (∀ V, Below w.heap.size w V → Calls Try.prog 14 #[s0.val] V fun e w' => e = .returned (.int .i64 E) ∧ Below V.heap.size V w') := fun V hV => Check_world s0 E V (Wld.fit_below h0 hV) hE
  have HWR : Hid (∀ V, Below w.heap.size w V → Calls Try.prog 12 #[s0.val] V fun e w' => e = .returned (.int .i64 E) ∧ Below V.heap.size V w') := fun V hV => WorldRight_at s0 E V (Wld.fit_below h0 hV) hE
  have HMA : Hid (∀ V, Below w.heap.size w V → Calls Try.prog 11 #[s0.val] V fun e w' => (∃ m : Nat, e = .returned (.tuple #[.int .u64 (m : Int), .int .i64 E]) ∧ Hid (mkr s0 E m)) ∧ Below V.heap.size V w') := fun V hV => Mark_any s0 E V (Wld.fit_below h0 hV) hE
  have HWM : Hid (∀ V, E = 0 → Below w.heap.size w V → Calls Try.prog 13 #[s0.val] V fun e w' => (∃ m : Nat, e = .returned (.int .u64 (m : Int)) ∧ Hid (mkr s0 E m)) ∧ Below V.heap.size V w') := fun V he hV => by
    subst he
    obtain ⟨W, H, hk⟩ := wre_ok hE
    refine (WorldMark_ok s0 W H V (Wld.fit_below h0 hV) hk).mono ?_
    rintro e w' ⟨rfl, hb⟩
    exact ⟨⟨_, rfl, fun h => absurd rfl h, fun _ => rfl, tn_lt (by decide) _⟩, hb⟩
  clear h0 hE
  obtain ⟨A, B, p, n, c, l, pb, nb, cb, lb, ps, ns, cs, ls, pm, nm, cm, lm, pt, nt, ct, lt, N, T⟩ := s0
  obtain ⟨s0, hs0⟩ : ∃ s : Wld, (⟨A, B, p, n, c, l, pb, nb, cb, lb, ps, ns, cs, ls, pm, nm, cm, lm, pt, nt, ct, lt, N, T⟩ : Wld) = s := ⟨_, rfl⟩
  have esv : Wld.val s0 = .agg #[.int .i64 A, .int .i64 B, .slice p n c, .slice pb nb cb, .slice ps ns cs, .slice pm nm cm, .slice pt nt ct, .int .i64 N, .int .i64 T] := by rw [← hs0]; rfl
  rw [hs0, esv] at HCH HWR HMA HWM
  rw [hs0, esv]
  obtain ⟨F, hF⟩ : ∃ F, w.heap.size = F := ⟨_, rfl⟩
  obtain ⟨w0, hw0⟩ : ∃ w0, w.alloc (.cells #[.int .i64 A, .int .i64 B, .slice p n c, .slice pb nb cb, .slice ps ns cs, .slice pm nm cm, .slice pt nt ct, .int .i64 N, .int .i64 T] 28) = w0 := ⟨_, rfl⟩
  have HBX : Hid (∀ V, Below w0.heap.size w0 V → c9 V F (.int .i64 A) (.int .i64 B) (.slice p n c) (.slice pb nb cb) (.slice ps ns cs) (.slice pm nm cm) (.slice pt nt ct) (.int .i64 N) (.int .i64 T)) := fun V hV => boxw hF hw0 hV
  have hB0 : Below w.heap.size w w0 := by rw [← hw0]; exact alloc_below _ _
  have HB0 : Hid (Below w.heap.size w w0) := hB0
  have HUP : Hid (∀ V, Below w0.heap.size w0 V → Below w.heap.size w V) := fun V hV => HB0.out.trans (hV.mono HB0.out.size)
  obtain ⟨z0, z1, z2, z3, z4, z5, z6, z7, z8⟩ := HBX.out w0 (Below.refl _ _)
  clear hB0 hs0 esv
  by_cases k1 : a1 = 1
  · subst k1
    have HKI : Hid (∀ V, Calls Try.prog 8 #[.int .i64 1] V fun e w' => e = .returned (.tuple #[.agg #[.int .i64 10, .int .i64 1, .int .i64 1, .int .i64 5], .int .i64 0]) ∧ Below V.heap.size V w') := fun V => kind_at 1 10 1 1 5 0 ⟨by unfold kdv; simp, by unfold kde; simp⟩ V
    go_enter Try.func3, Try.ntmps3
    go_wp2_with fail
    refine (HKI.out w0).mono ?_
    rintro e V1 ⟨rfl, hb1⟩
    have HB1 : Hid (Below w0.heap.size w0 V1) := hb1
    clear hb1 z0 z1 z2 z3 z4 z5 z6 z7 z8 hw0 hF
    obtain ⟨K, hK⟩ : ∃ K, V1.heap.size = K := ⟨_, rfl⟩
    have HKS : Hid (w0.heap.size ≤ K) := by rw [← hK]; exact HB1.out.size
    obtain ⟨V2, hV2⟩ : ∃ V, V1.alloc (.cells #[.int .i64 10, .int .i64 1, .int .i64 1, .int .i64 5] 30) = V := ⟨_, rfl⟩
    obtain ⟨V3, hV3⟩ : ∃ V, V2.alloc (.cells #[.int .i64 0, .int .i64 0, .int .i64 0, .int .i64 0] 30) = V := ⟨_, rfl⟩
    obtain ⟨hK2, hbQ, hbk⟩ := two_boxes (w := w) hK hV2 hV3
    have HKQ : Hid (K + 1 < V3.heap.size) := by unfold Hid; rw [← hV3, World.size_alloc, hK2]; omega
    obtain ⟨⟨j0, j1, j2, j3⟩, hbx3⟩ := hbk V3 (Below.refl _ _)
    obtain ⟨q0, q1, q2, q3, q4, q5, q6, q7⟩ := four_at hbx3
    obtain ⟨VZ, hVZ⟩ : ∃ V, (((V3.setCell ⟨K + 1, 0, none⟩ (.int .i64 0)).setCell ⟨K + 1, 1, none⟩ (.int .i64 0)).setCell ⟨K + 1, 2, none⟩ (.int .i64 0)).setCell ⟨K + 1, 3, none⟩ (.int .i64 0) = V := ⟨_, rfl⟩
    obtain ⟨hbxz, hbz⟩ := set4h hbx3 VZ hVZ
    have HB3 : Hid (Below w0.heap.size w0 VZ) := by
      have h1 := below_upF HB1.out hbQ
      exact h1.trans (hbz w0.heap.size (by have := HKS.out; omega))
    have HBK : Hid (∀ V, Below VZ.heap.size VZ V → (V.cell? ⟨K, 0, none⟩ = some (.int .i64 10) ∧ V.cell? ⟨K, 1, none⟩ = some (.int .i64 1) ∧ V.cell? ⟨K, 2, none⟩ = some (.int .i64 1) ∧ V.cell? ⟨K, 3, none⟩ = some (.int .i64 5)) ∧ V.heap[K + 1]? = some (.cells #[.int .i64 0, .int .i64 0, .int .i64 0, .int .i64 0] 30)) := fun V hV => by
      have hz := hbz (K + 1) (Nat.le_refl _)
      have up : ∀ {o : Nat} {u : Value}, V3.cell? ⟨K, o, none⟩ = some u → V.cell? ⟨K, o, none⟩ = some u := fun {o u} h => by
        have h5 := (hz.cell (p := ⟨K, o, none⟩) (by show K < K + 1; omega)).trans h
        exact (hV.cell (cell_lt h5)).trans h5
      refine ⟨⟨up j0, up j1, up j2, up j3⟩, ?_⟩
      have hlt : K + 1 < VZ.heap.size := Nat.lt_of_lt_of_le HKQ.out hz.size
      exact (hV.block (K + 1) hlt).trans hbxz
    have HK3 : Hid (K + 1 < VZ.heap.size) := Nat.lt_of_lt_of_le HKQ.out (hbz (K + 1) (Nat.le_refl _)).size
    clear hbQ hbk j0 j1 j2 j3 hbx3 hbxz hbz
    go_wp2_with fail
    refine (Between_at 1 1 2 true VZ (by unfold Hid; decide)).mono ?_
    rintro e w' ⟨rfl, hw⟩; subst w'
    clear hV2 hV3 hK hK2 q0 q1 q2 q3 q4 q5 q6 q7 hVZ
    go_wp2_with fail
    refine (KindOf_1 VZ).mono ?_
    rintro e V4 ⟨rfl, hb4⟩
    obtain ⟨-, hbx4⟩ := HBK.out V4 hb4
    have HX4 : Hid (V4.heap[K + 1]? = some (.cells #[.int .i64 0, .int .i64 0, .int .i64 0, .int .i64 0] 30)) := hbx4
    obtain ⟨q0, q1, q2, q3, q4, q5, q6, q7⟩ := four_at hbx4
    obtain ⟨V5, hV5⟩ : ∃ V, (((V4.setCell ⟨K + 1, 0, none⟩ (.int .i64 10)).setCell ⟨K + 1, 1, none⟩ (.int .i64 1)).setCell ⟨K + 1, 2, none⟩ (.int .i64 1)).setCell ⟨K + 1, 3, none⟩ (.int .i64 5) = V := ⟨_, rfl⟩
    have k5 := set4 HX4.out V5 hV5.symm
    have HB5 : Hid (Below w0.heap.size w0 V5) := by
      have h1 := below_upF HB3.out hb4
      have h2 := hb4.size
      have h3 := HB3.out.size
      have h4 := HK3.out
      exact h1.trans (k5.2.2.2.2 w0.heap.size (by have := HKS.out; omega))
    have HBZ : Hid (∀ V, Below V5.heap.size V5 V → (V.cell? ⟨K, 0, none⟩ = some (.int .i64 10) ∧ V.cell? ⟨K, 1, none⟩ = some (.int .i64 1) ∧ V.cell? ⟨K, 2, none⟩ = some (.int .i64 1) ∧ V.cell? ⟨K, 3, none⟩ = some (.int .i64 5)) ∧ V.cell? ⟨K + 1, 0, none⟩ = some (.int .i64 10) ∧ V.cell? ⟨K + 1, 1, none⟩ = some (.int .i64 1) ∧ V.cell? ⟨K + 1, 2, none⟩ = some (.int .i64 1) ∧ V.cell? ⟨K + 1, 3, none⟩ = some (.int .i64 5)) := fun V hV => by
      obtain ⟨⟨j0, j1, j2, j3⟩, -⟩ := HBK.out V4 hb4
      have hb5 := k5.2.2.2.2 (K + 1) (Nat.le_refl _)
      have up : ∀ {o : Nat} {u : Value}, V4.cell? ⟨K, o, none⟩ = some u → V.cell? ⟨K, o, none⟩ = some u := fun {o u} h => by
        have h5 := (hb5.cell (p := ⟨K, o, none⟩) (by show K < K + 1; omega)).trans h
        exact (hV.cell (cell_lt h5)).trans h5
      exact ⟨⟨up j0, up j1, up j2, up j3⟩, (hV.cell (cell_lt k5.1)).trans k5.1, (hV.cell (cell_lt k5.2.1)).trans k5.2.1, (hV.cell (cell_lt k5.2.2.1)).trans k5.2.2.1, (hV.cell (cell_lt k5.2.2.2.1)).trans k5.2.2.2.1⟩
    obtain ⟨z0, z1, z2, z3, z4, z5, z6, z7, z8⟩ := HBX.out V5 HB5.out
    clear hb4 hbx4 k5
    go_wp2_with fail
    clear q0 q1 q2 q3 q4 q5 q6 q7 hV5
    refine (HMA.out V5 (HUP.out V5 HB5.out)).mono ?_
    rintro e V6 ⟨⟨m, rfl, hm⟩, hb6⟩
    have HB56 : Hid (Below V5.heap.size V5 V6) := hb6
    have HB6 : Hid (Below w0.heap.size w0 V6) := below_upF HB5.out hb6
    have HM : Hid (mkr s0 E m) := hm.out
    clear z0 z1 z2 z3 z4 z5 z6 z7 z8 hb6 hm
    obtain ⟨z0, z1, z2, z3, z4, z5, z6, z7, z8⟩ := HBX.out V6 HB6.out
    go_wp2_with fail
    refine (HWR.out V6 (HUP.out V6 HB6.out)).mono ?_
    rintro e V7 ⟨rfl, hb7⟩
    have HB57 : Hid (Below V5.heap.size V5 V7) := below_upF HB56.out hb7
    have HB7 : Hid (Below w0.heap.size w0 V7) := below_upF HB6.out hb7
    clear z0 z1 z2 z3 z4 z5 z6 z7 z8 hb7
    obtain ⟨z0, z1, z2, z3, z4, z5, z6, z7, z8⟩ := HBX.out V7 HB7.out
    by_cases hE0 : E = 0
    · subst hE0
      go_wp2_with fail
      refine (HWM.out V7 (by first | rfl | trivial) (HUP.out V7 HB7.out)).mono ?_
      rintro e V8 ⟨⟨m', rfl, hm'⟩, hb8⟩
      have HB58 : Hid (Below V5.heap.size V5 V8) := below_upF HB57.out hb8
      have HB8 : Hid (Below w0.heap.size w0 V8) := below_upF HB7.out hb8
      have em := mkr_one HM.out hm'.out
      subst em
      clear z0 z1 z2 z3 z4 z5 z6 z7 z8 hb8 hm'
      obtain ⟨z0, z1, z2, z3, z4, z5, z6, z7, z8⟩ := HBX.out V8 HB8.out
      obtain ⟨⟨j0, j1, j2, j3⟩, j4, j5, j6, j7⟩ := HBZ.out V8 HB58.out
      have HC2 : Hid (∀ V, Below V8.heap.size V8 V → Calls Try.prog 14 #[.agg #[.int .i64 A, .int .i64 B, .slice p n c, .slice pb nb cb, .slice ps ns cs, .slice pm nm cm, .slice pt nt ct, .int .i64 N, .int .i64 T]] V fun e w' => e = .returned (.int .i64 0) ∧ Below V.heap.size V w') := fun V hV => HCH.out V (HUP.out V (below_upF HB8.out hV))
      have HR2 : Hid (∀ V, Below V8.heap.size V8 V → Calls Try.prog 12 #[.agg #[.int .i64 A, .int .i64 B, .slice p n c, .slice pb nb cb, .slice ps ns cs, .slice pm nm cm, .slice pt nt ct, .int .i64 N, .int .i64 T]] V fun e w' => e = .returned (.int .i64 0) ∧ Below V.heap.size V w') := fun V hV => HWR.out V (HUP.out V (below_upF HB8.out hV))
      clear HBX HBZ HBK HCH HWR HMA HWM HM
      go_wp2_with fail
      go_region_held3 (fun V => Below V8.heap.size V8 V ∧ V.cell? ⟨K, 0, none⟩ = some (.int .i64 10) ∧ V.cell? ⟨K, 1, none⟩ = some (.int .i64 1) ∧ V.cell? ⟨K, 2, none⟩ = some (.int .i64 1) ∧ V.cell? ⟨K, 3, none⟩ = some (.int .i64 5) ∧ V.cell? ⟨K + 1, 0, none⟩ = some (.int .i64 10) ∧ V.cell? ⟨K + 1, 1, none⟩ = some (.int .i64 1) ∧ V.cell? ⟨K + 1, 2, none⟩ = some (.int .i64 1) ∧ V.cell? ⟨K + 1, 3, none⟩ = some (.int .i64 5) ∧ V.cell? ⟨F, 0, none⟩ = some (.int .i64 A) ∧ V.cell? ⟨F, 1, none⟩ = some (.int .i64 B) ∧ V.cell? ⟨F, 2, none⟩ = some (.slice p n c) ∧ V.cell? ⟨F, 3, none⟩ = some (.slice pb nb cb) ∧ V.cell? ⟨F, 4, none⟩ = some (.slice ps ns cs) ∧ V.cell? ⟨F, 5, none⟩ = some (.slice pm nm cm) ∧ V.cell? ⟨F, 6, none⟩ = some (.slice pt nt ct) ∧ V.cell? ⟨F, 7, none⟩ = some (.int .i64 N) ∧ V.cell? ⟨F, 8, none⟩ = some (.int .i64 T)) (first | with_reducible assumption | with_reducible exact k17_drew (by assumption) | with_reducible exact k17_call (by assumption) (by assumption) | exact ⟨Below.drew (Below.refl _ _), j0, j1, j2, j3, j4, j5, j6, j7, z0, z1, z2, z3, z4, z5, z6, z7, z8⟩) (first
        | (go_at_call 14; with_reducible refine (HC2.out _ (And.left (by assumption))).mono ?_; rintro e V9 ⟨rfl, hb9⟩)
        | (go_at_call 12; with_reducible refine (HR2.out _ (And.left (by assumption))).mono ?_; rintro e V10 ⟨rfl, hb10⟩))
      have HBZZ : Hid (Below w0.heap.size w0 V10) := below_upF HB8.out (And.left (by assumption))
      go_wp2_with fail
      go_ret
      exact ⟨by simp, HUP.out V10 HBZZ.out⟩
    · have d1 : (E == 0) = false := by simp [hE0]
      have em : m = 0 := HM.out.1 hE0
      subst em
      go_wp2_with fail
      obtain ⟨V8, hV8⟩ : ∃ V : World, V = V7 := ⟨_, rfl⟩
      subst hV8
      have HB58 : Hid (Below V5.heap.size V5 V8) := HB57.out
      have HB8 : Hid (Below w0.heap.size w0 V8) := HB7.out
      clear z0 z1 z2 z3 z4 z5 z6 z7 z8
      obtain ⟨z0, z1, z2, z3, z4, z5, z6, z7, z8⟩ := HBX.out V8 HB8.out
      obtain ⟨⟨j0, j1, j2, j3⟩, j4, j5, j6, j7⟩ := HBZ.out V8 HB58.out
      have HC2 : Hid (∀ V, Below V8.heap.size V8 V → Calls Try.prog 14 #[.agg #[.int .i64 A, .int .i64 B, .slice p n c, .slice pb nb cb, .slice ps ns cs, .slice pm nm cm, .slice pt nt ct, .int .i64 N, .int .i64 T]] V fun e w' => e = .returned (.int .i64 E) ∧ Below V.heap.size V w') := fun V hV => HCH.out V (HUP.out V (below_upF HB8.out hV))
      have HR2 : Hid (∀ V, Below V8.heap.size V8 V → Calls Try.prog 12 #[.agg #[.int .i64 A, .int .i64 B, .slice p n c, .slice pb nb cb, .slice ps ns cs, .slice pm nm cm, .slice pt nt ct, .int .i64 N, .int .i64 T]] V fun e w' => e = .returned (.int .i64 E) ∧ Below V.heap.size V w') := fun V hV => HWR.out V (HUP.out V (below_upF HB8.out hV))
      clear HBX HBZ HBK HCH HWR HMA HWM HM
      go_wp2_with fail
      go_region_held3 (fun V => Below V8.heap.size V8 V ∧ V.cell? ⟨K, 0, none⟩ = some (.int .i64 10) ∧ V.cell? ⟨K, 1, none⟩ = some (.int .i64 1) ∧ V.cell? ⟨K, 2, none⟩ = some (.int .i64 1) ∧ V.cell? ⟨K, 3, none⟩ = some (.int .i64 5) ∧ V.cell? ⟨K + 1, 0, none⟩ = some (.int .i64 10) ∧ V.cell? ⟨K + 1, 1, none⟩ = some (.int .i64 1) ∧ V.cell? ⟨K + 1, 2, none⟩ = some (.int .i64 1) ∧ V.cell? ⟨K + 1, 3, none⟩ = some (.int .i64 5) ∧ V.cell? ⟨F, 0, none⟩ = some (.int .i64 A) ∧ V.cell? ⟨F, 1, none⟩ = some (.int .i64 B) ∧ V.cell? ⟨F, 2, none⟩ = some (.slice p n c) ∧ V.cell? ⟨F, 3, none⟩ = some (.slice pb nb cb) ∧ V.cell? ⟨F, 4, none⟩ = some (.slice ps ns cs) ∧ V.cell? ⟨F, 5, none⟩ = some (.slice pm nm cm) ∧ V.cell? ⟨F, 6, none⟩ = some (.slice pt nt ct) ∧ V.cell? ⟨F, 7, none⟩ = some (.int .i64 N) ∧ V.cell? ⟨F, 8, none⟩ = some (.int .i64 T)) (first | with_reducible assumption | with_reducible exact k17_drew (by assumption) | with_reducible exact k17_call (by assumption) (by assumption) | exact ⟨Below.drew (Below.refl _ _), j0, j1, j2, j3, j4, j5, j6, j7, z0, z1, z2, z3, z4, z5, z6, z7, z8⟩) (first
        | (go_at_call 14; with_reducible refine (HC2.out _ (And.left (by assumption))).mono ?_; rintro e V9 ⟨rfl, hb9⟩)
        | (go_at_call 12; with_reducible refine (HR2.out _ (And.left (by assumption))).mono ?_; rintro e V10 ⟨rfl, hb10⟩))
      have HBZZ : Hid (Below w0.heap.size w0 V10) := below_upF HB8.out (And.left (by assumption))
      go_wp2_with fail
      go_ret
      exact ⟨by simp, HUP.out V10 HBZZ.out⟩
  by_cases k2 : a1 = 2
  · subst k2
    have HKI : Hid (∀ V, Calls Try.prog 8 #[.int .i64 2] V fun e w' => e = .returned (.tuple #[.agg #[.int .i64 20, .int .i64 2, .int .i64 4, .int .i64 12], .int .i64 0]) ∧ Below V.heap.size V w') := fun V => kind_at 2 20 2 4 12 0 ⟨by unfold kdv; simp, by unfold kde; simp⟩ V
    go_enter Try.func3, Try.ntmps3
    go_wp2_with fail
    refine (HKI.out w0).mono ?_
    rintro e V1 ⟨rfl, hb1⟩
    have HB1 : Hid (Below w0.heap.size w0 V1) := hb1
    clear hb1 z0 z1 z2 z3 z4 z5 z6 z7 z8 hw0 hF
    obtain ⟨K, hK⟩ : ∃ K, V1.heap.size = K := ⟨_, rfl⟩
    have HKS : Hid (w0.heap.size ≤ K) := by rw [← hK]; exact HB1.out.size
    obtain ⟨V2, hV2⟩ : ∃ V, V1.alloc (.cells #[.int .i64 20, .int .i64 2, .int .i64 4, .int .i64 12] 30) = V := ⟨_, rfl⟩
    obtain ⟨V3, hV3⟩ : ∃ V, V2.alloc (.cells #[.int .i64 0, .int .i64 0, .int .i64 0, .int .i64 0] 30) = V := ⟨_, rfl⟩
    obtain ⟨hK2, hbQ, hbk⟩ := two_boxes (w := w) hK hV2 hV3
    have HKQ : Hid (K + 1 < V3.heap.size) := by unfold Hid; rw [← hV3, World.size_alloc, hK2]; omega
    obtain ⟨⟨j0, j1, j2, j3⟩, hbx3⟩ := hbk V3 (Below.refl _ _)
    obtain ⟨q0, q1, q2, q3, q4, q5, q6, q7⟩ := four_at hbx3
    obtain ⟨VZ, hVZ⟩ : ∃ V, (((V3.setCell ⟨K + 1, 0, none⟩ (.int .i64 0)).setCell ⟨K + 1, 1, none⟩ (.int .i64 0)).setCell ⟨K + 1, 2, none⟩ (.int .i64 0)).setCell ⟨K + 1, 3, none⟩ (.int .i64 0) = V := ⟨_, rfl⟩
    obtain ⟨hbxz, hbz⟩ := set4h hbx3 VZ hVZ
    have HB3 : Hid (Below w0.heap.size w0 VZ) := by
      have h1 := below_upF HB1.out hbQ
      exact h1.trans (hbz w0.heap.size (by have := HKS.out; omega))
    have HBK : Hid (∀ V, Below VZ.heap.size VZ V → (V.cell? ⟨K, 0, none⟩ = some (.int .i64 20) ∧ V.cell? ⟨K, 1, none⟩ = some (.int .i64 2) ∧ V.cell? ⟨K, 2, none⟩ = some (.int .i64 4) ∧ V.cell? ⟨K, 3, none⟩ = some (.int .i64 12)) ∧ V.heap[K + 1]? = some (.cells #[.int .i64 0, .int .i64 0, .int .i64 0, .int .i64 0] 30)) := fun V hV => by
      have hz := hbz (K + 1) (Nat.le_refl _)
      have up : ∀ {o : Nat} {u : Value}, V3.cell? ⟨K, o, none⟩ = some u → V.cell? ⟨K, o, none⟩ = some u := fun {o u} h => by
        have h5 := (hz.cell (p := ⟨K, o, none⟩) (by show K < K + 1; omega)).trans h
        exact (hV.cell (cell_lt h5)).trans h5
      refine ⟨⟨up j0, up j1, up j2, up j3⟩, ?_⟩
      have hlt : K + 1 < VZ.heap.size := Nat.lt_of_lt_of_le HKQ.out hz.size
      exact (hV.block (K + 1) hlt).trans hbxz
    have HK3 : Hid (K + 1 < VZ.heap.size) := Nat.lt_of_lt_of_le HKQ.out (hbz (K + 1) (Nat.le_refl _)).size
    clear hbQ hbk j0 j1 j2 j3 hbx3 hbxz hbz
    go_wp2_with fail
    refine (Between_at 2 1 2 true VZ (by unfold Hid; decide)).mono ?_
    rintro e w' ⟨rfl, hw⟩; subst w'
    clear hV2 hV3 hK hK2 q0 q1 q2 q3 q4 q5 q6 q7 hVZ
    go_wp2_with fail
    refine (KindOf_2 VZ).mono ?_
    rintro e V4 ⟨rfl, hb4⟩
    obtain ⟨-, hbx4⟩ := HBK.out V4 hb4
    have HX4 : Hid (V4.heap[K + 1]? = some (.cells #[.int .i64 0, .int .i64 0, .int .i64 0, .int .i64 0] 30)) := hbx4
    obtain ⟨q0, q1, q2, q3, q4, q5, q6, q7⟩ := four_at hbx4
    obtain ⟨V5, hV5⟩ : ∃ V, (((V4.setCell ⟨K + 1, 0, none⟩ (.int .i64 20)).setCell ⟨K + 1, 1, none⟩ (.int .i64 2)).setCell ⟨K + 1, 2, none⟩ (.int .i64 4)).setCell ⟨K + 1, 3, none⟩ (.int .i64 12) = V := ⟨_, rfl⟩
    have k5 := set4 HX4.out V5 hV5.symm
    have HB5 : Hid (Below w0.heap.size w0 V5) := by
      have h1 := below_upF HB3.out hb4
      have h2 := hb4.size
      have h3 := HB3.out.size
      have h4 := HK3.out
      exact h1.trans (k5.2.2.2.2 w0.heap.size (by have := HKS.out; omega))
    have HBZ : Hid (∀ V, Below V5.heap.size V5 V → (V.cell? ⟨K, 0, none⟩ = some (.int .i64 20) ∧ V.cell? ⟨K, 1, none⟩ = some (.int .i64 2) ∧ V.cell? ⟨K, 2, none⟩ = some (.int .i64 4) ∧ V.cell? ⟨K, 3, none⟩ = some (.int .i64 12)) ∧ V.cell? ⟨K + 1, 0, none⟩ = some (.int .i64 20) ∧ V.cell? ⟨K + 1, 1, none⟩ = some (.int .i64 2) ∧ V.cell? ⟨K + 1, 2, none⟩ = some (.int .i64 4) ∧ V.cell? ⟨K + 1, 3, none⟩ = some (.int .i64 12)) := fun V hV => by
      obtain ⟨⟨j0, j1, j2, j3⟩, -⟩ := HBK.out V4 hb4
      have hb5 := k5.2.2.2.2 (K + 1) (Nat.le_refl _)
      have up : ∀ {o : Nat} {u : Value}, V4.cell? ⟨K, o, none⟩ = some u → V.cell? ⟨K, o, none⟩ = some u := fun {o u} h => by
        have h5 := (hb5.cell (p := ⟨K, o, none⟩) (by show K < K + 1; omega)).trans h
        exact (hV.cell (cell_lt h5)).trans h5
      exact ⟨⟨up j0, up j1, up j2, up j3⟩, (hV.cell (cell_lt k5.1)).trans k5.1, (hV.cell (cell_lt k5.2.1)).trans k5.2.1, (hV.cell (cell_lt k5.2.2.1)).trans k5.2.2.1, (hV.cell (cell_lt k5.2.2.2.1)).trans k5.2.2.2.1⟩
    obtain ⟨z0, z1, z2, z3, z4, z5, z6, z7, z8⟩ := HBX.out V5 HB5.out
    clear hb4 hbx4 k5
    go_wp2_with fail
    clear q0 q1 q2 q3 q4 q5 q6 q7 hV5
    refine (HMA.out V5 (HUP.out V5 HB5.out)).mono ?_
    rintro e V6 ⟨⟨m, rfl, hm⟩, hb6⟩
    have HB56 : Hid (Below V5.heap.size V5 V6) := hb6
    have HB6 : Hid (Below w0.heap.size w0 V6) := below_upF HB5.out hb6
    have HM : Hid (mkr s0 E m) := hm.out
    clear z0 z1 z2 z3 z4 z5 z6 z7 z8 hb6 hm
    obtain ⟨z0, z1, z2, z3, z4, z5, z6, z7, z8⟩ := HBX.out V6 HB6.out
    go_wp2_with fail
    refine (HWR.out V6 (HUP.out V6 HB6.out)).mono ?_
    rintro e V7 ⟨rfl, hb7⟩
    have HB57 : Hid (Below V5.heap.size V5 V7) := below_upF HB56.out hb7
    have HB7 : Hid (Below w0.heap.size w0 V7) := below_upF HB6.out hb7
    clear z0 z1 z2 z3 z4 z5 z6 z7 z8 hb7
    obtain ⟨z0, z1, z2, z3, z4, z5, z6, z7, z8⟩ := HBX.out V7 HB7.out
    by_cases hE0 : E = 0
    · subst hE0
      go_wp2_with fail
      refine (HWM.out V7 (by first | rfl | trivial) (HUP.out V7 HB7.out)).mono ?_
      rintro e V8 ⟨⟨m', rfl, hm'⟩, hb8⟩
      have HB58 : Hid (Below V5.heap.size V5 V8) := below_upF HB57.out hb8
      have HB8 : Hid (Below w0.heap.size w0 V8) := below_upF HB7.out hb8
      have em := mkr_one HM.out hm'.out
      subst em
      clear z0 z1 z2 z3 z4 z5 z6 z7 z8 hb8 hm'
      obtain ⟨z0, z1, z2, z3, z4, z5, z6, z7, z8⟩ := HBX.out V8 HB8.out
      obtain ⟨⟨j0, j1, j2, j3⟩, j4, j5, j6, j7⟩ := HBZ.out V8 HB58.out
      have HC2 : Hid (∀ V, Below V8.heap.size V8 V → Calls Try.prog 14 #[.agg #[.int .i64 A, .int .i64 B, .slice p n c, .slice pb nb cb, .slice ps ns cs, .slice pm nm cm, .slice pt nt ct, .int .i64 N, .int .i64 T]] V fun e w' => e = .returned (.int .i64 0) ∧ Below V.heap.size V w') := fun V hV => HCH.out V (HUP.out V (below_upF HB8.out hV))
      have HR2 : Hid (∀ V, Below V8.heap.size V8 V → Calls Try.prog 12 #[.agg #[.int .i64 A, .int .i64 B, .slice p n c, .slice pb nb cb, .slice ps ns cs, .slice pm nm cm, .slice pt nt ct, .int .i64 N, .int .i64 T]] V fun e w' => e = .returned (.int .i64 0) ∧ Below V.heap.size V w') := fun V hV => HWR.out V (HUP.out V (below_upF HB8.out hV))
      clear HBX HBZ HBK HCH HWR HMA HWM HM
      go_wp2_with fail
      go_region_held3 (fun V => Below V8.heap.size V8 V ∧ V.cell? ⟨K, 0, none⟩ = some (.int .i64 20) ∧ V.cell? ⟨K, 1, none⟩ = some (.int .i64 2) ∧ V.cell? ⟨K, 2, none⟩ = some (.int .i64 4) ∧ V.cell? ⟨K, 3, none⟩ = some (.int .i64 12) ∧ V.cell? ⟨K + 1, 0, none⟩ = some (.int .i64 20) ∧ V.cell? ⟨K + 1, 1, none⟩ = some (.int .i64 2) ∧ V.cell? ⟨K + 1, 2, none⟩ = some (.int .i64 4) ∧ V.cell? ⟨K + 1, 3, none⟩ = some (.int .i64 12) ∧ V.cell? ⟨F, 0, none⟩ = some (.int .i64 A) ∧ V.cell? ⟨F, 1, none⟩ = some (.int .i64 B) ∧ V.cell? ⟨F, 2, none⟩ = some (.slice p n c) ∧ V.cell? ⟨F, 3, none⟩ = some (.slice pb nb cb) ∧ V.cell? ⟨F, 4, none⟩ = some (.slice ps ns cs) ∧ V.cell? ⟨F, 5, none⟩ = some (.slice pm nm cm) ∧ V.cell? ⟨F, 6, none⟩ = some (.slice pt nt ct) ∧ V.cell? ⟨F, 7, none⟩ = some (.int .i64 N) ∧ V.cell? ⟨F, 8, none⟩ = some (.int .i64 T)) (first | with_reducible assumption | with_reducible exact k17_drew (by assumption) | with_reducible exact k17_call (by assumption) (by assumption) | exact ⟨Below.drew (Below.refl _ _), j0, j1, j2, j3, j4, j5, j6, j7, z0, z1, z2, z3, z4, z5, z6, z7, z8⟩) (first
        | (go_at_call 14; with_reducible refine (HC2.out _ (And.left (by assumption))).mono ?_; rintro e V9 ⟨rfl, hb9⟩)
        | (go_at_call 12; with_reducible refine (HR2.out _ (And.left (by assumption))).mono ?_; rintro e V10 ⟨rfl, hb10⟩))
      have HBZZ : Hid (Below w0.heap.size w0 V10) := below_upF HB8.out (And.left (by assumption))
      go_wp2_with fail
      go_ret
      exact ⟨by simp, HUP.out V10 HBZZ.out⟩
    · have d1 : (E == 0) = false := by simp [hE0]
      have em : m = 0 := HM.out.1 hE0
      subst em
      go_wp2_with fail
      obtain ⟨V8, hV8⟩ : ∃ V : World, V = V7 := ⟨_, rfl⟩
      subst hV8
      have HB58 : Hid (Below V5.heap.size V5 V8) := HB57.out
      have HB8 : Hid (Below w0.heap.size w0 V8) := HB7.out
      clear z0 z1 z2 z3 z4 z5 z6 z7 z8
      obtain ⟨z0, z1, z2, z3, z4, z5, z6, z7, z8⟩ := HBX.out V8 HB8.out
      obtain ⟨⟨j0, j1, j2, j3⟩, j4, j5, j6, j7⟩ := HBZ.out V8 HB58.out
      have HC2 : Hid (∀ V, Below V8.heap.size V8 V → Calls Try.prog 14 #[.agg #[.int .i64 A, .int .i64 B, .slice p n c, .slice pb nb cb, .slice ps ns cs, .slice pm nm cm, .slice pt nt ct, .int .i64 N, .int .i64 T]] V fun e w' => e = .returned (.int .i64 E) ∧ Below V.heap.size V w') := fun V hV => HCH.out V (HUP.out V (below_upF HB8.out hV))
      have HR2 : Hid (∀ V, Below V8.heap.size V8 V → Calls Try.prog 12 #[.agg #[.int .i64 A, .int .i64 B, .slice p n c, .slice pb nb cb, .slice ps ns cs, .slice pm nm cm, .slice pt nt ct, .int .i64 N, .int .i64 T]] V fun e w' => e = .returned (.int .i64 E) ∧ Below V.heap.size V w') := fun V hV => HWR.out V (HUP.out V (below_upF HB8.out hV))
      clear HBX HBZ HBK HCH HWR HMA HWM HM
      go_wp2_with fail
      go_region_held3 (fun V => Below V8.heap.size V8 V ∧ V.cell? ⟨K, 0, none⟩ = some (.int .i64 20) ∧ V.cell? ⟨K, 1, none⟩ = some (.int .i64 2) ∧ V.cell? ⟨K, 2, none⟩ = some (.int .i64 4) ∧ V.cell? ⟨K, 3, none⟩ = some (.int .i64 12) ∧ V.cell? ⟨K + 1, 0, none⟩ = some (.int .i64 20) ∧ V.cell? ⟨K + 1, 1, none⟩ = some (.int .i64 2) ∧ V.cell? ⟨K + 1, 2, none⟩ = some (.int .i64 4) ∧ V.cell? ⟨K + 1, 3, none⟩ = some (.int .i64 12) ∧ V.cell? ⟨F, 0, none⟩ = some (.int .i64 A) ∧ V.cell? ⟨F, 1, none⟩ = some (.int .i64 B) ∧ V.cell? ⟨F, 2, none⟩ = some (.slice p n c) ∧ V.cell? ⟨F, 3, none⟩ = some (.slice pb nb cb) ∧ V.cell? ⟨F, 4, none⟩ = some (.slice ps ns cs) ∧ V.cell? ⟨F, 5, none⟩ = some (.slice pm nm cm) ∧ V.cell? ⟨F, 6, none⟩ = some (.slice pt nt ct) ∧ V.cell? ⟨F, 7, none⟩ = some (.int .i64 N) ∧ V.cell? ⟨F, 8, none⟩ = some (.int .i64 T)) (first | with_reducible assumption | with_reducible exact k17_drew (by assumption) | with_reducible exact k17_call (by assumption) (by assumption) | exact ⟨Below.drew (Below.refl _ _), j0, j1, j2, j3, j4, j5, j6, j7, z0, z1, z2, z3, z4, z5, z6, z7, z8⟩) (first
        | (go_at_call 14; with_reducible refine (HC2.out _ (And.left (by assumption))).mono ?_; rintro e V9 ⟨rfl, hb9⟩)
        | (go_at_call 12; with_reducible refine (HR2.out _ (And.left (by assumption))).mono ?_; rintro e V10 ⟨rfl, hb10⟩))
      have HBZZ : Hid (Below w0.heap.size w0 V10) := below_upF HB8.out (And.left (by assumption))
      go_wp2_with fail
      go_ret
      exact ⟨by simp, HUP.out V10 HBZZ.out⟩
  have HKI : Hid (∀ V, Calls Try.prog 8 #[.int .i64 a1] V fun e w' => e = .returned (.tuple #[.agg #[.int .i64 0, .int .i64 0, .int .i64 0, .int .i64 0], .int .i64 1]) ∧ Below V.heap.size V w') := fun V => kind_at a1 0 0 0 0 1 ⟨by unfold kdv; simp [k1, k2], by unfold kde; simp [k1, k2]⟩ V
  go_enter Try.func3, Try.ntmps3
  go_wp2_with fail
  refine (HKI.out w0).mono ?_
  rintro e V1 ⟨rfl, hb1⟩
  have HB1 : Hid (Below w0.heap.size w0 V1) := hb1
  clear hb1 z0 z1 z2 z3 z4 z5 z6 z7 z8 hw0 hF
  obtain ⟨K, hK⟩ : ∃ K, V1.heap.size = K := ⟨_, rfl⟩
  have HKS : Hid (w0.heap.size ≤ K) := by rw [← hK]; exact HB1.out.size
  obtain ⟨V2, hV2⟩ : ∃ V, V1.alloc (.cells #[.int .i64 0, .int .i64 0, .int .i64 0, .int .i64 0] 30) = V := ⟨_, rfl⟩
  have hb2 : Below V1.heap.size V1 V2 := by rw [← hV2]; exact alloc_below _ _
  have hn2 : V2.heap[K]? = some (.cells #[.int .i64 0, .int .i64 0, .int .i64 0, .int .i64 0] 30) := by
    have := World.alloc_heap_new V1 (.cells #[.int .i64 0, .int .i64 0, .int .i64 0, .int .i64 0] 30)
    rw [hV2, hK] at this; exact this
  obtain ⟨p0, p1, p2, p3, p4, p5, p6, p7⟩ := four_at hn2
  obtain ⟨VY, hVY⟩ : ∃ V, (((V2.setCell ⟨K, 0, none⟩ (.int .i64 0)).setCell ⟨K, 1, none⟩ (.int .i64 0)).setCell ⟨K, 2, none⟩ (.int .i64 0)).setCell ⟨K, 3, none⟩ (.int .i64 0) = V := ⟨_, rfl⟩
  obtain ⟨hny, hby⟩ := set4h hn2 VY hVY
  have hKY : VY.heap.size = K + 1 := by rw [← hVY]; simp [World.setCell]; rw [← hV2, World.size_alloc, hK]
  obtain ⟨V3, hV3⟩ : ∃ V, VY.alloc (.cells #[.int .i64 0, .int .i64 0, .int .i64 0, .int .i64 0] 30) = V := ⟨_, rfl⟩
  have hb3 : Below VY.heap.size VY V3 := by rw [← hV3]; exact alloc_below _ _
  have hn3 : V3.heap[K + 1]? = some (.cells #[.int .i64 0, .int .i64 0, .int .i64 0, .int .i64 0] 30) := by
    have := World.alloc_heap_new VY (.cells #[.int .i64 0, .int .i64 0, .int .i64 0, .int .i64 0] 30)
    rw [hV3, hKY] at this; exact this
  obtain ⟨q0, q1, q2, q3, q4, q5, q6, q7⟩ := four_at hn3
  obtain ⟨VZ, hVZ⟩ : ∃ V, (((V3.setCell ⟨K + 1, 0, none⟩ (.int .i64 0)).setCell ⟨K + 1, 1, none⟩ (.int .i64 0)).setCell ⟨K + 1, 2, none⟩ (.int .i64 0)).setCell ⟨K + 1, 3, none⟩ (.int .i64 0) = V := ⟨_, rfl⟩
  obtain ⟨hnz, hbz⟩ := set4h hn3 VZ hVZ
  have hs3 : V3.heap.size = K + 1 + 1 := by rw [← hV3, World.size_alloc, hKY]
  have HB3 : Hid (Below w0.heap.size w0 VZ) := by
    have h1 := below_upF HB1.out hb2
    have h2 := h1.trans (hby w0.heap.size HKS.out)
    have h3 := h2.trans (hb3.mono h2.size)
    exact h3.trans (hbz w0.heap.size (by have := HKS.out; omega))
  have HBK : Hid (∀ V, Below VZ.heap.size VZ V → (V.cell? ⟨K, 0, none⟩ = some (.int .i64 0) ∧ V.cell? ⟨K, 1, none⟩ = some (.int .i64 0) ∧ V.cell? ⟨K, 2, none⟩ = some (.int .i64 0) ∧ V.cell? ⟨K, 3, none⟩ = some (.int .i64 0)) ∧ V.heap[K + 1]? = some (.cells #[.int .i64 0, .int .i64 0, .int .i64 0, .int .i64 0] 30)) := fun V hV => by
    have hz := hbz (K + 1) (Nat.le_refl _)
    have hzs := hz.size
    have e1 : V.heap[K]? = some (.cells #[.int .i64 0, .int .i64 0, .int .i64 0, .int .i64 0] 30) := by
      rw [hV.block K (by omega), hz.block K (by omega), hb3.block K (by omega)]; exact hny
    have e2 : V.heap[K + 1]? = some (.cells #[.int .i64 0, .int .i64 0, .int .i64 0, .int .i64 0] 30) := by
      rw [hV.block (K + 1) (by omega)]; exact hnz
    obtain ⟨j0, j1, j2, j3, -, -, -, -⟩ := four_at e1
    exact ⟨⟨j0, j1, j2, j3⟩, e2⟩
  clear hb2 hn2 hny hby hb3 hn3 hnz hbz hs3
  go_wp2_with fail
  refine (Between_at a1 1 2 false VZ (by unfold Hid; simp; omega)).mono ?_
  rintro e w' ⟨rfl, hw⟩; subst w'
  clear hV2 hV3 hK q0 q1 q2 q3 q4 q5 q6 q7 hVZ p0 p1 p2 p3 p4 p5 p6 p7 hVY hKY
  obtain ⟨V5, hV5⟩ : ∃ V : World, V = VZ := ⟨_, rfl⟩
  subst hV5
  have HB5 : Hid (Below w0.heap.size w0 V5) := HB3.out
  have HBZ : Hid (∀ V, Below V5.heap.size V5 V → (V.cell? ⟨K, 0, none⟩ = some (.int .i64 0) ∧ V.cell? ⟨K, 1, none⟩ = some (.int .i64 0) ∧ V.cell? ⟨K, 2, none⟩ = some (.int .i64 0) ∧ V.cell? ⟨K, 3, none⟩ = some (.int .i64 0)) ∧ V.cell? ⟨K + 1, 0, none⟩ = some (.int .i64 0) ∧ V.cell? ⟨K + 1, 1, none⟩ = some (.int .i64 0) ∧ V.cell? ⟨K + 1, 2, none⟩ = some (.int .i64 0) ∧ V.cell? ⟨K + 1, 3, none⟩ = some (.int .i64 0)) := fun V hV => by
    obtain ⟨j, hbx⟩ := HBK.out V hV
    obtain ⟨q0, q1, q2, q3, -, -, -, -⟩ := four_at hbx
    exact ⟨j, q0, q1, q2, q3⟩
  obtain ⟨z0, z1, z2, z3, z4, z5, z6, z7, z8⟩ := HBX.out V5 HB5.out
  go_wp2_with fail
  refine (HMA.out V5 (HUP.out V5 HB5.out)).mono ?_
  rintro e V6 ⟨⟨m, rfl, hm⟩, hb6⟩
  have HB56 : Hid (Below V5.heap.size V5 V6) := hb6
  have HB6 : Hid (Below w0.heap.size w0 V6) := below_upF HB5.out hb6
  have HM : Hid (mkr s0 E m) := hm.out
  clear z0 z1 z2 z3 z4 z5 z6 z7 z8 hb6 hm
  obtain ⟨z0, z1, z2, z3, z4, z5, z6, z7, z8⟩ := HBX.out V6 HB6.out
  go_wp2_with fail
  refine (HWR.out V6 (HUP.out V6 HB6.out)).mono ?_
  rintro e V7 ⟨rfl, hb7⟩
  have HB57 : Hid (Below V5.heap.size V5 V7) := below_upF HB56.out hb7
  have HB7 : Hid (Below w0.heap.size w0 V7) := below_upF HB6.out hb7
  clear z0 z1 z2 z3 z4 z5 z6 z7 z8 hb7
  obtain ⟨z0, z1, z2, z3, z4, z5, z6, z7, z8⟩ := HBX.out V7 HB7.out
  by_cases hE0 : E = 0
  · subst hE0
    go_wp2_with fail
    refine (HWM.out V7 (by first | rfl | trivial) (HUP.out V7 HB7.out)).mono ?_
    rintro e V8 ⟨⟨m', rfl, hm'⟩, hb8⟩
    have HB58 : Hid (Below V5.heap.size V5 V8) := below_upF HB57.out hb8
    have HB8 : Hid (Below w0.heap.size w0 V8) := below_upF HB7.out hb8
    have em := mkr_one HM.out hm'.out
    subst em
    clear z0 z1 z2 z3 z4 z5 z6 z7 z8 hb8 hm'
    obtain ⟨z0, z1, z2, z3, z4, z5, z6, z7, z8⟩ := HBX.out V8 HB8.out
    obtain ⟨⟨j0, j1, j2, j3⟩, j4, j5, j6, j7⟩ := HBZ.out V8 HB58.out
    have HC2 : Hid (∀ V, Below V8.heap.size V8 V → Calls Try.prog 14 #[.agg #[.int .i64 A, .int .i64 B, .slice p n c, .slice pb nb cb, .slice ps ns cs, .slice pm nm cm, .slice pt nt ct, .int .i64 N, .int .i64 T]] V fun e w' => e = .returned (.int .i64 0) ∧ Below V.heap.size V w') := fun V hV => HCH.out V (HUP.out V (below_upF HB8.out hV))
    have HR2 : Hid (∀ V, Below V8.heap.size V8 V → Calls Try.prog 12 #[.agg #[.int .i64 A, .int .i64 B, .slice p n c, .slice pb nb cb, .slice ps ns cs, .slice pm nm cm, .slice pt nt ct, .int .i64 N, .int .i64 T]] V fun e w' => e = .returned (.int .i64 0) ∧ Below V.heap.size V w') := fun V hV => HWR.out V (HUP.out V (below_upF HB8.out hV))
    clear HBX HBZ HBK HCH HWR HMA HWM HM
    go_wp2_with fail
    go_region_held3 (fun V => Below V8.heap.size V8 V ∧ V.cell? ⟨K, 0, none⟩ = some (.int .i64 0) ∧ V.cell? ⟨K, 1, none⟩ = some (.int .i64 0) ∧ V.cell? ⟨K, 2, none⟩ = some (.int .i64 0) ∧ V.cell? ⟨K, 3, none⟩ = some (.int .i64 0) ∧ V.cell? ⟨K + 1, 0, none⟩ = some (.int .i64 0) ∧ V.cell? ⟨K + 1, 1, none⟩ = some (.int .i64 0) ∧ V.cell? ⟨K + 1, 2, none⟩ = some (.int .i64 0) ∧ V.cell? ⟨K + 1, 3, none⟩ = some (.int .i64 0) ∧ V.cell? ⟨F, 0, none⟩ = some (.int .i64 A) ∧ V.cell? ⟨F, 1, none⟩ = some (.int .i64 B) ∧ V.cell? ⟨F, 2, none⟩ = some (.slice p n c) ∧ V.cell? ⟨F, 3, none⟩ = some (.slice pb nb cb) ∧ V.cell? ⟨F, 4, none⟩ = some (.slice ps ns cs) ∧ V.cell? ⟨F, 5, none⟩ = some (.slice pm nm cm) ∧ V.cell? ⟨F, 6, none⟩ = some (.slice pt nt ct) ∧ V.cell? ⟨F, 7, none⟩ = some (.int .i64 N) ∧ V.cell? ⟨F, 8, none⟩ = some (.int .i64 T)) (first | with_reducible assumption | with_reducible exact k17_drew (by assumption) | with_reducible exact k17_call (by assumption) (by assumption) | exact ⟨Below.drew (Below.refl _ _), j0, j1, j2, j3, j4, j5, j6, j7, z0, z1, z2, z3, z4, z5, z6, z7, z8⟩) (first
      | (go_at_call 14; with_reducible refine (HC2.out _ (And.left (by assumption))).mono ?_; rintro e V9 ⟨rfl, hb9⟩)
      | (go_at_call 12; with_reducible refine (HR2.out _ (And.left (by assumption))).mono ?_; rintro e V10 ⟨rfl, hb10⟩))
    have HBZZ : Hid (Below w0.heap.size w0 V10) := below_upF HB8.out (And.left (by assumption))
    go_wp2_with fail
    go_ret
    exact ⟨by simp, HUP.out V10 HBZZ.out⟩
  · have d1 : (E == 0) = false := by simp [hE0]
    have em : m = 0 := HM.out.1 hE0
    subst em
    go_wp2_with fail
    obtain ⟨V8, hV8⟩ : ∃ V : World, V = V7 := ⟨_, rfl⟩
    subst hV8
    have HB58 : Hid (Below V5.heap.size V5 V8) := HB57.out
    have HB8 : Hid (Below w0.heap.size w0 V8) := HB7.out
    clear z0 z1 z2 z3 z4 z5 z6 z7 z8
    obtain ⟨z0, z1, z2, z3, z4, z5, z6, z7, z8⟩ := HBX.out V8 HB8.out
    obtain ⟨⟨j0, j1, j2, j3⟩, j4, j5, j6, j7⟩ := HBZ.out V8 HB58.out
    have HC2 : Hid (∀ V, Below V8.heap.size V8 V → Calls Try.prog 14 #[.agg #[.int .i64 A, .int .i64 B, .slice p n c, .slice pb nb cb, .slice ps ns cs, .slice pm nm cm, .slice pt nt ct, .int .i64 N, .int .i64 T]] V fun e w' => e = .returned (.int .i64 E) ∧ Below V.heap.size V w') := fun V hV => HCH.out V (HUP.out V (below_upF HB8.out hV))
    have HR2 : Hid (∀ V, Below V8.heap.size V8 V → Calls Try.prog 12 #[.agg #[.int .i64 A, .int .i64 B, .slice p n c, .slice pb nb cb, .slice ps ns cs, .slice pm nm cm, .slice pt nt ct, .int .i64 N, .int .i64 T]] V fun e w' => e = .returned (.int .i64 E) ∧ Below V.heap.size V w') := fun V hV => HWR.out V (HUP.out V (below_upF HB8.out hV))
    clear HBX HBZ HBK HCH HWR HMA HWM HM
    go_wp2_with fail
    go_region_held3 (fun V => Below V8.heap.size V8 V ∧ V.cell? ⟨K, 0, none⟩ = some (.int .i64 0) ∧ V.cell? ⟨K, 1, none⟩ = some (.int .i64 0) ∧ V.cell? ⟨K, 2, none⟩ = some (.int .i64 0) ∧ V.cell? ⟨K, 3, none⟩ = some (.int .i64 0) ∧ V.cell? ⟨K + 1, 0, none⟩ = some (.int .i64 0) ∧ V.cell? ⟨K + 1, 1, none⟩ = some (.int .i64 0) ∧ V.cell? ⟨K + 1, 2, none⟩ = some (.int .i64 0) ∧ V.cell? ⟨K + 1, 3, none⟩ = some (.int .i64 0) ∧ V.cell? ⟨F, 0, none⟩ = some (.int .i64 A) ∧ V.cell? ⟨F, 1, none⟩ = some (.int .i64 B) ∧ V.cell? ⟨F, 2, none⟩ = some (.slice p n c) ∧ V.cell? ⟨F, 3, none⟩ = some (.slice pb nb cb) ∧ V.cell? ⟨F, 4, none⟩ = some (.slice ps ns cs) ∧ V.cell? ⟨F, 5, none⟩ = some (.slice pm nm cm) ∧ V.cell? ⟨F, 6, none⟩ = some (.slice pt nt ct) ∧ V.cell? ⟨F, 7, none⟩ = some (.int .i64 N) ∧ V.cell? ⟨F, 8, none⟩ = some (.int .i64 T)) (first | with_reducible assumption | with_reducible exact k17_drew (by assumption) | with_reducible exact k17_call (by assumption) (by assumption) | exact ⟨Below.drew (Below.refl _ _), j0, j1, j2, j3, j4, j5, j6, j7, z0, z1, z2, z3, z4, z5, z6, z7, z8⟩) (first
      | (go_at_call 14; with_reducible refine (HC2.out _ (And.left (by assumption))).mono ?_; rintro e V9 ⟨rfl, hb9⟩)
      | (go_at_call 12; with_reducible refine (HR2.out _ (And.left (by assumption))).mono ?_; rintro e V10 ⟨rfl, hb10⟩))
    have HBZZ : Hid (Below w0.heap.size w0 V10) := below_upF HB8.out (And.left (by assumption))
    go_wp2_with fail
    go_ret
    exact ⟨by simp, HUP.out V10 HBZZ.out⟩

set_option maxRecDepth 100000 in
theorem lifted (os : Os) (started : os.Started) (H : Type) (enc : TypeId × Value → H) :
    ReturnsInHanded {} Try.checked os 3 .any (Rows.troopChecksSpec.pre6 enc Try.prog Try.f3 Rows.troopChecksRow.domain false) (Rows.troopChecksSpec.post enc Try.prog Try.f3 false true false false) := by
  refine returnsInHanded_of_change (C := Try.checked) own started (by kernel_rfl) Try.func3
    (ChangeSpec.witness6 (enc := enc) (C := Try.checked) false ⟨#[], #[.agg #[.int .i64 0, .int .i64 0, .slice none 0 0, .slice none 0 0, .slice none 0 0, .slice none 0 0, .slice none 0 0, .int .i64 0, .int .i64 0], .int .i64 0], []⟩ 8 (by kernel_rfl) (by kernel_rfl) (by kernel_rfl) (by kernel_rfl)) ?_
  intro W base args ds gs before hval0 hW hcnd _
  have hval : ∀ (j : Nat) t v, Try.f3.params[j]? = some t → args[j]? = some v → Value.okWide Try.prog W .any base t v := hval0
  have hW' := hW
  obtain ⟨p, q, hA0, hV, rfl, hfz, hnd⟩ := hW
  have hA : DataW.TrodAll enc Try.prog W 0 (fun _ => true) true Try.f3.params.toList args.toList ds p := hA0
  rw [Try.params3] at hA hval
  obtain ⟨v0, vs0, d0, ds0, p0, q0, hargs, rfl, rfl, h0, r0⟩ := trodAll_cons hA
  obtain ⟨v1, vs1, d1, ds1, p1, q1, rfl, rfl, rfl, h1, r1⟩ := trodAll_cons r0
  obtain ⟨rfl, rfl, rfl⟩ := trodAll_nil r1
  obtain rfl : args = #[v0, v1] := by cases args; simp_all
  obtain ⟨rfl, rfl⟩ := trodVars_none hV
  obtain ⟨s0, rfl, k0⟩ := open_wld (hval 0 28 v0 rfl rfl) h0
  obtain ⟨a1, rfl, rfl, rfl, w1⟩ := open_int Try.underlying3 (hval 1 3 v1 rfl rfl) h1

  clear hA0 hval0
  refine (walk s0 a1 w1 W k0).mono fun e W' ⟨he, hg⟩ => ?_
  subst he
  exact ⟨_, rfl, law_post (by kernel_rfl) (by kernel_rfl) rfl (by kernel_rfl) Try.underlying4 hW' rfl hg⟩

theorem over : Rows.troopChecksRow.holds Try.pinned (OpenSpec.ofChange Rows.troopChecksSpec) :=
  OpenClaim.holds_of_wide 3 Try.f3 rfl rfl rfl rfl rfl rfl rfl ⟨rfl, rfl, rfl, rfl, rfl⟩ rfl rfl rfl rfl rfl (by kernel_rfl) Try.func3 (by kernel_rfl)
    (of_decide_eq_true (by kernel_rfl)) (by unfold Func.isWrapper; first | (rw [if_pos (by decide +kernel)]; kernel_rfl) | (rw [if_neg (by decide +kernel)]; exact ⟨rfl, rfl⟩))
    (fun os started H enc _ => lifted os started H enc)

theorem proved : Rows.TroopChecksSaid :=
  over
end Go.Proofs.Ytibpobmeonfljaa.troopChecks

namespace Go.Proofs.Ytibpobmeonfljaa
/-- Whatever is handed in, Kind, Check and Mark answer what the document says; for every world and every number, with no condition. -/
theorem troopChecks_holds : Rows.TroopChecksSaid := troopChecks.proved
#print axioms troopChecks_holds
end Go.Proofs.Ytibpobmeonfljaa
