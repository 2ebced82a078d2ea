/- What GoodsOwn's closure returns where all that it compares is alike. -/
import Derived.Test.YtdcjjfipnilmpaaMb
import Derived.Test.YtdcjjfipnilmpaaML
namespace Go.Proofs.Ytdcjjfipnilmpaa
open Go.RowKit
set_option linter.unusedVariables false

set_option maxRecDepth 40000 in
set_option maxHeartbeats 4000000 in
theorem Own1_any (s : Wld) (F G1 G2 G3 G4 G5 : Nat) (q1 q2 q3 q4 q5 : Option Addr) (d1 d2 d3 d4 d5 : Nat) (w : World) (h : s.fit w)
    (h0 : bx9 w F (.int .i64 s.A) (.int .i64 s.B) (.slice s.p s.n s.c) (.slice s.pb s.nb s.cb) (.slice s.ps s.ns s.cs) (.slice s.pm s.nm s.cm) (.slice s.pt s.nt s.ct) (.int .i64 s.N) (.int .i64 s.T))
    (g1 : w.cell? ⟨G1, 0, none⟩ = some (.slice q1 s.nt d1)) (r1 : trow w q1 s.lt) (g2 : w.cell? ⟨G2, 0, none⟩ = some (.slice q2 s.n d2)) (r2 : row vi w q2 s.l) (g3 : w.cell? ⟨G3, 0, none⟩ = some (.slice q3 s.nb d3)) (r3 : crow w q3 s.lb)
    (g4 : w.cell? ⟨G4, 0, none⟩ = some (.slice q4 s.ns d4)) (r4 : row vi w q4 s.ls) (g5 : w.cell? ⟨G5, 0, none⟩ = some (.slice q5 s.nm d5)) (r5 : row vi w q5 s.lm) :
    Calls Try.prog 26 #[.pointer (some ⟨F, 0, none⟩), .pointer (some ⟨G1, 0, none⟩), .pointer (some ⟨G2, 0, none⟩), .pointer (some ⟨G3, 0, none⟩), .pointer (some ⟨G4, 0, none⟩), .pointer (some ⟨G5, 0, none⟩)] w fun e w' => e = .returned (.bool true) ∧ Below w.heap.size w w' := by
  have E1 : Hid (∀ V, Below w.heap.size w V → Calls Try.prog 27 #[.slice s.pt s.nt s.ct, .slice q1 s.nt d1] V fun e w' => e = .returned (.bool true) ∧ Below V.heap.size V w') := fun V hV => Equalt_b _ _ _ _ _ s.lt V h.ht h.mt (trow_below h.rt hV) (trow_below r1 hV)
  have E2 : Hid (∀ V, Below w.heap.size w V → Calls Try.prog 28 #[.slice s.p s.n s.c, .slice q2 s.n d2] V fun e w' => e = .returned (.bool true) ∧ Below V.heap.size V w') := fun V hV => Equal_b _ _ _ _ _ s.l V h.h h.m (row_below h.r hV) (row_below r2 hV)
  have E3 : Hid (∀ V, Below w.heap.size w V → Calls Try.prog 19 #[.slice s.pb s.nb s.cb, .slice q3 s.nb d3] V fun e w' => e = .returned (.bool true) ∧ Below V.heap.size V w') := fun V hV => Equalc_b _ _ _ _ _ s.lb V h.hb h.mb (crow_below h.rb hV) (crow_below r3 hV)
  have E4 : Hid (∀ V, Below w.heap.size w V → Calls Try.prog 28 #[.slice s.ps s.ns s.cs, .slice q4 s.ns d4] V fun e w' => e = .returned (.bool true) ∧ Below V.heap.size V w') := fun V hV => Equal_b _ _ _ _ _ s.ls V h.hs h.ms (row_below h.rs hV) (row_below r4 hV)
  have E5 : Hid (∀ V, Below w.heap.size w V → Calls Try.prog 28 #[.slice s.pm s.nm s.cm, .slice q5 s.nm d5] V fun e w' => e = .returned (.bool true) ∧ Below V.heap.size V w') := fun V hV => Equal_b _ _ _ _ _ s.lm V h.hm h.mm (row_below h.rm hV) (row_below r5 hV)
  have HX : Hid (∀ V, Below w.heap.size w V → bx9 V F (.int .i64 s.A) (.int .i64 s.B) (.slice s.p s.n s.c) (.slice s.pb s.nb s.cb) (.slice s.ps s.ns s.cs) (.slice s.pm s.nm s.cm) (.slice s.pt s.nt s.ct) (.int .i64 s.N) (.int .i64 s.T)) := fun V hV => bx9_below h0 hV
  have HG : Hid (∀ V, Below w.heap.size w V → V.cell? ⟨G1, 0, none⟩ = some (.slice q1 s.nt d1) ∧ V.cell? ⟨G2, 0, none⟩ = some (.slice q2 s.n d2) ∧ V.cell? ⟨G3, 0, none⟩ = some (.slice q3 s.nb d3) ∧ V.cell? ⟨G4, 0, none⟩ = some (.slice q4 s.ns d4) ∧ V.cell? ⟨G5, 0, none⟩ = some (.slice q5 s.nm d5)) := fun V hV =>
    ⟨cell_call hV g1, cell_call hV g2, cell_call hV g3, cell_call hV g4, cell_call hV g5⟩
  clear h h0 g1 r1 g2 r2 g3 r3 g4 r4 g5 r5
  obtain ⟨A, B, p, n, c, l, pb, nb, cb, lb, ps, ns, cs, ls, pm, nm, cm, lm, pt, nt, ct, lt, N, T⟩ := s
  dsimp only at *
  obtain ⟨z0, z1, z2, z3, z4, z5, z6, z7, z8⟩ := bx9_c9 (HX.out w (Below.refl _ _))
  obtain ⟨y1, y2, y3, y4, y5⟩ := HG.out w (Below.refl _ _)
  go_enter Try.func26, Try.ntmps26
  go_wp2_with fail
  refine (E1.out w (Below.refl _ _)).mono ?_
  rintro e w1 ⟨rfl, hb1⟩
  have HB1 : Hid (Below w.heap.size w w1) := hb1
  clear z0 z1 z2 z3 z4 z5 z6 z7 z8 y1 y2 y3 y4 y5 hb1
  obtain ⟨z0, z1, z2, z3, z4, z5, z6, z7, z8⟩ := bx9_c9 (HX.out w1 HB1.out)
  obtain ⟨y1, y2, y3, y4, y5⟩ := HG.out w1 HB1.out
  go_wp2_with fail
  refine (E2.out w1 HB1.out).mono ?_
  rintro e w2 ⟨rfl, hb2⟩
  have HB2 : Hid (Below w.heap.size w w2) := below_call HB1.out HB1.out.size hb2
  clear z0 z1 z2 z3 z4 z5 z6 z7 z8 y1 y2 y3 y4 y5 hb2
  obtain ⟨z0, z1, z2, z3, z4, z5, z6, z7, z8⟩ := bx9_c9 (HX.out w2 HB2.out)
  obtain ⟨y1, y2, y3, y4, y5⟩ := HG.out w2 HB2.out
  go_wp2_with fail
  refine (E3.out w2 HB2.out).mono ?_
  rintro e w3 ⟨rfl, hb3⟩
  have HB3 : Hid (Below w.heap.size w w3) := below_call HB2.out HB2.out.size hb3
  clear z0 z1 z2 z3 z4 z5 z6 z7 z8 y1 y2 y3 y4 y5 hb3
  obtain ⟨z0, z1, z2, z3, z4, z5, z6, z7, z8⟩ := bx9_c9 (HX.out w3 HB3.out)
  obtain ⟨y1, y2, y3, y4, y5⟩ := HG.out w3 HB3.out
  go_wp2_with fail
  refine (E4.out w3 HB3.out).mono ?_
  rintro e w4 ⟨rfl, hb4⟩
  have HB4 : Hid (Below w.heap.size w w4) := below_call HB3.out HB3.out.size hb4
  clear z0 z1 z2 z3 z4 z5 z6 z7 z8 y1 y2 y3 y4 y5 hb4
  obtain ⟨z0, z1, z2, z3, z4, z5, z6, z7, z8⟩ := bx9_c9 (HX.out w4 HB4.out)
  obtain ⟨y1, y2, y3, y4, y5⟩ := HG.out w4 HB4.out
  go_wp2_with fail
  refine (E5.out w4 HB4.out).mono ?_
  rintro e w5 ⟨rfl, hb5⟩
  have HB5 : Hid (Below w.heap.size w w5) := below_call HB4.out HB4.out.size hb5
  clear z0 z1 z2 z3 z4 z5 z6 z7 z8 y1 y2 y3 y4 y5 hb5
  obtain ⟨z0, z1, z2, z3, z4, z5, z6, z7, z8⟩ := bx9_c9 (HX.out w5 HB5.out)
  obtain ⟨y1, y2, y3, y4, y5⟩ := HG.out w5 HB5.out
  go_wp2_with fail
  go_ret
  exact ⟨rfl, HB5.out⟩
end Go.Proofs.Ytdcjjfipnilmpaa
