/- What the document's own TroopOf returns. -/
import Derived.Test.YtgebfpncapfaoaaEx
import Derived.Test.YtgebfpncapfaoaaWst
namespace Go.Proofs.Ytgebfpncapfaoaa
open Go.RowKit
set_option linter.unusedVariables false

/-- A troop's box. -/
def c7 (V : World) (F : Nat) (i o k x y f d : Int) : Prop :=
  V.cell? ⟨F, 0, none⟩ = some (.int .i64 i) ∧ V.cell? ⟨F, 1, none⟩ = some (.int .i64 o) ∧ V.cell? ⟨F, 2, none⟩ = some (.int .i64 k) ∧ V.cell? ⟨F, 3, none⟩ = some (.int .i64 x) ∧ V.cell? ⟨F, 4, none⟩ = some (.int .i64 y) ∧ V.cell? ⟨F, 5, none⟩ = some (.int .i64 f) ∧ V.cell? ⟨F, 6, none⟩ = some (.int .i64 d)
theorem ex_set {S : Nat → Prop} {a w : World} (h : Ex S a w) (p : Addr) (hp : S p.block) (u : Value) : Ex S a (w.setCell p u) := h.trans (Ex.set (S := fun g => g = p.block) w p rfl u) (fun i _ e => by rw [e]; exact hp)
theorem set7 {W' V : World} {R : Nat} {x0 x1 x2 x3 x4 x5 x6 a b c d e f g : Value} {t : TypeId} (hR : W'.heap[R]? = some (.cells #[x0, x1, x2, x3, x4, x5, x6] t))
    (hV : V = ((((((W'.setCell ⟨R, 0, none⟩ a).setCell ⟨R, 1, none⟩ b).setCell ⟨R, 2, none⟩ c).setCell ⟨R, 3, none⟩ d).setCell ⟨R, 4, none⟩ e).setCell ⟨R, 5, none⟩ f).setCell ⟨R, 6, none⟩ g) :
    (V.cell? ⟨R, 0, none⟩ = some a ∧ V.cell? ⟨R, 1, none⟩ = some b ∧ V.cell? ⟨R, 2, none⟩ = some c ∧ V.cell? ⟨R, 3, none⟩ = some d ∧ V.cell? ⟨R, 4, none⟩ = some e ∧ V.cell? ⟨R, 5, none⟩ = some f ∧ V.cell? ⟨R, 6, none⟩ = some g) ∧ Ex (fun g => g = R) W' V := by
  have h1 := heap_setCell_same W' R 0 _ t a hR
  have h2 := heap_setCell_same _ R 1 _ t b h1
  have h3 := heap_setCell_same _ R 2 _ t c h2
  have h4 := heap_setCell_same _ R 3 _ t d h3
  have h5 := heap_setCell_same _ R 4 _ t e h4
  have h6 := heap_setCell_same _ R 5 _ t f h5
  have h7 := heap_setCell_same _ R 6 _ t g h6
  have hRV : V.heap[R]? = some (.cells #[a, b, c, d, e, f, g] t) := by rw [hV, h7]; rfl
  refine ⟨by simp [World.cell?, hRV], ?_⟩
  subst hV
  exact ex_set (ex_set (ex_set (ex_set (ex_set (ex_set (ex_set (Ex.refl (fun g => g = R) _) ⟨R, 0, none⟩ rfl _) ⟨R, 1, none⟩ rfl _) ⟨R, 2, none⟩ rfl _) ⟨R, 3, none⟩ rfl _) ⟨R, 4, none⟩ rfl _) ⟨R, 5, none⟩ rfl _) ⟨R, 6, none⟩ rfl _
/-- The troop of a number. -/
def trf (ts : List Trp) (i : Int) : Option Trp := ts.find? fun t => t.i == i
theorem trf_some {ts : List Trp} {i : Int} {t : Trp} (h : trf ts i = some t) : t ∈ ts ∧ t.i = i := by
  unfold trf at h
  exact ⟨List.mem_of_find?_eq_some h, by simpa using List.find?_some h⟩
theorem trf_none {ts : List Trp} {i : Int} (h : trf ts i = none) : ∀ t ∈ ts, t.i ≠ i := by
  unfold trf at h
  rw [List.find?_eq_none] at h
  intro t ht
  simpa using h t ht
/-- The troop that TroopOf tells, or none. -/
def tzero : Trp := ⟨0, 0, 0, 0, 0, 0, 0⟩
def tof (ts : List Trp) (id : Int) : Trp := (trf ts id).getD tzero
set_option maxRecDepth 20000 in
set_option maxHeartbeats 4000000 in
theorem TroopOf_any (s : Wld) (id : Int) (w : World) (h : s.fit w) : Calls Try.prog 30 #[s.val, .int .i64 id] w fun e w' => e = .returned (.tuple #[tv (tof s.lt id), .bool (trf s.lt id).isSome]) ∧ Below w.heap.size w w' := by
  have HRT : Hid (trow w s.pt s.lt) := h.rt
  have HLT : Hid (s.lt.length = s.nt) := h.ht
  have hmt : s.nt ≤ 9223372036854775807 := h.mt
  clear h
  obtain ⟨A, B, p, n, c, l, pb, nb, cb, lb, ps, ns, cs, ls, pm, nm, cm, lm, pt, nt, ct, lt, N, T⟩ := s
  unfold Wld.val
  dsimp only at *
  obtain ⟨F, hF⟩ : ∃ F, w.heap.size = F := ⟨_, rfl⟩
  obtain ⟨wa, hwa⟩ : ∃ wa, w.alloc (.cells #[.int .i64 A, .int .i64 B, .slice p n c, .slice pb nb cb, .slice ps ns cs, .slice pm nm cm, .slice pt nt ct, .int .i64 N, .int .i64 T] 41) = wa := ⟨_, rfl⟩
  have sa : wa.heap.size = F + 1 := by rw [← hwa, World.size_alloc, hF]
  obtain ⟨w0, hw0⟩ : ∃ w0, wa.alloc (.cells #[.int .i64 0, .int .i64 0, .int .i64 0, .int .i64 0, .int .i64 0, .int .i64 0, .int .i64 0] 71) = w0 := ⟨_, rfl⟩
  have ba : Below wa.heap.size wa w0 := by rw [← hw0]; exact alloc_below _ _
  have hB0 : Below w.heap.size w w0 := by
    have h1 : Below w.heap.size w wa := by rw [← hwa]; exact alloc_below _ _
    exact below_step h1 h1.size ba
  have HB0 : Hid (Below w.heap.size w w0) := hB0
  have HBX : Hid (∀ V, Below w0.heap.size w0 V → c9 V F (.int .i64 A) (.int .i64 B) (.slice p n c) (.slice pb nb cb) (.slice ps ns cs) (.slice pm nm cm) (.slice pt nt ct) (.int .i64 N) (.int .i64 T)) := fun V hV => boxw hF hwa (below_step ba ba.size hV)
  have hR0 : w0.heap[F + 1]? = some (.cells #[.int .i64 0, .int .i64 0, .int .i64 0, .int .i64 0, .int .i64 0, .int .i64 0, .int .i64 0] 71) := by rw [← hw0, ← sa]; exact World.alloc_heap_new wa _
  have HR : Hid (∀ V, Below w0.heap.size w0 V → V.heap[F + 1]? = some (.cells #[.int .i64 0, .int .i64 0, .int .i64 0, .int .i64 0, .int .i64 0, .int .i64 0, .int .i64 0] 71)) := fun V hV => (hV.block _ (by
    rcases Nat.lt_or_ge (F + 1) w0.heap.size with hlt | hge
    · exact hlt
    · rw [Array.getElem?_eq_none hge] at hR0; cases hR0)).trans hR0
  have HF : Hid (w.heap.size = F) := hF
  obtain ⟨z0, z1, z2, z3, z4, z5, z6, z7, z8⟩ := HBX.out w0 (Below.refl _ _)
  clear hB0 ba hR0
  have fin : ∀ (W' V : World) (t : Trp), Below w0.heap.size w0 W' → V = ((((((W'.setCell ⟨F + 1, 0, none⟩ (.int .i64 t.i)).setCell ⟨F + 1, 1, none⟩ (.int .i64 t.o)).setCell ⟨F + 1, 2, none⟩ (.int .i64 t.k)).setCell ⟨F + 1, 3, none⟩ (.int .i64 t.x)).setCell ⟨F + 1, 4, none⟩ (.int .i64 t.y)).setCell ⟨F + 1, 5, none⟩ (.int .i64 t.f)).setCell ⟨F + 1, 6, none⟩ (.int .i64 t.d) → c7 V (F + 1) t.i t.o t.k t.x t.y t.f t.d ∧ Below w.heap.size w V := fun W' V t hW hV => by
    obtain ⟨h1, h2⟩ := set7 (HR.out W' hW) hV
    have hbw : Below w.heap.size w W' := below_step HB0.out HB0.out.size hW
    exact ⟨h1, hbw.trans (h2.below hbw.size (fun k hk e => by have := HF.out; omega))⟩
  have HFIN : Hid (∀ (W' V : World) (t : Trp), Below w0.heap.size w0 W' → V = ((((((W'.setCell ⟨F + 1, 0, none⟩ (.int .i64 t.i)).setCell ⟨F + 1, 1, none⟩ (.int .i64 t.o)).setCell ⟨F + 1, 2, none⟩ (.int .i64 t.k)).setCell ⟨F + 1, 3, none⟩ (.int .i64 t.x)).setCell ⟨F + 1, 4, none⟩ (.int .i64 t.y)).setCell ⟨F + 1, 5, none⟩ (.int .i64 t.f)).setCell ⟨F + 1, 6, none⟩ (.int .i64 t.d) → c7 V (F + 1) t.i t.o t.k t.x t.y t.f t.d ∧ Below w.heap.size w V) := fin
  clear fin
  go_enter Try.func30, Try.ntmps30
  go_wp2_with fail
  clear z0 z1 z2 z3 z4 z5 z6 z7 z8 hw0 hwa sa hF
  go_loopw [11] (fun i wr => ∃ k : Nat, i = .int .i64 k ∧ k ≤ nt ∧ Hid (Below w0.heap.size w0 wr ∧ trf (lt.take k) id = none)) (fun i _ => nt - (intOf i).toNat)
  case atStart => exact ⟨0, rfl, by omega, Below.refl _ _, by simp [trf]⟩
  case round =>
    obtain ⟨k, rfl, hk, HS⟩ := hrel
    have HBr : Hid (Below w.heap.size w wr) := below_step HB0.out HB0.out.size HS.out.1
    have hfree : ∀ j, wr.frozen? ⟨F + 1, j, none⟩ = false := fun j => by simp [World.frozen?, HR.out wr HS.out.1]
    have hcel : wr.cell? ⟨F + 1, 0, none⟩ = some (.int .i64 0) ∧ wr.cell? ⟨F + 1, 1, none⟩ = some (.int .i64 0) ∧ wr.cell? ⟨F + 1, 2, none⟩ = some (.int .i64 0) ∧ wr.cell? ⟨F + 1, 3, none⟩ = some (.int .i64 0) ∧ wr.cell? ⟨F + 1, 4, none⟩ = some (.int .i64 0) ∧ wr.cell? ⟨F + 1, 5, none⟩ = some (.int .i64 0) ∧ wr.cell? ⟨F + 1, 6, none⟩ = some (.int .i64 0) := by simp [World.cell?, HR.out wr HS.out.1]
    by_cases hlt : k < nt
    · have hkl : k < lt.length := by rw [HLT.out]; exact hlt
      obtain ⟨a, rfl, c0, c1, c2, c3, c4, c5, c6⟩ := trow_at (trow_below HRT.out HBr.out) hkl
      have hsp : trf lt id = ((trf (lt.take k) id).or (if (lt[k].i == id) = true then some lt[k] else none)).or (trf (lt.drop (k + 1)) id) := by
        have e : lt = lt.take (k + 1) ++ lt.drop (k + 1) := (List.take_append_drop _ _).symm
        conv => lhs; rw [e]
        unfold trf
        rw [List.find?_append, List.take_succ_eq_append_getElem hkl, List.find?_append]
        congr 2
        by_cases hh : (lt[k].i == id) = true
        · rw [if_pos hh]; simp [List.find?, hh]
        · rw [if_neg hh]; simp [List.find?, hh]
      have hsn : trf (lt.take (k + 1)) id = (trf (lt.take k) id).or (if (lt[k].i == id) = true then some lt[k] else none) := by
        unfold trf
        rw [List.take_succ_eq_append_getElem hkl, List.find?_append]
        congr 1
        by_cases hh : (lt[k].i == id) = true
        · rw [if_pos hh]; simp [List.find?, hh]
        · rw [if_neg hh]; simp [List.find?, hh]
      rw [HS.out.2] at hsp hsn
      obtain ⟨t, ht⟩ : ∃ t, lt[k] = t := ⟨_, rfl⟩
      rw [ht] at c0 c1 c2 c3 c4 c5 c6 hsp hsn
      obtain ⟨ti, to_, tk, tx, ty, tf, td⟩ := t
      simp only at c0 c1 c2 c3 c4 c5 c6
      obtain ⟨w4, hw4⟩ : ∃ w4, wr.alloc (.cells #[.int .i64 ti, .int .i64 to_, .int .i64 tk, .int .i64 tx, .int .i64 ty, .int .i64 tf, .int .i64 td] 71) = w4 := ⟨_, rfl⟩
      obtain ⟨G, hG⟩ : ∃ G, wr.heap.size = G := ⟨_, rfl⟩
      have hb4 : Below wr.heap.size wr w4 := by rw [← hw4]; exact alloc_below _ _
      have hB4 : Below w0.heap.size w0 w4 := below_step HS.out.1 HS.out.1.size hb4
      have HB4 : Hid (Below w0.heap.size w0 w4) := hB4
      obtain ⟨g0, g1, g2, g3, g4, g5, g6⟩ := boxt hG hw4 (Below.refl _ _)
      have l1 : (k : Int) < nt := by omega
      have l2 : (0 : Int) ≤ k := by omega
      by_cases hid : ti = id
      · have d1 : (ti == id) = true := by simp [hid]
        have HT : Hid (trf lt id = some ⟨ti, to_, tk, tx, ty, tf, td⟩) := by unfold Hid; rw [hsp]; simp [d1]
        have hf4 : ∀ j, w4.frozen? ⟨F + 1, j, none⟩ = false := fun j => by simp [World.frozen?, HR.out w4 hB4]
        have f0 := hf4 0
        have f1 := hf4 1
        have f2 := hf4 2
        have f3 := hf4 3
        have f4 := hf4 4
        have f5 := hf4 5
        have f6 := hf4 6
        obtain ⟨y0, y1, y2, y3, y4, y5, y6⟩ : w4.cell? ⟨F + 1, 0, none⟩ = some (.int .i64 0) ∧ w4.cell? ⟨F + 1, 1, none⟩ = some (.int .i64 0) ∧ w4.cell? ⟨F + 1, 2, none⟩ = some (.int .i64 0) ∧ w4.cell? ⟨F + 1, 3, none⟩ = some (.int .i64 0) ∧ w4.cell? ⟨F + 1, 4, none⟩ = some (.int .i64 0) ∧ w4.cell? ⟨F + 1, 5, none⟩ = some (.int .i64 0) ∧ w4.cell? ⟨F + 1, 6, none⟩ = some (.int .i64 0) := by simp [World.cell?, HR.out w4 hB4]
        clear hid hsp hsn ht hkl hb4 hB4 hfree hcel hf4
        go_wp2_with fail
        obtain ⟨V, hV⟩ : ∃ V, ((((((w4.setCell ⟨F + 1, 0, none⟩ (.int .i64 ti)).setCell ⟨F + 1, 1, none⟩ (.int .i64 to_)).setCell ⟨F + 1, 2, none⟩ (.int .i64 tk)).setCell ⟨F + 1, 3, none⟩ (.int .i64 tx)).setCell ⟨F + 1, 4, none⟩ (.int .i64 ty)).setCell ⟨F + 1, 5, none⟩ (.int .i64 tf)).setCell ⟨F + 1, 6, none⟩ (.int .i64 td) = V := ⟨_, rfl⟩
        rw [hV]
        obtain ⟨⟨t0, t1, t2, t3, t4, t5, t6⟩, hbV⟩ := HFIN.out w4 V ⟨ti, to_, tk, tx, ty, tf, td⟩ HB4.out hV.symm
        simp only at t0 t1 t2 t3 t4 t5 t6
        refine ⟨by simp, .tuple #[.agg #[.int .i64 ti, .int .i64 to_, .int .i64 tk, .int .i64 tx, .int .i64 ty, .int .i64 tf, .int .i64 td], .bool true], ?_, ?_, hbV⟩
        · simp [results, Try.results30, go_sem, t0, t1, t2, t3, t4, t5, t6]
        · unfold tof tv; rw [HT.out]; rfl
      · have d1 : (ti == id) = false := by simp [hid]
        have HNX : Hid (trf (lt.take (k + 1)) id = none) := by unfold Hid; rw [hsn]; simp [d1]
        clear hid hsp hsn ht hkl hb4 hB4 hfree hcel
        go_wp2_with fail
        clear c0 c1 c2 c3 c4 c5 c6 g0 g1 g2 g3 g4 g5 g6 hw4 hG
        go_roundw
        case rel => exact ⟨k + 1, by go_num, by omega, HB4.out, HNX.out⟩
        case measure => simp [intOf]; omega
    · have hkn : k = nt := by omega
      subst hkn
      have HT : Hid (trf lt id = none) := by
        have := HS.out.2
        rw [List.take_of_length_le (by rw [HLT.out]; exact Nat.le_refl _)] at this; exact this
      have f0 := hfree 0
      have f1 := hfree 1
      have f2 := hfree 2
      have f3 := hfree 3
      have f4 := hfree 4
      have f5 := hfree 5
      have f6 := hfree 6
      obtain ⟨y0, y1, y2, y3, y4, y5, y6⟩ := hcel
      clear hfree
      go_wp2_with fail
      obtain ⟨V, hV⟩ : ∃ V, ((((((wr.setCell ⟨F + 1, 0, none⟩ (.int .i64 0)).setCell ⟨F + 1, 1, none⟩ (.int .i64 0)).setCell ⟨F + 1, 2, none⟩ (.int .i64 0)).setCell ⟨F + 1, 3, none⟩ (.int .i64 0)).setCell ⟨F + 1, 4, none⟩ (.int .i64 0)).setCell ⟨F + 1, 5, none⟩ (.int .i64 0)).setCell ⟨F + 1, 6, none⟩ (.int .i64 0) = V := ⟨_, rfl⟩
      rw [hV]
      obtain ⟨⟨t0, t1, t2, t3, t4, t5, t6⟩, hbV⟩ := HFIN.out wr V ⟨0, 0, 0, 0, 0, 0, 0⟩ HS.out.1 hV.symm
      simp only at t0 t1 t2 t3 t4 t5 t6
      refine ⟨by simp, .tuple #[.agg #[.int .i64 0, .int .i64 0, .int .i64 0, .int .i64 0, .int .i64 0, .int .i64 0, .int .i64 0], .bool false], ?_, ?_, hbV⟩
      · simp [results, Try.results30, go_sem, t0, t1, t2, t3, t4, t5, t6]
      · unfold tof tv; rw [HT.out]; rfl
end Go.Proofs.Ytgebfpncapfaoaa
