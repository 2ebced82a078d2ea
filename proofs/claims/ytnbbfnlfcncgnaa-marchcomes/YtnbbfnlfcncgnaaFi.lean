/- What Find and On return. -/
import Derived.Test.YtnbbfnlfcncgnaaLk
namespace Go.Proofs.Ytnbbfnlfcncgnaa
open Go.RowKit
set_option linter.unusedVariables false
set_option linter.unusedSimpArgs false

/-- What is found of those of whom Q is true: the place, or none. -/
def fndr (s : Wld) (Q : Trp → Prop) (E r : Int) (b : Bool) : Prop := (E ≠ 0 ∧ r = 0 ∧ b = false) ∨ (E = 0 ∧ ((b = false ∧ r = 0 ∧ ∀ t ∈ s.lt, ¬ Q t) ∨ (b = true ∧ ∃ i : Nat, ∃ h : i < s.lt.length, r = i ∧ Q s.lt[i])))
theorem below_upF {w0 w4 V : World} (h : Below w0.heap.size w0 w4) (hV : Below w4.heap.size w4 V) : Below w0.heap.size w0 V := h.trans (hV.mono h.size)
set_option maxRecDepth 20000 in
theorem Find1_at (t : Trp) (id : Int) (q : Addr) (V : World) (hq : V.cell? q = some (.int .i64 id)) : Calls Try.prog 63 #[tv t, .pointer (some q)] V fun e w' => e = .returned (.bool (t.i == id)) ∧ Below V.heap.size V w' := by
  obtain ⟨ti, to_, tk, tx, ty, tf, td⟩ := t
  unfold tv
  dsimp only
  obtain ⟨w0, hw0⟩ : ∃ w0, V.alloc (.cells #[.int .i64 ti, .int .i64 to_, .int .i64 tk, .int .i64 tx, .int .i64 ty, .int .i64 tf, .int .i64 td] 41) = w0 := ⟨_, rfl⟩
  obtain ⟨G, hG⟩ : ∃ G, V.heap.size = G := ⟨_, rfl⟩
  obtain ⟨g0, -, -, -, -, -, -⟩ := boxt hG hw0 (Below.refl _ _)
  have hb : Below V.heap.size V w0 := by rw [← hw0]; exact alloc_below _ _
  have hq0 : w0.cell? q = some (.int .i64 id) := (hb.cell (cell_lt hq)).trans hq
  have HB : Hid (Below V.heap.size V w0) := hb
  clear hq hb
  go_enter Try.func63, Try.ntmps63
  go_wp2_with fail
  go_ret
  exact ⟨rfl, by first | exact HB.out | (rw [← hG]; exact HB.out)⟩
/-- The boxes of a world and of a number, of a world and of a cell, at a call's head. -/
theorem box91 {w w0 V : World} {a b c d e f g h i : Value} {a' : Value} {t t' : TypeId} {F : Nat} (hF : w.heap.size = F) (hw : (w.alloc (.cells #[a, b, c, d, e, f, g, h, i] t)).alloc (.cells #[a'] t') = w0) (hb : Below w0.heap.size w0 V) :
    c9 V F a b c d e f g h i ∧ V.cell? ⟨F + 1, 0, none⟩ = some a' := by
  have hb1 : Below (w.alloc (.cells #[a, b, c, d, e, f, g, h, i] t)).heap.size (w.alloc (.cells #[a, b, c, d, e, f, g, h, i] t)) V := by
    have : Below (w.alloc (.cells #[a, b, c, d, e, f, g, h, i] t)).heap.size (w.alloc (.cells #[a, b, c, d, e, f, g, h, i] t)) w0 := by rw [← hw]; exact alloc_below _ _
    exact this.trans (hb.mono this.size)
  refine ⟨boxw hF rfl hb1, ?_⟩
  subst hw hF
  rw [hb.cell (by simp)]
  simp [go_sem]
theorem box92 {w w0 V : World} {a b c d e f g h i : Value} {a' b' : Value} {t t' : TypeId} {F : Nat} (hF : w.heap.size = F) (hw : (w.alloc (.cells #[a, b, c, d, e, f, g, h, i] t)).alloc (.cells #[a', b'] t') = w0) (hb : Below w0.heap.size w0 V) :
    c9 V F a b c d e f g h i ∧ V.cell? ⟨F + 1, 0, none⟩ = some a' ∧ V.cell? ⟨F + 1, 1, none⟩ = some b' := by
  have hb1 : Below (w.alloc (.cells #[a, b, c, d, e, f, g, h, i] t)).heap.size (w.alloc (.cells #[a, b, c, d, e, f, g, h, i] t)) V := by
    have : Below (w.alloc (.cells #[a, b, c, d, e, f, g, h, i] t)).heap.size (w.alloc (.cells #[a, b, c, d, e, f, g, h, i] t)) w0 := by rw [← hw]; exact alloc_below _ _
    exact this.trans (hb.mono this.size)
  refine ⟨boxw hF rfl hb1, ?_, ?_⟩
  all_goals
    subst hw hF
    rw [hb.cell (by simp)]
    simp [go_sem]
set_option maxRecDepth 20000 in
set_option maxHeartbeats 4000000 in
theorem Find_any (s : Wld) (id E : Int) (w : World) (h : s.fit w) (hE : Hid (wre s E)) :
    Calls Try.prog 41 #[s.val, .int .i64 id] w fun e w' => (∃ r b, e = .returned (.tuple #[.int .i64 r, .bool b, .int .i64 E]) ∧ Hid (fndr s (fun t => t.i = id) E r b)) ∧ Below w.heap.size w w' := by
  have HC : Hid (∀ V, Below w.heap.size w V → Calls Try.prog 19 #[s.val] V fun e w' => e = .returned (.int .i64 E) ∧ Below V.heap.size V w') := fun V hV => Check_world s E V (Wld.fit_below h hV) hE
  have HL : Hid (∀ V (q : Addr), s.nt ≤ 100 → Below w.heap.size w V → V.cell? q = some (.int .i64 id) → Calls Try.prog 62 #[s.val, .func (.func 63) #[] #[.pointer (some q)]] V fun e w' => (∃ v, e = .returned v ∧ mine 3 vi V.heap.size w' v (ixs (fun t => t.i == id) s.lt s.nt)) ∧ Below V.heap.size V w') := fun V q hnt hV hq =>
    look1_any Try.call63 _ s _ V (Wld.fit_below h hV) hnt (fun t V' ht hV' => Find1_at t id q V' ((hV'.cell (cell_lt hq)).trans hq))
  have HNT : Hid (E = 0 → s.nt ≤ 100) := fun e => by
    subst e
    obtain ⟨W, H, hk⟩ := wre_ok hE.out
    exact hk.nt
  have HLT : Hid (s.lt.length = s.nt) := h.ht
  have HS : Hid (∀ E r b, fndr s (fun t => t.i = id) E r b ↔ fndr s (fun t => t.i = id) E r b) := fun _ _ _ => Iff.rfl
  clear h hE
  obtain ⟨F0, hF0⟩ : ∃ F0, fndr s (fun t => t.i = id) = F0 := ⟨_, rfl⟩
  have HFE : Hid (E ≠ 0 → F0 E 0 false) := fun h => by rw [← hF0]; exact .inl ⟨h, rfl, rfl⟩
  have HFN : Hid ((ixs (fun t => t.i == id) s.lt s.nt) = [] → F0 0 0 false) := fun h => by
    rw [← hF0]
    refine .inr ⟨rfl, .inl ⟨rfl, rfl, fun t ht e => ?_⟩⟩
    obtain ⟨i, hi, e2⟩ := List.getElem_of_mem ht
    have hm : (i : Int) ∈ ixs (fun t => t.i == id) s.lt s.nt := (ixs_mem (by rw [HLT.out]; exact Nat.le_refl _)).2 ⟨i, rfl, by rw [← HLT.out]; exact hi, hi, by rw [e2]; simpa using e⟩
    rw [h] at hm; cases hm
  have HFY : Hid (∀ x L, (ixs (fun t => t.i == id) s.lt s.nt) = x :: L → F0 0 x true) := fun x L h => by
    rw [← hF0]
    have hm : x ∈ ixs (fun t => t.i == id) s.lt s.nt := by rw [h]; simp
    obtain ⟨i, h1, h2, h3, h4⟩ := (ixs_mem (by rw [HLT.out]; exact Nat.le_refl _)).1 hm
    exact .inr ⟨rfl, .inr ⟨rfl, i, h3, h1, by simpa using h4⟩⟩
  have HLEN : Hid ((ixs (fun t => t.i == id) s.lt s.nt).length ≤ s.nt) := ixs_len _ _ _
  rw [hF0]
  clear hF0 HS
  obtain ⟨I, hI⟩ : ∃ I, ixs (fun t => t.i == id) s.lt s.nt = I := ⟨_, rfl⟩
  rw [hI] at HL HFN HFY HLEN
  clear hI HLT
  obtain ⟨A, B, p, n, c, l, pb, nb, cb, lb, ps, ns, cs, ls, pm, nm, cm, lm, pt, nt, ct, lt, N, T⟩ := s
  unfold Wld.val at *
  dsimp only at *
  obtain ⟨F, hF⟩ : ∃ F, w.heap.size = F := ⟨_, rfl⟩
  obtain ⟨w0, hw0⟩ : ∃ w0, (w.alloc (.cells #[.int .i64 A, .int .i64 B, .slice p n c, .slice pb nb cb, .slice ps ns cs, .slice pm nm cm, .slice pt nt ct, .int .i64 N, .int .i64 T] 28)).alloc (.cells #[.int .i64 id] 3) = w0 := ⟨_, rfl⟩
  have HBX : Hid (∀ V, Below w0.heap.size w0 V → c9 V F (.int .i64 A) (.int .i64 B) (.slice p n c) (.slice pb nb cb) (.slice ps ns cs) (.slice pm nm cm) (.slice pt nt ct) (.int .i64 N) (.int .i64 T) ∧ V.cell? ⟨F + 1, 0, none⟩ = some (.int .i64 id)) := fun V hV => box91 hF hw0 hV
  have hB0 : Below w.heap.size w w0 := by rw [← hw0]; exact (alloc_below _ _).alloc (by simp) _
  have HB0 : Hid (Below w.heap.size w w0) := hB0
  have HUP : Hid (∀ V, Below w0.heap.size w0 V → Below w.heap.size w V) := fun V hV => HB0.out.trans (hV.mono HB0.out.size)
  obtain ⟨⟨z0, z1, z2, z3, z4, z5, z6, z7, z8⟩, y0⟩ := HBX.out w0 (Below.refl _ _)
  clear hB0
  go_enter Try.func41, Try.ntmps41
  go_wp2_with fail
  refine (HC.out w0 HB0.out).mono ?_
  rintro e w1 ⟨rfl, hb1⟩
  have HB1 : Hid (Below w0.heap.size w0 w1) := hb1
  clear z0 z1 z2 z3 z4 z5 z6 z7 z8 y0 hw0 hb1 hF
  by_cases hE0 : E = 0
  rotate_left
  · have d1 : (E != 0) = true := by simp [hE0]
    have HR : Hid (F0 E 0 false) := HFE.out hE0
    clear hE0
    go_wp2_with fail
    go_ret3
    exact ⟨⟨0, false, rfl, HR⟩, HUP.out w1 HB1.out⟩
  subst hE0
  have hnt := HNT.out rfl
  obtain ⟨⟨z0, z1, z2, z3, z4, z5, z6, z7, z8⟩, y0⟩ := HBX.out w1 HB1.out
  have HL1 := HL.out w1 ⟨F + 1, 0, none⟩ hnt (HUP.out w1 HB1.out) y0
  have HL2 : Hid (Calls Try.prog 62 #[.agg #[.int .i64 A, .int .i64 B, .slice p n c, .slice pb nb cb, .slice ps ns cs, .slice pm nm cm, .slice pt nt ct, .int .i64 N, .int .i64 T], .func (.func 63) #[] #[.pointer (some ⟨F + 1, 0, none⟩)]] w1 fun e w' => (∃ v, e = .returned v ∧ mine 3 vi w1.heap.size w' v I) ∧ Below w1.heap.size w1 w') := HL1
  clear HL1
  go_wp2_with fail
  refine Calls.mono HL2.out ?_
  rintro e w2 ⟨⟨v, rfl, hm⟩, hb2⟩
  have HB2 : Hid (Below w0.heap.size w0 w2) := below_upF HB1.out hb2
  clear z0 z1 z2 z3 z4 z5 z6 z7 z8 y0 hb2 HL2
  obtain ⟨q, cap, rfl, hr, hc, hz⟩ := mine_full hm
  clear hm hz hc
  cases I with
  | nil =>
    have HR : Hid (F0 0 0 false) := HFN.out rfl
    have eL : ([] : List Int).length = 0 := rfl
    rw [eL]
    clear eL
    go_wp2_with fail
    go_ret3
    exact ⟨⟨0, false, rfl, HR⟩, HUP.out w2 HB2.out⟩
  | cons x L =>
    have HR : Hid (F0 0 x true) := HFY.out x L rfl
    obtain ⟨m, hm⟩ : ∃ m, (x :: L).length = m := ⟨_, rfl⟩
    have hm1 : 1 ≤ m := by rw [← hm]; simp
    have hm2 : m ≤ 100 := by have := HLEN.out; omega
    obtain ⟨a, rfl, ha⟩ := row_at hr (j := 0) (by simp)
    have ha' : w2.cell? a = some (.int .i64 x) := by
      have e : a.add 0 = a := by unfold Addr.add; simp
      rw [e] at ha; exact ha
    rw [hm]
    have l1 : (0 : Int) < m := by omega
    have l3 : ¬ ((m : Int) = 0) := by omega
    have l4 : ((m : Int) == 0) = false := by simp; omega
    have l5 : (m == 0) = false := by simp; omega
    clear hr ha hm HFN HFY HLEN
    go_wp2_with fail
    go_ret3
    exact ⟨⟨x, true, rfl, HR⟩, HUP.out w2 HB2.out⟩
end Go.Proofs.Ytnbbfnlfcncgnaa
