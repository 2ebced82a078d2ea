/- What the closures of TroopFinds return, and IndexFunc over troops. -/
import Derived.Test.YtibpobmeonfljaaLi
import Derived.Test.YtibpobmeonfljaaWy
namespace Go.Proofs.Ytibpobmeonfljaa
open Go.RowKit
set_option linter.unusedVariables false

/-- The first place at which P is true, or less than 0. -/
def fst1 (P : Trp → Bool) (lt : List Trp) (r : Int) : Prop := (r < 0 ∧ ∀ j (h : j < lt.length), P lt[j] = false) ∨ ∃ i : Nat, ∃ h : i < lt.length, r = i ∧ P lt[i] = true
set_option maxRecDepth 20000 in
set_option maxHeartbeats 2000000 in
theorem IndexFunct_any {f : Nat} (hen0 : Enters f) (k0 : Value) (p : Option Addr) (n c : Nat) (lt : List Trp) (P : Trp → Bool) (w : World) (hr : trow w p lt) (hn : lt.length = n) (hm : n ≤ 9223372036854775807)
    (hf : Hid (∀ t V, t ∈ lt → Below w.heap.size w V → Calls Try.prog f #[tv t, k0] V fun e w' => e = .returned (.bool (P t)) ∧ Below V.heap.size V w')) :
    Calls Try.prog 16 #[.slice p n c, .func (.func f) #[] #[k0]] w fun e w' => (∃ r, e = .returned (.int .i64 r) ∧ Hid (fst1 P lt r)) ∧ Below w.heap.size w w' := by
  have hen : ∀ (args : Array Value) (w : World), (callFunc f args).run Try.prog w = .ok (.enter f args) w := hen0
  clear hen0
  have HRT : Hid (trow w p lt) := hr
  have HN : Hid (lt.length = n) := hn
  clear hr hn
  go_enter Try.func16, Try.ntmps16
  go_wp2_with fail
  go_loopw [8] (fun i wr => ∃ k : Nat, i = .int .i64 (k : Int) ∧ k ≤ n ∧ Hid (Below w.heap.size w wr ∧ ∀ j (h : j < lt.length), j < k → P lt[j] = false)) (fun i _ => n - (intOf i).toNat)
  case atStart => exact ⟨0, rfl, by omega, Below.refl _ _, fun j h hj => by omega⟩
  case round =>
    obtain ⟨k, rfl, hk, HS⟩ := hrel
    by_cases hkn : k < n
    · have hkl : k < lt.length := by rw [HN.out]; exact hkn
      obtain ⟨a, rfl, hc⟩ := trow_at (trow_below HRT.out HS.out.1) hkl
      obtain ⟨t, ht⟩ : ∃ t, lt[k] = t := ⟨_, rfl⟩
      have HT : Hid (lt[k] = t) := ht
      obtain ⟨g, hg⟩ : ∃ g, P t = g := ⟨_, rfl⟩
      have HPT : Hid (Calls Try.prog f #[tv t, k0] wr fun e w' => e = .returned (.bool g) ∧ Below wr.heap.size wr w') := by
        have := hf.out t wr (by rw [← ht]; exact List.getElem_mem hkl) HS.out.1
        rw [hg] at this; exact this
      have HG : Hid (P t = g) := hg
      rw [ht] at hc
      clear ht hg
      obtain ⟨ti, to_, tk, tx, ty, tf, td⟩ := t
      obtain ⟨c0, c1, c2, c3, c4, c5, c6⟩ := hc
      simp only at c0 c1 c2 c3 c4 c5 c6
      have l1 : (k : Int) < n := by omega
      have l2 : (0 : Int) ≤ k := by omega
      go_wp2_with fail
      refine Calls.mono HPT.out ?_
      rintro e w5 ⟨rfl, hb5⟩
      have HB5 : Hid (Below w.heap.size w w5) := below_step HS.out.1 HS.out.1.size hb5
      clear hb5 c0 c1 c2 c3 c4 c5 c6
      cases g with
      | true =>
        have HF : Hid (fst1 P lt (k : Int)) := .inr ⟨k, hkl, rfl, by rw [HT.out]; exact HG.out⟩
        go_wp2_with fail
        go_ret
        exact ⟨⟨_, rfl, HF⟩, HB5.out⟩
      | false =>
        have HN2 : Hid (∀ j (h : j < lt.length), j < k + 1 → P lt[j] = false) := fun j h hj => by
          by_cases e : j = k
          · subst e; rw [HT.out]; exact HG.out
          · exact HS.out.2 j h (by omega)
        go_wp2_with fail
        go_roundw
        case rel => exact ⟨k + 1, by go_num, by omega, HB5.out, HN2.out⟩
        case measure => simp [intOf]; omega
    · have HF : Hid (fst1 P lt (-1)) := .inl ⟨by omega, fun j h => HS.out.2 j h (by have := HN.out; omega)⟩
      have HBr : Hid (Below w.heap.size w wr) := HS.out.1
      go_wp2_with fail
      go_ret
      exact ⟨⟨_, rfl, HF⟩, HBr.out⟩
set_option maxRecDepth 20000 in
theorem TF2_at (t : Trp) (id : Int) (q : Addr) (V : World) (hq : V.cell? q = some (.int .i64 id)) : Calls Try.prog 18 #[tv t, .pointer (some q)] V fun e w' => e = .returned (.bool (t.i == id)) ∧ Below V.heap.size V w' := by
  obtain ⟨ti, to_, tk, tx, ty, tf, td⟩ := t
  unfold tv
  dsimp only
  obtain ⟨w0, hw0⟩ : ∃ w0, V.alloc (.cells #[.int .i64 ti, .int .i64 to_, .int .i64 tk, .int .i64 tx, .int .i64 ty, .int .i64 tf, .int .i64 td] 47) = w0 := ⟨_, rfl⟩
  obtain ⟨G, hG⟩ : ∃ G, V.heap.size = G := ⟨_, rfl⟩
  obtain ⟨g0, -, -, -, -, -, -⟩ := boxt hG hw0 (Below.refl _ _)
  have hb : Below V.heap.size V w0 := by rw [← hw0]; exact alloc_below _ _
  have hq0 : w0.cell? q = some (.int .i64 id) := (hb.cell (cell_lt hq)).trans hq
  have HB : Hid (Below V.heap.size V w0) := hb
  clear hq hb
  go_enter Try.func18, Try.ntmps18
  go_wp2_with fail
  go_ret
  exact ⟨rfl, by first | exact HB.out | (rw [← hG]; exact HB.out)⟩
/-- Whether a troop stands on a cell. -/
def onb (x y : Int) (t : Trp) : Bool := decide (t.x = x) && decide (t.y = y)
theorem onb_iff {x y : Int} {t : Trp} : onb x y t = true ↔ t.c = ⟨x, y⟩ := by
  unfold onb Trp.c
  simp
set_option maxRecDepth 20000 in
theorem TF3_at (t : Trp) (x y : Int) (q : Nat) (V : World) (hq : V.cell? ⟨q, 0, none⟩ = some (.int .i64 x)) (hq2 : V.cell? ⟨q, 1, none⟩ = some (.int .i64 y)) : Calls Try.prog 20 #[tv t, .pointer (some ⟨q, 0, none⟩)] V fun e w' => e = .returned (.bool (onb x y t)) ∧ Below V.heap.size V w' := by
  obtain ⟨ti, to_, tk, tx, ty, tf, td⟩ := t
  unfold tv
  dsimp only
  obtain ⟨w0, hw0⟩ : ∃ w0, V.alloc (.cells #[.int .i64 ti, .int .i64 to_, .int .i64 tk, .int .i64 tx, .int .i64 ty, .int .i64 tf, .int .i64 td] 47) = w0 := ⟨_, rfl⟩
  obtain ⟨G, hG⟩ : ∃ G, V.heap.size = G := ⟨_, rfl⟩
  obtain ⟨g0, g1, g2, g3, g4, g5, g6⟩ := boxt hG hw0 (Below.refl _ _)
  have hb : Below V.heap.size V w0 := by rw [← hw0]; exact alloc_below _ _
  have e0 : w0.cell? ⟨q, 0, none⟩ = some (.int .i64 x) := (hb.cell (cell_lt hq)).trans hq
  have e1 : w0.cell? ⟨q, 1, none⟩ = some (.int .i64 y) := (hb.cell (cell_lt hq2)).trans hq2
  have HB : Hid (Below V.heap.size V w0) := hb
  obtain ⟨g, hg⟩ : ∃ g, onb x y ⟨ti, to_, tk, tx, ty, tf, td⟩ = g := ⟨_, rfl⟩
  have HG : Hid (g = (decide (tx = x) && decide (ty = y))) := hg.symm
  rw [hg]
  clear hq hq2 hb hg
  by_cases hx : tx = x
  · subst hx
    have m0_ : (tx == tx) = true := by simp
    by_cases hy : ty = y
    · subst hy
      have m1_ : (ty == ty) = true := by simp
      go_enter Try.func20, Try.ntmps20
      go_wp2_with fail
      go_ret
      exact ⟨by rw [HG.out]; simp, by first | exact HB.out | (rw [← hG]; exact HB.out)⟩
    · have m1_ : (ty == y) = false := by simp [hy]
      have m3_ : decide (ty = y) = false := by simp [hy]
      go_enter Try.func20, Try.ntmps20
      go_wp2_with fail
      go_ret
      exact ⟨by rw [HG.out]; simp [hy], by first | exact HB.out | (rw [← hG]; exact HB.out)⟩
  · have m1_ : (tx == x) = false := by simp [hx]
    have m3_ : decide (tx = x) = false := by simp [hx]
    go_enter Try.func20, Try.ntmps20
    go_wp2_with fail
    go_ret
    exact ⟨by rw [HG.out]; simp [hx], by first | exact HB.out | (rw [← hG]; exact HB.out)⟩
set_option maxRecDepth 20000 in
set_option maxHeartbeats 1000000 in
theorem TF1_at {f : Nat} (hen0 : Enters f) (k0 : Value) (s : Wld) (P : Trp → Bool) (E : Int) (F R : Nat) (V : World) (hF : V.cell? ⟨F, 6, none⟩ = some (.slice s.pt s.nt s.ct)) (hR : V.cell? ⟨R, 0, none⟩ = some (.int .i64 E)) (hr : trow V s.pt s.lt) (hn : s.lt.length = s.nt) (hm : s.nt ≤ 9223372036854775807)
    (hf : Hid (∀ t V', t ∈ s.lt → Below V.heap.size V V' → Calls Try.prog f #[tv t, k0] V' fun e w' => e = .returned (.bool (P t)) ∧ Below V'.heap.size V' w')) :
    Calls Try.prog 15 #[.func (.func f) #[] #[k0], .pointer (some ⟨F, 0, none⟩), .pointer (some ⟨R, 0, none⟩)] V fun e w' => (∃ r b, e = .returned (.tuple #[.int .i64 r, .bool b]) ∧ Hid (fndr s (fun t => P t = true) E r b)) ∧ Below V.heap.size V w' := by
  obtain ⟨A, B, p, n, c, l, pb, nb, cb, lb, ps, ns, cs, ls, pm, nm, cm, lm, pt, nt, ct, lt, N, T⟩ := s
  obtain ⟨F0, hF0⟩ : ∃ F0, fndr ⟨A, B, p, n, c, l, pb, nb, cb, lb, ps, ns, cs, ls, pm, nm, cm, lm, pt, nt, ct, lt, N, T⟩ (fun t => P t = true) = F0 := ⟨_, rfl⟩
  have HFE : Hid (E ≠ 0 → F0 E 0 false) := fun h => by rw [← hF0]; exact .inl ⟨h, rfl, rfl⟩
  have HFN : Hid (∀ r, fst1 P lt r → r < 0 → F0 0 0 false) := fun r h hr => by
    rw [← hF0]
    rcases h with ⟨_, h⟩ | ⟨i, hi, h1, _⟩
    · refine .inr ⟨rfl, .inl ⟨rfl, rfl, fun t ht e => ?_⟩⟩
      obtain ⟨i, hi, e2⟩ := List.getElem_of_mem ht
      have := h i hi
      dsimp only at e2
      rw [e2, e] at this; cases this
    · omega
  have HFY : Hid (∀ r, fst1 P lt r → ¬ r < 0 → F0 0 r true) := fun r h hr => by
    rw [← hF0]
    rcases h with ⟨h, _⟩ | ⟨i, hi, h1, h2⟩
    · exact absurd h hr
    · exact .inr ⟨rfl, .inr ⟨rfl, i, hi, h1, h2⟩⟩
  rw [hF0]
  clear hF0
  dsimp only at *
  have HIX : Hid (∀ V', Below V.heap.size V V' → Calls Try.prog 16 #[.slice pt nt ct, .func (.func f) #[] #[k0]] V' fun e w' => (∃ r, e = .returned (.int .i64 r) ∧ Hid (fst1 P lt r)) ∧ Below V'.heap.size V' w') := fun V' hV => IndexFunct_any hen0 k0 pt nt ct lt P V' (trow_below hr hV) hn hm (fun t V2 ht hV2 => hf.out t V2 ht (below_step hV hV.size hV2))
  clear hf hr hn hm hen0
  go_enter Try.func15, Try.ntmps15
  go_wp2_with fail
  refine (HIX.out V (Below.refl _ _)).mono ?_
  rintro e w1 ⟨⟨r, rfl, hfs⟩, hb1⟩
  have e0 : w1.cell? ⟨R, 0, none⟩ = some (.int .i64 E) := (hb1.cell (cell_lt hR)).trans hR
  have HB1 : Hid (Below V.heap.size V w1) := hb1
  clear hb1 hF hR
  by_cases hE : E = 0
  · subst hE
    by_cases hr : r < 0
    · have HR : Hid (F0 0 0 false) := HFN.out r hfs.out hr
      go_wp2_with fail
      go_ret2
      exact ⟨⟨0, false, rfl, HR⟩, HB1.out⟩
    · have HR : Hid (F0 0 r true) := HFY.out r hfs.out (by omega)
      go_wp2_with fail
      go_ret2
      exact ⟨⟨r, true, rfl, HR⟩, HB1.out⟩
  · have d1 : (E != 0) = true := by simp [hE]
    have HR : Hid (F0 E 0 false) := HFE.out hE
    clear hE
    go_wp2_with fail
    go_ret2
    exact ⟨⟨0, false, rfl, HR⟩, HB1.out⟩
/-- There is but one answer. -/
theorem fnd_one {s : Wld} {Q Q' : Trp → Prop} {E r r' : Int} {b b' : Bool} (hq : ∀ t, Q t ↔ Q' t) (hu : E = 0 → ∀ i (hi : i < s.lt.length) j (hj : j < s.lt.length), Q s.lt[i] → Q s.lt[j] → i = j) (h : fndr s Q E r b) (h' : fndr s Q' E r' b') : r = r' ∧ b = b' := by
  rcases h with ⟨h0, rfl, rfl⟩ | ⟨h0, ⟨rfl, rfl, h⟩ | ⟨rfl, i, hi, rfl, h⟩⟩
  · rcases h' with ⟨_, rfl, rfl⟩ | ⟨h0', _⟩
    · exact ⟨rfl, rfl⟩
    · exact absurd h0' h0
  · rcases h' with ⟨h0', _⟩ | ⟨_, ⟨rfl, rfl, _⟩ | ⟨_, j, hj, _, h'⟩⟩
    · exact absurd h0 h0'
    · exact ⟨rfl, rfl⟩
    · exact absurd ((hq _).2 h') (h _ (List.getElem_mem hj))
  · rcases h' with ⟨h0', _⟩ | ⟨_, ⟨_, _, h'⟩ | ⟨rfl, j, hj, rfl, h'⟩⟩
    · exact absurd h0 h0'
    · exact absurd ((hq _).1 h) (h' _ (List.getElem_mem hi))
    · have := hu h0 i hi j hj h ((hq _).2 h')
      exact ⟨by omega, rfl⟩
end Go.Proofs.Ytibpobmeonfljaa
