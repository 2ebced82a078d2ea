/- What flood.check returns. -/
import Derived.Test.YtkdammmikmljmaaRp
import Derived.Test.YtkdammmikmljmaaRd
namespace Go.Proofs.Ytkdammmikmljmaa
open Go.RowKit
set_option linter.unusedVariables false

/-- A cell that is handed in. -/
structure Cel where
  x : Int
  y : Int
/-- The cells cs lie at p. -/
def crow (w : World) (p : Option Addr) (cs : List Cel) : Prop := ∀ j c, cs[j]? = some c → ∃ a, p = some a ∧ w.cell? (a.add (j * 2)) = some (.int .i64 c.x) ∧ w.cell? (a.add (j * 2 + 1)) = some (.int .i64 c.y)
theorem cell_two {w : World} {b : Addr} {i : Nat} {v : Value} (h : w.cell? (b.add (i + 1)) = some v) : w.cell? ⟨(b.add i).block, (b.add i).off + 1, none⟩ = some v := by
  rw [← add_add] at h; exact h
theorem crow_nil (w : World) (p : Option Addr) : crow w p [] := fun j c h => by simp at h
theorem crow_at {w : World} {p : Option Addr} {cs : List Cel} (h : crow w p cs) {j : Nat} (hj : j < cs.length) : ∃ a, p = some a ∧ w.cell? (a.add (j * 2)) = some (.int .i64 cs[j].x) ∧ w.cell? (a.add (j * 2 + 1)) = some (.int .i64 cs[j].y) := h j _ (List.getElem?_eq_getElem hj)
theorem crow_below {w w' : World} {p : Option Addr} {cs : List Cel} (h : crow w p cs) (hb : Below w.heap.size w w') : crow w' p cs := by
  intro j c hj
  obtain ⟨a, ha, h1, h2⟩ := h j c hj
  exact ⟨a, ha, by rw [hb.cell (cell_lt h1)]; exact h1, by rw [hb.cell (cell_lt h2)]; exact h2⟩
/-- Which error the cells are of. -/
def cke (W H : Nat) (l : List Int) : List Cel → Int
  | [] => 0
  | c :: cs => if inb W H c.x c.y = false then 7 else if pa l (c.y.toNat * W + c.x.toNat) = 1 then 9 else cke W H l cs
theorem cke_out {W H : Nat} {l : List Int} {cs : List Cel} {k : Nat} (hk : k < cs.length) (h : inb W H cs[k].x cs[k].y = false) : cke W H l (cs.drop k) = 7 := by
  rw [List.drop_eq_getElem_cons hk]; unfold cke; rw [if_pos h]
theorem cke_rock {W H : Nat} {l : List Int} {cs : List Cel} {k : Nat} (hk : k < cs.length) (h : inb W H cs[k].x cs[k].y = true) (hr : pa l (cs[k].y.toNat * W + cs[k].x.toNat) = 1) : cke W H l (cs.drop k) = 9 := by
  rw [List.drop_eq_getElem_cons hk]; unfold cke; rw [if_neg (by rw [h]; decide), if_pos hr]
theorem cke_next {W H : Nat} {l : List Int} {cs : List Cel} {k : Nat} (hk : k < cs.length) (h : inb W H cs[k].x cs[k].y = true) (hr : pa l (cs[k].y.toNat * W + cs[k].x.toNat) ≠ 1) : cke W H l (cs.drop k) = cke W H l (cs.drop (k + 1)) := by
  rw [List.drop_eq_getElem_cons hk]
  show (if inb W H cs[k].x cs[k].y = false then 7 else if pa l (cs[k].y.toNat * W + cs[k].x.toNat) = 1 then 9 else cke W H l (cs.drop (k + 1))) = _
  rw [if_neg (by rw [h]; decide), if_neg hr]
set_option maxRecDepth 20000 in
set_option maxHeartbeats 1000000 in
theorem check_no (W H : Int) (p q : Option Addr) (n c m d : Nat) (l : List Int) (E : Int) (w : World) (hr : row vi w p l) (hn : l.length = n) (hm : n ≤ 9223372036854775807) (hE : Hid (ck W H l = E)) (h0 : E ≠ 0) :
    Calls Try.prog 30 #[.agg #[.int .i64 W, .int .i64 H, .slice p n c], .slice q m d] w fun e w' => e = .returned (.int .i64 E) ∧ Below w.heap.size w w' := by
  have HR : Hid (row vi w p l) := hr
  have HN : Hid (l.length = n) := hn
  clear hr hn
  have e0 : (E == 0) = false := by simp [h0]
  go_enter Try.func30, Try.ntmps30
  go_wp2_with fail
  refine (Check_at W H p n c l E _ (row_below HR.out (alloc_below _ _)) HN.out hm hE).mono ?_
  rintro e w1 ⟨rfl, hb⟩
  have HB : Hid (Below w.heap.size w w1) := below_step (alloc_below w _) (by simp) hb
  clear hb
  go_wp2_with fail
  go_ret
  exact ⟨rfl, HB.out⟩
set_option maxRecDepth 20000 in
set_option maxHeartbeats 1000000 in
theorem check_many (W H : Int) (p q : Option Addr) (n c m d : Nat) (l : List Int) (w : World) (hr : row vi w p l) (hn : l.length = n) (hm : n ≤ 9223372036854775807) (hE : Hid (ck W H l = 0)) (h0 : 100 < m) :
    Calls Try.prog 30 #[.agg #[.int .i64 W, .int .i64 H, .slice p n c], .slice q m d] w fun e w' => e = .returned (.int .i64 2) ∧ Below w.heap.size w w' := by
  have HR : Hid (row vi w p l) := hr
  have HN : Hid (l.length = n) := hn
  clear hr hn
  have h1 : (100 : Int) < m := by omega
  go_enter Try.func30, Try.ntmps30
  go_wp2_with fail
  refine (Check_at W H p n c l 0 _ (row_below HR.out (alloc_below _ _)) HN.out hm hE).mono ?_
  rintro e w1 ⟨rfl, hb⟩
  have HB : Hid (Below w.heap.size w w1) := below_step (alloc_below w _) (by simp) hb
  clear hb
  go_wp2_with fail
  go_ret
  exact ⟨rfl, HB.out⟩
set_option maxRecDepth 20000 in
set_option maxHeartbeats 2000000 in
theorem check_cells (W H : Nat) (a : Addr) (q : Option Addr) (c m d : Nat) (l : List Int) (cs : List Cel) (E : Int) (w : World) (hr : row vi w (some a) l) (hW : 1 ≤ W ∧ W ≤ 40) (hH : 1 ≤ H ∧ H ≤ 40) (hl : l.length = W * H) (hg : l.any bad = false)
    (hc : crow w q cs) (hm : cs.length = m) (h100 : m ≤ 100) (hE : Hid (cke W H l cs = E)) :
    Calls Try.prog 30 #[.agg #[.int .i64 (W : Int), .int .i64 (H : Int), .slice (some a) (W * H) c], .slice q m d] w fun e w' => e = .returned (.int .i64 E) ∧ Below w.heap.size w w' := by
  have HR : Hid (row vi w (some a) l) := hr
  have HC : Hid (crow w q cs) := hc
  have HM : Hid (cs.length = m) := hm
  have HX : Hid ((1 ≤ W ∧ W ≤ 40) ∧ (1 ≤ H ∧ H ≤ 40) ∧ l.length = W * H ∧ l.any bad = false) := ⟨hW, hH, hl, hg⟩
  clear hr hW hH hl hg hc hm
  have h1 : (m : Int) ≤ 100 := by omega
  obtain ⟨w0, hw0⟩ : ∃ w0, w.alloc (.cells #[.int .i64 (W : Int), .int .i64 (H : Int), .slice (some a) (W * H) c] 24) = w0 := ⟨_, rfl⟩
  have hB0 : Below w.heap.size w w0 := by rw [← hw0]; exact alloc_below _ _
  have hb0 : ∀ V, Below w0.heap.size w0 V → V.cell? ⟨w.heap.size, 0, none⟩ = some (.int .i64 (W : Int)) ∧ V.cell? ⟨w.heap.size, 1, none⟩ = some (.int .i64 (H : Int)) ∧ V.cell? ⟨w.heap.size, 2, none⟩ = some (.slice (some a) (W * H) c) := by
    intro V hV; subst hw0; exact box3 hV
  have HB0 : Hid (Below w.heap.size w w0) := hB0
  have HF : Hid (∀ V, Below w0.heap.size w0 V → V.cell? ⟨w.heap.size, 0, none⟩ = some (.int .i64 (W : Int)) ∧ V.cell? ⟨w.heap.size, 1, none⟩ = some (.int .i64 (H : Int)) ∧ V.cell? ⟨w.heap.size, 2, none⟩ = some (.slice (some a) (W * H) c)) := hb0
  obtain ⟨z0, z1, z2⟩ := hb0 w0 (Below.refl _ _)
  clear hB0 hb0
  go_enter Try.func30, Try.ntmps30
  go_wp2_with fail
  refine (Check_ok W H a c l _ (row_below HR.out HB0.out) HX.out.1 HX.out.2.1 HX.out.2.2.1 HX.out.2.2.2).mono ?_
  rintro e w1 ⟨rfl, hb1⟩
  have HB1 : Hid (Below w0.heap.size w0 w1) := hb1
  clear hb1 hw0 z0 z1 z2
  go_wp2_with fail
  go_loopw [22] (fun i wr => ∃ (k : Nat), i = .int .i64 k ∧ k ≤ m ∧ Hid (Below w0.heap.size w0 wr) ∧ Hid (cke W H l (cs.drop k) = E)) (fun i _ => m - (intOf i).toNat)
  case atStart => exact ⟨0, rfl, by omega, HB1, hE⟩
  case round =>
    obtain ⟨k, rfl, hk, HB, HE⟩ := hrel
    by_cases hlt : k < m
    · have hBw : Below w.heap.size w wr := HB0.out.trans (HB.out.mono HB0.out.size)
      have hkl : k < cs.length := by rw [HM.out]; exact hlt
      obtain ⟨b, rfl, hx, hy⟩ := crow_at (crow_below HC.out hBw) hkl
      obtain ⟨x, ex⟩ : ∃ x, cs[k].x = x := ⟨_, rfl⟩
      obtain ⟨y, ey⟩ : ∃ y, cs[k].y = y := ⟨_, rfl⟩
      rw [ex] at hx
      rw [ey] at hy
      have hy2 : wr.cell? ⟨(b.add (k * 2)).block, (b.add (k * 2)).off + 1, none⟩ = some (.int .i64 y) := cell_two hy
      have HEX : Hid (cs[k].x = x) := ex
      have HEY : Hid (cs[k].y = y) := ey
      have l1 : (k : Int) < m := by omega
      obtain ⟨w4, hw4⟩ : ∃ w4, wr.alloc (.cells #[.int .i64 x, .int .i64 y] 26) = w4 := ⟨_, rfl⟩
      obtain ⟨G, hG⟩ : ∃ G, wr.heap.size = G := ⟨_, rfl⟩
      have hB4 : Below wr.heap.size wr w4 := by rw [← hw4]; exact alloc_below _ _
      have hB04 : Below w0.heap.size w0 w4 := HB.out.trans (hB4.mono HB.out.size)
      have g0 : w4.cell? ⟨G, 0, none⟩ = some (.int .i64 x) ∧ w4.cell? ⟨G, 1, none⟩ = some (.int .i64 y) := by rw [← hw4, ← hG]; constructor <;> simp [go_sem]
      obtain ⟨g0, g1⟩ := g0
      obtain ⟨f0, f1, f2⟩ := HF.out w4 hB04
      have HB4 : Hid (Below w0.heap.size w0 w4) := hB04
      have hr4 : row vi w4 (some a) l := row_below HR.out (HB0.out.trans (hB04.mono HB0.out.size))
      have HR4 : Hid (row vi w4 (some a) l) := hr4
      clear hB04 hB4 hr4 ex ey
      cases hin : inb W H x y with
      | false =>
        have HIN : Hid (inb W H x y = false) := hin
        have HO : Hid (x < 0 ∨ (W : Int) ≤ x ∨ y < 0 ∨ (H : Int) ≤ y) := by
          unfold inb at hin; unfold Hid; simp at hin; omega
        have HZ : Hid (E = 7) := by unfold Hid; rw [← HE.out]; exact cke_out hkl (by rw [HEX.out, HEY.out]; exact HIN.out)
        clear hin
        go_wp2_with fail
        refine (At_out (W : Int) (H : Int) (some a) (W * H) c l x y _ HR4.out HX.out.2.2.1 (by have := Nat.mul_le_mul HX.out.1.2 HX.out.2.1.2; omega) (ck_ok HX.out.1 HX.out.2.1 HX.out.2.2.1 HX.out.2.2.2) HO.out).mono ?_
        rintro e w5 ⟨rfl, hb5⟩
        have HB5 : Hid (Below w.heap.size w w5) := HB0.out.trans ((HB4.out.trans (hb5.mono HB4.out.size)).mono HB0.out.size)
        clear hb5
        go_wp2_with fail
        go_ret
        exact ⟨by rw [HZ.out]; rfl, HB5.out⟩
      | true =>
        obtain ⟨x', y', rfl, rfl, hx', hy'⟩ := inb_nat hin
        have HIN : Hid (inb W H x' y' = true) := hin
        clear hin
        obtain ⟨Z, hZ⟩ : ∃ Z, l.getD (y' * W + x') 0 = Z := ⟨_, rfl⟩
        have HZ : Hid (l.getD (y' * W + x') 0 = Z) := hZ
        have hbd := sort_bd HX.out.2.2.2 (j := y' * W + x') (by rw [HX.out.2.2.1]; exact pl_lt hx' hy')
        have HBD : Hid (0 ≤ Z ∧ Z ≤ 3) := by unfold pa at hbd; rw [hZ] at hbd; exact hbd
        clear hbd hZ
        by_cases hr1 : Z = 1
        · have HC2 : Hid (co Z = 0) := by subst hr1; unfold Hid; decide
          have HE2 : Hid (ce Z = 9) := by subst hr1; unfold Hid; decide
          have HZ9 : Hid (E = 9) := by
            unfold Hid; rw [← HE.out]
            refine cke_rock hkl (by rw [HEX.out, HEY.out]; exact HIN.out) ?_
            rw [HEX.out, HEY.out]
            show l.getD ((y' : Int).toNat * W + (x' : Int).toNat) 0 = 1
            simp only [Int.toNat_natCast]
            rw [HZ.out]; exact hr1
          clear hr1
          go_wp2_with fail
          refine (At_in W H a c l x' y' Z _ HR4.out HX.out.1 HX.out.2.1 HX.out.2.2.1 HX.out.2.2.2 hx' hy' HZ).mono ?_
          rintro e w5 ⟨rfl, hb5⟩
          have HB5 : Hid (Below w.heap.size w w5) := HB0.out.trans ((HB4.out.trans (hb5.mono HB4.out.size)).mono HB0.out.size)
          clear hb5
          go_wp2_with fail
          refine (Cost_at Z 0 9 _ HC2 HE2).mono ?_
          rintro e w' ⟨rfl, hw⟩; subst w'
          go_wp2_with fail
          go_ret
          exact ⟨by rw [HZ9.out]; rfl, HB5.out⟩
        · obtain ⟨K, hK⟩ : ∃ K, co Z = K := ⟨_, rfl⟩
          have HC2 : Hid (co Z = K) := hK
          have HE2 : Hid (ce Z = 0) := (co_kc HBD.out.1 HBD.out.2 hr1).2
          have HEn : Hid (cke W H l (cs.drop (k + 1)) = E) := by
            unfold Hid
            rw [← HE.out]
            refine (cke_next hkl (by rw [HEX.out, HEY.out]; exact HIN.out) ?_).symm
            rw [HEX.out, HEY.out]
            show l.getD ((y' : Int).toNat * W + (x' : Int).toNat) 0 ≠ 1
            simp only [Int.toNat_natCast]
            rw [HZ.out]; exact hr1
          clear hr1 hK
          go_wp2_with fail
          refine (At_in W H a c l x' y' Z _ HR4.out HX.out.1 HX.out.2.1 HX.out.2.2.1 HX.out.2.2.2 hx' hy' HZ).mono ?_
          rintro e w5 ⟨rfl, hb5⟩
          have HB5 : Hid (Below w0.heap.size w0 w5) := HB4.out.trans (hb5.mono HB4.out.size)
          clear hb5
          go_wp2_with fail
          refine (Cost_at Z K 0 _ HC2 HE2).mono ?_
          rintro e w' ⟨rfl, hw⟩; subst w'
          go_wp2_with fail
          go_roundw
          case rel => exact ⟨k + 1, by go_num, by omega, HB5, HEn⟩
          case measure => simp [intOf]; omega
    · have HZ : Hid (E = 0) := by
        unfold Hid; rw [← HE.out, List.drop_of_length_le (by rw [HM.out]; omega)]; rfl
      go_wp2_with fail
      go_ret
      exact ⟨by rw [HZ.out]; rfl, HB0.out.trans (HB.out.mono HB0.out.size)⟩
end Go.Proofs.Ytkdammmikmljmaa
