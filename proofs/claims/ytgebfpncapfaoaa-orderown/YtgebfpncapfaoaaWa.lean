/- What the small functions of package troop return: Kind, mostLoad, isNoAmount, haveCounts, isOpen; and Ground. -/
import Derived.Test.YtgebfpncapfaoaaRef
import Derived.Laws.ResultCell
import Derived.RangeFuncRecord
namespace Go.Proofs.Ytgebfpncapfaoaa
open Go.RowKit
set_option linter.unusedVariables false

/-- What a kind is: Life, Reach, Harm, Price. -/
def kdv (k : Int) : Value := if k = 1 then .agg #[.int .i64 10, .int .i64 1, .int .i64 1, .int .i64 5] else if k = 2 then .agg #[.int .i64 20, .int .i64 2, .int .i64 4, .int .i64 12] else .agg #[.int .i64 0, .int .i64 0, .int .i64 0, .int .i64 0]
def kde (k : Int) : Int := if k = 1 then 0 else if k = 2 then 0 else 1
theorem set4 {W' : World} {R : Nat} {x y z u x' y' z' u' : Value} {t : TypeId} (hR : W'.heap[R]? = some (.cells #[x, y, z, u] t)) (V : World) (hV : V = (((W'.setCell ⟨R, 0, none⟩ x').setCell ⟨R, 1, none⟩ y').setCell ⟨R, 2, none⟩ z').setCell ⟨R, 3, none⟩ u') :
    V.cell? ⟨R, 0, none⟩ = some x' ∧ V.cell? ⟨R, 1, none⟩ = some y' ∧ V.cell? ⟨R, 2, none⟩ = some z' ∧ V.cell? ⟨R, 3, none⟩ = some u' ∧ ∀ B, B ≤ R → Below B W' V := by
  have hRV : V.heap[R]? = some (.cells #[x', y', z', u'] t) := by
    have h1 := heap_setCell_same W' R 0 _ t x' hR
    have h2 := heap_setCell_same _ R 1 _ t y' h1
    have h3 := heap_setCell_same _ R 2 _ t z' h2
    have h4 := heap_setCell_same _ R 3 _ t u' h3
    rw [hV, h4]; rfl
  refine ⟨by simp [World.cell?, hRV], by simp [World.cell?, hRV], by simp [World.cell?, hRV], by simp [World.cell?, hRV], fun B hB => ?_⟩
  rw [hV]
  exact ((((Below.refl B W').setCell (p := ⟨R, 0, none⟩) hB _).setCell (p := ⟨R, 1, none⟩) hB _).setCell (p := ⟨R, 2, none⟩) hB _).setCell (p := ⟨R, 3, none⟩) hB _
theorem kind_box (w : World) : ∃ w0, w.alloc (.cells #[.int .i64 0, .int .i64 0, .int .i64 0, .int .i64 0] 95) = w0 ∧ Below w.heap.size w w0 ∧ w0.heap[w.heap.size]? = some (.cells #[.int .i64 0, .int .i64 0, .int .i64 0, .int .i64 0] 95) ∧
    w0.cell? ⟨w.heap.size, 0, none⟩ = some (.int .i64 0) ∧ w0.cell? ⟨w.heap.size, 1, none⟩ = some (.int .i64 0) ∧ w0.cell? ⟨w.heap.size, 2, none⟩ = some (.int .i64 0) ∧ w0.cell? ⟨w.heap.size, 3, none⟩ = some (.int .i64 0) ∧ w0.frozen? ⟨w.heap.size, 0, none⟩ = false ∧ w0.frozen? ⟨w.heap.size, 1, none⟩ = false ∧ w0.frozen? ⟨w.heap.size, 2, none⟩ = false ∧ w0.frozen? ⟨w.heap.size, 3, none⟩ = false := by
  have h := World.alloc_heap_new w (.cells #[.int .i64 0, .int .i64 0, .int .i64 0, .int .i64 0] 95)
  obtain ⟨w0, hw0⟩ : ∃ w0, w.alloc (.cells #[.int .i64 0, .int .i64 0, .int .i64 0, .int .i64 0] 95) = w0 := ⟨_, rfl⟩
  rw [hw0] at h
  refine ⟨w0, hw0, by rw [← hw0]; exact alloc_below _ _, h, ?_⟩
  simp [World.cell?, World.frozen?, h]
set_option maxRecDepth 20000 in
set_option maxHeartbeats 400000 in
theorem Kind_any (k : Int) (w : World) : Calls Try.prog 88 #[.int .i64 k] w fun e w' => e = .returned (.tuple #[kdv k, .int .i64 (kde k)]) ∧ Below w.heap.size w w' := by
  by_cases h1 : k = 1
  · subst h1
    obtain ⟨w0, hw0, hB0, hR0, r0, r1, r2, r3, r4, r5, r6, r7⟩ := kind_box w
    have HB : Hid (Below w.heap.size w w0) := hB0
    have HR0 : Hid (w0.heap[w.heap.size]? = some (.cells #[.int .i64 0, .int .i64 0, .int .i64 0, .int .i64 0] 95)) := hR0
    clear hB0 hR0
    go_enter Try.func88, Try.ntmps88
    go_wp2_with fail
    obtain ⟨V, hV⟩ : ∃ V, (((w0.setCell ⟨w.heap.size, 0, none⟩ (.int .i64 10)).setCell ⟨w.heap.size, 1, none⟩ (.int .i64 1)).setCell ⟨w.heap.size, 2, none⟩ (.int .i64 1)).setCell ⟨w.heap.size, 3, none⟩ (.int .i64 5) = V := ⟨_, rfl⟩
    rw [hV]
    have k2 := set4 HR0.out V hV.symm
    refine ⟨by simp, .tuple #[.agg #[.int .i64 10, .int .i64 1, .int .i64 1, .int .i64 5], .int .i64 0], ?_, rfl, ?_⟩
    · rw [results_cell_tmp rfl]
      simp [go_sem, k2.1, k2.2.1, k2.2.2.1, k2.2.2.2.1]
    · exact HB.out.trans (k2.2.2.2.2 w.heap.size (Nat.le_refl _))
  · by_cases h2 : k = 2
    · subst h2
      obtain ⟨w0, hw0, hB0, hR0, r0, r1, r2, r3, r4, r5, r6, r7⟩ := kind_box w
      have HB : Hid (Below w.heap.size w w0) := hB0
      have HR0 : Hid (w0.heap[w.heap.size]? = some (.cells #[.int .i64 0, .int .i64 0, .int .i64 0, .int .i64 0] 95)) := hR0
      clear hB0 hR0
      go_enter Try.func88, Try.ntmps88
      go_wp2_with fail
      obtain ⟨V, hV⟩ : ∃ V, (((w0.setCell ⟨w.heap.size, 0, none⟩ (.int .i64 20)).setCell ⟨w.heap.size, 1, none⟩ (.int .i64 2)).setCell ⟨w.heap.size, 2, none⟩ (.int .i64 4)).setCell ⟨w.heap.size, 3, none⟩ (.int .i64 12) = V := ⟨_, rfl⟩
      rw [hV]
      have k2 := set4 HR0.out V hV.symm
      refine ⟨by simp, .tuple #[.agg #[.int .i64 20, .int .i64 2, .int .i64 4, .int .i64 12], .int .i64 0], ?_, rfl, ?_⟩
      · rw [results_cell_tmp rfl]
        simp [go_sem, k2.1, k2.2.1, k2.2.2.1, k2.2.2.2.1]
      · exact HB.out.trans (k2.2.2.2.2 w.heap.size (Nat.le_refl _))
    · have HK : Hid (kdv k = .agg #[.int .i64 0, .int .i64 0, .int .i64 0, .int .i64 0] ∧ kde k = 1) := by unfold Hid kdv kde; simp [h1, h2]
      obtain ⟨w0, hw0, hB0, hR0, r0, r1, r2, r3, r4, r5, r6, r7⟩ := kind_box w
      have HB : Hid (Below w.heap.size w w0) := hB0
      have HR0 : Hid (w0.heap[w.heap.size]? = some (.cells #[.int .i64 0, .int .i64 0, .int .i64 0, .int .i64 0] 95)) := hR0
      clear hB0 hR0
      go_enter Try.func88, Try.ntmps88
      go_wp2_with fail
      obtain ⟨V, hV⟩ : ∃ V, (((w0.setCell ⟨w.heap.size, 0, none⟩ (.int .i64 0)).setCell ⟨w.heap.size, 1, none⟩ (.int .i64 0)).setCell ⟨w.heap.size, 2, none⟩ (.int .i64 0)).setCell ⟨w.heap.size, 3, none⟩ (.int .i64 0) = V := ⟨_, rfl⟩
      rw [hV]
      have k2 := set4 HR0.out V hV.symm
      refine ⟨by simp, .tuple #[.agg #[.int .i64 0, .int .i64 0, .int .i64 0, .int .i64 0], .int .i64 1], ?_, by rw [HK.out.1, HK.out.2], ?_⟩
      · rw [results_cell_tmp rfl]
        simp [go_sem, k2.1, k2.2.1, k2.2.2.1, k2.2.2.2.1]
      · exact HB.out.trans (k2.2.2.2.2 w.heap.size (Nat.le_refl _))
theorem mostLoad_any (k : Int) (w : World) : Calls Try.prog 89 #[.int .i64 k] w fun e w' => e = .returned (.int .i64 (if k = 2 then 0 else 5)) ∧ w' = w := by
  go_enter Try.func89, Try.ntmps89
  go_wp2
  all_goals
    go_ret
    exact ⟨by simp_all, rfl⟩
/-- No amount. -/
def am (n : Int) : Bool := decide (n < 0) || decide (1000000 < n)
theorem isNoAmount_any (n : Int) (w : World) : Calls Try.prog 80 #[.int .i64 n] w fun e w' => e = .returned (.bool (am n)) ∧ w' = w := by
  go_enter Try.func80, Try.ntmps80
  go_wp2
  all_goals
    go_ret
    exact ⟨by unfold am; simp_all <;> omega, rfl⟩
theorem isNoAmount_asks : Asks 80 am := ⟨Try.call80, fun n b w h => by rw [← h.out]; exact isNoAmount_any n w⟩

theorem wld_below (w : World) (s : Wld) (o : Obj) : Below w.heap.size w (w.alloc o) := alloc_below _ _
/-- The counts are right. -/
def cok (N T : Int) : Bool := decide (1 ≤ N) && decide (N ≤ 1000000) && decide (0 ≤ T) && decide (T ≤ 1000000)
set_option maxRecDepth 20000 in
set_option maxHeartbeats 1000000 in
theorem haveCounts_any (s : Wld) (w : World) : Calls Try.prog 66 #[s.val] w fun e w' => e = .returned (.bool (cok s.N s.T)) ∧ Below w.heap.size w w' := by
  obtain ⟨A, B, p, n, c, l, pb, nb, cb, lb, ps, ns, cs, ls, pm, nm, cm, lm, pt, nt, ct, lt, N, T⟩ := s
  show Calls Try.prog 66 #[.agg #[.int .i64 A, .int .i64 B, .slice p n c, .slice pb nb cb, .slice ps ns cs, .slice pm nm cm, .slice pt nt ct, .int .i64 N, .int .i64 T]] w fun e w' => e = .returned (.bool (cok N T)) ∧ Below w.heap.size w w'
  go_enter Try.func66, Try.ntmps66
  go_wp2
  all_goals
    go_ret
    exact ⟨by unfold cok; simp_all <;> omega, alloc_below _ _⟩

/-- A cell of the field that is no rock. -/
def opn (W H : Nat) (l : List Int) (X Y : Int) : Bool := inb W H X Y && !(l.getD (Y.toNat * W + X.toNat) 0 == 1)
theorem place_lt {W H X Y : Nat} (hX : X < W) (hY : Y < H) : Y * W + X < W * H := by
  have : (Y + 1) * W ≤ H * W := Nat.mul_le_mul_right _ hY
  rw [Nat.add_mul, Nat.mul_comm H W] at this; omega
theorem inb_nat {W H : Nat} {X Y : Int} (h : inb W H X Y = true) : ∃ x y : Nat, X = x ∧ Y = y ∧ x < W ∧ y < H := by
  unfold inb at h
  simp at h
  exact ⟨X.toNat, Y.toNat, by omega, by omega, by omega, by omega⟩
theorem opn_in {W H x y : Nat} {l : List Int} (hx : x < W) (hy : y < H) : opn W H l x y = !(l.getD (y * W + x) 0 == 1) := by
  have : inb W H x y = true := by unfold inb; simp; omega
  unfold opn; rw [this]; simp
theorem opn_out {W H : Nat} {l : List Int} {X Y : Int} (h : inb W H X Y = false) : opn W H l X Y = false := by unfold opn; rw [h]; rfl

set_option maxRecDepth 20000 in
set_option maxHeartbeats 1000000 in
theorem isOpen_in (W H : Nat) (a : Addr) (n c : Nat) (l : List Int) (X Y : Nat) (Z : Int) (w : World) (hr : row vi w (some a) l) (hW : 1 ≤ W ∧ W ≤ 40) (hH : 1 ≤ H ∧ H ≤ 40) (hl : l.length = n) (hn : n = W * H) (hX : X < W) (hY : Y < H) (hZ : Hid (l.getD (Y * W + X) 0 = Z)) :
    Calls Try.prog 81 #[.agg #[.int .i64 (W : Int), .int .i64 (H : Int), .slice (some a) n c], .agg #[.int .i64 (X : Int), .int .i64 (Y : Int)]] w fun e w' => e = .returned (.bool (!(Z == 1))) ∧ Below w.heap.size w w' := by
  have HR : Hid (row vi w (some a) l) := hr
  have HL : Hid (l.length = n) := hl
  have hWH : W * H ≤ 1600 := wh_le hW hH
  obtain ⟨T, hT⟩ : ∃ T : Nat, Y * W = T := ⟨_, rfl⟩
  have hTl : T + X < n := by rw [hn, ← hT]; exact place_lt hX hY
  have hn2 : n ≤ 1600 := by rw [hn]; exact hWH
  clear hr hl hn hWH
  obtain ⟨w0, hw0⟩ : ∃ w0, (w.alloc (.cells #[.int .i64 (W : Int), .int .i64 (H : Int), .slice (some a) n c] 37)).alloc (.cells #[.int .i64 (X : Int), .int .i64 (Y : Int)] 23) = w0 := ⟨_, rfl⟩
  obtain ⟨b0, b1, b2, b3, b4, hb1⟩ := boxes hw0 (Below.refl _ _)
  have HB : Hid (Below w.heap.size w w0) := hb1
  obtain ⟨ad, had, hcl⟩ := row_at (row_below HR.out hb1) (j := T + X) (by rw [HL.out]; exact hTl)
  cases had
  have hZ2 : l[T + X]'(by rw [HL.out]; exact hTl) = Z := by
    rw [← hZ.out, hT, List.getD_eq_getElem?_getD, List.getElem?_eq_getElem (by rw [HL.out]; exact hTl)]; rfl
  rw [hZ2] at hcl
  have hcl' : w0.cell? (a.add (T + X)) = some (.int .i64 Z) := hcl
  have eT : IntKind.i64.wrap ((Y : Int) * (W : Int)) = (T : Int) := by rw [← Int.natCast_mul, hT]; exact wrp (by omega) (by omega)
  obtain ⟨J, hJ⟩ : ∃ J : Nat, T + X = J := ⟨_, rfl⟩
  have eJ : (T : Int) + X = J := by omega
  have eJ2 : IntKind.i64.wrap (J : Int) = J := wrp (by omega) (by omega)
  rw [hJ] at hcl' hTl
  have hJi : (J : Int) < n := by omega
  have HW0 : Hid ((w.alloc (.cells #[.int .i64 (W : Int), .int .i64 (H : Int), .slice (some a) n c] 37)).alloc (.cells #[.int .i64 (X : Int), .int .i64 (Y : Int)] 23) = w0) := hw0
  have hcl2 : ((w.alloc (.cells #[.int .i64 (W : Int), .int .i64 (H : Int), .slice (some a) n c] 37)).alloc (.cells #[.int .i64 (X : Int), .int .i64 (Y : Int)] 23)).cell? (a.add J) = some (.int .i64 Z) := by rw [hw0]; exact hcl'
  have x1 : (X : Int) < W := by omega
  have y1 : (Y : Int) < H := by omega
  clear hb1 hcl hZ2 hT hJ hw0 b0 b1 b2 b3 b4 hcl'
  go_enter Try.func81, Try.ntmps81
  go_wp2_with fail
  rw [HW0.out]
  go_ret
  exact ⟨rfl, HB.out⟩
set_option maxRecDepth 20000 in
set_option maxHeartbeats 1000000 in
theorem isOpen_out (W H : Nat) (p : Option Addr) (n c : Nat) (X Y : Int) (w : World) (hO : inb W H X Y = false) :
    Calls Try.prog 81 #[.agg #[.int .i64 (W : Int), .int .i64 (H : Int), .slice p n c], .agg #[.int .i64 X, .int .i64 Y]] w fun e w' => e = .returned (.bool false) ∧ Below w.heap.size w w' := by
  have hb : Below w.heap.size w ((w.alloc (.cells #[.int .i64 (W : Int), .int .i64 (H : Int), .slice p n c] 37)).alloc (.cells #[.int .i64 X, .int .i64 Y] 23)) := (alloc_below w _).alloc (by simp) _
  have HB : Hid _ := hb
  have HO : Hid (X < 0 ∨ (W : Int) ≤ X ∨ Y < 0 ∨ (H : Int) ≤ Y) := by
    unfold inb at hO; unfold Hid
    apply Classical.byContradiction
    intro h
    simp at hO
    omega
  clear hb hO
  by_cases x0 : X < 0
  · go_enter Try.func81, Try.ntmps81
    go_wp2_with fail
    go_ret
    exact ⟨rfl, HB.out⟩
  by_cases x1 : (W : Int) ≤ X
  · go_enter Try.func81, Try.ntmps81
    go_wp2_with fail
    go_ret
    exact ⟨rfl, HB.out⟩
  by_cases y0 : Y < 0
  · go_enter Try.func81, Try.ntmps81
    go_wp2_with fail
    go_ret
    exact ⟨rfl, HB.out⟩
  have y1 : (H : Int) ≤ Y := by have := HO.out; omega
  go_enter Try.func81, Try.ntmps81
  go_wp2_with fail
  go_ret
  exact ⟨rfl, HB.out⟩
theorem isOpen_at (W H : Nat) (p : Option Addr) (n c : Nat) (l : List Int) (X Y : Int) (b : Bool) (w : World) (hr : row vi w p l) (hW : 1 ≤ W ∧ W ≤ 40) (hH : 1 ≤ H ∧ H ≤ 40) (hl : l.length = n) (hn : n = W * H) (hb : Hid (opn W H l X Y = b)) :
    Calls Try.prog 81 #[.agg #[.int .i64 (W : Int), .int .i64 (H : Int), .slice p n c], .agg #[.int .i64 X, .int .i64 Y]] w fun e w' => e = .returned (.bool b) ∧ Below w.heap.size w w' := by
  rw [← hb.out]
  cases hi : inb W H X Y with
  | false => rw [opn_out hi]; exact isOpen_out W H p n c X Y w hi
  | true =>
    obtain ⟨x, y, rfl, rfl, hx, hy⟩ := inb_nat hi
    rw [opn_in hx hy]
    obtain ⟨a, rfl⟩ := row_some hr (by rw [hl, hn]; exact one_le hW hH)
    exact isOpen_in W H a n c l x y _ w hr hW hH hl hn hx hy rfl

set_option maxRecDepth 20000 in
set_option maxHeartbeats 1000000 in
theorem Ground_at (W H : Nat) (p : Option Addr) (n c : Nat) (l : List Int) (X Y : Int) (b : Bool) (w : World) (hr : row vi w p l) (hW : 1 ≤ W ∧ W ≤ 40) (hH : 1 ≤ H ∧ H ≤ 40) (hl : l.length = n) (hn : n = W * H) (hb : Hid (opn W H l X Y = b)) :
    Calls Try.prog 51 #[.agg #[.int .i64 (W : Int), .int .i64 (H : Int), .slice p n c], .agg #[.int .i64 X, .int .i64 Y]] w fun e w' => e = .returned (.bool b) ∧ Below w.heap.size w w' := by
  rw [← hb.out]
  have HN : Hid (n = W * H) := hn
  clear hn
  obtain ⟨w0, hw0⟩ : ∃ w0, (w.alloc (.cells #[.int .i64 (W : Int), .int .i64 (H : Int), .slice p n c] 37)).alloc (.cells #[.int .i64 X, .int .i64 Y] 23) = w0 := ⟨_, rfl⟩
  have hbx := fun w1 h => boxes (w1 := w1) hw0 h
  have HBX : Hid (∀ w1, Below w0.heap.size w0 w1 → w1.cell? ⟨w.heap.size, 0, none⟩ = some (.int .i64 (W : Int)) ∧ w1.cell? ⟨w.heap.size, 1, none⟩ = some (.int .i64 (H : Int)) ∧ w1.cell? ⟨w.heap.size, 2, none⟩ = some (.slice p n c) ∧ w1.cell? ⟨w.heap.size + 1, 0, none⟩ = some (.int .i64 X) ∧ w1.cell? ⟨w.heap.size + 1, 1, none⟩ = some (.int .i64 Y) ∧ Below w.heap.size w w1) := hbx
  have HR : Hid (row vi w p l) := hr
  have HW0 : Hid ((w.alloc (.cells #[.int .i64 (W : Int), .int .i64 (H : Int), .slice p n c] 37)).alloc (.cells #[.int .i64 X, .int .i64 Y] 23) = w0) := hw0
  clear hw0 hbx hr
  cases hi : inb W H X Y with
  | false =>
    rw [opn_out hi]
    have HI : Hid (inb W H X Y = false) := hi
    clear hi
    go_enter Try.func51, Try.ntmps51
    go_wp2_with fail
    rw [HW0.out]
    refine (In_in W H p n c X Y false _ hW hH HI).mono ?_
    rintro e w1 ⟨rfl, hb1⟩
    obtain ⟨_, _, _, _, _, hb2⟩ := HBX.out w1 hb1
    have HB : Hid (Below w.heap.size w w1) := hb2
    clear hb1 hb2
    go_wp2_with fail
    go_ret
    exact ⟨rfl, HB.out⟩
  | true =>
    obtain ⟨x, y, rfl, rfl, hx, hy⟩ := inb_nat hi
    rw [opn_in hx hy]
    obtain ⟨Z, hZ⟩ : ∃ Z, l.getD (y * W + x) 0 = Z := ⟨_, rfl⟩
    rw [hZ]
    have HZ : Hid (l.getD (y * W + x) 0 = Z) := hZ
    have HI : Hid (inb W H x y = true) := hi
    obtain ⟨a, rfl⟩ := row_some HR.out (by rw [hl, HN.out]; exact one_le hW hH)
    have HP : Hid (∀ w1, row vi w1 (some a) l → Calls Try.prog 71 #[.agg #[.int .i64 (W : Int), .int .i64 (H : Int), .slice (some a) n c], .agg #[.int .i64 (x : Int), .int .i64 (y : Int)]] w1 fun e w' => e = .returned (.int .i64 Z) ∧ Below w1.heap.size w1 w') := fun w1 h1 => by
      have := PlaceOf_in W H a c l x y Z w1 h1 hW hH (hl.trans HN.out) hx hy HZ
      rw [← HN.out] at this; exact this
    have HX : Hid (x < W) := hx
    have HY : Hid (y < H) := hy
    clear hi hZ hx hy hl
    go_enter Try.func51, Try.ntmps51
    go_wp2_with fail
    rw [HW0.out]
    refine (In_in W H (some a) n c x y true _ hW hH HI).mono ?_
    rintro e w1 ⟨rfl, hb1⟩
    obtain ⟨b0, b1, b2, b3, b4, hb2⟩ := HBX.out w1 hb1
    have HB : Hid (Below w.heap.size w w1) := hb2
    clear hb1 hb2
    go_wp2_with fail
    refine (HP.out _ (row_below HR.out HB.out)).mono ?_
    rintro e w2 ⟨rfl, hb3⟩
    have HB2 : Hid (Below w.heap.size w w2) := below_step HB.out HB.out.size hb3
    clear hb3
    go_wp2_with fail
    go_ret
    exact ⟨rfl, HB2.out⟩
end Go.Proofs.Ytgebfpncapfaoaa
