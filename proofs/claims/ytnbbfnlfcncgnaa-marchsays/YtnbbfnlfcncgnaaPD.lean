/- The document's own way -/
import Derived.Test.YtnbbfnlfcncgnaaRef
import Derived.Test.YtnbbfnlfcncgnaaCr
import Derived.Test.YtnbbfnlfcncgnaaPB
import Derived.Test.YtnbbfnlfcncgnaaPC
import Derived.Deep.LoopGhost
import Derived.Laws.EntriesVeiled
/- The document's own answer: what a place costs, which cells are beside one. -/
namespace Go.Proofs.Ytnbbfnlfcncgnaa
open Go.RowKit
set_option linter.unusedVariables false

/-- What CostOf returns of a sort. -/
def cof (p : Int) : Int := if p = 1 then -1 else kc p
set_option maxRecDepth 20000 in
theorem CostOf_any (p : Int) (w : World) (h0 : 0 ≤ p) (h3 : p ≤ 3) : Calls Try.prog 71 #[.int .i64 p] w fun e w' => e = .returned (.int .i64 (cof p)) ∧ Below w.heap.size w w' := by
  have hp : p = 0 ∨ p = 1 ∨ p = 2 ∨ p = 3 := by omega
  rcases hp with rfl | rfl | rfl | rfl
  all_goals
    go_enter Try.func71, Try.ntmps71
    go_wp2_with fail
    go_ret
    exact ⟨rfl, alloc_below _ _⟩
theorem CostOf_at (p K : Int) (w : World) (h0 : 0 ≤ p) (h3 : p ≤ 3) (hK : Hid (cof p = K)) : Calls Try.prog 71 #[.int .i64 p] w fun e w' => e = .returned (.int .i64 K) ∧ Below w.heap.size w w' := by rw [← hK.out]; exact CostOf_any p w h0 h3
/-- The four cells beside one. -/
def four (X Y : Int) : List Cel := [⟨X, Y - 1⟩, ⟨X - 1, Y⟩, ⟨X + 1, Y⟩, ⟨X, Y + 1⟩]
theorem four_at (X Y : Int) {k : Nat} (hk : k < 4) : (four X Y)[k]? = some ⟨bX X k, bY Y k⟩ := by
  match k, hk with
  | 0, _ => rfl
  | 1, _ => rfl
  | 2, _ => rfl
  | 3, _ => rfl
/-- Those of the first k that are in the field. -/
def bsd (W H : Nat) (X Y : Int) (k : Nat) : List Cel := ((four X Y).take k).filter fun c => inb W H c.x c.y
theorem bsd_yes {W H : Nat} {X Y : Int} {k : Nat} (hk : k < 4) (h : inb W H (bX X k) (bY Y k) = true) : bsd W H X Y (k + 1) = bsd W H X Y k ++ [⟨bX X k, bY Y k⟩] := by
  unfold bsd
  have hl : k < (four X Y).length := hk
  have e : (four X Y)[k] = ⟨bX X k, bY Y k⟩ := by have := four_at X Y hk; rw [List.getElem?_eq_getElem hl] at this; exact Option.some.inj this
  rw [List.take_succ_eq_append_getElem hl, List.filter_append, e]
  simp [h]
theorem bsd_no {W H : Nat} {X Y : Int} {k : Nat} (hk : k < 4) (h : inb W H (bX X k) (bY Y k) = false) : bsd W H X Y (k + 1) = bsd W H X Y k := by
  unfold bsd
  have hl : k < (four X Y).length := hk
  have e : (four X Y)[k] = ⟨bX X k, bY Y k⟩ := by have := four_at X Y hk; rw [List.getElem?_eq_getElem hl] at this; exact Option.some.inj this
  rw [List.take_succ_eq_append_getElem hl, List.filter_append, e]
  simp [h]
theorem bsd_len (W H : Nat) (X Y : Int) (k : Nat) : (bsd W H X Y k).length ≤ 4 := by
  unfold bsd
  exact Nat.le_trans (List.length_filter_le _ _) (by rw [List.length_take]; exact Nat.min_le_right _ _)
theorem four_row (w : World) (X Y : Int) : crow (w.alloc (.cells #[.int .i64 X, .int .i64 (Y - 1), .int .i64 (X - 1), .int .i64 Y, .int .i64 (X + 1), .int .i64 Y, .int .i64 X, .int .i64 (Y + 1)] 31)) (some ⟨w.heap.size, 0, none⟩) (four X Y) := by
  intro j c hj
  refine ⟨_, rfl, ?_⟩
  rw [add_zero_at, add_zero_at]
  match j, hj with
  | 0, hj => simp [four] at hj; rw [← hj]; constructor <;> simp [go_sem]
  | 1, hj => simp [four] at hj; rw [← hj]; constructor <;> simp [go_sem]
  | 2, hj => simp [four] at hj; rw [← hj]; constructor <;> simp [go_sem]
  | 3, hj => simp [four] at hj; rw [← hj]; constructor <;> simp [go_sem]
  | (k + 4), hj => simp [four] at hj
set_option maxRecDepth 20000 in
set_option maxHeartbeats 2000000 in
theorem Beside_any (W H : Nat) (a : Option Addr) (n c : Nat) (X Y : Nat) (w : World) (hW : 1 ≤ W ∧ W ≤ 40) (hH : 1 ≤ H ∧ H ≤ 40) (hX : X ≤ 1000000) (hY : Y ≤ 1000000) :
    Calls Try.prog 68 #[.agg #[.int .i64 (W : Int), .int .i64 (H : Int), .slice a n c], .agg #[.int .i64 (X : Int), .int .i64 (Y : Int)]] w fun e w' => ∃ v, e = .returned v ∧ minec w.heap.size w' v (bsd W H X Y 4) ∧ Below w.heap.size w w' := by
  obtain ⟨F, hF⟩ : ∃ F, w.heap.size = F := ⟨_, rfl⟩
  obtain ⟨w0, hw0⟩ : ∃ w0, (w.alloc (.cells #[.int .i64 (W : Int), .int .i64 (H : Int), .slice a n c] 24)).alloc (.cells #[.int .i64 (X : Int), .int .i64 (Y : Int)] 31) = w0 := ⟨_, rfl⟩
  have HW : Hid ((1 ≤ W ∧ W ≤ 40) ∧ (1 ≤ H ∧ H ≤ 40)) := ⟨hW, hH⟩
  have HBX : Hid (∀ V, Below w0.heap.size w0 V → V.cell? ⟨F, 0, none⟩ = some (.int .i64 (W : Int)) ∧ V.cell? ⟨F, 1, none⟩ = some (.int .i64 (H : Int)) ∧ V.cell? ⟨F, 2, none⟩ = some (.slice a n c) ∧ V.cell? ⟨F + 1, 0, none⟩ = some (.int .i64 (X : Int)) ∧ V.cell? ⟨F + 1, 1, none⟩ = some (.int .i64 (Y : Int))) := by
    intro V hV
    obtain ⟨h1, h2, h3, h4, h5, _⟩ := boxes hw0 hV
    rw [← hF]; exact ⟨h1, h2, h3, h4, h5⟩
  have HB0 : Hid (Below w.heap.size w w0) := by rw [← hw0]; exact (alloc_below w _).alloc (by simp) _
  obtain ⟨z0, z1, z2, z3, z4⟩ := HBX.out w0 (Below.refl _ _)
  clear hW hH
  go_enter Try.func68, Try.ntmps68
  go_wp2_with fail
  obtain ⟨w1, hw1⟩ : ∃ w1, w0.alloc (.cells #[.int .i64 (X : Int), .int .i64 ((Y : Int) - 1), .int .i64 ((X : Int) - 1), .int .i64 (Y : Int), .int .i64 ((X : Int) + 1), .int .i64 (Y : Int), .int .i64 (X : Int), .int .i64 ((Y : Int) + 1)] 31) = w1 := ⟨_, rfl⟩
  have hb1 : Below w0.heap.size w0 w1 := by rw [← hw1]; exact alloc_below _ _
  have HR1 : Hid (crow w1 (some ⟨w0.heap.size, 0, none⟩) (four X Y)) := by rw [← hw1]; exact four_row _ _ _
  have HB1 : Hid (Below w0.heap.size w0 w1) := hb1
  rw [hw1]
  clear hb1 hw1 hw0 z0 z1 z2 z3 z4
  go_loopw [5, 34] (fun v i wr => ∃ (k : Nat), i = .int .i64 k ∧ k ≤ 4 ∧ Hid (minec w1.heap.size wr v (bsd W H X Y k) ∧ Below w1.heap.size w1 wr)) (fun _ i _ => 4 - (intOf i).toNat)
  case atStart => exact ⟨0, rfl, by omega, minec_nil _ _, Below.refl _ _⟩
  case round =>
    obtain ⟨k, rfl, hk, HS⟩ := hrel
    by_cases hlt : k < 4
    · obtain ⟨b, eb, hx, hy⟩ := crow_below HR1.out HS.out.2 k _ (four_at (X : Int) (Y : Int) hlt)
      cases eb
      obtain ⟨x, ex⟩ : ∃ x, bX (X : Int) k = x := ⟨_, rfl⟩
      obtain ⟨y, ey⟩ : ∃ y, bY (Y : Int) k = y := ⟨_, rfl⟩
      rw [add_zero_at] at hx hy
      simp only [ex, ey] at hx hy
      have HEX : Hid (bX (X : Int) k = x ∧ bY (Y : Int) k = y) := ⟨ex, ey⟩
      have l1 : (k : Int) < 4 := by omega
      obtain ⟨w5, hw5⟩ : ∃ w5, wr.alloc (.cells #[.int .i64 x, .int .i64 y] 31) = w5 := ⟨_, rfl⟩
      obtain ⟨G, hG⟩ : ∃ G, wr.heap.size = G := ⟨_, rfl⟩
      have hb5 : Below wr.heap.size wr w5 := by rw [← hw5]; exact alloc_below _ _
      have g0 : w5.cell? ⟨G, 0, none⟩ = some (.int .i64 x) ∧ w5.cell? ⟨G, 1, none⟩ = some (.int .i64 y) := by rw [← hw5, ← hG]; constructor <;> simp [go_sem]
      obtain ⟨g0, g1⟩ := g0
      have HS5 : Hid (minec w1.heap.size w5 u5 (bsd W H X Y k) ∧ Below w1.heap.size w1 w5) := ⟨minec_below HS.out.1 hb5, HS.out.2.trans (hb5.mono HS.out.2.size)⟩
      obtain ⟨z0, z1, z2, z3, z4⟩ := HBX.out w5 (HB1.out.trans (HS5.out.2.mono HB1.out.size))
      clear hb5 ex ey
      cases hin : inb W H x y with
      | false =>
        have HIN : Hid (inb W H x y = false) := hin
        clear hin
        go_wp2_with fail
        refine (In_in W H a n c x y false w5 HW.out.1 HW.out.2 HIN).mono ?_
        rintro e w6 ⟨rfl, hb6⟩
        have HS6 : Hid (minec w1.heap.size w6 u5 (bsd W H X Y (k + 1)) ∧ Below w1.heap.size w1 w6) := by
          rw [bsd_no hlt (by rw [HEX.out.1, HEX.out.2]; exact HIN.out)]
          exact ⟨minec_below HS5.out.1 hb6, HS5.out.2.trans (hb6.mono HS5.out.2.size)⟩
        clear hb6
        go_wp2_with fail
        go_roundw
        case rel => exact ⟨k + 1, by go_num, by omega, HS6⟩
        case measure => simp [intOf]; omega
      | true =>
        have HIN : Hid (inb W H x y = true) := hin
        clear hin
        go_wp2_with fail
        refine (In_in W H a n c x y true w5 HW.out.1 HW.out.2 HIN).mono ?_
        rintro e w6 ⟨rfl, hb6⟩
        have h6 : minec w1.heap.size w6 u5 (bsd W H X Y k) ∧ Below w1.heap.size w1 w6 := ⟨minec_below HS5.out.1 hb6, HS5.out.2.trans (hb6.mono HS5.out.2.size)⟩
        have p0 : w6.cell? ⟨G, 0, none⟩ = some (.int .i64 x) := (hb6.cell (p := ⟨G, 0, none⟩) (cell_lt g0)).trans g0
        have p1 : w6.cell? ⟨G, 1, none⟩ = some (.int .i64 y) := (hb6.cell (p := ⟨G, 1, none⟩) (cell_lt g1)).trans g1
        have hb7 := alloc_below w6 (.cells #[.int .i64 x, .int .i64 y] 31)
        obtain ⟨v7, w7, hrun, hm7, hg7⟩ := run_more (d := 1) (m := 1) 25 (minec_below h6.1 hb7) (crow_one w6 x y) rfl (fun h => by cases h) (by have := bsd_len W H X Y k; omega) (by have := h6.2.size; simp; omega)
        have HRun : Hid ((Builtin.append_ #[25, 25] 25 #[u5, .slice (some ⟨w6.heap.size, 0, none⟩) 1 1]).run Try.prog (w6.alloc (.cells #[.int .i64 x, .int .i64 y] 31)) = .ok v7 w7) := hrun
        have HS7 : Hid (minec w1.heap.size w7 v7 (bsd W H X Y (k + 1)) ∧ Below w1.heap.size w1 w7) := by
          refine ⟨?_, ?_⟩
          · rw [bsd_yes hlt (by rw [HEX.out.1, HEX.out.2]; exact HIN.out), HEX.out.1, HEX.out.2]; exact hm7
          · exact (h6.2.alloc h6.2.size _).grown hg7 (by have := h6.2.size; simp; omega) (fun k' hk' => (World.ownsRow.lt h6.1 k' hk').1)
        clear hb6 h6 hb7 hrun hm7 hg7 g0 g1
        go_wp2_with (at_builtin; refine wpList_append_run rfl _ _ 25 rfl u5 (.slice (some ⟨w6.heap.size, 0, none⟩) 1 1) rfl rfl HRun.out ?_)
        go_wp2_with fail
        go_roundw
        case rel => exact ⟨k + 1, by go_num, by omega, HS7⟩
        case measure => simp [intOf]; omega
    · obtain rfl : k = 4 := by omega
      go_wp2_with fail
      go_ret
      refine ⟨_, rfl, ?_, ?_⟩
      · have h := HS.out.1
        refine ⟨h.1, ?_⟩
        rcases h.2 with h0 | ⟨g', cap', cur, hv, hB, hr⟩
        · exact .inl h0
        · exact .inr ⟨g', cap', cur, hv, Nat.le_trans (Nat.le_trans HB0.out.size HB1.out.size) hB, hr⟩
      · exact HB0.out.trans ((HB1.out.trans (HS.out.2.mono HB1.out.size)).mono HB0.out.size)
end Go.Proofs.Ytnbbfnlfcncgnaa
/- What the functions within the document's own answer return. -/
namespace Go.Proofs.Ytnbbfnlfcncgnaa
open Go.RowKit
set_option linter.unusedVariables false
set_option linter.unusedSimpArgs false

set_option maxRecDepth 20000 in
set_option maxHeartbeats 1000000 in
theorem wat_any (W H X Y i P10 F g : Nat) (D : Int) (w : World) (hi : Hid (Y * W + X = i)) (hb : i ≤ 1000000) (hil : i < W * H) (h0 : w.cell? ⟨P10, 0, none⟩ = some (.slice (some ⟨g, 0, none⟩) (W * H) (W * H))) (h1 : w.cell? ⟨F, 0, none⟩ = some (.int .i64 (W : Int))) (hc : w.cell? ⟨g, i, none⟩ = some (.int .i64 D)) :
    Calls Try.prog 67 #[.agg #[.int .i64 (X : Int), .int .i64 (Y : Int)], .pointer (some ⟨P10, 0, none⟩), .pointer (some ⟨F, 0, none⟩)] w fun e w' => e = .returned (.int .i64 D) ∧ Below w.heap.size w w' := by
  obtain ⟨G, hG⟩ : ∃ G, w.heap.size = G := ⟨_, rfl⟩
  obtain ⟨w0, hw0⟩ : ∃ w0, w.alloc (.cells #[.int .i64 (X : Int), .int .i64 (Y : Int)] 31) = w0 := ⟨_, rfl⟩
  have hb0 : Below w.heap.size w w0 := by rw [← hw0]; exact alloc_below _ _
  obtain ⟨z0, z1⟩ : w0.cell? ⟨G, 0, none⟩ = some (.int .i64 (X : Int)) ∧ w0.cell? ⟨G, 1, none⟩ = some (.int .i64 (Y : Int)) := by rw [← hw0, ← hG]; constructor <;> simp [go_sem]
  have z2 : w0.cell? ⟨P10, 0, none⟩ = some (.slice (some ⟨g, 0, none⟩) (W * H) (W * H)) := (hb0.cell (p := ⟨P10, 0, none⟩) (cell_lt h0)).trans h0
  have z3 : w0.cell? ⟨F, 0, none⟩ = some (.int .i64 (W : Int)) := (hb0.cell (p := ⟨F, 0, none⟩) (cell_lt h1)).trans h1
  have z4 : w0.cell? ⟨g, i, none⟩ = some (.int .i64 D) := (hb0.cell (p := ⟨g, i, none⟩) (cell_lt hc)).trans hc
  have HB0 : Hid (Below w.heap.size w w0) := hb0
  obtain ⟨P, hP⟩ : ∃ P : Nat, Y * W = P := ⟨_, rfl⟩
  have hPi : P + X = i := by rw [← hP]; exact hi.out
  have eP : IntKind.i64.wrap ((Y : Int) * (W : Int)) = (P : Int) := by rw [← Int.natCast_mul, hP]; exact wrp (by omega) (by omega)
  have eJ : (P : Int) + X = i := by omega
  have eJ2 : IntKind.i64.wrap (i : Int) = i := wrp (by omega) (by omega)
  have i1 : (i : Int) < W * H := by omega
  have i2 : (0 : Int) ≤ i := by omega
  clear hi hPi hP h0 h1 hc hb0
  go_enter Try.func67, Try.ntmps67
  go_wp2_with fail
  go_ret
  exact ⟨rfl, HB0.out⟩
/-- What IndexFunc does with whatever is asked of a cell. -/
theorem IndexFuncc_any (p : Option Addr) (n c f : Nat) (cap : Array Value) (L : List Cel) (b : Nat → Bool) (J : Nat) (w : World) (hn : L.length = n) (hm : n ≤ 4000000) (h1 : crow w p L) (hJ : J < n) (hb : b J = true) (hbi : ∀ i, i < J → b i = false)
    (hf : Hid (∀ i x y, L[i]? = some ⟨x, y⟩ → ∀ V, Below w.heap.size w V → Calls Try.prog 70 #[.agg #[.int .i64 x, .int .i64 y], cap[0]!, cap[1]!, cap[2]!] V fun e w' => e = .returned (.bool (b i)) ∧ Below V.heap.size V w')) :
    Calls Try.prog 69 #[.slice p n c, .func (.func 70) #[] #[cap[0]!, cap[1]!, cap[2]!]] w fun e w' => e = .returned (.int .i64 (J : Int)) ∧ Below w.heap.size w w' := by
  obtain ⟨k0, hk0⟩ : ∃ k, cap[0]! = k := ⟨_, rfl⟩
  obtain ⟨k1, hk1⟩ : ∃ k, cap[1]! = k := ⟨_, rfl⟩
  obtain ⟨k2, hk2⟩ : ∃ k, cap[2]! = k := ⟨_, rfl⟩
  rw [hk0, hk1, hk2] at hf ⊢
  have H1 : Hid (crow w p L) := h1
  have HN : Hid (L.length = n) := hn
  have HBI : Hid (b J = true ∧ ∀ i, i < J → b i = false) := ⟨hb, hbi⟩
  clear h1 hn hk0 hk1 hk2 hb hbi
  go_enter Try.func69, Try.ntmps69
  go_wp2_with fail
  go_loopw [8] (fun i wr => ∃ k : Nat, i = .int .i64 k ∧ k ≤ J ∧ Hid (Below w.heap.size w wr)) (fun i _ => n - (intOf i).toNat)
  case atStart => exact ⟨0, rfl, by omega, Below.refl _ _⟩
  case round =>
    obtain ⟨k, rfl, hk, HS⟩ := hrel
    have hkl : k < L.length := by rw [HN.out]; omega
    obtain ⟨⟨x, y⟩, hxy⟩ : ∃ q, L[k]? = some q := ⟨_, List.getElem?_eq_getElem hkl⟩
    obtain ⟨ad, rfl, ha, hay⟩ := crow_below H1.out HS.out k _ hxy
    have hay' : wr.cell? ⟨(ad.add (k * 2)).block, (ad.add (k * 2)).off + 1, none⟩ = some (.int .i64 y) := cell_two hay
    have HXY : Hid (L[k]? = some ⟨x, y⟩) := hxy
    have l1 : (k : Int) < n := by omega
    have l2 : (0 : Int) ≤ k := by omega
    clear hxy hay
    by_cases hlt : k = J
    · subst hlt
      go_wp2_with fail
      refine (hf.out k x y HXY.out wr HS.out).mono ?_
      rintro e w1 ⟨rfl, hb1⟩
      have HB1 : Hid (Below w.heap.size w w1) := HS.out.trans (hb1.mono HS.out.size)
      have hbk := HBI.out.1
      rw [hbk]
      clear hb1 ha hay' hbk
      go_wp2_with fail
      go_ret
      exact ⟨rfl, HB1.out⟩
    · go_wp2_with fail
      refine (hf.out k x y HXY.out wr HS.out).mono ?_
      rintro e w1 ⟨rfl, hb1⟩
      have HB1 : Hid (Below w.heap.size w w1) := HS.out.trans (hb1.mono HS.out.size)
      have hbk := HBI.out.2 k (by omega)
      rw [hbk]
      clear hb1 ha hay' hbk
      go_wp2_with fail
      go_roundw
      case rel => exact ⟨k + 1, by go_num, by omega, HB1⟩
      case measure => simp [intOf]; omega
set_option maxRecDepth 20000 in
set_option maxHeartbeats 2000000 in
theorem wtest_any (W H X Y x y I j P10 F B12 C g : Nat) (a : Addr) (cp : Nat) (l : List Int) (Z K D E : Int) (w : World) (hI : Hid (Y * W + X = I)) (hj : Hid (y * W + x = j)) (hIl : I < W * H) (hjl : j < W * H) (hN : W * H ≤ 1600) (hX : X < W) (hY : Y < H) (hW : 1 ≤ W ∧ W ≤ 40) (hH : 1 ≤ H ∧ H ≤ 40)
    (hZ : Hid (l.getD (Y * W + X) 0 = Z)) (hzb : 0 ≤ Z ∧ Z ≤ 3) (hz1 : Z ≠ 1) (hK : Hid (kc Z = K)) (hDb : -1 ≤ D ∧ D ≤ 4800) (hEb : -1 ≤ E ∧ E ≤ 4800)
    (hr : row vi w (some a) l) (hl : l.length = W * H) (h0 : w.cell? ⟨P10, 0, none⟩ = some (.slice (some ⟨g, 0, none⟩) (W * H) (W * H))) (h1 : w.cell? ⟨F, 0, none⟩ = some (.int .i64 (W : Int))) (h2 : w.cell? ⟨F, 1, none⟩ = some (.int .i64 (H : Int))) (h3 : w.cell? ⟨F, 2, none⟩ = some (.slice (some a) (W * H) cp))
    (h4 : w.cell? ⟨B12, 0, none⟩ = some (.func (.func 67) #[] #[.pointer (some ⟨P10, 0, none⟩), .pointer (some ⟨F, 0, none⟩)])) (h5 : w.cell? ⟨C, 0, none⟩ = some (.int .i64 (X : Int))) (h6 : w.cell? ⟨C, 1, none⟩ = some (.int .i64 (Y : Int))) (h7 : w.cell? ⟨g, I, none⟩ = some (.int .i64 D)) (h8 : w.cell? ⟨g, j, none⟩ = some (.int .i64 E)) :
    Calls Try.prog 70 #[.agg #[.int .i64 (x : Int), .int .i64 (y : Int)], .pointer (some ⟨B12, 0, none⟩), .pointer (some ⟨F, 0, none⟩), .pointer (some ⟨C, 0, none⟩)] w fun e w' => e = .returned (.bool (decide (0 ≤ E) && decide (E + K = D))) ∧ Below w.heap.size w w' := by
  obtain ⟨G, hG⟩ : ∃ G, w.heap.size = G := ⟨_, rfl⟩
  obtain ⟨w0, hw0⟩ : ∃ w0, w.alloc (.cells #[.int .i64 (x : Int), .int .i64 (y : Int)] 31) = w0 := ⟨_, rfl⟩
  have hb0 : Below w.heap.size w w0 := by rw [← hw0]; exact alloc_below _ _
  obtain ⟨g0, g1⟩ : w0.cell? ⟨G, 0, none⟩ = some (.int .i64 (x : Int)) ∧ w0.cell? ⟨G, 1, none⟩ = some (.int .i64 (y : Int)) := by rw [← hw0, ← hG]; constructor <;> simp [go_sem]
  have k0 : ∀ {q : Addr} {u : Value}, w.cell? q = some u → w0.cell? q = some u := fun h => (hb0.cell (cell_lt h)).trans h
  have t0 := k0 h4
  have t1 := k0 h1
  have t2 := k0 h2
  have t3 := k0 h3
  have t4 := k0 h5
  have t5 := k0 h6
  have HC1 : Hid (∀ V, Below w0.heap.size w0 V → Calls Try.prog 67 #[.agg #[.int .i64 (x : Int), .int .i64 (y : Int)], .pointer (some ⟨P10, 0, none⟩), .pointer (some ⟨F, 0, none⟩)] V fun e w' => e = .returned (.int .i64 E) ∧ Below V.heap.size V w') := by
    intro V hV
    have k1 : ∀ {q : Addr} {u : Value}, w.cell? q = some u → V.cell? q = some u := fun h => (hV.cell (cell_lt (k0 h))).trans (k0 h)
    exact wat_any W H x y j P10 F g E V hj (by omega) hjl (k1 h0) (k1 h1) (k1 h8)
  have HC2 : Hid (∀ V, Below w0.heap.size w0 V → Calls Try.prog 67 #[.agg #[.int .i64 (X : Int), .int .i64 (Y : Int)], .pointer (some ⟨P10, 0, none⟩), .pointer (some ⟨F, 0, none⟩)] V fun e w' => e = .returned (.int .i64 D) ∧ Below V.heap.size V w') := by
    intro V hV
    have k1 : ∀ {q : Addr} {u : Value}, w.cell? q = some u → V.cell? q = some u := fun h => (hV.cell (cell_lt (k0 h))).trans (k0 h)
    exact wat_any W H X Y I P10 F g D V hI (by omega) hIl (k1 h0) (k1 h1) (k1 h7)
  have HPO : Hid (∀ V, Below w0.heap.size w0 V → Calls Try.prog 65 #[.agg #[.int .i64 (W : Int), .int .i64 (H : Int), .slice (some a) (W * H) cp], .agg #[.int .i64 (X : Int), .int .i64 (Y : Int)]] V fun e w' => e = .returned (.int .i64 Z) ∧ Below V.heap.size V w') :=
    fun V hV => PlaceOf_in W H a cp l X Y Z V (row_below (row_below hr hb0) hV) hW hH hl hX hY hZ
  have HCO : Hid (∀ V, Below w0.heap.size w0 V → Calls Try.prog 71 #[.int .i64 Z] V fun e w' => e = .returned (.int .i64 K) ∧ Below V.heap.size V w') :=
    fun V hV => CostOf_at Z K V hzb.1 hzb.2 (by unfold Hid cof; rw [if_neg hz1]; exact hK.out)
  have hkb := kc_bd Z
  rw [hK.out] at hkb
  have HB0 : Hid (Below w.heap.size w w0) := hb0
  clear h0 h1 h2 h3 h4 h5 h6 h7 h8 hr hl hb0 hZ hK k0 hzb hz1 hW hH hX hY hI hj
  go_enter Try.func70, Try.ntmps70
  by_cases hpos : 0 ≤ E
  · have d1 : decide (0 ≤ E) = true := by simp [hpos]
    have d3 : IntKind.i64.wrap (E + K) = E + K := wrp (by omega) (by omega)
    by_cases heq : E + K = D
    · have d2 : (E + K == D) = true := by simp [heq]
      have HQ : Hid ((decide (0 ≤ E) && decide (E + K = D)) = true) := by unfold Hid; simp [hpos, heq]
      rw [HQ.out]
      clear heq
      go_wp2_with fail
      clear hw0
      go_region_held3 (fun V => Below w0.heap.size w0 V ∧ V.cell? ⟨B12, 0, none⟩ = some (.func (.func 67) #[] #[.pointer (some ⟨P10, 0, none⟩), .pointer (some ⟨F, 0, none⟩)]) ∧ V.cell? ⟨G, 0, none⟩ = some (.int .i64 (x : Int)) ∧ V.cell? ⟨G, 1, none⟩ = some (.int .i64 (y : Int)) ∧ V.cell? ⟨F, 0, none⟩ = some (.int .i64 (W : Int)) ∧ V.cell? ⟨F, 1, none⟩ = some (.int .i64 (H : Int)) ∧ V.cell? ⟨F, 2, none⟩ = some (.slice (some a) (W * H) cp) ∧ V.cell? ⟨C, 0, none⟩ = some (.int .i64 (X : Int)) ∧ V.cell? ⟨C, 1, none⟩ = some (.int .i64 (Y : Int))) (first | with_reducible assumption | with_reducible exact pk8_drew (by assumption) | with_reducible exact k8_drewN (by assumption) _ | with_reducible exact pk8_call (by assumption) (by assumption) | exact ⟨Below.drew (Below.refl _ _), t0, g0, g1, t1, t2, t3, t4, t5⟩) (first
        | (go_at_call 67; with_reducible refine (HC1.out _ (And.left (by assumption))).mono ?_; rintro e w5 ⟨rfl, hb5⟩)
        | (go_at_call 67; with_reducible refine (HC2.out _ (And.left (by assumption))).mono ?_; rintro e w9 ⟨rfl, hb9⟩)
        | (go_at_call 65; with_reducible refine (HPO.out _ (And.left (by assumption))).mono ?_; rintro e w6 ⟨rfl, hb6⟩)
        | (go_at_call 71; with_reducible refine (HCO.out _ (And.left (by assumption))).mono ?_; rintro e w7 ⟨rfl, hb7⟩))
      have HBV : Hid (Below w0.heap.size w0 w9) := And.left (by assumption)
      go_wp2_with fail
      go_ret
      exact ⟨rfl, HB0.out.trans (HBV.out.mono HB0.out.size)⟩
    · have d2 : (E + K == D) = false := by simp [heq]
      have HQ : Hid ((decide (0 ≤ E) && decide (E + K = D)) = false) := by unfold Hid; simp [heq]
      rw [HQ.out]
      clear heq
      go_wp2_with fail
      clear hw0
      go_region_held3 (fun V => Below w0.heap.size w0 V ∧ V.cell? ⟨B12, 0, none⟩ = some (.func (.func 67) #[] #[.pointer (some ⟨P10, 0, none⟩), .pointer (some ⟨F, 0, none⟩)]) ∧ V.cell? ⟨G, 0, none⟩ = some (.int .i64 (x : Int)) ∧ V.cell? ⟨G, 1, none⟩ = some (.int .i64 (y : Int)) ∧ V.cell? ⟨F, 0, none⟩ = some (.int .i64 (W : Int)) ∧ V.cell? ⟨F, 1, none⟩ = some (.int .i64 (H : Int)) ∧ V.cell? ⟨F, 2, none⟩ = some (.slice (some a) (W * H) cp) ∧ V.cell? ⟨C, 0, none⟩ = some (.int .i64 (X : Int)) ∧ V.cell? ⟨C, 1, none⟩ = some (.int .i64 (Y : Int))) (first | with_reducible assumption | with_reducible exact pk8_drew (by assumption) | with_reducible exact k8_drewN (by assumption) _ | with_reducible exact pk8_call (by assumption) (by assumption) | exact ⟨Below.drew (Below.refl _ _), t0, g0, g1, t1, t2, t3, t4, t5⟩) (first
        | (go_at_call 67; with_reducible refine (HC1.out _ (And.left (by assumption))).mono ?_; rintro e w5 ⟨rfl, hb5⟩)
        | (go_at_call 67; with_reducible refine (HC2.out _ (And.left (by assumption))).mono ?_; rintro e w9 ⟨rfl, hb9⟩)
        | (go_at_call 65; with_reducible refine (HPO.out _ (And.left (by assumption))).mono ?_; rintro e w6 ⟨rfl, hb6⟩)
        | (go_at_call 71; with_reducible refine (HCO.out _ (And.left (by assumption))).mono ?_; rintro e w7 ⟨rfl, hb7⟩))
      have HBV : Hid (Below w0.heap.size w0 w9) := And.left (by assumption)
      go_wp2_with fail
      go_ret
      exact ⟨rfl, HB0.out.trans (HBV.out.mono HB0.out.size)⟩
  · have d1 : decide (0 ≤ E) = false := by simp; omega
    have HQ : Hid ((decide (0 ≤ E) && decide (E + K = D)) = false) := by unfold Hid; simp [hpos]
    rw [HQ.out]
    clear hpos
    go_wp2_with fail
    clear hw0
    refine wp_region_noPanic ?_
    refine wp_region_held_drew (S := (fun V => Below w0.heap.size w0 V ∧ V.cell? ⟨B12, 0, none⟩ = some (.func (.func 67) #[] #[.pointer (some ⟨P10, 0, none⟩), .pointer (some ⟨F, 0, none⟩)]) ∧ V.cell? ⟨G, 0, none⟩ = some (.int .i64 (x : Int)) ∧ V.cell? ⟨G, 1, none⟩ = some (.int .i64 (y : Int)) ∧ V.cell? ⟨F, 0, none⟩ = some (.int .i64 (W : Int)) ∧ V.cell? ⟨F, 1, none⟩ = some (.int .i64 (H : Int)) ∧ V.cell? ⟨F, 2, none⟩ = some (.slice (some a) (W * H) cp) ∧ V.cell? ⟨C, 0, none⟩ = some (.int .i64 (X : Int)) ∧ V.cell? ⟨C, 1, none⟩ = some (.int .i64 (Y : Int)))) (by kernel_rfl) ⟨Below.drew (Below.refl _ _), t0, g0, g1, t1, t2, t3, t4, t5⟩ (fun hHeld => ?_)
    refine wpAnyH_take (i := 0) (oi := ?o0) (v := .func (.func 67) #[] #[.pointer (some ⟨P10, 0, none⟩), .pointer (some ⟨F, 0, none⟩)]) ?hi0 (by kernel_rfl) (by kernel_rfl) (by kernel_rfl) (fun _ _ _ h => h) ?hy0 hHeld ?rest0
    case hi0 => simp only [List.getElem?_toArray, List.getElem?_cons_zero, List.getElem?_cons_succ]; first | done | rfl
    case hy0 => exact Or.inl ⟨by rfl, by intro V hV; obtain ⟨s0, s1, s2, s3, s4, s5, s6, s7, s8⟩ := hV; go_simp⟩
    try simp only [Act.put, List.setIfInBounds_toArray, List.set_cons_zero, List.set_cons_succ]
    refine wpAnyH_take (i := 1) (oi := ?o1) (v := .agg #[.int .i64 (x : Int), .int .i64 (y : Int)]) ?hi1 (by kernel_rfl) (by kernel_rfl) (by kernel_rfl) (fun _ _ _ h => h) ?hy1 hHeld ?rest1
    case hi1 => simp only [List.getElem?_toArray, List.getElem?_cons_zero, List.getElem?_cons_succ]; first | done | rfl
    case hy1 => exact Or.inl ⟨by rfl, by intro V hV; obtain ⟨s0, s1, s2, s3, s4, s5, s6, s7, s8⟩ := hV; go_simp⟩
    try simp only [Act.put, List.setIfInBounds_toArray, List.set_cons_zero, List.set_cons_succ]
    refine wpAnyH_ready (rs := [2]) (by kernel_rfl) (by simp) ?_
    refine AllReadyH.cons (o := ?o2) ?hi2 (fun K hK => ?step) AllReadyH.nil
    case hi2 => simp only [List.getElem?_toArray, List.getElem?_cons_zero, List.getElem?_cons_succ]; first | done | rfl
    go_simp
    go_at_call 67
    refine (HC1.out _ hHeld.1).mono ?_
    rintro e w5 ⟨rfl, hb5⟩
    go_wp2_with fail
    refine hK.out _ _ (pk8_call hHeld hb5) (fun hHeld5 => ?_)
    clear hK K
    try simp only [Act.put, List.setIfInBounds_toArray, List.set_cons_zero, List.set_cons_succ]
    refine wpAnyH_take (i := 3) (oi := ?o3) (v := .bool false) ?hi3 (by kernel_rfl) (by kernel_rfl) (by kernel_rfl) (fun _ _ _ h => h) ?hy3 hHeld5 ?rest3
    case hi3 => simp only [List.getElem?_toArray, List.getElem?_cons_zero, List.getElem?_cons_succ]; first | done | rfl
    case hy3 => exact Or.inl ⟨by rfl, by intro V hV; obtain ⟨s0, s1, s2, s3, s4, s5, s6, s7, s8⟩ := hV; go_simp⟩
    try simp only [Act.put, List.setIfInBounds_toArray, List.set_cons_zero, List.set_cons_succ]
    refine wpAnyH_take (i := 4) (oi := ?o4) (v := .bool false) ?hi4 (by kernel_rfl) (by kernel_rfl) (by kernel_rfl) (fun _ _ _ h => h) ?hy4 hHeld5 ?rest4
    case hi4 => simp only [List.getElem?_toArray, List.getElem?_cons_zero, List.getElem?_cons_succ]; first | done | rfl
    case hy4 => exact Or.inl ⟨by rfl, by intro V hV; obtain ⟨s0, s1, s2, s3, s4, s5, s6, s7, s8⟩ := hV; go_simp⟩
    try simp only [Act.put, List.setIfInBounds_toArray, List.set_cons_zero, List.set_cons_succ]
    refine wpAnyH_take (i := 5) (oi := ?o5) (v := undef) ?hi5 (by kernel_rfl) (by kernel_rfl) (by kernel_rfl) (fun _ _ _ h => h) ?hy5 hHeld5 ?rest5
    case hi5 => simp only [List.getElem?_toArray, List.getElem?_cons_zero, List.getElem?_cons_succ]; first | done | rfl
    case hy5 => exact Or.inr ⟨by rfl, rfl⟩
    try simp only [Act.put, List.setIfInBounds_toArray, List.set_cons_zero, List.set_cons_succ]
    refine wpAnyH_take (i := 6) (oi := ?o6) (v := undef) ?hi6 (by kernel_rfl) (by kernel_rfl) (by kernel_rfl) (fun _ _ _ h => h) ?hy6 hHeld5 ?rest6
    case hi6 => simp only [List.getElem?_toArray, List.getElem?_cons_zero, List.getElem?_cons_succ]; first | done | rfl
    case hy6 => exact Or.inr ⟨by rfl, rfl⟩
    try simp only [Act.put, List.setIfInBounds_toArray, List.set_cons_zero, List.set_cons_succ]
    refine wpAnyH_take (i := 7) (oi := ?o7) (v := undef) ?hi7 (by kernel_rfl) (by kernel_rfl) (by kernel_rfl) (fun _ _ _ h => h) ?hy7 hHeld5 ?rest7
    case hi7 => simp only [List.getElem?_toArray, List.getElem?_cons_zero, List.getElem?_cons_succ]; first | done | rfl
    case hy7 => exact Or.inr ⟨by rfl, rfl⟩
    try simp only [Act.put, List.setIfInBounds_toArray, List.set_cons_zero, List.set_cons_succ]
    refine wpAnyH_take (i := 8) (oi := ?o8) (v := undef) ?hi8 (by kernel_rfl) (by kernel_rfl) (by kernel_rfl) (fun _ _ _ h => h) ?hy8 hHeld5 ?rest8
    case hi8 => simp only [List.getElem?_toArray, List.getElem?_cons_zero, List.getElem?_cons_succ]; first | done | rfl
    case hy8 => exact Or.inr ⟨by rfl, rfl⟩
    try simp only [Act.put, List.setIfInBounds_toArray, List.set_cons_zero, List.set_cons_succ]
    refine wpAnyH_take (i := 9) (oi := ?o9) (v := undef) ?hi9 (by kernel_rfl) (by kernel_rfl) (by kernel_rfl) (fun _ _ _ h => h) ?hy9 hHeld5 ?rest9
    case hi9 => simp only [List.getElem?_toArray, List.getElem?_cons_zero, List.getElem?_cons_succ]; first | done | rfl
    case hy9 => exact Or.inr ⟨by rfl, rfl⟩
    try simp only [Act.put, List.setIfInBounds_toArray, List.set_cons_zero, List.set_cons_succ]
    refine wpAnyH_take (i := 10) (oi := ?o10) (v := undef) ?hi10 (by kernel_rfl) (by kernel_rfl) (by kernel_rfl) (fun _ _ _ h => h) ?hy10 hHeld5 ?rest10
    case hi10 => simp only [List.getElem?_toArray, List.getElem?_cons_zero, List.getElem?_cons_succ]; first | done | rfl
    case hy10 => exact Or.inr ⟨by rfl, rfl⟩
    try simp only [Act.put, List.setIfInBounds_toArray, List.set_cons_zero, List.set_cons_succ]
    refine wpAnyH_take (i := 11) (oi := ?o11) (v := undef) ?hi11 (by kernel_rfl) (by kernel_rfl) (by kernel_rfl) (fun _ _ _ h => h) ?hy11 hHeld5 ?rest11
    case hi11 => simp only [List.getElem?_toArray, List.getElem?_cons_zero, List.getElem?_cons_succ]; first | done | rfl
    case hy11 => exact Or.inr ⟨by rfl, rfl⟩
    try simp only [Act.put, List.setIfInBounds_toArray, List.set_cons_zero, List.set_cons_succ]
    refine wpAnyH_take (i := 12) (oi := ?o12) (v := undef) ?hi12 (by kernel_rfl) (by kernel_rfl) (by kernel_rfl) (fun _ _ _ h => h) ?hy12 hHeld5 ?rest12
    case hi12 => simp only [List.getElem?_toArray, List.getElem?_cons_zero, List.getElem?_cons_succ]; first | done | rfl
    case hy12 => exact Or.inr ⟨by rfl, rfl⟩
    try simp only [Act.put, List.setIfInBounds_toArray, List.set_cons_zero, List.set_cons_succ]
    refine wpAnyH_take (i := 13) (oi := ?o13) (v := undef) ?hi13 (by kernel_rfl) (by kernel_rfl) (by kernel_rfl) (fun _ _ _ h => h) ?hy13 hHeld5 ?rest13
    case hi13 => simp only [List.getElem?_toArray, List.getElem?_cons_zero, List.getElem?_cons_succ]; first | done | rfl
    case hy13 => exact Or.inr ⟨by rfl, rfl⟩
    try simp only [Act.put, List.setIfInBounds_toArray, List.set_cons_zero, List.set_cons_succ]
    refine wpAnyH_take (i := 14) (oi := ?o14) (v := undef) ?hi14 (by kernel_rfl) (by kernel_rfl) (by kernel_rfl) (fun _ _ _ h => h) ?hy14 hHeld5 ?rest14
    case hi14 => simp only [List.getElem?_toArray, List.getElem?_cons_zero, List.getElem?_cons_succ]; first | done | rfl
    case hy14 => exact Or.inr ⟨by rfl, rfl⟩
    try simp only [Act.put, List.setIfInBounds_toArray, List.set_cons_zero, List.set_cons_succ]
    refine wpAnyH_take (i := 15) (oi := ?o15) (v := undef) ?hi15 (by kernel_rfl) (by kernel_rfl) (by kernel_rfl) (fun _ _ _ h => h) ?hy15 hHeld5 ?rest15
    case hi15 => simp only [List.getElem?_toArray, List.getElem?_cons_zero, List.getElem?_cons_succ]; first | done | rfl
    case hy15 => exact Or.inr ⟨by rfl, rfl⟩
    try simp only [Act.put, List.setIfInBounds_toArray, List.set_cons_zero, List.set_cons_succ]
    refine wpAnyH_take (i := 16) (oi := ?o16) (v := undef) ?hi16 (by kernel_rfl) (by kernel_rfl) (by kernel_rfl) (fun _ _ _ h => h) ?hy16 hHeld5 ?rest16
    case hi16 => simp only [List.getElem?_toArray, List.getElem?_cons_zero, List.getElem?_cons_succ]; first | done | rfl
    case hy16 => exact Or.inr ⟨by rfl, rfl⟩
    try simp only [Act.put, List.setIfInBounds_toArray, List.set_cons_zero, List.set_cons_succ]
    refine wpAnyH_take (i := 17) (oi := ?o17) (v := .bool false) ?hi17 (by kernel_rfl) (by kernel_rfl) (by kernel_rfl) (fun _ _ _ h => h) ?hy17 hHeld5 ?rest17
    case hi17 => simp only [List.getElem?_toArray, List.getElem?_cons_zero, List.getElem?_cons_succ]; first | done | rfl
    case hy17 => exact Or.inl ⟨by rfl, by intro V hV; obtain ⟨s0, s1, s2, s3, s4, s5, s6, s7, s8⟩ := hV; go_simp⟩
    try simp only [Act.put, List.setIfInBounds_toArray, List.set_cons_zero, List.set_cons_succ]
    refine wpAnyH_take (i := 18) (oi := ?o18) (v := .bool false) ?hi18 (by kernel_rfl) (by kernel_rfl) (by kernel_rfl) (fun _ _ _ h => h) ?hy18 hHeld5 ?rest18
    case hi18 => simp only [List.getElem?_toArray, List.getElem?_cons_zero, List.getElem?_cons_succ]; first | done | rfl
    case hy18 => exact Or.inl ⟨by rfl, by intro V hV; obtain ⟨s0, s1, s2, s3, s4, s5, s6, s7, s8⟩ := hV; go_simp⟩
    try simp only [Act.put, List.setIfInBounds_toArray, List.set_cons_zero, List.set_cons_succ]
    refine wpAnyH_done (by kernel_rfl) ?_ _
    refine NoPanic.normal ?_
    have HBV : Hid (Below w0.heap.size w0 w5) := hHeld5.1
    clear hHeld hHeld5
    go_wp2_with fail
    go_ret
    exact ⟨rfl, HB0.out.trans (HBV.out.mono HB0.out.size)⟩
end Go.Proofs.Ytnbbfnlfcncgnaa
/- How far it is, made better till nothing is: on lists. No word of the program. -/
namespace Go.Proofs.Ytnbbfnlfcncgnaa
/-- How the distances stand while they are made better. -/
structure FI (W H : Nat) (l : List Int) (S : Nat → Prop) (far : List Int) : Prop where
  len : far.length = W * H
  zero : ∀ i, i < W * H → (pa far i = 0 ↔ S i)
  low : ∀ i, i < W * H → pa far i = -1 ∨ 0 ≤ pa far i
  rock : ∀ i, i < W * H → pa l i = 1 → pa far i = -1
  sup : ∀ i, i < W * H → 0 < pa far i → ∃ n, adj W H n i ∧ 0 ≤ pa far n ∧ pa far n + kc (pa l i) ≤ pa far i
  top : ∀ i, i < W * H → pa far i + 3 * (pcnt far : Int) ≤ 3 * ((W * H : Nat) : Int)
/-- From n it is not nearer to i. -/
def nim (l far : List Int) (i n : Nat) : Prop := pa l i ≠ 1 → 0 ≤ pa far n → 0 ≤ pa far i ∧ pa far i ≤ pa far n + kc (pa l i)
section
variable {W H : Nat} {l : List Int} {S : Nat → Prop} {far : List Int}
theorem fi_end (h : FI W H l S far) (hn : ∀ i n, adj W H n i → nim l far i n) : Sol W H l S far where
  len := h.len
  zero := h.zero
  low := h.low
  rock := h.rock
  best := fun i j hij h0 hr => hn j i hij hr h0
  just := fun i hi h0 => by
    obtain ⟨n, h1, h2, h3⟩ := h.sup i hi h0
    have hr : pa l i ≠ 1 := fun e => by have := h.rock i hi e; omega
    have := hn i n h1 hr h2
    exact ⟨n, h1, h2, by omega⟩
  top := fun i hi => by have := h.top i hi; omega
theorem fi_step {i n : Nat} (h : FI W H l S far) (ha : adj W H n i) (hr : pa l i ≠ 1) (hd : 0 ≤ pa far n) (hb : pa far i < 0 ∨ pa far n + kc (pa l i) < pa far i) : FI W H l S (far.set i (pa far n + kc (pa l i))) := by
  have hk := kc_bd (pa l i)
  have hil := (adj_lt ha).2
  have hjl : i < far.length := by rw [h.len]; exact hil
  have hs := fun j => pa_set far j i (pa far n + kc (pa l i)) hjl
  have hni : n ≠ i := adj_ne ha
  refine ⟨by simpa using h.len, fun j hj => ?_, fun j hj => ?_, fun j hj hrj => ?_, fun j hj h0 => ?_, fun j hj => ?_⟩
  · rw [hs]
    by_cases e : j = i
    · subst e; rw [if_pos rfl]
      have := h.zero j hj
      constructor
      · intro e; omega
      · intro e; have := this.2 e; omega
    · rw [if_neg e]; exact h.zero j hj
  · rw [hs]
    by_cases e : j = i
    · rw [if_pos e]; omega
    · rw [if_neg e]; exact h.low j hj
  · rw [hs, if_neg]
    · exact h.rock j hj hrj
    · intro e; subst e; exact hr hrj
  · by_cases e : j = i
    · subst e
      exact ⟨n, ha, by rw [hs, if_neg hni]; exact hd, by rw [hs n, if_neg hni, hs j, if_pos rfl]; omega⟩
    · rw [hs, if_neg e] at h0 ⊢
      obtain ⟨m, h1, h2, h3⟩ := h.sup j hj h0
      by_cases em : m = i
      · subst em
        exact ⟨m, h1, by rw [hs, if_pos rfl]; omega, by rw [hs m, if_pos rfl]; rcases hb with q | q <;> omega⟩
      · exact ⟨m, h1, by rw [hs, if_neg em]; exact h2, by rw [hs m, if_neg em]; exact h3⟩
  · have hnt := h.top n (adj_lt ha).1
    have hjt := h.top j hj
    have phit := h.top i hil
    rw [hs]
    rcases h.low i hil with q | q
    · have hc := cnt_set (v := pa far n + kc (pa l i)) hjl q (by omega)
      by_cases e : j = i
      · rw [if_pos e]; omega
      · rw [if_neg e]; omega
    · have hc := cnt_same (v := pa far n + kc (pa l i)) hjl (by omega) (by omega)
      by_cases e : j = i
      · rw [if_pos e]; omega
      · rw [if_neg e]; omega
end
/-- How much there is to be made better. -/
def wt (x : Int) : Nat := if x < 0 then 5000 else x.toNat
def sm (far : List Int) : Nat := (far.map wt).sum
theorem sm_set : ∀ (far : List Int) (i : Nat) (v : Int), i < far.length → sm (far.set i v) + wt (pa far i) = sm far + wt v := by
  intro far
  induction far with
  | nil => intro i v h; simp at h
  | cons x far ih =>
    intro i v h
    cases i with
    | zero => simp [sm, pa]; omega
    | succ i =>
      have := ih i v (by simpa using h)
      have e1 : pa (x :: far) (i + 1) = pa far i := rfl
      rw [e1]
      simp [sm] at this ⊢
      omega
theorem sm_less {W H : Nat} {l : List Int} {S : Nat → Prop} {far : List Int} {i n : Nat} (h : FI W H l S far) (hN : W * H ≤ 1600) (ha : adj W H n i) (hd : 0 ≤ pa far n) (hb : pa far i < 0 ∨ pa far n + kc (pa l i) < pa far i) : sm (far.set i (pa far n + kc (pa l i))) < sm far := by
  have hk := kc_bd (pa l i)
  have h1 := sm_set far i (pa far n + kc (pa l i)) (by rw [h.len]; exact (adj_lt ha).2)
  have h2 := h.top n (adj_lt ha).1
  have h3 : wt (pa far n + kc (pa l i)) < wt (pa far i) := by
    unfold wt
    rw [if_neg (by omega)]
    split <;> omega
  omega
/-- Where nothing has been come to but the first ones. -/
def zer (N : Nat) (S : Nat → Prop) (far : List Int) : Prop := far.length = N ∧ ∀ i, i < N → (S i ∧ pa far i = 0) ∨ (¬ S i ∧ pa far i = -1)
theorem fi_start {W H : Nat} {l : List Int} {S : Nat → Prop} {far : List Int} (h : zer (W * H) S far) (hr : ∀ i, i < W * H → S i → pa l i ≠ 1) : FI W H l S far := by
  refine ⟨h.1, fun i hi => ?_, fun i hi => ?_, fun i hi hri => ?_, fun i hi h0 => ?_, fun i hi => ?_⟩
  · rcases h.2 i hi with ⟨q1, q2⟩ | ⟨q1, q2⟩
    · exact ⟨fun _ => q1, fun _ => q2⟩
    · exact ⟨fun e => by omega, fun e => absurd e q1⟩
  · rcases h.2 i hi with ⟨q1, q2⟩ | ⟨q1, q2⟩ <;> omega
  · rcases h.2 i hi with ⟨q1, q2⟩ | ⟨q1, q2⟩
    · exact absurd hri (hr i hi q1)
    · exact q2
  · rcases h.2 i hi with ⟨q1, q2⟩ | ⟨q1, q2⟩ <;> omega
  · have hc := cnt_le far
    rw [h.1] at hc
    rcases h.2 i hi with ⟨q1, q2⟩ | ⟨q1, q2⟩ <;> omega
theorem zer_first (N : Nat) (far : List Int) (hl : far.length = N) (h : ∀ i, i < N → pa far i = -1) : zer N (fun _ => False) far := ⟨hl, fun i hi => .inr ⟨fun e => e, h i hi⟩⟩
theorem zer_next {N j : Nat} {S S' : Nat → Prop} {far : List Int} (h : zer N S far) (hj : j < N) (hs : ∀ i, (S i ∨ i = j) ↔ S' i) : zer N S' (far.set j 0) := by
  refine ⟨by simpa using h.1, fun i hi => ?_⟩
  rw [pa_set far i j 0 (by rw [h.1]; exact hj)]
  by_cases e : i = j
  · rw [if_pos e]; exact .inl ⟨(hs i).1 (.inr e), rfl⟩
  · rw [if_neg e]
    rcases h.2 i hi with ⟨q1, q2⟩ | ⟨q1, q2⟩
    · exact .inl ⟨(hs i).1 (.inl q1), q2⟩
    · exact .inr ⟨fun q => ((hs i).2 q).elim q1 e, q2⟩
theorem zer_congr {N : Nat} {S S' : Nat → Prop} {far : List Int} (h : zer N S far) (hs : ∀ i, S i ↔ S' i) : zer N S' far :=
  ⟨h.1, fun i hi => by
    rcases h.2 i hi with ⟨q1, q2⟩ | ⟨q1, q2⟩
    · exact .inl ⟨(hs i).1 q1, q2⟩
    · exact .inr ⟨fun q => q1 ((hs i).2 q), q2⟩⟩
/-- How a round over all places stands: nothing was better yet, or all is nearer together. -/
def rnd (W H : Nat) (l : List Int) (S : Nat → Prop) (far0 : List Int) (b : Bool) (i : Nat) (far : List Int) : Prop :=
  FI W H l S far ∧ (b = false → far = far0 ∧ ∀ i' n, i' < i → adj W H n i' → nim l far i' n) ∧ (b = true → sm far < sm far0)
end Go.Proofs.Ytnbbfnlfcncgnaa
/- What the document's own answer is: distances that are made better till nothing is. -/
namespace Go.Proofs.Ytnbbfnlfcncgnaa
open Go.RowKit
set_option linter.unusedVariables false

set_option maxRecDepth 20000 in
set_option maxHeartbeats 1000000 in
theorem Floods_no (W H : Int) (p q : Option Addr) (n c m d : Nat) (l : List Int) (E : Int) (w : World) (hr : row vi w p l) (hn : l.length = n) (hm : n ≤ 9223372036854775807) (hE : Hid (ck W H l = E)) (h0 : E ≠ 0) :
    Calls Try.prog 66 #[.agg #[.int .i64 W, .int .i64 H, .slice p n c], .slice q m d] w fun e w' => e = .returned (.tuple #[.slice none 0 0, .int .i64 E]) ∧ Below w.heap.size w w' := by
  have HR : Hid (row vi w p l) := hr
  have HN : Hid (l.length = n) := hn
  clear hr hn
  have e0 : (E == 0) = false := by simp [h0]
  go_enter Try.func66, Try.ntmps66
  go_wp2_with fail
  refine (Right_any W H p n c l E _ (row_below HR.out (alloc_below _ _)) HN.out hm hE).mono ?_
  rintro e w1 ⟨rfl, hb⟩
  have HB : Hid (Below w.heap.size w w1) := below_step (alloc_below w _) (by simp) hb
  clear hb
  go_wp2_with fail
  go_ret2
  exact ⟨rfl, HB.out⟩
set_option maxRecDepth 20000 in
set_option maxHeartbeats 1000000 in
theorem Floods_many (W H : Int) (p q : Option Addr) (n c m d : Nat) (l : List Int) (w : World) (hr : row vi w p l) (hn : l.length = n) (hm : n ≤ 9223372036854775807) (hE : Hid (ck W H l = 0)) (h0 : 100 < m) :
    Calls Try.prog 66 #[.agg #[.int .i64 W, .int .i64 H, .slice p n c], .slice q m d] w fun e w' => e = .returned (.tuple #[.slice none 0 0, .int .i64 2]) ∧ Below w.heap.size w w' := by
  have HR : Hid (row vi w p l) := hr
  have HN : Hid (l.length = n) := hn
  clear hr hn
  have h1 : (100 : Int) < m := by omega
  go_enter Try.func66, Try.ntmps66
  go_wp2_with fail
  refine (Right_any W H p n c l 0 _ (row_below HR.out (alloc_below _ _)) HN.out hm hE).mono ?_
  rintro e w1 ⟨rfl, hb⟩
  have HB : Hid (Below w.heap.size w w1) := below_step (alloc_below w _) (by simp) hb
  clear hb
  go_wp2_with fail
  go_ret2
  exact ⟨rfl, HB.out⟩
/-- The distances lie in block g, all else is as it was. -/
def flm (g N : Nat) (w2 wr : World) (far : List Int) : Prop := mine 3 vi g wr (.slice (some ⟨g, 0, none⟩) N N) far ∧ far.length = N ∧ Ex (fun k => k = g) w2 wr
section
variable {g N : Nat} {w2 wr w' : World} {far : List Int}
theorem flm_below (h : flm g N w2 wr far) (hb : Below wr.heap.size wr w') : flm g N w2 w' far := ⟨mine_below h.1 hb, h.2.1, h.2.2.trans (Ex.of_below (S := fun _ => False) hb) (fun _ _ e => e.elim)⟩
theorem flm_set (h : flm g N w2 wr far) (i : Nat) (x : Int) : flm g N w2 (wr.setCell ⟨g, i, none⟩ (.int .i64 x)) (far.set i x) := by
  have h1 : wr.ownsRow g 3 1 (.slice (some ⟨g, 0, none⟩) N N) N (far.map vi) := by have := h.1; unfold mine at this; rwa [h.2.1] at this
  refine ⟨?_, by simpa using h.2.1, h.2.2.trans (Ex.set (S := fun k => k = g) wr ⟨g, i, none⟩ rfl _) (fun _ _ e => e)⟩
  have := (World.ownsRow.stored h1 i (.int .i64 x)).1
  unfold mine
  rw [List.length_set, List.map_set, h.2.1]; exact this
theorem flm_cell (h : flm g N w2 wr far) {i : Nat} (hi : i < N) : wr.cell? ⟨g, i, none⟩ = some (.int .i64 (pa far i)) ∧ wr.frozen? ⟨g, i, none⟩ = false := by
  have h1 : wr.ownsRow g 3 1 (.slice (some ⟨g, 0, none⟩) N N) N (far.map vi) := by have := h.1; unfold mine at this; rwa [h.2.1] at this
  refine ⟨?_, World.ownsRow.frozenAt h1 i⟩
  rw [World.ownsRow.cellAt h1 i (by omega), List.getElem?_map, List.getElem?_eq_getElem (by rw [h.2.1]; exact hi), pa_get far (by rw [h.2.1]; exact hi)]; rfl
end
theorem bsd_adj {W H X Y : Nat} (hX : X < W) (hY : Y < H) {c : Cel} (h : c ∈ bsd W H X Y 4) : ∃ x y : Nat, c = ⟨x, y⟩ ∧ x < W ∧ y < H ∧ adj W H (Y * W + X) (y * W + x) := by
  unfold bsd at h
  obtain ⟨h1, h2⟩ := List.mem_filter.1 h
  have h3 : c ∈ four X Y := List.mem_of_mem_take h1
  obtain ⟨k, hk⟩ := List.getElem?_of_mem h3
  have hk4 : k < 4 := (List.getElem?_eq_some_iff.1 hk).1
  rw [four_at _ _ hk4] at hk
  have hc : c = ⟨bX X k, bY Y k⟩ := (Option.some.inj hk).symm
  rw [hc] at h2
  obtain ⟨x, y, ex, ey, hx, hy⟩ := pinb_nat h2
  simp only at ex ey
  exact ⟨x, y, by rw [hc, ex, ey], hx, hy, adj_bes hk4 hX hY ex ey hx hy⟩
theorem adj_bsd {W H X Y n : Nat} (hX : X < W) (hY : Y < H) (h : adj W H (Y * W + X) n) : ∃ x y : Nat, (⟨x, y⟩ : Cel) ∈ bsd W H X Y 4 ∧ n = y * W + x ∧ x < W ∧ y < H := by
  obtain ⟨k, x, y, hk, ex, ey, hx, hy, e⟩ := bes_adj hX h
  refine ⟨x, y, ?_, e, hx, hy⟩
  unfold bsd
  refine List.mem_filter.2 ⟨?_, ?_⟩
  · have h4 : (four (X : Int) Y).take 4 = four X Y := rfl
    rw [h4]
    have := List.mem_of_getElem? (four_at (X : Int) Y hk)
    rwa [ex, ey] at this
  · show inb W H x y = true
    unfold inb; simp; omega
theorem fst_drop {W : Nat} (i : Nat) : (False : Prop) ↔ fst_ W ([] : List Cel) i := ⟨fun e => e.elim, fun ⟨x, y, h, _⟩ => by cases h⟩
theorem fst_rock {W H : Nat} {l : List Int} {cs : List Cel} (h : cke W H l cs = 0) (i : Nat) (hi : fst_ W cs i) : pa l i ≠ 1 := by
  obtain ⟨x, y, hm, e⟩ := hi
  obtain ⟨x', y', hc, _, _, hr⟩ := cke_zero h _ hm
  simp only [Cel.mk.injEq] at hc
  have : x = x' := by omega
  have : y = y' := by omega
  subst_vars; exact hr
/-- What the document's own answer ends with. -/
def fcp (W H : Nat) (l : List Int) (cs : List Cel) (E : Int) (w w' : World) (e : Ending) : Prop := (E ≠ 0 ∧ e = .returned (.tuple #[.slice none 0 0, .int .i64 E])) ∨ (E = 0 ∧ ∃ (g : Nat) (far : List Int), e = .returned (.tuple #[.slice (some ⟨g, 0, none⟩) (W * H) (W * H), .int .i64 0]) ∧ mine 3 vi w.heap.size w' (.slice (some ⟨g, 0, none⟩) (W * H) (W * H)) far ∧ Sol W H l (fst_ W cs) far)
/-- How the round over the places beside one stands. -/
def rnj (W H : Nat) (l : List Int) (S : Nat → Prop) (far0 : List Int) (b : Bool) (i : Nat) (L : List Cel) (j : Nat) (far : List Int) : Prop :=
  FI W H l S far ∧ (b = false → far = far0 ∧ (∀ i' n, i' < i → adj W H n i' → nim l far i' n) ∧ ∀ (j' x y : Nat), j' < j → L[j']? = some ⟨x, y⟩ → nim l far i (y * W + x)) ∧ (b = true → sm far < sm far0)
section
variable {W H : Nat} {l : List Int} {S : Nat → Prop} {far0 far : List Int} {b : Bool} {i : Nat} {L : List Cel} {j x y : Nat}
theorem rnj_start (h : rnd W H l S far0 b i far) : rnj W H l S far0 b i L 0 far := ⟨h.1, fun hb => ⟨(h.2.1 hb).1, (h.2.1 hb).2, fun j' x y hj => by omega⟩, h.2.2⟩
theorem rnj_skip (h : rnj W H l S far0 b i L j far) (hL : L[j]? = some ⟨x, y⟩) (hn : nim l far i (y * W + x)) : rnj W H l S far0 b i L (j + 1) far := by
  refine ⟨h.1, fun hb => ⟨(h.2.1 hb).1, (h.2.1 hb).2.1, fun j' x' y' hj' hL' => ?_⟩, h.2.2⟩
  by_cases e : j' = j
  · subst e
    rw [hL] at hL'
    have := Option.some.inj hL'
    simp only [Cel.mk.injEq] at this
    have e1 : x = x' := by omega
    have e2 : y = y' := by omega
    subst e1 e2; exact hn
  · exact (h.2.1 hb).2.2 j' x' y' (by omega) hL'
theorem rnj_best (h : rnj W H l S far0 b i L j far) (hN : W * H ≤ 1600) (ha : adj W H (y * W + x) i) (hr : pa l i ≠ 1) (hd : 0 ≤ pa far (y * W + x)) (hb : pa far i < 0 ∨ pa far (y * W + x) + kc (pa l i) < pa far i) : rnj W H l S far0 true i L (j + 1) (far.set i (pa far (y * W + x) + kc (pa l i))) := by
  refine ⟨fi_step h.1 ha hr hd hb, fun q => (by cases q), fun _ => ?_⟩
  have h1 := sm_less h.1 hN ha hd hb
  cases b with
  | true => have := h.2.2 rfl; omega
  | false => have := (h.2.1 rfl).1; rw [this] at h1 ⊢; exact h1
theorem rnj_end {X Y : Nat} (h : rnj W H l S far0 b i (bsd W H X Y 4) (bsd W H X Y 4).length far) (hX : X < W) (hY : Y < H) (hi : i = Y * W + X) : rnd W H l S far0 b (i + 1) far := by
  refine ⟨h.1, fun hb => ⟨(h.2.1 hb).1, fun i' n hi' ha => ?_⟩, h.2.2⟩
  by_cases e : i' = i
  · subst e
    have ha2 := adj_symm ha
    rw [hi] at ha2
    obtain ⟨x, y, hm, en, _, _⟩ := adj_bsd hX hY ha2
    obtain ⟨j', hj'⟩ := List.getElem?_of_mem hm
    rw [en]
    exact (h.2.1 hb).2.2 j' x y (List.getElem?_eq_some_iff.1 hj').1 hj'
  · exact (h.2.1 hb).2.1 i' n (by omega) ha
end
set_option maxRecDepth 20000 in
set_option maxHeartbeats 8000000 in
theorem Floods_cells (W H : Nat) (a : Addr) (q : Option Addr) (c m d : Nat) (l : List Int) (cs : List Cel) (E : Int) (w : World) (hr : row vi w (some a) l) (hW : 1 ≤ W ∧ W ≤ 40) (hH : 1 ≤ H ∧ H ≤ 40) (hl : l.length = W * H) (hg : l.any bad = false)
    (hc : crow w q cs) (hm : cs.length = m) (h100 : m ≤ 100) (hE : Hid (cke W H l cs = E)) :
    Calls Try.prog 66 #[.agg #[.int .i64 (W : Int), .int .i64 (H : Int), .slice (some a) (W * H) c], .slice q m d] w fun e w' => fcp W H l cs E w w' e ∧ Below w.heap.size w w' := by
  have HR : Hid (row vi w (some a) l) := hr
  have HC : Hid (crow w q cs) := hc
  have HM : Hid (cs.length = m) := hm
  have HX : Hid ((1 ≤ W ∧ W ≤ 40) ∧ (1 ≤ H ∧ H ≤ 40) ∧ l.length = W * H ∧ l.any bad = false) := ⟨hW, hH, hl, hg⟩
  have hN1 : 1 ≤ W * H := one_le hW hH
  have hN2 : W * H ≤ 1600 := wh_le hW hH
  have h1 : (m : Int) ≤ 100 := by omega
  clear hr hW hH hl hg hc hm
  obtain ⟨w0, hw0⟩ : ∃ w0, w.alloc (.cells #[.int .i64 (W : Int), .int .i64 (H : Int), .slice (some a) (W * H) c] 24) = w0 := ⟨_, rfl⟩
  have HB0 : Hid (Below w.heap.size w w0) := by rw [← hw0]; exact alloc_below _ _
  have hs0 : w0.heap.size = w.heap.size + 1 := by rw [← hw0]; simp
  have HF : Hid (∀ V, Below w0.heap.size w0 V → V.cell? ⟨w.heap.size, 0, none⟩ = some (.int .i64 (W : Int)) ∧ V.cell? ⟨w.heap.size, 1, none⟩ = some (.int .i64 (H : Int)) ∧ V.cell? ⟨w.heap.size, 2, none⟩ = some (.slice (some a) (W * H) c)) := by
    intro V hV; subst hw0; exact box3 hV
  obtain ⟨z0, z1, z2⟩ := HF.out w0 (Below.refl _ _)
  go_enter Try.func66, Try.ntmps66
  go_wp2_with fail
  refine (Right_any (W : Int) (H : Int) (some a) (W * H) c l 0 w0 (row_below HR.out HB0.out) HX.out.2.2.1 (by omega) (ck_ok HX.out.1 HX.out.2.1 HX.out.2.2.1 HX.out.2.2.2)).mono ?_
  rintro e w1 ⟨rfl, hb1⟩
  have HB1 : Hid (Below w0.heap.size w0 w1) := hb1
  obtain ⟨y0, y1, y2⟩ := HF.out w1 hb1
  have hs1 : w.heap.size + 1 ≤ w1.heap.size := by have := hb1.size; omega
  clear hb1 hw0 z0 z1 z2
  obtain ⟨i0, hi0, hz0, hz1, hz2⟩ := info_parts ki.hi
  go_wp2_with (at_make; refine wpList_make_full _ rfl (.tmp 27) (.tmp 27) 22 rfl w1.heap.size 3 i0 (.int .i64 0) 1 Try.underlying22 hi0 hz0 hz1 .i64 .i64 ((W : Int) * (H : Int)) ((W : Int) * (H : Int)) (W * H) rfl rfl (by simp) (by simp) ?_ ?_ (Nat.le_refl _) ?_)
  · rw [hz2]; omega
  · unfold maxLen; omega
  intro w2 hown hgr
  have e1 : (madeCells #[Value.int .i64 0] (W * H)).toList = (List.replicate (W * H) (0 : Int)).map vi := by
    rw [toList_madeCells_one (.int .i64 0) (W * H)]; simp [vi]
  rw [e1] at hown
  have HL2 : Hid (flm w1.heap.size (W * H) w2 w2 (List.replicate (W * H) 0)) := ⟨by unfold mine; simpa using hown, by simp, Ex.refl _ _⟩
  have hb12 : Below w1.heap.size w1 w2 := (Below.refl _ _).grown hgr (Nat.le_refl _) (by simp)
  have HALL : Hid (∀ V, Ex (fun k => k = w1.heap.size) w2 V → Below w1.heap.size w1 V ∧ Below w0.heap.size w0 V ∧ row vi V (some a) l ∧ crow V q cs ∧ Below w.heap.size w V) := fun V hV =>
    have h1 : Below w1.heap.size w1 V := hb12.trans (hV.below hb12.size (fun k hk e => by omega))
    have h2 : Below w0.heap.size w0 V := HB1.out.trans (h1.mono HB1.out.size)
    have h3 : Below w.heap.size w V := HB0.out.trans (h2.mono HB0.out.size)
    ⟨h1, h2, row_below HR.out h3, crow_below HC.out h3, h3⟩
  have HG1 : Hid (w1.heap.size < w2.heap.size) := World.ownsRow.lt hown w1.heap.size rfl |>.2
  clear hown hgr e1 hb12 y0 y1 y2
  go_wp2_with fail
  go_loopw [31] (fun i wr => ∃ (k : Nat), i = .int .i64 k ∧ k ≤ W * H ∧ ∃ far, Hid (flm w1.heap.size (W * H) w2 wr far ∧ ∀ j, j < k → pa far j = -1)) (fun i _ => W * H - (intOf i).toNat)
  case atStart => exact ⟨0, rfl, by omega, _, HL2.out, fun j hj => by omega⟩
  case round =>
    obtain ⟨k, rfl, hk, far, HS⟩ := hrel
    by_cases hlt : k < W * H
    · obtain ⟨ck, fk⟩ := flm_cell HS.out.1 hlt
      have HS' : Hid (flm w1.heap.size (W * H) w2 (wr.setCell ⟨w1.heap.size, k, none⟩ (.int .i64 (-1))) (far.set k (-1)) ∧ ∀ j, j < k + 1 → pa (far.set k (-1)) j = -1) := by
        refine ⟨flm_set HS.out.1 k (-1), fun j hj => ?_⟩
        rw [pa_set far j k (-1) (by rw [HS.out.1.2.1]; exact hlt)]
        split
        · rfl
        · exact HS.out.2 j (by omega)
      have l1 : (k : Int) < W * H := by omega
      have l2 : (0 : Int) ≤ k := by omega
      go_wp2_with fail
      go_roundw
      case rel => exact ⟨k + 1, by go_num, by omega, far.set k (-1), HS'⟩
      case measure => simp [intOf]; omega
    · have HZ0 : Hid (flm w1.heap.size (W * H) w2 wr far ∧ zer (W * H) (fst_ W (cs.take 0)) far) :=
        ⟨HS.out.1, zer_congr (zer_first _ far HS.out.1.2.1 (fun j hj => HS.out.2 j (by omega))) (fun i => fst_drop i)⟩
      obtain ⟨w4, hw4⟩ : ∃ w4 : World, w4 = wr := ⟨_, rfl⟩
      subst hw4
      clear HS HL2
      go_wp2_with fail
      go_loopw [40] (fun i wr => ∃ (k : Nat), i = .int .i64 k ∧ k ≤ m ∧ Hid (cke W H l (cs.drop k) = E) ∧ ∃ far, Hid (flm w1.heap.size (W * H) w2 wr far ∧ zer (W * H) (fst_ W (cs.take k)) far)) (fun i _ => m - (intOf i).toNat)
      case atStart => exact ⟨0, rfl, by omega, hE, far, HZ0⟩
      case round =>
        obtain ⟨k2, rfl, hk2, HE, far2, HS2⟩ := hrel
        by_cases hlt2 : k2 < m
        · have hkl : k2 < cs.length := by rw [HM.out]; exact hlt2
          obtain ⟨b, rfl, hx, hy⟩ := crow_at (HALL.out wr HS2.out.1.2.2).2.2.2.1 hkl
          obtain ⟨x, ex⟩ : ∃ x, cs[k2].x = x := ⟨_, rfl⟩
          obtain ⟨y, ey⟩ : ∃ y, cs[k2].y = y := ⟨_, rfl⟩
          rw [ex] at hx
          rw [ey] at hy
          have hy2 : wr.cell? ⟨(b.add (k2 * 2)).block, (b.add (k2 * 2)).off + 1, none⟩ = some (.int .i64 y) := cell_two hy
          have HEX : Hid (cs[k2].x = x ∧ cs[k2].y = y) := ⟨ex, ey⟩
          have l1 : (k2 : Int) < m := by omega
          obtain ⟨w5, hw5⟩ : ∃ w5, wr.alloc (.cells #[.int .i64 x, .int .i64 y] 31) = w5 := ⟨_, rfl⟩
          obtain ⟨G, hG⟩ : ∃ G, wr.heap.size = G := ⟨_, rfl⟩
          have hb5 : Below wr.heap.size wr w5 := by rw [← hw5]; exact alloc_below _ _
          have g0 : w5.cell? ⟨G, 0, none⟩ = some (.int .i64 x) ∧ w5.cell? ⟨G, 1, none⟩ = some (.int .i64 y) := by rw [← hw5, ← hG]; constructor <;> simp [go_sem]
          obtain ⟨g0, g1⟩ := g0
          have hf5 := flm_below HS2.out.1 hb5
          have HF5 : Hid (flm w1.heap.size (W * H) w2 w5 far2) := hf5
          obtain ⟨z0, z1, z2⟩ := HF.out w5 (HALL.out w5 hf5.2.2).2.1
          clear hb5 hf5 ex ey hy
          cases hin : inb W H x y with
          | false =>
            have HIN : Hid (inb W H x y = false) := hin
            have HZ7 : Hid (E = 7) := by unfold Hid; rw [← HE.out]; exact cke_out hkl (by rw [HEX.out.1, HEX.out.2]; exact HIN.out)
            clear hin
            go_wp2_with fail
            refine (In_in W H (some a) (W * H) c x y false w5 HX.out.1 HX.out.2.1 HIN).mono ?_
            rintro e w6 ⟨rfl, hb6⟩
            have HB6 : Hid (Below w.heap.size w w6) := (HALL.out w6 (flm_below HF5.out hb6).2.2).2.2.2.2
            clear hb6
            go_wp2_with fail
            go_ret2
            exact ⟨.inl ⟨by rw [HZ7.out]; decide, by rw [HZ7.out]; rfl⟩, HB6.out⟩
          | true =>
            obtain ⟨x', y', rfl, rfl, hx', hy'⟩ := pinb_nat hin
            have HIN : Hid (inb W H x' y' = true) := hin
            clear hin
            obtain ⟨J, hJ⟩ : ∃ J, y' * W + x' = J := ⟨_, rfl⟩
            have hJl : J < W * H := by rw [← hJ]; exact pl_lt hx' hy'
            have HJ : Hid (y' * W + x' = J) := hJ
            obtain ⟨T, hT⟩ : ∃ T : Nat, y' * W = T := ⟨_, rfl⟩
            have d1 : IntKind.i64.wrap ((y' : Int) * (W : Int)) = (T : Int) := by rw [← Int.natCast_mul, hT]; exact wrp (by omega) (by omega)
            have d3 : (T : Int) + x' = J := by omega
            have d5 : IntKind.i64.wrap (J : Int) = J := wrp (by omega) (by omega)
            have j1 : (J : Int) < W * H := by omega
            have j2 : (0 : Int) ≤ J := by omega
            obtain ⟨Z, hZ⟩ : ∃ Z, l.getD (y' * W + x') 0 = Z := ⟨_, rfl⟩
            have HZ : Hid (l.getD (y' * W + x') 0 = Z) := hZ
            have HPL : Hid (∀ V, Below w5.heap.size w5 V → Calls Try.prog 65 #[.agg #[.int .i64 (W : Int), .int .i64 (H : Int), .slice (some a) (W * H) c], .agg #[.int .i64 (x' : Int), .int .i64 (y' : Int)]] V fun e w' => e = .returned (.int .i64 Z) ∧ Below V.heap.size V w') :=
              fun V hV => PlaceOf_in W H a c l x' y' Z V (HALL.out V (flm_below HF5.out hV).2.2).2.2.1 HX.out.1 HX.out.2.1 HX.out.2.2.1 hx' hy' HZ
            clear hZ hJ hT
            go_wp2_with fail
            refine (In_in W H (some a) (W * H) c (x' : Int) (y' : Int) true w5 HX.out.1 HX.out.2.1 HIN).mono ?_
            rintro e w6 ⟨rfl, hb6⟩
            have p0 : w6.cell? ⟨G, 0, none⟩ = some (.int .i64 (x' : Int)) := (hb6.cell (p := ⟨G, 0, none⟩) (cell_lt g0)).trans g0
            have p1 : w6.cell? ⟨G, 1, none⟩ = some (.int .i64 (y' : Int)) := (hb6.cell (p := ⟨G, 1, none⟩) (cell_lt g1)).trans g1
            have HF6 : Hid (flm w1.heap.size (W * H) w2 w6 far2) := flm_below HF5.out hb6
            obtain ⟨s0, s1, s2⟩ := HF.out w6 (HALL.out w6 HF6.out.2.2).2.1
            have HB56 : Hid (Below w5.heap.size w5 w6) := hb6
            clear hb6 g0 g1 z0 z1 z2
            go_wp2_with fail
            refine (HPL.out w6 HB56.out).mono ?_
            rintro e w7 ⟨rfl, hb7⟩
            have r0 : w7.cell? ⟨G, 0, none⟩ = some (.int .i64 (x' : Int)) := (hb7.cell (p := ⟨G, 0, none⟩) (cell_lt p0)).trans p0
            have r1 : w7.cell? ⟨G, 1, none⟩ = some (.int .i64 (y' : Int)) := (hb7.cell (p := ⟨G, 1, none⟩) (cell_lt p1)).trans p1
            have HF7 : Hid (flm w1.heap.size (W * H) w2 w7 far2) := flm_below HF6.out hb7
            obtain ⟨t0, t1, t2⟩ := HF.out w7 (HALL.out w7 HF7.out.2.2).2.1
            clear hb7 p0 p1 s0 s1 s2
            by_cases hr1 : Z = 1
            · have HZ9 : Hid (E = 9) := by
                unfold Hid; rw [← HE.out]
                refine cke_rock hkl (by rw [HEX.out.1, HEX.out.2]; exact HIN.out) ?_
                rw [HEX.out.1, HEX.out.2]
                show l.getD ((y' : Int).toNat * W + (x' : Int).toNat) 0 = 1
                simp only [Int.toNat_natCast]
                rw [HZ.out]; exact hr1
              have HB7 : Hid (Below w.heap.size w w7) := (HALL.out w7 HF7.out.2.2).2.2.2.2
              subst hr1
              go_wp2_with fail
              go_ret2
              exact ⟨.inl ⟨by rw [HZ9.out]; decide, by rw [HZ9.out]; rfl⟩, HB7.out⟩
            · have HEn : Hid (cke W H l (cs.drop (k2 + 1)) = E) := by
                unfold Hid
                rw [← HE.out]
                refine (cke_next hkl (by rw [HEX.out.1, HEX.out.2]; exact HIN.out) ?_).symm
                rw [HEX.out.1, HEX.out.2]
                show l.getD ((y' : Int).toNat * W + (x' : Int).toNat) 0 ≠ 1
                simp only [Int.toNat_natCast]
                rw [HZ.out]; exact hr1
              have eZ : (Z == 1) = false := by simp [hr1]
              obtain ⟨cJ, fJ⟩ := flm_cell HF7.out hJl
              have HS8 : Hid (flm w1.heap.size (W * H) w2 (w7.setCell ⟨w1.heap.size, J, none⟩ (.int .i64 0)) (far2.set J 0) ∧ zer (W * H) (fst_ W (cs.take (k2 + 1))) (far2.set J 0)) := by
                refine ⟨flm_set HF7.out J 0, zer_next HS2.out.2 hJl (fun i => ?_)⟩
                rw [← HJ.out]
                refine fst_take hkl ?_ i
                have h1 := HEX.out.1
                have h2 := HEX.out.2
                cases hcc : cs[k2]
                rw [hcc] at h1 h2
                simp at h1 h2
                rw [h1, h2]
              clear hr1
              go_wp2_with fail
              go_roundw
              case rel => exact ⟨k2 + 1, by go_num, by omega, HEn, far2.set J 0, HS8⟩
              case measure => simp [intOf]; omega
        · have HZ0' : Hid (E = 0) := by
            unfold Hid; rw [← HE.out, List.drop_of_length_le (by rw [HM.out]; omega)]; rfl
          have HCK : Hid (cke W H l cs = 0) := hE.out.trans HZ0'.out
          have HFI : Hid (flm w1.heap.size (W * H) w2 wr far2 ∧ FI W H l (fst_ W cs) far2) := by
            obtain ⟨s1, s2⟩ := HS2.out
            rw [List.take_of_length_le (by rw [HM.out]; omega)] at s2
            exact ⟨s1, fi_start s2 (fun i _ hi => fst_rock HCK.out i hi)⟩
          obtain ⟨w5, hw5⟩ : ∃ w5 : World, w5 = wr := ⟨_, rfl⟩
          subst hw5
          clear HS2 HZ0 HE
          go_wp2_with fail
          go_loopg [11] (sm far2 + 1) (fun gk bv wr => ∃ (b : Bool) (far : List Int), bv = .bool b ∧ Hid (flm w1.heap.size (W * H) w2 wr far ∧ FI W H l (fst_ W cs) far ∧ (b = false → Sol W H l (fst_ W cs) far) ∧ sm far + (if b = true then 1 else 0) = gk))
          case atStart => exact ⟨true, far2, rfl, HFI.out.1, HFI.out.2, fun h => (by cases h), by simp⟩
          case round =>
            obtain ⟨b, far0, rfl, HG⟩ := hrel
            cases b with
            | false =>
              have HSol : Hid (Sol W H l (fst_ W cs) far0) := HG.out.2.2.1 rfl
              have HMn : Hid (mine 3 vi w.heap.size wr (.slice (some ⟨w1.heap.size, 0, none⟩) (W * H) (W * H)) far0) := mine_base HG.out.1.1 (by omega)
              have HBw : Hid (Below w.heap.size w wr) := (HALL.out wr HG.out.1.2.2).2.2.2.2
              go_wp2_with fail
              go_ret2
              exact ⟨.inr ⟨HZ0'.out, w1.heap.size, far0, rfl, HMn.out, HSol.out⟩, HBw.out⟩
            | true =>
              obtain ⟨w6, hw6⟩ : ∃ w6 : World, w6 = wr := ⟨_, rfl⟩
              subst hw6
              have HG0 : Hid (sm far0 + 1 = gk) := by have := HG.out.2.2.2; simpa [Hid] using this
              have HF0 : Hid (flm w1.heap.size (W * H) w2 w6 far0 ∧ rnd W H l (fst_ W cs) far0 false 0 far0) := ⟨HG.out.1, HG.out.2.1, fun _ => ⟨rfl, fun i' n hi' => by omega⟩, fun h => (by cases h)⟩
              clear HG HFI
              go_wp2_with fail
              go_loopw [11, 66] (fun bv iv wr => ∃ (b : Bool) (i : Nat) (far : List Int), bv = .bool b ∧ iv = .int .i64 i ∧ i ≤ W * H ∧ Hid (flm w1.heap.size (W * H) w2 wr far ∧ rnd W H l (fst_ W cs) far0 b i far)) (fun _ iv _ => W * H - (intOf iv).toNat)
              case atStart => exact ⟨false, 0, far0, rfl, rfl, by omega, HF0⟩
              case round =>
                obtain ⟨b, i, far, rfl, rfl, hi, HS⟩ := hrel
                by_cases hil : i < W * H
                · obtain ⟨X, hX⟩ : ∃ X, i % W = X := ⟨_, rfl⟩
                  obtain ⟨Y, hY⟩ : ∃ Y, i / W = Y := ⟨_, rfl⟩
                  have hW0 : 0 < W := by have := HX.out.1.1; omega
                  have hXW : X < W := by rw [← hX]; exact Nat.mod_lt _ hW0
                  have hYH : Y < H := by rw [← hY]; exact Nat.div_lt_of_lt_mul hil
                  have hiXY : i = Y * W + X := by have := Nat.div_add_mod i W; rw [Nat.mul_comm] at this; rw [← hX, ← hY]; omega
                  have eX : (i : Int) % (W : Int) = (X : Int) := by rw [← Int.natCast_emod, hX]
                  have eY : (i : Int) / (W : Int) = (Y : Int) := by rw [← Int.natCast_ediv, hY]
                  have eX2 : (i : Int).tmod (W : Int) = (X : Int) := by rw [Int.tmod_eq_emod_of_nonneg (by omega)]; exact eX
                  have eY2 : (i : Int).tdiv (W : Int) = (Y : Int) := by rw [Int.tdiv_eq_ediv_of_nonneg (by omega)]; exact eY
                  have eY3 : IntKind.i64.wrap (Y : Int) = (Y : Int) := wrp (by omega) (by have := Nat.div_le_self i W; omega)
                  have eX3 : IntKind.i64.wrap (X : Int) = (X : Int) := wrp (by omega) (by have := Nat.mod_le i W; omega)
                  have HIXY : Hid (i = Y * W + X) := hiXY
                  have hY40 : Y ≤ 1600 := by have := HX.out.2.1.2; omega
                  have hX40 : X ≤ 1600 := by have := HX.out.1.2; omega
                  have hWp : (0 : Int) < W := by omega
                  have hWn : (W : Int) ≠ 0 := by omega
                  have hWe : ((W : Int) == 0) = false := by simp; omega
                  have hWz : ¬ (W = 0) := by omega
                  obtain ⟨Z, hZ⟩ : ∃ Z, pa l i = Z := ⟨_, rfl⟩
                  have cz : wr.cell? (a.add i) = some (.int .i64 Z) := by
                    obtain ⟨b', hb', hcl⟩ := row_at (HALL.out wr HS.out.1.2.2).2.2.1 (j := i) (by rw [HX.out.2.2.1]; exact hil)
                    cases hb'
                    rw [← pa_get l, hZ] at hcl; exact hcl
                  have hbd := psort_bd HX.out.2.2.2 (j := i) (by rw [HX.out.2.2.1]; exact hil)
                  rw [hZ] at hbd
                  obtain ⟨K, hK⟩ : ∃ K, cof Z = K := ⟨_, rfl⟩
                  have HZ : Hid (pa l i = Z) := hZ
                  have HK : Hid (cof Z = K) := hK
                  have HZb : Hid (0 ≤ Z ∧ Z ≤ 3) := hbd
                  obtain ⟨z0, z1, z2⟩ := HF.out wr (HALL.out wr HS.out.1.2.2).2.1
                  have l1 : (i : Int) < W * H := by omega
                  have l2 : (0 : Int) ≤ i := by omega
                  clear hX hY hiXY hZ hK hbd
                  go_wp2_with fail
                  refine (CostOf_at Z K wr HZb.out.1 HZb.out.2 HK).mono ?_
                  rintro e w7 ⟨rfl, hb7⟩
                  have HF7 : Hid (flm w1.heap.size (W * H) w2 w7 far) := flm_below HS.out.1 hb7
                  obtain ⟨f0, f1, f2⟩ := HF.out w7 (HALL.out w7 HF7.out.2.2).2.1
                  have HRN : Hid (rnd W H l (fst_ W cs) far0 b i far) := HS.out.2
                  have HBS : Hid (∀ V, Below w7.heap.size w7 V → Calls Try.prog 68 #[.agg #[.int .i64 (W : Int), .int .i64 (H : Int), .slice (some a) (W * H) c], .agg #[.int .i64 (X : Int), .int .i64 (Y : Int)]] V fun e w' => ∃ v, e = .returned v ∧ minec V.heap.size w' v (bsd W H X Y 4) ∧ Below V.heap.size V w') :=
                    fun V hV => Beside_any W H (some a) (W * H) c X Y V HX.out.1 HX.out.2.1 (by omega) (by omega)
                  clear hb7 z0 z1 z2 cz HS
                  go_wp2_with fail
                  go_region_held3 (fun V => Below w7.heap.size w7 V ∧ V.cell? ⟨w.heap.size, 0, none⟩ = some (.int .i64 (W : Int)) ∧ V.cell? ⟨w.heap.size, 1, none⟩ = some (.int .i64 (H : Int)) ∧ V.cell? ⟨w.heap.size, 2, none⟩ = some (.slice (some a) (W * H) c)) (first | with_reducible assumption | with_reducible exact pk3_drew (by assumption) | with_reducible exact k3_of f0 f1 f2 hB8 | with_reducible exact k3_of f0 f1 f2 (Below.drew (Below.refl _ _)) | with_reducible exact k3_of f0 f1 f2 (Below.refl _ _)) (first
                    | (go_at_call 68; refine (HBS.out _ (And.left (by assumption))).mono ?_; rintro e w8 ⟨v8, rfl, hm8, hb8⟩; have hB8 : Below w7.heap.size w7 w8 := k3_bel hb8 (by assumption); obtain ⟨p8, c8, rfl, hc8⟩ := minec_form hm8 rfl))
                  have HM8 : Hid (crow w8 p8 (bsd W H X Y 4)) := hc8
                  have HF8 : Hid (flm w1.heap.size (W * H) w2 w8 far) := flm_below HF7.out hB8
                  have HP8 : Hid (∀ b8, p8 = some b8 → b8.block ≠ w1.heap.size) := by
                    intro b8 he8 hbk
                    have h1 := World.ownsRow.lt hm8 b8.block (by rw [he8]; rfl)
                    have h2 := HF7.out.2.2.size
                    have h3 := HG1.out
                    rw [hbk] at h1
                    have h4 : w1.heap.size < w7.heap.size := by omega
                    have h5 : w7.drew.heap.size = w7.heap.size := rfl
                    omega
                  obtain ⟨NB, hNB⟩ : ∃ NB, (bsd W H X Y 4).length = NB := ⟨_, rfl⟩
                  rw [hNB]
                  have HNB : Hid ((bsd W H X Y 4).length = NB) := hNB
                  have hNB4 : NB ≤ 4 := by rw [← hNB]; exact bsd_len _ _ _ _ _
                  have HJ0 : Hid (flm w1.heap.size (W * H) w2 w8 far ∧ rnj W H l (fst_ W cs) far0 b i (bsd W H X Y 4) 0 far ∧ Ex (fun k => k = w1.heap.size) w8 w8) := ⟨HF8.out, rnj_start HRN.out, Ex.refl _ _⟩
                  clear hm8 hb8 hB8 hc8 hNB f0 f1 f2 eX eY eX2 eY2 HBS
                  go_wp2_with fail
                  go_loopw [11, 87] (fun bv jv wr => ∃ (b : Bool) (j : Nat) (far : List Int), bv = .bool b ∧ jv = .int .i64 j ∧ j ≤ NB ∧ Hid (flm w1.heap.size (W * H) w2 wr far ∧ rnj W H l (fst_ W cs) far0 b i (bsd W H X Y 4) j far ∧ Ex (fun k => k = w1.heap.size) w8 wr)) (fun _ jv _ => NB - (intOf jv).toNat)
                  case atStart => exact ⟨b, 0, far, rfl, rfl, by omega, HJ0⟩
                  case round =>
                    obtain ⟨b2, j, far3, rfl, rfl, hj, HS3⟩ := hrel
                    by_cases hjl : j < NB
                    · have hjl' : j < (bsd W H X Y 4).length := by rw [HNB.out]; exact hjl
                      obtain ⟨x, y, hcel, hxW, hyH, hadj⟩ := bsd_adj hXW hYH (List.getElem_mem hjl')
                      obtain ⟨b8, e8, hcx, hcy⟩ := crow_at HM8.out hjl'
                      subst e8
                      rw [hcel] at hcx hcy
                      have hbne := HP8.out b8 rfl
                      have hcx' : wr.cell? (b8.add (j * 2)) = some (.int .i64 (x : Int)) := (HS3.out.2.2.cell (cell_lt hcx) (by rw [add_block]; exact hbne)).trans hcx
                      have hcy' : wr.cell? ⟨(b8.add (j * 2)).block, (b8.add (j * 2)).off + 1, none⟩ = some (.int .i64 (y : Int)) := cell_two ((HS3.out.2.2.cell (cell_lt hcy) (by rw [add_block]; exact hbne)).trans hcy)
                      have HLJ : Hid ((bsd W H X Y 4)[j]? = some ⟨x, y⟩) := by unfold Hid; rw [List.getElem?_eq_getElem hjl', hcel]
                      obtain ⟨J, hJ⟩ : ∃ J, y * W + x = J := ⟨_, rfl⟩
                      have hJl : J < W * H := by rw [← hJ]; exact pl_lt hxW hyH
                      have HJ : Hid (y * W + x = J) := hJ
                      have HADJ : Hid (adj W H J i) := by unfold Hid; rw [← hJ, HIXY.out]; exact adj_symm hadj
                      obtain ⟨T, hT⟩ : ∃ T : Nat, y * W = T := ⟨_, rfl⟩
                      have d1 : IntKind.i64.wrap ((y : Int) * (W : Int)) = (T : Int) := by rw [← Int.natCast_mul, hT]; exact wrp (by omega) (by omega)
                      have d3 : (T : Int) + x = J := by omega
                      have d5 : IntKind.i64.wrap (J : Int) = J := wrp (by omega) (by omega)
                      have j1 : (J : Int) < W * H := by omega
                      have j2 : (0 : Int) ≤ J := by omega
                      have k1 : (j : Int) < NB := by omega
                      have k2' : (0 : Int) ≤ j := by omega
                      obtain ⟨w9, hw9⟩ : ∃ w9, wr.alloc (.cells #[.int .i64 (x : Int), .int .i64 (y : Int)] 31) = w9 := ⟨_, rfl⟩
                      obtain ⟨G, hG⟩ : ∃ G, wr.heap.size = G := ⟨_, rfl⟩
                      have hb9 : Below wr.heap.size wr w9 := by rw [← hw9]; exact alloc_below _ _
                      have g0 : w9.cell? ⟨G, 0, none⟩ = some (.int .i64 (x : Int)) ∧ w9.cell? ⟨G, 1, none⟩ = some (.int .i64 (y : Int)) := by rw [← hw9, ← hG]; constructor <;> simp [go_sem]
                      obtain ⟨g0, g1⟩ := g0
                      have hf9 := flm_below HS3.out.1 hb9
                      obtain ⟨z0, z1, z2⟩ := HF.out w9 (HALL.out w9 hf9.2.2).2.1
                      obtain ⟨D, hD⟩ : ∃ D, pa far3 J = D := ⟨_, rfl⟩
                      obtain ⟨V, hV⟩ : ∃ V, pa far3 i = V := ⟨_, rfl⟩
                      obtain ⟨cD, _⟩ := flm_cell hf9 hJl
                      obtain ⟨cV, fV⟩ := flm_cell hf9 hil
                      rw [hD] at cD
                      rw [hV] at cV
                      have hFI := HS3.out.2.1.1
                      have tD := hFI.top J hJl
                      have tV := hFI.top i hil
                      have lD := hFI.low J hJl
                      have lV := hFI.low i hil
                      rw [hD] at tD lD
                      rw [hV] at tV lV
                      have bD : -1 ≤ D ∧ D ≤ 4800 := by omega
                      have bV : -1 ≤ V ∧ V ≤ 4800 := by omega
                      have HF9 : Hid (flm w1.heap.size (W * H) w2 w9 far3) := hf9
                      have HE9 : Hid (Ex (fun k => k = w1.heap.size) w8 w9) := HS3.out.2.2.trans (Ex.of_below (S := fun _ => False) hb9) (fun _ _ e => e.elim)
                      have HRJ : Hid (rnj W H l (fst_ W cs) far0 b2 i (bsd W H X Y 4) j far3) := HS3.out.2.1
                      have HD : Hid (pa far3 J = D ∧ pa far3 i = V) := ⟨hD, hV⟩
                      clear hb9 hf9 hFI tD tV lD lV hD hV hJ hT hcx hcy hcel hadj hbne HS3
                      by_cases hr : Z = 1
                      · have hK1 : K = -1 := by rw [← HK.out]; unfold cof; rw [if_pos hr]
                        have HN : Hid (rnj W H l (fst_ W cs) far0 b2 i (bsd W H X Y 4) (j + 1) far3) := rnj_skip HRJ.out HLJ.out (fun q => absurd (HZ.out.trans hr) q)
                        subst hK1
                        have t1 : decide ((0 : Int) < -1) = false := by decide
                        clear hr
                        go_wp2_with fail
                        go_roundw
                        case rel => exact ⟨b2, j + 1, far3, rfl, by go_num, by omega, HF9.out, HN.out, HE9.out⟩
                        case measure => simp [intOf]; omega
                      · have hKk : K = kc Z := by rw [← HK.out]; unfold cof; rw [if_neg hr]
                        have hkb := kc_bd Z
                        rw [← hKk] at hkb
                        have HKk : Hid (kc (pa l i) = K) := by unfold Hid; rw [HZ.out]; exact hKk.symm
                        have HR1 : Hid (pa l i ≠ 1) := by unfold Hid; rw [HZ.out]; exact hr
                        have t1 : decide ((0 : Int) < K) = true := by simp; omega
                        have t1' : (0 : Int) < K := by omega
                        clear hr hKk
                        by_cases hD0 : 0 ≤ D
                        · have t2 : decide ((0 : Int) ≤ D) = true := by simp [hD0]
                          by_cases hV0 : V < 0
                          · have t3 : decide (V < 0) = true := by simp [hV0]
                            have HN : Hid (rnj W H l (fst_ W cs) far0 true i (bsd W H X Y 4) (j + 1) (far3.set i (D + K))) := by
                              have h := rnj_best (y := y) (x := x) HRJ.out hN2 (by rw [HJ.out]; exact HADJ.out) HR1.out (by rw [HJ.out, HD.out.1]; exact hD0) (by rw [HJ.out, HD.out.1, HD.out.2, HKk.out]; omega)
                              rw [HJ.out, HD.out.1, HKk.out] at h; exact h
                            have HF10 : Hid (flm w1.heap.size (W * H) w2 (w9.setCell ⟨w1.heap.size, i, none⟩ (.int .i64 (D + K))) (far3.set i (D + K))) := flm_set HF9.out i (D + K)
                            have HE10 : Hid (Ex (fun k => k = w1.heap.size) w8 (w9.setCell ⟨w1.heap.size, i, none⟩ (.int .i64 (D + K)))) := HE9.out.trans (Ex.set (S := fun k => k = w1.heap.size) w9 ⟨w1.heap.size, i, none⟩ rfl _) (fun _ _ e => e)
                            go_wp2_with fail
                            go_roundw
                            case rel => exact ⟨true, j + 1, far3.set i (D + K), rfl, by go_num, by omega, HF10.out, HN.out, HE10.out⟩
                            case measure => simp [intOf]; omega
                          · have t3 : decide (V < 0) = false := by simp; omega
                            by_cases hDV : D + K < V
                            · have t4 : decide (D + K < V) = true := by simp [hDV]
                              have HN : Hid (rnj W H l (fst_ W cs) far0 true i (bsd W H X Y 4) (j + 1) (far3.set i (D + K))) := by
                                have h := rnj_best (y := y) (x := x) HRJ.out hN2 (by rw [HJ.out]; exact HADJ.out) HR1.out (by rw [HJ.out, HD.out.1]; exact hD0) (by rw [HJ.out, HD.out.1, HD.out.2, HKk.out]; omega)
                                rw [HJ.out, HD.out.1, HKk.out] at h; exact h
                              have HF10 : Hid (flm w1.heap.size (W * H) w2 (w9.setCell ⟨w1.heap.size, i, none⟩ (.int .i64 (D + K))) (far3.set i (D + K))) := flm_set HF9.out i (D + K)
                              have HE10 : Hid (Ex (fun k => k = w1.heap.size) w8 (w9.setCell ⟨w1.heap.size, i, none⟩ (.int .i64 (D + K)))) := HE9.out.trans (Ex.set (S := fun k => k = w1.heap.size) w9 ⟨w1.heap.size, i, none⟩ rfl _) (fun _ _ e => e)
                              go_wp2_with fail
                              go_roundw
                              case rel => exact ⟨true, j + 1, far3.set i (D + K), rfl, by go_num, by omega, HF10.out, HN.out, HE10.out⟩
                              case measure => simp [intOf]; omega
                            · have t4 : decide (D + K < V) = false := by simp; omega
                              have HN : Hid (rnj W H l (fst_ W cs) far0 b2 i (bsd W H X Y 4) (j + 1) far3) := rnj_skip HRJ.out HLJ.out (fun _ _ => by rw [HJ.out, HD.out.1, HD.out.2, HKk.out]; omega)
                              go_wp2_with fail
                              go_roundw
                              case rel => exact ⟨b2, j + 1, far3, rfl, by go_num, by omega, HF9.out, HN.out, HE9.out⟩
                              case measure => simp [intOf]; omega
                        · have t2 : decide ((0 : Int) ≤ D) = false := by simp; omega
                          have HN : Hid (rnj W H l (fst_ W cs) far0 b2 i (bsd W H X Y 4) (j + 1) far3) := rnj_skip HRJ.out HLJ.out (fun _ q => absurd (by rw [HJ.out, HD.out.1] at q; exact q) hD0)
                          go_wp2_with fail
                          go_roundw
                          case rel => exact ⟨b2, j + 1, far3, rfl, by go_num, by omega, HF9.out, HN.out, HE9.out⟩
                          case measure => simp [intOf]; omega
                    · obtain rfl : j = NB := by omega
                      have HNx : Hid (flm w1.heap.size (W * H) w2 wr far3 ∧ rnd W H l (fst_ W cs) far0 b2 (i + 1) far3) := ⟨HS3.out.1, rnj_end (by rw [HNB.out]; exact HS3.out.2.1) hXW hYH HIXY.out⟩
                      go_wp2_with fail
                      go_roundw
                      case rel => exact ⟨b2, i + 1, far3, rfl, by go_num, by omega, HNx.out⟩
                      case measure => simp [intOf]; omega
                · have HSS := HS.out
                  obtain ⟨s1, s2, s3, s4⟩ := HSS
                  cases b with
                  | false =>
                    have hfe : far = far0 := (s3 rfl).1
                    have HNum : Hid (sm far < gk) := by rw [hfe]; have := HG0.out; unfold Hid; omega
                    have HSl : Hid (Sol W H l (fst_ W cs) far) := fi_end s2 (fun i' n ha => (s3 rfl).2 i' n (by have := (adj_lt ha).2; omega) ha)
                    have HF9 : Hid (flm w1.heap.size (W * H) w2 wr far ∧ FI W H l (fst_ W cs) far) := ⟨s1, s2⟩
                    clear s1 s2 s3 s4 hfe
                    go_wp2_with fail
                    go_roundg (sm far)
                    case rel => exact ⟨false, far, rfl, HF9.out.1, HF9.out.2, fun _ => HSl.out, by simp⟩
                    case measure => exact HNum.out
                  | true =>
                    have HNum : Hid (sm far + 1 < gk) := by have := s4 rfl; have := HG0.out; unfold Hid; omega
                    have HF9 : Hid (flm w1.heap.size (W * H) w2 wr far ∧ FI W H l (fst_ W cs) far) := ⟨s1, s2⟩
                    clear s1 s2 s3 s4
                    go_wp2_with fail
                    go_roundg (sm far + 1)
                    case rel => exact ⟨true, far, rfl, HF9.out.1, HF9.out.2, fun h => (by cases h), by simp⟩
                    case measure => exact HNum.out
end Go.Proofs.Ytnbbfnlfcncgnaa
/- The document's own way on lists, and how it stands in memory. -/
namespace Go.Proofs.Ytnbbfnlfcncgnaa
open Go.RowKit
set_option linter.unusedVariables false

theorem first_filter {α : Type} (p q : α → Bool) : ∀ (xs : List α) (k : Nat) (d : α), xs[k]? = some d → p d = true → (∀ i e, i < k → xs[i]? = some e → p e = true → q e = false) → ∃ J : Nat, (xs.filter p)[J]? = some d ∧ ∀ i e, i < J → (xs.filter p)[i]? = some e → q e = false := by
  intro xs
  induction xs with
  | nil => intro k d h; simp at h
  | cons x xs ih =>
    intro k d hk hp hq
    cases k with
    | zero =>
      simp at hk
      subst hk
      exact ⟨0, by simp [hp], fun i e hi => by omega⟩
    | succ k =>
      obtain ⟨J, h1, h2⟩ := ih k d (by simpa using hk) hp (fun i e hi he hpe => hq (i + 1) e (by omega) (by simpa using he) hpe)
      cases hx : p x with
      | false => exact ⟨J, by rw [List.filter_cons_of_neg (by simp [hx])]; exact h1, by rw [List.filter_cons_of_neg (by simp [hx])]; exact h2⟩
      | true =>
        rw [List.filter_cons_of_pos hx]
        refine ⟨J + 1, by simpa using h1, fun i e hi he => ?_⟩
        cases i with
        | zero =>
          simp at he
          subst he
          exact hq 0 _ (by omega) (by simp) hx
        | succ i => exact h2 i e (by omega) (by simpa using he)
/-- Whether from e it is come to so cheaply. -/
def wq (W : Nat) (far : List Int) (K D : Int) (e : Cel) : Bool := decide (0 ≤ pa far (ixc W e)) && decide (pa far (ixc W e) + K = D)
theorem bsd_first {W H X Y : Nat} {l far : List Int} {S : Nat → Prop} {d : Cel} (hs : Sol W H l S far) (hX : X < W) (hY : Y < H) (h0 : 0 < pa far (ixc W ⟨X, Y⟩)) (h : ahd W H l far ⟨X, Y⟩ d) :
    ∃ J : Nat, (bsd W H X Y 4)[J]? = some d ∧ wq W far (kc (pa l (ixc W ⟨X, Y⟩))) (pa far (ixc W ⟨X, Y⟩)) d = true ∧ ∀ i e, i < J → (bsd W H X Y 4)[i]? = some e → wq W far (kc (pa l (ixc W ⟨X, Y⟩))) (pa far (ixc W ⟨X, Y⟩)) e = false := by
  have hin : inf W H ⟨X, Y⟩ := ⟨X, Y, rfl, hX, hY⟩
  obtain ⟨f1, f2, f3, f4⟩ := ahd_far hs hin h0 h
  obtain ⟨k, hk, hlo, hit_, rfl⟩ := h
  have e4 : bsd W H X Y 4 = (four X Y).filter fun c => inb W H c.x c.y := rfl
  have h4 : ∀ i, i < 4 → (four (X : Int) (Y : Int))[i]? = some (bc ⟨X, Y⟩ i) := fun i hi => four_at _ _ hi
  obtain ⟨J, j1, j2⟩ := first_filter (fun c => inb W H c.x c.y) (wq W far (kc (pa l (ixc W ⟨X, Y⟩))) (pa far (ixc W ⟨X, Y⟩))) (four X Y) k (bc ⟨X, Y⟩ k) (h4 k hk) (inf_inb.2 f1) (by
    intro i e hi he hpe
    rw [h4 i (by omega)] at he
    obtain rfl := Option.some.inj he
    have := hlo i hi
    unfold phit at this
    rw [hpe] at this
    simp at this
    unfold wq
    rw [Bool.and_eq_false_iff]
    right
    simp
    omega)
  refine ⟨J, by rw [e4]; exact j1, ?_, by rw [e4]; exact j2⟩
  unfold wq
  simp
  omega
/-- How the document's own answer stands behind j + 1 cells: the way v, the last cell in box C. -/
def fst5 (w2 wr : World) (R : List Cel) (v : Value) (C j : Nat) : Prop :=
  Below w2.heap.size w2 wr ∧ minec w2.heap.size wr v (R.take (j + 1)) ∧ (∃ x y, wr.heap[C]? = some (.cells #[.int .i64 x, .int .i64 y] 31) ∧ R[j]? = some ⟨x, y⟩) ∧ w2.heap.size ≤ C ∧ v.ownBlock ≠ some C
theorem hp_lt {w : World} {C : Nat} {o : Obj} (h : w.heap[C]? = some o) : C < w.heap.size := by
  rcases Nat.lt_or_ge C w.heap.size with hlt | hge
  · exact hlt
  · rw [Array.getElem?_eq_none hge] at h; cases h
theorem fst5_next {w2 wr w4 w5 w6 : World} {R : List Cel} {v : Value} {C C6 j : Nat} {dx dy : Int} (h : fst5 w2 wr R v C j) (hj : j + 1 < R.length) (hR : R.length ≤ 4000) (hb4 : Below wr.heap.size wr w4)
    (hw5 : (w4.setCell ⟨C, 0, none⟩ (.int .i64 dx)).setCell ⟨C, 1, none⟩ (.int .i64 dy) = w5) (hC6 : w5.heap.size = C6) (hw6 : w5.alloc (.cells #[.int .i64 dx, .int .i64 dy] 31) = w6) (hd : R[j + 1]? = some ⟨dx, dy⟩) :
    ∃ g7 cap7 w7, (Builtin.append_ #[25, 25] 25 #[v, .slice (some ⟨w6.heap.size, 0, none⟩) 1 1]).run Try.prog (w6.alloc (.cells #[.int .i64 dx, .int .i64 dy] 31)) = .ok (.slice (some ⟨g7, 0, none⟩) (j + 1 + 1) cap7) w7 ∧ fst5 w2 w7 R (.slice (some ⟨g7, 0, none⟩) (j + 1 + 1) cap7) C6 (j + 1) := by
  obtain ⟨h1, h2, ⟨x, y, h3, h4⟩, h5, h6⟩ := h
  have hC := hp_lt h3
  have hs4 := hb4.size
  have s1 := h1.size
  have E5 : Ex (fun k => k = C) w4 w5 := by
    rw [← hw5]
    have E1 := fun (V : World) (p : Addr) (u : Value) (hp : p.block = C) => Ex.set (S := fun k => k = C) V p hp u
    exact (E1 w4 _ _ rfl).trans (E1 _ _ _ rfl) (fun _ _ e => e)
  have hs5 := E5.size
  have hv := World.ownsRow.lt h2
  have hm5 : minec w2.heap.size w5 v (R.take (j + 1)) := minec_kept (minec_below h2 hb4) E5 (fun g hg e => h6 (by rw [hg]; exact congrArg some e))
  have hb6 : Below w5.heap.size w5 w6 := by rw [← hw6]; exact alloc_below _ _
  have hs6 : w6.heap.size = w5.heap.size + 1 := by rw [← hw6]; simp
  have hb7 := alloc_below w6 (.cells #[.int .i64 dx, .int .i64 dy] 31)
  have hB5 : Below w2.heap.size w2 w5 := (h1.trans (hb4.mono s1)).trans (E5.below (by omega) (fun k hk e => by omega))
  have hB6 : Below w2.heap.size w2 w6 := hB5.trans (hb6.mono hB5.size)
  obtain ⟨v', w7, hrun, hm, hg⟩ := run_more (d := 1) (m := 1) 25 (minec_below (minec_below hm5 hb6) hb7) (crow_one w6 dx dy) rfl (fun h => by cases h) (by rw [List.length_take]; omega) (by rw [World.size_alloc]; omega)
  have hm' : minec w2.heap.size w7 v' (R.take (j + 1 + 1)) := by
    have e : R.take (j + 1 + 1) = R.take (j + 1) ++ [⟨dx, dy⟩] := by rw [List.take_add_one, hd]; rfl
    rw [e]; exact hm
  have el : (R.take (j + 1 + 1)).length = j + 1 + 1 := by rw [List.length_take]; omega
  obtain ⟨g7, cap7, ev, hg7, hg7s, hc7⟩ := minec_some hm' (by omega)
  rw [el] at ev hc7
  have hC6l : w6.heap[C6]? = some (.cells #[.int .i64 dx, .int .i64 dy] 31) := by rw [← hw6, ← hC6]; exact World.alloc_heap_new w5 _
  have hC7 : w7.heap[C6]? = some (.cells #[.int .i64 dx, .int .i64 dy] 31) := by
    rw [hg.block C6 (by rw [World.size_alloc]; omega) (fun e => by have := (hv C6 e.symm).2; omega), hb7.block C6 (by omega)]; exact hC6l
  subst ev
  refine ⟨g7, cap7, w7, hrun, ?_, hm', ⟨dx, dy, hC7, hd⟩, by omega, ?_⟩
  · exact (hB6.alloc hB6.size _).grown hg (by rw [World.size_alloc]; have := hB6.size; omega) (fun q hq => (hv q hq).1)
  · intro e
    simp [Value.ownBlock] at e
    subst e
    rcases hm'.2 with ⟨h0, _⟩ | ⟨g', cap', cur, hv', _, hblk, hr1, hr2, hr3, _⟩
    · cases h0
    · simp only [Value.slice.injEq, Option.some.injEq, Addr.mk.injEq] at hv'
      obtain ⟨⟨rfl, _⟩, _, rfl⟩ := hv'
      rw [hC7] at hblk
      simp only [Option.some.injEq, Obj.cells.injEq] at hblk
      have := hblk.1
      rw [← this] at hr3
      simp at hr3
      omega
theorem IndexFuncc_at (p : Option Addr) (n c : Nat) (k0 k1 k2 : Value) (L : List Cel) (b : Nat → Bool) (J : Nat) (w : World) (hn : L.length = n) (hm : n ≤ 4000000) (h1 : crow w p L) (hJ : J < n) (hb : b J = true) (hbi : ∀ i, i < J → b i = false)
    (hf : Hid (∀ i x y, L[i]? = some ⟨x, y⟩ → ∀ V, Below w.heap.size w V → Calls Try.prog 70 #[.agg #[.int .i64 x, .int .i64 y], k0, k1, k2] V fun e w' => e = .returned (.bool (b i)) ∧ Below V.heap.size V w')) :
    Calls Try.prog 69 #[.slice p n c, .func (.func 70) #[] #[k0, k1, k2]] w fun e w' => e = .returned (.int .i64 (J : Int)) ∧ Below w.heap.size w w' :=
  IndexFuncc_any p n c 0 #[k0, k1, k2] L b J w hn hm h1 hJ hb hbi hf
theorem per_ck {A B : Int} {l : List Int} {a b : Cel} (h : ck A B l ≠ 0) : per A B l a b = ck A B l := by
  have : ate A B l a = ck A B l := by unfold ate; rw [if_pos h]
  unfold per; rw [this, if_pos h]
theorem ate_out {W H : Nat} {l : List Int} {c : Cel} (hok : okf W H l) (h : inb W H c.x c.y = false) : ate W H l c = 7 := by
  unfold ate
  rw [if_neg (by simp [ck_ok hok.1 hok.2.1 hok.2.2.1 hok.2.2.2])]
  simp [h]
theorem per_out {W H : Nat} {l : List Int} {a b : Cel} (hok : okf W H l) (h : inb W H a.x a.y = false ∨ (inf W H a ∧ inb W H b.x b.y = false)) : per W H l a b = 7 := by
  unfold per
  rcases h with h | ⟨h1, h2⟩
  · rw [ate_out hok h]; rfl
  · rw [(ate_ok hok h1).1, ate_out hok h2]; rfl
theorem per_rock {W H : Nat} {l : List Int} {a b : Cel} (hok : okf W H l) (ha : inf W H a) (hb : inf W H b) (h : pa l (ixc W a) = 1 ∨ pa l (ixc W b) = 1) : per W H l a b = 9 := by
  unfold per
  rw [(ate_ok hok ha).1, (ate_ok hok hb).1, (ate_ok hok ha).2, (ate_ok hok hb).2]
  rw [if_neg (by simp), if_neg (by simp), if_pos h]
end Go.Proofs.Ytnbbfnlfcncgnaa
/- What the document's own answer is. -/
namespace Go.Proofs.Ytnbbfnlfcncgnaa
open Go.RowKit
set_option linter.unusedVariables false

set_option maxRecDepth 20000 in
set_option maxHeartbeats 4000000 in
theorem WayOf_any (A B : Int) (p : Option Addr) (n c : Nat) (l : List Int) (ax ay bx by_ : Int) (w : World) (hr : row vi w p l) (hn : l.length = n) (hm : n ≤ 9223372036854775807) :
    Calls Try.prog 45 #[.agg #[.int .i64 A, .int .i64 B, .slice p n c], .agg #[.int .i64 ax, .int .i64 ay], .agg #[.int .i64 bx, .int .i64 by_]] w fun e w' => (∃ v D E, e = .returned (.tuple #[v, .int .i64 D, .int .i64 E]) ∧ finr A B l ⟨ax, ay⟩ ⟨bx, by_⟩ w.heap.size w' v D E) ∧ Below w.heap.size w w' := by
  obtain ⟨F, hF⟩ : ∃ F, w.heap.size = F := ⟨_, rfl⟩
  obtain ⟨w0, hw0⟩ : ∃ w0, ((w.alloc (.cells #[.int .i64 A, .int .i64 B, .slice p n c] 24)).alloc (.cells #[.int .i64 ax, .int .i64 ay] 31)).alloc (.cells #[.int .i64 bx, .int .i64 by_] 31) = w0 := ⟨_, rfl⟩
  have hB0 : Below w.heap.size w w0 := by rw [← hw0]; exact ((alloc_below w _).alloc (by simp) _).alloc (by simp; omega) _
  have HB0 : Hid (Below w.heap.size w w0) := hB0
  have HBX : Hid (∀ V, Below w0.heap.size w0 V → V.cell? ⟨F, 0, none⟩ = some (.int .i64 A) ∧ V.cell? ⟨F, 1, none⟩ = some (.int .i64 B) ∧ V.cell? ⟨F, 2, none⟩ = some (.slice p n c) ∧ V.cell? ⟨F + 1, 0, none⟩ = some (.int .i64 ax) ∧ V.cell? ⟨F + 1, 1, none⟩ = some (.int .i64 ay) ∧ V.cell? ⟨F + 2, 0, none⟩ = some (.int .i64 bx) ∧ V.cell? ⟨F + 2, 1, none⟩ = some (.int .i64 by_)) := fun V hV => pboxf hF hw0 hV
  obtain ⟨z0, z1, z2, z3, z4, z5, z6⟩ := HBX.out w0 (Below.refl _ _)
  have HR : Hid (row vi w0 p l) := row_below hr hB0
  have HN : Hid (l.length = n) := hn
  have HF : Hid (w.heap.size = F) := hF
  obtain ⟨E, hE⟩ : ∃ E, ck A B l = E := ⟨_, rfl⟩
  have HE : Hid (ck A B l = E) := hE
  clear hr hn hB0 hE
  go_enter Try.func45, Try.ntmps45
  go_wp2_with fail
  refine (Right_any A B p n c l E w0 HR.out HN.out hm HE).mono ?_
  rintro e w1 ⟨rfl, hb1⟩
  have HB1 : Hid (Below w0.heap.size w0 w1) := hb1
  obtain ⟨y0, y1, y2, y3, y4, y5, y6⟩ := HBX.out w1 hb1
  clear hb1 z0 z1 z2 z3 z4 z5 z6 hw0
  by_cases h1 : E = 0
  · subst h1
    obtain ⟨W, H, hA, hB, hW, hH, hl, hg⟩ := ck_yes HE.out
    subst hA hB
    have hnl : n = W * H := by rw [← HN.out]; exact hl
    subst hnl
    have hrl : row vi w1 p l := row_below HR.out HB1.out
    obtain ⟨a, rfl⟩ := row_some hrl (by rw [hl]; exact one_le hW hH)
    have hN : W * H ≤ 1600 := wh_le hW hH
    have HOK : Hid (okf W H l) := ⟨hW, hH, hl, hg⟩
    have HRL : Hid (row vi w1 (some a) l) := hrl
    clear hW hH hl hg hrl
    cases hia : inb W H ax ay with
    | false =>
      have HIA : Hid (inb W H ax ay = false) := hia
      clear hia
      go_wp2_with fail
      refine (In_in W H _ _ _ ax ay false w1 HOK.out.1 HOK.out.2.1 HIA).mono ?_
      rintro e w2 ⟨rfl, hb2⟩
      have HB2 : Hid (Below w.heap.size w w2) := HB0.out.trans ((HB1.out.trans (hb2.mono HB1.out.size)).mono HB0.out.size)
      clear hb2
      go_wp2_with fail
      go_ret3
      exact ⟨⟨_, _, _, rfl, .inl ⟨by decide, .inl ⟨by rw [per_out HOK.out (.inl HIA.out)]; decide, (per_out HOK.out (.inl HIA.out)).symm⟩, rfl, rfl⟩⟩, HB2.out⟩
    | true =>
      have HIA : Hid (inb W H ax ay = true) := hia
      clear hia
      go_wp2_with fail
      refine (In_in W H _ _ _ ax ay true w1 HOK.out.1 HOK.out.2.1 HIA).mono ?_
      rintro e w2 ⟨rfl, hb2⟩
      have HB2 : Hid (Below w0.heap.size w0 w2 ∧ Below w1.heap.size w1 w2) := ⟨HB1.out.trans (hb2.mono HB1.out.size), hb2⟩
      obtain ⟨x0, x1, x2, x3, x4, x5, x6⟩ := HBX.out w2 HB2.out.1
      clear hb2 y0 y1 y2 y3 y4 y5 y6
      cases hib : inb W H bx by_ with
      | false =>
        have HIB : Hid (inb W H bx by_ = false) := hib
        clear hib
        go_wp2_with fail
        refine (In_in W H _ _ _ bx by_ false w2 HOK.out.1 HOK.out.2.1 HIB).mono ?_
        rintro e w3 ⟨rfl, hb3⟩
        have HB3 : Hid (Below w.heap.size w w3) := HB0.out.trans ((HB2.out.1.trans (hb3.mono HB2.out.1.size)).mono HB0.out.size)
        clear hb3
        go_wp2_with fail
        go_ret3
        exact ⟨⟨_, _, _, rfl, .inl ⟨by decide, .inl ⟨by rw [per_out HOK.out (.inr ⟨inf_inb.1 HIA.out, HIB.out⟩)]; decide, (per_out HOK.out (.inr ⟨inf_inb.1 HIA.out, HIB.out⟩)).symm⟩, rfl, rfl⟩⟩, HB3.out⟩
      | true =>
        have HIB : Hid (inb W H bx by_ = true) := hib
        obtain ⟨X1, Y1, rfl, rfl, hX1, hY1⟩ := pinb_nat HIA.out
        obtain ⟨X, Y, rfl, rfl, hX, hY⟩ := pinb_nat hib
        clear hib
        go_wp2_with fail
        refine (In_in W H _ _ _ X Y true w2 HOK.out.1 HOK.out.2.1 HIB).mono ?_
        rintro e w3 ⟨rfl, hb3⟩
        have HB3 : Hid (Below w0.heap.size w0 w3) := HB2.out.1.trans (hb3.mono HB2.out.1.size)
        clear hb3 x0 x1 x2 x3 x4 x5 x6
        obtain ⟨x0, x1, x2, x3, x4, x5, x6⟩ := HBX.out w3 HB3.out
        obtain ⟨Z1, hZ1⟩ : ∃ Z, l.getD (Y1 * W + X1) 0 = Z := ⟨_, rfl⟩
        obtain ⟨Z2, hZ2⟩ : ∃ Z, l.getD (Y * W + X) 0 = Z := ⟨_, rfl⟩
        have HZ1 : Hid (l.getD (Y1 * W + X1) 0 = Z1) := hZ1
        have HZ2 : Hid (l.getD (Y * W + X) 0 = Z2) := hZ2
        have HX : Hid (X1 < W ∧ Y1 < H ∧ X < W ∧ Y < H) := ⟨hX1, hY1, hX, hY⟩
        have HRO : Hid (pa l (ixc W ⟨X1, Y1⟩) = Z1 ∧ pa l (ixc W ⟨X, Y⟩) = Z2) := by rw [ixc_nat, ixc_nat]; exact ⟨hZ1, hZ2⟩
        clear hZ1 hZ2 hX1 hY1 hX hY
        go_wp2_with fail
        refine (PlaceOf_in W H a c l X1 Y1 Z1 w3 (row_below HR.out HB3.out) HOK.out.1 HOK.out.2.1 HOK.out.2.2.1 HX.out.1 HX.out.2.1 HZ1).mono ?_
        rintro e w4 ⟨rfl, hb4⟩
        have HB4 : Hid (Below w0.heap.size w0 w4) := HB3.out.trans (hb4.mono HB3.out.size)
        clear hb4 x0 x1 x2 x3 x4 x5 x6
        obtain ⟨x0, x1, x2, x3, x4, x5, x6⟩ := HBX.out w4 HB4.out
        by_cases hr1 : Z1 = 1
        · subst hr1
          have HP9 : Hid (per W H l ⟨X1, Y1⟩ ⟨X, Y⟩ = 9) := per_rock HOK.out (inf_inb.1 HIA.out) (inf_inb.1 HIB.out) (.inl HRO.out.1)
          have HBW : Hid (Below w.heap.size w w4) := HB0.out.trans (HB4.out.mono HB0.out.size)
          go_wp2_with fail
          go_ret3
          exact ⟨⟨_, _, _, rfl, .inl ⟨by decide, .inl ⟨by rw [HP9.out]; decide, HP9.out.symm⟩, rfl, rfl⟩⟩, HBW.out⟩
        · have d1 : (Z1 == 1) = false := by simp [hr1]
          go_wp2_with fail
          refine (PlaceOf_in W H a c l X Y Z2 w4 (row_below HR.out HB4.out) HOK.out.1 HOK.out.2.1 HOK.out.2.2.1 HX.out.2.2.1 HX.out.2.2.2 HZ2).mono ?_
          rintro e w5 ⟨rfl, hb5⟩
          have HB5 : Hid (Below w0.heap.size w0 w5) := HB4.out.trans (hb5.mono HB4.out.size)
          clear hb5 x0 x1 x2 x3 x4 x5 x6
          obtain ⟨x0, x1, x2, x3, x4, x5, x6⟩ := HBX.out w5 HB5.out
          by_cases hr2 : Z2 = 1
          · subst hr2
            have HP9 : Hid (per W H l ⟨X1, Y1⟩ ⟨X, Y⟩ = 9) := per_rock HOK.out (inf_inb.1 HIA.out) (inf_inb.1 HIB.out) (.inr HRO.out.2)
            have HBW : Hid (Below w.heap.size w w5) := HB0.out.trans (HB5.out.mono HB0.out.size)
            go_wp2_with fail
            go_ret3
            exact ⟨⟨_, _, _, rfl, .inl ⟨by decide, .inl ⟨by rw [HP9.out]; decide, HP9.out.symm⟩, rfl, rfl⟩⟩, HBW.out⟩
          · have d2 : (Z2 == 1) = false := by simp [hr2]
            have HR1 : Hid (pa l (ixc W ⟨X1, Y1⟩) ≠ 1 ∧ pa l (ixc W ⟨X, Y⟩) ≠ 1) := by rw [HRO.out.1, HRO.out.2]; exact ⟨hr1, hr2⟩
            have hia : inf W H ⟨X1, Y1⟩ := inf_inb.1 HIA.out
            obtain ⟨w6, hw6⟩ : ∃ w6, w5.alloc (.cells #[.int .i64 (X1 : Int), .int .i64 (Y1 : Int)] 31) = w6 := ⟨_, rfl⟩
            have hb6 : Below w5.heap.size w5 w6 := by rw [← hw6]; exact alloc_below _ _
            have hB6 : Below w0.heap.size w0 w6 := HB5.out.trans (hb6.mono HB5.out.size)
            have HFL : Hid (Calls Try.prog 66 #[.agg #[.int .i64 (W : Int), .int .i64 (H : Int), .slice (some a) (W * H) c], .slice (some ⟨w5.heap.size, 0, none⟩) 1 1] w6 fun e w' => (∃ (g : Nat) (far : List Int), e = .returned (.tuple #[.slice (some ⟨g, 0, none⟩) (W * H) (W * H), .int .i64 0]) ∧ row vi w' (some ⟨g, 0, none⟩) far ∧ Sol W H l (fst_ W [⟨X1, Y1⟩]) far) ∧ Below w6.heap.size w6 w') := by
              refine (Floods_cells W H a (some ⟨w5.heap.size, 0, none⟩) c 1 1 l [⟨X1, Y1⟩] 0 w6 (row_below HR.out hB6) HOK.out.1 HOK.out.2.1 HOK.out.2.2.1 HOK.out.2.2.2 (by rw [← hw6]; exact crow_one _ _ _) rfl (by decide) (cke_one hia HR1.out.1)).mono ?_
              rintro e w' ⟨hf, hb'⟩
              rcases hf with ⟨h, _⟩ | ⟨_, g, far, rfl, hm', hs'⟩
              · exact absurd rfl h
              · exact ⟨⟨g, far, rfl, pmine_row hm', hs'⟩, hb'⟩
            have HB6 : Hid (Below w0.heap.size w0 w6) := hB6
            clear hb6 hB6 hia hr1 hr2
            go_wp2_with fail
            refine HFL.out.mono ?_
            rintro e w7 ⟨⟨g, far, rfl, hfr, hsol⟩, hb7⟩
            have hB7 : Below w0.heap.size w0 w7 := HB6.out.trans (hb7.mono HB6.out.size)
            obtain ⟨P10, hP10⟩ : ∃ P, w7.heap.size = P := ⟨_, rfl⟩
            obtain ⟨w8, hw8⟩ : ∃ w8, w7.alloc (.cells #[.slice (some ⟨g, 0, none⟩) (W * H) (W * H)] 22) = w8 := ⟨_, rfl⟩
            obtain ⟨B12, hB12⟩ : ∃ P, w8.heap.size = P := ⟨_, rfl⟩
            obtain ⟨w9, hw9⟩ : ∃ w9, w8.alloc (.cells #[.func (.func 67) #[] #[.pointer (some ⟨P10, 0, none⟩), .pointer (some ⟨F, 0, none⟩)]] 98) = w9 := ⟨_, rfl⟩
            have hb8 : Below w7.heap.size w7 w8 := by rw [← hw8]; exact alloc_below _ _
            have hb9 : Below w8.heap.size w8 w9 := by rw [← hw9]; exact alloc_below _ _
            have hb79 : Below w7.heap.size w7 w9 := hb8.trans (hb9.mono hb8.size)
            have hB9 : Below w0.heap.size w0 w9 := hB7.trans (hb79.mono hB7.size)
            have c8 : w8.cell? ⟨P10, 0, none⟩ = some (.slice (some ⟨g, 0, none⟩) (W * H) (W * H)) := by rw [← hw8, ← hP10]; simp [go_sem]
            have c9 : w9.cell? ⟨B12, 0, none⟩ = some (.func (.func 67) #[] #[.pointer (some ⟨P10, 0, none⟩), .pointer (some ⟨F, 0, none⟩)]) := by rw [← hw9, ← hB12]; simp [go_sem]
            have HCX : Hid (∀ V, Below w9.heap.size w9 V → V.cell? ⟨P10, 0, none⟩ = some (.slice (some ⟨g, 0, none⟩) (W * H) (W * H)) ∧ V.cell? ⟨B12, 0, none⟩ = some (.func (.func 67) #[] #[.pointer (some ⟨P10, 0, none⟩), .pointer (some ⟨F, 0, none⟩)]) ∧ row vi V (some ⟨g, 0, none⟩) far ∧ row vi V (some a) l ∧ Below w0.heap.size w0 V) := by
              intro V hV
              refine ⟨?_, ?_, row_below (row_below hfr hb79) hV, row_below (row_below HR.out hB9) hV, hB9.trans (hV.mono hB9.size)⟩
              · rw [hV.cell (p := ⟨P10, 0, none⟩) (Nat.lt_of_lt_of_le (cell_lt c8) hb9.size), hb9.cell (p := ⟨P10, 0, none⟩) (cell_lt c8)]; exact c8
              · rw [hV.cell (p := ⟨B12, 0, none⟩) (cell_lt c9)]; exact c9
            have HFA : Hid (∀ V, Below w9.heap.size w9 V → ∀ i, i < W * H → V.cell? ⟨g, i, none⟩ = some (.int .i64 (pa far i))) := by
              intro V hV i hi
              obtain ⟨b', hb', hc'⟩ := row_at (HCX.out V hV).2.2.1 (j := i) (by rw [hsol.len]; exact hi)
              cases hb'
              rw [← pa_get far, add_zero_at] at hc'; exact hc'
            have HS : Hid (Sol W H l (fst_ W [⟨X1, Y1⟩]) far) := hsol
            obtain ⟨I, hI⟩ : ∃ I, Y * W + X = I := ⟨_, rfl⟩
            have HI : Hid (Y * W + X = I) := hI
            have HIC : Hid (ixc W ⟨X, Y⟩ = I) := by unfold Hid; rw [ixc_nat]; exact hI
            have hIl : I < W * H := by rw [← hI]; exact pl_lt HX.out.2.2.1 HX.out.2.2.2
            obtain ⟨D, hD⟩ : ∃ D, pa far I = D := ⟨_, rfl⟩
            have HD : Hid (pa far I = D) := hD
            have HAT : Hid (∀ V, Below w9.heap.size w9 V → Calls Try.prog 67 #[.agg #[.int .i64 (X : Int), .int .i64 (Y : Int)], .pointer (some ⟨P10, 0, none⟩), .pointer (some ⟨F, 0, none⟩)] V fun e w' => e = .returned (.int .i64 D) ∧ Below V.heap.size V w') := by
              intro V hV
              have h := HCX.out V hV
              exact wat_any W H X Y I P10 F g D V HI (by omega) hIl h.1 (HBX.out V h.2.2.2.2).1 (by rw [← HD.out]; exact HFA.out V hV I hIl)
            have HGD : Hid (good W H l ⟨X1, Y1⟩ ⟨X, Y⟩ W H far) := ⟨rfl, rfl, HOK.out, inf_inb.1 HIA.out, inf_inb.1 HIB.out, HR1.out.1, HR1.out.2, hsol⟩
            have HBW9 : Hid (Below w.heap.size w w9) := HB0.out.trans (hB9.mono HB0.out.size)
            obtain ⟨v0, v1, v2, v3, v4, v5, v6⟩ := HBX.out w9 hB9
            clear hfr hsol hb7 hB7 hb8 hb9 hb79 hB9 c8 hI hD x0 x1 x2 x3 x4 x5 x6 hw6
            go_wp2_with fail
            refine (HAT.out w9 (Below.refl _ _)).mono ?_
            rintro e w10 ⟨rfl, hb10⟩
            have HB10 : Hid (Below w9.heap.size w9 w10) := hb10
            clear hb10 v0 v1 v2 v3 v4 v5 v6 c9 hw8 hw9
            by_cases hneg : D < 0
            · have HBW : Hid (Below w.heap.size w w10) := HBW9.out.trans (HB10.out.mono HBW9.out.size)
              go_wp2_with fail
              go_ret3
              exact ⟨⟨_, _, _, rfl, .inl ⟨by decide, .inr ⟨rfl, W, H, far, HGD.out, by rw [HIC.out, HD.out]; exact hneg⟩, rfl, rfl⟩⟩, HBW.out⟩
            · have hDb := sol_bd HS.out hN I hIl
              rw [HD.out] at hDb
              obtain ⟨R, hR, hRl⟩ := trl_ex HS.out D.toNat ⟨X, Y⟩ (inf_inb.1 HIB.out) (by rw [HIC.out, HD.out]; omega)
              obtain ⟨m, hmR⟩ : ∃ m, R.length = m := ⟨_, rfl⟩
              have HRT : Hid (Trl W H l far ⟨X, Y⟩ R ∧ R.length = m ∧ m ≤ 2401 ∧ 0 < m) := ⟨hR, hmR, by omega, by have := trl_pos hR; omega⟩
              have h0 : R[0]? = some ⟨X, Y⟩ := trl_head hR
              obtain ⟨S, hS⟩ : ∃ S, w10.heap.size = S := ⟨_, rfl⟩
              obtain ⟨w11, hw11⟩ : ∃ w11, w10.alloc (.cells #[.int .i64 (X : Int), .int .i64 (Y : Int)] 31) = w11 := ⟨_, rfl⟩
              obtain ⟨C0, hC0⟩ : ∃ C0, w11.heap.size = C0 := ⟨_, rfl⟩
              obtain ⟨w12, hw12⟩ : ∃ w12, w11.alloc (.cells #[.int .i64 (X : Int), .int .i64 (Y : Int)] 31) = w12 := ⟨_, rfl⟩
              have hb11 : Below w10.heap.size w10 w11 := by rw [← hw11]; exact alloc_below _ _
              have hb12 : Below w11.heap.size w11 w12 := by rw [← hw12]; exact alloc_below _ _
              have H5 : Hid (fst5 w9 w12 R (.slice (some ⟨S, 0, none⟩) 1 1) C0 0) := by
                have hm11 : minec w10.heap.size w11 (.slice (some ⟨S, 0, none⟩) 1 1) [⟨X, Y⟩] := by rw [← hw11, ← hS]; exact minec_one _ _ _
                have e : R.take (0 + 1) = [⟨X, Y⟩] := by
                  cases R with
                  | nil => simp at h0
                  | cons r R => simp at h0; simp [h0]
                have s10 := HB10.out.size
                have s11 := hb11.size
                refine ⟨(HB10.out.trans (hb11.mono s10)).trans (hb12.mono (by omega)), ?_, ⟨X, Y, by rw [← hw12, ← hC0]; exact World.alloc_heap_new w11 _, h0⟩, by omega, ?_⟩
                · rw [e]; exact minec_mono (minec_below hm11 hb12) s10
                · intro e2
                  have := (World.ownsRow.lt hm11 C0 e2).2
                  omega
              obtain ⟨v0, v1, v2, v3, v4, v5, v6⟩ := HBX.out w10 (HCX.out w10 HB10.out).2.2.2.2
              obtain ⟨u0, u1, u2, u3, u4, u5, u6⟩ := HBX.out w11 (HCX.out w11 (HB10.out.trans (hb11.mono HB10.out.size))).2.2.2.2
              clear hR hRl hmR h0 hb11 hb12 hDb
              go_wp2_with fail
              clear v0 v1 v2 v3 v4 v5 v6 u0 u1 u2 u3 u4 u5 u6 hw11 hw12
              go_loopw [13, 14] (fun v pc wr => ∃ (j g' cap C : Nat), v = .slice (some ⟨g', 0, none⟩) (j + 1) cap ∧ pc = .pointer (some ⟨C, 0, none⟩) ∧ j < m ∧ Hid (fst5 w9 wr R (.slice (some ⟨g', 0, none⟩) (j + 1) cap) C j)) (fun v _ _ => m - lnv v)
              case atStart => exact ⟨0, S, 1, C0, rfl, rfl, HRT.out.2.2.2, H5⟩
              case round =>
                obtain ⟨j, g', cap, C, rfl, rfl, hjm, HF5⟩ := hrel
                obtain ⟨hBr, hmr, ⟨xi, yi, hCr, hRj⟩, hCs, hCv⟩ := HF5.out
                have hjl : j < R.length := by rw [HRT.out.2.1]; exact hjm
                obtain ⟨tin, tps⟩ := trl_at HRT.out.1 hjl
                rw [List.getElem?_eq_getElem hjl] at hRj
                have hRe := Option.some.inj hRj
                rw [hRe] at tin tps
                obtain ⟨X2, Y2, e2, hX2, hY2⟩ := tin
                simp only [Cel.mk.injEq] at e2
                obtain ⟨rfl, rfl⟩ := e2
                obtain ⟨q0, q1, q2, q3⟩ := free2 hCr
                obtain ⟨f0, f1, f2, f3, f4, f5, f6⟩ := HBX.out wr (HCX.out wr hBr).2.2.2.2
                have HBR : Hid (Below w9.heap.size w9 wr ∧ R[j] = ⟨X2, Y2⟩ ∧ C < wr.heap.size ∧ wr.heap[C]? = some (.cells #[.int .i64 (X2 : Int), .int .i64 (Y2 : Int)] 31)) := ⟨hBr, hRe, hp_lt hCr, hCr⟩
                by_cases hlt : j + 1 < m
                · have hjl1 : j + 1 < R.length := by rw [HRT.out.2.1]; exact hlt
                  obtain ⟨tp, ta⟩ := trl_next HRT.out.1 hjl1
                  rw [hRe] at tp ta
                  obtain ⟨⟨dx, dy⟩, hdd⟩ : ∃ q, R[j + 1] = q := ⟨_, rfl⟩
                  rw [hdd] at ta
                  have HDD : Hid (R[j + 1]? = some ⟨dx, dy⟩) := by unfold Hid; rw [List.getElem?_eq_getElem hjl1, hdd]
                  obtain ⟨J, hJ1, hJ2, hJ3⟩ := bsd_first HS.out hX2 hY2 tp ta
                  obtain ⟨L, hL⟩ : ∃ L, bsd W H X2 Y2 4 = L := ⟨_, rfl⟩
                  have hLl : L.length ≤ 4 := by rw [← hL]; exact bsd_len W H X2 Y2 4
                  rw [hL] at hJ1 hJ3
                  have hJl : J < L.length := (List.getElem?_eq_some_iff.1 hJ1).1
                  obtain ⟨I2, hI2⟩ : ∃ I2, Y2 * W + X2 = I2 := ⟨_, rfl⟩
                  have hI2l : I2 < W * H := by rw [← hI2]; exact pl_lt hX2 hY2
                  have eI2 : ixc W ⟨X2, Y2⟩ = I2 := by rw [ixc_nat]; exact hI2
                  rw [eI2] at hJ2 hJ3 tp
                  have hz1 : pa l I2 ≠ 1 := fun er => by have := HS.out.rock I2 hI2l er; omega
                  have hzb := psort_bd HOK.out.2.2.2 (j := I2) (by rw [HOK.out.2.2.1]; exact hI2l)
                  have HTS : Hid (∀ (i : Nat) (x y : Int), L[i]? = some (⟨x, y⟩ : Cel) → ∀ V, Below wr.heap.size wr V → Calls Try.prog 70 #[.agg #[.int .i64 x, .int .i64 y], .pointer (some ⟨B12, 0, none⟩), .pointer (some ⟨F, 0, none⟩), .pointer (some ⟨C, 0, none⟩)] V fun e w' => e = .returned (.bool (match L[i]? with | some e => wq W far (kc (pa l I2)) (pa far I2) e | none => false)) ∧ Below V.heap.size V w') := by
                    intro i x y hi V hV
                    have hmem : (⟨x, y⟩ : Cel) ∈ bsd W H X2 Y2 4 := by rw [hL]; exact List.mem_of_getElem? hi
                    obtain ⟨x', y', ec, hx', hy', -⟩ := bsd_adj hX2 hY2 hmem
                    simp only [Cel.mk.injEq] at ec
                    obtain ⟨rfl, rfl⟩ := ec
                    have hV9 : Below w9.heap.size w9 V := hBr.trans (hV.mono hBr.size)
                    have h := HCX.out V hV9
                    obtain ⟨b0, b1, b2, _, _, _, _⟩ := HBX.out V h.2.2.2.2
                    have hCV : V.heap[C]? = some (.cells #[.int .i64 (X2 : Int), .int .i64 (Y2 : Int)] 31) := by rw [hV.block C (hp_lt hCr)]; exact hCr
                    obtain ⟨b5, b6, _, _⟩ := free2 hCV
                    have hjl2 := pl_lt hx' hy'
                    refine (wtest_any W H X2 Y2 x' y' I2 (y' * W + x') P10 F B12 C g a c l (pa l I2) (kc (pa l I2)) (pa far I2) (pa far (y' * W + x')) V hI2 rfl hI2l hjl2 hN hX2 hY2 HOK.out.1 HOK.out.2.1 (by unfold Hid; rw [hI2]; rfl) hzb hz1 rfl (sol_bd HS.out hN I2 hI2l) (sol_bd HS.out hN _ hjl2) h.2.2.2.1 HOK.out.2.2.1 h.1 b0 b1 b2 h.2.1 b5 b6 (HFA.out V hV9 I2 hI2l) (HFA.out V hV9 _ hjl2)).mono ?_
                    rintro e w' ⟨rfl, hb'⟩
                    refine ⟨?_, hb'⟩
                    rw [hi]
                    simp only [wq, ixc_nat]
                  have HJ : Hid (L[J]? = some (⟨dx, dy⟩ : Cel) ∧ (∀ i : Nat, i < J → (match L[i]? with | some e => wq W far (kc (pa l I2)) (pa far I2) e | none => false) = false) ∧ (match L[J]? with | some e => wq W far (kc (pa l I2)) (pa far I2) e | none => false) = true) := by
                    refine ⟨hJ1, fun i hi => ?_, by rw [hJ1]; exact hJ2⟩
                    cases hq : L[i]? with
                    | none => rfl
                    | some e => exact hJ3 i e hi hq
                  have HL : Hid (bsd W H X2 Y2 4 = L) := hL
                  obtain ⟨n3, hn3⟩ : ∃ n3, L.length = n3 := ⟨_, rfl⟩
                  rw [hn3] at hJl hLl
                  have HN3 : Hid (L.length = n3) := hn3
                  have hX2b : X2 ≤ 1000000 := by have := HOK.out.1; omega
                  have hY2b : Y2 ≤ 1000000 := by have := HOK.out.2.1; omega
                  have hne : ¬ ((X2 : Int) = X1 ∧ (Y2 : Int) = Y1) := by
                    rintro ⟨e1, e2⟩
                    have e3 : X2 = X1 := by omega
                    have e4 : Y2 = Y1 := by omega
                    have := (HS.out.zero I2 hI2l).2 ((fst_cel (inf_inb.1 HIA.out) I2).2 (by rw [ixc_nat, ← hI2, e3, e4]))
                    omega
                  clear hJ1 hJ2 hJ3 hL hn3 hz1 hzb eI2 tp ta hdd hRe hRj hBr hmr hCr tps hI2
                  by_cases hxx : (X2 : Int) = X1
                  · have e1 : ((X2 : Int) == X1) = true := by simp [hxx]
                    have e2 : ((Y2 : Int) == Y1) = false := by simp; intro e; exact hne ⟨hxx, by omega⟩
                    clear hne hxx
                    go_wp2_with fail
                    refine (Beside_any W H (some a) (W * H) c X2 Y2 wr HOK.out.1 HOK.out.2.1 hX2b hY2b).mono ?_
                    rintro e w3' ⟨v3, rfl, hm3, hb3⟩
                    rw [HL.out] at hm3
                    obtain ⟨g3, cap3, rfl, hg3, hg3s, hc3⟩ := minec_some hm3 (by rw [HN3.out]; omega)
                    rw [HN3.out] at hm3 hc3 ⊢
                    have hcr3 : crow w3' (some ⟨g3, 0, none⟩) L := by
                      obtain ⟨p', c', e, h, _⟩ := minec_full hm3
                      simp only [Value.slice.injEq] at e
                      rw [e.1]; exact h
                    have HIF : Hid (Calls Try.prog 69 #[.slice (some ⟨g3, 0, none⟩) n3 cap3, .func (.func 70) #[] #[.pointer (some ⟨B12, 0, none⟩), .pointer (some ⟨F, 0, none⟩), .pointer (some ⟨C, 0, none⟩)]] w3' fun e w' => e = .returned (.int .i64 (J : Int)) ∧ Below w3'.heap.size w3' w') :=
                      IndexFuncc_at (some ⟨g3, 0, none⟩) n3 cap3 _ _ _ L _ J w3' HN3.out (by omega) hcr3 hJl HJ.out.2.2 HJ.out.2.1 (fun i x y hi V hV => HTS.out i x y hi V (hb3.trans (hV.mono hb3.size)))
                    have HC3 : Hid (crow w3' (some ⟨g3, 0, none⟩) L ∧ Below wr.heap.size wr w3') := ⟨hcr3, hb3⟩
                    clear hm3 hcr3 hb3 hg3 hg3s hc3 f0 f1 f2 f3 f4 f5 f6 q0 q1 q2 q3
                    go_wp2_with fail
                    refine HIF.out.mono ?_
                    rintro e w4' ⟨rfl, hb4⟩
                    have hbr4 : Below wr.heap.size wr w4' := HC3.out.2.trans (hb4.mono HC3.out.2.size)
                    obtain ⟨a3, ea3, s0, s1⟩ := crow_below HC3.out.1 hb4 J _ HJ.out.1
                    cases ea3
                    rw [add_zero_at] at s0 s1
                    have hC4 : w4'.heap[C]? = some (.cells #[.int .i64 (X2 : Int), .int .i64 (Y2 : Int)] 31) := by rw [hbr4.block C HBR.out.2.2.1]; exact HBR.out.2.2.2
                    obtain ⟨q0, q1, q2, q3⟩ := free2 hC4
                    obtain ⟨w5', hw5⟩ : ∃ w5', (w4'.setCell ⟨C, 0, none⟩ (.int .i64 dx)).setCell ⟨C, 1, none⟩ (.int .i64 dy) = w5' := ⟨_, rfl⟩
                    obtain ⟨C6, hC6⟩ : ∃ C6, w5'.heap.size = C6 := ⟨_, rfl⟩
                    obtain ⟨w6', hw6⟩ : ∃ w6', w5'.alloc (.cells #[.int .i64 dx, .int .i64 dy] 31) = w6' := ⟨_, rfl⟩
                    obtain ⟨r0, r1, -⟩ := set2 hC4 w5' hw5.symm
                    obtain ⟨r2, r3⟩ : w6'.cell? ⟨C6, 0, none⟩ = some (.int .i64 dx) ∧ w6'.cell? ⟨C6, 1, none⟩ = some (.int .i64 dy) := by rw [← hw6, ← hC6]; constructor <;> simp [go_sem]
                    obtain ⟨g7, cap7, w7', hrun, hf7⟩ := fst5_next HF5.out hjl1 (by have := HRT.out; omega) hbr4 hw5 hC6 hw6 HDD.out
                    have HRun : Hid ((Builtin.append_ #[25, 25] 25 #[.slice (some ⟨g', 0, none⟩) (j + 1) cap, .slice (some ⟨w6'.heap.size, 0, none⟩) 1 1]).run Try.prog (w6'.alloc (.cells #[.int .i64 dx, .int .i64 dy] 31)) = .ok (.slice (some ⟨g7, 0, none⟩) (j + 1 + 1) cap7) w7') := hrun
                    have HF7 : Hid (fst5 w9 w7' R (.slice (some ⟨g7, 0, none⟩) (j + 1 + 1) cap7) C6 (j + 1)) := hf7
                    have l1 : (J : Int) < n3 := by omega
                    have l2 : (0 : Int) ≤ J := by omega
                    clear hrun hf7 hC4 hb4 hbr4 HIF
                    go_wp2_with (at_builtin; refine wpList_append_run rfl _ _ 25 rfl (.slice (some ⟨g', 0, none⟩) (j + 1) cap) (.slice (some ⟨w6'.heap.size, 0, none⟩) 1 1) rfl rfl HRun.out ?_)
                    go_wp2_with fail
                    go_roundw
                    case rel => exact ⟨j + 1, g7, cap7, C6, rfl, rfl, by omega, HF7⟩
                    case measure => simp [lnv]; omega
                  · have e1 : ((X2 : Int) == X1) = false := by simp; intro e; exact hxx (by omega)
                    clear hne hxx
                    go_wp2_with fail
                    refine (Beside_any W H (some a) (W * H) c X2 Y2 wr HOK.out.1 HOK.out.2.1 hX2b hY2b).mono ?_
                    rintro e w3' ⟨v3, rfl, hm3, hb3⟩
                    rw [HL.out] at hm3
                    obtain ⟨g3, cap3, rfl, hg3, hg3s, hc3⟩ := minec_some hm3 (by rw [HN3.out]; omega)
                    rw [HN3.out] at hm3 hc3 ⊢
                    have hcr3 : crow w3' (some ⟨g3, 0, none⟩) L := by
                      obtain ⟨p', c', e, h, _⟩ := minec_full hm3
                      simp only [Value.slice.injEq] at e
                      rw [e.1]; exact h
                    have HIF : Hid (Calls Try.prog 69 #[.slice (some ⟨g3, 0, none⟩) n3 cap3, .func (.func 70) #[] #[.pointer (some ⟨B12, 0, none⟩), .pointer (some ⟨F, 0, none⟩), .pointer (some ⟨C, 0, none⟩)]] w3' fun e w' => e = .returned (.int .i64 (J : Int)) ∧ Below w3'.heap.size w3' w') :=
                      IndexFuncc_at (some ⟨g3, 0, none⟩) n3 cap3 _ _ _ L _ J w3' HN3.out (by omega) hcr3 hJl HJ.out.2.2 HJ.out.2.1 (fun i x y hi V hV => HTS.out i x y hi V (hb3.trans (hV.mono hb3.size)))
                    have HC3 : Hid (crow w3' (some ⟨g3, 0, none⟩) L ∧ Below wr.heap.size wr w3') := ⟨hcr3, hb3⟩
                    clear hm3 hcr3 hb3 hg3 hg3s hc3 f0 f1 f2 f3 f4 f5 f6 q0 q1 q2 q3
                    go_wp2_with fail
                    refine HIF.out.mono ?_
                    rintro e w4' ⟨rfl, hb4⟩
                    have hbr4 : Below wr.heap.size wr w4' := HC3.out.2.trans (hb4.mono HC3.out.2.size)
                    obtain ⟨a3, ea3, s0, s1⟩ := crow_below HC3.out.1 hb4 J _ HJ.out.1
                    cases ea3
                    rw [add_zero_at] at s0 s1
                    have hC4 : w4'.heap[C]? = some (.cells #[.int .i64 (X2 : Int), .int .i64 (Y2 : Int)] 31) := by rw [hbr4.block C HBR.out.2.2.1]; exact HBR.out.2.2.2
                    obtain ⟨q0, q1, q2, q3⟩ := free2 hC4
                    obtain ⟨w5', hw5⟩ : ∃ w5', (w4'.setCell ⟨C, 0, none⟩ (.int .i64 dx)).setCell ⟨C, 1, none⟩ (.int .i64 dy) = w5' := ⟨_, rfl⟩
                    obtain ⟨C6, hC6⟩ : ∃ C6, w5'.heap.size = C6 := ⟨_, rfl⟩
                    obtain ⟨w6', hw6⟩ : ∃ w6', w5'.alloc (.cells #[.int .i64 dx, .int .i64 dy] 31) = w6' := ⟨_, rfl⟩
                    obtain ⟨r0, r1, -⟩ := set2 hC4 w5' hw5.symm
                    obtain ⟨r2, r3⟩ : w6'.cell? ⟨C6, 0, none⟩ = some (.int .i64 dx) ∧ w6'.cell? ⟨C6, 1, none⟩ = some (.int .i64 dy) := by rw [← hw6, ← hC6]; constructor <;> simp [go_sem]
                    obtain ⟨g7, cap7, w7', hrun, hf7⟩ := fst5_next HF5.out hjl1 (by have := HRT.out; omega) hbr4 hw5 hC6 hw6 HDD.out
                    have HRun : Hid ((Builtin.append_ #[25, 25] 25 #[.slice (some ⟨g', 0, none⟩) (j + 1) cap, .slice (some ⟨w6'.heap.size, 0, none⟩) 1 1]).run Try.prog (w6'.alloc (.cells #[.int .i64 dx, .int .i64 dy] 31)) = .ok (.slice (some ⟨g7, 0, none⟩) (j + 1 + 1) cap7) w7') := hrun
                    have HF7 : Hid (fst5 w9 w7' R (.slice (some ⟨g7, 0, none⟩) (j + 1 + 1) cap7) C6 (j + 1)) := hf7
                    have l1 : (J : Int) < n3 := by omega
                    have l2 : (0 : Int) ≤ J := by omega
                    clear hrun hf7 hC4 hb4 hbr4 HIF
                    go_wp2_with (at_builtin; refine wpList_append_run rfl _ _ 25 rfl (.slice (some ⟨g', 0, none⟩) (j + 1) cap) (.slice (some ⟨w6'.heap.size, 0, none⟩) 1 1) rfl rfl HRun.out ?_)
                    go_wp2_with fail
                    go_roundw
                    case rel => exact ⟨j + 1, g7, cap7, C6, rfl, rfl, by omega, HF7⟩
                    case measure => simp [lnv]; omega
                · obtain ⟨k, rfl⟩ : ∃ k, m = k + 1 := ⟨m - 1, by omega⟩
                  obtain rfl : j = k := by omega
                  have hend := trl_end HS.out (fun i _ => fst_cel (inf_inb.1 HIA.out) i) HRT.out.1 (k := j) (by rw [HRT.out.2.1])
                  rw [hRe] at hend
                  have hae := ixc_inj ⟨X2, Y2, rfl, hX2, hY2⟩ (inf_inb.1 HIA.out) hend
                  simp only [Cel.mk.injEq] at hae
                  have ex : X2 = X1 := by omega
                  have ey : Y2 = Y1 := by omega
                  subst ex ey
                  have hmk : minec w9.heap.size wr (.slice (some ⟨g', 0, none⟩) (j + 1) cap) R := by
                    have := hmr
                    rwa [List.take_of_length_le (by rw [HRT.out.2.1]; exact Nat.le_refl _)] at this
                  have hgg := (World.ownsRow.lt hmk g' rfl).1
                  have HMK : Hid (minec w9.heap.size wr (.slice (some ⟨g', 0, none⟩) (j + 1) cap) R) := hmk
                  clear hmk hend hae hRe hRj hBr hmr hCr tps
                  go_wp2_with fail
                  refine (Reverse_any w9.heap.size g' (j + 1) cap R wr HMK.out HRT.out.2.1 (by omega) (by have := HRT.out; omega)).mono ?_
                  rintro e w13 ⟨rfl, hm13, he13⟩
                  have hB13 : Below w9.heap.size w9 w13 := HBR.out.1.trans (he13.below HBR.out.1.size (fun q hq e => by omega))
                  have H13 : Hid (Below w9.heap.size w9 w13 ∧ minec w9.heap.size w13 (.slice (some ⟨g', 0, none⟩) (j + 1) cap) R.reverse) := ⟨hB13, hm13⟩
                  clear f0 f1 f2 f3 f4 f5 f6 q0 q1 q2 q3
                  obtain ⟨f0, f1, f2, f3, f4, f5, f6⟩ := HBX.out w13 (HCX.out w13 hB13).2.2.2.2
                  have fb := (HCX.out w13 hB13).2.1
                  clear hm13 he13 hB13 hgg
                  go_wp2_with fail
                  refine (HAT.out w13 H13.out.1).mono ?_
                  rintro e w14 ⟨rfl, hb14⟩
                  have H14 : Hid (Below w.heap.size w w14 ∧ minec w.heap.size w14 (.slice (some ⟨g', 0, none⟩) (j + 1) cap) R.reverse) :=
                    ⟨HBW9.out.trans ((H13.out.1.trans (hb14.mono H13.out.1.size)).mono HBW9.out.size), minec_mono (minec_below H13.out.2 hb14) HBW9.out.size⟩
                  clear hb14 f0 f1 f2 f3 f4 f5 f6 fb
                  go_wp2_with fail
                  go_ret3
                  exact ⟨⟨_, _, _, rfl, .inr ⟨rfl, W, H, far, R, g', cap, HGD.out, by rw [HIC.out, HD.out]; omega, by rw [HIC.out, HD.out], HRT.out.1, by have := HRT.out; omega, by rw [HRT.out.2.1]; rfl, H14.out.2⟩⟩, H14.out.1⟩
  · have d1 : (E == 0) = false := by simp [h1]
    have HBW : Hid (Below w.heap.size w w1) := HB0.out.trans (HB1.out.mono HB0.out.size)
    have HPE : Hid (per A B l ⟨ax, ay⟩ ⟨bx, by_⟩ = E) := by unfold Hid; rw [per_ck (by rw [HE.out]; exact h1), HE.out]
    go_wp2_with fail
    go_ret3
    exact ⟨⟨_, _, _, rfl, .inl ⟨h1, .inl ⟨by rw [HPE.out]; exact h1, HPE.out.symm⟩, rfl, rfl⟩⟩, HBW.out⟩
end Go.Proofs.Ytnbbfnlfcncgnaa
