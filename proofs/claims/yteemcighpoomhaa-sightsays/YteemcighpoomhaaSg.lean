/- What Seen returns: all cells that are near enough and seen, row by row. -/
import Derived.Test.YteemcighpoomhaaSl
import Derived.RegionTactic
namespace Go.Proofs.Yteemcighpoomhaa
open Go.RowKit
set_option linter.unusedVariables false

theorem run_max2 {P : Program} (w : World) (ts : Array TypeId) (t : TypeId) (k k1 : IntKind) (x y : Int) : (Builtin.max_ ts t #[.int k x, .int k1 y]).run P w = .ok (.int k (mx x y)) w := by
  have e : ∀ a b : Int, (if b > a then b else a) = mx a b := fun a b => by unfold mx; omega
  simp [Builtin.max_, Builtin.max2]
  simp only [← e]
def mn (a b : Int) : Int := if b < a then b else a
theorem run_min2 {P : Program} (w : World) (ts : Array TypeId) (t : TypeId) (k k1 : IntKind) (x y : Int) : (Builtin.min_ ts t #[.int k x, .int k1 y]).run P w = .ok (.int k (mn x y)) w := by
  unfold mn
  simp [Builtin.min_, Builtin.min2]

set_option maxRecDepth 20000 in
set_option maxHeartbeats 2000000 in
theorem Seen_no (A B : Int) (p : Option Addr) (n c : Nat) (l : List Int) (X Y r E : Int) (w : World) (hr : row vi w p l) (hn : l.length = n) (hm : n ≤ 9223372036854775807) (hE : Hid (cer A B l X Y = E)) (h0 : E ≠ 0) :
    Calls Try.prog 7 #[.agg #[.int .i64 A, .int .i64 B, .slice p n c], .agg #[.int .i64 X, .int .i64 Y], .int .i64 r] w fun e w' => e = .returned (.tuple #[.slice none 0 0, .int .i64 E]) ∧ Below w.heap.size w w' := by
  have HR : Hid (row vi w p l) := hr
  have HN : Hid (l.length = n) := hn
  have e0 : (E == 0) = false := by simp [h0]
  have e1 : (E != 0) = true := by simp [h0]
  clear hr hn
  go_enter Try.func7, Try.ntmps7
  go_wp2_with fail
  refine (check_any A B p n c l X Y E _ (row_below HR.out ((alloc_below w _).alloc (by simp) _)) HN.out hm hE).mono ?_
  rintro e w1 ⟨rfl, hb⟩
  have HB : Hid (Below w.heap.size w w1) := ((alloc_below w _).alloc (by simp) _).trans (hb.mono (by simp; omega))
  clear hb
  go_wp2_with fail
  go_ret2
  exact ⟨rfl, HB.out⟩
set_option maxRecDepth 20000 in
set_option maxHeartbeats 2000000 in
theorem Seen_arg (A B : Int) (p : Option Addr) (n c : Nat) (l : List Int) (X Y r : Int) (w : World) (hr : row vi w p l) (hn : l.length = n) (hm : n ≤ 9223372036854775807) (hE : Hid (cer A B l X Y = 0)) (h0 : r < 0 ∨ 12 < r) :
    Calls Try.prog 7 #[.agg #[.int .i64 A, .int .i64 B, .slice p n c], .agg #[.int .i64 X, .int .i64 Y], .int .i64 r] w fun e w' => e = .returned (.tuple #[.slice none 0 0, .int .i64 1]) ∧ Below w.heap.size w w' := by
  have HR : Hid (row vi w p l) := hr
  have HN : Hid (l.length = n) := hn
  clear hr hn
  go_enter Try.func7, Try.ntmps7
  go_wp2_with fail
  refine (check_any A B p n c l X Y 0 _ (row_below HR.out ((alloc_below w _).alloc (by simp) _)) HN.out hm hE).mono ?_
  rintro e w1 ⟨rfl, hb⟩
  have HB : Hid (Below w.heap.size w w1) := ((alloc_below w _).alloc (by simp) _).trans (hb.mono (by simp; omega))
  clear hb
  by_cases h1 : r < 0
  · go_wp2_with fail
    go_ret2
    exact ⟨rfl, HB.out⟩
  · have h2 : 12 < r := by omega
    go_wp2_with fail
    go_ret2
    exact ⟨rfl, HB.out⟩
theorem minec_mono {B B' : Nat} {w : World} {v : Value} {Q : List Cel} (h : minec B w v Q) (hB : B' ≤ B) : minec B' w v Q := ⟨h.1, by
  rcases h.2 with h0 | ⟨g', cap, cur, hv, hb, hr⟩
  · exact .inl h0
  · exact .inr ⟨g', cap, cur, hv, Nat.le_trans hB hb, hr⟩⟩
theorem kg_in {X Y r x y : Nat} (h1 : X ≤ x + r) (h2 : x ≤ X + r) (h3 : Y ≤ y + r) (h4 : y ≤ Y + r) : kg X Y x y ≤ r := by
  have h := kg_cases X Y x y
  have : ds (X : Int) x ≤ r := by unfold ds; omega
  have : ds (Y : Int) y ≤ r := by unfold ds; omega
  omega
/-- What is kept while Seen goes on: what was found lies in memory of one's own. -/
def sgd (B : Nat) (w1 wr : World) (s : Value) (L : List Cel) : Prop := minec B wr s L ∧ Below B w1 wr ∧ B ≤ wr.heap.size
set_option maxRecDepth 20000 in
set_option maxHeartbeats 4000000 in
theorem Seen_ok (W H : Nat) (a : Addr) (c : Nat) (l : List Int) (X Y r : Nat) (w : World) (hr : row vi w (some a) l) (hf : okf W H l) (hX : X < W) (hY : Y < H) (h12 : r ≤ 12) :
    Calls Try.prog 7 #[.agg #[.int .i64 (W : Int), .int .i64 (H : Int), .slice (some a) (W * H) c], .agg #[.int .i64 (X : Int), .int .i64 (Y : Int)], .int .i64 (r : Int)] w fun e w' => ∃ v, e = .returned (.tuple #[v, .int .i64 0]) ∧ minec w.heap.size w' v (sn W l X Y r (W * H)) ∧ Below w.heap.size w w' := by
  have HR : Hid (row vi w (some a) l) := hr
  have HF : Hid (okf W H l) := hf
  have H1 : Hid (cer W H l X Y = 0) := cer_ok hf hX hY
  have hm : W * H ≤ 9223372036854775807 := by have := wh_le hf.1 hf.2.1; omega
  have HWH : Hid (W * H ≤ 1600) := wh_le hf.1 hf.2.1
  obtain ⟨hW1, hW2⟩ := hf.1
  obtain ⟨hH1, hH2⟩ := hf.2.1
  obtain ⟨b0, hb0⟩ : ∃ b0, Y - r = b0 := ⟨_, rfl⟩
  obtain ⟨b1, hb1⟩ : ∃ b1, min (Y + r) (H - 1) = b1 := ⟨_, rfl⟩
  obtain ⟨a0, ha0⟩ : ∃ a0, X - r = a0 := ⟨_, rfl⟩
  obtain ⟨a1, ha1⟩ : ∃ a1, min (X + r) (W - 1) = a1 := ⟨_, rfl⟩
  have m2 := @run_max2 Try.prog
  have n2 := @run_min2 Try.prog
  have ey0 : mx ((Y : Int) - r) 0 = b0 := by unfold mx; omega
  have ey1 : mn ((Y : Int) + r) ((H : Int) - 1) = b1 := by unfold mn; omega
  have ex0 : mx ((X : Int) - r) 0 = a0 := by unfold mx; omega
  have ex1 : mn ((X : Int) + r) ((W : Int) - 1) = a1 := by unfold mn; omega
  have HTOP : Hid (sn W l X Y r (b0 * W) = []) := sn_top (by omega) (by omega)
  have HEND : Hid (sn W l X Y r (W * H) = sn W l X Y r ((b1 + 1) * W)) := sn_end (by omega) (by omega) (by omega)
  have HLEFT : Hid (∀ y, sn W l X Y r (y * W + a0) = sn W l X Y r (y * W)) := fun y => sn_left (by omega) (by omega) (by omega)
  have HRIGHT : Hid (∀ y, sn W l X Y r ((y + 1) * W) = sn W l X Y r (y * W + (a1 + 1))) := fun y => sn_right (by omega) (by omega) (by omega)
  have HNR : Hid (∀ x y : Nat, a0 ≤ x → x ≤ a1 → b0 ≤ y → y ≤ b1 → kg X Y x y ≤ r) := fun x y h1 h2 h3 h4 => kg_in (by omega) (by omega) (by omega) (by omega)
  have k1 : b0 ≤ b1 := by omega
  have k2 : b1 < H := by omega
  have k3 : a0 ≤ a1 := by omega
  have k4 : a1 < W := by omega
  clear hr hf hb0 hb1 ha0 ha1
  have HB0 : Hid (∀ V, Below ((w.alloc (.cells #[.int .i64 (W : Int), .int .i64 (H : Int), .slice (some a) (W * H) c] 24)).alloc (.cells #[.int .i64 (X : Int), .int .i64 (Y : Int)] 26)).heap.size ((w.alloc (.cells #[.int .i64 (W : Int), .int .i64 (H : Int), .slice (some a) (W * H) c] 24)).alloc (.cells #[.int .i64 (X : Int), .int .i64 (Y : Int)] 26)) V → _) := fun V hV => boxes (w := w) rfl hV
  go_enter Try.func7, Try.ntmps7
  go_wp2_with fail
  refine (check_any W H (some a) (W * H) c l X Y 0 _ (row_below HR.out ((alloc_below w _).alloc (by simp) _)) HF.out.2.2.1 hm H1).mono ?_
  rintro e w1 ⟨rfl, hb1⟩
  obtain ⟨z0, z1, z2, z3, z4, hB⟩ := HB0.out w1 hb1
  have hs1 : w.heap.size + 1 < w1.heap.size := cell_lt z3
  have HB1 : Hid (Below w.heap.size w w1) := hB
  have HBX : Hid (∀ V, Below w1.heap.size w1 V → V.cell? ⟨w.heap.size, 0, none⟩ = some (.int .i64 (W : Int)) ∧ V.cell? ⟨w.heap.size, 1, none⟩ = some (.int .i64 (H : Int)) ∧ V.cell? ⟨w.heap.size, 2, none⟩ = some (.slice (some a) (W * H) c) ∧ V.cell? ⟨w.heap.size + 1, 0, none⟩ = some (.int .i64 (X : Int)) ∧ V.cell? ⟨w.heap.size + 1, 1, none⟩ = some (.int .i64 (Y : Int))) := fun V hV =>
    ⟨(hV.cell (cell_lt z0)).trans z0, (hV.cell (cell_lt z1)).trans z1, (hV.cell (cell_lt z2)).trans z2, (hV.cell (cell_lt z3)).trans z3, (hV.cell (cell_lt z4)).trans z4⟩
  have HR1 : Hid (row vi w1 (some a) l) := row_below HR.out hB
  have HS0 : Hid (sgd w1.heap.size w1 w1 (.slice none 0 0) (sn W l X Y r (b0 * W))) := by unfold Hid; rw [HTOP.out]; exact ⟨minec_nil _ _, Below.refl _ _, Nat.le_refl _⟩
  clear hb1 hB HB0
  go_wp2_with fail
  go_loopw [9, 10] (fun s i wr => ∃ y : Nat, i = .int .i64 (y : Int) ∧ b0 ≤ y ∧ y ≤ b1 + 1 ∧ Hid (sgd w1.heap.size w1 wr s (sn W l X Y r (y * W)))) (fun _ i _ => b1 + 1 - (intOf i).toNat)
  case atStart => exact ⟨b0, rfl, by omega, by omega, HS0⟩
  case round =>
    obtain ⟨y, rfl, hy0, hy1, HS⟩ := hrel
    obtain ⟨w4, hw4⟩ : ∃ w4 : World, w4 = wr := ⟨_, rfl⟩
    subst hw4
    by_cases hlt : y ≤ b1
    · clear z0 z1 z2 z3 z4
      obtain ⟨z0, z1, z2, z3, z4⟩ := HBX.out w4 HS.out.2.1
      have l1 : (y : Int) ≤ b1 := by omega
      have HS2 : Hid (sgd w1.heap.size w1 w4 u9 (sn W l X Y r (y * W + a0))) := by unfold Hid; rw [HLEFT.out]; exact HS.out
      go_wp2_with fail
      clear z0 z1 z2 z3 z4 HS
      go_loopw [9, 11] (fun s i wr => ∃ x : Nat, i = .int .i64 (x : Int) ∧ a0 ≤ x ∧ x ≤ a1 + 1 ∧ Hid (sgd w1.heap.size w1 wr s (sn W l X Y r (y * W + x)))) (fun _ i _ => a1 + 1 - (intOf i).toNat)
      case atStart => exact ⟨a0, rfl, by omega, by omega, HS2⟩
      case round =>
        obtain ⟨x, rfl, hx0, hx1, HT⟩ := hrel
        clear HS2
        by_cases hlt2 : x ≤ a1
        · obtain ⟨z0, z1, z2, z3, z4⟩ := HBX.out wr HT.out.2.1
          have l2 : (x : Int) ≤ a1 := by omega
          obtain ⟨G, hG⟩ : ∃ G, wr.heap.size = G := ⟨_, rfl⟩
          obtain ⟨w5, hw5⟩ : ∃ w5, wr.alloc (.cells #[.int .i64 (x : Int), .int .i64 (y : Int)] 26) = w5 := ⟨_, rfl⟩
          have hb5 : Below wr.heap.size wr w5 := by rw [← hw5]; exact alloc_below _ _
          have HT5 : Hid (sgd w1.heap.size w1 w5 u9 (sn W l X Y r (y * W + x))) := ⟨minec_below HT.out.1 hb5, HT.out.2.1.trans (hb5.mono HT.out.2.2), Nat.le_trans HT.out.2.2 hb5.size⟩
          obtain ⟨q0, q1, q2, q3, q4⟩ := HBX.out w5 HT5.out.2.1
          have g01 : w5.cell? ⟨G, 0, none⟩ = some (.int .i64 (x : Int)) ∧ w5.cell? ⟨G, 1, none⟩ = some (.int .i64 (y : Int)) := by rw [← hw5, ← hG]; constructor <;> simp [go_sem]
          obtain ⟨g0, g1⟩ := g01
          have HR5 : Hid (row vi w5 (some a) l) := row_below HR1.out HT5.out.2.1
          clear hb5
          cases hse : se W l X Y x y with
          | true =>
            have HSE : Hid (se W l X Y x y = true) := hse
            have HSP : Hid (sn W l X Y r (y * W + (x + 1)) = sn W l X Y r (y * W + x) ++ [⟨(x : Int), (y : Int)⟩]) := by
              unfold Hid
              rw [← Nat.add_assoc, sn_yes, ix_mod (by omega), ix_div (by omega)]
              rw [sp_at (by omega)]
              unfold spc
              rw [hse, decide_eq_true (HNR.out x y hx0 hlt2 hy0 hlt)]; rfl
            clear hse
            go_wp2_with fail
            refine (sees_any W H a c l X Y x y true w5 HR5.out HF.out.1 HF.out.2.1 HF.out.2.2.1 hX hY (by omega) (by omega) HSE).mono ?_
            rintro e w6 ⟨rfl, hb6⟩
            have h6 : sgd w1.heap.size w1 w6 u9 (sn W l X Y r (y * W + x)) := ⟨minec_below HT5.out.1 hb6, HT5.out.2.1.trans (hb6.mono HT5.out.2.2), Nat.le_trans HT5.out.2.2 hb6.size⟩
            have p0 : w6.cell? ⟨G, 0, none⟩ = some (.int .i64 (x : Int)) := (hb6.cell (p := ⟨G, 0, none⟩) (cell_lt g0)).trans g0
            have p1 : w6.cell? ⟨G, 1, none⟩ = some (.int .i64 (y : Int)) := (hb6.cell (p := ⟨G, 1, none⟩) (cell_lt g1)).trans g1
            have hb7 := alloc_below w6 (.cells #[.int .i64 (x : Int), .int .i64 (y : Int)] 26)
            obtain ⟨v7, w7, hrun, hm7, hg7⟩ := run_more (d := 1) (m := 1) 27 (minec_below h6.1 hb7) (crow_one w6 x y) rfl (fun h => by cases h) (by have := sn_len W l X Y r (y * W + x); have := ix_lt (W := W) (H := H) (X := x) (Y := y) (by omega) (by omega); have := HWH.out; omega) (by have := h6.2.2; simp; omega)
            have HRun : Hid ((Builtin.append_ #[27, 27] 27 #[u9, .slice (some ⟨w6.heap.size, 0, none⟩) 1 1]).run Try.prog (w6.alloc (.cells #[.int .i64 (x : Int), .int .i64 (y : Int)] 26)) = .ok v7 w7) := hrun
            have HS7 : Hid (sgd w1.heap.size w1 w7 v7 (sn W l X Y r (y * W + (x + 1)))) := by
              refine ⟨?_, ?_, ?_⟩
              · rw [HSP.out]; exact hm7
              · exact (h6.2.1.alloc h6.2.2 _).grown hg7 (by have := h6.2.2; simp; omega) (fun k' hk' => (World.ownsRow.lt h6.1 k' hk').1)
              · have := hg7.size; have := h6.2.2; simp at *; omega
            clear hb6 h6 hb7 hrun hm7 hg7 g0 g1 q0 q1 q2 q3 q4 z0 z1 z2 z3 z4 hw5
            go_wp2_with (at_builtin; refine wpList_append_run rfl _ _ 27 rfl u9 (.slice (some ⟨w6.heap.size, 0, none⟩) 1 1) rfl rfl HRun.out ?_)
            go_wp2_with fail
            go_roundw
            case rel => exact ⟨x + 1, by go_num, by omega, by omega, HS7⟩
            case measure => simp [intOf]; omega
          | false =>
            have HSE : Hid (se W l X Y x y = false) := hse
            have HSP : Hid (sn W l X Y r (y * W + (x + 1)) = sn W l X Y r (y * W + x)) := by
              unfold Hid
              rw [← Nat.add_assoc, sn_no]
              rw [sp_at (by omega)]
              unfold spc
              rw [hse, Bool.and_false]
            clear hse
            go_wp2_with fail
            refine (sees_any W H a c l X Y x y false w5 HR5.out HF.out.1 HF.out.2.1 HF.out.2.2.1 hX hY (by omega) (by omega) HSE).mono ?_
            rintro e w6 ⟨rfl, hb6⟩
            have HS7 : Hid (sgd w1.heap.size w1 w6 u9 (sn W l X Y r (y * W + (x + 1)))) := by
              unfold Hid
              rw [HSP.out]
              exact ⟨minec_below HT5.out.1 hb6, HT5.out.2.1.trans (hb6.mono HT5.out.2.2), Nat.le_trans HT5.out.2.2 hb6.size⟩
            clear hb6 g0 g1 q0 q1 q2 q3 q4 z0 z1 z2 z3 z4 hw5
            go_wp2_with fail
            go_roundw
            case rel => exact ⟨x + 1, by go_num, by omega, by omega, HS7⟩
            case measure => simp [intOf]; omega
        · obtain rfl : x = a1 + 1 := by omega
          obtain ⟨z0, z1, z2, z3, z4⟩ := HBX.out wr HT.out.2.1
          have l2 : ¬ ((a1 + 1 : Nat) : Int) ≤ a1 := by omega
          have HT2 : Hid (sgd w1.heap.size w1 wr u9 (sn W l X Y r ((y + 1) * W))) := by unfold Hid; rw [HRIGHT.out]; exact HT.out
          go_wp2_with fail
          go_roundw
          case rel => exact ⟨y + 1, by go_num, by omega, by omega, HT2⟩
          case measure => simp [intOf]; omega
    · obtain rfl : y = b1 + 1 := by omega
      clear z0 z1 z2 z3 z4
      obtain ⟨z0, z1, z2, z3, z4⟩ := HBX.out w4 HS.out.2.1
      have l1 : ¬ ((b1 + 1 : Nat) : Int) ≤ b1 := by omega
      have HT2 : Hid (minec w.heap.size w4 u9 (sn W l X Y r (W * H)) ∧ Below w.heap.size w w4) := by
        unfold Hid
        rw [HEND.out]
        exact ⟨minec_mono HS.out.1 HB1.out.size, HB1.out.trans (HS.out.2.1.mono HB1.out.size)⟩
      go_wp2_with fail
      go_ret2
      exact ⟨_, rfl, HT2.out.1, HT2.out.2⟩
end Go.Proofs.Yteemcighpoomhaa
