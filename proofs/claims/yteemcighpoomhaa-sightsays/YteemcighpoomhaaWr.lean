/- What Write returns of a right field. -/
import Derived.Test.YteemcighpoomhaaTxt
namespace Go.Proofs.Yteemcighpoomhaa
open Go.RowKit Go.Shelf
set_option linter.unusedVariables false
attribute [local go_sem] Oper.semAt_some

theorem ck_ok {W H : Nat} {l : List Int} (hW : 1 ≤ W ∧ W ≤ 40) (hH : 1 ≤ H ∧ H ≤ 40) (hl : l.length = W * H) (hg : l.any bad = false) : ck W H l = 0 := by
  unfold ck sd
  rw [if_pos ⟨by simp; omega, by simp; omega⟩, if_pos ⟨by rw [hl]; push_cast; rfl, hg⟩]
theorem Check_ok (W H : Nat) (a : Addr) (c : Nat) (l : List Int) (w : World) (hr : row vi w (some a) l) (hW : 1 ≤ W ∧ W ≤ 40) (hH : 1 ≤ H ∧ H ≤ 40) (hl : l.length = W * H) (hg : l.any bad = false) :
    Calls Try.prog 26 #[.agg #[.int .i64 (W : Int), .int .i64 (H : Int), .slice (some a) (W * H) c]] w fun e w' => e = .returned (.int .i64 0) ∧ Below w.heap.size w w' := by
  have hWH : W * H ≤ 1600 := by have := Nat.mul_le_mul hW.2 hH.2; omega
  have := Check_any W H (some a) (W * H) c l w hr hl (by omega)
  rw [ck_ok hW hH hl hg] at this
  exact this

set_option maxRecDepth 100000 in
set_option maxHeartbeats 4000000 in
theorem Write_ok (W H : Nat) (a : Addr) (c : Nat) (l : List Int) (w : World) (hr : row vi w (some a) l) (hW : 1 ≤ W ∧ W ≤ 40) (hH : 1 ≤ H ∧ H ≤ 40) (hl : l.length = W * H) (hg : l.any bad = false) (hc : W * H ≤ c) :
    Calls Try.prog 32 #[.agg #[.int .i64 (W : Int), .int .i64 (H : Int), .slice (some a) (W * H) c]] w fun e w' => e = .returned (.tuple #[.string ⟨(txt W H l).toArray⟩, .int .i64 0]) ∧ Below w.heap.size w w' := by
  refine (callsIn_wide (n := 3)).1 ?_
  refine callsIn_of_wp_marks Try.func32 rfl trivial ?_ rfl
  simp only [Try.ntmps32, List.size_toArray, List.length_cons, List.length_nil, Nat.reduceAdd, Nat.reduceSub, Array.replicate_succ, Array.replicate_zero, List.push_toArray, List.append_toArray, List.nil_append, List.cons_append]
  have HR : Hid (row vi w (some a) l) := hr
  have HL : Hid (l.length = W * H) := hl
  have HG : Hid (l.any bad = false) := hg
  have HW : Hid (1 ≤ W ∧ W ≤ 40) := hW
  have HH : Hid (1 ≤ H ∧ H ≤ 40) := hH
  have HC : Hid (W * H ≤ c) := hc
  clear hr hl hg hW hH hc
  gi_wp2_with fail
  refine ⟨trivial, ?_⟩
  refine (callsIn_wide.2 (Check_ok W H a c l _ (row_below HR.out (alloc_below _ _)) HW.out HH.out HL.out HG.out)).mono ?_
  rintro e w1 ⟨rfl, hb⟩
  have HB : Hid (Below _ _ w1) := hb
  obtain ⟨c0, c1, c2⟩ := box3 hb
  have hsz : w.heap.size < w1.heap.size := by have := hb.size; simp at this; omega
  clear hb
  gi_wp2_with fail
  refine ⟨trivial, ?_⟩
  refine (rows_in Fence.wide 2 trivial rfl _ _ _ _ _ _).mono ?_
  rintro e w2 ⟨rfl, hw2⟩; subst w2
  gi_wp2_with fail
  obtain ⟨T, hT⟩ : ∃ T, w1.heap.size = T := ⟨_, rfl⟩
  obtain ⟨w3, hw3⟩ : ∃ w3, (w1.alloc (.cells #[.slice none 0 0] 64)).alloc (.cells #[.int .i64 (W : Int), .int .i64 (H : Int), .slice (some a) (W * H) c] 24) = w3 := ⟨_, rfl⟩
  have hs3 : w3.heap.size = T + 2 := by rw [← hw3, ← hT]; simp
  have bT : Boxed w3 T 64 (.slice none 0 0) := by rw [← hw3, ← hT]; exact (Boxed.new w1 64 (.slice none 0 0)).alloc _
  have hB3 : Below w.heap.size w w3 := by
    have h0 : Below w.heap.size w w1 := below_step (alloc_below w _) (by simp) HB.out
    rw [← hw3]
    exact (h0.alloc (by omega) _).alloc (by simp; omega) _
  have hg0 : w3.cell? ⟨T + 1, 0, none⟩ = some (.int .i64 (W : Int)) ∧ w3.cell? ⟨T + 1, 1, none⟩ = some (.int .i64 (H : Int)) ∧ w3.cell? ⟨T + 1, 2, none⟩ = some (.slice (some a) (W * H) c) := by
    have := box3 (w := w1.alloc (.cells #[.slice none 0 0] 64)) (w1 := w3) (a := .int .i64 (W : Int)) (b := .int .i64 (H : Int)) (c := .slice (some a) (W * H) c) (t := 24) (by rw [hw3]; exact Below.refl _ _)
    rw [World.size_alloc, hT] at this; exact this
  have hWH : W * H ≤ 1600 := by have := Nat.mul_le_mul HW.out.2 HH.out.2; omega
  have hmul : (W + 1) * H ≤ 1640 := by have := Nat.mul_le_mul HW.out.2 HH.out.2; have := HH.out.2; rw [Nat.add_mul]; omega
  rw [hT, hw3]
  clear hw3
  refine wpIn_rangeFunc_ownF rfl (by omega) (gf := 50) (lb := #[.pointer (some ⟨T + 1, 0, none⟩)]) rfl trivial (enters_of Try.func50 (by kernel_rfl) rfl)
    (rows_stops Fence.wide _ trivial rfl (by omega) (T + 1) W H c a HW.out HH.out HC.out w3 (by omega) hg0.1 hg0.2.1 hg0.2.2) kB_t (kB_b (by omega)) (Below.refl _ _) (fun _ => rfl)
    (fun pre W' => bx 64 5 vb (T + 2) T W' (tx W l pre) ∧ But (T + 2) T w3 W') (fun _ _ _ => False)
    (OwnFrom.and (Own.from (bx_own 64 5 vb (T + 2) T (fun pre => tx W l pre)) _) (But.own (by omega) (by omega))) (fun _ _ _ _ _ hs _ _ => hs)
    ⟨⟨_, bT, mine_nil _ _ _ _⟩, But.refl _ _ _⟩
    (fun x => { tmps := #[.agg #[.int .i64 (W : Int), .int .i64 (H : Int), .slice (some a) (W * H) c], .pointer (some ⟨w.heap.size, 0, none⟩), .string ⟨#[]⟩, .int .i64 0, .int .i64 0, .pointer (some ⟨T, 0, none⟩), undef, .slice (some (a.add (x.1 * W))) W (c - x.1 * W), undef, undef,
      .agg #[.int .i64 (W : Int), .int .i64 (H : Int), .slice (some a) (W * H) c], .int .i64 0, .int .i64 0, .bool false, undef, .agg #[.int .i64 (W : Int), .int .i64 (H : Int), .slice (some a) (W * H) c], .func (.func 50) #[] #[.pointer (some ⟨T + 1, 0, none⟩)], .int .i64 (x.1 : Int), .slice (some (a.add (x.1 * W))) W (c - x.1 * W),
      undef, undef, undef, undef, undef, undef, undef, undef, undef, undef, undef, undef, undef, undef, undef, undef], defers := [] }) ?assign ?body ?done ?stop
  case assign =>
    intro l x W K hK
    unfold ya
    gi_wp2
    exact hK
  case body =>
    rintro lp pre x W1 ⟨hbx, hbut⟩ hlt
    have HPL : Hid (pre.length < H) := hlt
    have hN1 : T + 2 ≤ W1.heap.size := by have := hbut.size; omega
    have hBW : Below w.heap.size w W1 := hB3.trans (hbut.below (by omega) (by omega))
    gi_wp2
    gi_loopw [21] (fun i wr => ∃ k : Nat, k ≤ W ∧ i = .int .i64 (k : Int) ∧ bx 64 5 vb (T + 2) T wr (tx W l pre ++ ((rl W l x.1).take k).map sg) ∧ KeepsOthers W1 wr ∧ But (T + 2) T W1 wr)
      (fun i _ => W - (intOf i).toNat)
    case atStart => exact ⟨0, Nat.zero_le _, rfl, by simpa using hbx, KeepsOthers.refl _, But.refl _ _ _⟩
    case round =>
      obtain ⟨k, hk, rfl, hbk, hko, hbk2⟩ := hrel
      by_cases hkW : k < W
      · obtain ⟨hkl, hkr, hrk⟩ := rl_at HL.out x.2 hkW
        have hgd := good_at HG.out hkl
        obtain ⟨ad, had, hcl⟩ := row_at (row_below HR.out (hBW.trans (hbk2.below (by omega) (by omega)))) hkl
        cases had
        obtain ⟨X, hX⟩ : ∃ X, l[x.1 * W + k] = X := ⟨_, rfl⟩
        rw [hX] at hgd hcl hrk
        have hca : wr.cell? ((a.add (x.1 * W)).add k) = some (.int .i64 X) := by rw [add_add]; exact hcl
        have HX : Hid ((rl W l x.1).take (k + 1) = (rl W l x.1).take k ++ [X]) := by unfold Hid; rw [List.take_succ_eq_append_getElem hkr, hrk]
        obtain ⟨L, hL⟩ : ∃ L, tx W l pre ++ ((rl W l x.1).take k).map sg = L := ⟨_, rfl⟩
        have hLl : L.length ≤ 2000 := by
          rw [← hL, List.length_append, tx_len HL.out, List.length_map, List.length_take]
          have h1 : (W + 1) * pre.length ≤ (W + 1) * H := Nat.mul_le_mul_left _ (Nat.le_of_lt HPL.out)
          have := HW.out; omega
        have HLL : Hid (tx W l pre ++ ((rl W l x.1).take (k + 1)).map sg = L ++ [sg X]) := by unfold Hid; rw [HX.out, ← hL]; simp
        rw [hL] at hbk
        clear hL hX hcl hrk hkr hkl
        obtain ⟨v, hv, hrow⟩ := hbk
        have hc := hv.cell
        have hNr : T + 2 ≤ wr.heap.size := by have := hbk2.size; omega
        have hmx : Try.prog.follows .mixedOrders = true := by kernel_rfl
        have hrow2 := fun o => World.ownsRow.alloc (w := wr.drew) hrow o
        have hcell2 := fun b : UInt8 => new_one wr.drew 5 (vb b)
        have hds : wr.drew.heap.size = wr.heap.size := rfl
        have hTl : T < wr.heap.size := by omega
        have hW40 : W ≤ 40 := HW.out.2
        gi_wp2_with fail
        obtain rfl | rfl | rfl | rfl : X = 0 ∨ X = 1 ∨ X = 2 ∨ X = 3 := by omega
        · refine wpIn_region_any (by assumption) ?_
          change wpAnyIn _ _ _ _ _ _ _ _ _ (World.drew _)
          refine wpAnyIn_ready (rs := [0, 1]) (by kernel_rfl) (by simp) ?_
          refine (AllReadyIn.cons rfl (fun K hK => ?_) (AllReadyIn.cons rfl (fun K hK => ?_) AllReadyIn.nil))
          · go_simp
            refine hK _ _ ?_
            clear hK K
            refine wpAnyIn_ready (rs := [1]) (by kernel_rfl) (by simp) ?_
            refine (AllReadyIn.cons rfl (fun K hK => ?_) AllReadyIn.nil)
            go_simp
            refine hK _ _ ?_
            clear hK K
            refine wpAnyIn_ready (rs := [2]) (by kernel_rfl) (by simp) ?_
            refine (AllReadyIn.cons rfl (fun K hK => ?_) AllReadyIn.nil)
            go_simp
            refine hK _ _ ?_
            clear hK K
            refine wpAnyIn_ready (rs := [3]) (by kernel_rfl) (by simp) ?_
            refine (AllReadyIn.cons rfl (fun K hK => ?_) AllReadyIn.nil)
            go_simp
            refine hK _ _ ?_
            clear hK K
            refine wpAnyIn_ready (rs := [4]) (by kernel_rfl) (by simp) ?_
            refine (AllReadyIn.cons rfl (fun K hK => ?_) AllReadyIn.nil)
            refine step_one_in kb _ rfl _ _ rfl (T + 2) v L rfl (hrow2 _) ⟨wr.heap.size, 0, none⟩ 1 46 rfl (hcell2 46) (by omega) (by simp; omega) ?_
            intro g cap w5 hown hgr
            refine hK _ _ ?_
            clear hK K
            obtain ⟨hv1, hb1, hk1, hbb1⟩ := bx_app (by decide) hv hrow hNr (grown_trans (grown_drew _) (grown_alloc _ _)) ((KeepsOthers.drew _).trans (KeepsOthers.alloc _ _)) hown hgr
            have hc1 := hv1.cell
            have hf1 := hv1.frozen
            refine wpAnyIn_ready (rs := [5]) (by kernel_rfl) (by simp) ?_
            refine (AllReadyIn.cons rfl (fun K hK => ?_) AllReadyIn.nil)
            go_simp
            refine hK _ _ ?_
            clear hK K
            refine wpAnyIn_done (by kernel_rfl) ?_ _
            gi_wp2
            go_roundw
            case rel => exact ⟨k + 1, by omega, by simp, by rw [HLL.out]; exact hb1, hko.trans hk1, hbk2.trans hbb1⟩
            case measure => simp [intOf]; omega
          · go_simp
            refine hK _ _ ?_
            clear hK K
            refine wpAnyIn_ready (rs := [0, 2]) (by kernel_rfl) (by simp) ?_
            refine (AllReadyIn.cons rfl (fun K hK => ?_) (AllReadyIn.cons rfl (fun K hK => ?_) AllReadyIn.nil))
            · go_simp
              refine hK _ _ ?_
              clear hK K
              refine wpAnyIn_ready (rs := [2]) (by kernel_rfl) (by simp) ?_
              refine (AllReadyIn.cons rfl (fun K hK => ?_) AllReadyIn.nil)
              go_simp
              refine hK _ _ ?_
              clear hK K
              refine wpAnyIn_ready (rs := [3]) (by kernel_rfl) (by simp) ?_
              refine (AllReadyIn.cons rfl (fun K hK => ?_) AllReadyIn.nil)
              go_simp
              refine hK _ _ ?_
              clear hK K
              refine wpAnyIn_ready (rs := [4]) (by kernel_rfl) (by simp) ?_
              refine (AllReadyIn.cons rfl (fun K hK => ?_) AllReadyIn.nil)
              refine step_one_in kb _ rfl _ _ rfl (T + 2) v L rfl (hrow2 _) ⟨wr.heap.size, 0, none⟩ 1 46 rfl (hcell2 46) (by omega) (by simp; omega) ?_
              intro g cap w5 hown hgr
              refine hK _ _ ?_
              clear hK K
              obtain ⟨hv1, hb1, hk1, hbb1⟩ := bx_app (by decide) hv hrow hNr (grown_trans (grown_drew _) (grown_alloc _ _)) ((KeepsOthers.drew _).trans (KeepsOthers.alloc _ _)) hown hgr
              have hc1 := hv1.cell
              have hf1 := hv1.frozen
              refine wpAnyIn_ready (rs := [5]) (by kernel_rfl) (by simp) ?_
              refine (AllReadyIn.cons rfl (fun K hK => ?_) AllReadyIn.nil)
              go_simp
              refine hK _ _ ?_
              clear hK K
              refine wpAnyIn_done (by kernel_rfl) ?_ _
              gi_wp2
              go_roundw
              case rel => exact ⟨k + 1, by omega, by simp, by rw [HLL.out]; exact hb1, hko.trans hk1, hbk2.trans hbb1⟩
              case measure => simp [intOf]; omega
            · go_simp
              refine hK _ _ ?_
              clear hK K
              refine wpAnyIn_ready (rs := [0, 3]) (by kernel_rfl) (by simp) ?_
              refine (AllReadyIn.cons rfl (fun K hK => ?_) (AllReadyIn.cons rfl (fun K hK => ?_) AllReadyIn.nil))
              · go_simp
                refine hK _ _ ?_
                clear hK K
                refine wpAnyIn_ready (rs := [3]) (by kernel_rfl) (by simp) ?_
                refine (AllReadyIn.cons rfl (fun K hK => ?_) AllReadyIn.nil)
                go_simp
                refine hK _ _ ?_
                clear hK K
                refine wpAnyIn_ready (rs := [4]) (by kernel_rfl) (by simp) ?_
                refine (AllReadyIn.cons rfl (fun K hK => ?_) AllReadyIn.nil)
                refine step_one_in kb _ rfl _ _ rfl (T + 2) v L rfl (hrow2 _) ⟨wr.heap.size, 0, none⟩ 1 46 rfl (hcell2 46) (by omega) (by simp; omega) ?_
                intro g cap w5 hown hgr
                refine hK _ _ ?_
                clear hK K
                obtain ⟨hv1, hb1, hk1, hbb1⟩ := bx_app (by decide) hv hrow hNr (grown_trans (grown_drew _) (grown_alloc _ _)) ((KeepsOthers.drew _).trans (KeepsOthers.alloc _ _)) hown hgr
                have hc1 := hv1.cell
                have hf1 := hv1.frozen
                refine wpAnyIn_ready (rs := [5]) (by kernel_rfl) (by simp) ?_
                refine (AllReadyIn.cons rfl (fun K hK => ?_) AllReadyIn.nil)
                go_simp
                refine hK _ _ ?_
                clear hK K
                refine wpAnyIn_done (by kernel_rfl) ?_ _
                gi_wp2
                go_roundw
                case rel => exact ⟨k + 1, by omega, by simp, by rw [HLL.out]; exact hb1, hko.trans hk1, hbk2.trans hbb1⟩
                case measure => simp [intOf]; omega
              · go_simp
                refine hK _ _ ?_
                clear hK K
                refine wpAnyIn_ready (rs := [0]) (by kernel_rfl) (by simp) ?_
                refine (AllReadyIn.cons rfl (fun K hK => ?_) AllReadyIn.nil)
                go_simp
                refine hK _ _ ?_
                clear hK K
                refine wpAnyIn_ready (rs := [4]) (by kernel_rfl) (by simp) ?_
                refine (AllReadyIn.cons rfl (fun K hK => ?_) AllReadyIn.nil)
                refine step_one_in kb _ rfl _ _ rfl (T + 2) v L rfl (hrow2 _) ⟨wr.heap.size, 0, none⟩ 1 46 rfl (hcell2 46) (by omega) (by simp; omega) ?_
                intro g cap w5 hown hgr
                refine hK _ _ ?_
                clear hK K
                obtain ⟨hv1, hb1, hk1, hbb1⟩ := bx_app (by decide) hv hrow hNr (grown_trans (grown_drew _) (grown_alloc _ _)) ((KeepsOthers.drew _).trans (KeepsOthers.alloc _ _)) hown hgr
                have hc1 := hv1.cell
                have hf1 := hv1.frozen
                refine wpAnyIn_ready (rs := [5]) (by kernel_rfl) (by simp) ?_
                refine (AllReadyIn.cons rfl (fun K hK => ?_) AllReadyIn.nil)
                go_simp
                refine hK _ _ ?_
                clear hK K
                refine wpAnyIn_done (by kernel_rfl) ?_ _
                gi_wp2
                go_roundw
                case rel => exact ⟨k + 1, by omega, by simp, by rw [HLL.out]; exact hb1, hko.trans hk1, hbk2.trans hbb1⟩
                case measure => simp [intOf]; omega
        · refine wpIn_region_any (by assumption) ?_
          change wpAnyIn _ _ _ _ _ _ _ _ _ (World.drew _)
          refine wpAnyIn_ready (rs := [0, 1]) (by kernel_rfl) (by simp) ?_
          refine (AllReadyIn.cons rfl (fun K hK => ?_) (AllReadyIn.cons rfl (fun K hK => ?_) AllReadyIn.nil))
          · go_simp
            refine hK _ _ ?_
            clear hK K
            refine wpAnyIn_ready (rs := [1]) (by kernel_rfl) (by simp) ?_
            refine (AllReadyIn.cons rfl (fun K hK => ?_) AllReadyIn.nil)
            go_simp
            refine hK _ _ ?_
            clear hK K
            refine wpAnyIn_ready (rs := [2]) (by kernel_rfl) (by simp) ?_
            refine (AllReadyIn.cons rfl (fun K hK => ?_) AllReadyIn.nil)
            go_simp
            refine hK _ _ ?_
            clear hK K
            refine wpAnyIn_ready (rs := [3]) (by kernel_rfl) (by simp) ?_
            refine (AllReadyIn.cons rfl (fun K hK => ?_) AllReadyIn.nil)
            go_simp
            refine hK _ _ ?_
            clear hK K
            refine wpAnyIn_ready (rs := [4]) (by kernel_rfl) (by simp) ?_
            refine (AllReadyIn.cons rfl (fun K hK => ?_) AllReadyIn.nil)
            refine step_one_in kb _ rfl _ _ rfl (T + 2) v L rfl (hrow2 _) ⟨wr.heap.size, 0, none⟩ 1 35 rfl (hcell2 35) (by omega) (by simp; omega) ?_
            intro g cap w5 hown hgr
            refine hK _ _ ?_
            clear hK K
            obtain ⟨hv1, hb1, hk1, hbb1⟩ := bx_app (by decide) hv hrow hNr (grown_trans (grown_drew _) (grown_alloc _ _)) ((KeepsOthers.drew _).trans (KeepsOthers.alloc _ _)) hown hgr
            have hc1 := hv1.cell
            have hf1 := hv1.frozen
            refine wpAnyIn_ready (rs := [5]) (by kernel_rfl) (by simp) ?_
            refine (AllReadyIn.cons rfl (fun K hK => ?_) AllReadyIn.nil)
            go_simp
            refine hK _ _ ?_
            clear hK K
            refine wpAnyIn_done (by kernel_rfl) ?_ _
            gi_wp2
            go_roundw
            case rel => exact ⟨k + 1, by omega, by simp, by rw [HLL.out]; exact hb1, hko.trans hk1, hbk2.trans hbb1⟩
            case measure => simp [intOf]; omega
          · go_simp
            refine hK _ _ ?_
            clear hK K
            refine wpAnyIn_ready (rs := [0, 2]) (by kernel_rfl) (by simp) ?_
            refine (AllReadyIn.cons rfl (fun K hK => ?_) (AllReadyIn.cons rfl (fun K hK => ?_) AllReadyIn.nil))
            · go_simp
              refine hK _ _ ?_
              clear hK K
              refine wpAnyIn_ready (rs := [2]) (by kernel_rfl) (by simp) ?_
              refine (AllReadyIn.cons rfl (fun K hK => ?_) AllReadyIn.nil)
              go_simp
              refine hK _ _ ?_
              clear hK K
              refine wpAnyIn_ready (rs := [3]) (by kernel_rfl) (by simp) ?_
              refine (AllReadyIn.cons rfl (fun K hK => ?_) AllReadyIn.nil)
              go_simp
              refine hK _ _ ?_
              clear hK K
              refine wpAnyIn_ready (rs := [4]) (by kernel_rfl) (by simp) ?_
              refine (AllReadyIn.cons rfl (fun K hK => ?_) AllReadyIn.nil)
              refine step_one_in kb _ rfl _ _ rfl (T + 2) v L rfl (hrow2 _) ⟨wr.heap.size, 0, none⟩ 1 35 rfl (hcell2 35) (by omega) (by simp; omega) ?_
              intro g cap w5 hown hgr
              refine hK _ _ ?_
              clear hK K
              obtain ⟨hv1, hb1, hk1, hbb1⟩ := bx_app (by decide) hv hrow hNr (grown_trans (grown_drew _) (grown_alloc _ _)) ((KeepsOthers.drew _).trans (KeepsOthers.alloc _ _)) hown hgr
              have hc1 := hv1.cell
              have hf1 := hv1.frozen
              refine wpAnyIn_ready (rs := [5]) (by kernel_rfl) (by simp) ?_
              refine (AllReadyIn.cons rfl (fun K hK => ?_) AllReadyIn.nil)
              go_simp
              refine hK _ _ ?_
              clear hK K
              refine wpAnyIn_done (by kernel_rfl) ?_ _
              gi_wp2
              go_roundw
              case rel => exact ⟨k + 1, by omega, by simp, by rw [HLL.out]; exact hb1, hko.trans hk1, hbk2.trans hbb1⟩
              case measure => simp [intOf]; omega
            · go_simp
              refine hK _ _ ?_
              clear hK K
              refine wpAnyIn_ready (rs := [0, 3]) (by kernel_rfl) (by simp) ?_
              refine (AllReadyIn.cons rfl (fun K hK => ?_) (AllReadyIn.cons rfl (fun K hK => ?_) AllReadyIn.nil))
              · go_simp
                refine hK _ _ ?_
                clear hK K
                refine wpAnyIn_ready (rs := [3]) (by kernel_rfl) (by simp) ?_
                refine (AllReadyIn.cons rfl (fun K hK => ?_) AllReadyIn.nil)
                go_simp
                refine hK _ _ ?_
                clear hK K
                refine wpAnyIn_ready (rs := [4]) (by kernel_rfl) (by simp) ?_
                refine (AllReadyIn.cons rfl (fun K hK => ?_) AllReadyIn.nil)
                refine step_one_in kb _ rfl _ _ rfl (T + 2) v L rfl (hrow2 _) ⟨wr.heap.size, 0, none⟩ 1 35 rfl (hcell2 35) (by omega) (by simp; omega) ?_
                intro g cap w5 hown hgr
                refine hK _ _ ?_
                clear hK K
                obtain ⟨hv1, hb1, hk1, hbb1⟩ := bx_app (by decide) hv hrow hNr (grown_trans (grown_drew _) (grown_alloc _ _)) ((KeepsOthers.drew _).trans (KeepsOthers.alloc _ _)) hown hgr
                have hc1 := hv1.cell
                have hf1 := hv1.frozen
                refine wpAnyIn_ready (rs := [5]) (by kernel_rfl) (by simp) ?_
                refine (AllReadyIn.cons rfl (fun K hK => ?_) AllReadyIn.nil)
                go_simp
                refine hK _ _ ?_
                clear hK K
                refine wpAnyIn_done (by kernel_rfl) ?_ _
                gi_wp2
                go_roundw
                case rel => exact ⟨k + 1, by omega, by simp, by rw [HLL.out]; exact hb1, hko.trans hk1, hbk2.trans hbb1⟩
                case measure => simp [intOf]; omega
              · go_simp
                refine hK _ _ ?_
                clear hK K
                refine wpAnyIn_ready (rs := [0]) (by kernel_rfl) (by simp) ?_
                refine (AllReadyIn.cons rfl (fun K hK => ?_) AllReadyIn.nil)
                go_simp
                refine hK _ _ ?_
                clear hK K
                refine wpAnyIn_ready (rs := [4]) (by kernel_rfl) (by simp) ?_
                refine (AllReadyIn.cons rfl (fun K hK => ?_) AllReadyIn.nil)
                refine step_one_in kb _ rfl _ _ rfl (T + 2) v L rfl (hrow2 _) ⟨wr.heap.size, 0, none⟩ 1 35 rfl (hcell2 35) (by omega) (by simp; omega) ?_
                intro g cap w5 hown hgr
                refine hK _ _ ?_
                clear hK K
                obtain ⟨hv1, hb1, hk1, hbb1⟩ := bx_app (by decide) hv hrow hNr (grown_trans (grown_drew _) (grown_alloc _ _)) ((KeepsOthers.drew _).trans (KeepsOthers.alloc _ _)) hown hgr
                have hc1 := hv1.cell
                have hf1 := hv1.frozen
                refine wpAnyIn_ready (rs := [5]) (by kernel_rfl) (by simp) ?_
                refine (AllReadyIn.cons rfl (fun K hK => ?_) AllReadyIn.nil)
                go_simp
                refine hK _ _ ?_
                clear hK K
                refine wpAnyIn_done (by kernel_rfl) ?_ _
                gi_wp2
                go_roundw
                case rel => exact ⟨k + 1, by omega, by simp, by rw [HLL.out]; exact hb1, hko.trans hk1, hbk2.trans hbb1⟩
                case measure => simp [intOf]; omega
        · refine wpIn_region_any (by assumption) ?_
          change wpAnyIn _ _ _ _ _ _ _ _ _ (World.drew _)
          refine wpAnyIn_ready (rs := [0, 1]) (by kernel_rfl) (by simp) ?_
          refine (AllReadyIn.cons rfl (fun K hK => ?_) (AllReadyIn.cons rfl (fun K hK => ?_) AllReadyIn.nil))
          · go_simp
            refine hK _ _ ?_
            clear hK K
            refine wpAnyIn_ready (rs := [1]) (by kernel_rfl) (by simp) ?_
            refine (AllReadyIn.cons rfl (fun K hK => ?_) AllReadyIn.nil)
            go_simp
            refine hK _ _ ?_
            clear hK K
            refine wpAnyIn_ready (rs := [2]) (by kernel_rfl) (by simp) ?_
            refine (AllReadyIn.cons rfl (fun K hK => ?_) AllReadyIn.nil)
            go_simp
            refine hK _ _ ?_
            clear hK K
            refine wpAnyIn_ready (rs := [3]) (by kernel_rfl) (by simp) ?_
            refine (AllReadyIn.cons rfl (fun K hK => ?_) AllReadyIn.nil)
            go_simp
            refine hK _ _ ?_
            clear hK K
            refine wpAnyIn_ready (rs := [4]) (by kernel_rfl) (by simp) ?_
            refine (AllReadyIn.cons rfl (fun K hK => ?_) AllReadyIn.nil)
            refine step_one_in kb _ rfl _ _ rfl (T + 2) v L rfl (hrow2 _) ⟨wr.heap.size, 0, none⟩ 1 116 rfl (hcell2 116) (by omega) (by simp; omega) ?_
            intro g cap w5 hown hgr
            refine hK _ _ ?_
            clear hK K
            obtain ⟨hv1, hb1, hk1, hbb1⟩ := bx_app (by decide) hv hrow hNr (grown_trans (grown_drew _) (grown_alloc _ _)) ((KeepsOthers.drew _).trans (KeepsOthers.alloc _ _)) hown hgr
            have hc1 := hv1.cell
            have hf1 := hv1.frozen
            refine wpAnyIn_ready (rs := [5]) (by kernel_rfl) (by simp) ?_
            refine (AllReadyIn.cons rfl (fun K hK => ?_) AllReadyIn.nil)
            go_simp
            refine hK _ _ ?_
            clear hK K
            refine wpAnyIn_done (by kernel_rfl) ?_ _
            gi_wp2
            go_roundw
            case rel => exact ⟨k + 1, by omega, by simp, by rw [HLL.out]; exact hb1, hko.trans hk1, hbk2.trans hbb1⟩
            case measure => simp [intOf]; omega
          · go_simp
            refine hK _ _ ?_
            clear hK K
            refine wpAnyIn_ready (rs := [0, 2]) (by kernel_rfl) (by simp) ?_
            refine (AllReadyIn.cons rfl (fun K hK => ?_) (AllReadyIn.cons rfl (fun K hK => ?_) AllReadyIn.nil))
            · go_simp
              refine hK _ _ ?_
              clear hK K
              refine wpAnyIn_ready (rs := [2]) (by kernel_rfl) (by simp) ?_
              refine (AllReadyIn.cons rfl (fun K hK => ?_) AllReadyIn.nil)
              go_simp
              refine hK _ _ ?_
              clear hK K
              refine wpAnyIn_ready (rs := [3]) (by kernel_rfl) (by simp) ?_
              refine (AllReadyIn.cons rfl (fun K hK => ?_) AllReadyIn.nil)
              go_simp
              refine hK _ _ ?_
              clear hK K
              refine wpAnyIn_ready (rs := [4]) (by kernel_rfl) (by simp) ?_
              refine (AllReadyIn.cons rfl (fun K hK => ?_) AllReadyIn.nil)
              refine step_one_in kb _ rfl _ _ rfl (T + 2) v L rfl (hrow2 _) ⟨wr.heap.size, 0, none⟩ 1 116 rfl (hcell2 116) (by omega) (by simp; omega) ?_
              intro g cap w5 hown hgr
              refine hK _ _ ?_
              clear hK K
              obtain ⟨hv1, hb1, hk1, hbb1⟩ := bx_app (by decide) hv hrow hNr (grown_trans (grown_drew _) (grown_alloc _ _)) ((KeepsOthers.drew _).trans (KeepsOthers.alloc _ _)) hown hgr
              have hc1 := hv1.cell
              have hf1 := hv1.frozen
              refine wpAnyIn_ready (rs := [5]) (by kernel_rfl) (by simp) ?_
              refine (AllReadyIn.cons rfl (fun K hK => ?_) AllReadyIn.nil)
              go_simp
              refine hK _ _ ?_
              clear hK K
              refine wpAnyIn_done (by kernel_rfl) ?_ _
              gi_wp2
              go_roundw
              case rel => exact ⟨k + 1, by omega, by simp, by rw [HLL.out]; exact hb1, hko.trans hk1, hbk2.trans hbb1⟩
              case measure => simp [intOf]; omega
            · go_simp
              refine hK _ _ ?_
              clear hK K
              refine wpAnyIn_ready (rs := [0, 3]) (by kernel_rfl) (by simp) ?_
              refine (AllReadyIn.cons rfl (fun K hK => ?_) (AllReadyIn.cons rfl (fun K hK => ?_) AllReadyIn.nil))
              · go_simp
                refine hK _ _ ?_
                clear hK K
                refine wpAnyIn_ready (rs := [3]) (by kernel_rfl) (by simp) ?_
                refine (AllReadyIn.cons rfl (fun K hK => ?_) AllReadyIn.nil)
                go_simp
                refine hK _ _ ?_
                clear hK K
                refine wpAnyIn_ready (rs := [4]) (by kernel_rfl) (by simp) ?_
                refine (AllReadyIn.cons rfl (fun K hK => ?_) AllReadyIn.nil)
                refine step_one_in kb _ rfl _ _ rfl (T + 2) v L rfl (hrow2 _) ⟨wr.heap.size, 0, none⟩ 1 116 rfl (hcell2 116) (by omega) (by simp; omega) ?_
                intro g cap w5 hown hgr
                refine hK _ _ ?_
                clear hK K
                obtain ⟨hv1, hb1, hk1, hbb1⟩ := bx_app (by decide) hv hrow hNr (grown_trans (grown_drew _) (grown_alloc _ _)) ((KeepsOthers.drew _).trans (KeepsOthers.alloc _ _)) hown hgr
                have hc1 := hv1.cell
                have hf1 := hv1.frozen
                refine wpAnyIn_ready (rs := [5]) (by kernel_rfl) (by simp) ?_
                refine (AllReadyIn.cons rfl (fun K hK => ?_) AllReadyIn.nil)
                go_simp
                refine hK _ _ ?_
                clear hK K
                refine wpAnyIn_done (by kernel_rfl) ?_ _
                gi_wp2
                go_roundw
                case rel => exact ⟨k + 1, by omega, by simp, by rw [HLL.out]; exact hb1, hko.trans hk1, hbk2.trans hbb1⟩
                case measure => simp [intOf]; omega
              · go_simp
                refine hK _ _ ?_
                clear hK K
                refine wpAnyIn_ready (rs := [0]) (by kernel_rfl) (by simp) ?_
                refine (AllReadyIn.cons rfl (fun K hK => ?_) AllReadyIn.nil)
                go_simp
                refine hK _ _ ?_
                clear hK K
                refine wpAnyIn_ready (rs := [4]) (by kernel_rfl) (by simp) ?_
                refine (AllReadyIn.cons rfl (fun K hK => ?_) AllReadyIn.nil)
                refine step_one_in kb _ rfl _ _ rfl (T + 2) v L rfl (hrow2 _) ⟨wr.heap.size, 0, none⟩ 1 116 rfl (hcell2 116) (by omega) (by simp; omega) ?_
                intro g cap w5 hown hgr
                refine hK _ _ ?_
                clear hK K
                obtain ⟨hv1, hb1, hk1, hbb1⟩ := bx_app (by decide) hv hrow hNr (grown_trans (grown_drew _) (grown_alloc _ _)) ((KeepsOthers.drew _).trans (KeepsOthers.alloc _ _)) hown hgr
                have hc1 := hv1.cell
                have hf1 := hv1.frozen
                refine wpAnyIn_ready (rs := [5]) (by kernel_rfl) (by simp) ?_
                refine (AllReadyIn.cons rfl (fun K hK => ?_) AllReadyIn.nil)
                go_simp
                refine hK _ _ ?_
                clear hK K
                refine wpAnyIn_done (by kernel_rfl) ?_ _
                gi_wp2
                go_roundw
                case rel => exact ⟨k + 1, by omega, by simp, by rw [HLL.out]; exact hb1, hko.trans hk1, hbk2.trans hbb1⟩
                case measure => simp [intOf]; omega
        · refine wpIn_region_any (by assumption) ?_
          change wpAnyIn _ _ _ _ _ _ _ _ _ (World.drew _)
          refine wpAnyIn_ready (rs := [0, 1]) (by kernel_rfl) (by simp) ?_
          refine (AllReadyIn.cons rfl (fun K hK => ?_) (AllReadyIn.cons rfl (fun K hK => ?_) AllReadyIn.nil))
          · go_simp
            refine hK _ _ ?_
            clear hK K
            refine wpAnyIn_ready (rs := [1]) (by kernel_rfl) (by simp) ?_
            refine (AllReadyIn.cons rfl (fun K hK => ?_) AllReadyIn.nil)
            go_simp
            refine hK _ _ ?_
            clear hK K
            refine wpAnyIn_ready (rs := [2]) (by kernel_rfl) (by simp) ?_
            refine (AllReadyIn.cons rfl (fun K hK => ?_) AllReadyIn.nil)
            go_simp
            refine hK _ _ ?_
            clear hK K
            refine wpAnyIn_ready (rs := [3]) (by kernel_rfl) (by simp) ?_
            refine (AllReadyIn.cons rfl (fun K hK => ?_) AllReadyIn.nil)
            go_simp
            refine hK _ _ ?_
            clear hK K
            refine wpAnyIn_ready (rs := [4]) (by kernel_rfl) (by simp) ?_
            refine (AllReadyIn.cons rfl (fun K hK => ?_) AllReadyIn.nil)
            refine step_one_in kb _ rfl _ _ rfl (T + 2) v L rfl (hrow2 _) ⟨wr.heap.size, 0, none⟩ 1 111 rfl (hcell2 111) (by omega) (by simp; omega) ?_
            intro g cap w5 hown hgr
            refine hK _ _ ?_
            clear hK K
            obtain ⟨hv1, hb1, hk1, hbb1⟩ := bx_app (by decide) hv hrow hNr (grown_trans (grown_drew _) (grown_alloc _ _)) ((KeepsOthers.drew _).trans (KeepsOthers.alloc _ _)) hown hgr
            have hc1 := hv1.cell
            have hf1 := hv1.frozen
            refine wpAnyIn_ready (rs := [5]) (by kernel_rfl) (by simp) ?_
            refine (AllReadyIn.cons rfl (fun K hK => ?_) AllReadyIn.nil)
            go_simp
            refine hK _ _ ?_
            clear hK K
            refine wpAnyIn_done (by kernel_rfl) ?_ _
            gi_wp2
            go_roundw
            case rel => exact ⟨k + 1, by omega, by simp, by rw [HLL.out]; exact hb1, hko.trans hk1, hbk2.trans hbb1⟩
            case measure => simp [intOf]; omega
          · go_simp
            refine hK _ _ ?_
            clear hK K
            refine wpAnyIn_ready (rs := [0, 2]) (by kernel_rfl) (by simp) ?_
            refine (AllReadyIn.cons rfl (fun K hK => ?_) (AllReadyIn.cons rfl (fun K hK => ?_) AllReadyIn.nil))
            · go_simp
              refine hK _ _ ?_
              clear hK K
              refine wpAnyIn_ready (rs := [2]) (by kernel_rfl) (by simp) ?_
              refine (AllReadyIn.cons rfl (fun K hK => ?_) AllReadyIn.nil)
              go_simp
              refine hK _ _ ?_
              clear hK K
              refine wpAnyIn_ready (rs := [3]) (by kernel_rfl) (by simp) ?_
              refine (AllReadyIn.cons rfl (fun K hK => ?_) AllReadyIn.nil)
              go_simp
              refine hK _ _ ?_
              clear hK K
              refine wpAnyIn_ready (rs := [4]) (by kernel_rfl) (by simp) ?_
              refine (AllReadyIn.cons rfl (fun K hK => ?_) AllReadyIn.nil)
              refine step_one_in kb _ rfl _ _ rfl (T + 2) v L rfl (hrow2 _) ⟨wr.heap.size, 0, none⟩ 1 111 rfl (hcell2 111) (by omega) (by simp; omega) ?_
              intro g cap w5 hown hgr
              refine hK _ _ ?_
              clear hK K
              obtain ⟨hv1, hb1, hk1, hbb1⟩ := bx_app (by decide) hv hrow hNr (grown_trans (grown_drew _) (grown_alloc _ _)) ((KeepsOthers.drew _).trans (KeepsOthers.alloc _ _)) hown hgr
              have hc1 := hv1.cell
              have hf1 := hv1.frozen
              refine wpAnyIn_ready (rs := [5]) (by kernel_rfl) (by simp) ?_
              refine (AllReadyIn.cons rfl (fun K hK => ?_) AllReadyIn.nil)
              go_simp
              refine hK _ _ ?_
              clear hK K
              refine wpAnyIn_done (by kernel_rfl) ?_ _
              gi_wp2
              go_roundw
              case rel => exact ⟨k + 1, by omega, by simp, by rw [HLL.out]; exact hb1, hko.trans hk1, hbk2.trans hbb1⟩
              case measure => simp [intOf]; omega
            · go_simp
              refine hK _ _ ?_
              clear hK K
              refine wpAnyIn_ready (rs := [0, 3]) (by kernel_rfl) (by simp) ?_
              refine (AllReadyIn.cons rfl (fun K hK => ?_) (AllReadyIn.cons rfl (fun K hK => ?_) AllReadyIn.nil))
              · go_simp
                refine hK _ _ ?_
                clear hK K
                refine wpAnyIn_ready (rs := [3]) (by kernel_rfl) (by simp) ?_
                refine (AllReadyIn.cons rfl (fun K hK => ?_) AllReadyIn.nil)
                go_simp
                refine hK _ _ ?_
                clear hK K
                refine wpAnyIn_ready (rs := [4]) (by kernel_rfl) (by simp) ?_
                refine (AllReadyIn.cons rfl (fun K hK => ?_) AllReadyIn.nil)
                refine step_one_in kb _ rfl _ _ rfl (T + 2) v L rfl (hrow2 _) ⟨wr.heap.size, 0, none⟩ 1 111 rfl (hcell2 111) (by omega) (by simp; omega) ?_
                intro g cap w5 hown hgr
                refine hK _ _ ?_
                clear hK K
                obtain ⟨hv1, hb1, hk1, hbb1⟩ := bx_app (by decide) hv hrow hNr (grown_trans (grown_drew _) (grown_alloc _ _)) ((KeepsOthers.drew _).trans (KeepsOthers.alloc _ _)) hown hgr
                have hc1 := hv1.cell
                have hf1 := hv1.frozen
                refine wpAnyIn_ready (rs := [5]) (by kernel_rfl) (by simp) ?_
                refine (AllReadyIn.cons rfl (fun K hK => ?_) AllReadyIn.nil)
                go_simp
                refine hK _ _ ?_
                clear hK K
                refine wpAnyIn_done (by kernel_rfl) ?_ _
                gi_wp2
                go_roundw
                case rel => exact ⟨k + 1, by omega, by simp, by rw [HLL.out]; exact hb1, hko.trans hk1, hbk2.trans hbb1⟩
                case measure => simp [intOf]; omega
              · go_simp
                refine hK _ _ ?_
                clear hK K
                refine wpAnyIn_ready (rs := [0]) (by kernel_rfl) (by simp) ?_
                refine (AllReadyIn.cons rfl (fun K hK => ?_) AllReadyIn.nil)
                go_simp
                refine hK _ _ ?_
                clear hK K
                refine wpAnyIn_ready (rs := [4]) (by kernel_rfl) (by simp) ?_
                refine (AllReadyIn.cons rfl (fun K hK => ?_) AllReadyIn.nil)
                refine step_one_in kb _ rfl _ _ rfl (T + 2) v L rfl (hrow2 _) ⟨wr.heap.size, 0, none⟩ 1 111 rfl (hcell2 111) (by omega) (by simp; omega) ?_
                intro g cap w5 hown hgr
                refine hK _ _ ?_
                clear hK K
                obtain ⟨hv1, hb1, hk1, hbb1⟩ := bx_app (by decide) hv hrow hNr (grown_trans (grown_drew _) (grown_alloc _ _)) ((KeepsOthers.drew _).trans (KeepsOthers.alloc _ _)) hown hgr
                have hc1 := hv1.cell
                have hf1 := hv1.frozen
                refine wpAnyIn_ready (rs := [5]) (by kernel_rfl) (by simp) ?_
                refine (AllReadyIn.cons rfl (fun K hK => ?_) AllReadyIn.nil)
                go_simp
                refine hK _ _ ?_
                clear hK K
                refine wpAnyIn_done (by kernel_rfl) ?_ _
                gi_wp2
                go_roundw
                case rel => exact ⟨k + 1, by omega, by simp, by rw [HLL.out]; exact hb1, hko.trans hk1, hbk2.trans hbb1⟩
                case measure => simp [intOf]; omega
      · obtain rfl : k = W := by omega
        obtain ⟨v, hv, hrow⟩ := hbk
        have hc := hv.cell
        have hNr : T + 2 ≤ wr.heap.size := by have := hbk2.size; omega
        have hLl : (tx k l pre ++ ((rl k l x.1).take k).map sg).length ≤ 1000000 := by
          rw [List.length_append, tx_len HL.out, List.length_map, List.length_take]
          have h1 : (k + 1) * pre.length ≤ (k + 1) * H := Nat.mul_le_mul_left _ (Nat.le_of_lt HPL.out)
          have := HW.out; omega
        have HE : Hid (tx k l pre ++ ((rl k l x.1).take k).map sg ++ [10] = tx k l (pre ++ [x])) := by
          unfold Hid tx
          rw [List.flatMap_append, List.take_of_length_le (by rw [rl_len HL.out x.2]; exact Nat.le_refl _), List.append_assoc]; simp [rt]
        obtain ⟨L, hL⟩ : ∃ L, tx k l pre ++ ((rl k l x.1).take k).map sg = L := ⟨_, rfl⟩
        rw [hL] at hrow hLl HE
        clear hL
        gi_wp2_with (gi_at_builtin; refine list_text_in _ rfl _ _ rfl (T + 2) v L rfl hrow 10 rfl hLl hNr ?_; intro g cap w5 hown hgr; obtain ⟨hv1, hb1, hk1, hbb1⟩ := bx_app (by decide) hv hrow hNr (grown_none _) (KeepsOthers.refl _) hown hgr; have hc1 := hv1.cell; have hf1 := hv1.frozen)
        rw [HE.out] at hb1
        exact ⟨hko.trans hk1, (hbk2.trans hbb1).kB (by omega) (by omega), hb1, hbut.trans (hbk2.trans hbb1)⟩
  case done =>
    rintro D ys W' hD rfl ⟨⟨v, hv, hrow⟩, hbut⟩ hK
    have hc := hv.cell
    rw [tx_all] at hrow
    have hlen : (txt W H l).length = (W + 1) * H := txt_len HL.out
    have h1 : 1 * 1 ≤ (W + 1) * H := Nat.mul_le_mul (by omega) HH.out.1
    have hcv := mine_string hrow (by omega)
    have HE : Hid (Below w.heap.size w (W'.putObj D (.deferred none))) := (hB3.trans (hbut.below (by omega) (by omega))).trans (belowK_b (w := w) (Nat.le_refl _) W' D _ _ (by omega) hK rfl rfl)
    clear hlen h1
    gi_wp2
    refine ⟨by simp, .inl ⟨_, _, rfl, run_takeDeferred hK, ?_⟩⟩
    exact ⟨_, results_tmp2 rfl _ _ _, rfl, HE.out⟩
  case stop =>
    rintro D c pre W _ _ h _
    exact h.elim
end Go.Proofs.Yteemcighpoomhaa
