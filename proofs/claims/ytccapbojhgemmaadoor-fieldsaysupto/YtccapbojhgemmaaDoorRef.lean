/- The document's own answer: which error a field is of, a cell's place, whether a cell is one of the field, a field's text. -/
import Derived.Test.YtccapbojhgemmaaDoorUse
namespace Go.Proofs.YtccapbojhgemmaaDoor
open Go.RowKit
set_option linter.unusedVariables false

set_option maxHeartbeats 400000 in
theorem Between_any (n lo hi : Int) (w : World) :
    Calls Tryd.prog 18 #[.int .i64 n, .int .i64 lo, .int .i64 hi] w fun e w' => e = .returned (.bool (decide (lo ≤ n) && decide (n ≤ hi))) ∧ w' = w := by
  go_enter Tryd.func18, Tryd.ntmps18
  go_wp2
  all_goals
    go_ret
    exact ⟨by simp_all <;> omega, rfl⟩
theorem Between_at (n lo hi : Int) (b : Bool) (w : World) (h : Hid ((decide (lo ≤ n) && decide (n ≤ hi)) = b)) :
    Calls Tryd.prog 18 #[.int .i64 n, .int .i64 lo, .int .i64 hi] w fun e w' => e = .returned (.bool b) ∧ w' = w := by rw [← h.out]; exact Between_any n lo hi w
theorem sort_bad (x : Int) : (decide (0 ≤ x) && decide (x ≤ 3)) = !bad x := by
  unfold bad
  by_cases h1 : 0 ≤ x <;> by_cases h2 : x ≤ 3 <;> simp [h1, h2] <;> omega

set_option maxRecDepth 20000 in
set_option maxHeartbeats 2000000 in
theorem Right_any (W H : Int) (p : Option Addr) (n c : Nat) (l : List Int) (E : Int) (w : World) (hr : row vi w p l) (hn : l.length = n) (hm : n ≤ 9223372036854775807) (hE : Hid (ck W H l = E)) :
    Calls Tryd.prog 10 #[.agg #[.int .i64 W, .int .i64 H, .slice p n c]] w fun e w' => e = .returned (.int .i64 E) ∧ Below w.heap.size w w' := by
  have H1 : Hid (row vi w p l) := hr
  have HN : Hid (l.length = n) := hn
  clear hr hn
  cases hW : sd W with
  | false =>
    have HW : Hid (sd W = false) := hW
    clear hW
    go_enter Tryd.func10, Tryd.ntmps10
    go_wp2_with fail
    refine (Between_at W 1 40 false _ HW).mono ?_
    rintro e w' ⟨rfl, hw⟩; subst w'
    go_wp2_with fail
    go_ret
    exact ⟨ret_int (by rw [← hE.out]; unfold ck; rw [HW.out]; simp), alloc_below _ _⟩
  | true =>
    have HW : Hid (sd W = true) := hW
    clear hW
    cases hH : sd H with
    | false =>
      have HH : Hid (sd H = false) := hH
      clear hH
      go_enter Tryd.func10, Tryd.ntmps10
      go_wp2_with fail
      refine (Between_at W 1 40 true _ HW).mono ?_
      rintro e w' ⟨rfl, hw⟩; subst w'
      go_wp2_with fail
      refine (Between_at H 1 40 false _ HH).mono ?_
      rintro e w' ⟨rfl, hw⟩; subst w'
      go_wp2_with fail
      go_ret
      exact ⟨ret_int (by rw [← hE.out]; unfold ck; rw [HH.out]; simp), alloc_below _ _⟩
    | true =>
      have HH : Hid (sd H = true) := hH
      clear hH
      have hw1 : 1 ≤ W ∧ W ≤ 40 := by have := HW.out; unfold sd at this; simpa using this
      have hh1 : 1 ≤ H ∧ H ≤ 40 := by have := HH.out; unfold sd at this; simpa using this
      obtain ⟨M, hM⟩ : ∃ M : Int, W * H = M := ⟨_, rfl⟩
      have hM0 : 0 ≤ M ∧ M ≤ 1600 := by
        rw [← hM]
        refine ⟨Int.mul_nonneg (by omega) (by omega), ?_⟩
        have := Int.mul_le_mul hw1.2 hh1.2 (by omega) (by omega); omega
      have hwr : IntKind.i64.wrap (W * H) = M := by rw [hM]; exact wrp (by omega) (by omega)
      have HM : Hid (W * H = M) := hM
      clear hM
      have hb := alloc_below w (.cells #[.int .i64 W, .int .i64 H, .slice p n c] 24)
      have HB : Hid (Below w.heap.size w (w.alloc (.cells #[.int .i64 W, .int .i64 H, .slice p n c] 24))) := hb
      clear hb
      by_cases he : (n : Int) = M
      · have e1 : ((n : Int) == M) = true := by simp [he]
        have HE0 : Hid (l.any bad = false → E = 0) := fun h => by rw [← hE.out]; unfold ck; rw [HW.out, HH.out, h, HN.out, HM.out]; simp [he]
        have HE4 : Hid (l.any bad = true → E = 4) := fun h => by rw [← hE.out]; unfold ck; rw [HW.out, HH.out, h]; simp
        have H2 : Hid (row vi (w.alloc (.cells #[.int .i64 W, .int .i64 H, .slice p n c] 24)) p l) := row_below H1.out HB.out
        have hnb : n ≤ 1600 := by omega
        clear hE
        go_enter Tryd.func10, Tryd.ntmps10
        go_wp2_with fail
        refine (Between_at W 1 40 true _ HW).mono ?_
        rintro e w' ⟨rfl, hw⟩; subst w'
        go_wp2_with fail
        refine (Between_at H 1 40 true _ HH).mono ?_
        rintro e w' ⟨rfl, hw⟩; subst w'
        go_wp2_with fail
        generalize w.alloc (.cells #[.int .i64 W, .int .i64 H, .slice p n c] 24) = w0 at H2 HB ⊢
        go_loop [27] (fun i => ∃ k : Nat, i = .int .i64 (k : Int) ∧ k ≤ n ∧ Hid ((l.take k).any bad = false)) (fun i => n - (intOf i).toNat)
        case atStart => exact ⟨0, rfl, by omega, by unfold Hid; simp⟩
        case round =>
          obtain ⟨k, rfl, hk, HK⟩ := hrel
          by_cases hlt : k < n
          · have hkl : k < l.length := by rw [HN.out]; exact hlt
            obtain ⟨a, rfl, ha⟩ := row_at H2.out hkl
            have hat := any_take hkl HK.out
            have HT : Hid ((l.take (k + 1)).any bad = true → l.any bad = true) := fun h => by
              rw [← List.take_append_drop (k + 1) l, List.any_append, h]; rfl
            obtain ⟨X, hX⟩ : ∃ X, l[k] = X := ⟨_, rfl⟩
            rw [hX] at ha hat
            have ha' : w0.cell? (a.add k) = some (.int .i64 X) := ha
            have HA : Hid ((l.take (k + 1)).any bad = bad X) := hat
            clear ha hX hat
            have l1 : (k : Int) < n := by omega
            have l2 : (0 : Int) ≤ k := by omega
            cases hb : bad X with
            | true =>
              have HBX : Hid (bad X = true) := hb
              clear hb
              go_wp2_with fail
              refine (Between_at X 0 3 false _ (by unfold Hid; rw [sort_bad, HBX.out]; rfl)).mono ?_
              rintro e w' ⟨rfl, hw⟩; subst w'
              go_wp2_with fail
              go_ret
              exact ⟨ret_int (HE4.out (HT.out (by rw [HA.out]; exact HBX.out))).symm, HB.out⟩
            | false =>
              have HBX : Hid (bad X = false) := hb
              clear hb
              go_wp2_with fail
              refine (Between_at X 0 3 true _ (by unfold Hid; rw [sort_bad, HBX.out]; rfl)).mono ?_
              rintro e w' ⟨rfl, hw⟩; subst w'
              go_wp2_with fail
              go_round
              case rel => exact ⟨k + 1, by go_num, by omega, by unfold Hid; rw [HA.out]; exact HBX.out⟩
              case measure => simp [intOf]; omega
          · have HF : Hid (l.any bad = false) := by
              have e : l.take k = l := List.take_of_length_le (by rw [HN.out]; omega)
              have := HK.out; rw [e] at this; exact this
            go_wp2_with fail
            go_ret
            exact ⟨ret_int (HE0.out HF.out).symm, HB.out⟩
      · have e1 : ((n : Int) == M) = false := by simp [he]
        go_enter Tryd.func10, Tryd.ntmps10
        go_wp2_with fail
        refine (Between_at W 1 40 true _ HW).mono ?_
        rintro e w' ⟨rfl, hw⟩; subst w'
        go_wp2_with fail
        refine (Between_at H 1 40 true _ HH).mono ?_
        rintro e w' ⟨rfl, hw⟩; subst w'
        go_wp2_with fail
        go_ret
        exact ⟨ret_int (by rw [← hE.out]; unfold ck; rw [HW.out, HH.out, HN.out, HM.out]; simp [he]), HB.out⟩

set_option maxRecDepth 20000 in
set_option maxHeartbeats 1000000 in
theorem PlaceOf_in (W H : Nat) (a : Addr) (c : Nat) (l : List Int) (X Y : Nat) (Z : Int) (w : World) (hr : row vi w (some a) l) (hW : 1 ≤ W ∧ W ≤ 40) (hH : 1 ≤ H ∧ H ≤ 40) (hl : l.length = W * H) (hX : X < W) (hY : Y < H) (hZ : Hid (l.getD (Y * W + X) 0 = Z)) :
    Calls Tryd.prog 14 #[.agg #[.int .i64 (W : Int), .int .i64 (H : Int), .slice (some a) (W * H) c], .agg #[.int .i64 (X : Int), .int .i64 (Y : Int)]] w fun e w' => e = .returned (.int .i64 Z) ∧ Below w.heap.size w w' := by
  have HR : Hid (row vi w (some a) l) := hr
  have HL : Hid (l.length = W * H) := hl
  have hWH : W * H ≤ 1600 := wh_le hW hH
  clear hr hl
  obtain ⟨T, hT⟩ : ∃ T : Nat, Y * W = T := ⟨_, rfl⟩
  have hTl : T + X < W * H := by
    have : (Y + 1) * W ≤ H * W := Nat.mul_le_mul_right _ hY
    rw [Nat.add_mul, Nat.mul_comm H W] at this; omega
  obtain ⟨w0, hw0⟩ : ∃ w0, (w.alloc (.cells #[.int .i64 (W : Int), .int .i64 (H : Int), .slice (some a) (W * H) c] 24)).alloc (.cells #[.int .i64 (X : Int), .int .i64 (Y : Int)] 26) = w0 := ⟨_, rfl⟩
  obtain ⟨b0, b1, b2, b3, b4, hb1⟩ := boxes hw0 (Below.refl _ _)
  have HB : Hid (Below w.heap.size w w0) := hb1
  obtain ⟨ad, had, hcl⟩ := row_at (row_below HR.out hb1) (j := T + X) (by rw [HL.out]; exact hTl)
  cases had
  have hZ2 : l[T + X]'(by rw [HL.out]; exact hTl) = Z := by
    rw [← hZ.out, hT, List.getD_eq_getElem?_getD, List.getElem?_eq_getElem (by rw [HL.out]; exact hTl)]; rfl
  rw [hZ2] at hcl
  have hcl' : w0.cell? (a.add (T + X)) = some (.int .i64 Z) := hcl
  have eT : IntKind.i64.wrap ((Y : Int) * (W : Int)) = (T : Int) := by rw [← Int.natCast_mul, hT]; exact wrp (by omega) (by omega)
  obtain ⟨J, hJ⟩ : ∃ J : Nat, T + X = J := ⟨_, rfl⟩
  have eJ : (T : Int) + X = J := by omega
  have eJ2 : IntKind.i64.wrap (J : Int) = J := wrp (by omega) (by omega)
  rw [hJ] at hcl' hTl
  have hJi : (J : Int) < W * H := by omega
  have HW0 : Hid ((w.alloc (.cells #[.int .i64 (W : Int), .int .i64 (H : Int), .slice (some a) (W * H) c] 24)).alloc (.cells #[.int .i64 (X : Int), .int .i64 (Y : Int)] 26) = w0) := hw0
  have hcl2 : ((w.alloc (.cells #[.int .i64 (W : Int), .int .i64 (H : Int), .slice (some a) (W * H) c] 24)).alloc (.cells #[.int .i64 (X : Int), .int .i64 (Y : Int)] 26)).cell? (a.add J) = some (.int .i64 Z) := by rw [hw0]; exact hcl'
  clear hb1 hcl hZ2 hT hJ hw0 b0 b1 b2 b3 b4 hcl'
  go_enter Tryd.func14, Tryd.ntmps14
  go_wp2_with fail
  rw [HW0.out]
  go_ret
  exact ⟨rfl, HB.out⟩
set_option maxRecDepth 20000 in
set_option maxHeartbeats 1000000 in
theorem In_at (W H : Nat) (p : Option Addr) (n c : Nat) (X Y : Int) (b1 b2 : Bool) (w : World) (hW : 1 ≤ W ∧ W ≤ 40) (hH : 1 ≤ H ∧ H ≤ 40) (h1 : Hid ((decide (0 ≤ X) && decide (X ≤ (W : Int) - 1)) = b1)) (h2 : Hid ((decide (0 ≤ Y) && decide (Y ≤ (H : Int) - 1)) = b2)) :
    Calls Tryd.prog 13 #[.agg #[.int .i64 (W : Int), .int .i64 (H : Int), .slice p n c], .agg #[.int .i64 X, .int .i64 Y]] w fun e w' => e = .returned (.bool (b1 && b2)) ∧ Below w.heap.size w w' := by
  have hb : Below w.heap.size w ((w.alloc (.cells #[.int .i64 (W : Int), .int .i64 (H : Int), .slice p n c] 24)).alloc (.cells #[.int .i64 X, .int .i64 Y] 26)) := (alloc_below w _).alloc (by simp) _
  have HB : Hid _ := hb
  clear hb
  cases b1 with
  | false =>
    go_enter Tryd.func13, Tryd.ntmps13
    go_wp2_with fail
    refine (Between_at X 0 ((W : Int) - 1) false _ h1).mono ?_
    rintro e w' ⟨rfl, hw⟩; subst w'
    go_wp2_with fail
    go_ret
    exact ⟨rfl, HB.out⟩
  | true =>
    go_enter Tryd.func13, Tryd.ntmps13
    go_wp2_with fail
    refine (Between_at X 0 ((W : Int) - 1) true _ h1).mono ?_
    rintro e w' ⟨rfl, hw⟩; subst w'
    go_wp2_with fail
    refine (Between_at Y 0 ((H : Int) - 1) b2 _ h2).mono ?_
    rintro e w' ⟨rfl, hw⟩; subst w'
    go_wp2_with fail
    go_ret
    exact ⟨by simp, HB.out⟩

set_option maxRecDepth 20000 in
set_option maxHeartbeats 1000000 in
theorem FieldText_no (W H : Int) (p : Option Addr) (n c : Nat) (l : List Int) (E : Int) (w : World) (hr : row vi w p l) (hn : l.length = n) (hm : n ≤ 9223372036854775807) (hE : Hid (ck W H l = E)) (h0 : E ≠ 0) :
    Calls Tryd.prog 5 #[.agg #[.int .i64 W, .int .i64 H, .slice p n c]] w fun e w' => e = .returned (.tuple #[.string ⟨#[]⟩, .int .i64 E]) ∧ Below w.heap.size w w' := by
  have HR : Hid (row vi w p l) := hr
  have HN : Hid (l.length = n) := hn
  clear hr hn
  have e0 : (E == 0) = false := by simp [h0]
  go_enter Tryd.func5, Tryd.ntmps5
  go_wp2_with fail
  refine (Right_any W H p n c l E _ (row_below HR.out (alloc_below _ _)) HN.out hm hE).mono ?_
  rintro e w1 ⟨rfl, hb⟩
  have HB : Hid (Below w.heap.size w w1) := below_step (alloc_below w _) (by simp) hb
  clear hb
  go_wp2_with fail
  go_ret2
  exact ⟨rfl, HB.out⟩
theorem ba_one (t : ByteArray) (b : UInt8) : bs (t ++ ⟨#[b]⟩) = bs t ++ [b] := by simp [bs]
theorem ba_size (t : ByteArray) (b : UInt8) : (t ++ ⟨#[b]⟩ : ByteArray).size = t.size + 1 := by rw [← bs_len, ba_one, List.length_append, bs_len]; rfl

set_option maxRecDepth 20000 in
set_option maxHeartbeats 4000000 in
theorem FieldText_ok (W H : Nat) (a : Addr) (c : Nat) (l : List Int) (w : World) (hr : row vi w (some a) l) (hW : 1 ≤ W ∧ W ≤ 40) (hH : 1 ≤ H ∧ H ≤ 40) (hl : l.length = W * H) (hg : l.any bad = false) :
    Calls Tryd.prog 5 #[.agg #[.int .i64 (W : Int), .int .i64 (H : Int), .slice (some a) (W * H) c]] w fun e w' => e = .returned (.tuple #[.string (ts W H l), .int .i64 0]) ∧ Below w.heap.size w w' := by
  have HR : Hid (row vi w (some a) l) := hr
  have HL : Hid (l.length = W * H) := hl
  have HG : Hid (l.any bad = false) := hg
  have HW : Hid (1 ≤ W ∧ W ≤ 40) := hW
  have HH : Hid (1 ≤ H ∧ H ≤ 40) := hH
  have hW40 := hW.2
  have hH40 := hH.2
  have hWH := wh_le hW hH
  clear hr hl hg hW hH
  go_enter Tryd.func5, Tryd.ntmps5
  go_wp2_with fail
  refine (Right_any W H (some a) (W * H) c l 0 _ (row_below HR.out (alloc_below _ _)) HL.out (by omega) (ck_ok HW.out HH.out HL.out HG.out)).mono ?_
  rintro e w1 ⟨rfl, hb⟩
  obtain ⟨F, hF⟩ : ∃ F, w.heap.size = F := ⟨_, rfl⟩
  obtain ⟨g0, g1, g2, g3⟩ := box_at hF hb
  have HB : Hid (Below w.heap.size w w1) := below_step (alloc_below w _) (by simp) hb
  have HBX : Hid (∀ V, Below w1.heap.size w1 V → V.cell? ⟨F, 0, none⟩ = some (.int .i64 (W : Int)) ∧ V.cell? ⟨F, 1, none⟩ = some (.int .i64 (H : Int)) ∧ V.cell? ⟨F, 2, none⟩ = some (.slice (some a) (W * H) c) ∧ F < V.heap.size) := fun V hV => by
    have := hb.trans (hV.mono hb.size)
    exact box_at hF this
  clear hb
  go_wp2_with fail
  clear g0 g1 g2 g3
  go_loopw [5, 15] (fun s5 i wr => ∃ (k : Nat) (t : ByteArray), i = .int .i64 (k : Int) ∧ k ≤ H ∧ s5 = .string t ∧ t.size ≤ 2000 ∧ Hid (bs t = (List.range k).flatMap (rt W l) ∧ Below w1.heap.size w1 wr)) (fun _ i _ => H - (intOf i).toNat)
  case atStart => exact ⟨0, ⟨#[]⟩, rfl, by omega, rfl, by decide, by simp [bs], Below.refl _ _⟩
  case round =>
    obtain ⟨k, t, rfl, hk, rfl, htl, HI⟩ := hrel
    obtain ⟨g0, g1, g2, g3⟩ := HBX.out wr HI.out.2
    by_cases hlt : k < H
    · have l1 : (k : Int) < H := by omega
      go_wp2_with fail
      obtain ⟨w4, hw4⟩ : ∃ w4 : World, w4 = wr := ⟨_, rfl⟩
      subst hw4
      obtain ⟨T, hT⟩ : ∃ T, (List.range k).flatMap (rt W l) = T := ⟨_, rfl⟩
      have HT : Hid ((List.range k).flatMap (rt W l) = T) := hT
      have HTL : Hid (T.length = (W + 1) * k) := by
        unfold Hid; rw [← hT, ← tx_upto W l (H := H) hk, tx_len HL.out, upto_length hk]
      have HTk : Hid ((W + 1) * k ≤ 1640) := by
        have h1 : (W + 1) * k ≤ (W + 1) * H := Nat.mul_le_mul_left _ hk
        unfold Hid; rw [Nat.add_mul W 1 H] at h1; omega
      have HIT : Hid (bs t = T ∧ Below w1.heap.size w1 w4) := by rw [← hT]; exact HI.out
      clear hT HI
      go_loopw [5, 20] (fun s5 i wr => ∃ (j : Nat) (t' : ByteArray), i = .int .i64 (j : Int) ∧ j ≤ W ∧ s5 = .string t' ∧ t'.size ≤ 2000 ∧ Hid (bs t' = T ++ ((rl W l k).take j).map sg ∧ Below w1.heap.size w1 wr)) (fun _ i _ => W - (intOf i).toNat)
      case atStart => exact ⟨0, t, rfl, by omega, rfl, htl, by simp; exact HIT.out.1, HIT.out.2⟩
      case round =>
        obtain ⟨j, t', rfl, hj, rfl, htl', HJ⟩ := hrel
        obtain ⟨b0, b1, b2, b3⟩ := HBX.out wr HJ.out.2
        have HS : Hid (t'.size = (W + 1) * k + j) := by
          have h1 := congrArg List.length HJ.out.1
          rw [bs_len, List.length_append, HTL.out, List.length_map, List.length_take, rl_len HL.out hlt] at h1
          unfold Hid; omega
        by_cases hjW : j < W
        · obtain ⟨hkl, hkr, hrk⟩ := rl_at HL.out hlt hjW
          have hgd := good_at HG.out hkl
          obtain ⟨X, hX⟩ : ∃ X, l[k * W + j] = X := ⟨_, rfl⟩
          rw [hX] at hgd hrk
          have HZ : Hid (l.getD (k * W + j) 0 = X) := by unfold Hid; rw [List.getD_eq_getElem?_getD, List.getElem?_eq_getElem hkl]; exact hX
          have HX : Hid ((rl W l k).take (j + 1) = (rl W l k).take j ++ [X]) := by unfold Hid; rw [List.take_succ_eq_append_getElem hkr, hrk]
          have l3 : (j : Int) < W := by omega
          have hs2 : t'.size ≤ 1700 := by have := HS.out; have := HTk.out; omega
          clear hkl hkr hrk hX
          go_wp2_with fail
          have hb4 : Below wr.heap.size wr (wr.alloc (.cells #[.string ⟨#[46]⟩, .string ⟨#[35]⟩, .string ⟨#[116]⟩, .string ⟨#[111]⟩] 9)) := alloc_below _ _
          have hb14 : Below w1.heap.size w1 (wr.alloc (.cells #[.string ⟨#[46]⟩, .string ⟨#[35]⟩, .string ⟨#[116]⟩, .string ⟨#[111]⟩] 9)) := HJ.out.2.trans (hb4.mono HJ.out.2.size)
          refine (PlaceOf_in W H a c l j k X _ (row_below HR.out (HB.out.trans (hb14.mono HB.out.size))) HW.out HH.out HL.out hjW hlt HZ).mono ?_
          rintro e w6 ⟨rfl, hb6⟩
          have HB6 : Hid (Below w1.heap.size w1 w6) := hb14.trans (hb6.mono hb14.size)
          clear hb4 hb14
          obtain rfl | rfl | rfl | rfl : X = 0 ∨ X = 1 ∨ X = 2 ∨ X = 3 := by omega
          · have cz : w6.cell? ⟨wr.heap.size, 0, none⟩ = some (.string ⟨#[46]⟩) := by rw [hb6.cell (by simp)]; simp [go_sem]
            clear hb6
            go_wp2_with fail
            go_roundw
            case rel => exact ⟨j + 1, t' ++ ⟨#[46]⟩, by go_num, by omega, rfl, by rw [ba_size]; omega, by rw [ba_one, HJ.out.1, HX.out]; simp [sg], HB6.out⟩
            case measure => simp [intOf]; omega
          · have cz : w6.cell? ⟨wr.heap.size, 1, none⟩ = some (.string ⟨#[35]⟩) := by rw [hb6.cell (by simp)]; simp [go_sem]
            clear hb6
            go_wp2_with fail
            go_roundw
            case rel => exact ⟨j + 1, t' ++ ⟨#[35]⟩, by go_num, by omega, rfl, by rw [ba_size]; omega, by rw [ba_one, HJ.out.1, HX.out]; simp [sg], HB6.out⟩
            case measure => simp [intOf]; omega
          · have cz : w6.cell? ⟨wr.heap.size, 2, none⟩ = some (.string ⟨#[116]⟩) := by rw [hb6.cell (by simp)]; simp [go_sem]
            clear hb6
            go_wp2_with fail
            go_roundw
            case rel => exact ⟨j + 1, t' ++ ⟨#[116]⟩, by go_num, by omega, rfl, by rw [ba_size]; omega, by rw [ba_one, HJ.out.1, HX.out]; simp [sg], HB6.out⟩
            case measure => simp [intOf]; omega
          · have cz : w6.cell? ⟨wr.heap.size, 3, none⟩ = some (.string ⟨#[111]⟩) := by rw [hb6.cell (by simp)]; simp [go_sem]
            clear hb6
            go_wp2_with fail
            go_roundw
            case rel => exact ⟨j + 1, t' ++ ⟨#[111]⟩, by go_num, by omega, rfl, by rw [ba_size]; omega, by rw [ba_one, HJ.out.1, HX.out]; simp [sg], HB6.out⟩
            case measure => simp [intOf]; omega
        · have hjW2 : j = W := by omega
          subst hjW2
          have HE : Hid (bs (t' ++ ⟨#[10]⟩) = (List.range (k + 1)).flatMap (rt j l)) := by
            unfold Hid
            rw [ba_one, HJ.out.1, List.take_of_length_le (by rw [rl_len HL.out hlt]; exact Nat.le_refl _), List.range_succ, List.flatMap_append, HT.out]; simp [rt]
          have HBr : Hid (Below w1.heap.size w1 wr) := HJ.out.2
          have hs2 : t'.size ≤ 1700 := by have := HS.out; have := HTk.out; omega
          go_wp2_with fail
          go_roundw
          case rel => exact ⟨k + 1, t' ++ ⟨#[10]⟩, by go_num, by omega, rfl, by rw [ba_size]; omega, HE.out, HBr.out⟩
          case measure => simp [intOf]; omega
    · have HE : Hid (t = ts W H l) := by
        have hkH : k = H := by omega
        subst hkH
        exact of_bs (by rw [bs_ts, HI.out.1]; rfl)
      have HBr : Hid (Below w.heap.size w wr) := HB.out.trans (HI.out.2.mono HB.out.size)
      go_wp2_with fail
      go_ret2
      exact ⟨by simp [HE.out], HBr.out⟩
end Go.Proofs.YtccapbojhgemmaaDoor
