/- What TrailOf returns: level by level. -/
import Derived.Test.YteedlbdjbffheaaRootOf
import Derived.Test.YteedlbdjbffheaaHoldsOf
namespace Go.Proofs.Yteedlbdjbffheaa
open Go.RowKit
set_option linter.unusedVariables false
attribute [local go_sem ↓] Go.wp_at_zero Go.wp_at_succ

/-- A row is as it was where another one has grown. -/
theorem mine_apart {B : Nat} {w w' : World} {v u : Value} {L : List Nat} (h : mine B w v L) (hg : w.grownBy w' u.ownBlock) (hne : ∀ b, u.ownBlock = some b → b < B) : mine B w' v L := by
  refine ⟨h.1, ?_⟩
  rcases h.2 with h0 | ⟨g, cap, cur, hv, hB, hblk, hr⟩
  · exact .inl h0
  · refine .inr ⟨g, cap, cur, hv, hB, ?_, hr⟩
    have hlt : g < w.heap.size := by
      rcases Nat.lt_or_ge g w.heap.size with hlt | hge
      · exact hlt
      · rw [Array.getElem?_eq_none hge] at hblk; cases hblk
    rw [hg.block g hlt (fun e => by have := hne g e.symm; omega)]; exact hblk
theorem mine_block {B : Nat} {w : World} {v : Value} {L : List Nat} (h : mine B w v L) : ∀ b, v.ownBlock = some b → b < w.heap.size := fun b hb => (World.ownsRow.lt h b hb).2
/-- What a round of TrailOf keeps: the marks of this level, those that are told. -/
def tlv (w : World) (F : List Nat) (x n : Nat) (mv ov : Value) (wr : World) : Prop :=
  ∃ (C : Nat) (L O : List Nat), L.length = n ∧ small L ∧ mine C wr mv L ∧ w.heap.size ≤ C ∧ C ≤ wr.heap.size ∧ mine w.heap.size wr ov O ∧ (∀ b, ov.ownBlock = some b → b < C) ∧ O ++ tr pr L x = F ∧ Below w.heap.size w wr

set_option maxRecDepth 20000 in
set_option maxHeartbeats 8000000 in
theorem TrailOf_any (l : List ByteArray) (p : Option Addr) (i k c : Nat) (w : World) (hl : l.length = k) (hn : k ≤ 256) (hi : i < k) (ht : txt w p l) (hs : tsm l) :
    Calls Try.prog 21 #[.slice p k c, .int .i64 i] w fun e w' => ∃ v, e = .returned v ∧ mine w.heap.size w' v (tr pr (lvs l) i) ∧ Below w.heap.size w w' := by
  have HT : Hid (txt w p l) := ht
  have HS : Hid (tsm l) := hs
  have HL : Hid (l.length = k) := hl
  have HF8 : Hid ((tr pr (lvs l) i).length ≤ 8) := trs_le l i (by omega) (by omega)
  have HR : Hid (tr pr (lvs (l.take k)) i = tr pr (lvs l) i) := by unfold Hid; rw [List.take_of_length_le (by omega)]
  obtain ⟨F, hF⟩ : ∃ F, tr pr (lvs l) i = F := ⟨_, rfl⟩
  rw [hF] at HR HF8 ⊢
  clear hF ht hs hl
  go_enter Try.func21, Try.ntmps21
  go_wp2_with fail
  go_loopw [5, 14] (fun mv iv wr => ∃ (p' : Option Addr) (j c' : Nat), mv = .slice p' j c' ∧ iv = .int .i64 j ∧ j ≤ k ∧ mine w.heap.size wr (.slice p' j c') (lvs (l.take j)) ∧ Below w.heap.size w wr) (fun _ iv _ => k - (intOf iv).toNat)
  case atStart => exact ⟨none, 0, 0, rfl, rfl, by omega, World.ownsRow_nil _ _ _ _, Below.refl _ _⟩
  case round =>
    obtain ⟨p', j, c', rfl, rfl, hj, hM, hB⟩ := hrel
    have HM : Hid (mine w.heap.size wr (.slice p' j c') (lvs (l.take j))) := hM
    have HB : Hid (Below w.heap.size w wr) := hB
    clear hM hB
    by_cases hlt : j < k
    · obtain ⟨a, rfl, hcell⟩ := txt_below HT.out HB.out j (by rw [HL.out]; exact hlt)
      have HZ : Hid ((l.getD j ⟨#[]⟩).size ≤ 9223372036854775807) := tsm_at HS.out j
      have HSn : Hid (lvs (l.take (j + 1)) = lvs (l.take j) ++ [lf (l.getD j ⟨#[]⟩)]) := lvs_snoc l j (by rw [HL.out]; exact hlt)
      have HLe : Hid ((lvs (l.take j)).length = j) := by unfold Hid; rw [lvs_length, List.length_take, HL.out]; omega
      obtain ⟨s, hs⟩ : ∃ s, l.getD j ⟨#[]⟩ = s := ⟨_, rfl⟩
      rw [hs] at hcell HZ HSn
      obtain ⟨L, hL⟩ : ∃ L, lvs (l.take j) = L := ⟨_, rfl⟩
      rw [hL] at HM HSn HLe
      clear hs hL
      have l1 : (j : Int) < k := by omega
      have l2 : (0 : Int) ≤ j := by omega
      go_wp2_with fail
      refine (LeafOf_any s _ HZ.out).mono ?_
      rintro e w1 ⟨rfl, hb⟩
      have HV : Hid (mine w.heap.size ((w1.drewN 0).alloc (.cells #[.int .u64 (lf s)] 23)) (.slice p' j c') L) := mine_next (mine_below HM.out hb) (Nat.le_refl _) 0 _
      have HBe : Hid (Below w.heap.size w ((w1.drewN 0).alloc (.cells #[.int .u64 (lf s)] 23))) := below_next (HB.out.trans (hb.mono HB.out.size)) 0 _
      clear hb HM HB hcell
      obtain ⟨X, hX⟩ : ∃ X, lf s = X := ⟨_, rfl⟩
      rw [hX] at HV HBe HSn ⊢
      clear hX
      go_wp2_with (at_builtin; refine list_one _ rfl _ _ rfl w.heap.size (.slice p' j c') L rfl HV.out ⟨_, 0, none⟩ 1 X rfl (new_one _ 0 _ _) (by have := HLe.out; omega) HBe.out.size ?_)
      intro g cap w2 h1 h2
      rw [HLe.out] at h1 ⊢
      have HE : Hid (mine w.heap.size w2 (.slice (some ⟨g, 0, none⟩) (j + 1) cap) (L ++ [X]) ∧ Below w.heap.size w w2) := ⟨h1, mine_grown HV.out HBe.out h2⟩
      clear h1 h2 HV HBe
      go_wp2_with fail
      go_roundw
      case rel => exact ⟨_, j + 1, _, rfl, by go_num, by omega, by rw [HSn.out]; exact HE.out.1, HE.out.2⟩
      case measure => simp [intOf]; omega
    · obtain rfl : j = k := by omega
      have H0 : Hid (tlv w F i j (.slice p' j c') (.slice none 0 0) wr) := ⟨w.heap.size, _, [], (mine_slice HM.out).1, lvs_small _, HM.out, Nat.le_refl _, HB.out.size, World.ownsRow_nil _ _ _ _, (fun b hb => by cases hb), HR.out, HB.out⟩
      clear HM HB
      obtain ⟨w4, hw4⟩ : ∃ w4 : World, w4 = wr := ⟨_, rfl⟩
      subst hw4
      go_wp2_with fail
      go_loopw [1, 5, 6] (fun xv mv ov wr => ∃ (x n d m e : Nat) (q o : Option Addr), xv = .int .i64 x ∧ mv = .slice q n d ∧ ov = .slice o m e ∧ n ≤ 256 ∧ x < n ∧ tlv w F x n (.slice q n d) (.slice o m e) wr) (fun _ mv _ _ => slen mv)
      case atStart => exact ⟨i, j, c', 0, 0, p', none, rfl, rfl, rfl, hn, hi, H0.out⟩
      case round =>
        obtain ⟨x, n, d, m, e, q, o, rfl, rfl, rfl, hn2, hxn, C, L, O, hL, hsL, hM, hC1, hC2, hO, hOb, hOF, hB⟩ := hrel
        clear H0
        have HL2 : Hid (L.length = n) := hL
        have HS2 : Hid (small L) := hsL
        have HB : Hid (Below w.heap.size w wr) := hB
        by_cases h1 : 1 < n
        · have HTU : Hid (tr pr L x = be L x ++ tr pr (up pr L) (x / 2)) := tr_up pr n L x hL hxn
          have hxo := xor_i64 x (by omega)
          have hx1 : x ^^^ 1 = if x % 2 = 0 then x + 1 else x - 1 := xor_one x
          have HBE : Hid (be L x = if x ^^^ 1 < L.length then [L.getD (x ^^^ 1) 0] else []) := rfl
          have HOl : Hid (O.length = m ∧ O.length ≤ 8) := by
            have := congrArg List.length hOF
            rw [List.length_append] at this
            have := HF8.out
            exact ⟨(mine_slice hO).1, by omega⟩
          obtain ⟨B, hBx⟩ : ∃ B, x ^^^ 1 = B := ⟨_, rfl⟩
          have hB0 : B ≤ 256 := by rw [hBx] at hx1; split at hx1 <;> omega
          rw [hBx, hL] at HBE
          rw [hBx] at hxo
          clear hx1 hBx
          have b1 : (1 : Int) < n := by omega
          by_cases hbe : B < n
          · rw [if_pos hbe] at HBE
            obtain ⟨a, rfl, hc1⟩ := mine_row hM B hbe
            obtain ⟨X, hX⟩ : ∃ X, L.getD B 0 = X := ⟨_, rfl⟩
            rw [hX] at hc1 HBE
            clear hX
            have HV : Hid (mine w.heap.size ((wr.drewN 0).alloc (.cells #[.int .u64 X] 23)) (.slice o m e) O) := mine_next hO (Nat.le_refl _) 0 _
            have HVm : Hid (mine C ((wr.drewN 0).alloc (.cells #[.int .u64 X] 23)) (.slice (some a) n d) L) := mine_below hM (alloc_below _ _)
            have HBe : Hid (Below w.heap.size w ((wr.drewN 0).alloc (.cells #[.int .u64 X] 23))) := below_next hB 0 _
            have HOb : Hid (∀ b, (Value.slice o m e).ownBlock = some b → b < C) := hOb
            have HOF : Hid ((O ++ [X]) ++ tr pr (up pr L) (x / 2) = F) := by unfold Hid; rw [← hOF, HTU.out, HBE.out]; simp
            have HCC : Hid (w.heap.size ≤ C) := hC1
            clear hL hsL hM hC1 hC2 hO hOb hOF hB HB HTU HBE
            have b2 : (B : Int) < n := by omega
            have b3 : (0 : Int) ≤ B := by omega
            go_wp2_with (at_builtin; refine list_one _ rfl _ _ rfl w.heap.size (.slice o m e) O rfl HV.out ⟨_, 0, none⟩ 1 X rfl (new_one _ 0 _ _) (by have := HOl.out; omega) HBe.out.size ?_)
            intro g cap wB h1' h2'
            rw [HOl.out.1] at h1' ⊢
            have HO : Hid (mine w.heap.size wB (.slice (some ⟨g, 0, none⟩) (m + 1) cap) (O ++ [X])) := h1'
            have HB : Hid (Below w.heap.size w wB) := mine_grown HV.out HBe.out h2'
            have HM : Hid (mine w.heap.size wB (.slice (some a) n d) L) := mine_mono (mine_apart HVm.out h2' HOb.out) HCC.out
            clear h1' h2' HV HVm HBe HOb hc1 HCC
            generalize (some ⟨g, 0, none⟩ : Option Addr) = o2 at HO ⊢
            generalize (some a : Option Addr) = q2 at HM ⊢
            generalize m + 1 = m2 at HO ⊢
            generalize O ++ [X] = O2 at HO HOF
            go_wp2_with fail
            go_loopw [10, 11] (fun uv iv wr => ∃ (p6 : Option Addr) (n6 c6 i : Nat), uv = .slice p6 n6 c6 ∧ iv = .int .i64 ((2 * i : Nat) : Int) ∧ 2 * i ≤ n + 1 ∧ mine wB.heap.size wr (.slice p6 n6 c6) (up pr (L.take (2 * i))) ∧ Below wB.heap.size wB wr) (fun _ iv _ => n + 1 - (intOf iv).toNat)
            case atStart => exact ⟨none, 0, 0, 0, rfl, rfl, by omega, World.ownsRow_nil _ _ _ _, Below.refl _ _⟩
            case round =>
              obtain ⟨p6, n6, c6, i, rfl, rfl, hi, hM6, hB6⟩ := hrel
              have HM6 : Hid (mine wB.heap.size wr (.slice p6 n6 c6) (up pr (L.take (2 * i)))) := hM6
              have HB6 : Hid (Below wB.heap.size wB wr) := hB6
              clear hM6 hB6
              by_cases hlt : 2 * i < n
              · obtain ⟨I, hI⟩ : ∃ I, 2 * i = I := ⟨_, rfl⟩
                have HI : Hid (2 * i = I) := hI
                have HU : Hid ((up pr (L.take (2 * i))).length = n6) := (mine_slice HM6.out).1
                have HU2 : Hid (n6 ≤ 256) := by
                  have := HU.out
                  rw [up_length, List.length_take, HL2.out] at this
                  unfold Hid; omega
                obtain ⟨a, rfl, hc1⟩ := mine_row HM.out I (by omega)
                have HT2 : Hid (2 * i + 1 < n → up pr (L.take (2 * (i + 1))) = up pr (L.take (2 * i)) ++ [pr (L.getD (2 * i) 0) (L.getD (2 * i + 1) 0)]) := fun h => up_two L i (by rw [HL2.out]; exact h)
                have HT1 : Hid (2 * i + 1 = n → up pr (L.take (2 * (i + 1))) = up pr (L.take (2 * i)) ++ [L.getD (2 * i) 0]) := fun h => up_last L i (by rw [HL2.out]; exact h)
                rw [hI] at HM6 HU HT2 HT1 hi ⊢
                obtain ⟨U, hU⟩ : ∃ U, up pr (L.take I) = U := ⟨_, rfl⟩
                rw [hU] at HM6 HU HT2 HT1
                have HX : Hid (L.getD I 0 < 18446744073709551616) := small_at HS2.out I
                clear hU
                by_cases h2 : I + 1 < n
                · obtain ⟨a', ha', hc2⟩ := mine_row HM.out (I + 1) h2
                  cases ha'
                  have HY : Hid (L.getD (I + 1) 0 < 18446744073709551616) := small_at HS2.out (I + 1)
                  have HT := HT2.out h2
                  have HT : Hid (up pr (L.take (2 * (i + 1))) = U ++ [pr (L.getD I 0) (L.getD (I + 1) 0)]) := HT
                  obtain ⟨X, hX⟩ : ∃ X, L.getD I 0 = X := ⟨_, rfl⟩
                  obtain ⟨Y, hY⟩ : ∃ Y, L.getD (I + 1) 0 = Y := ⟨_, rfl⟩
                  rw [hX] at hc1 HX HT
                  rw [hY] at hc2 HY HT
                  obtain ⟨J, hJ⟩ : ∃ J, I + 1 = J := ⟨_, rfl⟩
                  rw [hJ] at hc2
                  have HJ : Hid (I + 1 = J) := hJ
                  have j1 : (I : Int) + 1 = J := by omega
                  have j2 : (J : Int) < n := by omega
                  have j3 : (I : Int) < n := by omega
                  have j4 : (0 : Int) ≤ I := by omega
                  have j5 : (0 : Int) ≤ J := by omega
                  have j6 : IntKind.i64.wrap (J : Int) = J := by rw [IntKind.wrap_i64]; omega
                  clear hX hY hJ hI HT2 HT1 h2 hlt hi
                  go_wp2_with fail
                  go_region_held3 (fun w' => Below wB.heap.size wB w' ∧ w'.cell? (a.add I) = some (.int .u64 X) ∧ w'.cell? (a.add J) = some (.int .u64 Y)) (exact k2_of hc1 hc2 (by first | assumption | exact HB6.out | exact HB6.out.drew | exact (HB6.out.alloc HB6.out.size _).drew | exact (HB6.out.drew.alloc HB6.out.size _))) (first | (go_at_call 12; refine (PairOf_any X Y _ HX.out HY.out).mono ?_; rintro e w' ⟨rfl, hw⟩; subst w') | (have hmi : mine wB.heap.size (wr.alloc (.cells #[.int .u64 (pr X Y)] 23)).drew (.slice p6 n6 c6) U := mine_below HM6.out (alloc_below wr _).drew; have hcur : Below wB.heap.size wB (wr.alloc (.cells #[.int .u64 (pr X Y)] 23)).drew := (HB6.out.alloc HB6.out.size _).drew; refine step_one _ (by rfl) _ _ (by rfl) wB.heap.size (.slice p6 n6 c6) U (by rfl) hmi ⟨_, 0, none⟩ 1 (pr X Y) (by rfl) (new_zero wr _ _) (by have := HU.out; have := HU2.out; omega) hcur.size ?_; intro g cap3 w3 hm3 hgrow; have hb3 : Below wB.heap.size wB w3 := mine_grown hmi hcur hgrow))
                  rw [HU.out] at hm3 ⊢
                  have HE : Hid (mine wB.heap.size w3 (.slice (some ⟨g, 0, none⟩) (n6 + 1) cap3) (U ++ [pr X Y]) ∧ Below wB.heap.size wB w3) := ⟨hm3, hb3⟩
                  clear hm3 hb3 hgrow hc1 hc2
                  go_wp2_with fail
                  go_roundw
                  case rel => exact ⟨_, n6 + 1, cap3, i + 1, rfl, val_int (by have := HI.out; omega), by have := HI.out; have := HJ.out; omega, by rw [HT.out]; exact HE.out.1, HE.out.2⟩
                  case measure => have := HI.out; simp [intOf]; omega
                · have hIn : I + 1 = n := by omega
                  have HT := HT1.out hIn
                  have HT : Hid (up pr (L.take (2 * (i + 1))) = U ++ [L.getD I 0]) := HT
                  obtain ⟨X, hX⟩ : ∃ X, L.getD I 0 = X := ⟨_, rfl⟩
                  rw [hX] at hc1 HX HT
                  have hc1' : wr.cell? (a.add I) = some (.int .u64 X) := cell_far HB6.out hc1
                  have j1 : ¬ (I : Int) + 1 < n := by omega
                  have j3 : (I : Int) < n := by omega
                  have j4 : (0 : Int) ≤ I := by omega
                  have HV : Hid (mine wB.heap.size ((wr.drewN 0).alloc (.cells #[.int .u64 X] 23)) (.slice p6 n6 c6) U) := mine_next HM6.out (Nat.le_refl _) 0 _
                  have HBe : Hid (Below wB.heap.size wB ((wr.drewN 0).alloc (.cells #[.int .u64 X] 23))) := below_next HB6.out 0 _
                  clear hX hI HT2 HT1 h2 hlt hi hIn HM6
                  go_wp2_with (at_builtin; refine list_one _ rfl _ _ rfl wB.heap.size (.slice p6 n6 c6) U rfl HV.out ⟨_, 0, none⟩ 1 X rfl (new_one _ 0 _ _) (by have := HU.out; have := HU2.out; omega) HBe.out.size ?_)
                  intro g cap3 w3 hm3 hgrow
                  rw [HU.out] at hm3 ⊢
                  have HE : Hid (mine wB.heap.size w3 (.slice (some ⟨g, 0, none⟩) (n6 + 1) cap3) (U ++ [X]) ∧ Below wB.heap.size wB w3) := ⟨hm3, mine_grown HV.out HBe.out hgrow⟩
                  clear hm3 hgrow hc1 hc1' HV HBe
                  go_wp2_with fail
                  go_roundw
                  case rel => exact ⟨_, n6 + 1, cap3, i + 1, rfl, val_int (by have := HI.out; omega), by have := HI.out; omega, by rw [HT.out]; exact HE.out.1, HE.out.2⟩
                  case measure => have := HI.out; simp [intOf]; omega
              · have hT : L.take (2 * i) = L := List.take_of_length_le (by rw [HL2.out]; omega)
                rw [hT] at HM6
                have HLn : Hid ((up pr L).length = n6) := (mine_slice HM6.out).1
                have hn6 : n6 = (n + 1) / 2 := by rw [← HLn.out, up_length, HL2.out]
                have HE : Hid (tlv w F (x / 2) n6 (.slice p6 n6 c6) (.slice o2 m2 cap) wr) := ⟨wB.heap.size, up pr L, O2, HLn.out, up_small HS2.out, HM6.out, HB.out.size, HB6.out.size, mine_below HO.out HB6.out, mine_block HO.out, HOF.out, HB.out.trans (HB6.out.mono HB.out.size)⟩
                clear hT HM6 HB6 HM
                have j1 : ¬ ((2 * i : Nat) : Int) < n := by omega
                go_wp2_with fail
                go_roundw
                case rel => exact ⟨x / 2, n6, c6, m2, cap, p6, o2, by go_num, rfl, rfl, by omega, by omega, HE.out⟩
                case measure => simp [slen]; omega
          · rw [if_neg hbe] at HBE
            have HO : Hid (mine w.heap.size wr (.slice o m e) O) := hO
            have HM : Hid (mine w.heap.size wr (.slice q n d) L) := mine_mono hM hC1
            have HOF : Hid (O ++ tr pr (up pr L) (x / 2) = F) := by unfold Hid; rw [← hOF, HTU.out, HBE.out]; simp
            clear hL hsL hM hC1 hC2 hO hOb hOF hB HTU HBE
            have b2 : ¬ (B : Int) < n := by omega
            obtain ⟨wB, hwB⟩ : ∃ wB : World, wB = wr := ⟨_, rfl⟩
            subst hwB
            go_wp2_with fail
            go_loopw [10, 11] (fun uv iv wr => ∃ (p6 : Option Addr) (n6 c6 i : Nat), uv = .slice p6 n6 c6 ∧ iv = .int .i64 ((2 * i : Nat) : Int) ∧ 2 * i ≤ n + 1 ∧ mine wB.heap.size wr (.slice p6 n6 c6) (up pr (L.take (2 * i))) ∧ Below wB.heap.size wB wr) (fun _ iv _ => n + 1 - (intOf iv).toNat)
            case atStart => exact ⟨none, 0, 0, 0, rfl, rfl, by omega, World.ownsRow_nil _ _ _ _, Below.refl _ _⟩
            case round =>
              obtain ⟨p6, n6, c6, i, rfl, rfl, hi, hM6, hB6⟩ := hrel
              have HM6 : Hid (mine wB.heap.size wr (.slice p6 n6 c6) (up pr (L.take (2 * i)))) := hM6
              have HB6 : Hid (Below wB.heap.size wB wr) := hB6
              clear hM6 hB6
              by_cases hlt : 2 * i < n
              · obtain ⟨I, hI⟩ : ∃ I, 2 * i = I := ⟨_, rfl⟩
                have HI : Hid (2 * i = I) := hI
                have HU : Hid ((up pr (L.take (2 * i))).length = n6) := (mine_slice HM6.out).1
                have HU2 : Hid (n6 ≤ 256) := by
                  have := HU.out
                  rw [up_length, List.length_take, HL2.out] at this
                  unfold Hid; omega
                obtain ⟨a, rfl, hc1⟩ := mine_row HM.out I (by omega)
                have HT2 : Hid (2 * i + 1 < n → up pr (L.take (2 * (i + 1))) = up pr (L.take (2 * i)) ++ [pr (L.getD (2 * i) 0) (L.getD (2 * i + 1) 0)]) := fun h => up_two L i (by rw [HL2.out]; exact h)
                have HT1 : Hid (2 * i + 1 = n → up pr (L.take (2 * (i + 1))) = up pr (L.take (2 * i)) ++ [L.getD (2 * i) 0]) := fun h => up_last L i (by rw [HL2.out]; exact h)
                rw [hI] at HM6 HU HT2 HT1 hi ⊢
                obtain ⟨U, hU⟩ : ∃ U, up pr (L.take I) = U := ⟨_, rfl⟩
                rw [hU] at HM6 HU HT2 HT1
                have HX : Hid (L.getD I 0 < 18446744073709551616) := small_at HS2.out I
                clear hU
                by_cases h2 : I + 1 < n
                · obtain ⟨a', ha', hc2⟩ := mine_row HM.out (I + 1) h2
                  cases ha'
                  have HY : Hid (L.getD (I + 1) 0 < 18446744073709551616) := small_at HS2.out (I + 1)
                  have HT := HT2.out h2
                  have HT : Hid (up pr (L.take (2 * (i + 1))) = U ++ [pr (L.getD I 0) (L.getD (I + 1) 0)]) := HT
                  obtain ⟨X, hX⟩ : ∃ X, L.getD I 0 = X := ⟨_, rfl⟩
                  obtain ⟨Y, hY⟩ : ∃ Y, L.getD (I + 1) 0 = Y := ⟨_, rfl⟩
                  rw [hX] at hc1 HX HT
                  rw [hY] at hc2 HY HT
                  obtain ⟨J, hJ⟩ : ∃ J, I + 1 = J := ⟨_, rfl⟩
                  rw [hJ] at hc2
                  have HJ : Hid (I + 1 = J) := hJ
                  have j1 : (I : Int) + 1 = J := by omega
                  have j2 : (J : Int) < n := by omega
                  have j3 : (I : Int) < n := by omega
                  have j4 : (0 : Int) ≤ I := by omega
                  have j5 : (0 : Int) ≤ J := by omega
                  have j6 : IntKind.i64.wrap (J : Int) = J := by rw [IntKind.wrap_i64]; omega
                  clear hX hY hJ hI HT2 HT1 h2 hlt hi
                  go_wp2_with fail
                  go_region_held3 (fun w' => Below wB.heap.size wB w' ∧ w'.cell? (a.add I) = some (.int .u64 X) ∧ w'.cell? (a.add J) = some (.int .u64 Y)) (exact k2_of hc1 hc2 (by first | assumption | exact HB6.out | exact HB6.out.drew | exact (HB6.out.alloc HB6.out.size _).drew | exact (HB6.out.drew.alloc HB6.out.size _))) (first | (go_at_call 12; refine (PairOf_any X Y _ HX.out HY.out).mono ?_; rintro e w' ⟨rfl, hw⟩; subst w') | (have hmi : mine wB.heap.size (wr.alloc (.cells #[.int .u64 (pr X Y)] 23)).drew (.slice p6 n6 c6) U := mine_below HM6.out (alloc_below wr _).drew; have hcur : Below wB.heap.size wB (wr.alloc (.cells #[.int .u64 (pr X Y)] 23)).drew := (HB6.out.alloc HB6.out.size _).drew; refine step_one _ (by rfl) _ _ (by rfl) wB.heap.size (.slice p6 n6 c6) U (by rfl) hmi ⟨_, 0, none⟩ 1 (pr X Y) (by rfl) (new_zero wr _ _) (by have := HU.out; have := HU2.out; omega) hcur.size ?_; intro g cap3 w3 hm3 hgrow; have hb3 : Below wB.heap.size wB w3 := mine_grown hmi hcur hgrow))
                  rw [HU.out] at hm3 ⊢
                  have HE : Hid (mine wB.heap.size w3 (.slice (some ⟨g, 0, none⟩) (n6 + 1) cap3) (U ++ [pr X Y]) ∧ Below wB.heap.size wB w3) := ⟨hm3, hb3⟩
                  clear hm3 hb3 hgrow hc1 hc2
                  go_wp2_with fail
                  go_roundw
                  case rel => exact ⟨_, n6 + 1, cap3, i + 1, rfl, val_int (by have := HI.out; omega), by have := HI.out; have := HJ.out; omega, by rw [HT.out]; exact HE.out.1, HE.out.2⟩
                  case measure => have := HI.out; simp [intOf]; omega
                · have hIn : I + 1 = n := by omega
                  have HT := HT1.out hIn
                  have HT : Hid (up pr (L.take (2 * (i + 1))) = U ++ [L.getD I 0]) := HT
                  obtain ⟨X, hX⟩ : ∃ X, L.getD I 0 = X := ⟨_, rfl⟩
                  rw [hX] at hc1 HX HT
                  have hc1' : wr.cell? (a.add I) = some (.int .u64 X) := cell_far HB6.out hc1
                  have j1 : ¬ (I : Int) + 1 < n := by omega
                  have j3 : (I : Int) < n := by omega
                  have j4 : (0 : Int) ≤ I := by omega
                  have HV : Hid (mine wB.heap.size ((wr.drewN 0).alloc (.cells #[.int .u64 X] 23)) (.slice p6 n6 c6) U) := mine_next HM6.out (Nat.le_refl _) 0 _
                  have HBe : Hid (Below wB.heap.size wB ((wr.drewN 0).alloc (.cells #[.int .u64 X] 23))) := below_next HB6.out 0 _
                  clear hX hI HT2 HT1 h2 hlt hi hIn HM6
                  go_wp2_with (at_builtin; refine list_one _ rfl _ _ rfl wB.heap.size (.slice p6 n6 c6) U rfl HV.out ⟨_, 0, none⟩ 1 X rfl (new_one _ 0 _ _) (by have := HU.out; have := HU2.out; omega) HBe.out.size ?_)
                  intro g cap3 w3 hm3 hgrow
                  rw [HU.out] at hm3 ⊢
                  have HE : Hid (mine wB.heap.size w3 (.slice (some ⟨g, 0, none⟩) (n6 + 1) cap3) (U ++ [X]) ∧ Below wB.heap.size wB w3) := ⟨hm3, mine_grown HV.out HBe.out hgrow⟩
                  clear hm3 hgrow hc1 hc1' HV HBe
                  go_wp2_with fail
                  go_roundw
                  case rel => exact ⟨_, n6 + 1, cap3, i + 1, rfl, val_int (by have := HI.out; omega), by have := HI.out; omega, by rw [HT.out]; exact HE.out.1, HE.out.2⟩
                  case measure => have := HI.out; simp [intOf]; omega
              · have hT : L.take (2 * i) = L := List.take_of_length_le (by rw [HL2.out]; omega)
                rw [hT] at HM6
                have HLn : Hid ((up pr L).length = n6) := (mine_slice HM6.out).1
                have hn6 : n6 = (n + 1) / 2 := by rw [← HLn.out, up_length, HL2.out]
                have HE : Hid (tlv w F (x / 2) n6 (.slice p6 n6 c6) (.slice o m e) wr) := ⟨wB.heap.size, up pr L, O, HLn.out, up_small HS2.out, HM6.out, HB.out.size, HB6.out.size, mine_below HO.out HB6.out, mine_block HO.out, HOF.out, HB.out.trans (HB6.out.mono HB.out.size)⟩
                clear hT HM6 HB6 HM
                have j1 : ¬ ((2 * i : Nat) : Int) < n := by omega
                go_wp2_with fail
                go_roundw
                case rel => exact ⟨x / 2, n6, c6, m, e, p6, o, by go_num, rfl, rfl, by omega, by omega, HE.out⟩
                case measure => simp [slen]; omega
        · obtain rfl : n = 1 := by omega
          have HE : Hid (mine w.heap.size wr (.slice o m e) F) := by
            rw [tr_short pr (by omega), List.append_nil] at hOF
            unfold Hid; rw [← hOF]; exact hO
          clear hL hsL hM hC1 hC2 hO hOb hOF hB
          go_wp2_with fail
          go_ret
          exact ⟨_, rfl, HE.out, HB.out⟩
end Go.Proofs.Yteedlbdjbffheaa
