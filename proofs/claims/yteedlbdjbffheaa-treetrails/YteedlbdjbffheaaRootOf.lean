/- What RootOfTexts returns: level by level. -/
import Derived.Test.YteedlbdjbffheaaGrows
namespace Go.Proofs.Yteedlbdjbffheaa
open Go.RowKit
set_option linter.unusedVariables false
attribute [local go_sem ↓] Go.wp_at_zero Go.wp_at_succ

theorem up_two (L : List Nat) (j : Nat) (h : 2 * j + 1 < L.length) : up pr (L.take (2 * (j + 1))) = up pr (L.take (2 * j)) ++ [pr (L.getD (2 * j) 0) (L.getD (2 * j + 1) 0)] := by
  rw [show 2 * (j + 1) = 2 * j + 1 + 1 by omega, List.take_succ_eq_append_getElem (by omega), List.take_succ_eq_append_getElem (by omega), List.append_assoc, up_append _ _ _ (by rw [List.length_take]; omega)]
  simp only [List.cons_append, List.nil_append, up]
  simp [List.getD_eq_getElem?_getD, List.getElem?_eq_getElem h, List.getElem?_eq_getElem (show 2 * j < L.length by omega)]
theorem up_last (L : List Nat) (j : Nat) (h : 2 * j + 1 = L.length) : up pr (L.take (2 * (j + 1))) = up pr (L.take (2 * j)) ++ [L.getD (2 * j) 0] := by
  rw [List.take_of_length_le (show L.length ≤ 2 * (j + 1) by omega), show L = L.take (2 * j + 1) by rw [List.take_of_length_le (by omega)]]
  rw [List.take_succ_eq_append_getElem (by omega), up_append _ _ _ (by rw [List.length_take]; omega)]
  simp only [up]
  rw [List.take_append_of_le_length (by rw [List.length_take]; omega), List.take_take]
  simp [List.getD_eq_getElem?_getD, List.getElem?_eq_getElem (show 2 * j < L.length by omega)]
theorem up_small : ∀ {l : List Nat}, small l → small (up pr l)
  | [], h => h
  | [x], h => h
  | x :: y :: r, h => by
    intro z hz
    rcases List.mem_cons.1 hz with rfl | hz
    · exact pr_lt _ _
    · exact up_small (fun u hu => h u (by simp [hu])) z hz
theorem lvs_snoc (l : List ByteArray) (j : Nat) (h : j < l.length) : lvs (l.take (j + 1)) = lvs (l.take j) ++ [lf (l.getD j ⟨#[]⟩)] := by
  unfold lvs
  rw [List.take_succ_eq_append_getElem h, List.map_append]
  simp [List.getD_eq_getElem?_getD, List.getElem?_eq_getElem h]
theorem mine_row {B : Nat} {w : World} {p : Option Addr} {n c : Nat} {L : List Nat} (h : mine B w (.slice p n c) L) (j : Nat) (hj : j < n) : ∃ a, p = some a ∧ w.cell? (a.add j) = some (.int .u64 ((L.getD j 0 : Nat) : Int)) := by
  obtain ⟨h1, _, h3⟩ := mine_slice h
  exact h3 j (by omega)
theorem k2_of {wB w' : World} {a b : Addr} {x y : Value} (h1 : wB.cell? a = some x) (h2 : wB.cell? b = some y) (hb : Below wB.heap.size wB w') : Below wB.heap.size wB w' ∧ w'.cell? a = some x ∧ w'.cell? b = some y :=
  ⟨hb, cell_far hb h1, cell_far hb h2⟩

set_option maxRecDepth 20000 in
set_option maxHeartbeats 4000000 in
theorem RootOf_any (l : List ByteArray) (p : Option Addr) (k c : Nat) (w : World) (hl : l.length = k) (hn : k ≤ 256) (ht : txt w p l) (hs : tsm l) :
    Calls Try.prog 16 #[.slice p k c] w fun e w' => e = .returned (.int .u64 (rts l)) ∧ Below w.heap.size w w' := by
  have HT : Hid (txt w p l) := ht
  have HS : Hid (tsm l) := hs
  have HL : Hid (l.length = k) := hl
  have HR : Hid (rt pr (lvs (l.take k)) = rts l) := by unfold Hid; rw [List.take_of_length_le (by omega)]; rfl
  obtain ⟨R, hR⟩ : ∃ R, rts l = R := ⟨_, rfl⟩
  rw [hR] at HR ⊢
  clear hR ht hs hl
  go_enter Try.func16, Try.ntmps16
  go_wp2_with fail
  go_loopw [3, 10] (fun mv iv wr => ∃ (p' : Option Addr) (j c' : Nat), mv = .slice p' j c' ∧ iv = .int .i64 j ∧ j ≤ k ∧ mine w.heap.size wr (.slice p' j c') (lvs (l.take j)) ∧ Below w.heap.size w wr) (fun _ iv _ => k - (intOf iv).toNat)
  case atStart => exact ⟨none, 0, 0, rfl, rfl, by omega, World.ownsRow_nil _ _ _ _, Below.refl _ _⟩
  case round =>
    obtain ⟨p', j, c', rfl, rfl, hj, hM, hB⟩ := hrel
    have HM : Hid (mine w.heap.size wr (.slice p' j c') (lvs (l.take j))) := hM
    have HB : Hid (Below w.heap.size w wr) := hB
    clear hM hB
    by_cases hlt : j < k
    · obtain ⟨a, rfl, hcell⟩ := txt_below HT.out HB.out j (by rw [HL.out]; exact hlt)
      have HZ : Hid ((l.getD j ⟨#[]⟩).size ≤ 9223372036854775807) := tsm_at HS.out j
      have HSn : Hid (lvs (l.take (j + 1)) = lvs (l.take j) ++ [lf (l.getD j ⟨#[]⟩)]) := lvs_snoc l j (by rw [HL.out]; exact hlt)
      have HLe : Hid ((lvs (l.take j)).length = j) := by unfold Hid; rw [lvs_length, List.length_take, HL.out]; omega
      obtain ⟨s, hs⟩ : ∃ s, l.getD j ⟨#[]⟩ = s := ⟨_, rfl⟩
      rw [hs] at hcell HZ HSn
      obtain ⟨L, hL⟩ : ∃ L, lvs (l.take j) = L := ⟨_, rfl⟩
      rw [hL] at HM HSn HLe
      clear hs hL
      have l1 : (j : Int) < k := by omega
      have l2 : (0 : Int) ≤ j := by omega
      go_wp2_with fail
      refine (LeafOf_any s _ HZ.out).mono ?_
      rintro e w1 ⟨rfl, hb⟩
      have HV : Hid (mine w.heap.size ((w1.drewN 0).alloc (.cells #[.int .u64 (lf s)] 23)) (.slice p' j c') L) := mine_next (mine_below HM.out hb) (Nat.le_refl _) 0 _
      have HBe : Hid (Below w.heap.size w ((w1.drewN 0).alloc (.cells #[.int .u64 (lf s)] 23))) := below_next (HB.out.trans (hb.mono HB.out.size)) 0 _
      clear hb HM HB hcell
      obtain ⟨X, hX⟩ : ∃ X, lf s = X := ⟨_, rfl⟩
      rw [hX] at HV HBe HSn ⊢
      clear hX
      go_wp2_with (at_builtin; refine list_one _ rfl _ _ rfl w.heap.size (.slice p' j c') L rfl HV.out ⟨_, 0, none⟩ 1 X rfl (new_one _ 0 _ _) (by have := HLe.out; omega) HBe.out.size ?_)
      intro g cap w2 h1 h2
      rw [HLe.out] at h1 ⊢
      have HE : Hid (mine w.heap.size w2 (.slice (some ⟨g, 0, none⟩) (j + 1) cap) (L ++ [X]) ∧ Below w.heap.size w w2) := ⟨h1, mine_grown HV.out HBe.out h2⟩
      clear h1 h2 HV HBe
      go_wp2_with fail
      go_roundw
      case rel => exact ⟨_, j + 1, _, rfl, by go_num, by omega, by rw [HSn.out]; exact HE.out.1, HE.out.2⟩
      case measure => simp [intOf]; omega
    · obtain rfl : j = k := by omega
      have H0 : Hid (∃ L, L.length = j ∧ small L ∧ mine w.heap.size wr (.slice p' j c') L ∧ rt pr L = R ∧ Below w.heap.size w wr) := ⟨_, (mine_slice HM.out).1, lvs_small _, HM.out, HR.out, HB.out⟩
      clear HM HB
      obtain ⟨w4, hw4⟩ : ∃ w4 : World, w4 = wr := ⟨_, rfl⟩
      subst hw4
      go_wp2_with fail
      go_loopw [3] (fun mv wr => ∃ (q : Option Addr) (n d : Nat), mv = .slice q n d ∧ n ≤ 256 ∧ ∃ L, L.length = n ∧ small L ∧ mine w.heap.size wr (.slice q n d) L ∧ rt pr L = R ∧ Below w.heap.size w wr) (fun mv _ => slen mv)
      case atStart => exact ⟨p', j, c', rfl, hn, H0.out⟩
      case round =>
        obtain ⟨q, n, d, rfl, hn2, L, hL, hsL, hM, hRL, hB⟩ := hrel
        clear H0
        have HL2 : Hid (L.length = n) := hL
        have HS2 : Hid (small L) := hsL
        have HM : Hid (mine w.heap.size wr (.slice q n d) L) := hM
        have HRL : Hid (rt pr L = R) := hRL
        have HB : Hid (Below w.heap.size w wr) := hB
        clear hL hsL hM hRL hB
        by_cases h1 : 1 < n
        · obtain ⟨wB, hwB⟩ : ∃ wB : World, wB = wr := ⟨_, rfl⟩
          subst hwB
          have b1 : (1 : Int) < n := by omega
          go_wp2_with fail
          go_loopw [6, 7] (fun uv iv wr => ∃ (p6 : Option Addr) (n6 c6 i : Nat), uv = .slice p6 n6 c6 ∧ iv = .int .i64 ((2 * i : Nat) : Int) ∧ 2 * i ≤ n + 1 ∧ mine wB.heap.size wr (.slice p6 n6 c6) (up pr (L.take (2 * i))) ∧ Below wB.heap.size wB wr) (fun _ iv _ => n + 1 - (intOf iv).toNat)
          case atStart => exact ⟨none, 0, 0, 0, rfl, rfl, by omega, World.ownsRow_nil _ _ _ _, Below.refl _ _⟩
          case round =>
            obtain ⟨p6, n6, c6, i, rfl, rfl, hi, hM6, hB6⟩ := hrel
            have HM6 : Hid (mine wB.heap.size wr (.slice p6 n6 c6) (up pr (L.take (2 * i)))) := hM6
            have HB6 : Hid (Below wB.heap.size wB wr) := hB6
            clear hM6 hB6
            by_cases hlt : 2 * i < n
            · obtain ⟨I, hI⟩ : ∃ I, 2 * i = I := ⟨_, rfl⟩
              have HI : Hid (2 * i = I) := hI
              have HU : Hid ((up pr (L.take (2 * i))).length = n6) := (mine_slice HM6.out).1
              have HU2 : Hid (n6 ≤ 256) := by
                have := HU.out
                rw [up_length, List.length_take, HL2.out] at this
                unfold Hid; omega
              obtain ⟨a, rfl, hc1⟩ := mine_row HM.out I (by omega)
              have HT2 : Hid (2 * i + 1 < n → up pr (L.take (2 * (i + 1))) = up pr (L.take (2 * i)) ++ [pr (L.getD (2 * i) 0) (L.getD (2 * i + 1) 0)]) := fun h => up_two L i (by rw [HL2.out]; exact h)
              have HT1 : Hid (2 * i + 1 = n → up pr (L.take (2 * (i + 1))) = up pr (L.take (2 * i)) ++ [L.getD (2 * i) 0]) := fun h => up_last L i (by rw [HL2.out]; exact h)
              rw [hI] at HM6 HU HT2 HT1 hi ⊢
              obtain ⟨U, hU⟩ : ∃ U, up pr (L.take I) = U := ⟨_, rfl⟩
              rw [hU] at HM6 HU HT2 HT1
              have HX : Hid (L.getD I 0 < 18446744073709551616) := small_at HS2.out I
              clear hU
              by_cases h2 : I + 1 < n
              · obtain ⟨a', ha', hc2⟩ := mine_row HM.out (I + 1) h2
                cases ha'
                have HY : Hid (L.getD (I + 1) 0 < 18446744073709551616) := small_at HS2.out (I + 1)
                have HT := HT2.out h2
                have HT : Hid (up pr (L.take (2 * (i + 1))) = U ++ [pr (L.getD I 0) (L.getD (I + 1) 0)]) := HT
                obtain ⟨X, hX⟩ : ∃ X, L.getD I 0 = X := ⟨_, rfl⟩
                obtain ⟨Y, hY⟩ : ∃ Y, L.getD (I + 1) 0 = Y := ⟨_, rfl⟩
                rw [hX] at hc1 HX HT
                rw [hY] at hc2 HY HT
                obtain ⟨J, hJ⟩ : ∃ J, I + 1 = J := ⟨_, rfl⟩
                rw [hJ] at hc2
                have HJ : Hid (I + 1 = J) := hJ
                have j1 : (I : Int) + 1 = J := by omega
                have j2 : (J : Int) < n := by omega
                have j3 : (I : Int) < n := by omega
                have j4 : (0 : Int) ≤ I := by omega
                have j5 : (0 : Int) ≤ J := by omega
                have j6 : IntKind.i64.wrap (J : Int) = J := by rw [IntKind.wrap_i64]; omega
                clear hX hY hJ hI HT2 HT1 h2 hlt hi
                go_wp2_with fail
                go_region_held3 (fun w' => Below wB.heap.size wB w' ∧ w'.cell? (a.add I) = some (.int .u64 X) ∧ w'.cell? (a.add J) = some (.int .u64 Y)) (exact k2_of hc1 hc2 (by first | assumption | exact HB6.out | exact HB6.out.drew | exact (HB6.out.alloc HB6.out.size _).drew | exact (HB6.out.drew.alloc HB6.out.size _))) (first | (go_at_call 12; refine (PairOf_any X Y _ HX.out HY.out).mono ?_; rintro e w' ⟨rfl, hw⟩; subst w') | (have hmi : mine wB.heap.size (wr.alloc (.cells #[.int .u64 (pr X Y)] 23)).drew (.slice p6 n6 c6) U := mine_below HM6.out (alloc_below wr _).drew; have hcur : Below wB.heap.size wB (wr.alloc (.cells #[.int .u64 (pr X Y)] 23)).drew := (HB6.out.alloc HB6.out.size _).drew; refine step_one _ (by rfl) _ _ (by rfl) wB.heap.size (.slice p6 n6 c6) U (by rfl) hmi ⟨_, 0, none⟩ 1 (pr X Y) (by rfl) (new_zero wr _ _) (by have := HU.out; have := HU2.out; omega) hcur.size ?_; intro g cap w3 hm3 hgrow; have hb3 : Below wB.heap.size wB w3 := mine_grown hmi hcur hgrow))
                rw [HU.out] at hm3 ⊢
                have HE : Hid (mine wB.heap.size w3 (.slice (some ⟨g, 0, none⟩) (n6 + 1) cap) (U ++ [pr X Y]) ∧ Below wB.heap.size wB w3) := ⟨hm3, hb3⟩
                clear hm3 hb3 hgrow hc1 hc2
                go_wp2_with fail
                go_roundw
                case rel => exact ⟨_, n6 + 1, cap, i + 1, rfl, val_int (by have := HI.out; omega), by have := HI.out; have := HJ.out; omega, by rw [HT.out]; exact HE.out.1, HE.out.2⟩
                case measure => have := HI.out; simp [intOf]; omega
              · have hIn : I + 1 = n := by omega
                have HT := HT1.out hIn
                have HT : Hid (up pr (L.take (2 * (i + 1))) = U ++ [L.getD I 0]) := HT
                obtain ⟨X, hX⟩ : ∃ X, L.getD I 0 = X := ⟨_, rfl⟩
                rw [hX] at hc1 HX HT
                have hc1' : wr.cell? (a.add I) = some (.int .u64 X) := cell_far HB6.out hc1
                have j1 : ¬ (I : Int) + 1 < n := by omega
                have j3 : (I : Int) < n := by omega
                have j4 : (0 : Int) ≤ I := by omega
                have HV : Hid (mine wB.heap.size ((wr.drewN 0).alloc (.cells #[.int .u64 X] 23)) (.slice p6 n6 c6) U) := mine_next HM6.out (Nat.le_refl _) 0 _
                have HBe : Hid (Below wB.heap.size wB ((wr.drewN 0).alloc (.cells #[.int .u64 X] 23))) := below_next HB6.out 0 _
                clear hX hI HT2 HT1 h2 hlt hi hIn HM6
                go_wp2_with (at_builtin; refine list_one _ rfl _ _ rfl wB.heap.size (.slice p6 n6 c6) U rfl HV.out ⟨_, 0, none⟩ 1 X rfl (new_one _ 0 _ _) (by have := HU.out; have := HU2.out; omega) HBe.out.size ?_)
                intro g cap w3 hm3 hgrow
                rw [HU.out] at hm3 ⊢
                have HE : Hid (mine wB.heap.size w3 (.slice (some ⟨g, 0, none⟩) (n6 + 1) cap) (U ++ [X]) ∧ Below wB.heap.size wB w3) := ⟨hm3, mine_grown HV.out HBe.out hgrow⟩
                clear hm3 hgrow hc1 hc1' HV HBe
                go_wp2_with fail
                go_roundw
                case rel => exact ⟨_, n6 + 1, cap, i + 1, rfl, val_int (by have := HI.out; omega), by have := HI.out; omega, by rw [HT.out]; exact HE.out.1, HE.out.2⟩
                case measure => have := HI.out; simp [intOf]; omega
            · have hT : L.take (2 * i) = L := List.take_of_length_le (by rw [HL2.out]; omega)
              rw [hT] at HM6
              have HLn : Hid ((up pr L).length = n6) := (mine_slice HM6.out).1
              have hn6 : n6 = (n + 1) / 2 := by rw [← HLn.out, up_length, HL2.out]
              have HE : Hid (mine w.heap.size wr (.slice p6 n6 c6) (up pr L) ∧ Below w.heap.size w wr) := ⟨mine_mono HM6.out HB.out.size, HB.out.trans (HB6.out.mono HB.out.size)⟩
              have HRu : Hid (rt pr (up pr L) = R) := by unfold Hid; rw [rt_up pr _ L rfl]; exact HRL.out
              clear hT HM6 HB6
              have j1 : ¬ ((2 * i : Nat) : Int) < n := by omega
              go_wp2_with fail
              go_roundw
              case rel => exact ⟨p6, n6, c6, rfl, by omega, up pr L, HLn.out, up_small HS2.out, HE.out.1, HRu.out, HE.out.2⟩
              case measure => simp [slen]; omega
        · have b1 : ¬ (1 : Int) < n := by omega
          rcases Nat.eq_zero_or_pos n with h0 | h0
          · subst h0
            have hR0 : R = 0 := by rw [← HRL.out, List.eq_nil_of_length_eq_zero HL2.out, rt_nil]
            subst hR0
            go_wp2_with fail
            go_ret
            exact ⟨rfl, HB.out⟩
          · obtain rfl : n = 1 := by omega
            obtain ⟨a, rfl, hc1⟩ := mine_row HM.out 0 (by omega)
            have hR0 : L.getD 0 0 = R := by rw [← HRL.out, rt_short pr (Nat.le_of_eq HL2.out)]
            rw [hR0] at hc1
            have e0 : a.add 0 = a := by unfold Addr.add; simp
            rw [e0] at hc1
            clear hR0 e0
            go_wp2_with fail
            go_ret
            exact ⟨rfl, HB.out⟩
end Go.Proofs.Yteedlbdjbffheaa
