/- What the document's own TextOrders returns: what order.Read does. -/
import Derived.Test.YtgebfpncapfaoaaOr3
namespace Go.Proofs.Ytgebfpncapfaoaa
open Go.RowKit
set_option linter.unusedVariables false
attribute [local go_sem ↓] Go.wp_at_zero Go.wp_at_succ

/-- What a round of TextOrders keeps. -/
def tinv (w : World) (l : List Ord) (k : Nat) (v : Value) (wr : World) : Prop :=
  Below w.heap.size w wr ∧ minef 25 6 to6 w.heap.size wr v (l.take k)
theorem nat_name (I j : Nat) (h : I + j ≤ 1000000) : ∃ J : Nat, I + j = J ∧ IntKind.i64.wrap ((I : Int) + (j : Int)) = (J : Int) := ⟨_, rfl, by rw [IntKind.wrap_i64]; omega⟩

set_option maxRecDepth 20000 in
set_option maxHeartbeats 4000000 in
theorem TextOrders_any (s : ByteArray) (w : World) (hs : s.size ≤ 140737488351236) :
    Calls Try.prog 12 #[.string s] w fun e w' => (∃ v, e = .returned (.tuple #[v, .int .i64 (rd s).2]) ∧ minef 25 6 to6 w.heap.size w' v (rd s).1) ∧ Below w.heap.size w w' := by
  by_cases h4 : s.size < 4
  · have HR : Hid (rd s = ([], 3)) := by unfold Hid rd; rw [if_pos h4]
    have HO : Hid (∀ V, Calls Try.prog 42 #[.string s] V fun e w' => e = .returned (.tuple #[.string ⟨#[]⟩, .int .i64 3]) ∧ Below V.heap.size V w') := fun V => cr.Opened_short s V h4
    rw [HR.out]
    clear h4 hs HR
    dsimp only
    go_enter Try.func12, Try.ntmps12
    go_wp2_with fail
    refine (HO.out _).mono ?_
    rintro e w1 ⟨rfl, hb1⟩
    go_wp2_with fail
    go_ret2
    exact ⟨⟨_, rfl, minef_nil _ _ _ _ _⟩, hb1⟩
  by_cases ht : cr.tl (cr.body s) = cr.foot s
  · have hbs : (cr.body s).size ≤ 9223372036854775806 := Nat.le_trans (cr.body_le s) (by omega)
    have HR : Hid (rd s = rdn (pk.ga (pk.bs (cr.body s)))) := by unfold Hid rd; rw [if_neg h4, if_pos ht]
    have HO : Hid (∀ V, Calls Try.prog 42 #[.string s] V fun e w' => e = .returned (.tuple #[.string (cr.body s), .int .i64 0]) ∧ Below V.heap.size V w') := fun V => cr.Opened_yes s V (by unfold maxLen; omega) (by omega) ht
    have HG : Hid (∀ V, Calls Try.prog 43 #[.string (cr.body s)] V fun e w' => ∃ v, e = .returned (.tuple #[v, .int .i64 (pk.ga (pk.bs (cr.body s))).2]) ∧ mine 3 vi V.heap.size w' v (pk.ga (pk.bs (cr.body s))).1 ∧ Below V.heap.size V w') := fun V => pk.UnpackedAll_any _ V (by omega)
    have HL := pk.ga_len (pk.bs (cr.body s))
    rw [HR.out]
    obtain ⟨R, hR⟩ : ∃ R, pk.ga (pk.bs (cr.body s)) = R := ⟨_, rfl⟩
    rw [hR] at HL ⊢
    simp only [hR] at HG
    obtain ⟨b, hb⟩ : ∃ b, cr.body s = b := ⟨_, rfl⟩
    simp only [hb] at HG HO
    clear h4 hs HR ht hR hb hbs
    obtain ⟨q, E⟩ := R
    dsimp only at HL HG
    by_cases hE : E = 0
    · subst hE
      obtain ⟨n, hn⟩ : ∃ n, q.length = n := ⟨_, rfl⟩
      rw [hn] at HL
      have HN : Hid (q.length = n) := hn
      by_cases h6 : n % 6 = 0
      · have HR2 : Hid (rdn (q, 0) = if oes (sixes q) = 0 then (sixes q, 0) else ([], oes (sixes q))) := by unfold Hid rdn; simp only [if_true]; rw [if_pos (by rw [hn]; exact h6)]
        have HSL : Hid ((sixes q).length = n / 6) := by unfold Hid; rw [sixes_len, hn]
        have HSA : Hid (∀ (i : Nat), i < (sixes q).length → ∃ o, (sixes q)[i]? = some o ∧ q[6 * i]? = some o.b ∧ q[6 * i + 1]? = some o.k ∧ q[6 * i + 2]? = some o.w ∧ q[6 * i + 3]? = some o.x ∧ q[6 * i + 4]? = some o.y ∧ q[6 * i + 5]? = some o.a) := sixes_get q
        rw [HR2.out]
        obtain ⟨l, hl⟩ : ∃ l, sixes q = l := ⟨_, rfl⟩
        simp only [hl] at HSL HSA ⊢
        have HC : Hid (∀ V p c, rowf to6 V p l → Calls Try.prog 17 #[.slice p (n / 6) c] V fun e w' => e = .returned (.int .i64 (oes l)) ∧ Below V.heap.size V w') := fun V p c h => OrdersRight_any p (n / 6) c l V h HSL.out (by omega)
        have HRS : Hid ((oes l = 0 → (if oes l = 0 then (l, (0 : Int)) else ([], oes l)) = (l, 0)) ∧ (¬ oes l = 0 → (if oes l = 0 then (l, (0 : Int)) else ([], oes l)) = ([], oes l))) := ⟨fun h => if_pos h, fun h => if_neg h⟩
        obtain ⟨R, hR⟩ : ∃ R, (if oes l = 0 then (l, (0 : Int)) else ([], oes l)) = R := ⟨_, rfl⟩
        rw [hR] at HRS ⊢
        obtain ⟨E, hE⟩ : ∃ E, oes l = E := ⟨_, rfl⟩
        simp only [hE] at HRS HC
        clear hR hE
        obtain ⟨R1, R2⟩ := R
        dsimp only
        have d1 : (n : Int) % 6 = 0 := by omega
        have d2 : (n : Int).tmod 6 = 0 := by rw [Int.tmod_eq_emod_of_nonneg (by omega)]; exact d1
        obtain ⟨m, hm⟩ : ∃ m, n / 6 = m := ⟨_, rfl⟩
        have HM : Hid (n = 6 * m) := by show n = 6 * m; omega
        rw [hm] at HSL HC
        have hm1 : m ≤ 166 := by omega
        clear HR2 hl hn h6 hm
        go_enter Try.func12, Try.ntmps12
        go_wp2_with fail
        refine (HO.out _).mono ?_
        rintro e w1 ⟨rfl, hb1⟩
        have HB1 : Hid (Below w.heap.size w w1) := hb1
        clear hb1 HO
        go_wp2_with fail
        refine (HG.out _).mono ?_
        rintro e w2 ⟨v, rfl, hv, hb2⟩
        have HB2 : Hid (Below w.heap.size w w2) := below_step HB1.out HB1.out.size hb2
        obtain ⟨p, c, rfl, hr, hc, hpc⟩ := mine_full hv
        rw [HN.out] at hc ⊢
        have H3 : Hid (tinv w2 l 0 (.slice none 0 0) w2) := ⟨Below.refl _ _, minef_nil _ _ _ _ _⟩
        have HRW : Hid (row vi w2 p q) := hr
        clear hb2 hv hr HG hpc HB1
        go_wp2_with fail
        go_loopw [6, 7] (fun v i wr => ∃ k : Nat, i = .int .i64 ((6 * k : Nat) : Int) ∧ k ≤ m ∧ tinv w2 l k v wr) (fun _ i _ => n - (intOf i).toNat)
        case atStart => exact ⟨0, rfl, by omega, H3.out⟩
        case round =>
          obtain ⟨k, rfl, hk, hi⟩ := hrel
          have HI : Hid (tinv w2 l k u6 wr) := hi
          clear H3 hi
          by_cases hlt : k < m
          · obtain ⟨o, ho, g0, g1, g2, g3, g4, g5⟩ := HSA.out k (by rw [HSL.out]; exact hlt)
            have hr := row_below HRW.out HI.out.1
            obtain ⟨a, rfl, y0⟩ := hr _ _ g0
            have cc : ∀ j x, q[j]? = some x → wr.cell? (a.add j) = some (.int .i64 x) := fun j x hj => by
              obtain ⟨a', ea, hc⟩ := hr _ _ hj
              cases ea; exact hc
            obtain ⟨I, hI⟩ : ∃ I, 6 * k = I := ⟨_, rfl⟩
            have hIm : I + 5 < n := by have := HM.out; omega
            have HIK : Hid (6 * k = I) := hI
            rw [hI] at y0 g1 g2 g3 g4 g5 ⊢
            obtain ⟨J1, e1, q1⟩ := nat_name I 1 (by omega)
            obtain ⟨J2, e2, q2⟩ := nat_name I 2 (by omega)
            obtain ⟨J3, e3, q3⟩ := nat_name I 3 (by omega)
            obtain ⟨J4, e4, q4⟩ := nat_name I 4 (by omega)
            obtain ⟨J5, e5, q5⟩ := nat_name I 5 (by omega)
            obtain ⟨J6, e6, q6⟩ := nat_name I 6 (by omega)
            rw [e1] at g1
            rw [e2] at g2
            rw [e3] at g3
            rw [e4] at g4
            rw [e5] at g5
            have y1 := cc _ _ g1
            have y2 := cc _ _ g2
            have y3 := cc _ _ g3
            have y4 := cc _ _ g4
            have y5 := cc _ _ g5
            have b0 : (I : Int) < n := by omega
            have b1 : (J1 : Int) < n := by omega
            have b2 : (J2 : Int) < n := by omega
            have b3 : (J3 : Int) < n := by omega
            have b4 : (J4 : Int) < n := by omega
            have b5 : (J5 : Int) < n := by omega
            have hJ6 : J6 = 6 * (k + 1) := by omega
            have HJ6 : Hid (J6 = 6 * (k + 1)) := hJ6
            have HO : Hid (l[k]? = some o) := ho
            obtain ⟨ob, ok, ow, ox, oy, oa⟩ := o
            dsimp only at y0 y1 y2 y3 y4 y5
            change wr.cell? (a.add I) = some (.int .i64 ob) at y0
            simp only [Int.natCast_one] at q1
            have q2 : IntKind.i64.wrap ((I : Int) + 2) = (J2 : Int) := q2
            have q3 : IntKind.i64.wrap ((I : Int) + 3) = (J3 : Int) := q3
            have q4 : IntKind.i64.wrap ((I : Int) + 4) = (J4 : Int) := q4
            have q5 : IntKind.i64.wrap ((I : Int) + 5) = (J5 : Int) := q5
            have q6 : IntKind.i64.wrap ((I : Int) + 6) = (J6 : Int) := q6
            have n0 := World.new_ne wr (a.add I) y0
            have n1 := World.new_ne wr (a.add J1) y1
            have n2 := World.new_ne wr (a.add J2) y2
            have n5 := World.new_ne wr (a.add J5) y5
            clear hr g0 g1 g2 g3 g4 g5 cc ho hI hIm hJ6 e1 e2 e3 e4 e5 e6
            go_wp2_with fail
            go_region_held3 (fun V => V.cell? (a.add I) = some (.int .i64 ob) ∧ V.cell? (a.add J1) = some (.int .i64 ok) ∧ V.cell? (a.add J2) = some (.int .i64 ow) ∧ V.cell? (a.add J5) = some (.int .i64 oa)) (go_keep) (fail)
            clear n0 n1 n2 n5 q1 q2 q5 b0 b1 b2 b5 y0 y1 y2 y5
            have hbw5 : Below wr.heap.size wr (World.drew (wr.alloc (.cells #[.int .i64 ob, .int .i64 ok, .int .i64 ow, .int .i64 0, .int .i64 0, .int .i64 oa] 25))) := (alloc_below wr _).drew
            obtain ⟨c0, c1, c2, c3, c4, c5⟩ := box6 (Below.refl _ (wr.alloc (.cells #[.int .i64 ob, .int .i64 ok, .int .i64 ow, .int .i64 0, .int .i64 0, .int .i64 oa] 25)))
            have f3 : (World.drew (wr.alloc (.cells #[.int .i64 ob, .int .i64 ok, .int .i64 ow, .int .i64 0, .int .i64 0, .int .i64 oa] 25))).frozen? ⟨wr.heap.size, 3, none⟩ = false := by simp [go_sem]
            have f4 : (World.drew (wr.alloc (.cells #[.int .i64 ob, .int .i64 ok, .int .i64 ow, .int .i64 0, .int .i64 0, .int .i64 oa] 25))).frozen? ⟨wr.heap.size, 4, none⟩ = false := by simp [go_sem]
            rw [← drew_cell] at c0 c1 c2 c3 c4 c5
            have y3 := (hbw5.cell (cell_lt y3)).trans y3
            have y4 := (hbw5.cell (cell_lt y4)).trans y4
            have ne3 : wr.heap.size ≠ (a.add J3).block := World.new_ne wr (a.add J3) (by assumption)
            have ne4 : wr.heap.size ≠ (a.add J4).block := World.new_ne wr (a.add J4) (by assumption)
            obtain ⟨w5, hw5⟩ : ∃ w5, World.drew (wr.alloc (.cells #[.int .i64 ob, .int .i64 ok, .int .i64 ow, .int .i64 0, .int .i64 0, .int .i64 oa] 25)) = w5 := ⟨_, rfl⟩
            rw [hw5] at hbw5 c0 c1 c2 c3 c4 c5 f3 f4 y3 y4 ⊢
            have HB5 : Hid (Below wr.heap.size wr w5) := hbw5
            obtain ⟨G, hG⟩ : ∃ G, wr.heap.size = G := ⟨_, rfl⟩
            have HG : Hid (wr.heap.size = G) := hG
            rw [hG] at c0 c1 c2 c3 c4 c5 f3 f4 ne3 ne4 ⊢
            clear hbw5 hw5 hG
            go_wp2_with fail
            go_region_held3 (fun V => V.cell? (a.add J3) = some (.int .i64 ox) ∧ V.cell? (a.add J4) = some (.int .i64 oy)) (go_keep) (fail)
            obtain ⟨w6, hw6⟩ : ∃ w6, World.drew ((w5.setCell ⟨G, 3, none⟩ (.int .i64 ox)).setCell ⟨G, 4, none⟩ (.int .i64 oy)) = w6 := ⟨_, rfl⟩
            have HB6 : Hid (Below wr.heap.size wr w6) := by rw [← hw6]; exact ((HB5.out.setCell (by rw [HG.out]; exact Nat.le_refl _) _).setCell (by rw [HG.out]; exact Nat.le_refl _) _).drew
            have z0 : w6.cell? ⟨G, 0, none⟩ = some (.int .i64 ob) := by rw [← hw6, drew_cell, World.cell?_setCell_other (h := by simp), World.cell?_setCell_other (h := by simp)]; exact c0
            have z1 : w6.cell? ⟨G, 1, none⟩ = some (.int .i64 ok) := by rw [← hw6, drew_cell, World.cell?_setCell_other (h := by simp), World.cell?_setCell_other (h := by simp)]; exact c1
            have z2 : w6.cell? ⟨G, 2, none⟩ = some (.int .i64 ow) := by rw [← hw6, drew_cell, World.cell?_setCell_other (h := by simp), World.cell?_setCell_other (h := by simp)]; exact c2
            have z3 : w6.cell? ⟨G, 3, none⟩ = some (.int .i64 ox) := by rw [← hw6, drew_cell, World.cell?_setCell_other (h := by simp), World.cell?_setCell_same (h := c3)]
            have z4 : w6.cell? ⟨G, 4, none⟩ = some (.int .i64 oy) := by
              rw [← hw6, drew_cell]
              have h4 : (w5.setCell ⟨G, 3, none⟩ (.int .i64 ox)).cell? ⟨G, 4, none⟩ = some (.int .i64 0) := by rw [World.cell?_setCell_other (h := by simp)]; exact c4
              rw [World.cell?_setCell_same (h := h4)]
            have z5 : w6.cell? ⟨G, 5, none⟩ = some (.int .i64 oa) := by rw [← hw6, drew_cell, World.cell?_setCell_other (h := by simp), World.cell?_setCell_other (h := by simp)]; exact c5
            rw [hw6]
            clear hw6 c0 c1 c2 c3 c4 c5 f3 f4 y3 y4 ne3 ne4
            have hal := alloc_below w6 (.cells #[.int .i64 ob, .int .i64 ok, .int .i64 ow, .int .i64 ox, .int .i64 oy, .int .i64 oa] 25)
            have hb68 : Below wr.heap.size wr (w6.alloc (.cells #[.int .i64 ob, .int .i64 ok, .int .i64 ow, .int .i64 ox, .int .i64 oy, .int .i64 oa] 25)) := HB6.out.trans (hal.mono HB6.out.size)
            have H8 : Hid (tinv w2 l k u6 (w6.alloc (.cells #[.int .i64 ob, .int .i64 ok, .int .i64 ow, .int .i64 ox, .int .i64 oy, .int .i64 oa] 25))) := ⟨below_step HI.out.1 HI.out.1.size hb68, minef_below HI.out.2 hb68⟩
            have HX : Hid (∀ j u, (to6 ⟨ob, ok, ow, ox, oy, oa⟩)[j]? = some u → (w6.alloc (.cells #[.int .i64 ob, .int .i64 ok, .int .i64 ow, .int .i64 ox, .int .i64 oy, .int .i64 oa] 25)).cell? ((⟨w6.heap.size, 0, none⟩ : Addr).add j) = some u) := fun j u hj => by
              rw [add_zero_at, World.cell?_alloc_mark]
              unfold to6 at hj
              simpa using hj
            clear hal hb68
            have hkl : k < l.length := by rw [HSL.out]; exact hlt
            have HLK : Hid ((l.take k).length = k) := by unfold Hid; rw [List.length_take, Nat.min_eq_left (by omega)]
            have HNX : Hid (l.take k ++ [⟨ob, ok, ow, ox, oy, oa⟩] = l.take (k + 1)) := by
              unfold Hid
              rw [List.take_succ_eq_append_getElem hkl]
              have := HO.out
              rw [List.getElem?_eq_getElem hkl] at this
              rw [Option.some.inj this]
            clear hkl
            obtain ⟨Q, hQ⟩ : ∃ Q, l.take k = Q := ⟨_, rfl⟩
            have H8Q : Hid (minef 25 6 to6 w2.heap.size (w6.alloc (.cells #[.int .i64 ob, .int .i64 ok, .int .i64 ow, .int .i64 ox, .int .i64 oy, .int .i64 oa] 25)) u6 Q) := by have := H8.out.2; rw [hQ] at this; exact this
            rw [hQ] at HLK HNX
            clear hQ
            go_wp2_with (at_builtin; refine list_onef k6 _ rfl _ _ rfl w2.heap.size u6 Q rfl H8Q.out ⟨_, 0, none⟩ 1 _ rfl HX.out (by rw [HLK.out]; omega) H8.out.1.size ?_)
            rw [HLK.out]
            intro g cap w9 m1 m2
            have H9 : Hid (tinv w2 l (k + 1) (.slice (some ⟨g, 0, none⟩) (k + 1) cap) w9) := by
              refine ⟨minef_grown H8Q.out H8.out.1 H8.out.1.size m2, ?_⟩
              rw [← HNX.out]; unfold minef; rw [List.length_append, HLK.out]; unfold minef at m1; rw [List.length_append, HLK.out] at m1; exact m1
            clear m1 m2
            go_wp2_with fail
            go_roundw
            case rel => exact ⟨k + 1, by rw [HJ6.out], by omega, H9.out⟩
            case measure => have := HM.out; have := HJ6.out; have := HIK.out; simp [intOf]; omega
          · obtain rfl : k = m := by omega
            have HK6 : Hid (n = 6 * k) := HM
            have hkn : ((6 * k : Nat) : Int) = (n : Int) := by have := HM.out; omega
            obtain ⟨p', c', rfl, hrl⟩ := minef_form flt6 (m := k) HI.out.2 (by rw [List.length_take, HSL.out, Nat.min_self])
            have HFM : Hid (minef 25 6 to6 w.heap.size wr (.slice p' k c') l) := by
              have := HI.out.2
              rw [List.take_of_length_le (by rw [HSL.out]; exact Nat.le_refl _)] at this
              exact minef_mono this HB2.out.size
            have HRL : Hid (rowf to6 wr p' l) := by
              rw [List.take_of_length_le (by rw [HSL.out]; exact Nat.le_refl _)] at hrl; exact hrl
            have HBL : Hid (Below w.heap.size w wr) := HB2.out.trans (HI.out.1.mono HB2.out.size)
            rw [hkn]
            clear HI hrl hkn
            go_wp2_with fail
            refine (HC.out _ _ _ HRL.out).mono ?_
            rintro e w4 ⟨rfl, hb4⟩
            have HB4 : Hid (Below w.heap.size w w4 ∧ minef 25 6 to6 w.heap.size w4 (.slice p' k c') l) := ⟨below_step HBL.out HBL.out.size hb4, minef_below HFM.out hb4⟩
            clear hb4 HFM HRL HBL
            by_cases hz : E = 0
            · have HE := HRS.out.1 hz
              have HE : Hid (R1 = l ∧ R2 = 0) := ⟨congrArg Prod.fst HE, congrArg Prod.snd HE⟩
              subst hz
              go_wp2_with fail
              go_ret2
              exact ⟨⟨_, ret_vi HE.out.2.symm, by rw [HE.out.1]; exact HB4.out.2⟩, HB4.out.1⟩
            · have HE := HRS.out.2 hz
              have HE : Hid (R1 = [] ∧ R2 = E) := ⟨congrArg Prod.fst HE, congrArg Prod.snd HE⟩
              go_wp2_with fail
              go_ret2
              exact ⟨⟨_, ret_vi HE.out.2.symm, by rw [HE.out.1]; exact minef_nil _ _ _ _ _⟩, HB4.out.1⟩
      · have HR2 : Hid (rdn (q, 0) = ([], 4)) := by unfold Hid rdn; simp only [if_true]; rw [if_neg (by rw [hn]; exact h6)]
        have d1 : (0 : Int) < (n : Int) % 6 := by omega
        have d2 : (n : Int).tmod 6 = (n : Int) % 6 := Int.tmod_eq_emod_of_nonneg (by omega)
        have d3 : IntKind.i64.wrap ((n : Int) % 6) = (n : Int) % 6 := by rw [IntKind.wrap_i64]; omega
        rw [HR2.out]
        clear hn h6
        dsimp only
        go_enter Try.func12, Try.ntmps12
        go_wp2_with fail
        refine (HO.out _).mono ?_
        rintro e w1 ⟨rfl, hb1⟩
        have HB1 : Hid (Below w.heap.size w w1) := hb1
        clear hb1 HO
        go_wp2_with fail
        refine (HG.out _).mono ?_
        rintro e w2 ⟨v, rfl, hv, hb2⟩
        have HB2 : Hid (Below w.heap.size w w2) := below_step HB1.out HB1.out.size hb2
        obtain ⟨p, c, rfl, _, _, _⟩ := mine_full hv
        rw [HN.out]
        clear hb2 hv HG
        go_wp2_with fail
        go_ret2
        exact ⟨⟨_, rfl, minef_nil _ _ _ _ _⟩, HB2.out⟩
    · have HR2 : Hid (rdn (q, E) = ([], (E : Int))) := by unfold Hid rdn; rw [if_neg (by simpa using hE)]
      have hE1 : ¬ (E : Int) = 0 := by omega
      rw [HR2.out]
      dsimp only
      clear hE
      go_enter Try.func12, Try.ntmps12
      go_wp2_with fail
      refine (HO.out _).mono ?_
      rintro e w1 ⟨rfl, hb1⟩
      have HB1 : Hid (Below w.heap.size w w1) := hb1
      clear hb1 HO
      go_wp2_with fail
      refine (HG.out _).mono ?_
      rintro e w2 ⟨v, rfl, hv, hb2⟩
      have HB2 : Hid (Below w.heap.size w w2) := below_step HB1.out HB1.out.size hb2
      clear hb2 hv HG
      go_wp2_with fail
      go_ret2
      exact ⟨⟨_, rfl, minef_nil _ _ _ _ _⟩, HB2.out⟩
  · have HR : Hid (rd s = ([], 5)) := by unfold Hid rd; rw [if_neg h4, if_neg ht]
    have HO : Hid (∀ V, Calls Try.prog 42 #[.string s] V fun e w' => e = .returned (.tuple #[.string ⟨#[]⟩, .int .i64 5]) ∧ Below V.heap.size V w') := fun V => cr.Opened_no s V (by unfold maxLen; omega) (by omega) ht
    rw [HR.out]
    clear h4 hs HR ht
    dsimp only
    go_enter Try.func12, Try.ntmps12
    go_wp2_with fail
    refine (HO.out _).mono ?_
    rintro e w1 ⟨rfl, hb1⟩
    go_wp2_with fail
    go_ret2
    exact ⟨⟨_, rfl, minef_nil _ _ _ _ _⟩, hb1⟩
end Go.Proofs.Ytgebfpncapfaoaa
