/- What the document's own OrderBlows, OrderGoes and OrderDeeds return: those of a kind. -/
import Derived.Test.YtgebfpncapfaoaaAl
import Derived.Test.YtgebfpncapfaoaaOs
namespace Go.Proofs.Ytgebfpncapfaoaa
open Go.RowKit
set_option linter.unusedVariables false

/-- A row stays where a block behind it is written. -/
theorem minef_below5 {α : Type} {E n : Nat} {f : α → List Value} {B D : Nat} {w5 w6 w7 : World} {v : Value} {Q : List α} (h : minef E n f B w5 v Q) (hD : w5.heap.size = D) (hb : Below w5.heap.size w5 w6) (hx : Ex (fun k => k = D) w6 w7) : minef E n f B w7 v Q :=
  minef_below h (hb.trans (hx.below hb.size (fun k hk e => by omega)))

set_option maxRecDepth 20000 in
set_option maxHeartbeats 8000000 in
theorem OrderBlows_any (p : Option Addr) (n c : Nat) (l : List Ord) (s : Wld) (w : World) (hr : rowf to6 w p l) (hn : l.length = n) (hz : oes l = 0) (h : s.fit w) :
    Calls Try.prog 20 #[.slice p n c, s.val] w fun e w' => (∃ v, e = .returned v ∧ minef 51 2 to2 w.heap.size w' v (spb (l.filter (alw (fown s.lt) s.nb)))) ∧ Below w.heap.size w w' := by
  have HR : Hid (∀ V, Below w.heap.size w V → rowf to6 V p l) := fun V hV => rowf_below hr hV
  have HN : Hid (l.length = n) := hn
  have HA : Hid (∀ X V, Below w.heap.size w V → Calls Try.prog 53 #[ov X, s.val] V fun e w' => e = .returned (.bool (alw (fown s.lt) s.nb X)) ∧ Below V.heap.size V w') := fun X V hV => Allowed_any X s V (Wld.fit_below h hV)
  have HLO : Hid (∀ o ∈ l, oe o = 0) := (oes_zero hz).2
  have hm : n ≤ 100 := by rw [← hn]; exact (oes_zero hz).1
  obtain ⟨P, hP⟩ : ∃ P, alw (fown s.lt) s.nb = P := ⟨_, rfl⟩
  simp only [hP] at HA ⊢
  rw [show spb (l.filter P) = (l.filter (fun a => isb a && P a)).map blw by unfold spb; rw [List.filter_filter]]
  obtain ⟨P1, hP1⟩ : ∃ P1 : Ord → Bool, (fun a => isb a && P a) = P1 := ⟨_, rfl⟩
  have HP1 : Hid (∀ X, P1 X = (isb X && P X)) := fun X => by rw [← hP1]
  rw [hP1]
  clear hP hP1 hr hn hz h
  obtain ⟨A, B, pf, nf, cf, lf, pb, nb, cb, lb, ps, ns, cs, ls, pm, nm, cm, lm, pt, nt, ct, lt, N, T⟩ := s
  unfold Wld.val at *
  dsimp only at *
  obtain ⟨F, hF⟩ : ∃ F, w.heap.size = F := ⟨_, rfl⟩
  obtain ⟨w0, hw0⟩ : ∃ w0, w.alloc (.cells #[.int .i64 A, .int .i64 B, .slice pf nf cf, .slice pb nb cb, .slice ps ns cs, .slice pm nm cm, .slice pt nt ct, .int .i64 N, .int .i64 T] 41) = w0 := ⟨_, rfl⟩
  have HBX : Hid (∀ V, Below w0.heap.size w0 V → c9 V F (.int .i64 A) (.int .i64 B) (.slice pf nf cf) (.slice pb nb cb) (.slice ps ns cs) (.slice pm nm cm) (.slice pt nt ct) (.int .i64 N) (.int .i64 T)) := fun V hV => boxw hF hw0 hV
  have HB0 : Hid (Below w.heap.size w w0) := by rw [← hw0]; exact alloc_below _ _
  have HUP : Hid (∀ V, Below w0.heap.size w0 V → Below w.heap.size w V) := fun V hV => below_step HB0.out HB0.out.size hV
  go_enter Try.func20, Try.ntmps20
  go_wp2_with fail
  clear hw0 hF
  go_loopw [5, 10] (fun v i wr => ∃ q : Nat, i = .int .i64 (q : Int) ∧ q ≤ n ∧ Hid (Below w0.heap.size w0 wr ∧ minef 51 2 to2 w0.heap.size wr v (((l.take q).filter P1).map blw))) (fun _ i _ => n - (intOf i).toNat)
  case atStart => exact ⟨0, rfl, by omega, Below.refl _ _, minef_nil _ _ _ _ _⟩
  case round =>
    obtain ⟨q, rfl, hq, HI⟩ := hrel
    by_cases hqt : q < n
    · have hql : q < l.length := by rw [HN.out]; exact hqt
      obtain ⟨a, rfl, ha⟩ := oat (HR.out _ (HUP.out _ HI.out.1)) hql
      have hsn := sp_snoc P1 blw l hql
      have hoe := HLO.out _ (List.getElem_mem hql)
      obtain ⟨X, hX⟩ : ∃ X, l[q] = X := ⟨_, rfl⟩
      rw [hX] at ha hsn hoe
      have HQL : Hid ((((l.take q).filter P1).map blw).length ≤ 1000000) := by
        have h1 := sp_len P1 blw l q
        have h2 := HN.out
        show _ ≤ _
        omega
      obtain ⟨bb, hbb⟩ : ∃ bb, P X = bb := ⟨_, rfl⟩
      have hpx := HP1.out X
      rw [hbb] at hpx
      have HAX : Hid (∀ V, Below w.heap.size w V → Calls Try.prog 53 #[ov X, .agg #[.int .i64 A, .int .i64 B, .slice pf nf cf, .slice pb nb cb, .slice ps ns cs, .slice pm nm cm, .slice pt nt ct, .int .i64 N, .int .i64 T]] V fun e w' => e = .returned (.bool bb) ∧ Below V.heap.size V w') := by
        have h1 := HA.out X
        rw [hbb] at h1
        exact h1
      rw [hpx] at hsn
      obtain ⟨Q, hQ⟩ : ∃ Q, ((l.take q).filter P1).map blw = Q := ⟨_, rfl⟩
      obtain ⟨Q', hQ'⟩ : ∃ Q', ((l.take (q + 1)).filter P1).map blw = Q' := ⟨_, rfl⟩
      have HQ' : Hid (((l.take (q + 1)).filter P1).map blw = Q') := hQ'
      rw [hQ] at HI HQL hsn
      rw [hQ'] at hsn
      have h0 := oe_zero hoe
      have hk := (wn_nums h0.1).2.1
      have hnd := h0.2
      obtain ⟨ob, ok, ow, ox, oy, oa⟩ := X
      obtain ⟨z0, z1, z2, z3, z4, z5⟩ := ha
      unfold ov at HAX
      dsimp only at z0 z1 z2 z3 z4 z5 hk HAX
      obtain ⟨w4, hw4⟩ : ∃ w4, wr.alloc (.cells #[.int .i64 ob, .int .i64 ok, .int .i64 ow, .int .i64 ox, .int .i64 oy, .int .i64 oa] 25) = w4 := ⟨_, rfl⟩
      have hb4 : Below wr.heap.size wr w4 := by rw [← hw4]; exact alloc_below _ _
      have HB4 : Hid (Below w0.heap.size w0 w4) := below_step HI.out.1 HI.out.1.size hb4
      have HM4 : Hid (minef 51 2 to2 w0.heap.size w4 u5 Q) := minef_below HI.out.2 hb4
      obtain ⟨G, hG⟩ : ∃ G, wr.heap.size = G := ⟨_, rfl⟩
      have HBO : Hid (∀ V, Below w4.heap.size w4 V → V.cell? ⟨G, 0, none⟩ = some (.int .i64 ob) ∧ V.cell? ⟨G, 1, none⟩ = some (.int .i64 ok) ∧ V.cell? ⟨G, 2, none⟩ = some (.int .i64 ow) ∧ V.cell? ⟨G, 3, none⟩ = some (.int .i64 ox) ∧ V.cell? ⟨G, 4, none⟩ = some (.int .i64 oy) ∧ V.cell? ⟨G, 5, none⟩ = some (.int .i64 oa)) := fun V hV => by
        rw [← hw4] at hV
        rw [← hG]
        exact box6 hV
      have l1 : (q : Int) < n := by omega
      have l2 : (0 : Int) ≤ q := by omega
      clear hX hoe hb4 hql HI hbb hpx hQ hQ' HA
      by_cases hk1 : ok = 1
      · subst hk1
        clear hnd h0
        obtain ⟨g0, g1, g2, g3, g4, g5⟩ := HBO.out w4 (Below.refl _ _)
        obtain ⟨y0, y1, y2, y3, y4, y5, y6, y7, y8⟩ := HBX.out w4 HB4.out
        go_wp2_with fail
        refine (HAX.out w4 (HUP.out w4 HB4.out)).mono ?_
        rintro e w5 ⟨rfl, hb5⟩
        have HB5 : Hid (Below w0.heap.size w0 w5) := below_step HB4.out HB4.out.size hb5
        have HM5 : Hid (minef 51 2 to2 w0.heap.size w5 u5 Q) := minef_below HM4.out hb5
        clear g0 g1 g2 g3 g4 g5 y0 y1 y2 y3 y4 y5 y6 y7 y8
        obtain ⟨g0, g1, g2, g3, g4, g5⟩ := HBO.out w5 hb5
        cases bb with
        | false =>
          have HSN : Hid (Q' = Q) := by
            have h1 := hsn
            simp [isb] at h1
            exact h1
          clear hsn hb5
          go_wp2_with fail
          go_roundw
          case rel => exact ⟨q + 1, by go_num, by omega, HB5.out, by rw [HQ'.out, HSN.out]; exact HM5.out⟩
          case measure => simp [intOf]; omega
        | true =>
          have HSN : Hid (Q' = Q ++ [blw ⟨ob, 1, ow, ox, oy, oa⟩]) := by
            have h1 := hsn
            simp [isb] at h1
            exact h1
          clear hsn hb5
          have H8 : Hid (minef 51 2 to2 w0.heap.size (w5.alloc (.cells #[.int .i64 ow, .int .i64 oa] 51)) u5 Q ∧ Below w0.heap.size w0 (w5.alloc (.cells #[.int .i64 ow, .int .i64 oa] 51))) := ⟨minef_below HM5.out (alloc_below _ _), below_step HB5.out HB5.out.size (alloc_below _ _)⟩
          have HX : Hid (∀ j u, (to2 (blw ⟨ob, 1, ow, ox, oy, oa⟩))[j]? = some u → (w5.alloc (.cells #[.int .i64 ow, .int .i64 oa] 51)).cell? ((⟨w5.heap.size, 0, none⟩ : Addr).add j) = some u) := fun j u hj => by
            rw [add_zero_at, World.cell?_alloc_mark]
            unfold to2 blw at hj
            simpa using hj
          go_wp2_with (at_builtin; refine list_onef k2 _ rfl _ _ rfl w0.heap.size u5 Q rfl H8.out.1 ⟨_, 0, none⟩ 1 _ rfl HX.out HQL.out H8.out.2.size ?_)
          intro g cap w9 m1 m2
          have H9 : Hid (Below w0.heap.size w0 w9 ∧ minef 51 2 to2 w0.heap.size w9 (.slice (some ⟨g, 0, none⟩) (Q.length + 1) cap) Q') := ⟨minef_grown H8.out.1 H8.out.2 H8.out.2.size m2, by rw [HSN.out]; exact m1⟩
          clear m1 m2
          go_wp2_with fail
          go_roundw
          case rel => exact ⟨q + 1, by go_num, by omega, H9.out.1, by rw [HQ'.out]; exact H9.out.2⟩
          case measure => simp [intOf]; omega
      · have HSN : Hid (Q' = Q) := by
          have h1 := hsn
          have e1 : isb ⟨ob, ok, ow, ox, oy, oa⟩ = false := decide_eq_false hk1
          rw [e1, Bool.false_and, if_neg (by decide), List.append_nil] at h1
          exact h1
        clear hsn hnd h0
        obtain ⟨g0, g1, g2, g3, g4, g5⟩ := HBO.out w4 (Below.refl _ _)
        go_wp2_with fail
        go_roundw
        case rel => exact ⟨q + 1, by go_num, by omega, HB4.out, by rw [HQ'.out, HSN.out]; exact HM4.out⟩
        case measure => simp [intOf]; omega
    · obtain rfl : q = n := by omega
      have HE : Hid (minef 51 2 to2 w.heap.size wr u5 ((l.filter P1).map blw) ∧ Below w.heap.size w wr) := by
        have h1 := HI.out.2
        rw [List.take_of_length_le (by rw [HN.out]; exact Nat.le_refl _)] at h1
        exact ⟨minef_mono h1 HB0.out.size, HUP.out _ HI.out.1⟩
      go_wp2_with fail
      go_ret
      exact ⟨⟨_, rfl, HE.out.1⟩, HE.out.2⟩

set_option maxRecDepth 20000 in
set_option maxHeartbeats 8000000 in
theorem OrderGoes_any (p : Option Addr) (n c : Nat) (l : List Ord) (s : Wld) (w : World) (hr : rowf to6 w p l) (hn : l.length = n) (hz : oes l = 0) (h : s.fit w) :
    Calls Try.prog 22 #[.slice p n c, s.val] w fun e w' => (∃ v, e = .returned v ∧ minef 55 3 to3 w.heap.size w' v (spg (l.filter (alw (fown s.lt) s.nb)))) ∧ Below w.heap.size w w' := by
  have HR : Hid (∀ V, Below w.heap.size w V → rowf to6 V p l) := fun V hV => rowf_below hr hV
  have HN : Hid (l.length = n) := hn
  have HA : Hid (∀ X V, Below w.heap.size w V → Calls Try.prog 53 #[ov X, s.val] V fun e w' => e = .returned (.bool (alw (fown s.lt) s.nb X)) ∧ Below V.heap.size V w') := fun X V hV => Allowed_any X s V (Wld.fit_below h hV)
  have HLO : Hid (∀ o ∈ l, oe o = 0) := (oes_zero hz).2
  have hm : n ≤ 100 := by rw [← hn]; exact (oes_zero hz).1
  obtain ⟨P, hP⟩ : ∃ P, alw (fown s.lt) s.nb = P := ⟨_, rfl⟩
  simp only [hP] at HA ⊢
  rw [show spg (l.filter P) = (l.filter (fun a => isg a && P a)).map goe by unfold spg; rw [List.filter_filter]]
  obtain ⟨P1, hP1⟩ : ∃ P1 : Ord → Bool, (fun a => isg a && P a) = P1 := ⟨_, rfl⟩
  have HP1 : Hid (∀ X, P1 X = (isg X && P X)) := fun X => by rw [← hP1]
  rw [hP1]
  clear hP hP1 hr hn hz h
  obtain ⟨A, B, pf, nf, cf, lf, pb, nb, cb, lb, ps, ns, cs, ls, pm, nm, cm, lm, pt, nt, ct, lt, N, T⟩ := s
  unfold Wld.val at *
  dsimp only at *
  obtain ⟨F, hF⟩ : ∃ F, w.heap.size = F := ⟨_, rfl⟩
  obtain ⟨w0, hw0⟩ : ∃ w0, w.alloc (.cells #[.int .i64 A, .int .i64 B, .slice pf nf cf, .slice pb nb cb, .slice ps ns cs, .slice pm nm cm, .slice pt nt ct, .int .i64 N, .int .i64 T] 41) = w0 := ⟨_, rfl⟩
  have HBX : Hid (∀ V, Below w0.heap.size w0 V → c9 V F (.int .i64 A) (.int .i64 B) (.slice pf nf cf) (.slice pb nb cb) (.slice ps ns cs) (.slice pm nm cm) (.slice pt nt ct) (.int .i64 N) (.int .i64 T)) := fun V hV => boxw hF hw0 hV
  have HB0 : Hid (Below w.heap.size w w0) := by rw [← hw0]; exact alloc_below _ _
  have HUP : Hid (∀ V, Below w0.heap.size w0 V → Below w.heap.size w V) := fun V hV => below_step HB0.out HB0.out.size hV
  go_enter Try.func22, Try.ntmps22
  go_wp2_with fail
  clear hw0 hF
  go_loopw [5, 10] (fun v i wr => ∃ q : Nat, i = .int .i64 (q : Int) ∧ q ≤ n ∧ Hid (Below w0.heap.size w0 wr ∧ minef 55 3 to3 w0.heap.size wr v (((l.take q).filter P1).map goe))) (fun _ i _ => n - (intOf i).toNat)
  case atStart => exact ⟨0, rfl, by omega, Below.refl _ _, minef_nil _ _ _ _ _⟩
  case round =>
    obtain ⟨q, rfl, hq, HI⟩ := hrel
    by_cases hqt : q < n
    · have hql : q < l.length := by rw [HN.out]; exact hqt
      obtain ⟨a, rfl, ha⟩ := oat (HR.out _ (HUP.out _ HI.out.1)) hql
      have hsn := sp_snoc P1 goe l hql
      have hoe := HLO.out _ (List.getElem_mem hql)
      obtain ⟨X, hX⟩ : ∃ X, l[q] = X := ⟨_, rfl⟩
      rw [hX] at ha hsn hoe
      have HQL : Hid ((((l.take q).filter P1).map goe).length ≤ 1000000) := by
        have h1 := sp_len P1 goe l q
        have h2 := HN.out
        show _ ≤ _
        omega
      obtain ⟨bb, hbb⟩ : ∃ bb, P X = bb := ⟨_, rfl⟩
      have hpx := HP1.out X
      rw [hbb] at hpx
      have HAX : Hid (∀ V, Below w.heap.size w V → Calls Try.prog 53 #[ov X, .agg #[.int .i64 A, .int .i64 B, .slice pf nf cf, .slice pb nb cb, .slice ps ns cs, .slice pm nm cm, .slice pt nt ct, .int .i64 N, .int .i64 T]] V fun e w' => e = .returned (.bool bb) ∧ Below V.heap.size V w') := by
        have h1 := HA.out X
        rw [hbb] at h1
        exact h1
      rw [hpx] at hsn
      obtain ⟨Q, hQ⟩ : ∃ Q, ((l.take q).filter P1).map goe = Q := ⟨_, rfl⟩
      obtain ⟨Q', hQ'⟩ : ∃ Q', ((l.take (q + 1)).filter P1).map goe = Q' := ⟨_, rfl⟩
      have HQ' : Hid (((l.take (q + 1)).filter P1).map goe = Q') := hQ'
      rw [hQ] at HI HQL hsn
      rw [hQ'] at hsn
      have h0 := oe_zero hoe
      have hk := (wn_nums h0.1).2.1
      have hnd := h0.2
      obtain ⟨ob, ok, ow, ox, oy, oa⟩ := X
      obtain ⟨z0, z1, z2, z3, z4, z5⟩ := ha
      unfold ov at HAX
      dsimp only at z0 z1 z2 z3 z4 z5 hk HAX
      obtain ⟨w4, hw4⟩ : ∃ w4, wr.alloc (.cells #[.int .i64 ob, .int .i64 ok, .int .i64 ow, .int .i64 ox, .int .i64 oy, .int .i64 oa] 25) = w4 := ⟨_, rfl⟩
      have hb4 : Below wr.heap.size wr w4 := by rw [← hw4]; exact alloc_below _ _
      have HB4 : Hid (Below w0.heap.size w0 w4) := below_step HI.out.1 HI.out.1.size hb4
      have HM4 : Hid (minef 55 3 to3 w0.heap.size w4 u5 Q) := minef_below HI.out.2 hb4
      obtain ⟨G, hG⟩ : ∃ G, wr.heap.size = G := ⟨_, rfl⟩
      have HBO : Hid (∀ V, Below w4.heap.size w4 V → V.cell? ⟨G, 0, none⟩ = some (.int .i64 ob) ∧ V.cell? ⟨G, 1, none⟩ = some (.int .i64 ok) ∧ V.cell? ⟨G, 2, none⟩ = some (.int .i64 ow) ∧ V.cell? ⟨G, 3, none⟩ = some (.int .i64 ox) ∧ V.cell? ⟨G, 4, none⟩ = some (.int .i64 oy) ∧ V.cell? ⟨G, 5, none⟩ = some (.int .i64 oa)) := fun V hV => by
        rw [← hw4] at hV
        rw [← hG]
        exact box6 hV
      have l1 : (q : Int) < n := by omega
      have l2 : (0 : Int) ≤ q := by omega
      clear hX hoe hb4 hql HI hbb hpx hQ hQ' HA
      by_cases hk1 : ok = 2
      · subst hk1
        clear hnd h0
        obtain ⟨g0, g1, g2, g3, g4, g5⟩ := HBO.out w4 (Below.refl _ _)
        obtain ⟨y0, y1, y2, y3, y4, y5, y6, y7, y8⟩ := HBX.out w4 HB4.out
        go_wp2_with fail
        refine (HAX.out w4 (HUP.out w4 HB4.out)).mono ?_
        rintro e w5 ⟨rfl, hb5⟩
        have HB5 : Hid (Below w0.heap.size w0 w5) := below_step HB4.out HB4.out.size hb5
        have HM5 : Hid (minef 55 3 to3 w0.heap.size w5 u5 Q) := minef_below HM4.out hb5
        clear g0 g1 g2 g3 g4 g5 y0 y1 y2 y3 y4 y5 y6 y7 y8
        obtain ⟨g0, g1, g2, g3, g4, g5⟩ := HBO.out w5 hb5
        cases bb with
        | false =>
          have HSN : Hid (Q' = Q) := by
            have h1 := hsn
            simp [isg] at h1
            exact h1
          clear hsn hb5
          go_wp2_with fail
          go_roundw
          case rel => exact ⟨q + 1, by go_num, by omega, HB5.out, by rw [HQ'.out, HSN.out]; exact HM5.out⟩
          case measure => simp [intOf]; omega
        | true =>
          have HSN : Hid (Q' = Q ++ [goe ⟨ob, 2, ow, ox, oy, oa⟩]) := by
            have h1 := hsn
            simp [isg] at h1
            exact h1
          clear hsn hb5
          have H8 : Hid (minef 55 3 to3 w0.heap.size (w5.alloc (.cells #[.int .i64 ow, .int .i64 ox, .int .i64 oy] 55)) u5 Q ∧ Below w0.heap.size w0 (w5.alloc (.cells #[.int .i64 ow, .int .i64 ox, .int .i64 oy] 55))) := ⟨minef_below HM5.out (alloc_below _ _), below_step HB5.out HB5.out.size (alloc_below _ _)⟩
          have HX : Hid (∀ j u, (to3 (goe ⟨ob, 2, ow, ox, oy, oa⟩))[j]? = some u → (w5.alloc (.cells #[.int .i64 ow, .int .i64 ox, .int .i64 oy] 55)).cell? ((⟨w5.heap.size, 0, none⟩ : Addr).add j) = some u) := fun j u hj => by
            rw [add_zero_at, World.cell?_alloc_mark]
            unfold to3 goe at hj
            simpa using hj
          go_wp2_with (at_builtin; refine list_onef k3 _ rfl _ _ rfl w0.heap.size u5 Q rfl H8.out.1 ⟨_, 0, none⟩ 1 _ rfl HX.out HQL.out H8.out.2.size ?_)
          intro g cap w9 m1 m2
          have H9 : Hid (Below w0.heap.size w0 w9 ∧ minef 55 3 to3 w0.heap.size w9 (.slice (some ⟨g, 0, none⟩) (Q.length + 1) cap) Q') := ⟨minef_grown H8.out.1 H8.out.2 H8.out.2.size m2, by rw [HSN.out]; exact m1⟩
          clear m1 m2
          go_wp2_with fail
          go_roundw
          case rel => exact ⟨q + 1, by go_num, by omega, H9.out.1, by rw [HQ'.out]; exact H9.out.2⟩
          case measure => simp [intOf]; omega
      · have HSN : Hid (Q' = Q) := by
          have h1 := hsn
          have e1 : isg ⟨ob, ok, ow, ox, oy, oa⟩ = false := decide_eq_false hk1
          rw [e1, Bool.false_and, if_neg (by decide), List.append_nil] at h1
          exact h1
        clear hsn hnd h0
        obtain ⟨g0, g1, g2, g3, g4, g5⟩ := HBO.out w4 (Below.refl _ _)
        go_wp2_with fail
        go_roundw
        case rel => exact ⟨q + 1, by go_num, by omega, HB4.out, by rw [HQ'.out, HSN.out]; exact HM4.out⟩
        case measure => simp [intOf]; omega
    · obtain rfl : q = n := by omega
      have HE : Hid (minef 55 3 to3 w.heap.size wr u5 ((l.filter P1).map goe) ∧ Below w.heap.size w wr) := by
        have h1 := HI.out.2
        rw [List.take_of_length_le (by rw [HN.out]; exact Nat.le_refl _)] at h1
        exact ⟨minef_mono h1 HB0.out.size, HUP.out _ HI.out.1⟩
      go_wp2_with fail
      go_ret
      exact ⟨⟨_, rfl, HE.out.1⟩, HE.out.2⟩

set_option maxRecDepth 20000 in
set_option maxHeartbeats 8000000 in
theorem OrderDeeds_any (p : Option Addr) (n c : Nat) (l : List Ord) (s : Wld) (w : World) (hr : rowf to6 w p l) (hn : l.length = n) (hz : oes l = 0) (h : s.fit w) :
    Calls Try.prog 24 #[.slice p n c, s.val] w fun e w' => (∃ v, e = .returned v ∧ minef 59 5 to5 w.heap.size w' v (spd (l.filter (alw (fown s.lt) s.nb)))) ∧ Below w.heap.size w w' := by
  have HR : Hid (∀ V, Below w.heap.size w V → rowf to6 V p l) := fun V hV => rowf_below hr hV
  have HN : Hid (l.length = n) := hn
  have HA : Hid (∀ X V, Below w.heap.size w V → Calls Try.prog 53 #[ov X, s.val] V fun e w' => e = .returned (.bool (alw (fown s.lt) s.nb X)) ∧ Below V.heap.size V w') := fun X V hV => Allowed_any X s V (Wld.fit_below h hV)
  have HLO : Hid (∀ o ∈ l, oe o = 0) := (oes_zero hz).2
  have hm : n ≤ 100 := by rw [← hn]; exact (oes_zero hz).1
  obtain ⟨P, hP⟩ : ∃ P, alw (fown s.lt) s.nb = P := ⟨_, rfl⟩
  simp only [hP] at HA ⊢
  rw [show spd (l.filter P) = (l.filter (fun a => isd a && P a)).map ded by unfold spd; rw [List.filter_filter]]
  obtain ⟨P1, hP1⟩ : ∃ P1 : Ord → Bool, (fun a => isd a && P a) = P1 := ⟨_, rfl⟩
  have HP1 : Hid (∀ X, P1 X = (isd X && P X)) := fun X => by rw [← hP1]
  rw [hP1]
  clear hP hP1 hr hn hz h
  obtain ⟨A, B, pf, nf, cf, lf, pb, nb, cb, lb, ps, ns, cs, ls, pm, nm, cm, lm, pt, nt, ct, lt, N, T⟩ := s
  unfold Wld.val at *
  dsimp only at *
  obtain ⟨F, hF⟩ : ∃ F, w.heap.size = F := ⟨_, rfl⟩
  obtain ⟨w0, hw0⟩ : ∃ w0, w.alloc (.cells #[.int .i64 A, .int .i64 B, .slice pf nf cf, .slice pb nb cb, .slice ps ns cs, .slice pm nm cm, .slice pt nt ct, .int .i64 N, .int .i64 T] 41) = w0 := ⟨_, rfl⟩
  have HBX : Hid (∀ V, Below w0.heap.size w0 V → c9 V F (.int .i64 A) (.int .i64 B) (.slice pf nf cf) (.slice pb nb cb) (.slice ps ns cs) (.slice pm nm cm) (.slice pt nt ct) (.int .i64 N) (.int .i64 T)) := fun V hV => boxw hF hw0 hV
  have HB0 : Hid (Below w.heap.size w w0) := by rw [← hw0]; exact alloc_below _ _
  have HUP : Hid (∀ V, Below w0.heap.size w0 V → Below w.heap.size w V) := fun V hV => below_step HB0.out HB0.out.size hV
  go_enter Try.func24, Try.ntmps24
  go_wp2_with fail
  clear hw0 hF
  go_loopw [5, 11] (fun v i wr => ∃ q : Nat, i = .int .i64 (q : Int) ∧ q ≤ n ∧ Hid (Below w0.heap.size w0 wr ∧ minef 59 5 to5 w0.heap.size wr v (((l.take q).filter P1).map ded))) (fun _ i _ => n - (intOf i).toNat)
  case atStart => exact ⟨0, rfl, by omega, Below.refl _ _, minef_nil _ _ _ _ _⟩
  case round =>
    obtain ⟨q, rfl, hq, HI⟩ := hrel
    by_cases hqt : q < n
    · have hql : q < l.length := by rw [HN.out]; exact hqt
      obtain ⟨a, rfl, ha⟩ := oat (HR.out _ (HUP.out _ HI.out.1)) hql
      have hsn := sp_snoc P1 ded l hql
      have hoe := HLO.out _ (List.getElem_mem hql)
      obtain ⟨X, hX⟩ : ∃ X, l[q] = X := ⟨_, rfl⟩
      rw [hX] at ha hsn hoe
      have HQL : Hid ((((l.take q).filter P1).map ded).length ≤ 1000000) := by
        have h1 := sp_len P1 ded l q
        have h2 := HN.out
        show _ ≤ _
        omega
      obtain ⟨bb, hbb⟩ : ∃ bb, P X = bb := ⟨_, rfl⟩
      have hpx := HP1.out X
      rw [hbb] at hpx
      have HAX : Hid (∀ V, Below w.heap.size w V → Calls Try.prog 53 #[ov X, .agg #[.int .i64 A, .int .i64 B, .slice pf nf cf, .slice pb nb cb, .slice ps ns cs, .slice pm nm cm, .slice pt nt ct, .int .i64 N, .int .i64 T]] V fun e w' => e = .returned (.bool bb) ∧ Below V.heap.size V w') := by
        have h1 := HA.out X
        rw [hbb] at h1
        exact h1
      rw [hpx] at hsn
      obtain ⟨Q, hQ⟩ : ∃ Q, ((l.take q).filter P1).map ded = Q := ⟨_, rfl⟩
      obtain ⟨Q', hQ'⟩ : ∃ Q', ((l.take (q + 1)).filter P1).map ded = Q' := ⟨_, rfl⟩
      have HQ' : Hid (((l.take (q + 1)).filter P1).map ded = Q') := hQ'
      rw [hQ] at HI HQL hsn
      rw [hQ'] at hsn
      have h0 := oe_zero hoe
      have hk := (wn_nums h0.1).2.1
      have hnd := h0.2
      obtain ⟨ob, ok, ow, ox, oy, oa⟩ := X
      obtain ⟨z0, z1, z2, z3, z4, z5⟩ := ha
      unfold ov at HAX
      dsimp only at z0 z1 z2 z3 z4 z5 hk HAX
      obtain ⟨w4, hw4⟩ : ∃ w4, wr.alloc (.cells #[.int .i64 ob, .int .i64 ok, .int .i64 ow, .int .i64 ox, .int .i64 oy, .int .i64 oa] 25) = w4 := ⟨_, rfl⟩
      have hb4 : Below wr.heap.size wr w4 := by rw [← hw4]; exact alloc_below _ _
      have HB4 : Hid (Below w0.heap.size w0 w4) := below_step HI.out.1 HI.out.1.size hb4
      have HM4 : Hid (minef 59 5 to5 w0.heap.size w4 u5 Q) := minef_below HI.out.2 hb4
      obtain ⟨G, hG⟩ : ∃ G, wr.heap.size = G := ⟨_, rfl⟩
      have HBO : Hid (∀ V, Below w4.heap.size w4 V → V.cell? ⟨G, 0, none⟩ = some (.int .i64 ob) ∧ V.cell? ⟨G, 1, none⟩ = some (.int .i64 ok) ∧ V.cell? ⟨G, 2, none⟩ = some (.int .i64 ow) ∧ V.cell? ⟨G, 3, none⟩ = some (.int .i64 ox) ∧ V.cell? ⟨G, 4, none⟩ = some (.int .i64 oy) ∧ V.cell? ⟨G, 5, none⟩ = some (.int .i64 oa)) := fun V hV => by
        rw [← hw4] at hV
        rw [← hG]
        exact box6 hV
      have l1 : (q : Int) < n := by omega
      have l2 : (0 : Int) ≤ q := by omega
      clear hX hoe hb4 hql HI hbb hpx hQ hQ' HA
      have hc : (¬ 2 < ok) ∨ ok = 3 ∨ ok = 4 ∨ ok = 5 := by omega
      rcases hc with hk1 | rfl | rfl | rfl
      · have HSN : Hid (Q' = Q) := by
          have h1 := hsn
          have e1 : isd ⟨ob, ok, ow, ox, oy, oa⟩ = false := decide_eq_false hk1
          rw [e1, Bool.false_and, if_neg (by decide), List.append_nil] at h1
          exact h1
        clear hsn hnd h0
        obtain ⟨g0, g1, g2, g3, g4, g5⟩ := HBO.out w4 (Below.refl _ _)
        go_wp2_with fail
        go_roundw
        case rel => exact ⟨q + 1, by go_num, by omega, HB4.out, by rw [HQ'.out, HSN.out]; exact HM4.out⟩
        case measure => simp [intOf]; omega
      · have HND : Hid (oa = 0) := by have h1 := hnd; simp [nd] at h1; exact h1
        clear hnd h0
        obtain ⟨g0, g1, g2, g3, g4, g5⟩ := HBO.out w4 (Below.refl _ _)
        obtain ⟨y0, y1, y2, y3, y4, y5, y6, y7, y8⟩ := HBX.out w4 HB4.out
        go_wp2_with fail
        refine (HAX.out w4 (HUP.out w4 HB4.out)).mono ?_
        rintro e w5 ⟨rfl, hb5⟩
        have HB5 : Hid (Below w0.heap.size w0 w5) := below_step HB4.out HB4.out.size hb5
        have HM5 : Hid (minef 59 5 to5 w0.heap.size w5 u5 Q) := minef_below HM4.out hb5
        clear g0 g1 g2 g3 g4 g5 y0 y1 y2 y3 y4 y5 y6 y7 y8
        obtain ⟨g0, g1, g2, g3, g4, g5⟩ := HBO.out w5 hb5
        cases bb with
        | false =>
          have HSN : Hid (Q' = Q) := by
            have h1 := hsn
            simp [isd] at h1
            exact h1
          clear hsn hb5
          go_wp2_with fail
          go_roundw
          case rel => exact ⟨q + 1, by go_num, by omega, HB5.out, by rw [HQ'.out, HSN.out]; exact HM5.out⟩
          case measure => simp [intOf]; omega
        | true =>
          have HSN : Hid (Q' = Q ++ [ded ⟨ob, 3, ow, ox, oy, oa⟩]) := by
            have h1 := hsn
            simp [isd] at h1
            exact h1
          have hb5' := hb5
          clear hsn hb5
          obtain ⟨w6, hw6⟩ : ∃ w6, w5.alloc (.cells #[.int .i64 1, .int .i64 ow, .int .i64 ox, .int .i64 oy, .int .i64 oa] 59) = w6 := ⟨_, rfl⟩
          obtain ⟨D, hD⟩ : ∃ D, w5.heap.size = D := ⟨_, rfl⟩
          have hb6 : Below w5.heap.size w5 w6 := by rw [← hw6]; exact alloc_below _ _
          have HB6 : Hid (Below w0.heap.size w0 w6) := below_step HB5.out HB5.out.size hb6
          have HM6 : Hid (minef 59 5 to5 w0.heap.size w6 u5 Q) := minef_below HM5.out hb6
          have hblk : w6.heap[D]? = some (.cells #[.int .i64 1, .int .i64 ow, .int .i64 ox, .int .i64 oy, .int .i64 oa] 59) := by rw [← hw6, ← hD]; exact World.alloc_heap_new w5 _
          obtain ⟨e0, e1, e2, e3, e4, e5⟩ := HBO.out w6 (below_step hb5' hb5'.size hb6)
          have hcs : w6.cell? ⟨D, 0, none⟩ = some (.int .i64 1) ∧ w6.cell? ⟨D, 1, none⟩ = some (.int .i64 ow) ∧ w6.cell? ⟨D, 2, none⟩ = some (.int .i64 ox) ∧ w6.cell? ⟨D, 3, none⟩ = some (.int .i64 oy) ∧ w6.cell? ⟨D, 4, none⟩ = some (.int .i64 oa) := by simp [World.cell?, hblk]
          obtain ⟨d0, d1, d2, d3, d4⟩ := hcs
          have H8 : Hid (minef 59 5 to5 w0.heap.size (w6.alloc (.cells #[.int .i64 1, .int .i64 ow, .int .i64 ox, .int .i64 oy, .int .i64 oa] 59)) u5 Q ∧ Below w0.heap.size w0 (w6.alloc (.cells #[.int .i64 1, .int .i64 ow, .int .i64 ox, .int .i64 oy, .int .i64 oa] 59))) := ⟨minef_below HM6.out (alloc_below _ _), below_step HB6.out HB6.out.size (alloc_below _ _)⟩
          have HX : Hid (∀ j u, (to5 (ded ⟨ob, 3, ow, ox, oy, oa⟩))[j]? = some u → (w6.alloc (.cells #[.int .i64 1, .int .i64 ow, .int .i64 ox, .int .i64 oy, .int .i64 oa] 59)).cell? ((⟨w6.heap.size, 0, none⟩ : Addr).add j) = some u) := fun j u hj => by
            obtain q1 := HND.out
            subst q1
            rw [add_zero_at, World.cell?_alloc_mark]
            unfold to5 ded at hj
            simpa using hj
          clear hb6 hblk hb5'
          go_wp2_with (at_builtin; refine list_onef k5 _ rfl _ _ rfl w0.heap.size u5 Q rfl H8.out.1 ⟨_, 0, none⟩ 1 _ rfl HX.out HQL.out H8.out.2.size ?_)
          intro g cap w9 m1 m2
          have H9 : Hid (Below w0.heap.size w0 w9 ∧ minef 59 5 to5 w0.heap.size w9 (.slice (some ⟨g, 0, none⟩) (Q.length + 1) cap) Q') := ⟨minef_grown H8.out.1 H8.out.2 H8.out.2.size m2, by rw [HSN.out]; exact m1⟩
          clear m1 m2
          go_wp2_with fail
          go_roundw
          case rel => exact ⟨q + 1, by go_num, by omega, H9.out.1, by rw [HQ'.out]; exact H9.out.2⟩
          case measure => simp [intOf]; omega
      · have HND : Hid (ox = 0 ∧ oy = 0 ∧ oa = 0) := by have h1 := hnd; simp [nd] at h1; exact h1
        clear hnd h0
        obtain ⟨g0, g1, g2, g3, g4, g5⟩ := HBO.out w4 (Below.refl _ _)
        obtain ⟨y0, y1, y2, y3, y4, y5, y6, y7, y8⟩ := HBX.out w4 HB4.out
        go_wp2_with fail
        refine (HAX.out w4 (HUP.out w4 HB4.out)).mono ?_
        rintro e w5 ⟨rfl, hb5⟩
        have HB5 : Hid (Below w0.heap.size w0 w5) := below_step HB4.out HB4.out.size hb5
        have HM5 : Hid (minef 59 5 to5 w0.heap.size w5 u5 Q) := minef_below HM4.out hb5
        clear g0 g1 g2 g3 g4 g5 y0 y1 y2 y3 y4 y5 y6 y7 y8
        obtain ⟨g0, g1, g2, g3, g4, g5⟩ := HBO.out w5 hb5
        cases bb with
        | false =>
          have HSN : Hid (Q' = Q) := by
            have h1 := hsn
            simp [isd] at h1
            exact h1
          clear hsn hb5
          go_wp2_with fail
          go_roundw
          case rel => exact ⟨q + 1, by go_num, by omega, HB5.out, by rw [HQ'.out, HSN.out]; exact HM5.out⟩
          case measure => simp [intOf]; omega
        | true =>
          have HSN : Hid (Q' = Q ++ [ded ⟨ob, 4, ow, ox, oy, oa⟩]) := by
            have h1 := hsn
            simp [isd] at h1
            exact h1
          have hb5' := hb5
          clear hsn hb5
          obtain ⟨w6, hw6⟩ : ∃ w6, w5.alloc (.cells #[.int .i64 2, .int .i64 ow, .int .i64 ox, .int .i64 oy, .int .i64 oa] 59) = w6 := ⟨_, rfl⟩
          obtain ⟨D, hD⟩ : ∃ D, w5.heap.size = D := ⟨_, rfl⟩
          have hb6 : Below w5.heap.size w5 w6 := by rw [← hw6]; exact alloc_below _ _
          have HB6 : Hid (Below w0.heap.size w0 w6) := below_step HB5.out HB5.out.size hb6
          have HM6 : Hid (minef 59 5 to5 w0.heap.size w6 u5 Q) := minef_below HM5.out hb6
          have hblk : w6.heap[D]? = some (.cells #[.int .i64 2, .int .i64 ow, .int .i64 ox, .int .i64 oy, .int .i64 oa] 59) := by rw [← hw6, ← hD]; exact World.alloc_heap_new w5 _
          obtain ⟨e0, e1, e2, e3, e4, e5⟩ := HBO.out w6 (below_step hb5' hb5'.size hb6)
          have hcs : w6.cell? ⟨D, 0, none⟩ = some (.int .i64 2) ∧ w6.cell? ⟨D, 1, none⟩ = some (.int .i64 ow) ∧ w6.cell? ⟨D, 2, none⟩ = some (.int .i64 ox) ∧ w6.cell? ⟨D, 3, none⟩ = some (.int .i64 oy) ∧ w6.cell? ⟨D, 4, none⟩ = some (.int .i64 oa) := by simp [World.cell?, hblk]
          obtain ⟨d0, d1, d2, d3, d4⟩ := hcs
          have H8 : Hid (minef 59 5 to5 w0.heap.size (w6.alloc (.cells #[.int .i64 2, .int .i64 ow, .int .i64 ox, .int .i64 oy, .int .i64 oa] 59)) u5 Q ∧ Below w0.heap.size w0 (w6.alloc (.cells #[.int .i64 2, .int .i64 ow, .int .i64 ox, .int .i64 oy, .int .i64 oa] 59))) := ⟨minef_below HM6.out (alloc_below _ _), below_step HB6.out HB6.out.size (alloc_below _ _)⟩
          have HX : Hid (∀ j u, (to5 (ded ⟨ob, 4, ow, ox, oy, oa⟩))[j]? = some u → (w6.alloc (.cells #[.int .i64 2, .int .i64 ow, .int .i64 ox, .int .i64 oy, .int .i64 oa] 59)).cell? ((⟨w6.heap.size, 0, none⟩ : Addr).add j) = some u) := fun j u hj => by
            obtain ⟨q1, q2, q3⟩ := HND.out
            subst q1; subst q2; subst q3
            rw [add_zero_at, World.cell?_alloc_mark]
            unfold to5 ded at hj
            simpa using hj
          clear hb6 hblk hb5'
          go_wp2_with (at_builtin; refine list_onef k5 _ rfl _ _ rfl w0.heap.size u5 Q rfl H8.out.1 ⟨_, 0, none⟩ 1 _ rfl HX.out HQL.out H8.out.2.size ?_)
          intro g cap w9 m1 m2
          have H9 : Hid (Below w0.heap.size w0 w9 ∧ minef 59 5 to5 w0.heap.size w9 (.slice (some ⟨g, 0, none⟩) (Q.length + 1) cap) Q') := ⟨minef_grown H8.out.1 H8.out.2 H8.out.2.size m2, by rw [HSN.out]; exact m1⟩
          clear m1 m2
          go_wp2_with fail
          go_roundw
          case rel => exact ⟨q + 1, by go_num, by omega, H9.out.1, by rw [HQ'.out]; exact H9.out.2⟩
          case measure => simp [intOf]; omega
      · have HND : Hid (ow = 0 ∧ ox = 0 ∧ oy = 0) := by have h1 := hnd; simp [nd] at h1; exact h1
        clear hnd h0
        obtain ⟨g0, g1, g2, g3, g4, g5⟩ := HBO.out w4 (Below.refl _ _)
        obtain ⟨y0, y1, y2, y3, y4, y5, y6, y7, y8⟩ := HBX.out w4 HB4.out
        go_wp2_with fail
        refine (HAX.out w4 (HUP.out w4 HB4.out)).mono ?_
        rintro e w5 ⟨rfl, hb5⟩
        have HB5 : Hid (Below w0.heap.size w0 w5) := below_step HB4.out HB4.out.size hb5
        have HM5 : Hid (minef 59 5 to5 w0.heap.size w5 u5 Q) := minef_below HM4.out hb5
        clear g0 g1 g2 g3 g4 g5 y0 y1 y2 y3 y4 y5 y6 y7 y8
        obtain ⟨g0, g1, g2, g3, g4, g5⟩ := HBO.out w5 hb5
        cases bb with
        | false =>
          have HSN : Hid (Q' = Q) := by
            have h1 := hsn
            simp [isd] at h1
            exact h1
          clear hsn hb5
          go_wp2_with fail
          go_roundw
          case rel => exact ⟨q + 1, by go_num, by omega, HB5.out, by rw [HQ'.out, HSN.out]; exact HM5.out⟩
          case measure => simp [intOf]; omega
        | true =>
          have HSN : Hid (Q' = Q ++ [ded ⟨ob, 5, ow, ox, oy, oa⟩]) := by
            have h1 := hsn
            simp [isd] at h1
            exact h1
          have hb5' := hb5
          clear hsn hb5
          obtain ⟨w6, hw6⟩ : ∃ w6, w5.alloc (.cells #[.int .i64 3, .int .i64 ow, .int .i64 ox, .int .i64 oy, .int .i64 oa] 59) = w6 := ⟨_, rfl⟩
          obtain ⟨D, hD⟩ : ∃ D, w5.heap.size = D := ⟨_, rfl⟩
          have hb6 : Below w5.heap.size w5 w6 := by rw [← hw6]; exact alloc_below _ _
          have HB6 : Hid (Below w0.heap.size w0 w6) := below_step HB5.out HB5.out.size hb6
          have HM6 : Hid (minef 59 5 to5 w0.heap.size w6 u5 Q) := minef_below HM5.out hb6
          have hblk : w6.heap[D]? = some (.cells #[.int .i64 3, .int .i64 ow, .int .i64 ox, .int .i64 oy, .int .i64 oa] 59) := by rw [← hw6, ← hD]; exact World.alloc_heap_new w5 _
          obtain ⟨e0, e1, e2, e3, e4, e5⟩ := HBO.out w6 (below_step hb5' hb5'.size hb6)
          have hfr : w6.frozen? ⟨D, 1, none⟩ = false := by simp [World.frozen?, hblk]
          have hDw : w0.heap.size ≤ D := by rw [← hD]; exact HB5.out.size
          have hc1 : w6.cell? ⟨D, 1, none⟩ = some (.int .i64 ow) := by simp [World.cell?, hblk]
          obtain ⟨w7, hw7⟩ : ∃ w7, w6.setCell ⟨D, 1, none⟩ (.int .i64 ob) = w7 := ⟨_, rfl⟩
          have hx7 : Ex (fun k => k = D) w6 w7 := by rw [← hw7]; exact ex_set (S := fun k => k = D) (Ex.refl _ _) ⟨D, 1, none⟩ rfl _
          have HB7 : Hid (Below w0.heap.size w0 w7) := HB6.out.trans (hx7.below HB6.out.size (fun k hk e => by omega))
          have HM7 : Hid (minef 59 5 to5 w0.heap.size w7 u5 Q) := minef_below5 HM5.out hD hb6 hx7
          have hblk7 : w7.heap[D]? = some (.cells #[.int .i64 3, .int .i64 ob, .int .i64 ox, .int .i64 oy, .int .i64 oa] 59) := by rw [← hw7]; exact heap_setCell_same w6 D 1 _ _ _ hblk
          have hcs : w7.cell? ⟨D, 0, none⟩ = some (.int .i64 3) ∧ w7.cell? ⟨D, 1, none⟩ = some (.int .i64 ob) ∧ w7.cell? ⟨D, 2, none⟩ = some (.int .i64 ox) ∧ w7.cell? ⟨D, 3, none⟩ = some (.int .i64 oy) ∧ w7.cell? ⟨D, 4, none⟩ = some (.int .i64 oa) := by simp [World.cell?, hblk7]
          obtain ⟨d0, d1, d2, d3, d4⟩ := hcs
          have H8 : Hid (minef 59 5 to5 w0.heap.size (w7.alloc (.cells #[.int .i64 3, .int .i64 ob, .int .i64 ox, .int .i64 oy, .int .i64 oa] 59)) u5 Q ∧ Below w0.heap.size w0 (w7.alloc (.cells #[.int .i64 3, .int .i64 ob, .int .i64 ox, .int .i64 oy, .int .i64 oa] 59))) := ⟨minef_below HM7.out (alloc_below _ _), below_step HB7.out HB7.out.size (alloc_below _ _)⟩
          have HX : Hid (∀ j u, (to5 (ded ⟨ob, 5, ow, ox, oy, oa⟩))[j]? = some u → (w7.alloc (.cells #[.int .i64 3, .int .i64 ob, .int .i64 ox, .int .i64 oy, .int .i64 oa] 59)).cell? ((⟨w7.heap.size, 0, none⟩ : Addr).add j) = some u) := fun j u hj => by
            obtain ⟨q1, q2, q3⟩ := HND.out
            subst q1; subst q2; subst q3
            rw [add_zero_at, World.cell?_alloc_mark]
            unfold to5 ded at hj
            simpa using hj
          clear hb6 hblk hb5'
          go_wp2_with (at_builtin; refine list_onef k5 _ rfl _ _ rfl w0.heap.size u5 Q rfl H8.out.1 ⟨_, 0, none⟩ 1 _ rfl HX.out HQL.out H8.out.2.size ?_)
          intro g cap w9 m1 m2
          have H9 : Hid (Below w0.heap.size w0 w9 ∧ minef 59 5 to5 w0.heap.size w9 (.slice (some ⟨g, 0, none⟩) (Q.length + 1) cap) Q') := ⟨minef_grown H8.out.1 H8.out.2 H8.out.2.size m2, by rw [HSN.out]; exact m1⟩
          clear m1 m2
          go_wp2_with fail
          go_roundw
          case rel => exact ⟨q + 1, by go_num, by omega, H9.out.1, by rw [HQ'.out]; exact H9.out.2⟩
          case measure => simp [intOf]; omega
    · obtain rfl : q = n := by omega
      have HE : Hid (minef 59 5 to5 w.heap.size wr u5 ((l.filter P1).map ded) ∧ Below w.heap.size w wr) := by
        have h1 := HI.out.2
        rw [List.take_of_length_le (by rw [HN.out]; exact Nat.le_refl _)] at h1
        exact ⟨minef_mono h1 HB0.out.size, HUP.out _ HI.out.1⟩
      go_wp2_with fail
      go_ret
      exact ⟨⟨_, rfl, HE.out.1⟩, HE.out.2⟩
end Go.Proofs.Ytgebfpncapfaoaa
