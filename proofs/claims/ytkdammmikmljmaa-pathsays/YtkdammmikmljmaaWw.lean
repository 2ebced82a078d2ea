/- What the document's own answer is. -/
import Derived.Test.YtkdammmikmljmaaWq
import Derived.Laws.EntriesVeiled
namespace Go.Proofs.Ytkdammmikmljmaa
open Go.RowKit
set_option linter.unusedVariables false

set_option maxRecDepth 20000 in
set_option maxHeartbeats 4000000 in
theorem WayOf_any (A B : Int) (p : Option Addr) (n c : Nat) (l : List Int) (ax ay bx by_ : Int) (w : World) (hr : row vi w p l) (hn : l.length = n) (hm : n ≤ 9223372036854775807) :
    Calls Try.prog 8 #[.agg #[.int .i64 A, .int .i64 B, .slice p n c], .agg #[.int .i64 ax, .int .i64 ay], .agg #[.int .i64 bx, .int .i64 by_]] w fun e w' => (∃ v D E, e = .returned (.tuple #[v, .int .i64 D, .int .i64 E]) ∧ finr A B l ⟨ax, ay⟩ ⟨bx, by_⟩ w.heap.size w' v D E) ∧ Below w.heap.size w w' := by
  obtain ⟨F, hF⟩ : ∃ F, w.heap.size = F := ⟨_, rfl⟩
  obtain ⟨w0, hw0⟩ : ∃ w0, ((w.alloc (.cells #[.int .i64 A, .int .i64 B, .slice p n c] 24)).alloc (.cells #[.int .i64 ax, .int .i64 ay] 26)).alloc (.cells #[.int .i64 bx, .int .i64 by_] 26) = w0 := ⟨_, rfl⟩
  have hB0 : Below w.heap.size w w0 := by rw [← hw0]; exact ((alloc_below w _).alloc (by simp) _).alloc (by simp; omega) _
  have HB0 : Hid (Below w.heap.size w w0) := hB0
  have HBX : Hid (∀ V, Below w0.heap.size w0 V → V.cell? ⟨F, 0, none⟩ = some (.int .i64 A) ∧ V.cell? ⟨F, 1, none⟩ = some (.int .i64 B) ∧ V.cell? ⟨F, 2, none⟩ = some (.slice p n c) ∧ V.cell? ⟨F + 1, 0, none⟩ = some (.int .i64 ax) ∧ V.cell? ⟨F + 1, 1, none⟩ = some (.int .i64 ay) ∧ V.cell? ⟨F + 2, 0, none⟩ = some (.int .i64 bx) ∧ V.cell? ⟨F + 2, 1, none⟩ = some (.int .i64 by_)) := fun V hV => boxf hF hw0 hV
  obtain ⟨z0, z1, z2, z3, z4, z5, z6⟩ := HBX.out w0 (Below.refl _ _)
  have HR : Hid (row vi w0 p l) := row_below hr hB0
  have HN : Hid (l.length = n) := hn
  have HF : Hid (w.heap.size = F) := hF
  obtain ⟨E, hE⟩ : ∃ E, ck A B l = E := ⟨_, rfl⟩
  have HE : Hid (ck A B l = E) := hE
  clear hr hn hB0 hE
  go_enter Try.func8, Try.ntmps8
  go_wp2_with fail
  refine (Right_any A B p n c l E w0 HR.out HN.out hm HE).mono ?_
  rintro e w1 ⟨rfl, hb1⟩
  have HB1 : Hid (Below w0.heap.size w0 w1) := hb1
  obtain ⟨y0, y1, y2, y3, y4, y5, y6⟩ := HBX.out w1 hb1
  clear hb1 z0 z1 z2 z3 z4 z5 z6 hw0
  by_cases h1 : E = 0
  · subst h1
    obtain ⟨W, H, hA, hB, hW, hH, hl, hg⟩ := ck_yes HE.out
    subst hA hB
    have hnl : n = W * H := by rw [← HN.out]; exact hl
    subst hnl
    have hrl : row vi w1 p l := row_below HR.out HB1.out
    obtain ⟨a, rfl⟩ := row_some hrl (by rw [hl]; exact one_le hW hH)
    have hN : W * H ≤ 1600 := wh_le hW hH
    have HOK : Hid (okf W H l) := ⟨hW, hH, hl, hg⟩
    have HRL : Hid (row vi w1 (some a) l) := hrl
    clear hW hH hl hg hrl
    cases hia : inb W H ax ay with
    | false =>
      have HIA : Hid (inb W H ax ay = false) := hia
      clear hia
      go_wp2_with fail
      refine (In_in W H _ _ _ ax ay false w1 HOK.out.1 HOK.out.2.1 HIA).mono ?_
      rintro e w2 ⟨rfl, hb2⟩
      have HB2 : Hid (Below w.heap.size w w2) := HB0.out.trans ((HB1.out.trans (hb2.mono HB1.out.size)).mono HB0.out.size)
      clear hb2
      go_wp2_with fail
      go_ret3
      exact ⟨⟨_, _, _, rfl, .inl ⟨by decide, .inl ⟨by rw [per_out HOK.out (.inl HIA.out)]; decide, (per_out HOK.out (.inl HIA.out)).symm⟩, rfl, rfl⟩⟩, HB2.out⟩
    | true =>
      have HIA : Hid (inb W H ax ay = true) := hia
      clear hia
      go_wp2_with fail
      refine (In_in W H _ _ _ ax ay true w1 HOK.out.1 HOK.out.2.1 HIA).mono ?_
      rintro e w2 ⟨rfl, hb2⟩
      have HB2 : Hid (Below w0.heap.size w0 w2 ∧ Below w1.heap.size w1 w2) := ⟨HB1.out.trans (hb2.mono HB1.out.size), hb2⟩
      obtain ⟨x0, x1, x2, x3, x4, x5, x6⟩ := HBX.out w2 HB2.out.1
      clear hb2 y0 y1 y2 y3 y4 y5 y6
      cases hib : inb W H bx by_ with
      | false =>
        have HIB : Hid (inb W H bx by_ = false) := hib
        clear hib
        go_wp2_with fail
        refine (In_in W H _ _ _ bx by_ false w2 HOK.out.1 HOK.out.2.1 HIB).mono ?_
        rintro e w3 ⟨rfl, hb3⟩
        have HB3 : Hid (Below w.heap.size w w3) := HB0.out.trans ((HB2.out.1.trans (hb3.mono HB2.out.1.size)).mono HB0.out.size)
        clear hb3
        go_wp2_with fail
        go_ret3
        exact ⟨⟨_, _, _, rfl, .inl ⟨by decide, .inl ⟨by rw [per_out HOK.out (.inr ⟨inf_inb.1 HIA.out, HIB.out⟩)]; decide, (per_out HOK.out (.inr ⟨inf_inb.1 HIA.out, HIB.out⟩)).symm⟩, rfl, rfl⟩⟩, HB3.out⟩
      | true =>
        have HIB : Hid (inb W H bx by_ = true) := hib
        obtain ⟨X1, Y1, rfl, rfl, hX1, hY1⟩ := inb_nat HIA.out
        obtain ⟨X, Y, rfl, rfl, hX, hY⟩ := inb_nat hib
        clear hib
        go_wp2_with fail
        refine (In_in W H _ _ _ X Y true w2 HOK.out.1 HOK.out.2.1 HIB).mono ?_
        rintro e w3 ⟨rfl, hb3⟩
        have HB3 : Hid (Below w0.heap.size w0 w3) := HB2.out.1.trans (hb3.mono HB2.out.1.size)
        clear hb3 x0 x1 x2 x3 x4 x5 x6
        obtain ⟨x0, x1, x2, x3, x4, x5, x6⟩ := HBX.out w3 HB3.out
        obtain ⟨Z1, hZ1⟩ : ∃ Z, l.getD (Y1 * W + X1) 0 = Z := ⟨_, rfl⟩
        obtain ⟨Z2, hZ2⟩ : ∃ Z, l.getD (Y * W + X) 0 = Z := ⟨_, rfl⟩
        have HZ1 : Hid (l.getD (Y1 * W + X1) 0 = Z1) := hZ1
        have HZ2 : Hid (l.getD (Y * W + X) 0 = Z2) := hZ2
        have HX : Hid (X1 < W ∧ Y1 < H ∧ X < W ∧ Y < H) := ⟨hX1, hY1, hX, hY⟩
        have HRO : Hid (pa l (ixc W ⟨X1, Y1⟩) = Z1 ∧ pa l (ixc W ⟨X, Y⟩) = Z2) := by rw [ixc_nat, ixc_nat]; exact ⟨hZ1, hZ2⟩
        clear hZ1 hZ2 hX1 hY1 hX hY
        go_wp2_with fail
        refine (PlaceOf_in W H a c l X1 Y1 Z1 w3 (row_below HR.out HB3.out) HOK.out.1 HOK.out.2.1 HOK.out.2.2.1 HX.out.1 HX.out.2.1 HZ1).mono ?_
        rintro e w4 ⟨rfl, hb4⟩
        have HB4 : Hid (Below w0.heap.size w0 w4) := HB3.out.trans (hb4.mono HB3.out.size)
        clear hb4 x0 x1 x2 x3 x4 x5 x6
        obtain ⟨x0, x1, x2, x3, x4, x5, x6⟩ := HBX.out w4 HB4.out
        by_cases hr1 : Z1 = 1
        · subst hr1
          have HP9 : Hid (per W H l ⟨X1, Y1⟩ ⟨X, Y⟩ = 9) := per_rock HOK.out (inf_inb.1 HIA.out) (inf_inb.1 HIB.out) (.inl HRO.out.1)
          have HBW : Hid (Below w.heap.size w w4) := HB0.out.trans (HB4.out.mono HB0.out.size)
          go_wp2_with fail
          go_ret3
          exact ⟨⟨_, _, _, rfl, .inl ⟨by decide, .inl ⟨by rw [HP9.out]; decide, HP9.out.symm⟩, rfl, rfl⟩⟩, HBW.out⟩
        · have d1 : (Z1 == 1) = false := by simp [hr1]
          go_wp2_with fail
          refine (PlaceOf_in W H a c l X Y Z2 w4 (row_below HR.out HB4.out) HOK.out.1 HOK.out.2.1 HOK.out.2.2.1 HX.out.2.2.1 HX.out.2.2.2 HZ2).mono ?_
          rintro e w5 ⟨rfl, hb5⟩
          have HB5 : Hid (Below w0.heap.size w0 w5) := HB4.out.trans (hb5.mono HB4.out.size)
          clear hb5 x0 x1 x2 x3 x4 x5 x6
          obtain ⟨x0, x1, x2, x3, x4, x5, x6⟩ := HBX.out w5 HB5.out
          by_cases hr2 : Z2 = 1
          · subst hr2
            have HP9 : Hid (per W H l ⟨X1, Y1⟩ ⟨X, Y⟩ = 9) := per_rock HOK.out (inf_inb.1 HIA.out) (inf_inb.1 HIB.out) (.inr HRO.out.2)
            have HBW : Hid (Below w.heap.size w w5) := HB0.out.trans (HB5.out.mono HB0.out.size)
            go_wp2_with fail
            go_ret3
            exact ⟨⟨_, _, _, rfl, .inl ⟨by decide, .inl ⟨by rw [HP9.out]; decide, HP9.out.symm⟩, rfl, rfl⟩⟩, HBW.out⟩
          · have d2 : (Z2 == 1) = false := by simp [hr2]
            have HR1 : Hid (pa l (ixc W ⟨X1, Y1⟩) ≠ 1 ∧ pa l (ixc W ⟨X, Y⟩) ≠ 1) := by rw [HRO.out.1, HRO.out.2]; exact ⟨hr1, hr2⟩
            have hia : inf W H ⟨X1, Y1⟩ := inf_inb.1 HIA.out
            obtain ⟨w6, hw6⟩ : ∃ w6, w5.alloc (.cells #[.int .i64 (X1 : Int), .int .i64 (Y1 : Int)] 26) = w6 := ⟨_, rfl⟩
            have hb6 : Below w5.heap.size w5 w6 := by rw [← hw6]; exact alloc_below _ _
            have hB6 : Below w0.heap.size w0 w6 := HB5.out.trans (hb6.mono HB5.out.size)
            have HFL : Hid (Calls Try.prog 23 #[.agg #[.int .i64 (W : Int), .int .i64 (H : Int), .slice (some a) (W * H) c], .slice (some ⟨w5.heap.size, 0, none⟩) 1 1] w6 fun e w' => (∃ (g : Nat) (far : List Int), e = .returned (.tuple #[.slice (some ⟨g, 0, none⟩) (W * H) (W * H), .int .i64 0]) ∧ row vi w' (some ⟨g, 0, none⟩) far ∧ Sol W H l (fst_ W [⟨X1, Y1⟩]) far) ∧ Below w6.heap.size w6 w') := by
              refine (Floods_cells W H a (some ⟨w5.heap.size, 0, none⟩) c 1 1 l [⟨X1, Y1⟩] 0 w6 (row_below HR.out hB6) HOK.out.1 HOK.out.2.1 HOK.out.2.2.1 HOK.out.2.2.2 (by rw [← hw6]; exact crow_one _ _ _) rfl (by decide) (cke_one hia HR1.out.1)).mono ?_
              rintro e w' ⟨hf, hb'⟩
              rcases hf with ⟨h, _⟩ | ⟨_, g, far, rfl, hm', hs'⟩
              · exact absurd rfl h
              · exact ⟨⟨g, far, rfl, mine_row hm', hs'⟩, hb'⟩
            have HB6 : Hid (Below w0.heap.size w0 w6) := hB6
            clear hb6 hB6 hia hr1 hr2
            go_wp2_with fail
            refine HFL.out.mono ?_
            rintro e w7 ⟨⟨g, far, rfl, hfr, hsol⟩, hb7⟩
            have hB7 : Below w0.heap.size w0 w7 := HB6.out.trans (hb7.mono HB6.out.size)
            obtain ⟨P10, hP10⟩ : ∃ P, w7.heap.size = P := ⟨_, rfl⟩
            obtain ⟨w8, hw8⟩ : ∃ w8, w7.alloc (.cells #[.slice (some ⟨g, 0, none⟩) (W * H) (W * H)] 22) = w8 := ⟨_, rfl⟩
            obtain ⟨B12, hB12⟩ : ∃ P, w8.heap.size = P := ⟨_, rfl⟩
            obtain ⟨w9, hw9⟩ : ∃ w9, w8.alloc (.cells #[.func (.func 24) #[] #[.pointer (some ⟨P10, 0, none⟩), .pointer (some ⟨F, 0, none⟩)]] 49) = w9 := ⟨_, rfl⟩
            have hb8 : Below w7.heap.size w7 w8 := by rw [← hw8]; exact alloc_below _ _
            have hb9 : Below w8.heap.size w8 w9 := by rw [← hw9]; exact alloc_below _ _
            have hb79 : Below w7.heap.size w7 w9 := hb8.trans (hb9.mono hb8.size)
            have hB9 : Below w0.heap.size w0 w9 := hB7.trans (hb79.mono hB7.size)
            have c8 : w8.cell? ⟨P10, 0, none⟩ = some (.slice (some ⟨g, 0, none⟩) (W * H) (W * H)) := by rw [← hw8, ← hP10]; simp [go_sem]
            have c9 : w9.cell? ⟨B12, 0, none⟩ = some (.func (.func 24) #[] #[.pointer (some ⟨P10, 0, none⟩), .pointer (some ⟨F, 0, none⟩)]) := by rw [← hw9, ← hB12]; simp [go_sem]
            have HCX : Hid (∀ V, Below w9.heap.size w9 V → V.cell? ⟨P10, 0, none⟩ = some (.slice (some ⟨g, 0, none⟩) (W * H) (W * H)) ∧ V.cell? ⟨B12, 0, none⟩ = some (.func (.func 24) #[] #[.pointer (some ⟨P10, 0, none⟩), .pointer (some ⟨F, 0, none⟩)]) ∧ row vi V (some ⟨g, 0, none⟩) far ∧ row vi V (some a) l ∧ Below w0.heap.size w0 V) := by
              intro V hV
              refine ⟨?_, ?_, row_below (row_below hfr hb79) hV, row_below (row_below HR.out hB9) hV, hB9.trans (hV.mono hB9.size)⟩
              · rw [hV.cell (p := ⟨P10, 0, none⟩) (Nat.lt_of_lt_of_le (cell_lt c8) hb9.size), hb9.cell (p := ⟨P10, 0, none⟩) (cell_lt c8)]; exact c8
              · rw [hV.cell (p := ⟨B12, 0, none⟩) (cell_lt c9)]; exact c9
            have HFA : Hid (∀ V, Below w9.heap.size w9 V → ∀ i, i < W * H → V.cell? ⟨g, i, none⟩ = some (.int .i64 (pa far i))) := by
              intro V hV i hi
              obtain ⟨b', hb', hc'⟩ := row_at (HCX.out V hV).2.2.1 (j := i) (by rw [hsol.len]; exact hi)
              cases hb'
              rw [← pa_get far, add_zero_at] at hc'; exact hc'
            have HS : Hid (Sol W H l (fst_ W [⟨X1, Y1⟩]) far) := hsol
            obtain ⟨I, hI⟩ : ∃ I, Y * W + X = I := ⟨_, rfl⟩
            have HI : Hid (Y * W + X = I) := hI
            have HIC : Hid (ixc W ⟨X, Y⟩ = I) := by unfold Hid; rw [ixc_nat]; exact hI
            have hIl : I < W * H := by rw [← hI]; exact pl_lt HX.out.2.2.1 HX.out.2.2.2
            obtain ⟨D, hD⟩ : ∃ D, pa far I = D := ⟨_, rfl⟩
            have HD : Hid (pa far I = D) := hD
            have HAT : Hid (∀ V, Below w9.heap.size w9 V → Calls Try.prog 24 #[.agg #[.int .i64 (X : Int), .int .i64 (Y : Int)], .pointer (some ⟨P10, 0, none⟩), .pointer (some ⟨F, 0, none⟩)] V fun e w' => e = .returned (.int .i64 D) ∧ Below V.heap.size V w') := by
              intro V hV
              have h := HCX.out V hV
              exact wat_any W H X Y I P10 F g D V HI (by omega) hIl h.1 (HBX.out V h.2.2.2.2).1 (by rw [← HD.out]; exact HFA.out V hV I hIl)
            have HGD : Hid (good W H l ⟨X1, Y1⟩ ⟨X, Y⟩ W H far) := ⟨rfl, rfl, HOK.out, inf_inb.1 HIA.out, inf_inb.1 HIB.out, HR1.out.1, HR1.out.2, hsol⟩
            have HBW9 : Hid (Below w.heap.size w w9) := HB0.out.trans (hB9.mono HB0.out.size)
            obtain ⟨v0, v1, v2, v3, v4, v5, v6⟩ := HBX.out w9 hB9
            clear hfr hsol hb7 hB7 hb8 hb9 hb79 hB9 c8 hI hD x0 x1 x2 x3 x4 x5 x6 hw6
            go_wp2_with fail
            refine (HAT.out w9 (Below.refl _ _)).mono ?_
            rintro e w10 ⟨rfl, hb10⟩
            have HB10 : Hid (Below w9.heap.size w9 w10) := hb10
            clear hb10 v0 v1 v2 v3 v4 v5 v6 c9 hw8 hw9
            by_cases hneg : D < 0
            · have HBW : Hid (Below w.heap.size w w10) := HBW9.out.trans (HB10.out.mono HBW9.out.size)
              go_wp2_with fail
              go_ret3
              exact ⟨⟨_, _, _, rfl, .inl ⟨by decide, .inr ⟨rfl, W, H, far, HGD.out, by rw [HIC.out, HD.out]; exact hneg⟩, rfl, rfl⟩⟩, HBW.out⟩
            · have hDb := sol_bd HS.out hN I hIl
              rw [HD.out] at hDb
              obtain ⟨R, hR, hRl⟩ := trl_ex HS.out D.toNat ⟨X, Y⟩ (inf_inb.1 HIB.out) (by rw [HIC.out, HD.out]; omega)
              obtain ⟨m, hmR⟩ : ∃ m, R.length = m := ⟨_, rfl⟩
              have HRT : Hid (Trl W H l far ⟨X, Y⟩ R ∧ R.length = m ∧ m ≤ 2401 ∧ 0 < m) := ⟨hR, hmR, by omega, by have := trl_pos hR; omega⟩
              have h0 : R[0]? = some ⟨X, Y⟩ := trl_head hR
              obtain ⟨S, hS⟩ : ∃ S, w10.heap.size = S := ⟨_, rfl⟩
              obtain ⟨w11, hw11⟩ : ∃ w11, w10.alloc (.cells #[.int .i64 (X : Int), .int .i64 (Y : Int)] 26) = w11 := ⟨_, rfl⟩
              obtain ⟨C0, hC0⟩ : ∃ C0, w11.heap.size = C0 := ⟨_, rfl⟩
              obtain ⟨w12, hw12⟩ : ∃ w12, w11.alloc (.cells #[.int .i64 (X : Int), .int .i64 (Y : Int)] 26) = w12 := ⟨_, rfl⟩
              have hb11 : Below w10.heap.size w10 w11 := by rw [← hw11]; exact alloc_below _ _
              have hb12 : Below w11.heap.size w11 w12 := by rw [← hw12]; exact alloc_below _ _
              have H5 : Hid (fst5 w9 w12 R (.slice (some ⟨S, 0, none⟩) 1 1) C0 0) := by
                have hm11 : minec w10.heap.size w11 (.slice (some ⟨S, 0, none⟩) 1 1) [⟨X, Y⟩] := by rw [← hw11, ← hS]; exact minec_one _ _ _
                have e : R.take (0 + 1) = [⟨X, Y⟩] := by
                  cases R with
                  | nil => simp at h0
                  | cons r R => simp at h0; simp [h0]
                have s10 := HB10.out.size
                have s11 := hb11.size
                refine ⟨(HB10.out.trans (hb11.mono s10)).trans (hb12.mono (by omega)), ?_, ⟨X, Y, by rw [← hw12, ← hC0]; exact World.alloc_heap_new w11 _, h0⟩, by omega, ?_⟩
                · rw [e]; exact minec_mono (minec_below hm11 hb12) s10
                · intro e2
                  have := (World.ownsRow.lt hm11 C0 e2).2
                  omega
              obtain ⟨v0, v1, v2, v3, v4, v5, v6⟩ := HBX.out w10 (HCX.out w10 HB10.out).2.2.2.2
              obtain ⟨u0, u1, u2, u3, u4, u5, u6⟩ := HBX.out w11 (HCX.out w11 (HB10.out.trans (hb11.mono HB10.out.size))).2.2.2.2
              clear hR hRl hmR h0 hb11 hb12 hDb
              go_wp2_with fail
              clear v0 v1 v2 v3 v4 v5 v6 u0 u1 u2 u3 u4 u5 u6 hw11 hw12
              go_loopw [13, 14] (fun v pc wr => ∃ (j g' cap C : Nat), v = .slice (some ⟨g', 0, none⟩) (j + 1) cap ∧ pc = .pointer (some ⟨C, 0, none⟩) ∧ j < m ∧ Hid (fst5 w9 wr R (.slice (some ⟨g', 0, none⟩) (j + 1) cap) C j)) (fun v _ _ => m - lnv v)
              case atStart => exact ⟨0, S, 1, C0, rfl, rfl, HRT.out.2.2.2, H5⟩
              case round =>
                obtain ⟨j, g', cap, C, rfl, rfl, hjm, HF5⟩ := hrel
                obtain ⟨hBr, hmr, ⟨xi, yi, hCr, hRj⟩, hCs, hCv⟩ := HF5.out
                have hjl : j < R.length := by rw [HRT.out.2.1]; exact hjm
                obtain ⟨tin, tps⟩ := trl_at HRT.out.1 hjl
                rw [List.getElem?_eq_getElem hjl] at hRj
                have hRe := Option.some.inj hRj
                rw [hRe] at tin tps
                obtain ⟨X2, Y2, e2, hX2, hY2⟩ := tin
                simp only [Cel.mk.injEq] at e2
                obtain ⟨rfl, rfl⟩ := e2
                obtain ⟨q0, q1, q2, q3⟩ := free2 hCr
                obtain ⟨f0, f1, f2, f3, f4, f5, f6⟩ := HBX.out wr (HCX.out wr hBr).2.2.2.2
                have HBR : Hid (Below w9.heap.size w9 wr ∧ R[j] = ⟨X2, Y2⟩ ∧ C < wr.heap.size ∧ wr.heap[C]? = some (.cells #[.int .i64 (X2 : Int), .int .i64 (Y2 : Int)] 26)) := ⟨hBr, hRe, hp_lt hCr, hCr⟩
                by_cases hlt : j + 1 < m
                · have hjl1 : j + 1 < R.length := by rw [HRT.out.2.1]; exact hlt
                  obtain ⟨tp, ta⟩ := trl_next HRT.out.1 hjl1
                  rw [hRe] at tp ta
                  obtain ⟨⟨dx, dy⟩, hdd⟩ : ∃ q, R[j + 1] = q := ⟨_, rfl⟩
                  rw [hdd] at ta
                  have HDD : Hid (R[j + 1]? = some ⟨dx, dy⟩) := by unfold Hid; rw [List.getElem?_eq_getElem hjl1, hdd]
                  obtain ⟨J, hJ1, hJ2, hJ3⟩ := bsd_first HS.out hX2 hY2 tp ta
                  obtain ⟨L, hL⟩ : ∃ L, bsd W H X2 Y2 4 = L := ⟨_, rfl⟩
                  have hLl : L.length ≤ 4 := by rw [← hL]; exact bsd_len W H X2 Y2 4
                  rw [hL] at hJ1 hJ3
                  have hJl : J < L.length := (List.getElem?_eq_some_iff.1 hJ1).1
                  obtain ⟨I2, hI2⟩ : ∃ I2, Y2 * W + X2 = I2 := ⟨_, rfl⟩
                  have hI2l : I2 < W * H := by rw [← hI2]; exact pl_lt hX2 hY2
                  have eI2 : ixc W ⟨X2, Y2⟩ = I2 := by rw [ixc_nat]; exact hI2
                  rw [eI2] at hJ2 hJ3 tp
                  have hz1 : pa l I2 ≠ 1 := fun er => by have := HS.out.rock I2 hI2l er; omega
                  have hzb := sort_bd HOK.out.2.2.2 (j := I2) (by rw [HOK.out.2.2.1]; exact hI2l)
                  have HTS : Hid (∀ (i : Nat) (x y : Int), L[i]? = some (⟨x, y⟩ : Cel) → ∀ V, Below wr.heap.size wr V → Calls Try.prog 27 #[.agg #[.int .i64 x, .int .i64 y], .pointer (some ⟨B12, 0, none⟩), .pointer (some ⟨F, 0, none⟩), .pointer (some ⟨C, 0, none⟩)] V fun e w' => e = .returned (.bool (match L[i]? with | some e => wq W far (kc (pa l I2)) (pa far I2) e | none => false)) ∧ Below V.heap.size V w') := by
                    intro i x y hi V hV
                    have hmem : (⟨x, y⟩ : Cel) ∈ bsd W H X2 Y2 4 := by rw [hL]; exact List.mem_of_getElem? hi
                    obtain ⟨x', y', ec, hx', hy', -⟩ := bsd_adj hX2 hY2 hmem
                    simp only [Cel.mk.injEq] at ec
                    obtain ⟨rfl, rfl⟩ := ec
                    have hV9 : Below w9.heap.size w9 V := hBr.trans (hV.mono hBr.size)
                    have h := HCX.out V hV9
                    obtain ⟨b0, b1, b2, _, _, _, _⟩ := HBX.out V h.2.2.2.2
                    have hCV : V.heap[C]? = some (.cells #[.int .i64 (X2 : Int), .int .i64 (Y2 : Int)] 26) := by rw [hV.block C (hp_lt hCr)]; exact hCr
                    obtain ⟨b5, b6, _, _⟩ := free2 hCV
                    have hjl2 := pl_lt hx' hy'
                    refine (wtest_any W H X2 Y2 x' y' I2 (y' * W + x') P10 F B12 C g a c l (pa l I2) (kc (pa l I2)) (pa far I2) (pa far (y' * W + x')) V hI2 rfl hI2l hjl2 hN hX2 hY2 HOK.out.1 HOK.out.2.1 (by unfold Hid; rw [hI2]; rfl) hzb hz1 rfl (sol_bd HS.out hN I2 hI2l) (sol_bd HS.out hN _ hjl2) h.2.2.2.1 HOK.out.2.2.1 h.1 b0 b1 b2 h.2.1 b5 b6 (HFA.out V hV9 I2 hI2l) (HFA.out V hV9 _ hjl2)).mono ?_
                    rintro e w' ⟨rfl, hb'⟩
                    refine ⟨?_, hb'⟩
                    rw [hi]
                    simp only [wq, ixc_nat]
                  have HJ : Hid (L[J]? = some (⟨dx, dy⟩ : Cel) ∧ (∀ i : Nat, i < J → (match L[i]? with | some e => wq W far (kc (pa l I2)) (pa far I2) e | none => false) = false) ∧ (match L[J]? with | some e => wq W far (kc (pa l I2)) (pa far I2) e | none => false) = true) := by
                    refine ⟨hJ1, fun i hi => ?_, by rw [hJ1]; exact hJ2⟩
                    cases hq : L[i]? with
                    | none => rfl
                    | some e => exact hJ3 i e hi hq
                  have HL : Hid (bsd W H X2 Y2 4 = L) := hL
                  obtain ⟨n3, hn3⟩ : ∃ n3, L.length = n3 := ⟨_, rfl⟩
                  rw [hn3] at hJl hLl
                  have HN3 : Hid (L.length = n3) := hn3
                  have hX2b : X2 ≤ 1000000 := by have := HOK.out.1; omega
                  have hY2b : Y2 ≤ 1000000 := by have := HOK.out.2.1; omega
                  have hne : ¬ ((X2 : Int) = X1 ∧ (Y2 : Int) = Y1) := by
                    rintro ⟨e1, e2⟩
                    have e3 : X2 = X1 := by omega
                    have e4 : Y2 = Y1 := by omega
                    have := (HS.out.zero I2 hI2l).2 ((fst_cel (inf_inb.1 HIA.out) I2).2 (by rw [ixc_nat, ← hI2, e3, e4]))
                    omega
                  clear hJ1 hJ2 hJ3 hL hn3 hz1 hzb eI2 tp ta hdd hRe hRj hBr hmr hCr tps hI2
                  by_cases hxx : (X2 : Int) = X1
                  · have e1 : ((X2 : Int) == X1) = true := by simp [hxx]
                    have e2 : ((Y2 : Int) == Y1) = false := by simp; intro e; exact hne ⟨hxx, by omega⟩
                    clear hne hxx
                    go_wp2_with fail
                    refine (Beside_any W H (some a) (W * H) c X2 Y2 wr HOK.out.1 HOK.out.2.1 hX2b hY2b).mono ?_
                    rintro e w3' ⟨v3, rfl, hm3, hb3⟩
                    rw [HL.out] at hm3
                    obtain ⟨g3, cap3, rfl, hg3, hg3s, hc3⟩ := minec_some hm3 (by rw [HN3.out]; omega)
                    rw [HN3.out] at hm3 hc3 ⊢
                    have hcr3 : crow w3' (some ⟨g3, 0, none⟩) L := by
                      obtain ⟨p', c', e, h, _⟩ := minec_full hm3
                      simp only [Value.slice.injEq] at e
                      rw [e.1]; exact h
                    have HIF : Hid (Calls Try.prog 26 #[.slice (some ⟨g3, 0, none⟩) n3 cap3, .func (.func 27) #[] #[.pointer (some ⟨B12, 0, none⟩), .pointer (some ⟨F, 0, none⟩), .pointer (some ⟨C, 0, none⟩)]] w3' fun e w' => e = .returned (.int .i64 (J : Int)) ∧ Below w3'.heap.size w3' w') :=
                      IndexFuncc_at (some ⟨g3, 0, none⟩) n3 cap3 _ _ _ L _ J w3' HN3.out (by omega) hcr3 hJl HJ.out.2.2 HJ.out.2.1 (fun i x y hi V hV => HTS.out i x y hi V (hb3.trans (hV.mono hb3.size)))
                    have HC3 : Hid (crow w3' (some ⟨g3, 0, none⟩) L ∧ Below wr.heap.size wr w3') := ⟨hcr3, hb3⟩
                    clear hm3 hcr3 hb3 hg3 hg3s hc3 f0 f1 f2 f3 f4 f5 f6 q0 q1 q2 q3
                    go_wp2_with fail
                    refine HIF.out.mono ?_
                    rintro e w4' ⟨rfl, hb4⟩
                    have hbr4 : Below wr.heap.size wr w4' := HC3.out.2.trans (hb4.mono HC3.out.2.size)
                    obtain ⟨a3, ea3, s0, s1⟩ := crow_below HC3.out.1 hb4 J _ HJ.out.1
                    cases ea3
                    rw [add_zero_at] at s0 s1
                    have hC4 : w4'.heap[C]? = some (.cells #[.int .i64 (X2 : Int), .int .i64 (Y2 : Int)] 26) := by rw [hbr4.block C HBR.out.2.2.1]; exact HBR.out.2.2.2
                    obtain ⟨q0, q1, q2, q3⟩ := free2 hC4
                    obtain ⟨w5', hw5⟩ : ∃ w5', (w4'.setCell ⟨C, 0, none⟩ (.int .i64 dx)).setCell ⟨C, 1, none⟩ (.int .i64 dy) = w5' := ⟨_, rfl⟩
                    obtain ⟨C6, hC6⟩ : ∃ C6, w5'.heap.size = C6 := ⟨_, rfl⟩
                    obtain ⟨w6', hw6⟩ : ∃ w6', w5'.alloc (.cells #[.int .i64 dx, .int .i64 dy] 26) = w6' := ⟨_, rfl⟩
                    obtain ⟨r0, r1, -⟩ := set2 hC4 w5' hw5.symm
                    obtain ⟨r2, r3⟩ : w6'.cell? ⟨C6, 0, none⟩ = some (.int .i64 dx) ∧ w6'.cell? ⟨C6, 1, none⟩ = some (.int .i64 dy) := by rw [← hw6, ← hC6]; constructor <;> simp [go_sem]
                    obtain ⟨g7, cap7, w7', hrun, hf7⟩ := fst5_next HF5.out hjl1 (by have := HRT.out; omega) hbr4 hw5 hC6 hw6 HDD.out
                    have HRun : Hid ((Builtin.append_ #[27, 27] 27 #[.slice (some ⟨g', 0, none⟩) (j + 1) cap, .slice (some ⟨w6'.heap.size, 0, none⟩) 1 1]).run Try.prog (w6'.alloc (.cells #[.int .i64 dx, .int .i64 dy] 26)) = .ok (.slice (some ⟨g7, 0, none⟩) (j + 1 + 1) cap7) w7') := hrun
                    have HF7 : Hid (fst5 w9 w7' R (.slice (some ⟨g7, 0, none⟩) (j + 1 + 1) cap7) C6 (j + 1)) := hf7
                    have l1 : (J : Int) < n3 := by omega
                    have l2 : (0 : Int) ≤ J := by omega
                    clear hrun hf7 hC4 hb4 hbr4 HIF
                    go_wp2_with (at_builtin; refine wpList_append_run rfl _ _ 27 rfl (.slice (some ⟨g', 0, none⟩) (j + 1) cap) (.slice (some ⟨w6'.heap.size, 0, none⟩) 1 1) rfl rfl HRun.out ?_)
                    go_wp2_with fail
                    go_roundw
                    case rel => exact ⟨j + 1, g7, cap7, C6, rfl, rfl, by omega, HF7⟩
                    case measure => simp [lnv]; omega
                  · have e1 : ((X2 : Int) == X1) = false := by simp; intro e; exact hxx (by omega)
                    clear hne hxx
                    go_wp2_with fail
                    refine (Beside_any W H (some a) (W * H) c X2 Y2 wr HOK.out.1 HOK.out.2.1 hX2b hY2b).mono ?_
                    rintro e w3' ⟨v3, rfl, hm3, hb3⟩
                    rw [HL.out] at hm3
                    obtain ⟨g3, cap3, rfl, hg3, hg3s, hc3⟩ := minec_some hm3 (by rw [HN3.out]; omega)
                    rw [HN3.out] at hm3 hc3 ⊢
                    have hcr3 : crow w3' (some ⟨g3, 0, none⟩) L := by
                      obtain ⟨p', c', e, h, _⟩ := minec_full hm3
                      simp only [Value.slice.injEq] at e
                      rw [e.1]; exact h
                    have HIF : Hid (Calls Try.prog 26 #[.slice (some ⟨g3, 0, none⟩) n3 cap3, .func (.func 27) #[] #[.pointer (some ⟨B12, 0, none⟩), .pointer (some ⟨F, 0, none⟩), .pointer (some ⟨C, 0, none⟩)]] w3' fun e w' => e = .returned (.int .i64 (J : Int)) ∧ Below w3'.heap.size w3' w') :=
                      IndexFuncc_at (some ⟨g3, 0, none⟩) n3 cap3 _ _ _ L _ J w3' HN3.out (by omega) hcr3 hJl HJ.out.2.2 HJ.out.2.1 (fun i x y hi V hV => HTS.out i x y hi V (hb3.trans (hV.mono hb3.size)))
                    have HC3 : Hid (crow w3' (some ⟨g3, 0, none⟩) L ∧ Below wr.heap.size wr w3') := ⟨hcr3, hb3⟩
                    clear hm3 hcr3 hb3 hg3 hg3s hc3 f0 f1 f2 f3 f4 f5 f6 q0 q1 q2 q3
                    go_wp2_with fail
                    refine HIF.out.mono ?_
                    rintro e w4' ⟨rfl, hb4⟩
                    have hbr4 : Below wr.heap.size wr w4' := HC3.out.2.trans (hb4.mono HC3.out.2.size)
                    obtain ⟨a3, ea3, s0, s1⟩ := crow_below HC3.out.1 hb4 J _ HJ.out.1
                    cases ea3
                    rw [add_zero_at] at s0 s1
                    have hC4 : w4'.heap[C]? = some (.cells #[.int .i64 (X2 : Int), .int .i64 (Y2 : Int)] 26) := by rw [hbr4.block C HBR.out.2.2.1]; exact HBR.out.2.2.2
                    obtain ⟨q0, q1, q2, q3⟩ := free2 hC4
                    obtain ⟨w5', hw5⟩ : ∃ w5', (w4'.setCell ⟨C, 0, none⟩ (.int .i64 dx)).setCell ⟨C, 1, none⟩ (.int .i64 dy) = w5' := ⟨_, rfl⟩
                    obtain ⟨C6, hC6⟩ : ∃ C6, w5'.heap.size = C6 := ⟨_, rfl⟩
                    obtain ⟨w6', hw6⟩ : ∃ w6', w5'.alloc (.cells #[.int .i64 dx, .int .i64 dy] 26) = w6' := ⟨_, rfl⟩
                    obtain ⟨r0, r1, -⟩ := set2 hC4 w5' hw5.symm
                    obtain ⟨r2, r3⟩ : w6'.cell? ⟨C6, 0, none⟩ = some (.int .i64 dx) ∧ w6'.cell? ⟨C6, 1, none⟩ = some (.int .i64 dy) := by rw [← hw6, ← hC6]; constructor <;> simp [go_sem]
                    obtain ⟨g7, cap7, w7', hrun, hf7⟩ := fst5_next HF5.out hjl1 (by have := HRT.out; omega) hbr4 hw5 hC6 hw6 HDD.out
                    have HRun : Hid ((Builtin.append_ #[27, 27] 27 #[.slice (some ⟨g', 0, none⟩) (j + 1) cap, .slice (some ⟨w6'.heap.size, 0, none⟩) 1 1]).run Try.prog (w6'.alloc (.cells #[.int .i64 dx, .int .i64 dy] 26)) = .ok (.slice (some ⟨g7, 0, none⟩) (j + 1 + 1) cap7) w7') := hrun
                    have HF7 : Hid (fst5 w9 w7' R (.slice (some ⟨g7, 0, none⟩) (j + 1 + 1) cap7) C6 (j + 1)) := hf7
                    have l1 : (J : Int) < n3 := by omega
                    have l2 : (0 : Int) ≤ J := by omega
                    clear hrun hf7 hC4 hb4 hbr4 HIF
                    go_wp2_with (at_builtin; refine wpList_append_run rfl _ _ 27 rfl (.slice (some ⟨g', 0, none⟩) (j + 1) cap) (.slice (some ⟨w6'.heap.size, 0, none⟩) 1 1) rfl rfl HRun.out ?_)
                    go_wp2_with fail
                    go_roundw
                    case rel => exact ⟨j + 1, g7, cap7, C6, rfl, rfl, by omega, HF7⟩
                    case measure => simp [lnv]; omega
                · obtain ⟨k, rfl⟩ : ∃ k, m = k + 1 := ⟨m - 1, by omega⟩
                  obtain rfl : j = k := by omega
                  have hend := trl_end HS.out (fun i _ => fst_cel (inf_inb.1 HIA.out) i) HRT.out.1 (k := j) (by rw [HRT.out.2.1])
                  rw [hRe] at hend
                  have hae := ixc_inj ⟨X2, Y2, rfl, hX2, hY2⟩ (inf_inb.1 HIA.out) hend
                  simp only [Cel.mk.injEq] at hae
                  have ex : X2 = X1 := by omega
                  have ey : Y2 = Y1 := by omega
                  subst ex ey
                  have hmk : minec w9.heap.size wr (.slice (some ⟨g', 0, none⟩) (j + 1) cap) R := by
                    have := hmr
                    rwa [List.take_of_length_le (by rw [HRT.out.2.1]; exact Nat.le_refl _)] at this
                  have hgg := (World.ownsRow.lt hmk g' rfl).1
                  have HMK : Hid (minec w9.heap.size wr (.slice (some ⟨g', 0, none⟩) (j + 1) cap) R) := hmk
                  clear hmk hend hae hRe hRj hBr hmr hCr tps
                  go_wp2_with fail
                  refine (Reverse_any w9.heap.size g' (j + 1) cap R wr HMK.out HRT.out.2.1 (by omega) (by have := HRT.out; omega)).mono ?_
                  rintro e w13 ⟨rfl, hm13, he13⟩
                  have hB13 : Below w9.heap.size w9 w13 := HBR.out.1.trans (he13.below HBR.out.1.size (fun q hq e => by omega))
                  have H13 : Hid (Below w9.heap.size w9 w13 ∧ minec w9.heap.size w13 (.slice (some ⟨g', 0, none⟩) (j + 1) cap) R.reverse) := ⟨hB13, hm13⟩
                  clear f0 f1 f2 f3 f4 f5 f6 q0 q1 q2 q3
                  obtain ⟨f0, f1, f2, f3, f4, f5, f6⟩ := HBX.out w13 (HCX.out w13 hB13).2.2.2.2
                  have fb := (HCX.out w13 hB13).2.1
                  clear hm13 he13 hB13 hgg
                  go_wp2_with fail
                  refine (HAT.out w13 H13.out.1).mono ?_
                  rintro e w14 ⟨rfl, hb14⟩
                  have H14 : Hid (Below w.heap.size w w14 ∧ minec w.heap.size w14 (.slice (some ⟨g', 0, none⟩) (j + 1) cap) R.reverse) :=
                    ⟨HBW9.out.trans ((H13.out.1.trans (hb14.mono H13.out.1.size)).mono HBW9.out.size), minec_mono (minec_below H13.out.2 hb14) HBW9.out.size⟩
                  clear hb14 f0 f1 f2 f3 f4 f5 f6 fb
                  go_wp2_with fail
                  go_ret3
                  exact ⟨⟨_, _, _, rfl, .inr ⟨rfl, W, H, far, R, g', cap, HGD.out, by rw [HIC.out, HD.out]; omega, by rw [HIC.out, HD.out], HRT.out.1, by have := HRT.out; omega, by rw [HRT.out.2.1]; rfl, H14.out.2⟩⟩, H14.out.1⟩
  · have d1 : (E == 0) = false := by simp [h1]
    have HBW : Hid (Below w.heap.size w w1) := HB0.out.trans (HB1.out.mono HB0.out.size)
    have HPE : Hid (per A B l ⟨ax, ay⟩ ⟨bx, by_⟩ = E) := by unfold Hid; rw [per_ck (by rw [HE.out]; exact h1), HE.out]
    go_wp2_with fail
    go_ret3
    exact ⟨⟨_, _, _, rfl, .inl ⟨h1, .inl ⟨by rw [HPE.out]; exact h1, HPE.out.symm⟩, rfl, rfl⟩⟩, HBW.out⟩
end Go.Proofs.Ytkdammmikmljmaa
