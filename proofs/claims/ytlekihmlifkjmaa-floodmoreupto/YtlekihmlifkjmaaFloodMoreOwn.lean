/- FloodMore: where what is handed in holds at most 1048576 values, the law answers true: from cells of two lists it is as far as from the nearer list; it is no matter in what order they stand. The condition: the bulk of the arguments (the second form). -/
import Derived.Test.YtlekihmlifkjmaaRows
import Derived.Test.YtlekihmlifkjmaaPost
import Derived.Test.YtlekihmlifkjmaaCm
import Derived.WalkKit
import Derived.ProofKit
import Derived.OpenShut
import Derived.SizedLaws
import Derived.ChangeMaps5
import Derived.JoinedCond
namespace Go.Proofs.Ytlekihmlifkjmaa.floodMore
open Go.ChangeShapes Go.WideShapes Go.ChangeAt Go.RowKit
set_option linter.unusedVariables false

theorem own : ownKnob Try.prog.godebug = none := by kernel_rfl

theorem fer_zero {W H : Nat} {l : List Int} {cs : List Cel} (hok : okf W H l) (hm : cs.length ≤ 100) (hc : cke W H l cs = 0) : fer W H l cs = 0 := by
  unfold fer
  rw [if_neg (by rw [ck_ok hok.1 hok.2.1 hok.2.2.1 hok.2.2.2]; simp), if_neg (by omega)]
  exact hc
/-- What a flood ended with. -/
def one (A B : Int) (l : List Int) (n : Nat) (cs : List Cel) (w : World) (v : Value) (e : Int) : Prop :=
  (e ≠ 0 ∧ fer A B l cs = e) ∨ ∃ (W H g : Nat) (far : List Int), A = W ∧ B = H ∧ n = W * H ∧ okf W H l ∧ cs.length ≤ 100 ∧ cke W H l cs = 0 ∧ e = 0 ∧ v = .slice (some ⟨g, 0, none⟩) (W * H) (W * H) ∧ row vi w (some ⟨g, 0, none⟩) far ∧ Sol W H l (fst_ W cs) far
theorem one_of {A B : Int} {l : List Int} {n : Nat} {cs : List Cel} {w w' : World} {e : Ending} (h : fno A B l cs e ∨ fyes A B l cs n w w' e) : ∃ v E, e = .returned (.tuple #[v, .int .i64 E]) ∧ one A B l n cs w' v E := by
  rcases h with ⟨E, hE, hf, rfl⟩ | ⟨W, H, g, far, hA', hB', hn', hok, hm, hck, rfl, hmn, hsol⟩
  · exact ⟨_, _, rfl, .inl ⟨hE, hf⟩⟩
  · exact ⟨_, _, rfl, .inr ⟨W, H, g, far, hA', hB', hn', hok, hm, hck, rfl, rfl, mine_row hmn, hsol⟩⟩
theorem one_below {A B : Int} {l : List Int} {n : Nat} {cs : List Cel} {w w' : World} {v : Value} {e : Int} (h : one A B l n cs w v e) (hb : Below w.heap.size w w') : one A B l n cs w' v e := by
  rcases h with h | ⟨W, H, g, far, h1, h2, h3, h4, h5, h6, h7, h8, h9, h10⟩
  · exact .inl h
  · exact .inr ⟨W, H, g, far, h1, h2, h3, h4, h5, h6, h7, h8, row_below h9 hb, h10⟩

set_option maxRecDepth 20000 in
set_option maxHeartbeats 4000000 in
theorem walk (s0 : Fld) (s1 : Cst) (s2 : Cst)  (w : World) (h0 : s0.fit w) (hs0 : s0.l.length ≤ 1048576) (h1 : s1.fit w) (hs1 : s1.l.length ≤ 1048576) (h2 : s2.fit w) (hs2 : s2.l.length ≤ 1048576) :
    Calls Try.prog 5 #[s0.val, s1.val, s2.val] w fun e w' => e = .returned (.bool true) ∧ Below w.heap.size w w' := by
  obtain ⟨A, B, p, c, l⟩ := s0
  obtain ⟨q, d, cs⟩ := s1
  obtain ⟨q2, d2, ms⟩ := s2
  obtain ⟨hA, hB, hrow, hfit, hlen, hpc, hlc⟩ := h0
  obtain ⟨hcrow, _, hclen, hqc, hqd⟩ := h1
  obtain ⟨hmrow, _, hmlen, hqc2, hqd2⟩ := h2
  unfold Fld.val Cst.val
  simp only at hA hB hrow hfit hlen hpc hlc hs0 hcrow hclen hqc hqd hs1 hmrow hmlen hqc2 hqd2 hs2 ⊢
  obtain ⟨n, hn⟩ : ∃ n, l.length = n := ⟨_, rfl⟩
  obtain ⟨m, hm⟩ : ∃ m, cs.length = m := ⟨_, rfl⟩
  obtain ⟨m2, hm2⟩ : ∃ m, ms.length = m := ⟨_, rfl⟩
  obtain ⟨XS, hX⟩ : ∃ XS, ms ++ cs = XS := ⟨_, rfl⟩
  obtain ⟨M3, hM3⟩ : ∃ M, XS.length = M := ⟨_, rfl⟩
  rw [hn] at hlen hlc ⊢
  rw [hm] at hclen hqd hs1 ⊢
  rw [hm2] at hmlen hqd2 hs2 ⊢
  have hM3' : M3 = m2 + m := by rw [← hM3, ← hX, List.length_append, hm, hm2]
  have HR : Hid (row vi w p l) := hrow
  have HN : Hid (l.length = n) := hn
  have HC : Hid (crow w q cs) := hcrow
  have HM : Hid (cs.length = m) := hm
  have HC2 : Hid (crow w q2 ms) := hmrow
  have HM2 : Hid (ms.length = m2) := hm2
  have HX : Hid (ms ++ cs = XS) := hX
  have HM3 : Hid (XS.length = M3 ∧ M3 = m2 + m) := ⟨hM3, hM3'⟩
  have HQ : Hid ((q = none → d = 0) ∧ (q2 = none → d2 = 0)) := ⟨hqc, hqc2⟩
  clear hrow hn hfit hs0 hcrow hm hA hB hmrow hm2 hX hM3 hM3' hqc hqc2
  obtain ⟨F, hF⟩ : ∃ F, w.heap.size = F := ⟨_, rfl⟩
  obtain ⟨w0, hw0⟩ : ∃ w0, w.alloc (.cells #[.int .i64 A, .int .i64 B, .slice p n c] 24) = w0 := ⟨_, rfl⟩
  have HBX : Hid (∀ V, Below w0.heap.size w0 V → V.cell? ⟨F, 0, none⟩ = some (.int .i64 A) ∧ V.cell? ⟨F, 1, none⟩ = some (.int .i64 B) ∧ V.cell? ⟨F, 2, none⟩ = some (.slice p n c)) := by
    intro V hV; subst hw0; rw [← hF]; exact box3 hV
  have HB0 : Hid (Below w.heap.size w w0) := by rw [← hw0]; exact alloc_below _ _
  obtain ⟨z0, z1, z2⟩ := HBX.out w0 (Below.refl _ _)
  have HALL : Hid (∀ V, Below w0.heap.size w0 V → row vi V p l ∧ crow V q cs ∧ crow V q2 ms ∧ Below w.heap.size w V) := fun V hV =>
    have h := HB0.out.trans (hV.mono HB0.out.size)
    ⟨row_below HR.out h, crow_below HC.out h, crow_below HC2.out h, h⟩
  go_enter Try.func5, Try.ntmps5
  go_wp2_with fail
  refine (From_any A B p q n c m d l cs w0 (HALL.out w0 (Below.refl _ _)).1 HN.out hlen (HALL.out w0 (Below.refl _ _)).2.1 HM.out).mono ?_
  rintro e w1 ⟨hcase, hb1⟩
  obtain ⟨v1, e1, rfl, ho1⟩ := one_of hcase
  have HO1 : Hid (one A B l n cs w1 v1 e1) := ho1
  have HB1 : Hid (Below w0.heap.size w0 w1) := hb1
  obtain ⟨y0, y1, y2⟩ := HBX.out w1 hb1
  clear hcase hb1 ho1 z0 z1 z2
  go_wp2_with fail
  refine (From_any A B p q2 n c m2 d2 l ms w1 (HALL.out w1 HB1.out).1 HN.out hlen (HALL.out w1 HB1.out).2.2.1 HM2.out).mono ?_
  rintro e w4 ⟨hcase, hb4⟩
  obtain ⟨v2, e2, rfl, ho2⟩ := one_of hcase
  have HO2 : Hid (one A B l n cs w4 v1 e1 ∧ one A B l n ms w4 v2 e2) := ⟨one_below HO1.out hb4, ho2⟩
  have HB4 : Hid (Below w0.heap.size w0 w4) := HB1.out.trans (hb4.mono HB1.out.size)
  obtain ⟨f0, f1, f2⟩ := HBX.out w4 HB4.out
  clear hcase hb4 ho2 HO1 y0 y1 y2
  have HAL4 : Hid (∀ V, Below w4.heap.size w4 V → row vi V p l ∧ crow V q cs ∧ crow V q2 ms) := fun V hV =>
    have h := HALL.out V (HB4.out.trans (hV.mono HB4.out.size))
    ⟨h.1, h.2.1, h.2.2.1⟩
  go_wp2_with fail
  go_region_held3 (fun V => Below w4.heap.size w4 V ∧ V.cell? ⟨F, 0, none⟩ = some (.int .i64 A) ∧ V.cell? ⟨F, 1, none⟩ = some (.int .i64 B) ∧ V.cell? ⟨F, 2, none⟩ = some (.slice p n c)) (first | with_reducible assumption | with_reducible exact k3_drew (by assumption) | with_reducible exact k3_of f0 f1 f2 hB7 | with_reducible exact k3_of f0 f1 f2 hB6 | with_reducible exact k3_of f0 f1 f2 hB5 | with_reducible exact k3_of f0 f1 f2 (Below.drew (Below.refl _ _)) | with_reducible exact k3_of f0 f1 f2 (Below.refl _ _)) (first
    | (go_at_call 15; refine (Clonec_any q2 m2 d2 ms _ (HAL4.out _ (And.left (by assumption))).2.2 HM2.out HQ.out.2 (by omega)).mono ?_; rintro e w5 ⟨v5, rfl, hm5, hb5⟩; have hB5 : Below w4.heap.size w4 w5 := k3_bel hb5 (by assumption); obtain ⟨v6, w6, hrun6, hm6, hg6⟩ := run_more (d := d) 25 hm5 (HAL4.out _ hB5).2.1 HM.out HQ.out.1 (by have := HM2.out; omega) hb5.size; have hB6 : Below w4.heap.size w4 w6 := (hB5.grown hg6 hB5.size (fun k hk => (World.ownsRow.lt hm5 k hk).1)); rw [HX.out] at hm6; obtain ⟨p6, c6, rfl, hc6⟩ := minec_form hm6 HM3.out.1)
    | (refine step_append_run rfl _ _ 25 rfl _ _ rfl rfl hrun6 ?_)
    | (go_at_call 7; refine (From_any A B p p6 n c M3 c6 l XS w6 (HAL4.out _ hB6).1 HN.out hlen hc6 HM3.out.1).mono ?_; rintro e w7 ⟨hcase7, hb7⟩; obtain ⟨v3, e3, rfl, ho3⟩ := one_of hcase7; have hB7 : Below w4.heap.size w4 w7 := hB6.trans (hb7.mono hB6.size)))
  have HO7 : Hid (one A B l n cs w7 v1 e1 ∧ one A B l n ms w7 v2 e2 ∧ one A B l n XS w7 v3 e3) := ⟨one_below HO2.out.1 hB7, one_below HO2.out.2 hB7, ho3⟩
  have HB7 : Hid (Below w0.heap.size w0 w7) := HB4.out.trans (hB7.mono HB4.out.size)
  have hsum : (m : Int) + (m2 : Int) ≤ 4000000 := by omega
  have hsum0 : (0 : Int) ≤ (m : Int) + (m2 : Int) := by omega
  clear hm5 hb5 hB5 hrun6 hm6 hg6 hB6 hc6 hcase7 hb7 ho3 hB7 HO2 f0 f1 f2 HAL4
  go_wp2_with fail
  refine (lives_any w7).mono ?_
  rintro e w8 ⟨rfl, hb8⟩
  have HB8 : Hid (Below w0.heap.size w0 w8) := HB7.out.trans (hb8.mono HB7.out.size)
  have HO8 : Hid (one A B l n cs w8 v1 e1 ∧ one A B l n ms w8 v2 e2 ∧ one A B l n XS w8 v3 e3) := ⟨one_below HO7.out.1 hb8, one_below HO7.out.2.1 hb8, one_below HO7.out.2.2 hb8⟩
  clear hb8 HO7
  by_cases h1 : e1 = 0
  · subst h1
    by_cases h2 : e2 = 0
    · subst h2
      by_cases h3 : 100 < m + m2
      · have h3' : (100 : Int) < (m : Int) + (m2 : Int) := by omega
        go_wp2_with fail
        refine (lives_any w8).mono ?_
        rintro e w9 ⟨rfl, hb9⟩
        have HB9 : Hid (Below w.heap.size w w9) := HB0.out.trans ((HB8.out.trans (hb9.mono HB8.out.size)).mono HB0.out.size)
        clear hb9
        go_wp2_with fail
        go_ret
        exact ⟨rfl, HB9.out⟩
      · have h3' : ¬ (100 : Int) < (m : Int) + (m2 : Int) := by omega
        have h3d : decide ((100 : Int) < (m : Int) + (m2 : Int)) = false := by simp; omega
        obtain ⟨o1, o2, o3⟩ := HO8.out
        rcases o1 with ⟨h, _⟩ | ⟨W, H, g1, far1, hA', hB', hn', hok, hm1, hk1, _, hv1, hr1, hs1⟩
        · exact absurd rfl h
        rcases o2 with ⟨h, _⟩ | ⟨W', H', g2, far2, hA2, hB2, _, _, hmm2, hk2, _, hv2, hr2, hs2⟩
        · exact absurd rfl h
        have eW : W' = W := by omega
        have eH : H' = H := by omega
        subst eW eH
        have hck3 : cke W' H' l XS = 0 := by rw [← HX.out]; exact cke_app hk2 hk1
        rcases o3 with ⟨h, hf⟩ | ⟨W3, H3, g3, far3, hA3, hB3, _, _, _, _, hE3, hv3, hr3, hs3⟩
        · exfalso
          rw [hA', hB', fer_zero hok (by rw [HM3.out.1, HM3.out.2]; omega) hck3] at hf
          exact h hf.symm
        have eW : W3 = W' := by omega
        have eH : H3 = H' := by omega
        subst eW eH
        subst hE3 hA' hB' hn' hv1 hv2 hv3
        have hN1 : 1 ≤ W3 * H3 := one_le hok.1 hok.2.1
        have hN2 : W3 * H3 ≤ 1600 := wh_le hok.1 hok.2.1
        have HCB : Hid (∀ i, i < W3 * H3 → pa far3 i = cmb (pa far1 i) (pa far2 i)) := by
          have h : Sol W3 H3 l (fun i => fst_ W3 ms i ∨ fst_ W3 cs i) far3 := by
            rw [← HX.out] at hs3
            exact ⟨hs3.len, fun i hi => (hs3.zero i hi).trans (fst_app i), hs3.low, hs3.rock, hs3.best, hs3.just, hs3.top⟩
          exact sol_comb hs1 hs2 h
        have HR8 : Hid (row vi w8 (some ⟨g1, 0, none⟩) far1 ∧ row vi w8 (some ⟨g2, 0, none⟩) far2 ∧ row vi w8 (some ⟨g3, 0, none⟩) far3) := ⟨hr1, hr2, hr3⟩
        have HSS : Hid (Sol W3 H3 l (fst_ W3 cs) far1 ∧ Sol W3 H3 l (fst_ W3 ms) far2 ∧ far3.length = W3 * H3) := ⟨hs1, hs2, hs3.len⟩
        clear hr1 hr2 hr3 hs1 hs2 hs3 hk1 hk2 hck3 hA2 hB2 hA3 hB3 hm1 hmm2 HO8 hok
        go_wp2_with fail
        go_loopw [57] (fun i wr => ∃ (k : Nat), i = .int .i64 k ∧ k ≤ W3 * H3 ∧ Hid (Below w8.heap.size w8 wr)) (fun i _ => W3 * H3 - (intOf i).toNat)
        case atStart => exact ⟨0, rfl, by omega, Below.refl _ _⟩
        case round =>
          obtain ⟨k, rfl, hk, HI⟩ := hrel
          by_cases hlt : k < W3 * H3
          · obtain ⟨x, hx⟩ : ∃ x, pa far1 k = x := ⟨_, rfl⟩
            obtain ⟨y, hy⟩ : ∃ x, pa far2 k = x := ⟨_, rfl⟩
            have hz := HCB.out k hlt
            rw [hx, hy] at hz
            have bx := sol_bd HSS.out.1 hN2 k hlt
            have by' := sol_bd HSS.out.2.1 hN2 k hlt
            rw [hx] at bx
            rw [hy] at by'
            have cx : wr.cell? ⟨g1, k, none⟩ = some (.int .i64 x) := by
              obtain ⟨b, hb, hcl⟩ := row_at (row_below HR8.out.1 HI.out) (j := k) (by rw [HSS.out.1.len]; exact hlt)
              cases hb
              rw [← pa_get far1, hx, add_zero_at] at hcl; exact hcl
            have cy : wr.cell? ⟨g2, k, none⟩ = some (.int .i64 y) := by
              obtain ⟨b, hb, hcl⟩ := row_at (row_below HR8.out.2.1 HI.out) (j := k) (by rw [HSS.out.2.1.len]; exact hlt)
              cases hb
              rw [← pa_get far2, hy, add_zero_at] at hcl; exact hcl
            obtain ⟨Z, hZ⟩ : ∃ Z, cmb x y = Z := ⟨_, rfl⟩
            have cz : wr.cell? ⟨g3, k, none⟩ = some (.int .i64 Z) := by
              obtain ⟨b, hb, hcl⟩ := row_at (row_below HR8.out.2.2 HI.out) (j := k) (by rw [HSS.out.2.2]; exact hlt)
              cases hb
              rw [← pa_get far3, hz, hZ, add_zero_at] at hcl; exact hcl
            have l1 : (k : Int) < W3 * H3 := by omega
            have l2 : (0 : Int) ≤ k := by omega
            have HZ : Hid (cmb x y = Z) := hZ
            clear hz hx hy hZ
            go_wp2_with fail
            go_region
            have cx' : wr.drew.cell? ⟨g1, k, none⟩ = some (.int .i64 x) := cx
            have cy' : wr.drew.cell? ⟨g2, k, none⟩ = some (.int .i64 y) := cy
            have cz' : wr.drew.cell? ⟨g3, k, none⟩ = some (.int .i64 Z) := cz
            have HI' : Hid (Below w8.heap.size w8 wr.drew) := HI.out.drew
            generalize wr.drew = w9 at cx' cy' cz' HI' ⊢
            clear cx cy cz
            by_cases hneg : min x y < 0
            · have hmx : max x y = Z := by have := HZ.out; unfold cmb at this; rw [if_pos hneg] at this; exact this
              have u2 : (Z != Z) = false := by simp
              go_wp2_with fail
              go_region
              have cz2 : w9.drew.cell? ⟨g3, k, none⟩ = some (.int .i64 Z) := cz'
              have HI2 : Hid (Below w8.heap.size w8 w9.drew) := HI'.out.drew
              generalize w9.drew = w10 at cz2 HI2 ⊢
              clear cx' cy' cz'
              go_wp2_with fail
              go_roundw
              case rel => exact ⟨k + 1, by go_num, by omega, HI2⟩
              case measure => simp [intOf]; omega
            · have hmn : min x y = Z := by have := HZ.out; unfold cmb at this; rw [if_neg hneg] at this; exact this
              have u2 : (Z != Z) = false := by simp
              rw [hmn] at hneg
              go_wp2_with fail
              go_roundw
              case rel => exact ⟨k + 1, by go_num, by omega, HI'⟩
              case measure => simp [intOf]; omega
          · obtain rfl : k = W3 * H3 := by omega
            have HE9 : Hid (Below w.heap.size w wr) := HB0.out.trans ((HB8.out.trans (HI.out.mono HB8.out.size)).mono HB0.out.size)
            have u1 : ((W3 : Int) * (H3 : Int) == (W3 : Int) * (H3 : Int)) = true := by simp
            go_wp2_with fail
            go_ret
            exact ⟨rfl, HE9.out⟩
    · have h2' : (e2 == 0) = false := by simp [h2]
      go_wp2_with fail
      refine (lives_any w8).mono ?_
      rintro e w9 ⟨rfl, hb9⟩
      have HB9 : Hid (Below w.heap.size w w9) := HB0.out.trans ((HB8.out.trans (hb9.mono HB8.out.size)).mono HB0.out.size)
      clear hb9
      go_wp2_with fail
      go_ret
      exact ⟨rfl, HB9.out⟩
  · have h1' : (e1 == 0) = false := by simp [h1]
    go_wp2_with fail
    refine (lives_any w8).mono ?_
    rintro e w9 ⟨rfl, hb9⟩
    have HB9 : Hid (Below w.heap.size w w9) := HB0.out.trans ((HB8.out.trans (hb9.mono HB8.out.size)).mono HB0.out.size)
    clear hb9
    go_wp2_with fail
    go_ret
    exact ⟨rfl, HB9.out⟩

set_option maxRecDepth 100000 in
theorem lifted (os : Os) (started : os.Started) (H : Type) (enc : TypeId × Value → H) (F : Stop.Interp) :
    ReturnsInHanded {} Try.checked os 5 .any ((Rows.OpenSpec.upto Rows.floodMoreSpec).pre6 enc Try.prog Try.f5 Rows.floodMoreUptoRow.domain false) (((Rows.OpenSpec.upto Rows.floodMoreSpec).at F).post enc Try.prog Try.f5 false true false false) := by
  refine returnsInHanded_of_cond (C := Try.checked) (s := Rows.OpenSpec.upto Rows.floodMoreSpec) (k := Rows.uptoSmall) rfl own started (by kernel_rfl) Try.func5
    (OpenSpec.witness (enc := enc) (C := Try.checked) (s := Rows.OpenSpec.upto Rows.floodMoreSpec) (k := Rows.uptoSmall) rfl false ⟨#[], #[.agg #[.int .i64 0, .int .i64 0, .slice none 0 0], .slice none 0 0, .slice none 0 0], []⟩ 8 (by kernel_rfl) (by kernel_rfl) (by kernel_rfl)
      (x := ([.agg [.lit (.int .i64 0), .lit (.int .i64 0), .nil], .nil, .nil], [], [])) (by kernel_rfl) rfl (by kernel_rfl)) ?_
  intro W base args ds gs before hval0 hW hcnd hk _
  have hval : ∀ (j : Nat) t v, Try.f5.params[j]? = some t → args[j]? = some v → Value.okWide Try.prog W .any base t v := hval0
  have hW' := hW
  obtain ⟨p, q, hA0, hV, rfl, hfz, hnd⟩ := hW
  have hA : DataW.TrodAll enc Try.prog W 0 (fun _ => true) true Try.f5.params.toList args.toList ds p := hA0
  rw [Try.params5] at hA hval
  obtain ⟨v0, vs0, d0, ds0, p0, q0, hargs, rfl, rfl, h0, r0⟩ := trodAll_cons hA
  obtain ⟨v1, vs1, d1, ds1, p1, q1, rfl, rfl, rfl, h1, r1⟩ := trodAll_cons r0
  obtain ⟨v2, vs2, d2, ds2, p2, q2, rfl, rfl, rfl, h2, r2⟩ := trodAll_cons r1
  obtain ⟨rfl, rfl, rfl⟩ := trodAll_nil r2
  obtain rfl : args = #[v0, v1, v2] := by cases args; simp_all
  obtain ⟨rfl, rfl⟩ := trodVars_none hV
  obtain ⟨s0, rfl, k0, d20, rfl, t0⟩ := open_fld Try.underlying24 Try.underlying3 Try.underlying22 rfl rfl rfl rfl rfl rfl (by kernel_rfl) (by kernel_rfl) (by kernel_rfl) (hval 0 24 v0 rfl rfl) h0
  obtain ⟨s1, rfl, k1, t1⟩ := open_cst Try.underlying25 Try.underlying38 Try.underlying3 Try.underlying3 rfl rfl (by kernel_rfl) (by kernel_rfl) (by kernel_rfl) (hval 1 25 v1 rfl rfl) h1
  obtain ⟨s2, rfl, k2, t2⟩ := open_cst Try.underlying25 Try.underlying38 Try.underlying3 Try.underlying3 rfl rfl (by kernel_rfl) (by kernel_rfl) (by kernel_rfl) (hval 2 25 v2 rfl rfl) h2
  have hk0 : Rows.uptoBulkAll _ ≤ 1048576 := of_decide_eq_true hk
  simp only [Rows.uptoBulkAll, Rows.uptoBulk, List.append_nil] at hk0
  have hs0 : s0.l.length ≤ 1048576 := Nat.le_trans (told_bulk t0) (by omega)
  have hs1 : s1.l.length ≤ 1048576 := Nat.le_trans (told_bulk t1) (by omega)
  have hs2 : s2.l.length ≤ 1048576 := Nat.le_trans (told_bulk t2) (by omega)
  clear hA0 hval0
  refine (walk s0 s1 s2  W k0 hs0 k1 hs1 k2 hs2).mono fun e W' ⟨he, hg⟩ => ?_
  subst he
  exact ⟨_, rfl, law_post (by kernel_rfl) (by kernel_rfl) rfl (by kernel_rfl) Try.underlying4 hW' rfl hg⟩

theorem over : Rows.floodMoreUptoRow.holds Try.pinned (Rows.OpenSpec.upto Rows.floodMoreSpec) :=
  OpenClaim.holds_of_cond 5 Try.f5 rfl rfl rfl rfl rfl rfl rfl ⟨rfl, rfl, rfl, rfl, rfl⟩ rfl rfl rfl rfl rfl (by kernel_rfl) Try.func5 (by kernel_rfl)
    (of_decide_eq_true (by kernel_rfl)) (by unfold Func.isWrapper; first | (rw [if_pos (by decide +kernel)]; kernel_rfl) | (rw [if_neg (by decide +kernel)]; exact ⟨rfl, rfl⟩))
    (fun os started H enc _ F => lifted os started H enc F)

theorem proved : Rows.FloodMoreUptoSaid :=
  over
end Go.Proofs.Ytlekihmlifkjmaa.floodMore

namespace Go.Proofs.Ytlekihmlifkjmaa
/-- FloodMore: where what is handed in holds at most 1048576 values, the law answers true: from cells of two lists it is as far as from the nearer list; it is no matter in what order they stand. The condition: the bulk of the arguments (the second form). -/
theorem floodMore_upto_holds : Rows.FloodMoreUptoSaid := floodMore.proved
#print axioms floodMore_upto_holds
end Go.Proofs.Ytlekihmlifkjmaa
