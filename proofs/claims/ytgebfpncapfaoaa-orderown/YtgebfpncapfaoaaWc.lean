/- What Check returns of a world. -/
import Derived.Test.YtgebfpncapfaoaaWu
namespace Go.Proofs.Ytgebfpncapfaoaa
open Go.RowKit
set_option linter.unusedVariables false

theorem the_bool (P : Prop) : ∃ b : Bool, b = true ↔ P := ⟨@decide _ (Classical.propDecidable _), @decide_eq_true_iff _ (Classical.propDecidable _)⟩
set_option maxRecDepth 20000 in
set_option maxHeartbeats 4000000 in
theorem Check_world (s : Wld) (E : Int) (w : World) (h : s.fit w) (hE : Hid (wre s E)) :
    Calls Try.prog 48 #[s.val] w fun e w' => e = .returned (.int .i64 E) ∧ Below w.heap.size w w' := by
  obtain ⟨K, hK⟩ : ∃ K, ck s.A s.B s.l = K := ⟨_, rfl⟩
  have HFC : Hid (∀ V, Below w.heap.size w V → Calls Try.prog 65 #[.agg #[.int .i64 s.A, .int .i64 s.B, .slice s.p s.n s.c]] V fun e w' => e = .returned (.int .i64 K) ∧ Below V.heap.size V w') := fun V hV => by
    have := Check_any s.A s.B s.p s.n s.c s.l V (row_below h.r hV) h.h h.m
    rw [hK] at this; exact this
  have HCO : Hid (∀ V, Calls Try.prog 66 #[s.val] V fun e w' => e = .returned (.bool (cok s.N s.T)) ∧ Below V.heap.size V w') := fun V => haveCounts_any s V
  have HPL : Hid (∀ (V : World) (W H : Nat) (b : Bool), Below w.heap.size w V → s.A = W → s.B = H → okf W H s.l → s.nb ≤ 8 → (b = true ↔ PLr W H s.l s.lb s.ls) → Calls Try.prog 67 #[s.val] V fun e w' => e = .returned (.bool b) ∧ Below V.heap.size V w') := fun V W H b hV hA hB hf hnb hb => havePlayers_at s W H b V (Wld.fit_below h hV) hA hB hf hnb hb
  have HMN : Hid (∀ (V : World) (W H : Nat) (b : Bool), Below w.heap.size w V → s.A = W → s.B = H → okf W H s.l → (b = true ↔ MNr s.l s.lm) → Calls Try.prog 68 #[s.val] V fun e w' => e = .returned (.bool b) ∧ Below V.heap.size V w') := fun V W H b hV hA hB hf hb => haveMines_at s W H b V (Wld.fit_below h hV) hA hB hf hb
  have HTR : Hid (∀ (V : World) (W H : Nat) (b : Bool), Below w.heap.size w V → s.A = W → s.B = H → okf W H s.l → s.nb ≤ 8 → s.nt ≤ 100 → (b = true ↔ TRr W H s.l s.nb s.N s.lt) → Calls Try.prog 69 #[s.val] V fun e w' => e = .returned (.bool b) ∧ Below V.heap.size V w') := fun V W H b hV hA hB hf hnb hnt hb => haveTroops_at s W H b V (Wld.fit_below h hV) hA hB hf hnb hnt hb
  clear h
  obtain ⟨A, B, p, n, c, l, pb, nb, cb, lb, ps, ns, cs, ls, pm, nm, cm, lm, pt, nt, ct, lt, N, T⟩ := s
  unfold Wld.val at *
  dsimp only at *
  obtain ⟨F, hF⟩ : ∃ F, w.heap.size = F := ⟨_, rfl⟩
  obtain ⟨w0, hw0⟩ : ∃ w0, w.alloc (.cells #[.int .i64 A, .int .i64 B, .slice p n c, .slice pb nb cb, .slice ps ns cs, .slice pm nm cm, .slice pt nt ct, .int .i64 N, .int .i64 T] 41) = w0 := ⟨_, rfl⟩
  have HBX : Hid (∀ V, Below w0.heap.size w0 V → c9 V F (.int .i64 A) (.int .i64 B) (.slice p n c) (.slice pb nb cb) (.slice ps ns cs) (.slice pm nm cm) (.slice pt nt ct) (.int .i64 N) (.int .i64 T)) := fun V hV => boxw hF hw0 hV
  have hB0 : Below w.heap.size w w0 := by rw [← hw0]; exact alloc_below _ _
  have HB0 : Hid (Below w.heap.size w w0) := hB0
  have HUP : Hid (∀ V, Below w0.heap.size w0 V → Below w.heap.size w V) := fun V hV => HB0.out.trans (hV.mono HB0.out.size)
  obtain ⟨z0, z1, z2, z3, z4, z5, z6, z7, z8⟩ := HBX.out w0 (Below.refl _ _)
  have HCK : Hid (ck A B l = K) := hK
  have HS0 : Hid (wre ⟨A, B, p, n, c, l, pb, nb, cb, lb, ps, ns, cs, ls, pm, nm, cm, lm, pt, nt, ct, lt, N, T⟩ E) := hE
  clear hK hB0 hE
  go_enter Try.func48, Try.ntmps48
  go_wp2_with fail
  refine (HFC.out w0 HB0.out).mono ?_
  rintro e w1 ⟨rfl, hb1⟩
  have HB1 : Hid (Below w0.heap.size w0 w1) := hb1
  clear z0 z1 z2 z3 z4 z5 z6 z7 z8 hw0 hb1
  obtain ⟨z0, z1, z2, z3, z4, z5, z6, z7, z8⟩ := HBX.out w1 HB1.out
  by_cases hK0 : K = 0
  rotate_left
  · have d1 : (K != 0) = true := by simp [hK0]
    have eE : E = K := by
      rcases HS0.out with ⟨_, h⟩ | ⟨h, _⟩ | ⟨h, _⟩
      · rw [h]; exact HCK.out
      · exact absurd (HCK.out.symm.trans h) hK0
      · exact absurd (HCK.out.symm.trans h) hK0
    subst eE
    go_wp2_with fail
    go_ret
    exact ⟨rfl, HUP.out w1 HB1.out⟩
  subst hK0
  obtain ⟨W, H, rfl, rfl, hf⟩ := ck_zero HCK.out
  have HF : Hid (okf W H l) := hf
  clear hf
  by_cases hnb : 8 < nb
  · have HE : Hid (E = 2) := by
      rcases HS0.out with ⟨h, _⟩ | ⟨_, _, h⟩ | ⟨_, h, _⟩
      · exact absurd HCK.out h
      · exact h
      · dsimp only at h; omega
    have d1 : (8 : Int) < nb := by omega
    go_wp2_with fail
    go_ret
    exact ⟨by rw [HE.out]; rfl, HUP.out w1 HB1.out⟩
  have d1 : (nb : Int) ≤ 8 := by omega
  by_cases hnt : 100 < nt
  · have HE : Hid (E = 2) := by
      rcases HS0.out with ⟨h, _⟩ | ⟨_, _, h⟩ | ⟨_, _, h, _⟩
      · exact absurd HCK.out h
      · exact h
      · dsimp only at h; omega
    have d2 : (100 : Int) < nt := by omega
    go_wp2_with fail
    go_ret
    exact ⟨by rw [HE.out]; rfl, HUP.out w1 HB1.out⟩
  have d2 : (nt : Int) ≤ 100 := by omega
  obtain ⟨b0, hb0⟩ : ∃ b0, cok N T = b0 := ⟨_, rfl⟩
  obtain ⟨b1, hb1⟩ := the_bool (PLr W H l lb ls)
  obtain ⟨b2, hb2⟩ := the_bool (MNr l lm)
  obtain ⟨b3, hb3⟩ := the_bool (TRr W H l nb N lt)
  have HE0 : Hid (b0 = true → b1 = true → b2 = true → b3 = true → E = 0) := fun h0 h1 h2 h3 => by
    rcases HS0.out with ⟨h, _⟩ | ⟨_, h, _⟩ | ⟨_, _, _, h⟩
    · exact absurd HCK.out h
    · dsimp only at h; omega
    · rcases h with ⟨_, h⟩ | ⟨h, _⟩
      · exact h
      · exact absurd ⟨W, H, rfl, rfl, HF.out, by dsimp only; omega, by dsimp only; omega, hb0.trans h0, hb1.1 h1, hb2.1 h2, hb3.1 h3⟩ h
  have HE4 : Hid (¬ (b0 = true ∧ b1 = true ∧ b2 = true ∧ b3 = true) → E = 4) := fun hn => by
    rcases HS0.out with ⟨h, _⟩ | ⟨_, h, _⟩ | ⟨_, _, _, h⟩
    · exact absurd HCK.out h
    · dsimp only at h; omega
    · rcases h with ⟨⟨W', H', hk⟩, _⟩ | ⟨_, h⟩
      · obtain ⟨hA, hB, _, _, _, h0, h1, h2, h3⟩ := hk
        dsimp only at hA hB h0 h1 h2 h3
        obtain rfl : W = W' := by omega
        obtain rfl : H = H' := by omega
        exact absurd ⟨hb0.symm.trans h0, hb1.2 h1, hb2.2 h2, hb3.2 h3⟩ hn
      · exact h
  have HC0 : Hid (∀ V, Calls Try.prog 66 #[.agg #[.int .i64 (W : Int), .int .i64 (H : Int), .slice p n c, .slice pb nb cb, .slice ps ns cs, .slice pm nm cm, .slice pt nt ct, .int .i64 N, .int .i64 T]] V fun e w' => e = .returned (.bool b0) ∧ Below V.heap.size V w') := fun V => by have := HCO.out V; rw [hb0] at this; exact this
  have HC1 : Hid (∀ V, Below w0.heap.size w0 V → Calls Try.prog 67 #[.agg #[.int .i64 (W : Int), .int .i64 (H : Int), .slice p n c, .slice pb nb cb, .slice ps ns cs, .slice pm nm cm, .slice pt nt ct, .int .i64 N, .int .i64 T]] V fun e w' => e = .returned (.bool b1) ∧ Below V.heap.size V w') := fun V hV => HPL.out V W H b1 (HUP.out V hV) rfl rfl HF.out (by omega) hb1
  have HC2 : Hid (∀ V, Below w0.heap.size w0 V → Calls Try.prog 68 #[.agg #[.int .i64 (W : Int), .int .i64 (H : Int), .slice p n c, .slice pb nb cb, .slice ps ns cs, .slice pm nm cm, .slice pt nt ct, .int .i64 N, .int .i64 T]] V fun e w' => e = .returned (.bool b2) ∧ Below V.heap.size V w') := fun V hV => HMN.out V W H b2 (HUP.out V hV) rfl rfl HF.out hb2
  have HC3 : Hid (∀ V, Below w0.heap.size w0 V → Calls Try.prog 69 #[.agg #[.int .i64 (W : Int), .int .i64 (H : Int), .slice p n c, .slice pb nb cb, .slice ps ns cs, .slice pm nm cm, .slice pt nt ct, .int .i64 N, .int .i64 T]] V fun e w' => e = .returned (.bool b3) ∧ Below V.heap.size V w') := fun V hV => HTR.out V W H b3 (HUP.out V hV) rfl rfl HF.out (by omega) (by omega) hb3
  clear hb0 hb1 hb2 hb3 HFC HCO HPL HMN HTR hF
  go_wp2_with fail
  refine (HC0.out w1).mono ?_
  rintro e w2 ⟨rfl, hb2⟩
  have HB2 : Hid (Below w0.heap.size w0 w2) := HB1.out.trans (hb2.mono HB1.out.size)
  clear z0 z1 z2 z3 z4 z5 z6 z7 z8 hb2
  obtain ⟨z0, z1, z2, z3, z4, z5, z6, z7, z8⟩ := HBX.out w2 HB2.out
  cases b0 with
  | false =>
    have HE : Hid (E = 4) := HE4.out (by simp)
    go_wp2_with fail
    go_ret
    exact ⟨by rw [HE.out]; rfl, HUP.out w2 HB2.out⟩
  | true =>
  go_wp2_with fail
  refine (HC1.out w2 HB2.out).mono ?_
  rintro e w3 ⟨rfl, hb3⟩
  have HB3 : Hid (Below w0.heap.size w0 w3) := HB2.out.trans (hb3.mono HB2.out.size)
  clear z0 z1 z2 z3 z4 z5 z6 z7 z8 hb3
  obtain ⟨z0, z1, z2, z3, z4, z5, z6, z7, z8⟩ := HBX.out w3 HB3.out
  cases b1 with
  | false =>
    have HE : Hid (E = 4) := HE4.out (by simp)
    go_wp2_with fail
    go_ret
    exact ⟨by rw [HE.out]; rfl, HUP.out w3 HB3.out⟩
  | true =>
  go_wp2_with fail
  refine (HC2.out w3 HB3.out).mono ?_
  rintro e w4 ⟨rfl, hb4⟩
  have HB4 : Hid (Below w0.heap.size w0 w4) := HB3.out.trans (hb4.mono HB3.out.size)
  clear z0 z1 z2 z3 z4 z5 z6 z7 z8 hb4
  obtain ⟨z0, z1, z2, z3, z4, z5, z6, z7, z8⟩ := HBX.out w4 HB4.out
  cases b2 with
  | false =>
    have HE : Hid (E = 4) := HE4.out (by simp)
    go_wp2_with fail
    go_ret
    exact ⟨by rw [HE.out]; rfl, HUP.out w4 HB4.out⟩
  | true =>
  go_wp2_with fail
  refine (HC3.out w4 HB4.out).mono ?_
  rintro e w5 ⟨rfl, hb5⟩
  have HB5 : Hid (Below w0.heap.size w0 w5) := HB4.out.trans (hb5.mono HB4.out.size)
  clear z0 z1 z2 z3 z4 z5 z6 z7 z8 hb5
  cases b3 with
  | false =>
    have HE : Hid (E = 4) := HE4.out (by simp)
    go_wp2_with fail
    go_ret
    exact ⟨by rw [HE.out]; rfl, HUP.out w5 HB5.out⟩
  | true =>
  have he : E = 0 := by simpa using HE0.out
  have HE : Hid (E = 0) := he
  clear he
  go_wp2_with fail
  go_ret
  exact ⟨by rw [HE.out]; rfl, HUP.out w5 HB5.out⟩
end Go.Proofs.Ytgebfpncapfaoaa
