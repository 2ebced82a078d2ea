/- FloodSays: whatever is handed in, Cost and From answer what the document says. No conditions. -/
import Derived.Test.YtlekihmlifkjmaaRows
import Derived.Test.YtlekihmlifkjmaaPost
import Derived.Test.YtlekihmlifkjmaaFs
import Derived.WalkKit
import Derived.ProofKit
import Derived.OpenShut
import Derived.SizedLaws
import Derived.ChangeMaps5
import Derived.JoinedCond
namespace Go.Proofs.Ytlekihmlifkjmaa.floodSays
open Go.ChangeShapes Go.WideShapes Go.ChangeAt Go.RowKit
set_option linter.unusedVariables false

theorem own : ownKnob Try.prog.godebug = none := by kernel_rfl

theorem fer_zero {W H : Nat} {l : List Int} {cs : List Cel} (hok : okf W H l) (hm : cs.length ≤ 100) (hc : cke W H l cs = 0) : fer W H l cs = 0 := by
  unfold fer
  rw [if_neg (by rw [ck_ok hok.1 hok.2.1 hok.2.2.1 hok.2.2.2]; simp), if_neg (by omega)]
  exact hc
theorem Floods_any (A B : Int) (p q : Option Addr) (n c m d : Nat) (l : List Int) (cs : List Cel) (w : World) (hr : row vi w p l) (hn : l.length = n) (hm : n ≤ 9223372036854775807) (hc : crow w q cs) (hcm : cs.length = m) :
    Calls Try.prog 8 #[.agg #[.int .i64 A, .int .i64 B, .slice p n c], .slice q m d] w fun e w' => (fno A B l cs e ∨ fyes A B l cs n w w' e) ∧ Below w.heap.size w w' := by
  by_cases h0 : ck A B l = 0
  · obtain ⟨W, H, rfl, rfl, hW, hH, hl, hg⟩ := ck_yes h0
    have h1 : 1 ≤ l.length := by rw [hl]; exact one_le hW hH
    obtain ⟨a, rfl⟩ := row_some hr (by omega)
    rw [hl] at hn
    subst hn
    by_cases h2 : 100 < m
    · refine (Floods_many W H (some a) q (W * H) c m d l w hr hl hm h0 h2).mono ?_
      rintro e w' ⟨rfl, hb⟩
      exact ⟨.inl ⟨2, by decide, by unfold fer; rw [if_neg (by simp [h0]), if_pos (by omega)], rfl⟩, hb⟩
    · refine (Floods_cells W H a q c m d l cs _ w hr hW hH hl hg hc hcm (by omega) rfl).mono ?_
      rintro e w' ⟨⟨h3, rfl⟩ | ⟨h3, g, far, rfl, h4, h5⟩, hb⟩
      · exact ⟨.inl ⟨_, h3, by unfold fer; rw [if_neg (by simp [h0]), if_neg (by omega)]; rfl, rfl⟩, hb⟩
      · exact ⟨.inr ⟨W, H, g, far, rfl, rfl, rfl, ⟨hW, hH, hl, hg⟩, by omega, h3, rfl, h4, h5⟩, hb⟩
  · refine (Floods_no A B p q n c m d l _ w hr hn hm rfl h0).mono ?_
    rintro e w' ⟨rfl, hb⟩
    exact ⟨.inl ⟨_, h0, by unfold fer; rw [if_pos h0], rfl⟩, hb⟩
/-- What a flood ended with. -/
def one (A B : Int) (l : List Int) (n : Nat) (cs : List Cel) (w : World) (v : Value) (e : Int) : Prop :=
  fer A B l cs = e ∧ ((e ≠ 0 ∧ v = .slice none 0 0) ∨ ∃ (W H g : Nat) (far : List Int), A = W ∧ B = H ∧ n = W * H ∧ W * H ≤ 1600 ∧ e = 0 ∧ v = .slice (some ⟨g, 0, none⟩) (W * H) (W * H) ∧ row vi w (some ⟨g, 0, none⟩) far ∧ Sol W H l (fst_ W cs) far)
theorem one_of {A B : Int} {l : List Int} {n : Nat} {cs : List Cel} {w w' : World} {e : Ending} (h : fno A B l cs e ∨ fyes A B l cs n w w' e) : ∃ v E, e = .returned (.tuple #[v, .int .i64 E]) ∧ one A B l n cs w' v E := by
  rcases h with ⟨E, hE, hf, rfl⟩ | ⟨W, H, g, far, hA', hB', hn', hok, hm, hck, rfl, hmn, hsol⟩
  · exact ⟨_, _, rfl, hf, .inl ⟨hE, rfl⟩⟩
  · exact ⟨_, _, rfl, by rw [hA', hB']; exact fer_zero hok hm hck, .inr ⟨W, H, g, far, hA', hB', hn', wh_le hok.1 hok.2.1, rfl, rfl, mine_row hmn, hsol⟩⟩
theorem one_below {A B : Int} {l : List Int} {n : Nat} {cs : List Cel} {w w' : World} {v : Value} {e : Int} (h : one A B l n cs w v e) (hb : Below w.heap.size w w') : one A B l n cs w' v e := by
  rcases h with ⟨h0, h | ⟨W, H, g, far, h1, h2, h3, h4, h5, h6, h7, h8⟩⟩
  · exact ⟨h0, .inl h⟩
  · exact ⟨h0, .inr ⟨W, H, g, far, h1, h2, h3, h4, h5, h6, row_below h7 hb, h8⟩⟩
theorem one_equal {A B : Int} {l : List Int} {n : Nat} {cs : List Cel} {w : World} {v1 v2 : Value} {e1 e2 : Int} (h1 : one A B l n cs w v1 e1) (h2 : one A B l n cs w v2 e2) : e1 = e2 ∧ ∀ V, Below w.heap.size w V → Calls Try.prog 12 #[v1, v2] V fun e w' => e = .returned (.bool true) ∧ Below V.heap.size V w' := by
  obtain ⟨f1, h1⟩ := h1
  obtain ⟨f2, h2⟩ := h2
  have he : e1 = e2 := by rw [← f1, ← f2]
  refine ⟨he, fun V hV => ?_⟩
  rcases h1 with ⟨q1, rfl⟩ | ⟨W, H, g, far, hA, hB, hn, hN, hE, rfl, hr, hs⟩
  · rcases h2 with ⟨q2, rfl⟩ | ⟨W', H', g', far', _, _, _, _, hE', _⟩
    · exact Equal_b none none 0 0 0 [] V rfl (by decide) (row_nil _ _ _) (row_nil _ _ _)
    · exact absurd (he.trans hE') q1
  · rcases h2 with ⟨q2, _⟩ | ⟨W', H', g', far', hA', hB', _, _, _, rfl, hr', hs'⟩
    · exact absurd (he.symm.trans hE) q2
    · have eW : W' = W := by omega
      have eH : H' = H := by omega
      subst eW eH
      have ef := sol_one hs hs'
      subst ef
      exact Equal_b (some ⟨g, 0, none⟩) (some ⟨g', 0, none⟩) (W' * H') _ _ far V hs.len (by omega) (row_below hr hV) (row_below hr' hV)

set_option maxRecDepth 20000 in
set_option maxHeartbeats 4000000 in
theorem walk (s0 : Fld) (s1 : Cst) (a2 : Int) (w2 : (Lit.int .i64 a2).wf = true) (w : World) (h0 : s0.fit w) (hs0 : s0.l.length * 8 ≤ 140737488351232) (h1 : s1.fit w) (hs1 : s1.l.length * 16 ≤ 140737488351232) :
    Calls Try.prog 3 #[s0.val, s1.val, .int .i64 a2] w fun e w' => e = .returned (.bool true) ∧ Below w.heap.size w w' := by
  obtain ⟨A, B, p, c, l⟩ := s0
  obtain ⟨q, d, cs⟩ := s1
  obtain ⟨hA, hB, hrow, hfit, hlen, hpc, hlc⟩ := h0
  obtain ⟨hcrow, _, hclen, hqc, hqd⟩ := h1
  unfold Fld.val Cst.val
  simp only at hA hB hrow hfit hlen hpc hlc hs0 hcrow hclen hqc hqd hs1 ⊢
  obtain ⟨n, hn⟩ : ∃ n, l.length = n := ⟨_, rfl⟩
  obtain ⟨m, hm⟩ : ∃ m, cs.length = m := ⟨_, rfl⟩
  rw [hn] at hlen hlc ⊢
  rw [hm] at hclen hqd ⊢
  have HR : Hid (row vi w p l) := hrow
  have HN : Hid (l.length = n) := hn
  have HC : Hid (crow w q cs) := hcrow
  have HM : Hid (cs.length = m) := hm
  clear hrow hn hfit hs0 hcrow hm hs1 hA hB w2
  obtain ⟨F, hF⟩ : ∃ F, w.heap.size = F := ⟨_, rfl⟩
  obtain ⟨w0, hw0⟩ : ∃ w0, w.alloc (.cells #[.int .i64 A, .int .i64 B, .slice p n c] 24) = w0 := ⟨_, rfl⟩
  have HBX : Hid (∀ V, Below w0.heap.size w0 V → V.cell? ⟨F, 0, none⟩ = some (.int .i64 A) ∧ V.cell? ⟨F, 1, none⟩ = some (.int .i64 B) ∧ V.cell? ⟨F, 2, none⟩ = some (.slice p n c)) := by
    intro V hV; subst hw0; rw [← hF]; exact box3 hV
  have HB0 : Hid (Below w.heap.size w w0) := by rw [← hw0]; exact alloc_below _ _
  obtain ⟨z0, z1, z2⟩ := HBX.out w0 (Below.refl _ _)
  obtain ⟨P, hP⟩ : ∃ P, a2 = P := ⟨_, rfl⟩
  subst hP
  go_enter Try.func3, Try.ntmps3
  go_wp2_with fail
  refine (From_any A B p q n c m d l cs w0 (row_below HR.out HB0.out) HN.out hlen (crow_below HC.out HB0.out) HM.out).mono ?_
  rintro e w1 ⟨hcase, hb1⟩
  obtain ⟨v1, e1, rfl, ho1⟩ := one_of hcase
  have HO1 : Hid (one A B l n cs w1 v1 e1) := ho1
  have HB1 : Hid (Below w0.heap.size w0 w1) := hb1
  obtain ⟨y0, y1, y2⟩ := HBX.out w1 hb1
  clear hcase hb1 ho1 z0 z1 z2
  have hBw1 : Below w.heap.size w w1 := HB0.out.trans (HB1.out.mono HB0.out.size)
  have HBw1 : Hid (Below w.heap.size w w1) := hBw1
  clear hBw1
  go_wp2_with fail
  refine (Floods_any A B p q n c m d l cs w1 (row_below HR.out HBw1.out) HN.out hlen (crow_below HC.out HBw1.out) HM.out).mono ?_
  rintro e w4 ⟨hcase, hb4⟩
  obtain ⟨v2, e2, rfl, ho2⟩ := one_of hcase
  have heq := one_equal (one_below HO1.out hb4) ho2
  obtain ⟨he, hq⟩ := heq
  subst he
  have HEQ : Hid (∀ V, Below w4.heap.size w4 V → Calls Try.prog 12 #[v1, v2] V fun e w' => e = .returned (.bool true) ∧ Below V.heap.size V w') := hq
  have HB4 : Hid (Below w.heap.size w w4) := HBw1.out.trans (hb4.mono HBw1.out.size)
  have ue : (e1 == e1) = true := by simp
  clear hcase hb4 ho2 hq HO1 y0 y1 y2
  by_cases hrg : 0 ≤ a2 ∧ a2 ≤ 3
  · have HBT : Hid ((decide (0 ≤ a2) && decide (a2 ≤ 3)) = true) := by unfold Hid; simp [hrg]
    by_cases h1 : a2 = 1
    · subst h1
      have HC0 : Hid (co 1 = 0) := by unfold Hid; decide
      have HE0 : Hid (ce 1 = 9) := by unfold Hid; decide
      have HK0 : Hid (cof 1 = -1) := by unfold Hid; decide
      clear hrg
      go_wp2_with fail
      refine (Cost_at 1 0 9 w4 HC0 HE0).mono ?_
      rintro e w' ⟨rfl, hw⟩; subst w'
      go_wp2_with fail
      refine (Between_at 1 0 3 true w4 HBT).mono ?_
      rintro e w' ⟨rfl, hw⟩; subst w'
      go_wp2_with fail
      refine (CostOf_at 1 (-1) w4 (by decide) (by decide) HK0).mono ?_
      rintro e w5 ⟨rfl, hb5⟩
      have HB5 : Hid (Below w4.heap.size w4 w5) := hb5
      clear hb5
      go_wp2_with fail
      refine (HEQ.out w5 HB5.out).mono ?_
      rintro e w6 ⟨rfl, hb6⟩
      have HB6 : Hid (Below w.heap.size w w6) := HB4.out.trans ((HB5.out.trans (hb6.mono HB5.out.size)).mono HB4.out.size)
      clear hb6
      go_wp2_with fail
      go_ret
      exact ⟨rfl, HB6.out⟩
    · obtain ⟨K, hK⟩ : ∃ K, kc a2 = K := ⟨_, rfl⟩
      have hkb := kc_bd a2
      rw [hK] at hkb
      have hck := co_kc hrg.1 hrg.2 h1
      have HC0 : Hid (co a2 = K) := hck.1.trans hK
      have HE0 : Hid (ce a2 = 0) := hck.2
      have HK0 : Hid (cof a2 = K) := by unfold Hid cof; rw [if_neg h1]; exact hK
      have t1 : decide (K < 0) = false := by simp; omega
      have t2 : ¬ K < 0 := by omega
      have t3 : (K == K) = true := by simp
      have HRG : Hid (0 ≤ a2 ∧ a2 ≤ 3) := hrg
      clear hrg h1 hK hck
      go_wp2_with fail
      refine (Cost_at a2 K 0 w4 HC0 HE0).mono ?_
      rintro e w' ⟨rfl, hw⟩; subst w'
      go_wp2_with fail
      refine (Between_at a2 0 3 true w4 HBT).mono ?_
      rintro e w' ⟨rfl, hw⟩; subst w'
      go_wp2_with fail
      refine (CostOf_at a2 K w4 HRG.out.1 HRG.out.2 HK0).mono ?_
      rintro e w5 ⟨rfl, hb5⟩
      have HB5 : Hid (Below w4.heap.size w4 w5) := hb5
      clear hb5
      go_wp2_with fail
      refine (HEQ.out w5 HB5.out).mono ?_
      rintro e w6 ⟨rfl, hb6⟩
      have HB6 : Hid (Below w.heap.size w w6) := HB4.out.trans ((HB5.out.trans (hb6.mono HB5.out.size)).mono HB4.out.size)
      clear hb6
      go_wp2_with fail
      go_ret
      exact ⟨rfl, HB6.out⟩
  · have HBT : Hid ((decide (0 ≤ a2) && decide (a2 ≤ 3)) = false) := by unfold Hid; simp; omega
    have HC0 : Hid (co a2 = 0) := by unfold Hid co; rw [if_neg (by omega), if_neg (by omega)]
    have HE0 : Hid (ce a2 = 1) := by unfold Hid ce; rw [if_neg (by omega), if_neg (by omega)]
    clear hrg
    go_wp2_with fail
    refine (Cost_at a2 0 1 w4 HC0 HE0).mono ?_
    rintro e w' ⟨rfl, hw⟩; subst w'
    go_wp2_with fail
    refine (Between_at a2 0 3 false w4 HBT).mono ?_
    rintro e w' ⟨rfl, hw⟩; subst w'
    go_wp2_with fail
    refine (HEQ.out w4 (Below.refl _ _)).mono ?_
    rintro e w6 ⟨rfl, hb6⟩
    have HB6 : Hid (Below w.heap.size w w6) := HB4.out.trans (hb6.mono HB4.out.size)
    clear hb6
    go_wp2_with fail
    go_ret
    exact ⟨rfl, HB6.out⟩

set_option maxRecDepth 100000 in
theorem lifted (os : Os) (started : os.Started) (H : Type) (enc : TypeId × Value → H) :
    ReturnsInHanded {} Try.checked os 3 .any (Rows.floodSaysSpec.pre6 enc Try.prog Try.f3 Rows.floodSaysRow.domain false) (Rows.floodSaysSpec.post enc Try.prog Try.f3 false true false false) := by
  refine returnsInHanded_of_change_sized (C := Try.checked) own started (by kernel_rfl) Try.func3
    (ChangeSpec.witness6 (enc := enc) (C := Try.checked) false ⟨#[], #[.agg #[.int .i64 0, .int .i64 0, .slice none 0 0], .slice none 0 0, .int .i64 0], []⟩ 8 (by kernel_rfl) (by kernel_rfl) (by kernel_rfl) (by kernel_rfl)) ?_
  intro W base args ds gs before hval0 hW hcnd hsz _
  have hval : ∀ (j : Nat) t v, Try.f3.params[j]? = some t → args[j]? = some v → Value.okWide Try.prog W .any base t v := hval0
  have hW' := hW
  obtain ⟨p, q, hA0, hV, rfl, hfz, hnd⟩ := hW
  have hA : DataW.TrodAll enc Try.prog W 0 (fun _ => true) true Try.f3.params.toList args.toList ds p := hA0
  rw [Try.params3] at hA hval
  obtain ⟨v0, vs0, d0, ds0, p0, q0, hargs, rfl, rfl, h0, r0⟩ := trodAll_cons hA
  obtain ⟨v1, vs1, d1, ds1, p1, q1, rfl, rfl, rfl, h1, r1⟩ := trodAll_cons r0
  obtain ⟨v2, vs2, d2, ds2, p2, q2, rfl, rfl, rfl, h2, r2⟩ := trodAll_cons r1
  obtain ⟨rfl, rfl, rfl⟩ := trodAll_nil r2
  obtain rfl : args = #[v0, v1, v2] := by cases args; simp_all
  obtain ⟨rfl, rfl⟩ := trodVars_none hV
  obtain ⟨s0, rfl, k0, d20, rfl, t0⟩ := open_fld Try.underlying24 Try.underlying3 Try.underlying22 rfl rfl rfl rfl rfl rfl (by kernel_rfl) (by kernel_rfl) (by kernel_rfl) (hval 0 24 v0 rfl rfl) h0
  obtain ⟨s1, rfl, k1, t1⟩ := open_cst Try.underlying25 Try.underlying38 Try.underlying3 Try.underlying3 rfl rfl (by kernel_rfl) (by kernel_rfl) (by kernel_rfl) (hval 1 25 v1 rfl rfl) h1
  obtain ⟨a2, rfl, rfl, rfl, w2⟩ := open_int Try.underlying3 (hval 2 3 v2 rfl rfl) h2
  have hs0 : s0.l.length * 8 ≤ 140737488351232 := fld_sized hsz (j := 0) rfl rfl Try.underlying24 rfl Try.underlying22 (by kernel_rfl) t0
  have hs1 : s1.l.length * 16 ≤ 140737488351232 := told_sized hsz (j := 1) rfl rfl Try.underlying25 (by kernel_rfl) t1
  clear hA0 hval0
  refine (walk s0 s1 a2 w2 W k0 hs0 k1 hs1).mono fun e W' ⟨he, hg⟩ => ?_
  subst he
  exact ⟨_, rfl, law_post (by kernel_rfl) (by kernel_rfl) rfl (by kernel_rfl) Try.underlying4 hW' rfl hg⟩

theorem over : Rows.floodSaysRow.holds Try.pinned (OpenSpec.ofChange Rows.floodSaysSpec) :=
  OpenClaim.holds_of_wide 3 Try.f3 rfl rfl rfl rfl rfl rfl rfl ⟨rfl, rfl, rfl, rfl, rfl⟩ rfl rfl rfl rfl rfl (by kernel_rfl) Try.func3 (by kernel_rfl)
    (of_decide_eq_true (by kernel_rfl)) (by unfold Func.isWrapper; first | (rw [if_pos (by decide +kernel)]; kernel_rfl) | (rw [if_neg (by decide +kernel)]; exact ⟨rfl, rfl⟩))
    (fun os started H enc _ => lifted os started H enc)

theorem proved : Rows.FloodSaysSaid :=
  over
end Go.Proofs.Ytlekihmlifkjmaa.floodSays

namespace Go.Proofs.Ytlekihmlifkjmaa
/-- FloodSays: whatever is handed in, Cost and From answer what the document says. No conditions. -/
theorem floodSays_holds : Rows.FloodSaysSaid := floodSays.proved
#print axioms floodSays_holds
end Go.Proofs.Ytlekihmlifkjmaa
