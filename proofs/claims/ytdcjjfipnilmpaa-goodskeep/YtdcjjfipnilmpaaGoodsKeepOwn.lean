/- GoodsKeep: nothing is lost by deeds, and nothing comes of nothing: for every world and every list of deeds the law answers true. -/
import Derived.Test.YtdcjjfipnilmpaaRows
import Derived.Test.YtdcjjfipnilmpaaPost
import Derived.Test.YtdcjjfipnilmpaaOpc
import Derived.Test.YtdcjjfipnilmpaaWo
import Derived.Test.YtdcjjfipnilmpaaLv
import Derived.WalkKit
import Derived.ProofKit
import Derived.OpenShut
import Derived.SizedLaws
import Derived.ChangeMaps5
import Derived.JoinedCond
namespace Go.Proofs.Ytdcjjfipnilmpaa.goodsKeep
open Go.ChangeShapes Go.WideShapes Go.ChangeAt Go.RowKit
set_option linter.unusedVariables false

theorem own : ownKnob Try.prog.godebug = none := by kernel_rfl

theorem worth_of (s : Wld) (E : Int) : ∃ R : Int, Hid ((E = 0 ∧ R = wth s.shp) ∨ (E ≠ 0 ∧ R = 0)) := by
  by_cases h : E = 0
  · exact ⟨_, .inl ⟨h, rfl⟩⟩
  · exact ⟨0, .inr ⟨h, rfl⟩⟩
/-- A world behind deeds is right, and worth what it was. -/
theorem dok_worth {s s' : Wld} {B : Nat} {w V : World} {gs : List Ded} {bs : List Bool} (h : s.fit w) (hd : dok s gs 0 s' bs) (hw : wown B V s') : wre s' 0 ∧ wth s'.shp = wth s.shp ∧ 0 ≤ wth s.shp := by
  rcases hd with ⟨h0, _⟩ | ⟨_, W, H, hk, hkp, hd⟩
  · exact absurd rfl h0
  · have ho := okw_oks hk h.hb h.ht
    exact ⟨wre_of (dr_right h hk hkp hd hw).2, dr_wth ho hd, wth_nn ho⟩

set_option maxRecDepth 20000 in
set_option maxHeartbeats 4000000 in
theorem walk (s0 : Wld) (s1 : Dst)  (w : World) (h0 : s0.fit w) (h1 : s1.fit w) (hs1 : s1.l.length * 40 ≤ 140737488351232) :
    Calls Try.prog 4 #[s0.val, s1.val] w fun e w' => e = .returned (.bool true) ∧ Below w.heap.size w w' := by
  obtain ⟨E, hE⟩ := ber_total s0 s1.l.length
  obtain ⟨E0, hE0⟩ := wre_total s0
  obtain ⟨R0, hR0⟩ := worth_of s0 E0
  have HDO : Hid (∀ V, Below w.heap.size w V → Calls Try.prog 9 #[s0.val, .slice s1.p s1.l.length s1.c] V fun e w' => (∃ (s' : Wld) (dp : Option Addr) (dc : Nat) (bs : List Bool), e = .returned (.tuple #[s'.val, .slice dp bs.length dc, .int .i64 E]) ∧ row vbl w' dp bs ∧ wown V.heap.size w' s' ∧ dok s0 s1.l E s' bs) ∧ Below V.heap.size V w') := fun V hV => Do_any s0 E s1.p _ s1.c s1.l V (Wld.fit_below h0 hV) (dor_below h1.1 hV) h1.2.1 rfl h1.2.2.1 hE
  have HWO : Hid (∀ V, Below w.heap.size w V → Calls Try.prog 10 #[s0.val] V fun e w' => e = .returned (.tuple #[.int .i64 R0, .int .i64 E0]) ∧ Below V.heap.size V w') := fun V hV => Worth_any s0 E0 R0 V (Wld.fit_below h0 hV) hE0 hR0
  have HF0 : Hid (s0.fit w) := h0
  have HR0 : Hid ((E0 = 0 ∧ R0 = wth s0.shp) ∨ (E0 ≠ 0 ∧ R0 = 0)) := hR0
  have HEE : Hid (E = 0 → E0 = 0) := fun e => by
    subst e
    obtain ⟨W, H, hk⟩ := (ber_ok hE).1
    by_cases h : E0 = 0
    · exact h
    · exact absurd ⟨W, H, hk⟩ (wre_no hE0 h)
  have HD : Hid (∀ (s' : Wld) (bs : List Bool) (B : Nat) (V : World), wown B V s' → dok s0 s1.l E s' bs → s'.fit V ∧ (E = 0 → wre s' 0 ∧ wth s'.shp = wth s0.shp ∧ 0 ≤ wth s0.shp)) := fun s' bs B V hw hd => ⟨dok_fit h0 hd hw, fun e => by subst e; exact dok_worth h0 hd hw⟩
  clear h0 h1 hs1 hE hE0 hR0
  obtain ⟨A, B, p, n, c, l, pb, nb, cb, lb, ps, ns, cs, ls, pm, nm, cm, lm, pt, nt, ct, lt, N, T⟩ := s0
  obtain ⟨lp, lc, ll⟩ := s1
  unfold Wld.val Dst.val at *
  dsimp only at *
  obtain ⟨nl, hnl⟩ : ∃ nl, ll.length = nl := ⟨_, rfl⟩
  rw [hnl] at HDO ⊢
  clear hnl
  obtain ⟨F, hF⟩ : ∃ F, w.heap.size = F := ⟨_, rfl⟩
  obtain ⟨w0, hw0⟩ : ∃ w0, w.alloc (.cells #[.int .i64 A, .int .i64 B, .slice p n c, .slice pb nb cb, .slice ps ns cs, .slice pm nm cm, .slice pt nt ct, .int .i64 N, .int .i64 T] 28) = w0 := ⟨_, rfl⟩
  have hB0 : Below w.heap.size w w0 := by rw [← hw0]; exact alloc_below _ _
  have HB0 : Hid (Below w.heap.size w w0) := hB0
  have HZ : Hid (∀ V, Below w0.heap.size w0 V → c9 V F (.int .i64 A) (.int .i64 B) (.slice p n c) (.slice pb nb cb) (.slice ps ns cs) (.slice pm nm cm) (.slice pt nt ct) (.int .i64 N) (.int .i64 T)) := fun V hV => boxw hF hw0 hV
  obtain ⟨z0, z1, z2, z3, z4, z5, z6, z7, z8⟩ := HZ.out w0 (Below.refl _ _)
  clear hB0
  go_enter Try.func4, Try.ntmps4
  go_wp2_with fail
  refine (HDO.out w0 HB0.out).mono ?_
  rintro e w1 ⟨⟨s', dp, dc, bs, rfl, hr, how, hdk⟩, hb1⟩
  obtain ⟨nd, hnd⟩ : ∃ nd, bs.length = nd := ⟨_, rfl⟩
  rw [hnd]
  obtain ⟨hfit, hcase⟩ := HD.out s' bs _ w1 how hdk
  obtain ⟨E1, hE1⟩ := wre_total s'
  obtain ⟨R1, hR1⟩ := worth_of s' E1
  have HW1 : Hid (∀ V, Below w1.heap.size w1 V → Calls Try.prog 10 #[s'.val] V fun e w' => e = .returned (.tuple #[.int .i64 R1, .int .i64 E1]) ∧ Below V.heap.size V w') := fun V hV => Worth_any s' E1 R1 V (Wld.fit_below hfit hV) hE1 hR1
  have HFIN : Hid (E = 0 → E0 = 0 ∧ E1 = 0 ∧ R0 = R1 ∧ 0 ≤ R0) := fun e => by
    obtain ⟨q1, q2, q3⟩ := hcase e
    have q4 := HEE.out e
    have q5 : E1 = 0 := by
      obtain ⟨W, H, hk⟩ := wre_ok q1
      by_cases h : E1 = 0
      · exact h
      · exact absurd ⟨W, H, hk⟩ (wre_no hE1 h)
    rcases HR0.out with ⟨_, q6⟩ | ⟨q6, _⟩
    · rcases hR1.out with ⟨_, q7⟩ | ⟨q7, _⟩
      · exact ⟨q4, q5, by rw [q6, q7, q2], by rw [q6]; exact q3⟩
      · exact absurd q5 q7
    · exact absurd q4 q6
  have HB1 : Hid (Below w.heap.size w w1) := below_call HB0.out HB0.out.size hb1
  have HB01 : Hid (Below w0.heap.size w0 w1) := hb1
  obtain ⟨A1, B1, p1, n1, c1, l1, pb1, nb1, cb1, lb1, ps1, ns1, cs1, ls1, pm1, nm1, cm1, lm1, pt1, nt1, ct1, lt1, N1, T1⟩ := s'
  unfold Wld.val at HW1
  dsimp only at HW1 ⊢
  obtain ⟨J, hJ⟩ : ∃ J, w1.heap.size = J := ⟨_, rfl⟩
  obtain ⟨w2, hw2⟩ : ∃ w2, w1.alloc (.cells #[.int .i64 A1, .int .i64 B1, .slice p1 n1 c1, .slice pb1 nb1 cb1, .slice ps1 ns1 cs1, .slice pm1 nm1 cm1, .slice pt1 nt1 ct1, .int .i64 N1, .int .i64 T1] 28) = w2 := ⟨_, rfl⟩
  have hb12 : Below w1.heap.size w1 w2 := by rw [← hw2]; exact alloc_below _ _
  have HB12 : Hid (Below w1.heap.size w1 w2) := hb12
  have HY : Hid (∀ V, Below w2.heap.size w2 V → c9 V J (.int .i64 A1) (.int .i64 B1) (.slice p1 n1 c1) (.slice pb1 nb1 cb1) (.slice ps1 ns1 cs1) (.slice pm1 nm1 cm1) (.slice pt1 nt1 ct1) (.int .i64 N1) (.int .i64 T1)) := fun V hV => boxw hJ hw2 hV
  have HB2 : Hid (Below w.heap.size w w2) := below_call HB1.out HB1.out.size hb12
  have HB02 : Hid (Below w0.heap.size w0 w2) := below_call HB01.out HB01.out.size hb12
  clear hr how hdk hb1 hb12 hfit hcase hE1 hR1 hnd z0 z1 z2 z3 z4 z5 z6 z7 z8 hw0
  obtain ⟨z0, z1, z2, z3, z4, z5, z6, z7, z8⟩ := HZ.out w2 HB02.out
  go_wp2_with fail
  refine (HWO.out w2 HB2.out).mono ?_
  rintro e w3 ⟨rfl, hb3⟩
  have HB3 : Hid (Below w.heap.size w w3) := below_call HB2.out HB2.out.size hb3
  have HB13 : Hid (Below w1.heap.size w1 w3) := below_call HB12.out HB12.out.size hb3
  have HB23 : Hid (Below w2.heap.size w2 w3) := hb3
  clear z0 z1 z2 z3 z4 z5 z6 z7 z8 hb3 hw2
  obtain ⟨z0, z1, z2, z3, z4, z5, z6, z7, z8⟩ := HY.out w3 HB23.out
  go_wp2_with fail
  refine (HW1.out w3 HB13.out).mono ?_
  rintro e w4 ⟨rfl, hb4⟩
  have HB4 : Hid (Below w.heap.size w w4) := below_call HB3.out HB3.out.size hb4
  clear z0 z1 z2 z3 z4 z5 z6 z7 z8 hb4
  go_wp2_with fail
  refine (glives_any w4).mono ?_
  rintro e w5 ⟨rfl, hb5⟩
  have HB5 : Hid (Below w.heap.size w w5) := below_call HB4.out HB4.out.size hb5
  clear hb5
  by_cases e0 : E = 0
  · obtain ⟨q1, q2, q3, q4⟩ := HFIN.out e0
    subst e0 q1 q2 q3
    clear HFIN HEE HR0
    go_wp2_with fail
    go_ret
    exact ⟨rfl, by first | exact HB5.out | (rw [← hF]; exact HB5.out)⟩
  · have d1 : (E != 0) = true := by simp [e0]
    clear HFIN HEE HR0
    go_wp2_with fail
    refine (glives_any w5).mono ?_
    rintro e w6 ⟨rfl, hb6⟩
    have HB6 : Hid (Below w.heap.size w w6) := below_call HB5.out HB5.out.size hb6
    clear hb6
    go_wp2_with fail
    go_ret
    exact ⟨rfl, by first | exact HB6.out | (rw [← hF]; exact HB6.out)⟩

set_option maxRecDepth 100000 in
theorem lifted (os : Os) (started : os.Started) (H : Type) (enc : TypeId × Value → H) :
    ReturnsInHanded {} Try.checked os 4 .any (Rows.goodsKeepSpec.pre6 enc Try.prog Try.f4 Rows.goodsKeepRow.domain false) (Rows.goodsKeepSpec.post enc Try.prog Try.f4 false true false false) := by
  refine returnsInHanded_of_change_sized (C := Try.checked) own started (by kernel_rfl) Try.func4
    (ChangeSpec.witness6 (enc := enc) (C := Try.checked) false ⟨#[], #[.agg #[.int .i64 0, .int .i64 0, .slice none 0 0, .slice none 0 0, .slice none 0 0, .slice none 0 0, .slice none 0 0, .int .i64 0, .int .i64 0], .slice none 0 0], []⟩ 8 (by kernel_rfl) (by kernel_rfl) (by kernel_rfl) (by kernel_rfl)) ?_
  intro W base args ds gs before hval0 hW hcnd hsz _
  have hval : ∀ (j : Nat) t v, Try.f4.params[j]? = some t → args[j]? = some v → Value.okWide Try.prog W .any base t v := hval0
  have hW' := hW
  obtain ⟨p, q, hA0, hV, rfl, hfz, hnd⟩ := hW
  have hA : DataW.TrodAll enc Try.prog W 0 (fun _ => true) true Try.f4.params.toList args.toList ds p := hA0
  rw [Try.params4] at hA hval
  obtain ⟨v0, vs0, d0, ds0, p0, q0, hargs, rfl, rfl, h0, r0⟩ := trodAll_cons hA
  obtain ⟨v1, vs1, d1, ds1, p1, q1, rfl, rfl, rfl, h1, r1⟩ := trodAll_cons r0
  obtain ⟨rfl, rfl, rfl⟩ := trodAll_nil r1
  obtain rfl : args = #[v0, v1] := by cases args; simp_all
  obtain ⟨rfl, rfl⟩ := trodVars_none hV
  obtain ⟨s0, rfl, k0⟩ := open_wld (hval 0 28 v0 rfl rfl) h0
  obtain ⟨s1, rfl, k1, t1⟩ := open_dst (hval 1 29 v1 rfl rfl) h1
  have hs1 : s1.l.length * 40 ≤ 140737488351232 := told_sized hsz (j := 1) rfl rfl Try.underlying29 (by kernel_rfl) t1
  clear hA0 hval0
  refine (walk s0 s1  W k0 k1 hs1).mono fun e W' ⟨he, hg⟩ => ?_
  subst he
  exact ⟨_, rfl, law_post (by kernel_rfl) (by kernel_rfl) rfl (by kernel_rfl) Try.underlying4 hW' rfl hg⟩

theorem over : Rows.goodsKeepRow.holds Try.pinned (OpenSpec.ofChange Rows.goodsKeepSpec) :=
  OpenClaim.holds_of_wide 4 Try.f4 rfl rfl rfl rfl rfl rfl rfl ⟨rfl, rfl, rfl, rfl, rfl⟩ rfl rfl rfl rfl rfl (by kernel_rfl) Try.func4 (by kernel_rfl)
    (of_decide_eq_true (by kernel_rfl)) (by unfold Func.isWrapper; first | (rw [if_pos (by decide +kernel)]; kernel_rfl) | (rw [if_neg (by decide +kernel)]; exact ⟨rfl, rfl⟩))
    (fun os started H enc _ => lifted os started H enc)

theorem proved : Rows.GoodsKeepSaid :=
  over
end Go.Proofs.Ytdcjjfipnilmpaa.goodsKeep

namespace Go.Proofs.Ytdcjjfipnilmpaa
/-- GoodsKeep: nothing is lost by deeds, and nothing comes of nothing: for every world and every list of deeds the law answers true. -/
theorem goodsKeep_holds : Rows.GoodsKeepSaid := goodsKeep.proved
#print axioms goodsKeep_holds
end Go.Proofs.Ytdcjjfipnilmpaa
