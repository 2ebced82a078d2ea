/- For every field and every text: what Write writes of a field is read as that field, and is as long as its sides say; what Read takes is written so, and what it doesn't take is told as no field. -/
import Derived.Test.YtccapbojhgemmaaRows
import Derived.Test.YtccapbojhgemmaaPost
import Derived.Test.YtccapbojhgemmaaOpen
import Derived.Test.YtccapbojhgemmaaUse
import Derived.Test.YtccapbojhgemmaaLives
import Derived.WalkKit
import Derived.ProofKit
import Derived.OpenShut
import Derived.SizedLaws
import Derived.ChangeMaps5
import Derived.JoinedCond
namespace Go.Proofs.Ytccapbojhgemmaa.fieldBack
open Go.ChangeShapes Go.WideShapes Go.ChangeAt Go.RowKit
set_option linter.unusedVariables false

theorem own : ownKnob Try.prog.godebug = none := by kernel_rfl


set_option maxRecDepth 20000 in
set_option maxHeartbeats 4000000 in
theorem walk (s0 : Fld) (s1 : ByteArray) (hs1 : s1.size ≤ 140737488351232) (w : World) (h0 : s0.fit w) (hs0 : s0.l.length * 8 ≤ 140737488351232) :
    Calls Try.prog 3 #[s0.val, .string s1] w fun e w' => e = .returned (.bool true) ∧ Below w.heap.size w w' := by
  obtain ⟨A, B, p, c, l⟩ := s0
  unfold Fld.val
  dsimp only
  obtain ⟨_, _, hrow, hfl, hmax, hpn, hcap⟩ := h0
  dsimp only at hrow hfl hmax hpn hcap
  have HR : Hid (row vi w p l) := hrow
  obtain ⟨n, hn⟩ : ∃ n, l.length = n := ⟨_, rfl⟩
  have HN : Hid (l.length = n) := hn
  rw [hn] at hmax hcap ⊢
  have HC : Hid (n ≤ c) := hcap
  clear hs0 hs1 hrow hfl hpn hn hcap
  by_cases hck : ck A B l = 0
  · obtain ⟨W, H, e1, e2, hW, hH, hl, hg⟩ := ck_yes hck
    subst e1 e2
    have hnl : n = W * H := by rw [← HN.out, hl]
    subst hnl
    obtain ⟨a, ha⟩ := row_some HR.out (by rw [hl]; exact one_le hW hH)
    subst ha
    have HX : Hid ((1 ≤ W ∧ W ≤ 40) ∧ (1 ≤ H ∧ H ≤ 40) ∧ l.length = W * H ∧ l.any bad = false) := ⟨hW, hH, hl, hg⟩
    obtain ⟨t, ht⟩ : ∃ t, ts W H l = t := ⟨_, rfl⟩
    have hM0 := ts_size hl
    rw [ht] at hM0
    obtain ⟨M, hM⟩ : ∃ M, (W + 1) * H = M := ⟨_, rfl⟩
    have hMl : M ≤ 1640 := by rw [← hM, Nat.add_mul]; have := wh_le hW hH; omega
    have hts : t.size = M := by rw [hM0, hM]
    have eM : IntKind.i64.wrap (((W : Int) + 1) * (H : Int)) = (M : Int) := by
      have : ((W : Int) + 1) * (H : Int) = (((W + 1) * H : Nat) : Int) := by push_cast; rfl
      rw [this, hM]; exact wrp (by omega) (by omega)
    have hW40 : W ≤ 40 := hW.2
    have HT : Hid (ts W H l = t) := ht
    have HTS : Hid (t.size = M) := hts
    clear hck hW hH hl hg ht hM0 hM hts
    go_enter Try.func3, Try.ntmps3
    go_wp2_with fail
    refine (Write_ts W H a c l t _ (row_below HR.out (alloc_below _ _)) HX.out.1 HX.out.2.1 HX.out.2.2.1 HX.out.2.2.2 HC.out HT.out).mono ?_
    rintro e w1 ⟨rfl, hb1⟩
    obtain ⟨w0, hw0⟩ : ∃ w0, w.alloc (.cells #[.int .i64 (W : Int), .int .i64 (H : Int), .slice (some a) (W * H) c] 24) = w0 := ⟨_, rfl⟩
    obtain ⟨F0, hF0⟩ : ∃ F0, w.heap.size = F0 := ⟨_, rfl⟩
    have HW0 : Hid (w.alloc (.cells #[.int .i64 (W : Int), .int .i64 (H : Int), .slice (some a) (W * H) c] 24) = w0) := hw0
    rw [hw0] at hb1
    have HB1 : Hid (Below w0.heap.size w0 w1) := hb1
    clear hw0 hb1
    go_wp2_with fail
    refine (Read_ts W H l t w1 HX.out.1 HX.out.2.1 HX.out.2.2.1 HX.out.2.2.2 HT.out).mono ?_
    rintro e w2 ⟨v2, rfl, hm2, hb2⟩
    obtain ⟨a2, c2, rfl, hr2, hc2⟩ := mine_some hm2 HX.out.2.2.1 (one_le HX.out.1 HX.out.2.1)
    have HR2 : Hid (row vi w2 (some a2) l) := hr2
    have HB2 : Hid (Below w0.heap.size w0 w2) := HB1.out.trans (hb2.mono HB1.out.size)
    obtain ⟨g0, g1, g2, g3⟩ := box_at hF0 (by rw [HW0.out]; exact HB2.out)
    clear hm2 hb2 hr2 hc2
    have hds := HTS.out
    go_wp2_with fail
    have hb02 : Below w.heap.size w w2 := below_step (alloc_below w _) (by simp) (by rw [HW0.out]; exact HB2.out)
    have hb2a : Below w2.heap.size w2 (w2.alloc (.cells #[.int .i64 (W : Int), .int .i64 (H : Int), .slice (some a2) (W * H) c2] 24)) := alloc_below _ _
    refine (Same_yes W H (some a2) (some a) (W * H) c2 c l _ HX.out.2.2.1 (by have := wh_le HX.out.1 HX.out.2.1; omega) (row_below HR2.out hb2a) (row_below HR.out (hb02.trans (hb2a.mono hb02.size)))).mono ?_
    rintro e w3 ⟨rfl, hb3⟩
    have hb23 : Below w2.heap.size w2 w3 := below_step hb2a (by simp) hb3
    have HBT : Hid (Below w.heap.size w w3) := hb02.trans (hb23.mono hb02.size)
    obtain ⟨g0, g1, g2, g3⟩ := box_at hF0 (w1 := w3) (by rw [HW0.out]; exact HB2.out.trans (hb23.mono HB2.out.size))
    clear hb3 hb02 hb2a hb23
    go_wp2_with fail
    by_cases hro : rok s1
    · obtain ⟨W2, H2, _, _, hW2, hH2, hl2, hg2, hts2⟩ := rok_yes hro
      obtain ⟨L2, hL2⟩ : ∃ L2, gl (bs s1) = L2 := ⟨_, rfl⟩
      rw [hL2] at hl2 hg2 hts2
      have HX : Hid ((1 ≤ W2 ∧ W2 ≤ 40) ∧ (1 ≤ H2 ∧ H2 ≤ 40) ∧ L2.length = W2 * H2 ∧ L2.any bad = false ∧ ts W2 H2 L2 = s1) := ⟨hW2, hH2, hl2, hg2, hts2⟩
      clear hro hW2 hH2 hl2 hg2 hts2 hL2
      refine (Read_ts W2 H2 L2 s1 _ HX.out.1 HX.out.2.1 HX.out.2.2.1 HX.out.2.2.2.1 HX.out.2.2.2.2).mono ?_
      rintro e w5 ⟨v5, rfl, hm5, hb5⟩
      obtain ⟨a5, c5, rfl, hr5, hc5⟩ := mine_some hm5 HX.out.2.2.1 (one_le HX.out.1 HX.out.2.1)
      have HR5 : Hid (row vi w5 (some a5) L2) := hr5
      have HC5 : Hid (W2 * H2 ≤ c5) := hc5
      have HB5 : Hid (Below w.heap.size w w5) := HBT.out.trans (hb5.mono HBT.out.size)
      clear hm5 hb5 hr5 hc5
      go_wp2_with fail
      refine (lives_any _).mono ?_
      rintro e w6 ⟨rfl, hb6⟩
      obtain ⟨F, hF⟩ : ∃ F, w5.heap.size = F := ⟨_, rfl⟩
      obtain ⟨g0, g1, g2, g3⟩ := box_at hF hb6
      have HR6 : Hid (row vi w6 (some a5) L2) := row_below HR5.out (below_step (alloc_below _ _) (by simp) hb6)
      have HB6 : Hid (Below w.heap.size w w6) := HB5.out.trans ((below_step (alloc_below w5 _) (by simp) hb6).mono HB5.out.size)
      clear hb6
      go_wp2_with fail
      refine (Write_ts W2 H2 a5 c5 L2 s1 w6 HR6.out HX.out.1 HX.out.2.1 HX.out.2.2.1 HX.out.2.2.2.1 HC5.out HX.out.2.2.2.2).mono ?_
      rintro e w7 ⟨rfl, hb7⟩
      have HB7 : Hid (Below w.heap.size w w7) := HB6.out.trans (hb7.mono HB6.out.size)
      clear hb7
      go_wp2_with fail
      go_ret
      exact ⟨rfl, HB7.out⟩
    · refine (Read_none s1 _ hro).mono ?_
      rintro e w5 ⟨rfl, hb5⟩
      have HB5 : Hid (Below w.heap.size w w5) := HBT.out.trans (hb5.mono HBT.out.size)
      clear hb5
      go_wp2_with fail
      refine (lives_any _).mono ?_
      rintro e w6 ⟨rfl, hb6⟩
      obtain ⟨F, hF⟩ : ∃ F, w5.heap.size = F := ⟨_, rfl⟩
      have HB65 : Hid (Below (w5.alloc (.cells #[.int .i64 0, .int .i64 0, .slice none 0 0] 24)).heap.size (w5.alloc (.cells #[.int .i64 0, .int .i64 0, .slice none 0 0] 24)) w6) := hb6
      have HB6 : Hid (Below w.heap.size w w6) := HB5.out.trans ((below_step (alloc_below w5 _) (by simp) hb6).mono HB5.out.size)
      clear hb6
      go_wp2_with fail
      refine (lives_any _).mono ?_
      rintro e w7 ⟨rfl, hb7⟩
      have HB7 : Hid (Below w.heap.size w w7) := HB6.out.trans (hb7.mono HB6.out.size)
      obtain ⟨g0, g1, g2, g3⟩ := box_at hF (HB65.out.trans (hb7.mono HB65.out.size))
      clear hb7
      go_wp2_with fail
      refine (Same_yes 0 0 none none 0 0 0 [] w7 rfl (by omega) (row_nil _ _ _) (row_nil _ _ _)).mono ?_
      rintro e w8 ⟨rfl, hb8⟩
      have HB8 : Hid (Below w.heap.size w w8) := HB7.out.trans (hb8.mono HB7.out.size)
      clear hb8
      go_wp2_with fail
      go_ret
      exact ⟨rfl, HB8.out⟩
  · obtain ⟨E, hE⟩ : ∃ E, ck A B l = E := ⟨_, rfl⟩
    have hE0 : ¬ E = 0 := by rw [← hE]; exact hck
    have HE : Hid (ck A B l = E) := hE
    have e0 : (E == 0) = false := by simp [hE0]
    clear hck hE
    go_enter Try.func3, Try.ntmps3
    go_wp2_with fail
    refine (Write_no A B p n c l E _ (row_below HR.out (alloc_below _ _)) HN.out hmax HE hE0).mono ?_
    rintro e w1 ⟨rfl, hb1⟩
    have HBT : Hid (Below w.heap.size w w1) := below_step (alloc_below w _) (by simp) hb1
    clear hb1
    go_wp2_with fail
    by_cases hro : rok s1
    · obtain ⟨W2, H2, _, _, hW2, hH2, hl2, hg2, hts2⟩ := rok_yes hro
      obtain ⟨L2, hL2⟩ : ∃ L2, gl (bs s1) = L2 := ⟨_, rfl⟩
      rw [hL2] at hl2 hg2 hts2
      have HX : Hid ((1 ≤ W2 ∧ W2 ≤ 40) ∧ (1 ≤ H2 ∧ H2 ≤ 40) ∧ L2.length = W2 * H2 ∧ L2.any bad = false ∧ ts W2 H2 L2 = s1) := ⟨hW2, hH2, hl2, hg2, hts2⟩
      clear hro hW2 hH2 hl2 hg2 hts2 hL2
      refine (Read_ts W2 H2 L2 s1 _ HX.out.1 HX.out.2.1 HX.out.2.2.1 HX.out.2.2.2.1 HX.out.2.2.2.2).mono ?_
      rintro e w5 ⟨v5, rfl, hm5, hb5⟩
      obtain ⟨a5, c5, rfl, hr5, hc5⟩ := mine_some hm5 HX.out.2.2.1 (one_le HX.out.1 HX.out.2.1)
      have HR5 : Hid (row vi w5 (some a5) L2) := hr5
      have HC5 : Hid (W2 * H2 ≤ c5) := hc5
      have HB5 : Hid (Below w.heap.size w w5) := HBT.out.trans (hb5.mono HBT.out.size)
      clear hm5 hb5 hr5 hc5
      go_wp2_with fail
      refine (lives_any _).mono ?_
      rintro e w6 ⟨rfl, hb6⟩
      obtain ⟨F, hF⟩ : ∃ F, w5.heap.size = F := ⟨_, rfl⟩
      obtain ⟨g0, g1, g2, g3⟩ := box_at hF hb6
      have HR6 : Hid (row vi w6 (some a5) L2) := row_below HR5.out (below_step (alloc_below _ _) (by simp) hb6)
      have HB6 : Hid (Below w.heap.size w w6) := HB5.out.trans ((below_step (alloc_below w5 _) (by simp) hb6).mono HB5.out.size)
      clear hb6
      go_wp2_with fail
      refine (Write_ts W2 H2 a5 c5 L2 s1 w6 HR6.out HX.out.1 HX.out.2.1 HX.out.2.2.1 HX.out.2.2.2.1 HC5.out HX.out.2.2.2.2).mono ?_
      rintro e w7 ⟨rfl, hb7⟩
      have HB7 : Hid (Below w.heap.size w w7) := HB6.out.trans (hb7.mono HB6.out.size)
      clear hb7
      go_wp2_with fail
      go_ret
      exact ⟨rfl, HB7.out⟩
    · refine (Read_none s1 _ hro).mono ?_
      rintro e w5 ⟨rfl, hb5⟩
      have HB5 : Hid (Below w.heap.size w w5) := HBT.out.trans (hb5.mono HBT.out.size)
      clear hb5
      go_wp2_with fail
      refine (lives_any _).mono ?_
      rintro e w6 ⟨rfl, hb6⟩
      obtain ⟨F, hF⟩ : ∃ F, w5.heap.size = F := ⟨_, rfl⟩
      have HB65 : Hid (Below (w5.alloc (.cells #[.int .i64 0, .int .i64 0, .slice none 0 0] 24)).heap.size (w5.alloc (.cells #[.int .i64 0, .int .i64 0, .slice none 0 0] 24)) w6) := hb6
      have HB6 : Hid (Below w.heap.size w w6) := HB5.out.trans ((below_step (alloc_below w5 _) (by simp) hb6).mono HB5.out.size)
      clear hb6
      go_wp2_with fail
      refine (lives_any _).mono ?_
      rintro e w7 ⟨rfl, hb7⟩
      have HB7 : Hid (Below w.heap.size w w7) := HB6.out.trans (hb7.mono HB6.out.size)
      obtain ⟨g0, g1, g2, g3⟩ := box_at hF (HB65.out.trans (hb7.mono HB65.out.size))
      clear hb7
      go_wp2_with fail
      refine (Same_yes 0 0 none none 0 0 0 [] w7 rfl (by omega) (row_nil _ _ _) (row_nil _ _ _)).mono ?_
      rintro e w8 ⟨rfl, hb8⟩
      have HB8 : Hid (Below w.heap.size w w8) := HB7.out.trans (hb8.mono HB7.out.size)
      clear hb8
      go_wp2_with fail
      go_ret
      exact ⟨rfl, HB8.out⟩

set_option maxRecDepth 100000 in
theorem lifted (os : Os) (started : os.Started) (H : Type) (enc : TypeId × Value → H) :
    ReturnsInHanded {} Try.checked os 3 .any (Rows.fieldBackSpec.pre6 enc Try.prog Try.f3 Rows.fieldBackRow.domain false) (Rows.fieldBackSpec.post enc Try.prog Try.f3 false true false false) := by
  refine returnsInHanded_of_change_sized (C := Try.checked) own started (by kernel_rfl) Try.func3
    (ChangeSpec.witness6 (enc := enc) (C := Try.checked) false ⟨#[], #[.agg #[.int .i64 0, .int .i64 0, .slice none 0 0], .string ⟨#[]⟩], []⟩ 8 (by kernel_rfl) (by kernel_rfl) (by kernel_rfl) (by kernel_rfl)) ?_
  intro W base args ds gs before hval0 hW hcnd hsz _
  have hval : ∀ (j : Nat) t v, Try.f3.params[j]? = some t → args[j]? = some v → Value.okWide Try.prog W .any base t v := hval0
  have hW' := hW
  obtain ⟨p, q, hA0, hV, rfl, hfz, hnd⟩ := hW
  have hA : DataW.TrodAll enc Try.prog W 0 (fun _ => true) true Try.f3.params.toList args.toList ds p := hA0
  rw [Try.params3] at hA hval
  obtain ⟨v0, vs0, d0, ds0, p0, q0, hargs, rfl, rfl, h0, r0⟩ := trodAll_cons hA
  obtain ⟨v1, vs1, d1, ds1, p1, q1, rfl, rfl, rfl, h1, r1⟩ := trodAll_cons r0
  obtain ⟨rfl, rfl, rfl⟩ := trodAll_nil r1
  obtain rfl : args = #[v0, v1] := by cases args; simp_all
  obtain ⟨rfl, rfl⟩ := trodVars_none hV
  obtain ⟨s0, rfl, k0, d20, rfl, t0⟩ := open_fld Try.underlying24 Try.underlying3 Try.underlying22 rfl rfl rfl rfl rfl rfl (by kernel_rfl) (by kernel_rfl) (by kernel_rfl) (hval 0 24 v0 rfl rfl) h0
  obtain ⟨s1, rfl, rfl, rfl, hm1⟩ := Go.ChangeMaps.open_string Try.underlying9 (hval 1 9 v1 rfl rfl) h1
  have hs0 : s0.l.length * 8 ≤ 140737488351232 := fld_sized hsz (j := 0) rfl rfl Try.underlying24 rfl Try.underlying22 (by kernel_rfl) t0
  have hs1 : s1.size ≤ 140737488351232 := by have := sized_string hsz (j := 1) rfl rfl; unfold reachBytes at this; simpa using this
  clear hA0 hval0
  refine (walk s0 s1 hs1 W k0 hs0).mono fun e W' ⟨he, hg⟩ => ?_
  subst he
  exact ⟨_, rfl, law_post (by kernel_rfl) (by kernel_rfl) rfl (by kernel_rfl) Try.underlying4 hW' rfl hg⟩

theorem over : Rows.fieldBackRow.holds Try.pinned (OpenSpec.ofChange Rows.fieldBackSpec) :=
  OpenClaim.holds_of_wide 3 Try.f3 rfl rfl rfl rfl rfl rfl rfl ⟨rfl, rfl, rfl, rfl, rfl⟩ rfl rfl rfl rfl rfl (by kernel_rfl) Try.func3 (by kernel_rfl)
    (of_decide_eq_true (by kernel_rfl)) (by unfold Func.isWrapper; first | (rw [if_pos (by decide +kernel)]; kernel_rfl) | (rw [if_neg (by decide +kernel)]; exact ⟨rfl, rfl⟩))
    (fun os started H enc _ => lifted os started H enc)

theorem proved : Rows.FieldBackSaid :=
  over
end Go.Proofs.Ytccapbojhgemmaa.fieldBack

namespace Go.Proofs.Ytccapbojhgemmaa
/-- For every field and every text: what Write writes of a field is read as that field, and is as long as its sides say; what Read takes is written so, and what it doesn't take is told as no field. -/
theorem fieldBack_holds : Rows.FieldBackSaid := fieldBack.proved
#print axioms fieldBack_holds
end Go.Proofs.Ytccapbojhgemmaa
