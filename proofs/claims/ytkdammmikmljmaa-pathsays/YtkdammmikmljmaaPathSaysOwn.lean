/- Whatever field and two cells are handed in, path.Find and path.Far answer what the document says, by its own answer of distances that are made better till nothing is: the way, what it costs, and the error; in the model of Go at this commit, for every argument. -/
import Derived.Test.YtkdammmikmljmaaRows
import Derived.Test.YtkdammmikmljmaaPost
import Derived.Test.YtkdammmikmljmaaWw
import Derived.Test.YtkdammmikmljmaaOpc
import Derived.WalkKit
import Derived.ProofKit
import Derived.OpenShut
import Derived.SizedLaws
import Derived.ChangeMaps5
import Derived.JoinedCond
namespace Go.Proofs.Ytkdammmikmljmaa.pathSays
open Go.ChangeShapes Go.WideShapes Go.ChangeAt Go.RowKit
set_option linter.unusedVariables false

theorem own : ownKnob Try.prog.godebug = none := by kernel_rfl

theorem good_per {A B : Int} {l far : List Int} {a b : Cel} {W H : Nat} (h : good A B l a b W H far) : per A B l a b = 0 := by
  obtain ⟨rfl, rfl, hok, ha, hb, ra, rb, _⟩ := h
  exact per_ok hok ha hb ra rb
theorem rerr_one {A B : Int} {l : List Int} {a b : Cel} {E1 E2 : Int} (h1 : rerr A B l a b E1) (h2 : rerr A B l a b E2) : E1 = E2 := by
  rcases h1 with ⟨h1, e1⟩ | ⟨e1, W, H, far, hg, _⟩
  · rcases h2 with ⟨_, e2⟩ | ⟨_, W, H, far, hg, _⟩
    · rw [e1, e2]
    · exact absurd (good_per hg) h1
  · rcases h2 with ⟨h2, _⟩ | ⟨e2, _⟩
    · exact absurd (good_per hg) h2
    · rw [e1, e2]
theorem rerr_good {A B : Int} {l far : List Int} {a b : Cel} {E : Int} {W H : Nat} (h : rerr A B l a b E) (hg : good A B l a b W H far) (hp : 0 ≤ pa far (ixc W b)) : False := by
  rcases h with ⟨h1, _⟩ | ⟨_, W', H', far', hg', hn⟩
  · exact h1 (good_per hg)
  · obtain ⟨rfl, rfl, rfl⟩ := good_one hg hg'
    omega
/-- Both ways are one, and so are what they cost and the errors. -/
theorem says_one {A B : Int} {l : List Int} {a b : Cel} {n1 n2 : Nat} {w1 w2 : World} {v1 v2 : Value} {D1 D2 D3 E1 E2 E3 : Int} (h1 : finr A B l a b n1 w1 v1 D1 E1) (h2 : finr A B l a b n2 w2 v2 D2 E2) (h3 : farr A B l a b D3 E3) :
    E1 = E2 ∧ D1 = D2 ∧ D3 = D2 ∧ E3 = E2 ∧ ∃ (L : List Cel) (p1 p2 : Option Addr) (c1 c2 : Nat), v1 = .slice p1 L.length c1 ∧ v2 = .slice p2 L.length c2 ∧ crow w1 p1 L ∧ crow w2 p2 L ∧ L.length ≤ 2401 := by
  rcases h1 with ⟨e1, r1, rfl, rfl⟩ | ⟨rfl, W, H, far, R, g, cap, g1, p1, rfl, t1, b1, rfl, m1⟩
  · rcases h2 with ⟨e2, r2, rfl, rfl⟩ | ⟨_, W', H', far', R', g', cap', g2, p2, _⟩
    · rcases h3 with ⟨e3, r3, rfl⟩ | ⟨_, W', H', far', g3, p3, _⟩
      · exact ⟨rerr_one r1 r2, rfl, rfl, rerr_one r3 r2, [], none, none, 0, 0, rfl, rfl, crow_nil _ _, crow_nil _ _, by simp⟩
      · exact (rerr_good r1 g3 p3).elim
    · exact (rerr_good r1 g2 p2).elim
  · rcases h2 with ⟨_, r2, _⟩ | ⟨rfl, W', H', far', R', g', cap', g2, p2, rfl, t2, b2, rfl, m2⟩
    · exact (rerr_good r2 g1 p1).elim
    · obtain ⟨rfl, rfl, rfl⟩ := good_one g1 g2
      obtain rfl := trl_one t1 t2
      rcases h3 with ⟨_, r3, _⟩ | ⟨rfl, W', H', far', g3, p3, rfl⟩
      · exact (rerr_good r3 g1 p1).elim
      · obtain ⟨rfl, rfl, rfl⟩ := good_one g1 g3
        obtain ⟨q1, c1, e1, k1, _⟩ := minec_full m1
        obtain ⟨q2, c2, e2, k2, _⟩ := minec_full m2
        exact ⟨rfl, rfl, rfl, rfl, R.reverse, q1, q2, c1, c2, e1, e2, k1, k2, by rw [List.length_reverse]; exact b1⟩

set_option maxRecDepth 20000 in
set_option maxHeartbeats 4000000 in
theorem walk (s0 : Fld) (x1 y1 : Int) (x2 y2 : Int) (w1x : (Lit.int .i64 x1).wf = true) (w1y : (Lit.int .i64 y1).wf = true) (w2x : (Lit.int .i64 x2).wf = true) (w2y : (Lit.int .i64 y2).wf = true) (w : World) (h0 : s0.fit w) (hs0 : s0.l.length * 8 ≤ 140737488351232) :
    Calls Try.prog 3 #[s0.val, .agg #[.int .i64 x1, .int .i64 y1], .agg #[.int .i64 x2, .int .i64 y2]] w fun e w' => e = .returned (.bool true) ∧ Below w.heap.size w w' := by
  obtain ⟨A, B, p, c, l⟩ := s0
  obtain ⟨hA, hB, hrow, hfit, hlen, hpc, hlc⟩ := h0
  unfold Fld.val
  simp only at hA hB hrow hfit hlen hpc hlc hs0 ⊢
  obtain ⟨n, hn⟩ : ∃ n, l.length = n := ⟨_, rfl⟩
  rw [hn] at hlen hlc ⊢
  have HN : Hid (l.length = n) := hn
  obtain ⟨F, hF⟩ : ∃ F, w.heap.size = F := ⟨_, rfl⟩
  obtain ⟨w0, hw0⟩ : ∃ w0, ((w.alloc (.cells #[.int .i64 A, .int .i64 B, .slice p n c] 24)).alloc (.cells #[.int .i64 x1, .int .i64 y1] 26)).alloc (.cells #[.int .i64 x2, .int .i64 y2] 26) = w0 := ⟨_, rfl⟩
  have HBX : Hid (∀ V, Below w0.heap.size w0 V → V.cell? ⟨F, 0, none⟩ = some (.int .i64 A) ∧ V.cell? ⟨F, 1, none⟩ = some (.int .i64 B) ∧ V.cell? ⟨F, 2, none⟩ = some (.slice p n c) ∧ V.cell? ⟨F + 1, 0, none⟩ = some (.int .i64 x1) ∧ V.cell? ⟨F + 1, 1, none⟩ = some (.int .i64 y1) ∧ V.cell? ⟨F + 2, 0, none⟩ = some (.int .i64 x2) ∧ V.cell? ⟨F + 2, 1, none⟩ = some (.int .i64 y2)) := fun V hV => boxf hF hw0 hV
  have HB0 : Hid (Below w.heap.size w w0) := by rw [← hw0]; exact ((alloc_below w _).alloc (by simp) _).alloc (by simp; omega) _
  have HR : Hid (row vi w0 p l) := row_below hrow HB0.out
  obtain ⟨z0, z1, z2, z3, z4, z5, z6⟩ := HBX.out w0 (Below.refl _ _)
  clear hrow hn hfit hs0 hA hB
  go_enter Try.func3, Try.ntmps3
  go_wp2_with fail
  refine (Find_any A B p n c l x1 y1 x2 y2 w0 HR.out HN.out hlen).mono ?_
  rintro e w1 ⟨⟨v1, D1, E1, rfl, hf1⟩, hb1⟩
  have HB1 : Hid (Below w0.heap.size w0 w1) := hb1
  clear z0 z1 z2 z3 z4 z5 z6 hw0
  obtain ⟨z0, z1, z2, z3, z4, z5, z6⟩ := HBX.out w1 hb1
  have HF1 : Hid (finr A B l ⟨x1, y1⟩ ⟨x2, y2⟩ w0.heap.size w1 v1 D1 E1) := hf1
  clear hf1 hb1
  go_wp2_with fail
  refine (WayOf_any A B p n c l x1 y1 x2 y2 w1 (row_below HR.out HB1.out) HN.out hlen).mono ?_
  rintro e w2 ⟨⟨v2, D2, E2, rfl, hf2⟩, hb2⟩
  have HB2 : Hid (Below w0.heap.size w0 w2 ∧ Below w1.heap.size w1 w2) := ⟨HB1.out.trans (hb2.mono HB1.out.size), hb2⟩
  clear z0 z1 z2 z3 z4 z5 z6
  obtain ⟨z0, z1, z2, z3, z4, z5, z6⟩ := HBX.out w2 HB2.out.1
  have HF2 : Hid (finr A B l ⟨x1, y1⟩ ⟨x2, y2⟩ w1.heap.size w2 v2 D2 E2) := hf2
  clear hf2 hb2
  go_wp2_with fail
  refine (Far_any A B p n c l x1 y1 x2 y2 w2 (row_below HR.out HB2.out.1) HN.out hlen).mono ?_
  rintro e w3 ⟨⟨D3, E3, rfl, hf3⟩, hb3⟩
  obtain ⟨rfl, rfl, rfl, rfl, L, p1, p2, c1, c2, rfl, rfl, hc1, hc2, hLl⟩ := says_one HF1.out HF2.out hf3
  obtain ⟨m, hm⟩ : ∃ m, L.length = m := ⟨_, rfl⟩
  rw [hm] at hLl ⊢
  have HLM : Hid (L.length = m) := hm
  have HC : Hid (crow w3 p1 L ∧ crow w3 p2 L) := ⟨crow_below (crow_below hc1 HB2.out.2) hb3, crow_below hc2 hb3⟩
  have HB3 : Hid (Below w.heap.size w w3) := HB0.out.trans ((HB2.out.1.trans (hb3.mono HB2.out.1.size)).mono HB0.out.size)
  clear hf3 hb3 hc1 hc2 HF1 HF2 z0 z1 z2 z3 z4 z5 z6 hm
  go_wp2_with fail
  refine (Equalc_b p1 p2 m c1 c2 L w3 HLM.out (by omega) HC.out.1 HC.out.2).mono ?_
  rintro e w4 ⟨rfl, hb4⟩
  have HB4 : Hid (Below w.heap.size w w4) := HB3.out.trans (hb4.mono HB3.out.size)
  clear hb4
  go_wp2_with fail
  go_ret
  exact ⟨rfl, HB4.out⟩

set_option maxRecDepth 100000 in
theorem lifted (os : Os) (started : os.Started) (H : Type) (enc : TypeId × Value → H) :
    ReturnsInHanded {} Try.checked os 3 .any (Rows.pathSaysSpec.pre6 enc Try.prog Try.f3 Rows.pathSaysRow.domain false) (Rows.pathSaysSpec.post enc Try.prog Try.f3 false true false false) := by
  refine returnsInHanded_of_change_sized (C := Try.checked) own started (by kernel_rfl) Try.func3
    (ChangeSpec.witness6 (enc := enc) (C := Try.checked) false ⟨#[], #[.agg #[.int .i64 0, .int .i64 0, .slice none 0 0], .agg #[.int .i64 0, .int .i64 0], .agg #[.int .i64 0, .int .i64 0]], []⟩ 8 (by kernel_rfl) (by kernel_rfl) (by kernel_rfl) (by kernel_rfl)) ?_
  intro W base args ds gs before hval0 hW hcnd hsz _
  have hval : ∀ (j : Nat) t v, Try.f3.params[j]? = some t → args[j]? = some v → Value.okWide Try.prog W .any base t v := hval0
  have hW' := hW
  obtain ⟨p, q, hA0, hV, rfl, hfz, hnd⟩ := hW
  have hA : DataW.TrodAll enc Try.prog W 0 (fun _ => true) true Try.f3.params.toList args.toList ds p := hA0
  rw [Try.params3] at hA hval
  obtain ⟨v0, vs0, d0, ds0, p0, q0, hargs, rfl, rfl, h0, r0⟩ := trodAll_cons hA
  obtain ⟨v1, vs1, d1, ds1, p1, q1, rfl, rfl, rfl, h1, r1⟩ := trodAll_cons r0
  obtain ⟨v2, vs2, d2, ds2, p2, q2, rfl, rfl, rfl, h2, r2⟩ := trodAll_cons r1
  obtain ⟨rfl, rfl, rfl⟩ := trodAll_nil r2
  obtain rfl : args = #[v0, v1, v2] := by cases args; simp_all
  obtain ⟨rfl, rfl⟩ := trodVars_none hV
  obtain ⟨s0, rfl, k0, d20, rfl, t0⟩ := open_fld Try.underlying24 Try.underlying3 Try.underlying22 rfl rfl rfl rfl rfl rfl (by kernel_rfl) (by kernel_rfl) (by kernel_rfl) (hval 0 24 v0 rfl rfl) h0
  obtain ⟨x1, y1, rfl, rfl, rfl, w1x, w1y⟩ := open_two Try.underlying26 Try.underlying3 Try.underlying3 rfl rfl (by kernel_rfl) (by kernel_rfl) (by kernel_rfl) (hval 1 26 v1 rfl rfl) h1
  obtain ⟨x2, y2, rfl, rfl, rfl, w2x, w2y⟩ := open_two Try.underlying26 Try.underlying3 Try.underlying3 rfl rfl (by kernel_rfl) (by kernel_rfl) (by kernel_rfl) (hval 2 26 v2 rfl rfl) h2
  have hs0 : s0.l.length * 8 ≤ 140737488351232 := fld_sized hsz (j := 0) rfl rfl Try.underlying24 rfl Try.underlying22 (by kernel_rfl) t0
  clear hA0 hval0
  refine (walk s0 x1 y1 x2 y2 w1x w1y w2x w2y W k0 hs0).mono fun e W' ⟨he, hg⟩ => ?_
  subst he
  exact ⟨_, rfl, law_post (by kernel_rfl) (by kernel_rfl) rfl (by kernel_rfl) Try.underlying4 hW' rfl hg⟩

theorem over : Rows.pathSaysRow.holds Try.pinned (OpenSpec.ofChange Rows.pathSaysSpec) :=
  OpenClaim.holds_of_wide 3 Try.f3 rfl rfl rfl rfl rfl rfl rfl ⟨rfl, rfl, rfl, rfl, rfl⟩ rfl rfl rfl rfl rfl (by kernel_rfl) Try.func3 (by kernel_rfl)
    (of_decide_eq_true (by kernel_rfl)) (by unfold Func.isWrapper; first | (rw [if_pos (by decide +kernel)]; kernel_rfl) | (rw [if_neg (by decide +kernel)]; exact ⟨rfl, rfl⟩))
    (fun os started H enc _ => lifted os started H enc)

theorem proved : Rows.PathSaysSaid :=
  over
end Go.Proofs.Ytkdammmikmljmaa.pathSays

namespace Go.Proofs.Ytkdammmikmljmaa
/-- Whatever field and two cells are handed in, path.Find and path.Far answer what the document says, by its own answer of distances that are made better till nothing is: the way, what it costs, and the error; in the model of Go at this commit, for every argument. -/
theorem pathSays_holds : Rows.PathSaysSaid := pathSays.proved
#print axioms pathSays_holds
end Go.Proofs.Ytkdammmikmljmaa
