/- MarchSays: whatever is handed in, Step and Reach answer what the document says: for every world, list of goes, number, cell and length the law answers true. -/
import Derived.Test.YtnbbfnlfcncgnaaRows
import Derived.Test.YtnbbfnlfcncgnaaPost
import Derived.Test.YtnbbfnlfcncgnaaOpc
import Derived.Test.YtnbbfnlfcncgnaaGm
import Derived.Test.YtnbbfnlfcncgnaaMya
import Derived.Test.YtnbbfnlfcncgnaaMyb
import Derived.Test.YtnbbfnlfcncgnaaMyc
import Derived.WalkKit
import Derived.ProofKit
import Derived.OpenShut
import Derived.SizedLaws
import Derived.ChangeMaps5
import Derived.JoinedCond
namespace Go.Proofs.Ytnbbfnlfcncgnaa.marchSays
open Go.ChangeShapes Go.WideShapes Go.ChangeAt Go.RowKit
set_option linter.unusedVariables false

theorem own : ownKnob Try.prog.godebug = none := by kernel_rfl


set_option maxRecDepth 20000 in
set_option maxHeartbeats 4000000 in
theorem walk (s0 : Wld) (s1 : Gst) (a2 : Int) (x3 y3 : Int) (a4 : Int) (w2 : (Lit.int .i64 a2).wf = true) (w3x : (Lit.int .i64 x3).wf = true) (w3y : (Lit.int .i64 y3).wf = true) (w4 : (Lit.int .i64 a4).wf = true) (w : World) (h0 : s0.fit w) (h1 : s1.fit w) (hs1 : s1.l.length * 24 ≤ 140737488351232) :
    Calls Try.prog 3 #[s0.val, s1.val, .int .i64 a2, .agg #[.int .i64 x3, .int .i64 y3], .int .i64 a4] w fun e w' => e = .returned (.bool true) ∧ Below w.heap.size w w' := by
  obtain ⟨E0, hE0⟩ := wre_total s0
  by_cases h : E0 = 0
  · by_cases hn : 200 < s1.l.length
    · exact saysB s0 s1 a2 x3 y3 a4 w2 w3x w3y w4 w h0 h1 hs1 E0 hE0 ⟨h, hn⟩
    · exact saysC s0 s1 a2 x3 y3 a4 w2 w3x w3y w4 w h0 h1 hs1 E0 hE0 ⟨h, by omega⟩
  · exact saysA s0 s1 a2 x3 y3 a4 w2 w3x w3y w4 w h0 h1 hs1 E0 hE0 h

set_option maxRecDepth 100000 in
theorem lifted (os : Os) (started : os.Started) (H : Type) (enc : TypeId × Value → H) :
    ReturnsInHanded {} Try.checked os 3 .any (Rows.marchSaysSpec.pre6 enc Try.prog Try.f3 Rows.marchSaysRow.domain false) (Rows.marchSaysSpec.post enc Try.prog Try.f3 false true false false) := by
  refine returnsInHanded_of_change_sized (C := Try.checked) own started (by kernel_rfl) Try.func3
    (ChangeSpec.witness6 (enc := enc) (C := Try.checked) false ⟨#[], #[.agg #[.int .i64 0, .int .i64 0, .slice none 0 0, .slice none 0 0, .slice none 0 0, .slice none 0 0, .slice none 0 0, .int .i64 0, .int .i64 0], .slice none 0 0, .int .i64 0, .agg #[.int .i64 0, .int .i64 0], .int .i64 0], []⟩ 8 (by kernel_rfl) (by kernel_rfl) (by kernel_rfl) (by kernel_rfl)) ?_
  intro W base args ds gs before hval0 hW hcnd hsz _
  have hval : ∀ (j : Nat) t v, Try.f3.params[j]? = some t → args[j]? = some v → Value.okWide Try.prog W .any base t v := hval0
  have hW' := hW
  obtain ⟨p, q, hA0, hV, rfl, hfz, hnd⟩ := hW
  have hA : DataW.TrodAll enc Try.prog W 0 (fun _ => true) true Try.f3.params.toList args.toList ds p := hA0
  rw [Try.params3] at hA hval
  obtain ⟨v0, vs0, d0, ds0, p0, q0, hargs, rfl, rfl, h0, r0⟩ := trodAll_cons hA
  obtain ⟨v1, vs1, d1, ds1, p1, q1, rfl, rfl, rfl, h1, r1⟩ := trodAll_cons r0
  obtain ⟨v2, vs2, d2, ds2, p2, q2, rfl, rfl, rfl, h2, r2⟩ := trodAll_cons r1
  obtain ⟨v3, vs3, d3, ds3, p3, q3, rfl, rfl, rfl, h3, r3⟩ := trodAll_cons r2
  obtain ⟨v4, vs4, d4, ds4, p4, q4, rfl, rfl, rfl, h4, r4⟩ := trodAll_cons r3
  obtain ⟨rfl, rfl, rfl⟩ := trodAll_nil r4
  obtain rfl : args = #[v0, v1, v2, v3, v4] := by cases args; simp_all
  obtain ⟨rfl, rfl⟩ := trodVars_none hV
  obtain ⟨s0, rfl, k0⟩ := open_wld (hval 0 28 v0 rfl rfl) h0
  obtain ⟨s1, rfl, k1, t1⟩ := open_gst (hval 1 29 v1 rfl rfl) h1
  obtain ⟨a2, rfl, rfl, rfl, w2⟩ := open_int Try.underlying3 (hval 2 3 v2 rfl rfl) h2
  obtain ⟨x3, y3, rfl, rfl, rfl, w3x, w3y⟩ := open_two Try.underlying31 Try.underlying3 Try.underlying3 rfl rfl (by kernel_rfl) (by kernel_rfl) (by kernel_rfl) (hval 3 31 v3 rfl rfl) h3
  obtain ⟨a4, rfl, rfl, rfl, w4⟩ := open_int Try.underlying3 (hval 4 3 v4 rfl rfl) h4
  have hs1 : s1.l.length * 24 ≤ 140737488351232 := told_sized hsz (j := 1) rfl rfl Try.underlying29 (by kernel_rfl) t1
  clear hA0 hval0
  refine (walk s0 s1 a2 x3 y3 a4 w2 w3x w3y w4 W k0 k1 hs1).mono fun e W' ⟨he, hg⟩ => ?_
  subst he
  exact ⟨_, rfl, law_post (by kernel_rfl) (by kernel_rfl) rfl (by kernel_rfl) Try.underlying4 hW' rfl hg⟩

theorem over : Rows.marchSaysRow.holds Try.pinned (OpenSpec.ofChange Rows.marchSaysSpec) :=
  OpenClaim.holds_of_wide 3 Try.f3 rfl rfl rfl rfl rfl rfl rfl ⟨rfl, rfl, rfl, rfl, rfl⟩ rfl rfl rfl rfl rfl (by kernel_rfl) Try.func3 (by kernel_rfl)
    (of_decide_eq_true (by kernel_rfl)) (by unfold Func.isWrapper; first | (rw [if_pos (by decide +kernel)]; kernel_rfl) | (rw [if_neg (by decide +kernel)]; exact ⟨rfl, rfl⟩))
    (fun os started H enc _ => lifted os started H enc)

theorem proved : Rows.MarchSaysSaid :=
  over
end Go.Proofs.Ytnbbfnlfcncgnaa.marchSays

namespace Go.Proofs.Ytnbbfnlfcncgnaa
/-- MarchSays: whatever is handed in, Step and Reach answer what the document says: for every world, list of goes, number, cell and length the law answers true. -/
theorem marchSays_holds : Rows.MarchSaysSaid := marchSays.proved
#print axioms marchSays_holds
end Go.Proofs.Ytnbbfnlfcncgnaa
