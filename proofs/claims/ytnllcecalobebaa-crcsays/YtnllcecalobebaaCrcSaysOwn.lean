/- For every number and every text, Of, More, Seal and Open answer what the document says. -/
import Derived.Test.YtnllcecalobebaaRows
import Derived.Test.YtnllcecalobebaaPost
import Derived.Test.YtnllcecalobebaaCon
import Derived.Test.YtnllcecalobebaaMem
import Derived.Test.YtnllcecalobebaaRef
import Derived.WalkKit
import Derived.ProofKit
import Derived.OpenShut
import Derived.SizedLaws
import Derived.ChangeMaps5
import Derived.JoinedCond
namespace Go.Proofs.Ytnllcecalobebaa.crcSays
open Go.ChangeShapes Go.WideShapes Go.ChangeAt Go.RowKit
set_option linter.unusedVariables false

theorem own : ownKnob Try.prog.godebug = none := by kernel_rfl

theorem opens_alike (s : ByteArray) (hs : s.size ≤ maxLen) : ∃ (x : ByteArray) (k : Int), (∀ w, Calls Try.prog 9 #[.string s] w fun e w' => e = .returned (.tuple #[.string x, .int .i64 k]) ∧ Below w.heap.size w w') ∧
    (∀ w, Calls Try.prog 10 #[.string s] w fun e w' => e = .returned (.tuple #[.string x, .int .i64 k]) ∧ Below w.heap.size w w') := by
  by_cases h4 : s.size < 4
  · exact ⟨_, _, fun w => Open_short s w h4, fun w => Opened_short s w h4⟩
  · by_cases he : tl (body s) = foot s
    · exact ⟨_, _, fun w => Open_yes s w hs (by omega) he, fun w => Opened_yes s w hs (by omega) he⟩
    · exact ⟨_, _, fun w => Open_no s w hs (by omega) he, fun w => Opened_no s w hs (by omega) he⟩

set_option maxRecDepth 20000 in
set_option maxHeartbeats 4000000 in
theorem walk (a0 : Int) (s1 : ByteArray) (w0 : (Lit.int .u32 a0).wf = true) (hs1 : s1.size ≤ 140737488351232) (w : World) :
    Calls Try.prog 3 #[.int .u32 a0, .string s1] w fun e w' => e = .returned (.bool true) ∧ Below w.heap.size w w' := by
  have hn : 0 ≤ a0 ∧ a0 ≤ 4294967295 := by simpa [Lit.wf, IntKind.min, IntKind.max, IntKind.signed, IntKind.bits] using w0
  obtain ⟨n, rfl⟩ := Int.eq_ofNat_of_zero_le hn.1
  have HN : Hid (n < 4294967296) := by show n < _; omega
  have HS : Hid (s1.size + 4 ≤ maxLen) := by show _ ≤ _; unfold maxLen; omega
  have HS' : Hid (s1.size ≤ maxLen) := by show _ ≤ _; unfold maxLen; omega
  clear hn w0 hs1
  obtain ⟨x, k, h9, h10⟩ := opens_alike s1 HS'.out
  go_enter Try.func3, Try.ntmps3
  go_wp2_with fail
  refine (h9 _).mono ?_
  rintro e w1 ⟨rfl, hw1⟩
  go_wp2_with fail
  refine (h10 _).mono ?_
  rintro e w2 ⟨rfl, hw2⟩
  go_wp2_with fail
  refine (Of_any _ _ HS'.out).mono ?_
  rintro e w' ⟨rfl, hw⟩; subst w'
  go_wp2_with fail
  refine (CrcMore_any 0 _ _ (by omega) HS'.out).mono ?_
  rintro e w3 ⟨rfl, hw3⟩
  go_wp2_with fail
  refine (More_any n _ _ HN.out HS'.out).mono ?_
  rintro e w' ⟨rfl, hw⟩; subst w'
  go_wp2_with fail
  refine (CrcMore_any n _ _ HN.out HS'.out).mono ?_
  rintro e w4 ⟨rfl, hw4⟩
  go_wp2_with fail
  refine (Seal_any _ _ HS.out).mono ?_
  rintro e w5 ⟨rfl, hw5⟩
  go_wp2_with fail
  refine (Sealed_any _ _ HS.out).mono ?_
  rintro e w6 ⟨rfl, hw6⟩
  go_wp2_with fail
  go_ret
  have b2 := hw1.trans (hw2.mono hw1.size)
  have b3 := b2.trans (hw3.mono b2.size)
  have b4 := b3.trans (hw4.mono b3.size)
  have b5 := b4.trans (hw5.mono b4.size)
  have b6 := b5.trans (hw6.mono b5.size)
  exact ⟨by simp, b6⟩

set_option maxRecDepth 100000 in
theorem lifted (os : Os) (started : os.Started) (H : Type) (enc : TypeId × Value → H) :
    ReturnsInHanded {} Try.checked os 3 .any (Rows.crcSaysSpec.pre6 enc Try.prog Try.f3 Rows.crcSaysRow.domain false) (Rows.crcSaysSpec.post enc Try.prog Try.f3 false true false false) := by
  refine returnsInHanded_of_change_sized (C := Try.checked) own started (by kernel_rfl) Try.func3
    (ChangeSpec.witness6 (enc := enc) (C := Try.checked) false ⟨#[], #[.int .u32 0, .string ⟨#[]⟩], []⟩ 8 (by kernel_rfl) (by kernel_rfl) (by kernel_rfl) (by kernel_rfl)) ?_
  intro W base args ds gs before hval0 hW hcnd hsz _
  have hval : ∀ (j : Nat) t v, Try.f3.params[j]? = some t → args[j]? = some v → Value.okWide Try.prog W .any base t v := hval0
  have hW' := hW
  obtain ⟨p, q, hA0, hV, rfl, hfz, hnd⟩ := hW
  have hA : DataW.TrodAll enc Try.prog W 0 (fun _ => true) true Try.f3.params.toList args.toList ds p := hA0
  rw [Try.params3] at hA hval
  obtain ⟨v0, vs0, d0, ds0, p0, q0, hargs, rfl, rfl, h0, r0⟩ := trodAll_cons hA
  obtain ⟨v1, vs1, d1, ds1, p1, q1, rfl, rfl, rfl, h1, r1⟩ := trodAll_cons r0
  obtain ⟨rfl, rfl, rfl⟩ := trodAll_nil r1
  obtain rfl : args = #[v0, v1] := by cases args; simp_all
  obtain ⟨rfl, rfl⟩ := trodVars_none hV
  obtain ⟨a0, rfl, rfl, rfl, w0⟩ := open_int Try.underlying22 (hval 0 22 v0 rfl rfl) h0
  obtain ⟨s1, rfl, rfl, rfl, hm1⟩ := Go.ChangeMaps.open_string Try.underlying9 (hval 1 9 v1 rfl rfl) h1
  have hs1 : s1.size ≤ 140737488351232 := by have := sized_string hsz (j := 1) rfl rfl; unfold reachBytes at this; simpa using this
  clear hA0 hval0
  refine (walk a0 s1 w0 hs1 W).mono fun e W' ⟨he, hg⟩ => ?_
  subst he
  exact ⟨_, rfl, law_post (by kernel_rfl) (by kernel_rfl) rfl (by kernel_rfl) Try.underlying4 hW' rfl hg⟩

theorem over : Rows.crcSaysRow.holds Try.pinned (OpenSpec.ofChange Rows.crcSaysSpec) :=
  OpenClaim.holds_of_wide 3 Try.f3 rfl rfl rfl rfl rfl rfl rfl ⟨rfl, rfl, rfl, rfl, rfl⟩ rfl rfl rfl rfl rfl (by kernel_rfl) Try.func3 (by kernel_rfl)
    (of_decide_eq_true (by kernel_rfl)) (by unfold Func.isWrapper; first | (rw [if_pos (by decide +kernel)]; kernel_rfl) | (rw [if_neg (by decide +kernel)]; exact ⟨rfl, rfl⟩))
    (fun os started H enc _ => lifted os started H enc)

theorem proved : Rows.CrcSaysSaid :=
  over
end Go.Proofs.Ytnllcecalobebaa.crcSays

namespace Go.Proofs.Ytnllcecalobebaa
/-- For every number and every text, Of, More, Seal and Open answer what the document says. -/
theorem crcSays_holds : Rows.CrcSaysSaid := crcSays.proved
#print axioms crcSays_holds
end Go.Proofs.Ytnllcecalobebaa
