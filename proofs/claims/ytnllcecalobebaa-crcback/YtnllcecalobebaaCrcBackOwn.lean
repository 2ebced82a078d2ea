/- For every text: what is sealed is opened as it was; what is opened, sealed, is what it was. -/
import Derived.Test.YtnllcecalobebaaRows
import Derived.Test.YtnllcecalobebaaPost
import Derived.Test.YtnllcecalobebaaCon
import Derived.Test.YtnllcecalobebaaMem
import Derived.Test.YtnllcecalobebaaRef
import Derived.WalkKit
import Derived.ProofKit
import Derived.OpenShut
import Derived.SizedLaws
import Derived.ChangeMaps5
import Derived.JoinedCond
namespace Go.Proofs.Ytnllcecalobebaa.crcBack
open Go.ChangeShapes Go.WideShapes Go.ChangeAt Go.RowKit
set_option linter.unusedVariables false

theorem own : ownKnob Try.prog.godebug = none := by kernel_rfl

theorem opens_right (s : ByteArray) (hs : s.size ≤ maxLen) : (∃ k : Int, k ≠ 0 ∧ ∀ w, Calls Try.prog 9 #[.string s] w fun e w' => e = .returned (.tuple #[.string ⟨#[]⟩, .int .i64 k]) ∧ Below w.heap.size w w') ∨
    (∃ x : ByteArray, sl x = s ∧ x.size + 4 ≤ maxLen ∧ ∀ w, Calls Try.prog 9 #[.string s] w fun e w' => e = .returned (.tuple #[.string x, .int .i64 0]) ∧ Below w.heap.size w w') := by
  by_cases h4 : s.size < 4
  · exact .inl ⟨3, by decide, fun w => Open_short s w h4⟩
  · by_cases he : tl (body s) = foot s
    · exact .inr ⟨body s, (sl_eq (by omega)).2 he, by unfold body; simp; omega, fun w => Open_yes s w hs (by omega) he⟩
    · exact .inl ⟨5, by decide, fun w => Open_no s w hs (by omega) he⟩
theorem sl_parts (s : ByteArray) : (sl s).size = s.size + 4 ∧ body (sl s) = s ∧ foot (sl s) = tl s := by
  have h : (sl s).size = s.size + 4 := by unfold sl; rw [ByteArray.size_append, tl_size]
  refine ⟨h, ?_, ?_⟩
  · unfold body
    rw [h]
    apply str_eq
    unfold sl
    simp
    rw [List.take_of_length_le (by simp)]
  · unfold foot
    rw [h]
    apply str_eq
    unfold sl
    simp
    rw [List.take_of_length_le (by simp [tl, le4])]
theorem opens_sealed (s : ByteArray) (hs : s.size + 4 ≤ maxLen) (w : World) : Calls Try.prog 9 #[.string (sl s)] w fun e w' => e = .returned (.tuple #[.string s, .int .i64 0]) ∧ Below w.heap.size w w' := by
  obtain ⟨h1, h2, h3⟩ := sl_parts s
  have := Open_yes (sl s) w (by omega) (by omega) (by rw [h2, h3])
  rwa [h2] at this

set_option maxRecDepth 20000 in
set_option maxHeartbeats 4000000 in
theorem walk (s0 : ByteArray) (hs0 : s0.size ≤ 140737488351232) (w : World) :
    Calls Try.prog 8 #[.string s0] w fun e w' => e = .returned (.bool true) ∧ Below w.heap.size w w' := by
  have HS : Hid (s0.size + 4 ≤ maxLen) := by show _ ≤ _; unfold maxLen; omega
  have HS' : Hid (s0.size ≤ maxLen) := by show _ ≤ _; unfold maxLen; omega
  clear hs0
  go_enter Try.func8, Try.ntmps8
  go_wp2_with fail
  refine (Seal_any _ _ HS.out).mono ?_
  rintro e w1 ⟨rfl, hw1⟩
  go_wp2_with fail
  refine (opens_sealed _ HS.out _).mono ?_
  rintro e w2 ⟨rfl, hw2⟩
  have b2 := hw1.trans (hw2.mono hw1.size)
  clear hw1 hw2
  rcases opens_right s0 HS'.out with ⟨k, hk, h9⟩ | ⟨x, hx, hx4, h9⟩
  · go_wp2_with fail
    refine (h9 _).mono ?_
    rintro e w3 ⟨rfl, hw3⟩
    have b3 := b2.trans (hw3.mono b2.size)
    clear hw3 h9 b2
    have B3 : Hid (Below w.heap.size w w3) := b3
    clear b3
    go_wp2_with fail
    refine (lives_any _).mono ?_
    rintro e w' ⟨rfl, hw⟩; subst w'
    go_wp2_with fail
    go_ret
    exact ⟨rfl, B3.out⟩
  · have HX : Hid (sl x = s0) := hx
    have HX4 : Hid (x.size + 4 ≤ maxLen) := hx4
    clear hx hx4
    go_wp2_with fail
    refine (h9 _).mono ?_
    rintro e w3 ⟨rfl, hw3⟩
    have b3 := b2.trans (hw3.mono b2.size)
    clear hw3 h9 b2
    have B3 : Hid (Below w.heap.size w w3) := b3
    clear b3
    go_wp2_with fail
    refine (lives_any _).mono ?_
    rintro e w' ⟨rfl, hw⟩; subst w'
    go_wp2_with fail
    refine (Seal_any _ _ HX4.out).mono ?_
    rintro e w4 ⟨rfl, hw4⟩
    rw [HX.out]
    have B4 : Hid (Below w.heap.size w w4) := B3.out.trans (hw4.mono B3.out.size)
    clear hw4
    go_wp2_with fail
    go_ret
    exact ⟨rfl, B4.out⟩

set_option maxRecDepth 100000 in
theorem lifted (os : Os) (started : os.Started) (H : Type) (enc : TypeId × Value → H) :
    ReturnsInHanded {} Try.checked os 8 .any (Rows.crcBackSpec.pre6 enc Try.prog Try.f8 Rows.crcBackRow.domain false) (Rows.crcBackSpec.post enc Try.prog Try.f8 false true false false) := by
  refine returnsInHanded_of_change_sized (C := Try.checked) own started (by kernel_rfl) Try.func8
    (ChangeSpec.witness6 (enc := enc) (C := Try.checked) false ⟨#[], #[.string ⟨#[]⟩], []⟩ 8 (by kernel_rfl) (by kernel_rfl) (by kernel_rfl) (by kernel_rfl)) ?_
  intro W base args ds gs before hval0 hW hcnd hsz _
  have hval : ∀ (j : Nat) t v, Try.f8.params[j]? = some t → args[j]? = some v → Value.okWide Try.prog W .any base t v := hval0
  have hW' := hW
  obtain ⟨p, q, hA0, hV, rfl, hfz, hnd⟩ := hW
  have hA : DataW.TrodAll enc Try.prog W 0 (fun _ => true) true Try.f8.params.toList args.toList ds p := hA0
  rw [Try.params8] at hA hval
  obtain ⟨v0, vs0, d0, ds0, p0, q0, hargs, rfl, rfl, h0, r0⟩ := trodAll_cons hA
  obtain ⟨rfl, rfl, rfl⟩ := trodAll_nil r0
  obtain rfl : args = #[v0] := by cases args; simp_all
  obtain ⟨rfl, rfl⟩ := trodVars_none hV
  obtain ⟨s0, rfl, rfl, rfl, hm0⟩ := Go.ChangeMaps.open_string Try.underlying9 (hval 0 9 v0 rfl rfl) h0
  have hs0 : s0.size ≤ 140737488351232 := by have := sized_string hsz (j := 0) rfl rfl; unfold reachBytes at this; simpa using this
  clear hA0 hval0
  refine (walk s0 hs0 W).mono fun e W' ⟨he, hg⟩ => ?_
  subst he
  exact ⟨_, rfl, law_post (by kernel_rfl) (by kernel_rfl) rfl (by kernel_rfl) Try.underlying4 hW' rfl hg⟩

theorem over : Rows.crcBackRow.holds Try.pinned (OpenSpec.ofChange Rows.crcBackSpec) :=
  OpenClaim.holds_of_wide 8 Try.f8 rfl rfl rfl rfl rfl rfl rfl ⟨rfl, rfl, rfl, rfl, rfl⟩ rfl rfl rfl rfl rfl (by kernel_rfl) Try.func8 (by kernel_rfl)
    (of_decide_eq_true (by kernel_rfl)) (by unfold Func.isWrapper; first | (rw [if_pos (by decide +kernel)]; kernel_rfl) | (rw [if_neg (by decide +kernel)]; exact ⟨rfl, rfl⟩))
    (fun os started H enc _ => lifted os started H enc)

theorem proved : Rows.CrcBackSaid :=
  over
end Go.Proofs.Ytnllcecalobebaa.crcBack

namespace Go.Proofs.Ytnllcecalobebaa
/-- For every text: what is sealed is opened as it was; what is opened, sealed, is what it was. -/
theorem crcBack_holds : Rows.CrcBackSaid := crcBack.proved
#print axioms crcBack_holds
end Go.Proofs.Ytnllcecalobebaa
