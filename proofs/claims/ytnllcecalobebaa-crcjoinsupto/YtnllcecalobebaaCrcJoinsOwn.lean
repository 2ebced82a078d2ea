/- For every two texts (together with the number of bulk at most 1048576) and every number, Join answers what the document says: of two texts what Of tells of both. -/
import Derived.Test.YtnllcecalobebaaRows
import Derived.Test.YtnllcecalobebaaPost
import Derived.Test.YtnllcecalobebaaCon
import Derived.Test.YtnllcecalobebaaMem
import Derived.Test.YtnllcecalobebaaRef
import Derived.Test.YtnllcecalobebaaJoin
import Derived.WalkKit
import Derived.ProofKit
import Derived.OpenShut
import Derived.SizedLaws
import Derived.ChangeMaps5
import Derived.JoinedCond
namespace Go.Proofs.Ytnllcecalobebaa.crcJoins
open Go.ChangeShapes Go.WideShapes Go.ChangeAt Go.RowKit
set_option linter.unusedVariables false

theorem own : ownKnob Try.prog.godebug = none := by kernel_rfl

theorem Join_sum (a b t : ByteArray) (ht : a ++ b = t) (n : Int) (hn : n = b.size) (hb : b.size ≤ 2147483647) (w : World) :
    Calls Try.prog 16 #[.int .u32 (mr 0 a.data.toList : Nat), .int .u32 (mr 0 b.data.toList : Nat), .int .i64 n] w fun e w' => e = .returned (.tuple #[.int .u32 (mr 0 t.data.toList : Nat), .int .i64 0]) ∧ Below w.heap.size w w' := by
  subst hn
  have h := Join_yes (mr 0 a.data.toList) (mr 0 b.data.toList) b.size (mr_lt _ (by omega)) (mr_lt _ (by omega)) hb w
  have e : b.size = b.data.toList.length := by simp
  have e2 : mr 0 t.data.toList = bts (8 * b.size) (mr 0 a.data.toList) ^^^ mr 0 b.data.toList := by
    rw [e, mr_join, ← ht]; simp
  rw [e2]; exact h

set_option maxRecDepth 20000 in
set_option maxHeartbeats 4000000 in
theorem walk (s0 : ByteArray) (s1 : ByteArray) (a2 : Int) (hs0 : s0.size ≤ 1048576) (hs1 : s1.size ≤ 1048576) (w2 : (Lit.int .i64 a2).wf = true) (w : World) :
    Calls Try.prog 4 #[.string s0, .string s1, .int .i64 a2] w fun e w' => e = .returned (.bool true) ∧ Below w.heap.size w w' := by
  have hn : -9223372036854775808 ≤ a2 ∧ a2 ≤ 9223372036854775807 := by simpa [Lit.wf, IntKind.min, IntKind.max, IntKind.signed, IntKind.bits] using w2
  have H0 : Hid (s0.size ≤ maxLen) := by show _ ≤ _; unfold maxLen; omega
  have H1 : Hid (s1.size ≤ maxLen) := by show _ ≤ _; unfold maxLen; omega
  have H01 : Hid ((s0 ++ s1).size ≤ maxLen) := by show _ ≤ _; unfold maxLen; rw [ByteArray.size_append]; omega
  have HB : Hid (s1.size ≤ 2147483647) := by show _ ≤ _; omega
  clear w2
  have hsum : Hid (∀ w, Calls Try.prog 16 #[.int .u32 (mr 0 s0.data.toList : Nat), .int .u32 (mr 0 s1.data.toList : Nat), .int .i64 s1.size] w fun e w' => e = .returned (.tuple #[.int .u32 (mr 0 (s0 ++ s1).data.toList : Nat), .int .i64 0]) ∧ Below w.heap.size w w') := fun w => Join_sum s0 s1 _ rfl _ rfl HB.out w
  have hall : Hid (∀ w, Calls Try.prog 12 #[.int .u32 0, .string (s0 ++ s1)] w fun e w' => e = .returned (.int .u32 (mr 0 (s0 ++ s1).data.toList : Nat)) ∧ Below w.heap.size w w') := fun w => CrcMore_any 0 _ w (by omega) H01.out
  obtain ⟨X, hX⟩ : ∃ X, mr 0 (s0 ++ s1).data.toList = X := ⟨_, rfl⟩
  rw [hX] at hsum hall
  clear hX
  go_enter Try.func4, Try.ntmps4
  go_wp2_with fail
  refine (CrcMore_any 0 _ _ (by omega) H0.out).mono ?_
  rintro e w1 ⟨rfl, hw1⟩
  go_wp2_with fail
  refine (CrcMore_any 0 _ _ (by omega) H1.out).mono ?_
  rintro e w2 ⟨rfl, hw2⟩
  have b2 : Hid (Below w.heap.size w w2) := hw1.trans (hw2.mono hw1.size)
  clear hw1 hw2
  go_wp2_with fail
  refine (hsum.out _).mono ?_
  rintro e w3 ⟨rfl, hw3⟩
  have b3 : Hid (Below w.heap.size w w3) := b2.out.trans (hw3.mono b2.out.size)
  clear hw3
  by_cases hok : 0 ≤ a2 ∧ a2 ≤ 2147483647
  · obtain ⟨hlo, hhi⟩ := hok
    obtain ⟨n, rfl⟩ := Int.eq_ofNat_of_zero_le hlo
    have hj := fun w => Join_yes 1 2 n (by omega) (by omega) (by omega) w
    obtain ⟨Y, hY⟩ : ∃ Y, bts (8 * n) 1 ^^^ 2 = Y := ⟨_, rfl⟩
    rw [hY] at hj
    clear hY
    have hbt := fun w => Between_any n 0 2147483647 w
    rw [show decide ((0 : Int) ≤ n ∧ (n : Int) ≤ 2147483647) = true by simp; omega] at hbt
    go_wp2_with fail
    refine (hj _).mono ?_
    rintro e w4 ⟨rfl, hw4⟩
    have b4 : Hid (Below w.heap.size w w4) := b3.out.trans (hw4.mono b3.out.size)
    clear hw4 hj
    go_wp2_with fail
    refine (hall.out _).mono ?_
    rintro e w5 ⟨rfl, hw5⟩
    have b5 : Hid (Below w.heap.size w w5) := b4.out.trans (hw5.mono b4.out.size)
    clear hw5
    go_wp2_with fail
    refine (hbt _).mono ?_
    rintro e w' ⟨rfl, hw⟩; subst w'
    go_wp2_with fail
    go_ret
    exact ⟨rfl, b5.out⟩
  · have hj := fun w => Join_no 1 2 a2 (by omega) w
    have hbt := fun w => Between_any a2 0 2147483647 w
    rw [show decide ((0 : Int) ≤ a2 ∧ a2 ≤ 2147483647) = false by simpa using hok] at hbt
    clear hok
    go_wp2_with fail
    refine (hj _).mono ?_
    rintro e w' ⟨rfl, hw⟩; subst w'
    clear hj
    go_wp2_with fail
    refine (hall.out _).mono ?_
    rintro e w5 ⟨rfl, hw5⟩
    have b5 : Hid (Below w.heap.size w w5) := b3.out.trans (hw5.mono b3.out.size)
    clear hw5
    go_wp2_with fail
    refine (hbt _).mono ?_
    rintro e w' ⟨rfl, hw⟩; subst w'
    go_wp2_with fail
    go_ret
    exact ⟨rfl, b5.out⟩

set_option maxRecDepth 100000 in
theorem lifted (os : Os) (started : os.Started) (H : Type) (enc : TypeId × Value → H) (F : Stop.Interp) :
    ReturnsInHanded {} Try.checked os 4 .any ((Rows.OpenSpec.upto Rows.crcJoinsSpec).pre6 enc Try.prog Try.f4 Rows.crcJoinsUptoRow.domain false) (((Rows.OpenSpec.upto Rows.crcJoinsSpec).at F).post enc Try.prog Try.f4 false true false false) := by
  refine returnsInHanded_of_cond (C := Try.checked) (s := Rows.OpenSpec.upto Rows.crcJoinsSpec) (k := Rows.uptoSmall) rfl own started (by kernel_rfl) Try.func4
    (OpenSpec.witness (enc := enc) (C := Try.checked) (s := Rows.OpenSpec.upto Rows.crcJoinsSpec) (k := Rows.uptoSmall) rfl false ⟨#[], #[.string ⟨#[]⟩, .string ⟨#[]⟩, .int .i64 0], []⟩ 8 (by kernel_rfl) (by kernel_rfl) (by kernel_rfl)
      (x := ([.lit (.string []), .lit (.string []), .lit (.int .i64 0)], [], [])) (by kernel_rfl) rfl (by kernel_rfl)) ?_
  intro W base args ds gs before hval0 hW hcnd hk _
  have hval : ∀ (j : Nat) t v, Try.f4.params[j]? = some t → args[j]? = some v → Value.okWide Try.prog W .any base t v := hval0
  have hW' := hW
  obtain ⟨p, q, hA0, hV, rfl, hfz, hnd⟩ := hW
  have hA : DataW.TrodAll enc Try.prog W 0 (fun _ => true) true Try.f4.params.toList args.toList ds p := hA0
  rw [Try.params4] at hA hval
  obtain ⟨v0, vs0, d0, ds0, p0, q0, hargs, rfl, rfl, h0, r0⟩ := trodAll_cons hA
  obtain ⟨v1, vs1, d1, ds1, p1, q1, rfl, rfl, rfl, h1, r1⟩ := trodAll_cons r0
  obtain ⟨v2, vs2, d2, ds2, p2, q2, rfl, rfl, rfl, h2, r2⟩ := trodAll_cons r1
  obtain ⟨rfl, rfl, rfl⟩ := trodAll_nil r2
  obtain rfl : args = #[v0, v1, v2] := by cases args; simp_all
  obtain ⟨rfl, rfl⟩ := trodVars_none hV
  obtain ⟨s0, rfl, rfl, rfl, hm0⟩ := Go.ChangeMaps.open_string Try.underlying9 (hval 0 9 v0 rfl rfl) h0
  obtain ⟨s1, rfl, rfl, rfl, hm1⟩ := Go.ChangeMaps.open_string Try.underlying9 (hval 1 9 v1 rfl rfl) h1
  obtain ⟨a2, rfl, rfl, rfl, w2⟩ := open_int Try.underlying3 (hval 2 3 v2 rfl rfl) h2
  have hk0 : Rows.uptoBulkAll _ ≤ 1048576 := of_decide_eq_true hk
  simp only [Rows.uptoBulkAll, Rows.uptoBulk, List.append_nil, Array.length_toList] at hk0
  have hs0 : s0.size ≤ 1048576 := by have e : s0.size = s0.data.size := rfl; simp at hk0; omega
  have hs1 : s1.size ≤ 1048576 := by have e : s1.size = s1.data.size := rfl; simp at hk0; omega
  clear hA0 hval0
  refine (walk s0 s1 a2 hs0 hs1 w2 W).mono fun e W' ⟨he, hg⟩ => ?_
  subst he
  exact ⟨_, rfl, law_post (by kernel_rfl) (by kernel_rfl) rfl (by kernel_rfl) Try.underlying4 hW' rfl hg⟩

theorem over : Rows.crcJoinsUptoRow.holds Try.pinned (Rows.OpenSpec.upto Rows.crcJoinsSpec) :=
  OpenClaim.holds_of_cond 4 Try.f4 rfl rfl rfl rfl rfl rfl rfl ⟨rfl, rfl, rfl, rfl, rfl⟩ rfl rfl rfl rfl rfl (by kernel_rfl) Try.func4 (by kernel_rfl)
    (of_decide_eq_true (by kernel_rfl)) (by unfold Func.isWrapper; first | (rw [if_pos (by decide +kernel)]; kernel_rfl) | (rw [if_neg (by decide +kernel)]; exact ⟨rfl, rfl⟩))
    (fun os started H enc _ F => lifted os started H enc F)

theorem proved : Rows.CrcJoinsUptoSaid :=
  over
end Go.Proofs.Ytnllcecalobebaa.crcJoins

namespace Go.Proofs.Ytnllcecalobebaa
/-- For every two texts (together with the number of bulk at most 1048576) and every number, Join answers what the document says: of two texts what Of tells of both. -/
theorem crcJoins_upto_holds : Rows.CrcJoinsUptoSaid := crcJoins.proved
#print axioms crcJoins_upto_holds
end Go.Proofs.Ytnllcecalobebaa
