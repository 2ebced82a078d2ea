/- For every three texts of bulk at most 1048576 together: however the text is cut, its sum is the same; and it is told by the sums of both parts. -/
import Derived.Test.YtnllcecalobebaaRows
import Derived.Test.YtnllcecalobebaaPost
import Derived.Test.YtnllcecalobebaaCon
import Derived.Test.YtnllcecalobebaaMem
import Derived.Test.YtnllcecalobebaaRef
import Derived.Test.YtnllcecalobebaaJoin
import Derived.WalkKit
import Derived.ProofKit
import Derived.OpenShut
import Derived.SizedLaws
import Derived.ChangeMaps5
import Derived.JoinedCond
namespace Go.Proofs.Ytnllcecalobebaa.crcCuts
open Go.ChangeShapes Go.WideShapes Go.ChangeAt Go.RowKit
set_option linter.unusedVariables false

theorem own : ownKnob Try.prog.godebug = none := by kernel_rfl

theorem Join_sum (a b t : ByteArray) (ht : a ++ b = t) (n : Int) (hn : n = b.size) (hb : b.size ≤ 2147483647) (w : World) :
    Calls Try.prog 16 #[.int .u32 (mr 0 a.data.toList : Nat), .int .u32 (mr 0 b.data.toList : Nat), .int .i64 n] w fun e w' => e = .returned (.tuple #[.int .u32 (mr 0 t.data.toList : Nat), .int .i64 0]) ∧ Below w.heap.size w w' := by
  subst hn
  have h := Join_yes (mr 0 a.data.toList) (mr 0 b.data.toList) b.size (mr_lt _ (by omega)) (mr_lt _ (by omega)) hb w
  have e : b.size = b.data.toList.length := by simp
  have e2 : mr 0 t.data.toList = bts (8 * b.size) (mr 0 a.data.toList) ^^^ mr 0 b.data.toList := by
    rw [e, mr_join, ← ht]; simp
  rw [e2]; exact h

set_option maxRecDepth 20000 in
set_option maxHeartbeats 4000000 in
theorem walk (s0 : ByteArray) (s1 : ByteArray) (s2 : ByteArray) (hs0 : s0.size ≤ 1048576) (hs1 : s1.size ≤ 1048576) (hs2 : s2.size ≤ 1048576) (w : World) :
    Calls Try.prog 5 #[.string s0, .string s1, .string s2] w fun e w' => e = .returned (.bool true) ∧ Below w.heap.size w w' := by
  have m : ∀ s : ByteArray, s.size ≤ 1048576 → s.size ≤ maxLen := fun s h => by unfold maxLen; omega
  have H0 : Hid (s0.size ≤ maxLen) := m _ hs0
  have H1 : Hid (s1.size ≤ maxLen) := m _ hs1
  have H2 : Hid (s2.size ≤ maxLen) := m _ hs2
  have z01 : (s0 ++ s1).size = s0.size + s1.size := ByteArray.size_append
  have z12 : (s1 ++ s2).size = s1.size + s2.size := ByteArray.size_append
  have z : (s0 ++ s1 ++ s2).size = s0.size + s1.size + s2.size := by rw [ByteArray.size_append, z01]
  have HA : Hid ((s0 ++ s1 ++ s2).size ≤ maxLen) := by show _ ≤ _; unfold maxLen; omega
  have j1 : Hid (∀ w, Calls Try.prog 16 #[.int .u32 (mr 0 s0.data.toList : Nat), .int .u32 (mr 0 s1.data.toList : Nat), .int .i64 s1.size] w fun e w' => e = .returned (.tuple #[.int .u32 (mr 0 (s0 ++ s1).data.toList : Nat), .int .i64 0]) ∧ Below w.heap.size w w') := fun w => Join_sum s0 s1 _ rfl _ rfl (by omega) w
  have j2 : Hid (∀ w, Calls Try.prog 16 #[.int .u32 (mr 0 (s0 ++ s1).data.toList : Nat), .int .u32 (mr 0 s2.data.toList : Nat), .int .i64 s2.size] w fun e w' => e = .returned (.tuple #[.int .u32 (mr 0 (s0 ++ s1 ++ s2).data.toList : Nat), .int .i64 0]) ∧ Below w.heap.size w w') := fun w => Join_sum (s0 ++ s1) s2 _ rfl _ rfl (by omega) w
  have j3 : Hid (∀ w, Calls Try.prog 16 #[.int .u32 (mr 0 s1.data.toList : Nat), .int .u32 (mr 0 s2.data.toList : Nat), .int .i64 s2.size] w fun e w' => e = .returned (.tuple #[.int .u32 (mr 0 (s1 ++ s2).data.toList : Nat), .int .i64 0]) ∧ Below w.heap.size w w') := fun w => Join_sum s1 s2 _ rfl _ rfl (by omega) w
  have j4 : Hid (∀ w, Calls Try.prog 16 #[.int .u32 (mr 0 s0.data.toList : Nat), .int .u32 (mr 0 (s1 ++ s2).data.toList : Nat), .int .i64 ((s1.size : Int) + s2.size)] w fun e w' => e = .returned (.tuple #[.int .u32 (mr 0 (s0 ++ s1 ++ s2).data.toList : Nat), .int .i64 0]) ∧ Below w.heap.size w w') := fun w => Join_sum s0 (s1 ++ s2) _ (by rw [ByteArray.append_assoc]) _ (by omega) (by omega) w
  have o4 : Hid (∀ w, Calls Try.prog 11 #[.string (s0 ++ s1 ++ s2)] w fun e w' => e = .returned (.int .u32 (mr 0 (s0 ++ s1 ++ s2).data.toList : Nat)) ∧ w' = w) := fun w => Of_any _ w HA.out
  have q1 : Hid (∀ w, Calls Try.prog 13 #[.int .u32 (mr 0 s0.data.toList : Nat), .string s1] w fun e w' => e = .returned (.int .u32 (mr 0 (s0 ++ s1).data.toList : Nat)) ∧ w' = w) := fun w => by
    have h := More_any (mr 0 s0.data.toList) s1 w (mr_lt _ (by omega)) H1.out
    rw [mr_more] at h
    simpa using h
  have q2 : Hid (∀ w, Calls Try.prog 13 #[.int .u32 (mr 0 (s0 ++ s1).data.toList : Nat), .string s2] w fun e w' => e = .returned (.int .u32 (mr 0 (s0 ++ s1 ++ s2).data.toList : Nat)) ∧ w' = w) := fun w => by
    have h := More_any (mr 0 (s0 ++ s1).data.toList) s2 w (mr_lt _ (by omega)) H2.out
    rw [mr_more] at h
    simpa using h
  obtain ⟨X, hX⟩ : ∃ X, mr 0 (s0 ++ s1 ++ s2).data.toList = X := ⟨_, rfl⟩
  obtain ⟨Y, hY⟩ : ∃ Y, mr 0 (s0 ++ s1).data.toList = Y := ⟨_, rfl⟩
  obtain ⟨V, hV⟩ : ∃ V, mr 0 (s1 ++ s2).data.toList = V := ⟨_, rfl⟩
  rw [hY] at j1 j2 q1 q2
  rw [hV] at j3 j4
  rw [hX] at j2 j4 o4 q2
  clear hX hY hV z01 z12 z m
  go_enter Try.func5, Try.ntmps5
  go_wp2_with fail
  refine (Of_any _ _ H0.out).mono ?_
  rintro e w' ⟨rfl, hw⟩; subst w'
  go_wp2_with fail
  refine (Of_any _ _ H1.out).mono ?_
  rintro e w' ⟨rfl, hw⟩; subst w'
  go_wp2_with fail
  refine (j1.out _).mono ?_
  rintro e w1 ⟨rfl, hw1⟩
  have b1 : Hid (Below w.heap.size w w1) := hw1
  clear hw1
  go_wp2_with fail
  refine (Of_any _ _ H2.out).mono ?_
  rintro e w' ⟨rfl, hw⟩; subst w'
  go_wp2_with fail
  refine (j2.out _).mono ?_
  rintro e w2 ⟨rfl, hw2⟩
  have b2 : Hid (Below w.heap.size w w2) := b1.out.trans (hw2.mono b1.out.size)
  clear hw2
  go_wp2_with fail
  refine (Of_any _ _ H1.out).mono ?_
  rintro e w' ⟨rfl, hw⟩; subst w'
  go_wp2_with fail
  refine (Of_any _ _ H2.out).mono ?_
  rintro e w' ⟨rfl, hw⟩; subst w'
  go_wp2_with fail
  refine (j3.out _).mono ?_
  rintro e w3 ⟨rfl, hw3⟩
  have b3 : Hid (Below w.heap.size w w3) := b2.out.trans (hw3.mono b2.out.size)
  clear hw3
  go_wp2_with fail
  refine (Of_any _ _ H0.out).mono ?_
  rintro e w' ⟨rfl, hw⟩; subst w'
  go_wp2_with fail
  refine (j4.out _).mono ?_
  rintro e w4 ⟨rfl, hw4⟩
  have b4 : Hid (Below w.heap.size w w4) := b3.out.trans (hw4.mono b3.out.size)
  clear hw4
  go_wp2_with fail
  refine (o4.out _).mono ?_
  rintro e w' ⟨rfl, hw⟩; subst w'
  go_wp2_with fail
  refine (lives_any _).mono ?_
  rintro e w' ⟨rfl, hw⟩; subst w'
  go_wp2_with fail
  refine (Of_any _ _ H0.out).mono ?_
  rintro e w' ⟨rfl, hw⟩; subst w'
  go_wp2_with fail
  refine (q1.out _).mono ?_
  rintro e w' ⟨rfl, hw⟩; subst w'
  go_wp2_with fail
  refine (q2.out _).mono ?_
  rintro e w' ⟨rfl, hw⟩; subst w'
  go_wp2_with fail
  go_ret
  exact ⟨rfl, b4.out⟩

set_option maxRecDepth 100000 in
theorem lifted (os : Os) (started : os.Started) (H : Type) (enc : TypeId × Value → H) (F : Stop.Interp) :
    ReturnsInHanded {} Try.checked os 5 .any ((Rows.OpenSpec.upto Rows.crcCutsSpec).pre6 enc Try.prog Try.f5 Rows.crcCutsUptoRow.domain false) (((Rows.OpenSpec.upto Rows.crcCutsSpec).at F).post enc Try.prog Try.f5 false true false false) := by
  refine returnsInHanded_of_cond (C := Try.checked) (s := Rows.OpenSpec.upto Rows.crcCutsSpec) (k := Rows.uptoSmall) rfl own started (by kernel_rfl) Try.func5
    (OpenSpec.witness (enc := enc) (C := Try.checked) (s := Rows.OpenSpec.upto Rows.crcCutsSpec) (k := Rows.uptoSmall) rfl false ⟨#[], #[.string ⟨#[]⟩, .string ⟨#[]⟩, .string ⟨#[]⟩], []⟩ 8 (by kernel_rfl) (by kernel_rfl) (by kernel_rfl)
      (x := ([.lit (.string []), .lit (.string []), .lit (.string [])], [], [])) (by kernel_rfl) rfl (by kernel_rfl)) ?_
  intro W base args ds gs before hval0 hW hcnd hk _
  have hval : ∀ (j : Nat) t v, Try.f5.params[j]? = some t → args[j]? = some v → Value.okWide Try.prog W .any base t v := hval0
  have hW' := hW
  obtain ⟨p, q, hA0, hV, rfl, hfz, hnd⟩ := hW
  have hA : DataW.TrodAll enc Try.prog W 0 (fun _ => true) true Try.f5.params.toList args.toList ds p := hA0
  rw [Try.params5] at hA hval
  obtain ⟨v0, vs0, d0, ds0, p0, q0, hargs, rfl, rfl, h0, r0⟩ := trodAll_cons hA
  obtain ⟨v1, vs1, d1, ds1, p1, q1, rfl, rfl, rfl, h1, r1⟩ := trodAll_cons r0
  obtain ⟨v2, vs2, d2, ds2, p2, q2, rfl, rfl, rfl, h2, r2⟩ := trodAll_cons r1
  obtain ⟨rfl, rfl, rfl⟩ := trodAll_nil r2
  obtain rfl : args = #[v0, v1, v2] := by cases args; simp_all
  obtain ⟨rfl, rfl⟩ := trodVars_none hV
  obtain ⟨s0, rfl, rfl, rfl, hm0⟩ := Go.ChangeMaps.open_string Try.underlying9 (hval 0 9 v0 rfl rfl) h0
  obtain ⟨s1, rfl, rfl, rfl, hm1⟩ := Go.ChangeMaps.open_string Try.underlying9 (hval 1 9 v1 rfl rfl) h1
  obtain ⟨s2, rfl, rfl, rfl, hm2⟩ := Go.ChangeMaps.open_string Try.underlying9 (hval 2 9 v2 rfl rfl) h2
  have hk0 : Rows.uptoBulkAll _ ≤ 1048576 := of_decide_eq_true hk
  simp only [Rows.uptoBulkAll, Rows.uptoBulk, List.append_nil, Array.length_toList] at hk0
  have hs0 : s0.size ≤ 1048576 := by have e : s0.size = s0.data.size := rfl; simp at hk0; omega
  have hs1 : s1.size ≤ 1048576 := by have e : s1.size = s1.data.size := rfl; simp at hk0; omega
  have hs2 : s2.size ≤ 1048576 := by have e : s2.size = s2.data.size := rfl; simp at hk0; omega
  clear hA0 hval0
  refine (walk s0 s1 s2 hs0 hs1 hs2 W).mono fun e W' ⟨he, hg⟩ => ?_
  subst he
  exact ⟨_, rfl, law_post (by kernel_rfl) (by kernel_rfl) rfl (by kernel_rfl) Try.underlying4 hW' rfl hg⟩

theorem over : Rows.crcCutsUptoRow.holds Try.pinned (Rows.OpenSpec.upto Rows.crcCutsSpec) :=
  OpenClaim.holds_of_cond 5 Try.f5 rfl rfl rfl rfl rfl rfl rfl ⟨rfl, rfl, rfl, rfl, rfl⟩ rfl rfl rfl rfl rfl (by kernel_rfl) Try.func5 (by kernel_rfl)
    (of_decide_eq_true (by kernel_rfl)) (by unfold Func.isWrapper; first | (rw [if_pos (by decide +kernel)]; kernel_rfl) | (rw [if_neg (by decide +kernel)]; exact ⟨rfl, rfl⟩))
    (fun os started H enc _ F => lifted os started H enc F)

theorem proved : Rows.CrcCutsUptoSaid :=
  over
end Go.Proofs.Ytnllcecalobebaa.crcCuts

namespace Go.Proofs.Ytnllcecalobebaa
/-- For every three texts of bulk at most 1048576 together: however the text is cut, its sum is the same; and it is told by the sums of both parts. -/
theorem crcCuts_upto_holds : Rows.CrcCutsUptoSaid := crcCuts.proved
#print axioms crcCuts_upto_holds
end Go.Proofs.Ytnllcecalobebaa
