/- Whatever number, text and list: Put, Get, Fold, Unfold, PutAll and GetAll answer what the document's answer does; no condition but that a text and a list take at most 2^47 - 4096 bytes, as the first form has it. -/
import Derived.Test.YtdciebhnnggcoaaRows
import Derived.Test.YtdciebhnnggcoaaPost
import Derived.Test.YtdciebhnnggcoaaUse
import Derived.Test.YtdciebhnnggcoaaUnAll
import Derived.WalkKit
import Derived.ProofKit
import Derived.OpenShut
import Derived.SizedLaws
import Derived.ChangeMaps5
import Derived.JoinedCond
namespace Go.Proofs.Ytdciebhnnggcoaa.packSays
open Go.ChangeShapes Go.WideShapes Go.ChangeAt Go.RowKit
set_option linter.unusedVariables false

theorem own : ownKnob Try.prog.godebug = none := by kernel_rfl


set_option maxRecDepth 20000 in
set_option maxHeartbeats 4000000 in
theorem walk (a0 : Int) (a1 : Int) (s2 : ByteArray) (s3 : Ist) (w0 : (Lit.int .u64 a0).wf = true) (w1 : (Lit.int .i64 a1).wf = true) (hs2 : s2.size ≤ 140737488351232) (w : World) (h3 : s3.fit w) (hs3 : s3.l.length * 8 ≤ 140737488351232) :
    Calls Try.prog 3 #[.int .u64 a0, .int .i64 a1, .string s2, s3.val] w fun e w' => e = .returned (.bool true) ∧ Below w.heap.size w w' := by
  obtain ⟨n, rfl, hn⟩ := nat_of w0
  have hk := int_of w1
  obtain ⟨p, c, l⟩ := s3
  obtain ⟨r1, r2, r3, r4, r5⟩ := h3
  change row vi w p l at r1
  change ∀ x ∈ l, fits x at r2
  unfold Ist.val
  simp only []
  clear w0 w1 hs3 r3 r4 r5
  have HG : Hid (∀ w : World, Calls Try.prog 7 #[.string s2] w fun e w' => e = .returned (.tuple #[.int .u64 (gn s2), .string (gr s2), .int .i64 (ge s2)]) ∧ Below w.heap.size w w') := fun w => Get_any s2 w (by omega)
  have HU : Hid (∀ w : World, Calls Try.prog 8 #[.string s2] w fun e w' => e = .returned (.tuple #[.int .u64 (gn s2), .string (gr s2), .int .i64 (ge s2)]) ∧ Below w.heap.size w w') := fun w => Unpacked_any s2 w (by omega)
  have HA : Hid (∀ w' : World, Below w.heap.size w w' → Calls Try.prog 9 #[.slice p l.length c] w' fun e w'' => e = .returned (.tuple #[.string (qa l), .int .i64 (qe l)]) ∧ Below w'.heap.size w' w'') := fun w' h => PutAll_any p l c w' (row_below r1 h) r2
  have HB : Hid (∀ w' : World, Below w.heap.size w w' → Calls Try.prog 10 #[.slice p l.length c] w' fun e w'' => e = .returned (.tuple #[.string (qa l), .int .i64 (qe l)]) ∧ Below w'.heap.size w' w'') := fun w' h => PackedAll_any p l c w' (row_below r1 h) r2
  have HC : Hid (∀ w : World, Calls Try.prog 11 #[.string s2] w fun e w' => ∃ v, e = .returned (.tuple #[v, .int .i64 (ga (bs s2)).2]) ∧ mine 3 vi w.heap.size w' v (ga (bs s2)).1 ∧ Below w.heap.size w w') := fun w => GetAll_any _ w (by omega)
  have HD : Hid (∀ w : World, Calls Try.prog 12 #[.string s2] w fun e w' => ∃ v, e = .returned (.tuple #[v, .int .i64 (ga (bs s2)).2]) ∧ mine 3 vi w.heap.size w' v (ga (bs s2)).1 ∧ Below w.heap.size w w') := fun w => UnpackedAll_any _ w (by omega)
  have HP : Hid (∀ w : World, Calls Try.prog 13 #[.int .u64 n] w fun e w' => e = .returned (.string (ps n)) ∧ Below w.heap.size w w') := fun w => Put_any n w hn
  have HQ : Hid (∀ w : World, Calls Try.prog 14 #[.int .u64 n] w fun e w' => e = .returned (.string (ps n)) ∧ Below w.heap.size w w') := fun w => Packed_any n w hn
  have HF : Hid (∀ w : World, Calls Try.prog 15 #[.int .i64 a1] w fun e w' => e = .returned (.int .u64 (fd a1)) ∧ w' = w) := fun w => Fold_any a1 w hk
  have HF2 : Hid (∀ w : World, Calls Try.prog 16 #[.int .i64 a1] w fun e w' => e = .returned (.int .u64 (fd a1)) ∧ w' = w) := fun w => Folded_any a1 w hk
  have HN : Hid (∀ w : World, Calls Try.prog 17 #[.int .u64 n] w fun e w' => e = .returned (.int .i64 (uf n)) ∧ w' = w) := fun w => Unfold_any n w hn
  have HN2 : Hid (∀ w : World, Calls Try.prog 18 #[.int .u64 n] w fun e w' => e = .returned (.int .i64 (uf n)) ∧ w' = w) := fun w => Unfolded_any n w hn
  have HE : Hid (∀ (B B' : Nat) (w' : World) (v v' : Value), mine 3 vi B w' v (ga (bs s2)).1 → mine 3 vi B' w' v' (ga (bs s2)).1 → Calls Try.prog 19 #[v, v'] w' fun e w'' => e = .returned (.bool true) ∧ ∃ m, w'' = w'.drewN m) := by
    intro B B' w' v v' h1 h2
    obtain ⟨q, d, rfl, hr, _⟩ := mine_full h2
    exact Equal_mine h1 q _ d rfl (by have := ga_len (bs s2); omega) hr
  obtain ⟨X, hX⟩ : ∃ X, gn s2 = X := ⟨_, rfl⟩
  obtain ⟨Y, hY⟩ : ∃ Y, gr s2 = Y := ⟨_, rfl⟩
  obtain ⟨Z, hZ⟩ : ∃ Z, ge s2 = Z := ⟨_, rfl⟩
  rw [hX, hY, hZ] at HG HU
  obtain ⟨Q, hQ⟩ : ∃ Q, qa l = Q := ⟨_, rfl⟩
  obtain ⟨O, hO⟩ : ∃ O, qe l = O := ⟨_, rfl⟩
  rw [hQ, hO] at HA HB
  obtain ⟨R, hR⟩ : ∃ R, ga (bs s2) = R := ⟨_, rfl⟩
  rw [hR] at HC HD HE
  obtain ⟨t, ht⟩ : ∃ t, ps n = t := ⟨_, rfl⟩
  rw [ht] at HP HQ
  obtain ⟨F, hF⟩ : ∃ F, fd a1 = F := ⟨_, rfl⟩
  rw [hF] at HF HF2
  obtain ⟨U, hU⟩ : ∃ U, uf n = U := ⟨_, rfl⟩
  rw [hU] at HN HN2
  obtain ⟨I, hI⟩ : ∃ I, R.2 = I := ⟨_, rfl⟩
  rw [hI] at HC HD
  obtain ⟨N, hN⟩ : ∃ N, l.length = N := ⟨_, rfl⟩
  rw [hN] at HA HB ⊢
  clear hX hY hZ hQ hO hR ht hF hU hI hN r1 r2 hn hk
  go_enter Try.func3, Try.ntmps3
  go_wp2_with fail
  refine (HG.out _).mono ?_
  rintro e w1 ⟨rfl, b1⟩
  go_wp2_with fail
  refine (HU.out _).mono ?_
  rintro e w2 ⟨rfl, b2⟩
  have B2 : Hid (Below w.heap.size w w2) := below_step b1 b1.size b2
  clear b1 b2
  go_wp2_with fail
  refine (HA.out _ B2.out).mono ?_
  rintro e w3 ⟨rfl, b3⟩
  have B3 : Hid (Below w.heap.size w w3) := below_step B2.out B2.out.size b3
  clear b3
  go_wp2_with fail
  refine (HB.out _ B3.out).mono ?_
  rintro e w4 ⟨rfl, b4⟩
  have B4 : Hid (Below w.heap.size w w4) := below_step B3.out B3.out.size b4
  clear b4
  go_wp2_with fail
  refine (HC.out _).mono ?_
  rintro e w5 ⟨v1, rfl, hv1, b5⟩
  have B5 : Hid (Below w.heap.size w w5) := below_step B4.out B4.out.size b5
  have V1 : Hid (mine 3 vi w4.heap.size w5 v1 R.1) := hv1
  clear b5 hv1
  go_wp2_with fail
  refine (HD.out _).mono ?_
  rintro e w6 ⟨v2, rfl, hv2, b6⟩
  have B6 : Hid (Below w.heap.size w w6) := below_step B5.out B5.out.size b6
  have V2 : Hid (mine 3 vi w5.heap.size w6 v2 R.1) := hv2
  have VA : Hid (mine 3 vi w4.heap.size w6 v1 R.1) := mine_below V1.out b6
  clear b6 hv2
  go_wp2_with fail
  refine (HP.out _).mono ?_
  rintro e w7 ⟨rfl, b7⟩
  go_wp2_with fail
  refine (HQ.out _).mono ?_
  rintro e w8 ⟨rfl, b8⟩
  have V3 : Hid (mine 3 vi w5.heap.size w8 v2 R.1) := mine_below (mine_below V2.out b7) b8
  have VB : Hid (mine 3 vi w4.heap.size w8 v1 R.1) := mine_below (mine_below VA.out b7) b8
  have B8 : Hid (Below w.heap.size w w8) := below_step (below_step B6.out B6.out.size b7) (Nat.le_trans B6.out.size b7.size) b8
  clear b7 b8
  go_wp2_with fail
  refine (HF.out _).mono ?_
  rintro e w' ⟨rfl, hw⟩; subst w'
  go_wp2_with fail
  refine (HF2.out _).mono ?_
  rintro e w' ⟨rfl, hw⟩; subst w'
  go_wp2_with fail
  refine (HN.out _).mono ?_
  rintro e w' ⟨rfl, hw⟩; subst w'
  go_wp2_with fail
  refine (HN2.out _).mono ?_
  rintro e w' ⟨rfl, hw⟩; subst w'
  go_wp2_with fail
  refine (HE.out _ _ _ _ _ VB.out V3.out).mono ?_
  rintro e w' ⟨rfl, q, hw⟩; subst w'
  go_wp2_with fail
  go_ret
  exact ⟨rfl, below_drewN B8.out _⟩

set_option maxRecDepth 100000 in
theorem lifted (os : Os) (started : os.Started) (H : Type) (enc : TypeId × Value → H) :
    ReturnsInHanded {} Try.checked os 3 .any (Rows.packSaysSpec.pre6 enc Try.prog Try.f3 Rows.packSaysRow.domain false) (Rows.packSaysSpec.post enc Try.prog Try.f3 false true false false) := by
  refine returnsInHanded_of_change_sized (C := Try.checked) own started (by kernel_rfl) Try.func3
    (ChangeSpec.witness6 (enc := enc) (C := Try.checked) false ⟨#[], #[.int .u64 0, .int .i64 0, .string ⟨#[]⟩, .slice none 0 0], []⟩ 8 (by kernel_rfl) (by kernel_rfl) (by kernel_rfl) (by kernel_rfl)) ?_
  intro W base args ds gs before hval0 hW hcnd hsz _
  have hval : ∀ (j : Nat) t v, Try.f3.params[j]? = some t → args[j]? = some v → Value.okWide Try.prog W .any base t v := hval0
  have hW' := hW
  obtain ⟨p, q, hA0, hV, rfl, hfz, hnd⟩ := hW
  have hA : DataW.TrodAll enc Try.prog W 0 (fun _ => true) true Try.f3.params.toList args.toList ds p := hA0
  rw [Try.params3] at hA hval
  obtain ⟨v0, vs0, d0, ds0, p0, q0, hargs, rfl, rfl, h0, r0⟩ := trodAll_cons hA
  obtain ⟨v1, vs1, d1, ds1, p1, q1, rfl, rfl, rfl, h1, r1⟩ := trodAll_cons r0
  obtain ⟨v2, vs2, d2, ds2, p2, q2, rfl, rfl, rfl, h2, r2⟩ := trodAll_cons r1
  obtain ⟨v3, vs3, d3, ds3, p3, q3, rfl, rfl, rfl, h3, r3⟩ := trodAll_cons r2
  obtain ⟨rfl, rfl, rfl⟩ := trodAll_nil r3
  obtain rfl : args = #[v0, v1, v2, v3] := by cases args; simp_all
  obtain ⟨rfl, rfl⟩ := trodVars_none hV
  obtain ⟨a0, rfl, rfl, rfl, w0⟩ := open_int Try.underlying22 (hval 0 22 v0 rfl rfl) h0
  obtain ⟨a1, rfl, rfl, rfl, w1⟩ := open_int Try.underlying3 (hval 1 3 v1 rfl rfl) h1
  obtain ⟨s2, rfl, rfl, rfl, hm2⟩ := Go.ChangeMaps.open_string Try.underlying9 (hval 2 9 v2 rfl rfl) h2
  obtain ⟨s3, rfl, k3, t3⟩ := open_ist Try.underlying23 Try.underlying3 (by kernel_rfl) (hval 3 23 v3 rfl rfl) h3
  have hs3 : s3.l.length * 8 ≤ 140737488351232 := told_sized hsz (j := 3) rfl rfl Try.underlying23 (by kernel_rfl) t3
  have hs2 : s2.size ≤ 140737488351232 := by have := sized_string hsz (j := 2) rfl rfl; unfold reachBytes at this; simpa using this
  clear hA0 hval0
  refine (walk a0 a1 s2 s3 w0 w1 hs2 W k3 hs3).mono fun e W' ⟨he, hg⟩ => ?_
  subst he
  exact ⟨_, rfl, law_post (by kernel_rfl) (by kernel_rfl) rfl (by kernel_rfl) Try.underlying4 hW' rfl hg⟩

theorem over : Rows.packSaysRow.holds Try.pinned (OpenSpec.ofChange Rows.packSaysSpec) :=
  OpenClaim.holds_of_wide 3 Try.f3 rfl rfl rfl rfl rfl rfl rfl ⟨rfl, rfl, rfl, rfl, rfl⟩ rfl rfl rfl rfl rfl (by kernel_rfl) Try.func3 (by kernel_rfl)
    (of_decide_eq_true (by kernel_rfl)) (by unfold Func.isWrapper; first | (rw [if_pos (by decide +kernel)]; kernel_rfl) | (rw [if_neg (by decide +kernel)]; exact ⟨rfl, rfl⟩))
    (fun os started H enc _ => lifted os started H enc)

theorem proved : Rows.PackSaysSaid :=
  over
end Go.Proofs.Ytdciebhnnggcoaa.packSays

namespace Go.Proofs.Ytdciebhnnggcoaa
/-- Whatever number, text and list: Put, Get, Fold, Unfold, PutAll and GetAll answer what the document's answer does; no condition but that a text and a list take at most 2^47 - 4096 bytes, as the first form has it. -/
theorem packSays_holds : Rows.PackSaysSaid := packSays.proved
#print axioms packSays_holds
end Go.Proofs.Ytdciebhnnggcoaa
