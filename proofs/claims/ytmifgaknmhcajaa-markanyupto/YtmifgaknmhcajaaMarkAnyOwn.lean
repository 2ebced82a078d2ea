/- For all lists l and k of numbers of 64 bits and every such number n the law MarkAny of package mark returns true, and its arguments read as before; condition: the arguments are of bulk at most 1048576. -/
import Derived.Test.YtmifgaknmhcajaaRows
import Derived.Test.YtmifgaknmhcajaaPost
import Derived.Test.YtmifgaknmhcajaaOpen
import Derived.Test.YtmifgaknmhcajaaOwn
import Derived.Test.YtmifgaknmhcajaaBoth
import Derived.Test.YtmifgaknmhcajaaMine
import Derived.WalkKit
import Derived.ProofKit
import Derived.OpenShut
import Derived.SizedLaws
import Derived.ChangeMaps5
import Derived.JoinedCond
namespace Go.Proofs.Ytmifgaknmhcajaa.markAny
open Go.ChangeShapes Go.WideShapes Go.ChangeAt Go.RowKit
set_option linter.unusedVariables false

theorem own : ownKnob Try.prog.godebug = none := by kernel_rfl

/-- An append whose run is known, guarded or not. -/
theorem wpList_append_run {P : Program} {ops : Array Oper} {rest : List Oper} {o : Oper} {a : Act} {w : World} {Q : Exit → Act → World → Prop} (s x : Operand) (t : TypeId) (ho : o.op = .call { callee := .builtin .append, args := #[s, x], argTypes := #[t, t] })
    (v y v' : Value) (w' : World) (hs : a.eval s = v) (hx : a.eval x = y) (hr : (Builtin.append_ #[t, t] o.type #[v, y]).run P w = .ok v' w') (hw : Region.wanted o (yielded ops a.tmps) = true)
    (h : wpList P ops Q rest (a.put o.dst v') w') : wpList P ops Q (o :: rest) a w := by
  refine wpList_step fun K hK => ?_
  rw [if_pos hw]
  unfold Oper.wp execOp
  simp only [ho, resolve, invoke, builtin, Sem.run_bind, Sem.run_pure, Result.andThen_ok, List.map_toArray, List.map_cons, List.map_nil, hs, hx, hr]
  exact hK _ _ h
theorem append_run (w0 w1 : World) (v : Value) (L : List Nat) (hm : mine w0.heap.size w1 v L) (hb : Below w0.heap.size w0 w1) (q : Option Addr) (d : Nat) (k : List Nat) (hr : row w1 q k) (hz : q = none → d = 0) (hl : L.length ≤ 1048576) (hk : k.length ≤ 1048576) :
    ∃ v2 w2, (Builtin.append_ #[23, 23] 23 #[v, .slice q k.length d]).run Try.prog w1 = .ok v2 w2 ∧ mine w0.heap.size w2 v2 (L ++ k) ∧ Below w0.heap.size w0 w2 := by
  obtain ⟨i0, hi, hz0, hz1, hz2⟩ := info_parts info22
  have hvv := hm
  unfold mine at hvv
  cases q with
  | none =>
    have hk0 : k = [] := by
      rcases Nat.eq_zero_or_pos k.length with h0 | h0
      · exact List.eq_nil_of_length_eq_zero h0
      · obtain ⟨a, ha⟩ := row_some hr h0
        cases ha
    subst hk0
    obtain rfl : d = 0 := hz rfl
    exact ⟨v, w1, run_append_owned_none (P := Try.prog) w1 w0.heap.size 23 23 22 i0 1 Try.underlying23 hi v _ _ hvv, by rw [List.append_nil]; exact hm, hb⟩
  | some ka =>
    obtain ⟨v2, w2, h1, h2, h3, _⟩ := run_append_own (P := Try.prog) w1 w0.heap.size 23 23 22 i0 (.int .u64 0) 1 8 Try.underlying23 hi hz0 hz1 hz2 rfl (by decide) v _ _ hvv ka k.length d (nums k) (by unfold nums; simp) (news_at hr) nums_one (by unfold maxLen; omega) (by omega) hb.size
    refine ⟨v2, w2, h1, ?_, mine_grown (v' := v) hm hb h3⟩
    unfold mine; rw [List.length_append, nums_append]; exact h2
theorem small_perm {a b : List Nat} (h : a.Perm b) (hb : small b) : small a := fun x hx => hb x (h.mem_iff.1 hx)
theorem change_back (l k : List Nat) : tn (tn 0 l) (l ++ k) = tn 0 k := by rw [tn_append, tn_twice]
theorem joined (l k : List Nat) : tn 0 (l ++ k) = tn 0 l ^^^ tn 0 k := by rw [tn_append, tn_zero]

set_option maxRecDepth 20000 in
set_option maxHeartbeats 4000000 in
theorem walk (s0 : Lst) (s1 : Lst) (a2 : Int) (w2 : (Lit.int .u64 a2).wf = true) (w : World) (h0 : s0.ok w) (hz0 : s0.p = none → s0.c = 0) (hs0 : s0.l.length ≤ 1048576) (h1 : s1.ok w) (hz1 : s1.p = none → s1.c = 0) (hs1 : s1.l.length ≤ 1048576) :
    Calls Try.prog 4 #[s0.val, s1.val, .int .u64 a2] w fun e w' => e = .returned (.bool true) ∧ Below w.heap.size w w' := by
  obtain ⟨n, rfl, hn⟩ := nat_of w2
  obtain ⟨p, c, l⟩ := s0
  obtain ⟨q, d, k⟩ := s1
  have HN : Hid (n < 18446744073709551616) := hn
  have H0 : Hid (Lst.ok w ⟨p, c, l⟩) := h0
  have H1 : Hid (Lst.ok w ⟨q, d, k⟩) := h1
  have Z0 : Hid (p = none → c = 0) := hz0
  have Z1 : Hid (q = none → d = 0) := hz1
  have hll : l.length ≤ 1048576 := hs0
  have hkl : k.length ≤ 1048576 := hs1
  clear w2 h0 h1 hz0 hz1 hs0 hs1 hn
  show Calls Try.prog 4 #[.slice p l.length c, .slice q k.length d, .int .u64 n] w fun e w' => e = .returned (.bool true) ∧ Below w.heap.size w w'
  have SL : Hid (small l) := H0.out.2.1
  have SK : Hid (small k) := H1.out.2.1
  go_enter Try.func4, Try.ntmps4
  go_wp2_with fail
  refine (Clone_any ⟨p, c, l⟩ _ H0.out Z0.out (by show l.length * 8 ≤ _; omega)).mono ?_
  rintro e w1 ⟨v1, rfl, m1, b1⟩
  go_wp2_with fail
  refine (Reverse_mine w w1 v1 l m1 b1 (by omega)).mono ?_
  rintro e w2 ⟨rfl, ⟨L1, hp1, m2⟩, b2⟩
  have B2 : Hid (Below w.heap.size w w2) := b2
  have M2 : Hid (mine w.heap.size w2 v1 L1) := m2
  have P1 : Hid (L1.Perm l) := hp1
  clear m1 b1 m2 b2 hp1
  go_wp2_with fail
  refine (Clone_any ⟨p, c, l⟩ _ (Lst.ok_below H0.out B2.out) Z0.out (by show l.length * 8 ≤ _; omega)).mono ?_
  rintro e w3 ⟨v2, rfl, m3, b3⟩
  go_wp2_with fail
  refine (Sort_mine w2 w3 v2 l m3 b3 (by omega)).mono ?_
  rintro e w4 ⟨rfl, ⟨L2, hp2, m4⟩, b4⟩
  have B4 : Hid (Below w.heap.size w w4) := B2.out.trans (b4.mono B2.out.size)
  have M4 : Hid (mine w.heap.size w4 v1 L1) := mine_below M2.out b4
  have N4 : Hid (mine w2.heap.size w4 v2 L2) := m4
  have P2 : Hid (L2.Perm l) := hp2
  clear m3 b3 m4 b4 hp2
  go_wp2_with fail
  refine (Of_any ⟨p, c, l⟩ _ (Lst.ok_below H0.out B4.out)).mono ?_
  rintro e w5 ⟨rfl, b5⟩
  have B5 : Hid (Below w.heap.size w w5) := B4.out.trans (b5.mono B4.out.size)
  have M5 : Hid (mine w.heap.size w5 v1 L1) := mine_below M4.out b5
  have N5 : Hid (mine w2.heap.size w5 v2 L2) := mine_below N4.out b5
  have T1 : Hid (tn 0 L1 = tn 0 l) := tn_perm P1.out 0
  have T2 : Hid (tn 0 L2 = tn 0 l) := tn_perm P2.out 0
  have T3 : Hid (tn (tn 0 l) (l ++ k) = tn 0 k) := change_back l k
  have T4 : Hid (tn 0 (l ++ k) = tn 0 l ^^^ tn 0 k) := joined l k
  have HM : Hid (tn 0 l < 18446744073709551616) := tn_lt (by decide) _
  clear b5 M4 N4 B4 M2
  rw [show tn 0 (Lst.mk p c l).l = tn 0 l from rfl]
  obtain ⟨M, hM⟩ : ∃ M, tn 0 l = M := ⟨_, rfl⟩
  rw [hM] at T1 T2 T3 T4 HM ⊢
  clear hM
  go_wp2_with fail
  refine (lives_any _).mono ?_
  rintro e w6 ⟨rfl, b6⟩
  have B6 : Hid (Below w.heap.size w w6) := B5.out.trans (b6.mono B5.out.size)
  have M6 : Hid (mine w.heap.size w6 v1 L1) := mine_below M5.out b6
  have N6 : Hid (mine w2.heap.size w6 v2 L2) := mine_below N5.out b6
  clear b6 M5 N5 B5
  go_wp2_with fail
  refine (Of_mine M6.out (small_perm P1.out SL.out) (by rw [P1.out.length_eq]; omega)).mono ?_
  rintro e w7 ⟨rfl, b7⟩
  have B7 : Hid (Below w.heap.size w w7) := B6.out.trans (b7.mono B6.out.size)
  have N7 : Hid (mine w2.heap.size w7 v2 L2) := mine_below N6.out b7
  rw [T1.out]
  clear b7 M6 N6 B6
  go_wp2_with fail
  refine (Of_mine N7.out (small_perm P2.out SL.out) (by rw [P2.out.length_eq]; omega)).mono ?_
  rintro e w8 ⟨rfl, b8⟩
  have B8 : Hid (Below w.heap.size w w8) := B7.out.trans (b8.mono B7.out.size)
  rw [T2.out]
  clear b8 N7 B7
  go_wp2_with fail
  refine (Turn_any M n _ HM.out HN.out).mono ?_
  rintro e w' ⟨rfl, hw⟩; subst w'
  have HA : Hid (M ^^^ mx n < 18446744073709551616) := xor_lt HM.out (mx_lt n)
  have HA2 : Hid ((M ^^^ mx n) ^^^ mx n = M) := by unfold Hid; rw [Nat.xor_assoc, Nat.xor_self, Nat.xor_zero]
  obtain ⟨A, hA⟩ : ∃ A, M ^^^ mx n = A := ⟨_, rfl⟩
  rw [hA] at HA HA2 ⊢
  clear hA
  go_wp2_with fail
  refine (Turn_any A n _ HA.out HN.out).mono ?_
  rintro e w' ⟨rfl, hw⟩; subst w'
  rw [HA2.out]
  go_wp2_with fail
  refine (Clone_any ⟨p, c, l⟩ _ (Lst.ok_below H0.out B8.out) Z0.out (by show l.length * 8 ≤ _; omega)).mono ?_
  rintro e w9 ⟨v3, rfl, m9, b9⟩
  have B9 : Hid (Below w.heap.size w w9) := B8.out.trans (b9.mono B8.out.size)
  obtain ⟨v4, wa, hrun, ma, ba⟩ := append_run w w9 v3 l (mine_mono m9 B8.out.size) B9.out q d k (Lst.ok_below H1.out B9.out).1 Z1.out hll hkl
  have BA : Hid (Below w.heap.size w wa) := ba
  have MA : Hid (mine w.heap.size wa v4 (l ++ k)) := ma
  clear m9 b9 ba ma B9 B8
  have HRUN : Hid ((Builtin.append_ #[23, 23] 23 #[v3, .slice q k.length d]).run Try.prog w9 = .ok v4 wa) := hrun
  clear hrun
  go_wp2_with (at_builtin; refine wpList_append_run _ _ 23 rfl _ _ _ _ rfl rfl HRUN.out rfl ?_)
  refine (Of_mine MA.out (small_append SL.out SK.out) (by rw [List.length_append]; omega)).mono ?_
  rintro e wb ⟨rfl, bb⟩
  have BB : Hid (Below w.heap.size w wb) := BA.out.trans (bb.mono BA.out.size)
  have hx := u64_xor_nat M (tn 0 k) HM.out (tn_lt (by decide) _)
  rw [← T4.out] at hx
  obtain ⟨J, hJ⟩ : ∃ J, tn 0 (l ++ k) = J := ⟨_, rfl⟩
  rw [hJ] at hx ⊢
  obtain ⟨G, hG⟩ : ∃ G, tn 0 k = G := ⟨_, rfl⟩
  rw [hG] at hx T3
  have HG : Hid (tn 0 k = G) := hG
  clear hG hJ bb BA MA HRUN T4
  go_wp2_with fail
  refine (Of_any ⟨q, d, k⟩ _ (Lst.ok_below H1.out BB.out)).mono ?_
  rintro e wc ⟨rfl, bc⟩
  have BC : Hid (Below w.heap.size w wc) := BB.out.trans (bc.mono BB.out.size)
  rw [show tn 0 (Lst.mk q d k).l = G from HG.out]
  clear bc BB
  go_wp2_with fail
  refine (Change_any M ⟨p, c, l⟩ ⟨q, d, k⟩ _ HM.out (Lst.ok_below H0.out BC.out) (Lst.ok_below H1.out BC.out)).mono ?_
  rintro e wd ⟨rfl, bd⟩
  have BD : Hid (Below w.heap.size w wd) := BC.out.trans (bd.mono BC.out.size)
  rw [show tn M ((Lst.mk p c l).l ++ (Lst.mk q d k).l) = G from T3.out]
  clear bd BC
  go_wp2_with fail
  refine (Of_any ⟨q, d, k⟩ _ (Lst.ok_below H1.out BD.out)).mono ?_
  rintro e we ⟨rfl, be⟩
  have BE : Hid (Below w.heap.size w we) := BD.out.trans (be.mono BD.out.size)
  rw [show tn 0 (Lst.mk q d k).l = G from HG.out]
  clear be BD hx
  go_wp2_with fail
  go_ret
  exact ⟨rfl, BE.out⟩

set_option maxRecDepth 100000 in
theorem lifted (os : Os) (started : os.Started) (H : Type) (enc : TypeId × Value → H) (F : Stop.Interp) :
    ReturnsInHanded {} Try.checked os 4 .any ((Rows.OpenSpec.upto Rows.markAnySpec).pre6 enc Try.prog Try.f4 Rows.markAnyUptoRow.domain false) (((Rows.OpenSpec.upto Rows.markAnySpec).at F).post enc Try.prog Try.f4 false true false false) := by
  refine returnsInHanded_of_cond (C := Try.checked) (s := Rows.OpenSpec.upto Rows.markAnySpec) (k := Rows.uptoSmall) rfl own started (by kernel_rfl) Try.func4
    (OpenSpec.witness (enc := enc) (C := Try.checked) (s := Rows.OpenSpec.upto Rows.markAnySpec) (k := Rows.uptoSmall) rfl false ⟨#[], #[.slice none 0 0, .slice none 0 0, .int .u64 0], []⟩ 8 (by kernel_rfl) (by kernel_rfl) (by kernel_rfl)
      (x := ([.nil, .nil, .lit (.int .u64 0)], [], [])) (by kernel_rfl) rfl (by kernel_rfl)) ?_
  intro W base args ds gs before hval0 hW hcnd hk _
  have hval : ∀ (j : Nat) t v, Try.f4.params[j]? = some t → args[j]? = some v → Value.okWide Try.prog W .any base t v := hval0
  have hW' := hW
  obtain ⟨p, q, hA0, hV, rfl, hfz, hnd⟩ := hW
  have hA : DataW.TrodAll enc Try.prog W 0 (fun _ => true) true Try.f4.params.toList args.toList ds p := hA0
  rw [Try.params4] at hA hval
  obtain ⟨v0, vs0, d0, ds0, p0, q0, hargs, rfl, rfl, h0, r0⟩ := trodAll_cons hA
  obtain ⟨v1, vs1, d1, ds1, p1, q1, rfl, rfl, rfl, h1, r1⟩ := trodAll_cons r0
  obtain ⟨v2, vs2, d2, ds2, p2, q2, rfl, rfl, rfl, h2, r2⟩ := trodAll_cons r1
  obtain ⟨rfl, rfl, rfl⟩ := trodAll_nil r2
  obtain rfl : args = #[v0, v1, v2] := by cases args; simp_all
  obtain ⟨rfl, rfl⟩ := trodVars_none hV
  obtain ⟨s0, rfl, k0, t0⟩ := open_lst Try.underlying23 Try.underlying22 (by kernel_rfl) (hval 0 23 v0 rfl rfl) h0
  obtain ⟨s1, rfl, k1, t1⟩ := open_lst Try.underlying23 Try.underlying22 (by kernel_rfl) (hval 1 23 v1 rfl rfl) h1
  obtain ⟨a2, rfl, rfl, rfl, w2⟩ := open_int Try.underlying22 (hval 2 22 v2 rfl rfl) h2
  have hk0 : Rows.uptoBulkAll _ ≤ 1048576 := of_decide_eq_true hk
  simp only [Rows.uptoBulkAll, Rows.uptoBulk, List.append_nil] at hk0
  have hs0 : s0.l.length ≤ 1048576 := Nat.le_trans (told_bulk t0) (by omega)
  have hs1 : s1.l.length ≤ 1048576 := Nat.le_trans (told_bulk t1) (by omega)
  clear hA0 hval0
  refine (walk s0 s1 a2 w2 W k0 (open_zero Try.underlying23 Try.underlying22 (by kernel_rfl) h0) hs0 k1 (open_zero Try.underlying23 Try.underlying22 (by kernel_rfl) h1) hs1).mono fun e W' ⟨he, hg⟩ => ?_
  subst he
  exact ⟨_, rfl, law_post (by kernel_rfl) (by kernel_rfl) rfl (by kernel_rfl) Try.underlying4 hW' rfl hg⟩

theorem over : Rows.markAnyUptoRow.holds Try.pinned (Rows.OpenSpec.upto Rows.markAnySpec) :=
  OpenClaim.holds_of_cond 4 Try.f4 rfl rfl rfl rfl rfl rfl rfl ⟨rfl, rfl, rfl, rfl, rfl⟩ rfl rfl rfl rfl rfl (by kernel_rfl) Try.func4 (by kernel_rfl)
    (of_decide_eq_true (by kernel_rfl)) (by unfold Func.isWrapper; first | (rw [if_pos (by decide +kernel)]; kernel_rfl) | (rw [if_neg (by decide +kernel)]; exact ⟨rfl, rfl⟩))
    (fun os started H enc _ F => lifted os started H enc F)

theorem proved : Rows.MarkAnyUptoSaid :=
  over
end Go.Proofs.Ytmifgaknmhcajaa.markAny

namespace Go.Proofs.Ytmifgaknmhcajaa
/-- For all lists l and k of numbers of 64 bits and every such number n the law MarkAny of package mark returns true, and its arguments read as before; condition: the arguments are of bulk at most 1048576. -/
theorem markAny_upto_holds : Rows.MarkAnyUptoSaid := markAny.proved
#print axioms markAny_upto_holds
end Go.Proofs.Ytmifgaknmhcajaa
