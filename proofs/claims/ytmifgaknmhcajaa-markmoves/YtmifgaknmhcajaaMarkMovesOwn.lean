/- For every list of numbers, every list of places and every list of new numbers the law MarkMoves of package mark returns true, and its arguments read as before; no condition. -/
import Derived.Test.YtmifgaknmhcajaaRows
import Derived.Test.YtmifgaknmhcajaaPost
import Derived.Test.YtmifgaknmhcajaaOf
import Derived.Test.YtmifgaknmhcajaaOpen
import Derived.Test.YtmifgaknmhcajaaOwn
import Derived.WalkKit
import Derived.ProofKit
import Derived.OpenShut
import Derived.SizedLaws
import Derived.ChangeMaps5
import Derived.JoinedCond
namespace Go.Proofs.Ytmifgaknmhcajaa.markMoves
open Go.ChangeShapes Go.WideShapes Go.ChangeAt Go.RowKit
set_option linter.unusedVariables false

theorem own : ownKnob Try.prog.godebug = none := by kernel_rfl


theorem xor_swap3 (m a b t : Nat) : (m ^^^ b) ^^^ t = (((m ^^^ a) ^^^ t) ^^^ a) ^^^ b := by
  rw [Nat.xor_assoc m a t, Nat.xor_assoc m (a ^^^ t) a, Nat.xor_comm a t, Nat.xor_assoc t a a, Nat.xor_self, Nat.xor_zero, Nat.xor_assoc, Nat.xor_assoc, Nat.xor_comm b t]
theorem tn_set (m : Nat) : ∀ (L : List Nat) (i x : Nat), i < L.length → tn m (L.set i x) = tn (tn m L) [L.getD i 0, x]
  | [], i, x, h => by simp at h
  | y :: L, 0, x, h => by
    rw [List.set_cons_zero, List.getD_cons_zero]
    have e1 : tn m (x :: L) = (m ^^^ mx x) ^^^ tn 0 L := (tn_cons m x L).trans (tn_zero _ L)
    have e2 : tn m (y :: L) = (m ^^^ mx y) ^^^ tn 0 L := (tn_cons m y L).trans (tn_zero _ L)
    have e3 : ∀ z, tn z [y, x] = (z ^^^ mx y) ^^^ mx x := fun z => (tn_cons z y [x]).trans ((tn_cons _ x []).trans (tn_nil _))
    exact e1.trans ((xor_swap3 m (mx y) (mx x) (tn 0 L)).trans ((e3 _).symm.trans (congrArg (fun z => tn z [y, x]) e2.symm)))
  | y :: L, i + 1, x, h => by
    rw [List.set_cons_succ, List.getD_cons_succ, tn_cons, tn_cons]
    exact tn_set (m ^^^ mx y) L i x (by simpa using h)
theorem small_set {L : List Nat} (h : small L) (i x : Nat) (hx : x < 18446744073709551616) : small (L.set i x) := by
  intro y hy
  rcases List.mem_or_eq_of_mem_set hy with h1 | h1
  · exact h y h1
  · rw [h1]; exact hx

/-- What a round of the moves keeps. -/
def mvs (w : World) (g n c : Nat) (M : Nat) (wr : World) : Prop := ∃ L, M = tn 0 L ∧ small L ∧ owns w.heap.size wr g n c L ∧ Below w.heap.size w wr
theorem mvs_step {w wr w5 : World} {g n c M : Nat} (hb : Below wr.heap.size wr w5) {L : List Nat} (hM : M = tn 0 L) (hs : small L) (ho : owns w.heap.size wr g n c L) (hw : Below w.heap.size w wr) (i x : Nat) (hi : i < n) (hx : x < 18446744073709551616) :
    mvs w g n c (tn M ([L.getD i 0] ++ [x])) (w5.setCell ⟨g, i, none⟩ (.int .u64 (x : Int))) := by
  refine ⟨L.set i x, ?_, small_set hs i x hx, owns_put (owns_below ho hb) i x, (hw.trans (hb.mono hw.size)).setCell (owns_base ho).1 _⟩
  rw [tn_set 0 L i x (by rw [owns_len ho]; exact hi), hM]; rfl
theorem two_new (w : World) (x y : Nat) (t : TypeId) : ((w.alloc (.cells #[.int .u64 (x : Int)] t)).alloc (.cells #[.int .u64 (y : Int)] t)).cell? ⟨w.heap.size, 0, none⟩ = some (.int .u64 (x : Int)) ∧
    ((w.alloc (.cells #[.int .u64 (x : Int)] t)).alloc (.cells #[.int .u64 (y : Int)] t)).cell? ⟨w.heap.size + 1, 0, none⟩ = some (.int .u64 (y : Int)) := by
  constructor
  · have hb := alloc_below (w.alloc (.cells #[.int .u64 (x : Int)] t)) (.cells #[.int .u64 (y : Int)] t)
    rw [hb.cell (p := ⟨w.heap.size, 0, none⟩) (by simp)]
    exact new_at w [.int .u64 (x : Int)] t 0
  · simp
theorem two_ok (w : World) (x y : Nat) (t : TypeId) (hx : x < 18446744073709551616) (hy : y < 18446744073709551616) :
    (⟨some ⟨w.heap.size, 0, none⟩, 1, [x]⟩ : Lst).ok ((w.alloc (.cells #[.int .u64 (x : Int)] t)).alloc (.cells #[.int .u64 (y : Int)] t)) ∧ (⟨some ⟨w.heap.size + 1, 0, none⟩, 1, [y]⟩ : Lst).ok ((w.alloc (.cells #[.int .u64 (x : Int)] t)).alloc (.cells #[.int .u64 (y : Int)] t)) := by
  obtain ⟨h1, h2⟩ := two_new w x y t
  refine ⟨⟨?_, ?_, by simp⟩, ⟨?_, ?_, by simp⟩⟩
  · intro j hj
    obtain rfl : j = 0 := by simpa using hj
    exact ⟨_, rfl, by rw [add_zero_at]; exact h1⟩
  · intro z hz
    have : z = x := by simpa using hz
    omega
  · intro j hj
    obtain rfl : j = 0 := by simpa using hj
    exact ⟨_, rfl, by rw [add_zero_at]; exact h2⟩
  · intro z hz
    have : z = y := by simpa using hz
    omega
theorem two_below (w : World) (o o' : Obj) : Below w.heap.size w ((w.alloc o).alloc o') := (alloc_below w o).alloc (by simp) _
theorem tmod_nat (a b : Nat) : (a : Int).tmod (b : Int) = ((a % b : Nat) : Int) := rfl

set_option maxRecDepth 20000 in
set_option maxHeartbeats 4000000 in
theorem walk (s0 : Lst) (s1 : Ist) (s2 : Lst)  (w : World) (h0 : s0.ok w) (hs0 : s0.l.length * 8 ≤ 140737488351232) (h1 : s1.ok w) (hs1 : s1.l.length * 8 ≤ 140737488351232) (h2 : s2.ok w) (hs2 : s2.l.length * 8 ≤ 140737488351232) :
    Calls Try.prog 5 #[s0.val, s1.val, s2.val] w fun e w' => e = .returned (.bool true) ∧ Below w.heap.size w w' := by
  obtain ⟨p, c, l⟩ := s0
  obtain ⟨q, d, P⟩ := s1
  obtain ⟨r, f, news⟩ := s2
  have HL : Hid (l.length * 8 ≤ 140737488351232) := hs0
  have hn : l.length ≤ 17592186043904 := by simp at hs0; omega
  have hP : P.length ≤ 17592186043904 := by simp at hs1; omega
  have hN : news.length ≤ 17592186043904 := by simp at hs2; omega
  have H0 : Hid (Lst.ok w ⟨p, c, l⟩) := h0
  have H1 : Hid (Ist.ok w ⟨q, d, P⟩) := h1
  have H2 : Hid (Lst.ok w ⟨r, f, news⟩) := h2
  clear h0 h1 h2 hs0 hs1 hs2
  show Calls Try.prog 5 #[.slice p l.length c, .slice q P.length d, .slice r news.length f] w fun e w' => e = .returned (.bool true) ∧ Below w.heap.size w w'
  go_enter Try.func5, Try.ntmps5
  go_wp2_with fail
  refine (lives_any _).mono ?_
  rintro e w1 ⟨rfl, hw1⟩
  by_cases hl0 : l.length = 0
  · go_wp2_with fail
    refine (lives_any _).mono ?_
    rintro e w2 ⟨rfl, hw2⟩
    go_wp2_with fail
    go_ret
    exact ⟨rfl, hw1.trans (hw2.mono hw1.size)⟩
  · have hl0' : ((l.length : Int) == 0) = false := beq_eq_false_iff_ne.2 (by omega)
    obtain ⟨a, rfl⟩ := row_some (H0.out.1) (by show 0 < l.length; omega)
    go_wp2_with fail
    refine (Clone_some a c l _ (row_below H0.out.1 hw1) (by have := HL.out; omega)).mono ?_
    rintro e w2 ⟨g, c', rfl, ho, hw2⟩
    have b2 := hw1.trans (hw2.mono hw1.size)
    have ho' : owns w.heap.size w2 g l.length c' l := owns_mono ho hw1.size
    clear ho hw2 hw1
    have HM : Hid (Lst.ok w2 ⟨some ⟨g, 0, none⟩, c', l⟩) := owns_ok ho' H0.out.2.1 (by omega)
    go_wp2_with fail
    refine (Of_any ⟨some ⟨g, 0, none⟩, c', l⟩ _ HM.out).mono ?_
    rintro e w3 ⟨rfl, hw3⟩
    have b3 := b2.trans (hw3.mono b2.size)
    have ho3 := owns_below ho' hw3
    have S0 : Hid (mvs w g l.length c' (tn 0 l) w3) := ⟨l, rfl, H0.out.2.1, ho3, b3⟩
    clear ho' hw3 b2 b3 ho3 HM
    obtain ⟨M0, hM0⟩ : ∃ M0, tn 0 l = M0 := ⟨_, rfl⟩
    rw [hM0] at S0
    rw [show tn 0 (Lst.mk (some ⟨g, 0, none⟩) c' l).l = M0 from hM0]
    clear hM0
    go_wp2_with fail
    obtain ⟨w4, hw4⟩ : ∃ w4 : World, w4 = w3 := ⟨_, rfl⟩
    subst hw4
    go_loopw [8, 26] (fun m i wr => ∃ M k : Nat, k ≤ news.length ∧ m = .int .u64 M ∧ i = .int .i64 k ∧ mvs w g l.length c' M wr) (fun _ i _ => news.length - (intOf i).toNat)
    case atStart => exact ⟨M0, 0, by omega, rfl, rfl, S0.out⟩
    case round =>
      obtain ⟨M, k, hk, rfl, rfl, L, hM, hsL, ho, hbw⟩ := hrel
      clear S0
      have HMt : Hid (M = tn 0 L) := hM
      have HS : Hid (small L) := hsL
      have HO : Hid (owns w.heap.size wr g l.length c' L) := ho
      have HB : Hid (Below w.heap.size w wr) := hbw
      clear hM hsL ho hbw
      by_cases hlt : k < news.length
      · obtain ⟨b, rfl, hcell⟩ := (row_below H2.out.1 HB.out) k hlt
        have HX : Hid (news.getD k 0 < 18446744073709551616) := small_at H2.out.2.1 k
        simp only [] at hcell
        obtain ⟨X, hX⟩ : ∃ X, news.getD k 0 = X := ⟨_, rfl⟩
        rw [hX] at hcell HX
        clear hX
        have hln : ¬ ((l.length : Int) = 0) := by omega
        have hmod : ∀ j : Nat, (j : Int).tmod (l.length : Int) = ((j % l.length : Nat) : Int) := fun j => rfl
        have hm1 := hmod k
        have hat : k % l.length < l.length := Nat.mod_lt _ (by omega)
        by_cases hp : k < P.length
        · obtain ⟨qa, rfl, hpc, hp1, hp2⟩ := (Ist.ok_below H1.out HB.out).1 k hp
          simp only [] at hpc hp1 hp2
          obtain ⟨Z, hZ⟩ : ∃ Z, P.getD k 0 = Z := ⟨_, rfl⟩
          rw [hZ] at hpc hp1 hp2
          clear hZ
          by_cases hz : 0 ≤ Z
          · obtain ⟨z, rfl⟩ : ∃ z : Nat, Z = z := ⟨Z.toNat, by omega⟩
            have hm2 := hmod z
            clear hat
            have hat : z % l.length < l.length := Nat.mod_lt _ (by omega)
            obtain ⟨at0, hat0⟩ : ∃ at0, k % l.length = at0 := ⟨_, rfl⟩
            obtain ⟨at', hat'⟩ : ∃ at', z % l.length = at' := ⟨_, rfl⟩
            rw [hat0] at hm1
            rw [hat'] at hm2 hat
            clear hmod hat0 hat'
            have hown := owns_cell HO.out hat
            obtain ⟨Y, hY⟩ : ∃ Y, L.getD at' 0 = Y := ⟨_, rfl⟩
            have HY : Hid (L.getD at' 0 = Y) := hY
            have HYb : Hid (Y < 18446744073709551616) := by have := small_at HS.out at'; rw [hY] at this; exact this
            rw [hY] at hown
            clear hY
            have HMl : Hid (M < 18446744073709551616) := by have := tn_lt (m := 0) (by decide) L; rw [← HMt.out] at this; exact this
            go_wp2_with fail
            refine (Change_any M ⟨some ⟨wr.heap.size, 0, none⟩, 1, [Y]⟩ ⟨some ⟨wr.heap.size + 1, 0, none⟩, 1, [X]⟩ _ HMl.out (two_ok wr Y X 22 HYb.out HX.out).1 (two_ok wr Y X 22 HYb.out HX.out).2).mono ?_
            rintro e w5 ⟨rfl, hw5⟩
            have hb5 : Below wr.heap.size wr w5 := (two_below wr (.cells #[.int .u64 (Y : Int)] 22) (.cells #[.int .u64 (X : Int)] 22)).trans (hw5.mono (by simp; omega))
            have hc5 : w5.cell? ⟨g, at', none⟩ = some (.int .u64 (Y : Int)) := by rw [hb5.cell (p := ⟨g, at', none⟩) (owns_base HO.out).2]; exact hown
            have hf5 : w5.frozen? ⟨g, at', none⟩ = false := owns_free (owns_below HO.out hb5) at'
            have HV : Hid (mvs w g l.length c' (tn M ([Y] ++ [X])) (w5.setCell ⟨g, at', none⟩ (.int .u64 (X : Int)))) := by
              have := mvs_step hb5 HMt.out HS.out HO.out HB.out at' X hat HX.out
              rw [HY.out] at this; exact this
            clear hb5 hw5 hcell hown
            obtain ⟨M5, hM5⟩ : ∃ M5, tn M ([Y] ++ [X]) = M5 := ⟨_, rfl⟩
            rw [hM5] at HV
            rw [show tn M ((Lst.mk (some ⟨wr.heap.size, 0, none⟩) 1 [Y]).l ++ (Lst.mk (some ⟨wr.heap.size + 1, 0, none⟩) 1 [X]).l) = M5 from hM5]
            clear hM5
            go_wp2_with fail
            go_roundw
            case rel => exact ⟨M5, k + 1, by omega, rfl, by go_num, HV.out⟩
            case measure => simp [intOf]; omega
          · obtain ⟨at', hat'⟩ : ∃ at', k % l.length = at' := ⟨_, rfl⟩
            rw [hat'] at hm1 hat
            clear hmod hat'
            have hown := owns_cell HO.out hat
            obtain ⟨Y, hY⟩ : ∃ Y, L.getD at' 0 = Y := ⟨_, rfl⟩
            have HY : Hid (L.getD at' 0 = Y) := hY
            have HYb : Hid (Y < 18446744073709551616) := by have := small_at HS.out at'; rw [hY] at this; exact this
            rw [hY] at hown
            clear hY
            have HMl : Hid (M < 18446744073709551616) := by have := tn_lt (m := 0) (by decide) L; rw [← HMt.out] at this; exact this
            go_wp2_with fail
            refine (Change_any M ⟨some ⟨wr.heap.size, 0, none⟩, 1, [Y]⟩ ⟨some ⟨wr.heap.size + 1, 0, none⟩, 1, [X]⟩ _ HMl.out (two_ok wr Y X 22 HYb.out HX.out).1 (two_ok wr Y X 22 HYb.out HX.out).2).mono ?_
            rintro e w5 ⟨rfl, hw5⟩
            have hb5 : Below wr.heap.size wr w5 := (two_below wr (.cells #[.int .u64 (Y : Int)] 22) (.cells #[.int .u64 (X : Int)] 22)).trans (hw5.mono (by simp; omega))
            have hc5 : w5.cell? ⟨g, at', none⟩ = some (.int .u64 (Y : Int)) := by rw [hb5.cell (p := ⟨g, at', none⟩) (owns_base HO.out).2]; exact hown
            have hf5 : w5.frozen? ⟨g, at', none⟩ = false := owns_free (owns_below HO.out hb5) at'
            have HV : Hid (mvs w g l.length c' (tn M ([Y] ++ [X])) (w5.setCell ⟨g, at', none⟩ (.int .u64 (X : Int)))) := by
              have := mvs_step hb5 HMt.out HS.out HO.out HB.out at' X hat HX.out
              rw [HY.out] at this; exact this
            clear hb5 hw5 hcell hown
            obtain ⟨M5, hM5⟩ : ∃ M5, tn M ([Y] ++ [X]) = M5 := ⟨_, rfl⟩
            rw [hM5] at HV
            rw [show tn M ((Lst.mk (some ⟨wr.heap.size, 0, none⟩) 1 [Y]).l ++ (Lst.mk (some ⟨wr.heap.size + 1, 0, none⟩) 1 [X]).l) = M5 from hM5]
            clear hM5
            go_wp2_with fail
            go_roundw
            case rel => exact ⟨M5, k + 1, by omega, rfl, by go_num, HV.out⟩
            case measure => simp [intOf]; omega
        · obtain ⟨at', hat'⟩ : ∃ at', k % l.length = at' := ⟨_, rfl⟩
          rw [hat'] at hm1 hat
          clear hmod hat'
          have hown := owns_cell HO.out hat
          obtain ⟨Y, hY⟩ : ∃ Y, L.getD at' 0 = Y := ⟨_, rfl⟩
          have HY : Hid (L.getD at' 0 = Y) := hY
          have HYb : Hid (Y < 18446744073709551616) := by have := small_at HS.out at'; rw [hY] at this; exact this
          rw [hY] at hown
          clear hY
          have HMl : Hid (M < 18446744073709551616) := by have := tn_lt (m := 0) (by decide) L; rw [← HMt.out] at this; exact this
          go_wp2_with fail
          refine (Change_any M ⟨some ⟨wr.heap.size, 0, none⟩, 1, [Y]⟩ ⟨some ⟨wr.heap.size + 1, 0, none⟩, 1, [X]⟩ _ HMl.out (two_ok wr Y X 22 HYb.out HX.out).1 (two_ok wr Y X 22 HYb.out HX.out).2).mono ?_
          rintro e w5 ⟨rfl, hw5⟩
          have hb5 : Below wr.heap.size wr w5 := (two_below wr (.cells #[.int .u64 (Y : Int)] 22) (.cells #[.int .u64 (X : Int)] 22)).trans (hw5.mono (by simp; omega))
          have hc5 : w5.cell? ⟨g, at', none⟩ = some (.int .u64 (Y : Int)) := by rw [hb5.cell (p := ⟨g, at', none⟩) (owns_base HO.out).2]; exact hown
          have hf5 : w5.frozen? ⟨g, at', none⟩ = false := owns_free (owns_below HO.out hb5) at'
          have HV : Hid (mvs w g l.length c' (tn M ([Y] ++ [X])) (w5.setCell ⟨g, at', none⟩ (.int .u64 (X : Int)))) := by
            have := mvs_step hb5 HMt.out HS.out HO.out HB.out at' X hat HX.out
            rw [HY.out] at this; exact this
          clear hb5 hw5 hcell hown
          obtain ⟨M5, hM5⟩ : ∃ M5, tn M ([Y] ++ [X]) = M5 := ⟨_, rfl⟩
          rw [hM5] at HV
          rw [show tn M ((Lst.mk (some ⟨wr.heap.size, 0, none⟩) 1 [Y]).l ++ (Lst.mk (some ⟨wr.heap.size + 1, 0, none⟩) 1 [X]).l) = M5 from hM5]
          clear hM5
          go_wp2_with fail
          go_roundw
          case rel => exact ⟨M5, k + 1, by omega, rfl, by go_num, HV.out⟩
          case measure => simp [intOf]; omega
      · go_wp2_with fail
        refine (Of_own HO.out HS.out (by omega)).mono ?_
        rintro e w5 ⟨rfl, hw5⟩
        rw [← HMt.out]
        go_wp2_with fail
        go_ret
        exact ⟨rfl, HB.out.trans (hw5.mono HB.out.size)⟩

set_option maxRecDepth 100000 in
theorem lifted (os : Os) (started : os.Started) (H : Type) (enc : TypeId × Value → H) :
    ReturnsInHanded {} Try.checked os 5 .any (Rows.markMovesSpec.pre6 enc Try.prog Try.f5 Rows.markMovesRow.domain false) (Rows.markMovesSpec.post enc Try.prog Try.f5 false true false false) := by
  refine returnsInHanded_of_change_sized (C := Try.checked) own started (by kernel_rfl) Try.func5
    (ChangeSpec.witness6 (enc := enc) (C := Try.checked) false ⟨#[], #[.slice none 0 0, .slice none 0 0, .slice none 0 0], []⟩ 8 (by kernel_rfl) (by kernel_rfl) (by kernel_rfl) (by kernel_rfl)) ?_
  intro W base args ds gs before hval0 hW hcnd hsz _
  have hval : ∀ (j : Nat) t v, Try.f5.params[j]? = some t → args[j]? = some v → Value.okWide Try.prog W .any base t v := hval0
  have hW' := hW
  obtain ⟨p, q, hA0, hV, rfl, hfz, hnd⟩ := hW
  have hA : DataW.TrodAll enc Try.prog W 0 (fun _ => true) true Try.f5.params.toList args.toList ds p := hA0
  rw [Try.params5] at hA hval
  obtain ⟨v0, vs0, d0, ds0, p0, q0, hargs, rfl, rfl, h0, r0⟩ := trodAll_cons hA
  obtain ⟨v1, vs1, d1, ds1, p1, q1, rfl, rfl, rfl, h1, r1⟩ := trodAll_cons r0
  obtain ⟨v2, vs2, d2, ds2, p2, q2, rfl, rfl, rfl, h2, r2⟩ := trodAll_cons r1
  obtain ⟨rfl, rfl, rfl⟩ := trodAll_nil r2
  obtain rfl : args = #[v0, v1, v2] := by cases args; simp_all
  obtain ⟨rfl, rfl⟩ := trodVars_none hV
  obtain ⟨s0, rfl, k0, t0⟩ := open_lst Try.underlying23 Try.underlying22 (by kernel_rfl) (hval 0 23 v0 rfl rfl) h0
  obtain ⟨s1, rfl, k1, t1⟩ := open_ist Try.underlying33 Try.underlying3 (by kernel_rfl) (hval 1 33 v1 rfl rfl) h1
  obtain ⟨s2, rfl, k2, t2⟩ := open_lst Try.underlying23 Try.underlying22 (by kernel_rfl) (hval 2 23 v2 rfl rfl) h2
  have hs0 : s0.l.length * 8 ≤ 140737488351232 := told_sized hsz (j := 0) rfl rfl Try.underlying23 (by kernel_rfl) t0
  have hs1 : s1.l.length * 8 ≤ 140737488351232 := told_sized hsz (j := 1) rfl rfl Try.underlying33 (by kernel_rfl) t1
  have hs2 : s2.l.length * 8 ≤ 140737488351232 := told_sized hsz (j := 2) rfl rfl Try.underlying23 (by kernel_rfl) t2
  clear hA0 hval0
  refine (walk s0 s1 s2  W k0 hs0 k1 hs1 k2 hs2).mono fun e W' ⟨he, hg⟩ => ?_
  subst he
  exact ⟨_, rfl, law_post (by kernel_rfl) (by kernel_rfl) rfl (by kernel_rfl) Try.underlying4 hW' rfl hg⟩

theorem over : Rows.markMovesRow.holds Try.pinned (OpenSpec.ofChange Rows.markMovesSpec) :=
  OpenClaim.holds_of_wide 5 Try.f5 rfl rfl rfl rfl rfl rfl rfl ⟨rfl, rfl, rfl, rfl, rfl⟩ rfl rfl rfl rfl rfl (by kernel_rfl) Try.func5 (by kernel_rfl)
    (of_decide_eq_true (by kernel_rfl)) (by unfold Func.isWrapper; first | (rw [if_pos (by decide +kernel)]; kernel_rfl) | (rw [if_neg (by decide +kernel)]; exact ⟨rfl, rfl⟩))
    (fun os started H enc _ => lifted os started H enc)

theorem proved : Rows.MarkMovesSaid :=
  over
end Go.Proofs.Ytmifgaknmhcajaa.markMoves

namespace Go.Proofs.Ytmifgaknmhcajaa
/-- For every list of numbers, every list of places and every list of new numbers the law MarkMoves of package mark returns true, and its arguments read as before; no condition. -/
theorem markMoves_holds : Rows.MarkMovesSaid := markMoves.proved
#print axioms markMoves_holds
end Go.Proofs.Ytmifgaknmhcajaa
