/- What GrownMarks returns. -/
import Derived.Test.YteedlbdjbffheaaRootOf
namespace Go.Proofs.Yteedlbdjbffheaa
open Go.RowKit
set_option linter.unusedVariables false

theorem drop_take_len (l : List ByteArray) (n o : Nat) (h : n ≤ l.length) : ((l.take n).drop o).length = n - o := by rw [List.length_drop, List.length_take]; omega

set_option maxRecDepth 20000 in
set_option maxHeartbeats 4000000 in
theorem Grown_in (l : List ByteArray) (p : Option Addr) (n k c : Nat) (w : World) (hl : l.length = k) (hn : k ≤ 256) (hc : k ≤ c) (hnk : n ≤ k) (ht : txt w p l) (hs : tsm l) :
  Calls Try.prog 10 #[.slice p k c, .int .i64 n] w fun e w' => ∃ v, e = .returned (.tuple #[v, .int .i64 0]) ∧ mine w.heap.size w' v (gr pr (lvs (l.take n))) ∧ Below w.heap.size w w' := by
  have HF : Hid ((gr pr (lvs (l.take n))).length ≤ 256) := by
    have := gr_le pr _ (lvs (l.take n)) rfl
    rw [lvs_length, List.length_take] at this
    unfold Hid; omega
  have HT : Hid (txt w p l) := ht
  have HTS : Hid (tsm l) := hs
  have HL : Hid (l.length = k) := hl
  have HLn : Hid (∀ o, ((l.take n).drop o).length = n - o) := fun o => drop_take_len l n o (by omega)
  obtain ⟨F, hF⟩ : ∃ F, gr pr (lvs (l.take n)) = F := ⟨_, rfl⟩
  have H0 : Hid ([] ++ gr pr (lvs ((l.take n).drop 0)) = F) := by unfold Hid; simpa using hF
  rw [hF] at HF ⊢
  clear hl ht hs hF
  have hbt : (decide ((0 : Int) ≤ n) && decide ((n : Int) ≤ k)) = true := by simp; omega
  have e1 : ¬ (256 : Int) < k := by omega
  go_enter Try.func10, Try.ntmps10
  go_wp2_with fail
  refine (Between_any n 0 k _).mono ?_
  rintro e w' ⟨rfl, hw⟩; subst w'
  rw [hbt]
  clear hbt
  go_wp2_with fail
  go_loopw [6, 7] (fun mv ov wr => ∃ (p' : Option Addr) (g c' o : Nat) (G : List Nat), mv = .slice p' g c' ∧ ov = .int .i64 o ∧ o ≤ n ∧ mine w.heap.size wr (.slice p' g c') G ∧ G ++ gr pr (lvs ((l.take n).drop o)) = F ∧ Below w.heap.size w wr) (fun _ ov _ => n - (intOf ov).toNat)
  case atStart => exact ⟨none, 0, 0, 0, [], rfl, rfl, by omega, World.ownsRow_nil _ _ _ _, H0.out, Below.refl _ _⟩
  case round =>
    obtain ⟨p', g, c', o, G, rfl, rfl, ho, hM, hG, hB⟩ := hrel
    have HM : Hid (mine w.heap.size wr (.slice p' g c') G) := hM
    have HG : Hid (G ++ gr pr (lvs ((l.take n).drop o)) = F) := hG
    have HB : Hid (Below w.heap.size w wr) := hB
    have HGl : Hid (G.length = g) := (mine_slice hM).1
    have HGn : Hid (g ≤ 256) := by
      have := congrArg List.length hG
      rw [List.length_append, (mine_slice hM).1] at this
      have := HF.out
      unfold Hid; omega
    clear hM hG hB H0
    by_cases hlt : o < n
    · have HSt : Hid (gr pr (lvs ((l.take n).drop o)) = rts (((l.take n).drop o).take (pw (n - o))) :: gr pr (lvs (((l.take n).drop o).drop (pw (n - o))))) := by
        have := grs_step ((l.take n).drop o) (by rw [HLn.out]; omega)
        rwa [HLn.out] at this
      have hp1 := pw_pos (n - o)
      have hp2 := pw_le (n := n - o) (by omega)
      have HP : Hid (∀ j N : Nat, N = 2 ^ j → N ≤ n - o → n - o < 2 * N → N = pw (n - o)) := fun j N h1 h2 h3 => (pw_of h1 h2 h3).symm
      obtain ⟨S, hS⟩ : ∃ S, pw (n - o) = S := ⟨_, rfl⟩
      rw [hS] at HSt hp1 hp2 HP
      clear hS
      obtain ⟨w4, hw4⟩ : ∃ w4 : World, w4 = wr := ⟨_, rfl⟩
      subst hw4
      have l1 : (o : Int) < n := by omega
      go_wp2_with fail
      go_loop [8] (fun sv => ∃ j N : Nat, sv = .int .i64 N ∧ N = 2 ^ j ∧ N ≤ n - o) (fun sv => 256 - (intOf sv).toNat)
      case atStart => exact ⟨0, 1, rfl, rfl, by omega⟩
      case round =>
        obtain ⟨j, N, rfl, hN, hNn⟩ := hrel
        have hN0 : 0 < N := by rw [hN]; exact Nat.two_pow_pos j
        by_cases hl2 : o + 2 * N ≤ n
        · have HN : Hid (N = 2 ^ j) := hN
          clear hN
          have l2 : (o : Int) + 2 * N ≤ n := by omega
          go_wp2_with fail
          go_round
          case rel => exact ⟨j + 1, N * 2, by go_num, by rw [HN.out, Nat.pow_succ], by omega⟩
          case measure => simp [intOf]; omega
        · obtain rfl := HP.out j N hN hNn (by omega)
          clear hN HP
          obtain ⟨a, rfl⟩ := txt_some HT.out (by rw [HL.out]; omega)
          have HR : Hid (∀ W : World, Below w.heap.size w W → ∀ c, Calls Try.prog 16 #[.slice (some (a.add o)) N c] W fun e w'' => e = .returned (.int .u64 (rts (((l.take n).drop o).take N))) ∧ Below W.heap.size W w'') :=
            fun W h c => RootOf_any _ (some (a.add o)) N c W (by rw [List.length_take, HLn.out]; omega) (by omega) (txt_take (txt_drop (txt_take (txt_below HT.out h) n) o) N) (tsm_take (tsm_drop (tsm_take HTS.out n) o) N)
          have HD : Hid (((l.take n).drop o).drop N = (l.take n).drop (o + N)) := List.drop_drop
          obtain ⟨X, hX⟩ : ∃ X, rts (((l.take n).drop o).take N) = X := ⟨_, rfl⟩
          rw [hX] at HR HSt
          clear hX
          obtain ⟨q, hq⟩ : ∃ q, o + N = q := ⟨_, rfl⟩
          rw [hq] at HD
          have HQ : Hid (o + N = q) := hq
          have l2 : ¬ (o : Int) + 2 * N ≤ n := by omega
          have l3 : (o : Int) + N = q := by omega
          have l4 : (q : Int) ≤ c := by omega
          have l5 : (o : Int) ≤ q := by omega
          have l6 : (0 : Int) ≤ o := by omega
          have l7 : q - o = N := by omega
          have l8 : ¬ c = o := by omega
          have hqn : q ≤ n := by omega
          clear hq hNn hp1 hp2 hl2
          go_wp2_with fail
          refine (HR.out _ HB.out _).mono ?_
          rintro e w5 ⟨rfl, hb⟩
          have HV : Hid (mine w.heap.size ((w5.drewN 0).alloc (.cells #[.int .u64 X] 23)) (.slice p' g c') G) := mine_next (mine_below HM.out hb) (Nat.le_refl _) 0 _
          have HBe : Hid (Below w.heap.size w ((w5.drewN 0).alloc (.cells #[.int .u64 X] 23))) := below_next (HB.out.trans (hb.mono HB.out.size)) 0 _
          clear hb
          go_wp2_with (at_builtin; refine list_one _ rfl _ _ rfl w.heap.size (.slice p' g c') G rfl HV.out ⟨_, 0, none⟩ 1 X rfl (new_one _ 0 _ _) (by have := HGl.out; have := HGn.out; omega) HBe.out.size ?_)
          intro gg cap w6 h1 h2
          rw [HGl.out] at h1 ⊢
          have HE : Hid (mine w.heap.size w6 (.slice (some ⟨gg, 0, none⟩) (g + 1) cap) (G ++ [X]) ∧ Below w.heap.size w w6) := ⟨h1, mine_grown HV.out HBe.out h2⟩
          clear h1 h2 HV HBe HM HB
          go_wp2_with fail
          go_roundw
          case rel => exact ⟨_, g + 1, cap, q, G ++ [X], rfl, by first | rfl | go_num, hqn, HE.out.1, by rw [← HG.out, HSt.out, HD.out]; simp, HE.out.2⟩
          case measure => have := HQ.out; simp [intOf]; omega
    · have hon : o = n := by omega
      have HE : Hid (G = F) := by
        have := HG.out
        rw [List.eq_nil_of_length_eq_zero (show ((l.take n).drop o).length = 0 by rw [HLn.out]; omega)] at this
        unfold lvs at this
        rw [List.map_nil, gr_nil, List.append_nil] at this
        exact this
      have l1 : ¬ (o : Int) < n := by omega
      go_wp2_with fail
      go_ret2
      exact ⟨_, rfl, by rw [← HE.out]; exact HM.out, HB.out⟩
set_option maxRecDepth 20000 in
theorem Grown_large (p : Option Addr) (n : Int) (k c : Nat) (w : World) (hn : 256 < k) :
  Calls Try.prog 10 #[.slice p k c, .int .i64 n] w fun e w' => e = .returned (.tuple #[.slice none 0 0, .int .i64 2]) ∧ w' = w := by
  have e1 : (256 : Int) < k := by omega
  go_enter Try.func10, Try.ntmps10
  go_wp2_with fail
  go_ret2
  exact ⟨rfl, rfl⟩
set_option maxRecDepth 20000 in
theorem Grown_bad (p : Option Addr) (n : Int) (k c : Nat) (w : World) (hn : k ≤ 256) (hi : ¬ (0 ≤ n ∧ n ≤ k)) :
  Calls Try.prog 10 #[.slice p k c, .int .i64 n] w fun e w' => e = .returned (.tuple #[.slice none 0 0, .int .i64 1]) ∧ w' = w := by
  have e1 : ¬ (256 : Int) < k := by omega
  have hbt : (decide ((0 : Int) ≤ n) && decide ((n : Int) ≤ k)) = false := by
    rw [Bool.and_eq_false_iff]
    by_cases h : 0 ≤ n
    · exact .inr (by simp; omega)
    · exact .inl (by simp; omega)
  clear hi
  go_enter Try.func10, Try.ntmps10
  go_wp2_with fail
  refine (Between_any n 0 k _).mono ?_
  rintro e w' ⟨rfl, hw⟩; subst w'
  rw [hbt]
  clear hbt
  go_wp2_with fail
  go_ret2
  exact ⟨rfl, rfl⟩
end Go.Proofs.Yteedlbdjbffheaa
