/- What PackedAll and UnpackedAll return: what PutAll and GetAll do. -/
import Derived.Test.YtgebfpncapfaoaaKUnp
import Derived.Test.YtgebfpncapfaoaaKAll
namespace Go.Proofs.Ytgebfpncapfaoaa.pk
open Go.RowKit
set_option linter.unusedVariables false
attribute [local go_sem ↓] Go.wp_at_zero Go.wp_at_succ

/-- How long a list's value says that it is. -/
def lenOf : Value → Nat
  | .slice _ n _ => n
  | _ => 0

set_option maxRecDepth 20000 in
set_option maxHeartbeats 1000000 in
theorem UnpackedAll_any (s : ByteArray) (w : World) (hs : s.size ≤ 9223372036854775806) :
    Calls Try.prog 43 #[.string s] w fun e w' => ∃ v, e = .returned (.tuple #[v, .int .i64 (ga (bs s)).2]) ∧ mine 3 vi w.heap.size w' v (ga (bs s)).1 ∧ Below w.heap.size w w' := by
  have HG : Hid (∀ (t : ByteArray) (w : World), t.size ≤ 9223372036854775806 → Calls Try.prog 62 #[.string t] w fun e w' => e = .returned (.tuple #[.int .u64 (gn t), .string (gr t), .int .i64 (ge t)]) ∧ Below w.heap.size w w') := fun t w h => Unpacked_any t w h
  have HU : Hid (∀ (n : Nat) (w : World), n < 18446744073709551616 → Calls Try.prog 63 #[.int .u64 n] w fun e w' => e = .returned (.int .i64 (uf n)) ∧ w' = w) := fun n w h => Unfolded_any n w h
  have A1 : Hid (ge s ≠ 0 → ga (bs s) = ([], ge s)) := fun h => ga_err h
  have A2 : Hid (ge s = 0 → ¬ gn s ≤ 1000 → ga (bs s) = ([], 2)) := fun h h2 => ga_large h h2
  have A3 : Hid (ge s = 0 → gn s ≤ 1000 → gs (gn s) (bs (gr s)) [] = ga (bs s)) := fun h h2 => by rw [bs_gr]; exact (ga_go h h2).symm
  have HS : Hid ((gr s).size ≤ s.size) := gr_size s
  obtain ⟨R, hR⟩ : ∃ R, ga (bs s) = R := ⟨_, rfl⟩
  rw [hR] at A1 A2 A3 ⊢
  clear hR
  go_enter Try.func43, Try.ntmps43
  go_wp2_with fail
  refine (HG.out s _ hs).mono ?_
  rintro e w1 ⟨rfl, hb1⟩
  obtain ⟨C, hC⟩ : ∃ C, gn s = C := ⟨_, rfl⟩
  obtain ⟨T, hT⟩ : ∃ T, gr s = T := ⟨_, rfl⟩
  obtain ⟨E, hE⟩ : ∃ E, ge s = E := ⟨_, rfl⟩
  rw [hE] at A1
  rw [hE, hC] at A2
  rw [hE, hC, hT] at A3
  rw [hT] at HS
  rw [hE, hC, hT]
  clear hC hT hE
  by_cases h0 : E = 0
  · subst h0
    by_cases h1 : C ≤ 1000
    · have HGI : Hid (gs (C - 0) (bs T) [] = R) := A3.out rfl h1
      have HT0 : Hid (T.size ≤ 9223372036854775806) := by have := HS.out; show _ ≤ _; omega
      have HB1 : Hid (Below w.heap.size w w1) := hb1
      clear A1 A2 A3 HS hb1
      go_wp2_with fail
      go_loopw [5, 7] (fun r a wr => ∃ (p : Option Addr) (j c : Nat) (r' : ByteArray) (acc : List Int), r = .string r' ∧ a = .slice p j c ∧ acc.length = j ∧ j ≤ C ∧ mine 3 vi w.heap.size wr (.slice p j c) acc ∧ Below w.heap.size w wr ∧ gs (C - j) (bs r') acc = R ∧ r'.size ≤ 9223372036854775806) (fun _ a _ => C - lenOf a)
      case atStart => exact ⟨none, 0, 0, T, [], rfl, rfl, rfl, Nat.zero_le _, mine_nil _ _ _ _, HB1.out, HGI.out, HT0.out⟩
      case round =>
        obtain ⟨p, j, c, r, acc, rfl, rfl, hj, hjC, hv, hb, hgs, hrs⟩ := hrel
        clear HGI HT0 HB1
        have HV : Hid (mine 3 vi w.heap.size wr (.slice p j c) acc) := hv
        have HB : Hid (Below w.heap.size w wr) := hb
        have HR : Hid (gs (C - j) (bs r) acc = R) := hgs
        have HJ : Hid (acc.length = j) := hj
        have HT : Hid (r.size ≤ 9223372036854775806) := hrs
        clear hv hb hgs hj hrs
        have c1 : (C : Int) ≤ 1000 := by omega
        by_cases hlt : j < C
        · have l1 : (j : Int) < C := by omega
          have HD : Hid (C - j = (C - (j + 1)) + 1) := by show _ = _; omega
          rw [HD.out] at HR
          go_wp2_with fail
          refine (HG.out r _ HT.out).mono ?_
          rintro e w2 ⟨rfl, hb2⟩
          have HB2 : Hid (Below wr.heap.size wr w2) := hb2
          clear hb2
          by_cases h0 : ge r = 0
          · have HN : Hid (gs (C - (j + 1)) (bs (gr r)) (acc ++ [uf (gn r)]) = R ∧ (gr r).size ≤ 9223372036854775806) := ⟨by rw [bs_gr, ← HR.out, gs_next h0]; rfl, Nat.le_trans (gr_size r) HT.out⟩
            have HU' : Hid (∀ w : World, Calls Try.prog 63 #[.int .u64 (gn r)] w fun e w' => e = .returned (.int .i64 (uf (gn r))) ∧ w' = w) := fun w => HU.out _ w (gn_lt r)
            rw [h0]
            obtain ⟨U, hU⟩ : ∃ U, uf (gn r) = U := ⟨_, rfl⟩
            rw [hU] at HN HU'
            obtain ⟨X, hX⟩ : ∃ X, gn r = X := ⟨_, rfl⟩
            rw [hX] at HU' ⊢
            obtain ⟨Y, hY⟩ : ∃ Y, gr r = Y := ⟨_, rfl⟩
            rw [hY] at HN ⊢
            clear hU hX hY h0
            go_wp2_with fail
            refine (HU'.out _).mono ?_
            rintro e w' ⟨rfl, hw⟩; subst w'
            have HV2 : Hid (mine 3 vi w.heap.size (w2.alloc (.cells #[.int .i64 U] 3)) (.slice p j c) acc) := mine_below (mine_below HV.out HB2.out) (alloc_below _ _)
            have HBe : Hid (Below w.heap.size w (w2.alloc (.cells #[.int .i64 U] 3))) := below_step (below_step HB.out HB.out.size HB2.out) (Nat.le_trans HB.out.size HB2.out.size) (alloc_below _ _)
            go_wp2_with (at_builtin; refine list_one ki _ rfl _ _ rfl w.heap.size (.slice p j c) acc rfl HV2.out ⟨_, 0, none⟩ 1 U rfl (new_one _ _ _) (by have := HJ.out; omega) HBe.out.size ?_)
            rw [HJ.out]
            intro g cap w3 m1 m2
            have HI3 : Hid (mine 3 vi w.heap.size w3 (.slice (some ⟨g, 0, none⟩) (j + 1) cap) (acc ++ [U]) ∧ Below w.heap.size w w3) := ⟨m1, mine_grown HV2.out HBe.out HBe.out.size m2⟩
            clear m1 m2
            go_wp2_with fail
            go_roundw
            case rel => exact ⟨_, j + 1, cap, Y, acc ++ [U], rfl, rfl, by rw [List.length_append, HJ.out]; rfl, by omega, HI3.out.1, HI3.out.2, HN.out.1, HN.out.2⟩
            case measure => simp [lenOf]; omega
          · have HE : Hid (R = ([], ge r)) := ginv_err HR.out h0
            obtain ⟨E, hE⟩ : ∃ E, ge r = E := ⟨_, rfl⟩
            rw [hE] at HE h0 ⊢
            clear hE
            have h0' : ¬ (E : Int) = 0 := by omega
            go_wp2_with fail
            go_ret2
            exact nil_err HE.out (below_step HB.out HB.out.size HB2.out)
        · obtain rfl : j = C := by omega
          rw [Nat.sub_self] at HR
          by_cases hr0 : r = ⟨#[]⟩
          · subst hr0
            have HE : Hid (R = (acc, 0)) := ginv_end HR.out
            go_wp2_with fail
            go_ret2
            exact ⟨_, by rw [HE.out]; rfl, by rw [HE.out]; exact HV.out, HB.out⟩
          · have HE : Hid (R = ([], 4)) := ginv_left HR.out hr0
            have hne := str_full hr0
            clear hr0
            go_wp2_with fail
            go_ret2
            exact nil_err HE.out HB.out
    · have HE : Hid (R = ([], 2)) := A2.out rfl h1
      clear A1 A2 A3 HS
      go_wp2_with fail
      go_ret2
      exact nil_err HE.out hb1
  · have HE : Hid (R = ([], E)) := A1.out h0
    clear A1 A2 A3 HS
    have h0' : ¬ (E : Int) = 0 := by omega
    go_wp2_with fail
    go_ret2
    exact nil_err HE.out hb1
end Go.Proofs.Ytgebfpncapfaoaa.pk
