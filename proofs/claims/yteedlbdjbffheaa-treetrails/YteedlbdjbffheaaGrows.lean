/- What Grows returns. -/
import Derived.Test.YteedlbdjbffheaaUse
namespace Go.Proofs.Yteedlbdjbffheaa
open Go.RowKit
set_option linter.unusedVariables false

/-- The length of a slice. -/
def slen : Value → Nat
  | .slice _ n _ => n
  | _ => 0
theorem grs_step (l : List ByteArray) (h : 0 < l.length) : gr pr (lvs l) = rts (l.take (pw l.length)) :: gr pr (lvs (l.drop (pw l.length))) := by
  rw [gr_step pr (by rw [lvs_length]; exact h), lvs_length, lvs_drop]
  unfold rts
  rw [lvs_take]
/-- What a round of Grows keeps: the texts that are left, the marks so far. -/
def grw (w : World) (F : List Nat) (mv : Value) (p : Option Addr) (r c : Nat) (l : List ByteArray) (wr : World) : Prop :=
  l.length = r ∧ txt w p l ∧ tsm l ∧ ∃ G, mine w.heap.size wr mv G ∧ G ++ gr pr (lvs l) = F ∧ Below w.heap.size w wr
theorem grw_len {w : World} {F : List Nat} {mv : Value} {p : Option Addr} {r c : Nat} {l : List ByteArray} {wr : World} (h : l.length = r) {G : List Nat} (he : G ++ gr pr (lvs l) = F) (hF : F.length ≤ 256) : G.length ≤ 256 := by
  have := congrArg List.length he
  rw [List.length_append] at this; omega

set_option maxRecDepth 20000 in
set_option maxHeartbeats 2000000 in
theorem Grows_in (l : List ByteArray) (p : Option Addr) (n k c : Nat) (w : World) (hl : l.length = k) (hn : k ≤ 256) (hc : k ≤ c) (hnk : n ≤ k) (ht : txt w p l) (hs : tsm l) :
  Calls Try.prog 9 #[.slice p k c, .int .i64 n] w fun e w' => ∃ v, e = .returned (.tuple #[v, .int .i64 0]) ∧ mine w.heap.size w' v (gr pr (lvs (l.take n))) ∧ Below w.heap.size w w' := by
  have HF : Hid ((gr pr (lvs (l.take n))).length ≤ 256) := by
    have := gr_le pr _ (lvs (l.take n)) rfl
    rw [lvs_length, List.length_take] at this
    unfold Hid; omega
  obtain ⟨F, hF⟩ : ∃ F, gr pr (lvs (l.take n)) = F := ⟨_, rfl⟩
  have H0 : Hid (grw w F (.slice none 0 0) p n c (l.take n) w) := ⟨by rw [List.length_take]; omega, txt_take ht n, tsm_take hs n, [], World.ownsRow_nil _ _ _ _, by simpa using hF, Below.refl _ _⟩
  rw [hF] at HF ⊢
  obtain ⟨l0, hl0⟩ : ∃ l0, l.take n = l0 := ⟨_, rfl⟩
  rw [hl0] at H0
  clear hl ht hs hF hl0
  have e1 : ¬ (256 : Int) < k := by omega
  have e2 : ¬ (n : Int) < 0 := by omega
  have e3 : ¬ (k : Int) < n := by omega
  have e4 : (n : Int) ≤ c := by omega
  have e5 : (0 : Int) ≤ n := by omega
  go_enter Try.func9, Try.ntmps9
  go_wp2_with fail
  go_loopw [6, 7] (fun mv rv wr => ∃ (p' : Option Addr) (r c' : Nat) (lr : List ByteArray), rv = .slice p' r c' ∧ r ≤ 256 ∧ r ≤ c' ∧ grw w F mv p' r c' lr wr) (fun _ rv _ => slen rv)
  case atStart => exact ⟨p, n, c, l0, rfl, by omega, by omega, H0.out⟩
  case round =>
    obtain ⟨p', r, c', lr, rfl, hr, hrc, hlr, htr, hsr, G, hG, hFG, hB⟩ := hrel
    by_cases h0 : 0 < r
    · have HG : Hid (mine w.heap.size wr u6 G) := hG
      have HB : Hid (Below w.heap.size w wr) := hB
      have HLe : Hid (G.length ≤ 256) := grw_len (w := w) (mv := u6) (p := p') (c := c') (wr := wr) hlr hFG HF.out
      have HS : Hid (gr pr (lvs lr) = rts (lr.take (pw r)) :: gr pr (lvs (lr.drop (pw r)))) := by unfold Hid; rw [← hlr]; exact grs_step lr (by omega)
      have hp1 := pw_pos r
      have hp2 := pw_le h0
      have HP : Hid (∀ w : World, Calls Try.prog 27 #[.int .i64 r] w fun e w' => e = .returned (.int .i64 (pw r)) ∧ w' = w) := fun w => power_any r w h0 hr
      obtain ⟨S, hS⟩ : ∃ S, pw r = S := ⟨_, rfl⟩
      rw [hS] at hp1 hp2 HP HS
      obtain ⟨a, rfl⟩ := txt_some htr (by omega)
      have HR : Hid (∀ W : World, Below w.heap.size w W → Calls Try.prog 26 #[.slice (some a) S c'] W fun e w'' => e = .returned (.int .u64 (rts (lr.take S))) ∧ ∃ q, w'' = W.drewN q) :=
        fun W h => root_any (lr.take S) (some a) S c' W (by rw [List.length_take]; omega) (by omega) (by omega) (txt_take (txt_below htr h) S) (tsm_take hsr S)
      have HN : Hid (txt w (some (a.add S)) (lr.drop S) ∧ tsm (lr.drop S) ∧ (lr.drop S).length = r - S) := ⟨txt_drop htr S, tsm_drop hsr S, by rw [List.length_drop]; omega⟩
      have HFG : Hid (G ++ gr pr (lvs lr) = F) := hFG
      clear hS hG hFG hB htr hsr hlr H0
      obtain ⟨X, hX⟩ : ∃ X, rts (lr.take S) = X := ⟨_, rfl⟩
      rw [hX] at HR HS
      clear hX
      have f1 : (S : Int) ≤ r := by omega
      have f2 : (S : Int) ≤ c' := by omega
      have f3 : (0 : Int) ≤ S := by omega
      have f4 : (0 : Int) < r := by omega
      go_wp2_with fail
      refine (HP.out _).mono ?_
      rintro e w' ⟨rfl, hw⟩; subst w'
      go_wp2_with fail
      refine (HR.out _ HB.out).mono ?_
      rintro e w' ⟨rfl, q, hw⟩; subst w'
      have HV : Hid (mine w.heap.size ((wr.drewN q).alloc (.cells #[.int .u64 X] 23)) u6 G) := mine_next HG.out (Nat.le_refl _) q _
      have HBe : Hid (Below w.heap.size w ((wr.drewN q).alloc (.cells #[.int .u64 X] 23))) := below_next HB.out q _
      clear HG HB
      go_wp2_with (at_builtin; refine list_one _ rfl _ _ rfl w.heap.size u6 G rfl HV.out ⟨_, 0, none⟩ 1 X rfl (new_one _ _ _ _) (by have := HLe.out; omega) HBe.out.size ?_)
      intro g cap w2 h1 h2
      have HM : Hid (mine w.heap.size w2 (.slice (some ⟨g, 0, none⟩) (G.length + 1) cap) (G ++ [X]) ∧ Below w.heap.size w w2) := ⟨h1, mine_grown HV.out HBe.out h2⟩
      clear h1 h2 HV HBe
      by_cases hcs : c' = S
      · have hrS : r = S := by omega
        have HD : Hid (lr.drop S = []) := List.eq_nil_of_length_eq_zero (by rw [HN.out.2.2]; omega)
        go_wp2_with fail
        go_roundw
        case rel => exact ⟨_, 0, 0, [], rfl, by omega, by omega, rfl, txt_nil _ _, (fun s hs => by cases hs), _, HM.out.1, by rw [← HFG.out, HS.out, HD.out]; simp, HM.out.2⟩
        case measure => simp [slen]; omega
      · go_wp2_with fail
        go_roundw
        case rel => exact ⟨_, r - S, c' - S, lr.drop S, rfl, by omega, by omega, HN.out.2.2, HN.out.1, HN.out.2.1, _, HM.out.1, by rw [← HFG.out, HS.out]; simp, HM.out.2⟩
        case measure => simp [slen]; omega
    · obtain rfl : r = 0 := by omega
      have : lr = [] := List.eq_nil_of_length_eq_zero hlr
      subst this
      have HE : Hid (mine w.heap.size wr u6 F ∧ Below w.heap.size w wr) := ⟨by rw [← hFG]; unfold lvs; rw [List.map_nil, gr_nil, List.append_nil]; exact hG, hB⟩
      clear hG hFG hB htr hsr hlr H0
      go_wp2_with fail
      go_ret2
      exact ⟨u6, rfl, HE.out⟩

set_option maxRecDepth 20000 in
theorem Grows_large (p : Option Addr) (n : Int) (k c : Nat) (w : World) (hn : 256 < k) :
  Calls Try.prog 9 #[.slice p k c, .int .i64 n] w fun e w' => e = .returned (.tuple #[.slice none 0 0, .int .i64 2]) ∧ w' = w := by
  have e1 : (256 : Int) < k := by omega
  go_enter Try.func9, Try.ntmps9
  go_wp2_with fail
  go_ret2
  exact ⟨rfl, rfl⟩
set_option maxRecDepth 20000 in
theorem Grows_bad (p : Option Addr) (n : Int) (k c : Nat) (w : World) (hn : k ≤ 256) (hi : ¬ (0 ≤ n ∧ n ≤ k)) :
  Calls Try.prog 9 #[.slice p k c, .int .i64 n] w fun e w' => e = .returned (.tuple #[.slice none 0 0, .int .i64 1]) ∧ w' = w := by
  have e1 : ¬ (256 : Int) < k := by omega
  by_cases e2 : n < 0
  · clear hi
    go_enter Try.func9, Try.ntmps9
    go_wp2_with fail
    go_ret2
    exact ⟨rfl, rfl⟩
  · have e3 : (k : Int) < n := by omega
    clear hi
    go_enter Try.func9, Try.ntmps9
    go_wp2_with fail
    go_ret2
    exact ⟨rfl, rfl⟩
end Go.Proofs.Yteedlbdjbffheaa
