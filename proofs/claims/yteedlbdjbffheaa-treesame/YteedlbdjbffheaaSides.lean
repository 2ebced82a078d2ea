/- Rows of truth values of one's own; what sides returns. -/
import Derived.Test.YteedlbdjbffheaaUse
namespace Go.Proofs.Yteedlbdjbffheaa
open Go.RowKit
set_option linter.unusedVariables false

def bls (L : List Bool) : List Value := L.map fun x => Value.bool x
theorem bls_getElem {L : List Bool} {j : Nat} (h : j < L.length) : (bls L)[j]? = some (.bool (L.getD j false)) := by
  unfold bls
  rw [List.getElem?_map, List.getElem?_eq_getElem h]
  simp [List.getD_eq_getElem?_getD, List.getElem?_eq_getElem h]
theorem bls_append (a b : List Bool) : bls (a ++ b) = bls a ++ bls b := by unfold bls; rw [List.map_append]
theorem bls_one {L : List Bool} : ∀ u ∈ bls L, u.oneCell' = true := by
  intro u hu
  unfold bls at hu
  obtain ⟨x, _, rfl⟩ := List.mem_map.1 hu
  rfl
theorem info4 : (Try.prog.info? 4).map (fun i => (i.zero, i.size, i.bytes)) = some (some (.bool false), 1, 1) := by kernel_rfl
/-- v is a row of truth values of one's own, or nil. -/
def bmine (B : Nat) (w : World) (v : Value) (L : List Bool) : Prop := w.ownsRow B 4 1 v L.length (bls L)
theorem bmine_below {B : Nat} {w w' : World} {v : Value} {L : List Bool} (h : bmine B w v L) (hb : Below w.heap.size w w') : bmine B w' v L := by
  refine ⟨h.1, ?_⟩
  rcases h.2 with h0 | ⟨g', cap, cur, hv, hB, hblk, hr⟩
  · exact .inl h0
  · refine .inr ⟨g', cap, cur, hv, hB, ?_, hr⟩
    have : g' < w.heap.size := by
      rcases Nat.lt_or_ge g' w.heap.size with hlt | hge
      · exact hlt
      · rw [Array.getElem?_eq_none hge] at hblk; cases hblk
    rw [hb.block g' this]; exact hblk
theorem bmine_grown {w w1 w2 : World} {v : Value} {L : List Bool} (h : bmine w.heap.size w1 v L) (hw : Below w.heap.size w w1) (hg : w1.grownBy w2 v.ownBlock) : Below w.heap.size w w2 :=
  hw.grown hg hw.size (fun k hk => (World.ownsRow.lt h k hk).1)
theorem bmine_slice {B : Nat} {w : World} {v : Value} {L : List Bool} (h : bmine B w v L) : ∃ p c, v = .slice p L.length c ∧ ∀ j, j < L.length → ∃ a, p = some a ∧ w.cell? (a.add j) = some (.bool (L.getD j false)) := by
  rcases h.2 with ⟨h0, hn⟩ | ⟨g, cap, cur, hv, hB, hblk, hr⟩
  · have : L = [] := List.eq_nil_of_length_eq_zero hn
    subst this
    exact ⟨none, 0, h0, fun j hj => absurd hj (Nat.not_lt_zero _)⟩
  · subst hv
    refine ⟨_, _, rfl, fun j hj => ⟨_, rfl, ?_⟩⟩
    rw [add_zero_at, World.ownsRow.cellAt h j (by omega), bls_getElem hj]
theorem one_atb {w : World} {ad : Addr} {X : Bool} (h : w.cell? ad = some (.bool X)) : ∀ j u, (bls [X])[j]? = some u → w.cell? (ad.add j) = some u := by
  intro j u hj
  have hjl : j < 1 := by have := (List.getElem?_eq_some_iff.1 hj).1; unfold bls at this; simpa using this
  obtain rfl : j = 0 := by omega
  have : (Value.bool X) = u := by unfold bls at hj; simpa using hj
  rw [← this]
  have e : ad.add 0 = ad := by unfold Addr.add; simp
  rw [e]; exact h
theorem list_oneb {ops : Array Oper} {rest : List Oper} {o : Oper} {a : Act} {Q : Exit → Act → World → Prop} (w : World) (hgd : o.guard = none) (s x : Operand)
    (ho : o.op = .call { callee := .builtin .append, args := #[s, x], argTypes := #[44, 44] })
    (B : Nat) (v : Value) (L : List Bool) (hs : a.eval s = v) (hown : bmine B w v L) (ad : Addr) (c : Nat) (X : Bool) (hx : a.eval x = .slice (some ad) 1 c) (hcell : w.cell? ad = some (.bool X)) (hl : L.length ≤ 1000000) (hB : B ≤ w.heap.size)
    (h : ∀ g cap w', bmine B w' (.slice (some ⟨g, 0, none⟩) (L.length + 1) cap) (L ++ [X]) → w.grownBy w' v.ownBlock → wpList Try.prog ops Q rest (a.put o.dst (.slice (some ⟨g, 0, none⟩) (L.length + 1) cap)) w') :
    wpList Try.prog ops Q (o :: rest) a w := by
  obtain ⟨i0, hi, hz0, hz1, hz2⟩ := info_parts info4
  refine wpList_append_lies w hgd s x 44 ho B 4 i0 (.bool false) 1 1 Try.underlying44 hi hz0 hz1 hz2 rfl (by decide) v L.length (bls L) hs hown ad 1 c (bls [X]) hx rfl (one_atb hcell) bls_one (by decide) (by unfold maxLen; omega) (by omega) hB _ rfl ?_
  intro g cap w' h1 h2 h3 h4
  refine h g cap w' ?_ h2
  unfold bmine
  rw [bls_append, List.length_append]; exact h1

def SideC (n : Nat) : Prop := ∀ (i k : Nat) (w : World), k < n → 1 ≤ k → k ≤ 256 → i < k →
  Calls Try.prog 24 #[.int .i64 i, .int .i64 k] w fun e w' => ∃ v, e = .returned v ∧ bmine w.heap.size w' v (sd i k) ∧ Below w.heap.size w w'

set_option maxRecDepth 20000 in
theorem side_one (i : Nat) (w : World) : Calls Try.prog 24 #[.int .i64 i, .int .i64 1] w fun e w' => e = .returned (.slice none 0 0) ∧ w' = w := by
  go_enter Try.func24, Try.ntmps24
  go_wp2_with fail
  go_ret
  exact ⟨rfl, rfl⟩

set_option maxRecDepth 20000 in
set_option maxHeartbeats 2000000 in
theorem side_step (k : Nat) (ih : SideC k) (i : Nat) (w : World) (h2 : 2 ≤ k) (hn : k ≤ 256) (hi : i < k) :
  Calls Try.prog 24 #[.int .i64 i, .int .i64 k] w fun e w' => ∃ v, e = .returned v ∧ bmine w.heap.size w' v (sd i k) ∧ Below w.heap.size w w' := by
  have IH : Hid (SideC k) := ih
  have hsp := sp_lt h2
  have hsp0 := sp_pos k
  have HL : Hid (i < sp k → sd i k = sd i (sp k) ++ [false] ∧ (sd i (sp k)).length ≤ 8) := fun h => ⟨sd_left h2 h, sd_le 8 _ _ (by simp; omega) h⟩
  have HR : Hid (¬ i < sp k → sd i k = sd (i - sp k) (k - sp k) ++ [true] ∧ (sd (i - sp k) (k - sp k)).length ≤ 8) := fun h => ⟨sd_right h2 h, sd_le 8 _ _ (by simp; omega) (by omega)⟩
  have HSP : Hid (∀ j N : Nat, N = 2 ^ j → N < k → k ≤ 2 * N → N = sp k) := fun j N h1 h2 h3 => (sp_of (k := j) h1 h2 h3).symm
  obtain ⟨S, hS⟩ : ∃ S, sp k = S := ⟨_, rfl⟩
  rw [hS] at hsp hsp0 HL HR HSP
  clear hS ih
  have e5 : ¬ (k : Int) = 1 := by omega
  go_enter Try.func24, Try.ntmps24
  go_wp2_with fail
  go_loop [5] (fun m => ∃ j N : Nat, m = .int .i64 N ∧ N = 2 ^ j ∧ N < k) (fun m => 256 - (intOf m).toNat)
  case atStart => exact ⟨0, 1, rfl, rfl, by omega⟩
  case round =>
    obtain ⟨j, N, rfl, hN, hlt⟩ := hrel
    have hN0 : 0 < N := by rw [hN]; exact Nat.two_pow_pos j
    by_cases hl2 : 2 * N < k
    · have HN : Hid (N = 2 ^ j) := hN
      clear hN
      go_wp2_with fail
      go_round
      case rel => exact ⟨j + 1, N * 2, by go_num, by rw [HN.out, Nat.pow_succ], by omega⟩
      case measure => simp [intOf]; omega
    · obtain rfl := HSP.out j N hN hlt (by omega)
      clear hN HSP
      by_cases his : i < N
      · obtain ⟨HA, HB⟩ := HL.out his
        have HA : Hid (sd i k = sd i N ++ [false]) := HA
        have HB : Hid ((sd i N).length ≤ 8) := HB
        have I : Hid (Calls Try.prog 24 #[.int .i64 i, .int .i64 N] w fun e w' => ∃ v, e = .returned v ∧ bmine w.heap.size w' v (sd i N) ∧ Below w.heap.size w w') := IH.out i N w hlt (by omega) (by omega) his
        clear HL HR IH
        obtain ⟨L, hL⟩ : ∃ L, sd i N = L := ⟨_, rfl⟩
        rw [hL] at HA HB I
        clear hL
        go_wp2_with fail
        refine I.out.mono ?_
        rintro e w1 ⟨v, rfl, hv, hb⟩
        have HV : Hid (bmine w.heap.size (w1.alloc (.cells #[.bool false] 4)) v L) := bmine_below hv (alloc_below _ _)
        have HBe : Hid (Below w.heap.size w (w1.alloc (.cells #[.bool false] 4))) := hb.alloc hb.size _
        clear hv hb I
        go_wp2_with (at_builtin; refine list_oneb _ rfl _ _ rfl w.heap.size v L rfl HV.out ⟨_, 0, none⟩ 1 false rfl (new_zero _ _ _) (by have := HB.out; omega) HBe.out.size ?_)
        intro g cap w2 h1 h2
        have HM : Hid (bmine w.heap.size w2 (.slice (some ⟨g, 0, none⟩) (L.length + 1) cap) (L ++ [false]) ∧ Below w.heap.size w w2) := ⟨h1, bmine_grown HV.out HBe.out h2⟩
        clear h1 h2 HV HBe
        go_wp2_with fail
        go_ret
        exact ⟨_, rfl, by rw [HA.out]; exact HM.out.1, HM.out.2⟩
      · obtain ⟨HA, HB⟩ := HR.out his
        have HA : Hid (sd i k = sd (i - N) (k - N) ++ [true]) := HA
        have HB : Hid ((sd (i - N) (k - N)).length ≤ 8) := HB
        have I : Hid (Calls Try.prog 24 #[.int .i64 (i - N : Nat), .int .i64 (k - N : Nat)] w fun e w' => ∃ v, e = .returned v ∧ bmine w.heap.size w' v (sd (i - N) (k - N)) ∧ Below w.heap.size w w') := IH.out (i - N) (k - N) w (by omega) (by omega) (by omega) (by omega)
        clear HL HR IH
        obtain ⟨L, hL⟩ : ∃ L, sd (i - N) (k - N) = L := ⟨_, rfl⟩
        rw [hL] at HA HB I
        clear hL
        have f1 : (i : Int) - N = ((i - N : Nat) : Int) := by omega
        have f2 : (k : Int) - N = ((k - N : Nat) : Int) := by omega
        go_wp2_with fail
        refine I.out.mono ?_
        rintro e w1 ⟨v, rfl, hv, hb⟩
        have HV : Hid (bmine w.heap.size (w1.alloc (.cells #[.bool true] 4)) v L) := bmine_below hv (alloc_below _ _)
        have HBe : Hid (Below w.heap.size w (w1.alloc (.cells #[.bool true] 4))) := hb.alloc hb.size _
        clear hv hb I
        go_wp2_with (at_builtin; refine list_oneb _ rfl _ _ rfl w.heap.size v L rfl HV.out ⟨_, 0, none⟩ 1 true rfl (new_zero _ _ _) (by have := HB.out; omega) HBe.out.size ?_)
        intro g cap w2 h1 h2
        have HM : Hid (bmine w.heap.size w2 (.slice (some ⟨g, 0, none⟩) (L.length + 1) cap) (L ++ [true]) ∧ Below w.heap.size w w2) := ⟨h1, bmine_grown HV.out HBe.out h2⟩
        clear h1 h2 HV HBe
        go_wp2_with fail
        go_ret
        exact ⟨_, rfl, by rw [HA.out]; exact HM.out.1, HM.out.2⟩
theorem side_all (n : Nat) : SideC n := by
  induction n with
  | zero => intro i k w h; omega
  | succ n ih =>
    intro i k w hk h1 hn hi
    rcases Nat.lt_or_ge k n with h | h
    · exact ih i k w h h1 hn hi
    · obtain rfl : k = n := by omega
      rcases Nat.lt_or_ge k 2 with h2 | h2
      · obtain rfl : k = 1 := by omega
        refine (side_one i w).mono ?_
        rintro e w' ⟨rfl, hw⟩; subst w'
        refine ⟨_, rfl, ?_, Below.refl _ _⟩
        rw [sd_one _ (by omega)]
        exact World.ownsRow_nil _ _ _ _
      · exact side_step k ih i w h2 hn hi
theorem sides_any (i k : Nat) (w : World) (h1 : 1 ≤ k) (hn : k ≤ 256) (hi : i < k) :
  Calls Try.prog 24 #[.int .i64 i, .int .i64 k] w fun e w' => ∃ v, e = .returned v ∧ bmine w.heap.size w' v (sd i k) ∧ Below w.heap.size w w' :=
  side_all (k + 1) i k w (by omega) h1 hn hi
end Go.Proofs.Yteedlbdjbffheaa
