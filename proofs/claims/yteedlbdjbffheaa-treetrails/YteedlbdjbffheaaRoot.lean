/- What root and Root return. -/
import Derived.Test.YteedlbdjbffheaaLeaf
import Derived.Test.YteedlbdjbffheaaTxt
import Derived.Deep.RegionWith
namespace Go.Proofs.Yteedlbdjbffheaa
open Go.RowKit
set_option linter.unusedVariables false

/-- The marks of texts. -/
def lvs (l : List ByteArray) : List Nat := l.map lf
theorem lvs_length (l : List ByteArray) : (lvs l).length = l.length := by unfold lvs; simp
theorem lvs_take (l : List ByteArray) (m : Nat) : lvs (l.take m) = (lvs l).take m := by unfold lvs; rw [List.map_take]
theorem lvs_drop (l : List ByteArray) (m : Nat) : lvs (l.drop m) = (lvs l).drop m := by unfold lvs; rw [List.map_drop]
theorem lvs_small (l : List ByteArray) : small (lvs l) := by
  intro x hx
  unfold lvs at hx
  obtain ⟨s, _, rfl⟩ := List.mem_map.1 hx
  exact lf_lt s
theorem lvs_at (l : List ByteArray) (j : Nat) (h : j < l.length) : (lvs l).getD j 0 = lf (l.getD j ⟨#[]⟩) := by
  unfold lvs
  simp [List.getD_eq_getElem?_getD, List.getElem?_eq_getElem h]
/-- The root of texts. -/
def rts (l : List ByteArray) : Nat := rt pr (lvs l)
theorem rt_lt {l : List Nat} (h : small l) : rt pr l < 18446744073709551616 := by
  rcases Nat.lt_or_ge l.length 2 with h2 | h2
  · rw [rt_short pr (by omega)]; exact small_at h 0
  · rw [rt_step pr h2]; exact pr_lt _ _
theorem rts_lt (l : List ByteArray) : rts l < 18446744073709551616 := rt_lt (lvs_small l)
theorem rts_nil : rts [] = 0 := rt_nil pr
theorem rts_one (l : List ByteArray) (h : l.length = 1) : rts l = lf (l.getD 0 ⟨#[]⟩) := by
  unfold rts
  rw [rt_short pr (by rw [lvs_length]; omega), lvs_at _ _ (by omega)]
theorem rts_step (l : List ByteArray) (h : 2 ≤ l.length) : rts l = pr (rts (l.take (sp l.length))) (rts (l.drop (sp l.length))) := by
  unfold rts
  rw [rt_step pr (by rw [lvs_length]; exact h), lvs_length, lvs_take, lvs_drop]

def RootC (n : Nat) : Prop := ∀ (l : List ByteArray) (p : Option Addr) (k c : Nat) (w : World), l.length = k → k < n → k ≤ 256 → k ≤ c → txt w p l → tsm l →
  Calls Try.prog 26 #[.slice p k c] w fun e w' => e = .returned (.int .u64 (rts l)) ∧ ∃ q, w' = w.drewN q

set_option maxRecDepth 20000 in
set_option maxHeartbeats 1000000 in
theorem root_step (n : Nat) (ih : RootC n) (l : List ByteArray) (p : Option Addr) (c : Nat) (w : World) (hl : l.length = n) (hn : n ≤ 256) (hc : n ≤ c) (ht : txt w p l) (hs : tsm l) :
    Calls Try.prog 26 #[.slice p n c] w fun e w' => e = .returned (.int .u64 (rts l)) ∧ ∃ q, w' = w.drewN q := by
  have IH : Hid (RootC n) := ih
  have HL : Hid (l.length = n) := hl
  have HT : Hid (txt w p l) := ht
  have HS : Hid (tsm l) := hs
  clear ih ht hs
  rcases Nat.lt_or_ge n 1 with h0 | h0
  · obtain rfl : n = 0 := by omega
    have HR : Hid (rts l = 0) := by unfold Hid; rw [List.eq_nil_of_length_eq_zero hl, rts_nil]
    clear hl
    go_enter Try.func26, Try.ntmps26
    go_wp2_with fail
    go_ret
    exact ⟨ret_int (by rw [HR.out]; rfl), 0, rfl⟩
  · rcases Nat.lt_or_ge n 2 with h2 | h2
    · obtain rfl : n = 1 := by omega
      obtain ⟨a, rfl⟩ := txt_some HT.out (by omega)
      have hcell : w.cell? a = some (.string (l.getD 0 ⟨#[]⟩)) := txt_cell HT.out 0 (by omega)
      have HR : Hid (rts l = lf (l.getD 0 ⟨#[]⟩)) := rts_one l hl
      have HZ : Hid ((l.getD 0 ⟨#[]⟩).size ≤ 9223372036854775807) := tsm_at HS.out 0
      obtain ⟨s, hs⟩ : ∃ s, l.getD 0 ⟨#[]⟩ = s := ⟨_, rfl⟩
      rw [hs] at hcell HR HZ
      clear hl hs
      go_enter Try.func26, Try.ntmps26
      go_wp2_with fail
      refine (Leaf_any s _ HZ.out).mono ?_
      rintro e w' ⟨rfl, hw⟩; subst w'
      go_wp2_with fail
      go_ret
      exact ⟨ret_int (by rw [HR.out]), 0, rfl⟩
    · obtain ⟨a, rfl⟩ := txt_some HT.out (by omega)
      have hm1 := sp_pos n
      have hm2 := sp_lt h2
      have HR : Hid (rts l = pr (rts (l.take (sp n))) (rts (l.drop (sp n)))) := by unfold Hid; rw [← hl]; exact rts_step l (by omega)
      have HSP : Hid (∀ w : World, Calls Try.prog 33 #[.int .i64 n] w fun e w' => e = .returned (.int .i64 (sp n)) ∧ w' = w) := fun w => split_any n w h2 hn
      obtain ⟨m, hm⟩ : ∃ m, sp n = m := ⟨_, rfl⟩
      rw [hm] at hm1 hm2 HR HSP
      have HA : Hid (rts (l.take m) < 18446744073709551616) := rts_lt _
      have HB : Hid (rts (l.drop m) < 18446744073709551616) := rts_lt _
      have I1 : Hid (∀ w' : World, txt w' (some a) (l.take m) → Calls Try.prog 26 #[.slice (some a) m c] w' fun e w'' => e = .returned (.int .u64 (rts (l.take m))) ∧ ∃ q, w'' = w'.drewN q) :=
        fun w' h => IH.out (l.take m) (some a) m c w' (by rw [List.length_take]; omega) hm2 (by omega) (by omega) h (tsm_take HS.out m)
      have I2 : Hid (∀ w' : World, txt w' (some (a.add m)) (l.drop m) → Calls Try.prog 26 #[.slice (some (a.add m)) (n - m) (c - m)] w' fun e w'' => e = .returned (.int .u64 (rts (l.drop m))) ∧ ∃ q, w'' = w'.drewN q) :=
        fun w' h => IH.out (l.drop m) (some (a.add m)) (n - m) (c - m) w' (by rw [List.length_drop]; omega) (by omega) (by omega) (by omega) h (tsm_drop HS.out m)
      clear hm hl IH
      have e1 : (m : Int) ≤ c := by omega
      have e2 : (m : Int) ≤ n := by omega
      have e3 : ¬ c = m := by omega
      have e4 : ¬ (n : Int) = 0 := by omega
      have e5 : ¬ (n : Int) = 1 := by omega
      go_enter Try.func26, Try.ntmps26
      go_wp2_with fail
      refine (HSP.out _).mono ?_
      rintro e w' ⟨rfl, hw⟩; subst w'
      go_wp2_with fail
      go_quiet ((first | (go_at_call 11; exact Calls.quiet_of_same (Pair_any _ _ _ HA.out HB.out)) | (go_at_call_of 26 (Value.slice (some a) m c); exact Calls.quiet_of (I1.out _ (txt_take (txt_drewN HT.out _) _))) | (go_at_call_of 26 (a.add m); exact Calls.quiet_of (I2.out _ (txt_drop (txt_drewN HT.out _) _)))))
      go_wp2_with fail
      go_ret
      exact ⟨ret_int (by rw [HR.out]), _, rfl⟩
theorem root_all (n : Nat) : RootC n := by
  induction n with
  | zero => intro l p k c w _ h; omega
  | succ n ih =>
    intro l p k c w hl hk hn hc ht hs
    rcases Nat.lt_or_ge k n with h | h
    · exact ih l p k c w hl h hn hc ht hs
    · obtain rfl : k = n := by omega
      exact root_step k ih l p c w hl hn hc ht hs
theorem root_any (l : List ByteArray) (p : Option Addr) (k c : Nat) (w : World) (hl : l.length = k) (hn : k ≤ 256) (hc : k ≤ c) (ht : txt w p l) (hs : tsm l) :
    Calls Try.prog 26 #[.slice p k c] w fun e w' => e = .returned (.int .u64 (rts l)) ∧ ∃ q, w' = w.drewN q :=
  root_all (k + 1) l p k c w hl (by omega) hn hc ht hs
end Go.Proofs.Yteedlbdjbffheaa
