/- What trail and Trail return. -/
import Derived.Test.YteedlbdjbffheaaGrow
namespace Go.Proofs.Yteedlbdjbffheaa
open Go.RowKit
set_option linter.unusedVariables false
attribute [local go_sem ↓] Go.wp_at_zero Go.wp_at_succ

theorem trs_left (l : List ByteArray) (i : Nat) (h : 2 ≤ l.length) (hi : i < sp l.length) : tr pr (lvs l) i = tr pr (lvs (l.take (sp l.length))) i ++ [rts (l.drop (sp l.length))] := by
  unfold rts
  rw [tr_left pr (by rw [lvs_length]; exact h) (by rw [lvs_length]; exact hi), lvs_length, lvs_take, lvs_drop]
theorem trs_right (l : List ByteArray) (i : Nat) (h : 2 ≤ l.length) (hi : ¬ i < sp l.length) : tr pr (lvs l) i = tr pr (lvs (l.drop (sp l.length))) (i - sp l.length) ++ [rts (l.take (sp l.length))] := by
  unfold rts
  rw [tr_right pr (by rw [lvs_length]; exact h) (by rw [lvs_length]; exact hi), lvs_length, lvs_take, lvs_drop]
theorem trs_le (l : List ByteArray) (i : Nat) (h : l.length ≤ 256) (hi : i < l.length) : (tr pr (lvs l) i).length ≤ 8 := by
  rw [tr_length pr (by rw [lvs_length]; exact hi), lvs_length]
  exact sd_le 8 _ _ (by simpa using h) hi

set_option maxRecDepth 20000 in
set_option maxHeartbeats 4000000 in
theorem trail_left (n : Nat) (ih : TrailC n) (l : List ByteArray) (a : Addr) (i c : Nat) (w : World) (hl : l.length = n) (h2 : 2 ≤ n) (hn : n ≤ 256) (hc : n ≤ c) (hi : i < sp n) (ht : txt w (some a) l) (hs : tsm l) :
    Calls Try.prog 31 #[.slice (some a) n c, .int .i64 i] w fun e w' => ∃ v, e = .returned v ∧ mine w.heap.size w' v (tr pr (lvs l) i) ∧ Below w.heap.size w w' := by
  have hm1 := sp_pos n
  have hm2 := sp_lt h2
  have HR : Hid (tr pr (lvs l) i = tr pr (lvs (l.take (sp n))) i ++ [rts (l.drop (sp n))]) := by unfold Hid; rw [← hl]; exact trs_left l i (by omega) (by rw [hl]; exact hi)
  have HSP : Hid (∀ w : World, Calls Try.prog 33 #[.int .i64 n] w fun e w' => e = .returned (.int .i64 (sp n)) ∧ w' = w) := fun w => split_any n w h2 hn
  obtain ⟨m, hm⟩ : ∃ m, sp n = m := ⟨_, rfl⟩
  rw [hm] at hm1 hm2 HR HSP hi
  have HT : Hid (held w (some a) l w) := ⟨ht, Below.refl _ _⟩
  have HLe : Hid ((tr pr (lvs (l.take m)) i).length ≤ 8) := trs_le _ _ (by rw [List.length_take]; omega) (by rw [List.length_take]; omega)
  have I1 : Hid (∀ w' : World, held w (some a) l w' → Calls Try.prog 31 #[.slice (some a) m c, .int .i64 i] w' fun e w'' => ∃ v, e = .returned v ∧ mine w'.heap.size w'' v (tr pr (lvs (l.take m)) i) ∧ Below w'.heap.size w' w'') :=
    fun w' h => ih (l.take m) (some a) i m c w' (by rw [List.length_take]; omega) hm2 (by omega) (by omega) (by omega) hi (txt_take h.1 m) (tsm_take hs m)
  have I2 : Hid (∀ w' : World, held w (some a) l w' → Calls Try.prog 26 #[.slice (some (a.add m)) (n - m) (c - m)] w' fun e w'' => e = .returned (.int .u64 (rts (l.drop m))) ∧ ∃ q, w'' = w'.drewN q) :=
    fun w' h => root_any (l.drop m) (some (a.add m)) (n - m) (c - m) w' (by rw [List.length_drop]; omega) (by omega) (by omega) (txt_drop h.1 m) (tsm_drop hs m)
  clear hm hl ih ht hs
  obtain ⟨L, hL⟩ : ∃ L, tr pr (lvs (l.take m)) i = L := ⟨_, rfl⟩
  rw [hL] at HR HLe I1
  obtain ⟨X, hX⟩ : ∃ X, rts (l.drop m) = X := ⟨_, rfl⟩
  rw [hX] at HR I2
  clear hL hX
  have e1 : (m : Int) ≤ c := by omega
  have e2 : (m : Int) ≤ n := by omega
  have e3 : ¬ c = m := by omega
  have e4 : (i : Int) < m := by omega
  have e5 : ¬ (n : Int) = 1 := by omega
  have e6 : (0 : Int) ≤ m := by omega
  go_enter Try.func31, Try.ntmps31
  go_wp2_with fail
  refine (HSP.out _).mono ?_
  rintro e w' ⟨rfl, hw⟩; subst w'
  go_wp2_with fail
  have h0 := HT.out
  go_region_held3 (fun w' => held w (some a) l w') (first | exact held_drew (by assumption) | exact held_drewN (by assumption) _ | exact held_alloc (by assumption) _ | exact held_call (by assumption) (by assumption) | exact held_of HT.out (by assumption)) (first | (go_at_call 31; refine (I1.out _ (by assumption)).mono ?_; rintro e w1 ⟨v, rfl, hv, hb⟩; have hb0 : Below w.heap.size w w1 := (Below.refl _ w).drew.trans hb) | (go_at_call 26; refine (I2.out _ (by assumption)).mono ?_; rintro e w' ⟨rfl, q, hw⟩; subst w') | (have t1 := mine_next (w := w) hv (Nat.le_refl _) q (Obj.cells #[Value.int IntKind.u64 ↑X] 23); have t2 := below_next hb0 q (Obj.cells #[Value.int IntKind.u64 ↑X] 23); refine step_one _ (by rfl) _ _ (by rfl) w.heap.size v L (by rfl) t1 ⟨_, 0, none⟩ 1 X (by rfl) (new_one _ _ _ _) (by have := HLe.out; omega) t2.size ?_; intro g cap w3 hm3 hgrow; have hb3 : Below w.heap.size w w3 := mine_grown t1 t2 hgrow))
  go_wp2_with fail
  go_ret
  exact ⟨_, rfl, by rw [HR.out]; exact hm3, hb3⟩
set_option maxRecDepth 20000 in
set_option maxHeartbeats 4000000 in
theorem trail_right (n : Nat) (ih : TrailC n) (l : List ByteArray) (a : Addr) (i c : Nat) (w : World) (hl : l.length = n) (h2 : 2 ≤ n) (hn : n ≤ 256) (hc : n ≤ c) (hi : ¬ i < sp n) (hin : i < n) (ht : txt w (some a) l) (hs : tsm l) :
    Calls Try.prog 31 #[.slice (some a) n c, .int .i64 i] w fun e w' => ∃ v, e = .returned v ∧ mine w.heap.size w' v (tr pr (lvs l) i) ∧ Below w.heap.size w w' := by
  have hm1 := sp_pos n
  have hm2 := sp_lt h2
  have HR : Hid (tr pr (lvs l) i = tr pr (lvs (l.drop (sp n))) (i - sp n) ++ [rts (l.take (sp n))]) := by unfold Hid; rw [← hl]; exact trs_right l i (by omega) (by rw [hl]; exact hi)
  have HSP : Hid (∀ w : World, Calls Try.prog 33 #[.int .i64 n] w fun e w' => e = .returned (.int .i64 (sp n)) ∧ w' = w) := fun w => split_any n w h2 hn
  obtain ⟨m, hm⟩ : ∃ m, sp n = m := ⟨_, rfl⟩
  rw [hm] at hm1 hm2 HR HSP hi
  have HT : Hid (held w (some a) l w) := ⟨ht, Below.refl _ _⟩
  have HLe : Hid ((tr pr (lvs (l.drop m)) (i - m)).length ≤ 8) := trs_le _ _ (by rw [List.length_drop]; omega) (by rw [List.length_drop]; omega)
  have I1 : Hid (∀ w' : World, held w (some a) l w' → Calls Try.prog 31 #[.slice (some (a.add m)) (n - m) (c - m), .int .i64 (i - m : Nat)] w' fun e w'' => ∃ v, e = .returned v ∧ mine w'.heap.size w'' v (tr pr (lvs (l.drop m)) (i - m)) ∧ Below w'.heap.size w' w'') :=
    fun w' h => ih (l.drop m) (some (a.add m)) (i - m) (n - m) (c - m) w' (by rw [List.length_drop]; omega) (by omega) (by omega) (by omega) (by omega) (by omega) (txt_drop h.1 m) (tsm_drop hs m)
  have I2 : Hid (∀ w' : World, held w (some a) l w' → Calls Try.prog 26 #[.slice (some a) m c] w' fun e w'' => e = .returned (.int .u64 (rts (l.take m))) ∧ ∃ q, w'' = w'.drewN q) :=
    fun w' h => root_any (l.take m) (some a) m c w' (by rw [List.length_take]; omega) (by omega) (by omega) (txt_take h.1 m) (tsm_take hs m)
  clear hm hl ih ht hs
  obtain ⟨L, hL⟩ : ∃ L, tr pr (lvs (l.drop m)) (i - m) = L := ⟨_, rfl⟩
  rw [hL] at HR HLe I1
  obtain ⟨X, hX⟩ : ∃ X, rts (l.take m) = X := ⟨_, rfl⟩
  rw [hX] at HR I2
  clear hL hX
  have e1 : (m : Int) ≤ c := by omega
  have e2 : (m : Int) ≤ n := by omega
  have e3 : ¬ c = m := by omega
  have e4 : ¬ (i : Int) < m := by omega
  have e7 : IntKind.i64.wrap ((i : Int) - m) = ((i - m : Nat) : Int) := by rw [IntKind.wrap_i64]; omega
  have e5 : ¬ (n : Int) = 1 := by omega
  have e6 : (0 : Int) ≤ m := by omega
  go_enter Try.func31, Try.ntmps31
  go_wp2_with fail
  refine (HSP.out _).mono ?_
  rintro e w' ⟨rfl, hw⟩; subst w'
  go_wp2_with fail
  have h0 := HT.out
  go_region_held3 (fun w' => held w (some a) l w') (first | exact held_drew (by assumption) | exact held_drewN (by assumption) _ | exact held_alloc (by assumption) _ | exact held_call (by assumption) (by assumption) | exact held_of HT.out (by assumption)) (first | (go_at_call 31; refine (I1.out _ (by assumption)).mono ?_; rintro e w1 ⟨v, rfl, hv, hb⟩; have hb0 : Below w.heap.size w w1 := (Below.refl _ w).drew.trans hb) | (go_at_call 26; refine (I2.out _ (by assumption)).mono ?_; rintro e w' ⟨rfl, q, hw⟩; subst w') | (have t1 := mine_next (w := w) hv (Nat.le_refl _) q (Obj.cells #[Value.int IntKind.u64 ↑X] 23); have t2 := below_next hb0 q (Obj.cells #[Value.int IntKind.u64 ↑X] 23); refine step_one _ (by rfl) _ _ (by rfl) w.heap.size v L (by rfl) t1 ⟨_, 0, none⟩ 1 X (by rfl) (new_one _ _ _ _) (by have := HLe.out; omega) t2.size ?_; intro g cap w3 hm3 hgrow; have hb3 : Below w.heap.size w w3 := mine_grown t1 t2 hgrow))
  go_wp2_with fail
  go_ret
  exact ⟨_, rfl, by rw [HR.out]; exact hm3, hb3⟩

set_option maxRecDepth 20000 in
theorem trail_one (p : Option Addr) (i : Int) (c : Nat) (w : World) : Calls Try.prog 31 #[.slice p 1 c, .int .i64 i] w fun e w' => e = .returned (.slice none 0 0) ∧ w' = w := by
  go_enter Try.func31, Try.ntmps31
  go_wp2_with fail
  go_ret
  exact ⟨rfl, rfl⟩
theorem trail_all (n : Nat) : TrailC n := by
  induction n with
  | zero => intro l p i k c w _ h; omega
  | succ n ih =>
    intro l p i k c w hl hk h1 hn hc hi ht hs
    rcases Nat.lt_or_ge k n with h | h
    · exact ih l p i k c w hl h h1 hn hc hi ht hs
    · obtain rfl : k = n := by omega
      rcases Nat.lt_or_ge k 2 with h2 | h2
      · obtain rfl : k = 1 := by omega
        refine (trail_one p i c w).mono ?_
        rintro e w' ⟨rfl, hw⟩; subst w'
        refine ⟨_, rfl, ?_, Below.refl _ _⟩
        rw [tr_short pr (by rw [lvs_length]; omega)]
        exact World.ownsRow_nil _ _ _ _
      · obtain ⟨a, rfl⟩ := txt_some ht (by omega)
        by_cases hlt : i < sp k
        · exact trail_left k ih l a i c w hl h2 hn hc hlt ht hs
        · exact trail_right k ih l a i c w hl h2 hn hc hlt hi ht hs
theorem trail_any (l : List ByteArray) (p : Option Addr) (i k c : Nat) (w : World) (hl : l.length = k) (h1 : 1 ≤ k) (hn : k ≤ 256) (hc : k ≤ c) (hi : i < k) (ht : txt w p l) (hs : tsm l) :
  Calls Try.prog 31 #[.slice p k c, .int .i64 i] w fun e w' => ∃ v, e = .returned v ∧ mine w.heap.size w' v (tr pr (lvs l) i) ∧ Below w.heap.size w w' :=
  trail_all (k + 1) l p i k c w hl (by omega) h1 hn hc hi ht hs

set_option maxRecDepth 20000 in
theorem Trail_ok (l : List ByteArray) (p : Option Addr) (i k c : Nat) (w : World) (hl : l.length = k) (hn : k ≤ 256) (hc : k ≤ c) (hi : i < k) (ht : txt w p l) (hs : tsm l) :
  Calls Try.prog 17 #[.slice p k c, .int .i64 i] w fun e w' => ∃ v, e = .returned (.tuple #[v, .int .i64 0]) ∧ mine w.heap.size w' v (tr pr (lvs l) i) ∧ Below w.heap.size w w' := by
  have HT : Hid (Calls Try.prog 31 #[.slice p k c, .int .i64 i] w fun e w' => ∃ v, e = .returned v ∧ mine w.heap.size w' v (tr pr (lvs l) i) ∧ Below w.heap.size w w') := trail_any l p i k c w hl (by omega) hn hc hi ht hs
  have e1 : ¬ (256 : Int) < k := by omega
  have e2 : ¬ (i : Int) < 0 := by omega
  have e3 : ¬ (k : Int) ≤ i := by omega
  clear hl ht hs
  go_enter Try.func17, Try.ntmps17
  go_wp2_with fail
  refine HT.out.mono ?_
  rintro e w' ⟨v, rfl, hv, hb⟩
  go_wp2_with fail
  go_ret2
  exact ⟨v, rfl, hv, hb⟩
set_option maxRecDepth 20000 in
theorem Trail_large (p : Option Addr) (i : Int) (k c : Nat) (w : World) (hn : 256 < k) :
  Calls Try.prog 17 #[.slice p k c, .int .i64 i] w fun e w' => e = .returned (.tuple #[.slice none 0 0, .int .i64 2]) ∧ w' = w := by
  have e1 : (256 : Int) < k := by omega
  go_enter Try.func17, Try.ntmps17
  go_wp2_with fail
  go_ret2
  exact ⟨rfl, rfl⟩
set_option maxRecDepth 20000 in
theorem Trail_none (p : Option Addr) (i : Int) (k c : Nat) (w : World) (hn : k ≤ 256) (hi : ¬ (0 ≤ i ∧ i < k)) :
  Calls Try.prog 17 #[.slice p k c, .int .i64 i] w fun e w' => e = .returned (.tuple #[.slice none 0 0, .int .i64 7]) ∧ w' = w := by
  have e1 : ¬ (256 : Int) < k := by omega
  by_cases e2 : i < 0
  · clear hi
    go_enter Try.func17, Try.ntmps17
    go_wp2_with fail
    go_ret2
    exact ⟨rfl, rfl⟩
  · have e3 : (k : Int) ≤ i := by omega
    clear hi
    go_enter Try.func17, Try.ntmps17
    go_wp2_with fail
    go_ret2
    exact ⟨rfl, rfl⟩
end Go.Proofs.Yteedlbdjbffheaa
