/- What slices.Clone returns of orders, blows, goes and deeds: a row of one's own. -/
import Derived.Test.YtgebfpncapfaoaaOr
import Derived.Laws.AppendOwnNone
namespace Go.Proofs.Ytgebfpncapfaoaa
open Go.RowKit
set_option linter.unusedVariables false

/-- All that lies in the block of v is whole numbers. -/
def alli (w : World) (v : Value) : Prop := ∀ g, v.ownBlock = some g → ∃ cur e, w.heap[g]? = some (.cells cur e (0, 0)) ∧ ints cur.toList
theorem alli_nil (w : World) : alli w (.slice none 0 0) := fun g h => by simp [Value.ownBlock] at h
theorem alli_lt {w : World} {v : Value} (h : alli w v) : ∀ g, v.ownBlock = some g → g < w.heap.size := fun g hg => by
  obtain ⟨cur, e, hb, _⟩ := h g hg
  rcases Nat.lt_or_ge g w.heap.size with hlt | hge
  · exact hlt
  · rw [Array.getElem?_eq_none hge] at hb; cases hb
theorem alli_ex {S : Nat → Prop} {w w' : World} {v : Value} (h : alli w v) (he : Ex S w w') (hn : ∀ g, v.ownBlock = some g → ¬ S g) : alli w' v := fun g hg => by
  obtain ⟨cur, e, hb, hi⟩ := h g hg
  exact ⟨cur, e, by rw [he.block g (alli_lt h g hg) (hn g hg)]; exact hb, hi⟩
theorem alli_below {w w' : World} {v : Value} (h : alli w v) (hb : Below w.heap.size w w') : alli w' v := alli_ex h (Ex.of_below (S := fun _ => False) hb) (fun _ _ e => e)
theorem ints_zero {z : Array Value} (n : Nat) (hz : ints z.toList) (h0 : 0 < z.size) : ints (Builtin.zeroCells z n).toList := by
  intro u hu
  unfold Builtin.zeroCells at hu
  rw [Array.toList_map] at hu
  obtain ⟨i, _, rfl⟩ := List.mem_map.1 hu
  have hm : i % z.size < z.size := Nat.mod_lt _ h0
  rw [getElem!_pos z (i % z.size) hm]
  exact hz _ (by simp)
theorem run_clone {t ty e : TypeId} {i : TypeInfo} {z : Value} {size bytes : Nat} (ht : Try.prog.underlying t = some (.slice e)) (hi : Try.prog.info? e = some i) (hz : i.zero = some z)
    (hsize : i.size = size) (hby : i.bytes = bytes) (hzs : z.cells.size = size) (hsz : 0 < size) (hzi : ints z.cells.toList) (w : World) (a : Addr) (m c : Nat) (news : List Value) (hl : news.length = m * size)
    (hnews : ∀ j u, news[j]? = some u → w.cell? (a.add j) = some u) (hall : ints news) (hbytes : m * bytes ≤ 140737488355328) (h63 : m ≤ 9223372036854775807) :
    ∃ v' w', (Builtin.append_ #[t, t] ty #[.slice (some ⟨w.heap.size, 0, none⟩) 0 0, .slice (some a) m c]).run Try.prog (w.alloc (.cells #[] e)) = .ok v' w' ∧ w'.ownsRow w.heap.size e size v' m news ∧ alli w' v' ∧ Below w.heap.size w w' := by
  have hM : (w.alloc (.cells #[] e)).ownsRow w.heap.size e size (.slice (some ⟨w.heap.size, 0, none⟩) 0 0) 0 [] := World.ownsRow_made w #[] 0 (Nat.le_refl _) (Nat.zero_le _) (by simp)
  have hnews2 : ∀ j u, news[j]? = some u → (w.alloc (.cells #[] e)).cell? (a.add j) = some u := fun j u hj => ((alloc_below w _).cell (cell_lt (hnews j u hj))).trans (hnews j u hj)
  have h1 : ∀ u ∈ news, u.oneCell' = true := fun u hu => by obtain ⟨x, rfl⟩ := hall u hu; rfl
  obtain ⟨v', w', hrun, hown, hgr, _⟩ := run_append_own (P := Try.prog) (w.alloc (.cells #[] e)) w.heap.size t ty e i z size bytes ht hi hz hsize hby hzs hsz _ 0 [] hM a m c news hl hnews2 h1 (by unfold maxLen; omega) (by rw [Nat.zero_add]; exact hbytes) (by simp)
  simp only [Nat.zero_add, List.nil_append] at hown
  refine ⟨v', w', hrun, hown, ?_, (alloc_below w _).grown hgr (by simp) (by intro k hk; simp [Value.ownBlock] at hk; omega)⟩
  rcases Nat.eq_zero_or_pos m with h0 | h0
  · subst h0
    have hn : news = [] := List.eq_nil_of_length_eq_zero (by simpa using hl)
    subst hn
    have hb0 : (w.alloc (.cells #[] e)).heap[w.heap.size]? = some (.cells #[] e) := heap_alloc_new w _
    have hr := run_append_room (P := Try.prog) (w.alloc (.cells #[] e)) t ty e i ht hi w.heap.size 0 0 #[] hb0 a 0 c [] (by simp) (fun j u hj => by simp at hj) (fun u hu => by simp at hu) (by omega) (by simp)
    rw [hr] at hrun
    injection hrun with hv hw
    subst hv
    rcases hown.2 with ⟨hbad, _⟩ | ⟨g, cap, cur, hv, hB, hblk, hc, hm, hs, htk⟩
    · cases hbad
    · intro g' hg'
      simp only [Value.slice.injEq, Option.some.injEq, Addr.mk.injEq, and_true, true_and] at hv
      obtain ⟨rfl, rfl⟩ := hv
      simp [Value.ownBlock] at hg'
      subst hg'
      have hcz : cur = #[] := Array.eq_empty_of_size_eq_zero (by rw [hs]; omega)
      subst hcz
      exact ⟨_, _, hblk, fun u hu => by simp at hu⟩
  · subst hsize
    have hr := run_append_grow (P := Try.prog) (w.alloc (.cells #[] e)) t ty e i z ht hi hz ⟨w.heap.size, 0, none⟩ 0 0 [] (by simp) (fun j u hj => by simp at hj) a m c news hl hnews2 (by omega) (by omega) (by subst hby; exact growslice_fits (by omega) (by rw [Nat.zero_add]; exact hbytes))
    rw [hr] at hrun
    injection hrun with hv hw
    subst hv
    subst hw
    intro g hg
    have hg' : (w.alloc (.cells #[] e)).heap.size = g := by simpa only [Value.ownBlock, Option.some.injEq] using hg
    rw [← hg']
    refine ⟨_, _, heap_alloc_new (w.alloc (.cells #[] e)).drew _, ?_⟩
    intro u hu
    rw [Array.toList_append, List.mem_append] at hu
    rcases hu with hu | hu
    · rw [Array.toList_append, List.mem_append] at hu
      rcases hu with hu | hu
      · simp at hu
      · exact hall u (by simpa using hu)
    · exact ints_zero _ hzi (by omega) u hu

set_option maxRecDepth 20000 in
set_option maxHeartbeats 1000000 in
theorem Cloneo_any (p : Option Addr) (n c : Nat) (l : List Ord) (w : World) (h : rowf to6 w p l) (hn : l.length = n) (hb : n * 48 ≤ 140737488355328) :
    Calls Try.prog 27 #[.slice p n c] w fun e w' => (∃ v, e = .returned v ∧ minef 25 6 to6 w.heap.size w' v l) ∧ Below w.heap.size w w' := by
  have q25 : ∀ (w : World) (a : Option Addr) (n c n' c' : Nat), (binOp .eql 26 (.slice a n c) (.slice none n' c')).run Try.prog w = .ok (.bool a.isNone) w := fun w a n c n' c' => Lib.run_eql_slice_nil w _ _ a n c n' c' Try.underlying26
  cases p with
  | none =>
    have h0 := rowf_none flt6 h
    subst h0
    have h0 : n = 0 := hn.symm
    subst h0
    clear h hn hb
    go_enter Try.func27, Try.ntmps27
    go_wp2_with fail
    go_ret
    exact ⟨⟨_, rfl, minef_nil _ _ _ _ _⟩, Below.refl _ _⟩
  | some a =>
    obtain ⟨i0, hi, hz0, hz1, hz2⟩ := info_parts k6.hi
    obtain ⟨v', w', h1, h2, h3, h4⟩ := run_clone (t := 26) (ty := 26) Try.underlying26 hi hz0 hz1 hz2 rfl (by decide) k6.hzi w a n c (fl to6 l) (by rw [fl_len flt6, hn]) (fun j u hj => by obtain ⟨b, hb, hc⟩ := h j u hj; cases hb; exact hc) (fl_ints flt6 l) hb (by omega)
    have HO : Hid (minef 25 6 to6 w.heap.size w' v' l) := by unfold Hid minef; rw [hn]; exact h2
    have HB : Hid (Below w.heap.size w w') := h4
    have HRun : Hid ((Builtin.append_ #[26, 26] 26 #[.slice (some ⟨w.heap.size, 0, none⟩) 0 0, .slice (some a) n c]).run Try.prog (w.alloc (.cells #[] 25)) = .ok v' w') := h1
    clear h hn hb h1 h2 h3 h4 hi hz0 hz1 hz2
    go_enter Try.func27, Try.ntmps27
    go_wp2_with (at_builtin; refine wpList_append_run rfl _ _ 26 rfl (.slice (some ⟨w.heap.size, 0, none⟩) 0 0) (.slice (some a) n c) rfl rfl HRun.out ?_)
    go_wp2_with fail
    go_ret
    exact ⟨⟨_, rfl, HO.out⟩, HB.out⟩
set_option maxRecDepth 20000 in
set_option maxHeartbeats 1000000 in
theorem Cloneb_any (p : Option Addr) (n c : Nat) (l : List Blw) (w : World) (h : rowf to2 w p l) (hn : l.length = n) (hb : n * 16 ≤ 140737488355328) :
    Calls Try.prog 31 #[.slice p n c] w fun e w' => (∃ v, e = .returned v ∧ minef 51 2 to2 w.heap.size w' v l) ∧ Below w.heap.size w w' := by
  have q25 : ∀ (w : World) (a : Option Addr) (n c n' c' : Nat), (binOp .eql 42 (.slice a n c) (.slice none n' c')).run Try.prog w = .ok (.bool a.isNone) w := fun w a n c n' c' => Lib.run_eql_slice_nil w _ _ a n c n' c' Try.underlying42
  cases p with
  | none =>
    have h0 := rowf_none flt2 h
    subst h0
    have h0 : n = 0 := hn.symm
    subst h0
    clear h hn hb
    go_enter Try.func31, Try.ntmps31
    go_wp2_with fail
    go_ret
    exact ⟨⟨_, rfl, minef_nil _ _ _ _ _⟩, Below.refl _ _⟩
  | some a =>
    obtain ⟨i0, hi, hz0, hz1, hz2⟩ := info_parts k2.hi
    obtain ⟨v', w', h1, h2, h3, h4⟩ := run_clone (t := 42) (ty := 42) Try.underlying42 hi hz0 hz1 hz2 rfl (by decide) k2.hzi w a n c (fl to2 l) (by rw [fl_len flt2, hn]) (fun j u hj => by obtain ⟨b, hb, hc⟩ := h j u hj; cases hb; exact hc) (fl_ints flt2 l) hb (by omega)
    have HO : Hid (minef 51 2 to2 w.heap.size w' v' l) := by unfold Hid minef; rw [hn]; exact h2
    have HB : Hid (Below w.heap.size w w') := h4
    have HRun : Hid ((Builtin.append_ #[42, 42] 42 #[.slice (some ⟨w.heap.size, 0, none⟩) 0 0, .slice (some a) n c]).run Try.prog (w.alloc (.cells #[] 51)) = .ok v' w') := h1
    clear h hn hb h1 h2 h3 h4 hi hz0 hz1 hz2
    go_enter Try.func31, Try.ntmps31
    go_wp2_with (at_builtin; refine wpList_append_run rfl _ _ 42 rfl (.slice (some ⟨w.heap.size, 0, none⟩) 0 0) (.slice (some a) n c) rfl rfl HRun.out ?_)
    go_wp2_with fail
    go_ret
    exact ⟨⟨_, rfl, HO.out⟩, HB.out⟩
set_option maxRecDepth 20000 in
set_option maxHeartbeats 1000000 in
theorem Cloneg_any (p : Option Addr) (n c : Nat) (l : List Goe) (w : World) (h : rowf to3 w p l) (hn : l.length = n) (hb : n * 24 ≤ 140737488355328) :
    Calls Try.prog 32 #[.slice p n c] w fun e w' => (∃ v, e = .returned v ∧ minef 55 3 to3 w.heap.size w' v l) ∧ Below w.heap.size w w' := by
  have q25 : ∀ (w : World) (a : Option Addr) (n c n' c' : Nat), (binOp .eql 43 (.slice a n c) (.slice none n' c')).run Try.prog w = .ok (.bool a.isNone) w := fun w a n c n' c' => Lib.run_eql_slice_nil w _ _ a n c n' c' Try.underlying43
  cases p with
  | none =>
    have h0 := rowf_none flt3 h
    subst h0
    have h0 : n = 0 := hn.symm
    subst h0
    clear h hn hb
    go_enter Try.func32, Try.ntmps32
    go_wp2_with fail
    go_ret
    exact ⟨⟨_, rfl, minef_nil _ _ _ _ _⟩, Below.refl _ _⟩
  | some a =>
    obtain ⟨i0, hi, hz0, hz1, hz2⟩ := info_parts k3.hi
    obtain ⟨v', w', h1, h2, h3, h4⟩ := run_clone (t := 43) (ty := 43) Try.underlying43 hi hz0 hz1 hz2 rfl (by decide) k3.hzi w a n c (fl to3 l) (by rw [fl_len flt3, hn]) (fun j u hj => by obtain ⟨b, hb, hc⟩ := h j u hj; cases hb; exact hc) (fl_ints flt3 l) hb (by omega)
    have HO : Hid (minef 55 3 to3 w.heap.size w' v' l) := by unfold Hid minef; rw [hn]; exact h2
    have HB : Hid (Below w.heap.size w w') := h4
    have HRun : Hid ((Builtin.append_ #[43, 43] 43 #[.slice (some ⟨w.heap.size, 0, none⟩) 0 0, .slice (some a) n c]).run Try.prog (w.alloc (.cells #[] 55)) = .ok v' w') := h1
    clear h hn hb h1 h2 h3 h4 hi hz0 hz1 hz2
    go_enter Try.func32, Try.ntmps32
    go_wp2_with (at_builtin; refine wpList_append_run rfl _ _ 43 rfl (.slice (some ⟨w.heap.size, 0, none⟩) 0 0) (.slice (some a) n c) rfl rfl HRun.out ?_)
    go_wp2_with fail
    go_ret
    exact ⟨⟨_, rfl, HO.out⟩, HB.out⟩
set_option maxRecDepth 20000 in
set_option maxHeartbeats 1000000 in
theorem Cloned_any (p : Option Addr) (n c : Nat) (l : List Ded) (w : World) (h : rowf to5 w p l) (hn : l.length = n) (hb : n * 40 ≤ 140737488355328) :
    Calls Try.prog 33 #[.slice p n c] w fun e w' => (∃ v, e = .returned v ∧ minef 59 5 to5 w.heap.size w' v l) ∧ Below w.heap.size w w' := by
  have q25 : ∀ (w : World) (a : Option Addr) (n c n' c' : Nat), (binOp .eql 44 (.slice a n c) (.slice none n' c')).run Try.prog w = .ok (.bool a.isNone) w := fun w a n c n' c' => Lib.run_eql_slice_nil w _ _ a n c n' c' Try.underlying44
  cases p with
  | none =>
    have h0 := rowf_none flt5 h
    subst h0
    have h0 : n = 0 := hn.symm
    subst h0
    clear h hn hb
    go_enter Try.func33, Try.ntmps33
    go_wp2_with fail
    go_ret
    exact ⟨⟨_, rfl, minef_nil _ _ _ _ _⟩, Below.refl _ _⟩
  | some a =>
    obtain ⟨i0, hi, hz0, hz1, hz2⟩ := info_parts k5.hi
    obtain ⟨v', w', h1, h2, h3, h4⟩ := run_clone (t := 44) (ty := 44) Try.underlying44 hi hz0 hz1 hz2 rfl (by decide) k5.hzi w a n c (fl to5 l) (by rw [fl_len flt5, hn]) (fun j u hj => by obtain ⟨b, hb, hc⟩ := h j u hj; cases hb; exact hc) (fl_ints flt5 l) hb (by omega)
    have HO : Hid (minef 59 5 to5 w.heap.size w' v' l) := by unfold Hid minef; rw [hn]; exact h2
    have HB : Hid (Below w.heap.size w w') := h4
    have HRun : Hid ((Builtin.append_ #[44, 44] 44 #[.slice (some ⟨w.heap.size, 0, none⟩) 0 0, .slice (some a) n c]).run Try.prog (w.alloc (.cells #[] 59)) = .ok v' w') := h1
    clear h hn hb h1 h2 h3 h4 hi hz0 hz1 hz2
    go_enter Try.func33, Try.ntmps33
    go_wp2_with (at_builtin; refine wpList_append_run rfl _ _ 44 rfl (.slice (some ⟨w.heap.size, 0, none⟩) 0 0) (.slice (some a) n c) rfl rfl HRun.out ?_)
    go_wp2_with fail
    go_ret
    exact ⟨⟨_, rfl, HO.out⟩, HB.out⟩
end Go.Proofs.Ytgebfpncapfaoaa
