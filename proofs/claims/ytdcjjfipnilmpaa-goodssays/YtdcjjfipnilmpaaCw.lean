/- What slices.Clone returns: a row of one's own, all of whose room holds whole numbers. -/
import Derived.Test.YtdcjjfipnilmpaaGm
import Derived.Test.YtdcjjfipnilmpaaEx
import Derived.Laws.AppendOwnNone
namespace Go.Proofs.Ytdcjjfipnilmpaa
open Go.RowKit
set_option linter.unusedVariables false

/-- Whole numbers. -/
def ints (l : List Value) : Prop := ∀ u ∈ l, ∃ x : Int, u = .int .i64 x
/-- All that lies in the block of v is whole numbers. -/
def alli (w : World) (v : Value) : Prop := ∀ g, v.ownBlock = some g → ∃ cur e, w.heap[g]? = some (.cells cur e (0, 0)) ∧ ints cur.toList
theorem alli_nil (w : World) : alli w (.slice none 0 0) := fun g h => by simp [Value.ownBlock] at h
theorem alli_lt {w : World} {v : Value} (h : alli w v) : ∀ g, v.ownBlock = some g → g < w.heap.size := fun g hg => by
  obtain ⟨cur, e, hb, _⟩ := h g hg
  rcases Nat.lt_or_ge g w.heap.size with hlt | hge
  · exact hlt
  · rw [Array.getElem?_eq_none hge] at hb; cases hb
theorem alli_ex {S : Nat → Prop} {w w' : World} {v : Value} (h : alli w v) (he : Ex S w w') (hn : ∀ g, v.ownBlock = some g → ¬ S g) : alli w' v := fun g hg => by
  obtain ⟨cur, e, hb, hi⟩ := h g hg
  exact ⟨cur, e, by rw [he.block g (alli_lt h g hg) (hn g hg)]; exact hb, hi⟩
theorem alli_below {w w' : World} {v : Value} (h : alli w v) (hb : Below w.heap.size w w') : alli w' v := alli_ex h (Ex.of_below (S := fun _ => False) hb) (fun _ _ e => e)
theorem ints_zero {z : Array Value} (n : Nat) (hz : ints z.toList) (h0 : 0 < z.size) : ints (Builtin.zeroCells z n).toList := by
  intro u hu
  unfold Builtin.zeroCells at hu
  rw [Array.toList_map] at hu
  obtain ⟨i, _, rfl⟩ := List.mem_map.1 hu
  have hm : i % z.size < z.size := Nat.mod_lt _ h0
  rw [getElem!_pos z (i % z.size) hm]
  exact hz _ (by simp)
theorem run_clone {t ty e : TypeId} {i : TypeInfo} {z : Value} {size bytes : Nat} (ht : Try.prog.underlying t = some (.slice e)) (hi : Try.prog.info? e = some i) (hz : i.zero = some z)
    (hsize : i.size = size) (hby : i.bytes = bytes) (hzs : z.cells.size = size) (hsz : 0 < size) (hzi : ints z.cells.toList) (w : World) (a : Addr) (m c : Nat) (news : List Value) (hl : news.length = m * size)
    (hnews : ∀ j u, news[j]? = some u → w.cell? (a.add j) = some u) (hall : ints news) (hbytes : m * bytes ≤ 140737488355328) (h63 : m ≤ 9223372036854775807) :
    ∃ v' w', (Builtin.append_ #[t, t] ty #[.slice (some ⟨w.heap.size, 0, none⟩) 0 0, .slice (some a) m c]).run Try.prog (w.alloc (.cells #[] e)) = .ok v' w' ∧ w'.ownsRow w.heap.size e size v' m news ∧ alli w' v' ∧ Below w.heap.size w w' := by
  have hM : (w.alloc (.cells #[] e)).ownsRow w.heap.size e size (.slice (some ⟨w.heap.size, 0, none⟩) 0 0) 0 [] := World.ownsRow_made w #[] 0 (Nat.le_refl _) (Nat.zero_le _) (by simp)
  have hnews2 : ∀ j u, news[j]? = some u → (w.alloc (.cells #[] e)).cell? (a.add j) = some u := fun j u hj => ((alloc_below w _).cell (cell_lt (hnews j u hj))).trans (hnews j u hj)
  have h1 : ∀ u ∈ news, u.oneCell' = true := fun u hu => by obtain ⟨x, rfl⟩ := hall u hu; rfl
  obtain ⟨v', w', hrun, hown, hgr, _⟩ := run_append_own (P := Try.prog) (w.alloc (.cells #[] e)) w.heap.size t ty e i z size bytes ht hi hz hsize hby hzs hsz _ 0 [] hM a m c news hl hnews2 h1 (by unfold maxLen; omega) (by rw [Nat.zero_add]; exact hbytes) (by simp)
  simp only [Nat.zero_add, List.nil_append] at hown
  refine ⟨v', w', hrun, hown, ?_, (alloc_below w _).grown hgr (by simp) (by intro k hk; simp [Value.ownBlock] at hk; omega)⟩
  rcases Nat.eq_zero_or_pos m with h0 | h0
  · subst h0
    have hn : news = [] := List.eq_nil_of_length_eq_zero (by simpa using hl)
    subst hn
    have hb0 : (w.alloc (.cells #[] e)).heap[w.heap.size]? = some (.cells #[] e) := heap_alloc_new w _
    have hr := run_append_room (P := Try.prog) (w.alloc (.cells #[] e)) t ty e i ht hi w.heap.size 0 0 #[] hb0 a 0 c [] (by simp) (fun j u hj => by simp at hj) (fun u hu => by simp at hu) (by omega) (by simp)
    rw [hr] at hrun
    injection hrun with hv hw
    subst hv
    rcases hown.2 with ⟨hbad, _⟩ | ⟨g, cap, cur, hv, hB, hblk, hc, hm, hs, htk⟩
    · cases hbad
    · intro g' hg'
      simp only [Value.slice.injEq, Option.some.injEq, Addr.mk.injEq, and_true, true_and] at hv
      obtain ⟨rfl, rfl⟩ := hv
      simp [Value.ownBlock] at hg'
      subst hg'
      have hcz : cur = #[] := Array.eq_empty_of_size_eq_zero (by rw [hs]; omega)
      subst hcz
      exact ⟨_, _, hblk, fun u hu => by simp at hu⟩
  · subst hsize
    have hr := run_append_grow (P := Try.prog) (w.alloc (.cells #[] e)) t ty e i z ht hi hz ⟨w.heap.size, 0, none⟩ 0 0 [] (by simp) (fun j u hj => by simp at hj) a m c news hl hnews2 (by omega) (by omega) (by subst hby; exact growslice_fits (by omega) (by rw [Nat.zero_add]; exact hbytes))
    rw [hr] at hrun
    injection hrun with hv hw
    subst hv
    subst hw
    intro g hg
    have hg' : (w.alloc (.cells #[] e)).heap.size = g := by simpa only [Value.ownBlock, Option.some.injEq] using hg
    rw [← hg']
    refine ⟨_, _, heap_alloc_new (w.alloc (.cells #[] e)).drew _, ?_⟩
    intro u hu
    rw [Array.toList_append, List.mem_append] at hu
    rcases hu with hu | hu
    · rw [Array.toList_append, List.mem_append] at hu
      rcases hu with hu | hu
      · simp at hu
      · exact hall u (by simpa using hu)
    · exact ints_zero _ hzi (by omega) u hu

theorem kini : (Try.prog.info? 3).map (fun i => (i.zero, i.size, i.bytes)) = some (some (.int .i64 0), 1, 8) := by kernel_rfl
set_option maxRecDepth 20000 in
set_option maxHeartbeats 1000000 in
theorem Clonei_raw (p : Option Addr) (n c : Nat) (xs : List Value) (w : World) (h : row id w p xs) (hl : xs.length = n * 1) (hx : ints xs) (hb : n * 8 ≤ 140737488355328) :
    Calls Try.prog 24 #[.slice p n c] w fun e w' => (∃ v, e = .returned v ∧ w'.ownsRow w.heap.size 3 1 v n xs ∧ alli w' v) ∧ Below w.heap.size w w' := by
  have q25 : ∀ (w : World) (a : Option Addr) (n c n' c' : Nat), (binOp .eql 22 (.slice a n c) (.slice none n' c')).run Try.prog w = .ok (.bool a.isNone) w := fun w a n c n' c' => Lib.run_eql_slice_nil w _ _ a n c n' c' Try.underlying22
  cases p with
  | none =>
    have h0 : n = 0 := by
      rcases Nat.eq_zero_or_pos n with h0 | h0
      · exact h0
      · obtain ⟨a, ha⟩ := row_some h (by rw [hl]; omega)
        cases ha
    subst h0
    have hx0 : xs = [] := List.eq_nil_of_length_eq_zero (by simpa using hl)
    subst hx0
    clear h hl hx hb
    go_enter Try.func24, Try.ntmps24
    go_wp2_with fail
    go_ret
    exact ⟨⟨_, rfl, World.ownsRow_nil _ _ _ _, alli_nil _⟩, Below.refl _ _⟩
  | some a =>
    obtain ⟨i0, hi, hz0, hz1, hz2⟩ := info_parts kini
    obtain ⟨v', w', h1, h2, h3, h4⟩ := run_clone (t := 22) (ty := 22) Try.underlying22 hi hz0 hz1 hz2 rfl (by decide) (fun u hu => by simp [Value.cells] at hu; exact ⟨0, hu⟩) w a n c xs hl (fun j u hj => by obtain ⟨b, hb, hc⟩ := h j u hj; cases hb; exact hc) hx hb (by omega)
    have HO : Hid (w'.ownsRow w.heap.size 3 1 v' n xs) := h2
    have HA : Hid (alli w' v') := h3
    have HB : Hid (Below w.heap.size w w') := h4
    have HRun : Hid ((Builtin.append_ #[22, 22] 22 #[.slice (some ⟨w.heap.size, 0, none⟩) 0 0, .slice (some a) n c]).run Try.prog (w.alloc (.cells #[] 3)) = .ok v' w') := h1
    clear h hl hx hb h1 h2 h3 h4 hi hz0 hz1 hz2
    go_enter Try.func24, Try.ntmps24
    go_wp2_with (at_builtin; refine wpList_append_run rfl _ _ 22 rfl (.slice (some ⟨w.heap.size, 0, none⟩) 0 0) (.slice (some a) n c) rfl rfl HRun.out ?_)
    go_wp2_with fail
    go_ret
    exact ⟨⟨_, rfl, HO.out, HA.out⟩, HB.out⟩

theorem kinc : (Try.prog.info? 45).map (fun i => (i.zero, i.size, i.bytes)) = some (some (.agg #[.int .i64 0, .int .i64 0]), 2, 16) := by kernel_rfl
set_option maxRecDepth 20000 in
set_option maxHeartbeats 1000000 in
theorem Clonec_raw (p : Option Addr) (n c : Nat) (xs : List Value) (w : World) (h : row id w p xs) (hl : xs.length = n * 2) (hx : ints xs) (hb : n * 16 ≤ 140737488355328) :
    Calls Try.prog 25 #[.slice p n c] w fun e w' => (∃ v, e = .returned v ∧ w'.ownsRow w.heap.size 45 2 v n xs ∧ alli w' v) ∧ Below w.heap.size w w' := by
  have q25 : ∀ (w : World) (a : Option Addr) (n c n' c' : Nat), (binOp .eql 25 (.slice a n c) (.slice none n' c')).run Try.prog w = .ok (.bool a.isNone) w := fun w a n c n' c' => Lib.run_eql_slice_nil w _ _ a n c n' c' Try.underlying25
  cases p with
  | none =>
    have h0 : n = 0 := by
      rcases Nat.eq_zero_or_pos n with h0 | h0
      · exact h0
      · obtain ⟨a, ha⟩ := row_some h (by rw [hl]; omega)
        cases ha
    subst h0
    have hx0 : xs = [] := List.eq_nil_of_length_eq_zero (by simpa using hl)
    subst hx0
    clear h hl hx hb
    go_enter Try.func25, Try.ntmps25
    go_wp2_with fail
    go_ret
    exact ⟨⟨_, rfl, World.ownsRow_nil _ _ _ _, alli_nil _⟩, Below.refl _ _⟩
  | some a =>
    obtain ⟨i0, hi, hz0, hz1, hz2⟩ := info_parts kinc
    obtain ⟨v', w', h1, h2, h3, h4⟩ := run_clone (t := 25) (ty := 25) Try.underlying25 hi hz0 hz1 hz2 rfl (by decide) (fun u hu => by simp [Value.cells] at hu; exact ⟨0, hu⟩) w a n c xs hl (fun j u hj => by obtain ⟨b, hb, hc⟩ := h j u hj; cases hb; exact hc) hx hb (by omega)
    have HO : Hid (w'.ownsRow w.heap.size 45 2 v' n xs) := h2
    have HA : Hid (alli w' v') := h3
    have HB : Hid (Below w.heap.size w w') := h4
    have HRun : Hid ((Builtin.append_ #[25, 25] 25 #[.slice (some ⟨w.heap.size, 0, none⟩) 0 0, .slice (some a) n c]).run Try.prog (w.alloc (.cells #[] 45)) = .ok v' w') := h1
    clear h hl hx hb h1 h2 h3 h4 hi hz0 hz1 hz2
    go_enter Try.func25, Try.ntmps25
    go_wp2_with (at_builtin; refine wpList_append_run rfl _ _ 25 rfl (.slice (some ⟨w.heap.size, 0, none⟩) 0 0) (.slice (some a) n c) rfl rfl HRun.out ?_)
    go_wp2_with fail
    go_ret
    exact ⟨⟨_, rfl, HO.out, HA.out⟩, HB.out⟩

theorem kint : (Try.prog.info? 47).map (fun i => (i.zero, i.size, i.bytes)) = some (some (.agg #[.int .i64 0, .int .i64 0, .int .i64 0, .int .i64 0, .int .i64 0, .int .i64 0, .int .i64 0]), 7, 56) := by kernel_rfl
set_option maxRecDepth 20000 in
set_option maxHeartbeats 1000000 in
theorem Clonet_raw (p : Option Addr) (n c : Nat) (xs : List Value) (w : World) (h : row id w p xs) (hl : xs.length = n * 7) (hx : ints xs) (hb : n * 56 ≤ 140737488355328) :
    Calls Try.prog 23 #[.slice p n c] w fun e w' => (∃ v, e = .returned v ∧ w'.ownsRow w.heap.size 47 7 v n xs ∧ alli w' v) ∧ Below w.heap.size w w' := by
  have q25 : ∀ (w : World) (a : Option Addr) (n c n' c' : Nat), (binOp .eql 26 (.slice a n c) (.slice none n' c')).run Try.prog w = .ok (.bool a.isNone) w := fun w a n c n' c' => Lib.run_eql_slice_nil w _ _ a n c n' c' Try.underlying26
  cases p with
  | none =>
    have h0 : n = 0 := by
      rcases Nat.eq_zero_or_pos n with h0 | h0
      · exact h0
      · obtain ⟨a, ha⟩ := row_some h (by rw [hl]; omega)
        cases ha
    subst h0
    have hx0 : xs = [] := List.eq_nil_of_length_eq_zero (by simpa using hl)
    subst hx0
    clear h hl hx hb
    go_enter Try.func23, Try.ntmps23
    go_wp2_with fail
    go_ret
    exact ⟨⟨_, rfl, World.ownsRow_nil _ _ _ _, alli_nil _⟩, Below.refl _ _⟩
  | some a =>
    obtain ⟨i0, hi, hz0, hz1, hz2⟩ := info_parts kint
    obtain ⟨v', w', h1, h2, h3, h4⟩ := run_clone (t := 26) (ty := 26) Try.underlying26 hi hz0 hz1 hz2 rfl (by decide) (fun u hu => by simp [Value.cells] at hu; exact ⟨0, hu⟩) w a n c xs hl (fun j u hj => by obtain ⟨b, hb, hc⟩ := h j u hj; cases hb; exact hc) hx hb (by omega)
    have HO : Hid (w'.ownsRow w.heap.size 47 7 v' n xs) := h2
    have HA : Hid (alli w' v') := h3
    have HB : Hid (Below w.heap.size w w') := h4
    have HRun : Hid ((Builtin.append_ #[26, 26] 26 #[.slice (some ⟨w.heap.size, 0, none⟩) 0 0, .slice (some a) n c]).run Try.prog (w.alloc (.cells #[] 47)) = .ok v' w') := h1
    clear h hl hx hb h1 h2 h3 h4 hi hz0 hz1 hz2
    go_enter Try.func23, Try.ntmps23
    go_wp2_with (at_builtin; refine wpList_append_run rfl _ _ 26 rfl (.slice (some ⟨w.heap.size, 0, none⟩) 0 0) (.slice (some a) n c) rfl rfl HRun.out ?_)
    go_wp2_with fail
    go_ret
    exact ⟨⟨_, rfl, HO.out, HA.out⟩, HB.out⟩

theorem kind_ : (Try.prog.info? 52).map (fun i => (i.zero, i.size, i.bytes)) = some (some (.agg #[.int .i64 0, .int .i64 0, .int .i64 0, .int .i64 0, .int .i64 0]), 5, 40) := by kernel_rfl
set_option maxRecDepth 20000 in
set_option maxHeartbeats 1000000 in
theorem Cloned_raw (p : Option Addr) (n c : Nat) (xs : List Value) (w : World) (h : row id w p xs) (hl : xs.length = n * 5) (hx : ints xs) (hb : n * 40 ≤ 140737488355328) :
    Calls Try.prog 20 #[.slice p n c] w fun e w' => (∃ v, e = .returned v ∧ w'.ownsRow w.heap.size 52 5 v n xs ∧ alli w' v) ∧ Below w.heap.size w w' := by
  have q25 : ∀ (w : World) (a : Option Addr) (n c n' c' : Nat), (binOp .eql 29 (.slice a n c) (.slice none n' c')).run Try.prog w = .ok (.bool a.isNone) w := fun w a n c n' c' => Lib.run_eql_slice_nil w _ _ a n c n' c' Try.underlying29
  cases p with
  | none =>
    have h0 : n = 0 := by
      rcases Nat.eq_zero_or_pos n with h0 | h0
      · exact h0
      · obtain ⟨a, ha⟩ := row_some h (by rw [hl]; omega)
        cases ha
    subst h0
    have hx0 : xs = [] := List.eq_nil_of_length_eq_zero (by simpa using hl)
    subst hx0
    clear h hl hx hb
    go_enter Try.func20, Try.ntmps20
    go_wp2_with fail
    go_ret
    exact ⟨⟨_, rfl, World.ownsRow_nil _ _ _ _, alli_nil _⟩, Below.refl _ _⟩
  | some a =>
    obtain ⟨i0, hi, hz0, hz1, hz2⟩ := info_parts kind_
    obtain ⟨v', w', h1, h2, h3, h4⟩ := run_clone (t := 29) (ty := 29) Try.underlying29 hi hz0 hz1 hz2 rfl (by decide) (fun u hu => by simp [Value.cells] at hu; exact ⟨0, hu⟩) w a n c xs hl (fun j u hj => by obtain ⟨b, hb, hc⟩ := h j u hj; cases hb; exact hc) hx hb (by omega)
    have HO : Hid (w'.ownsRow w.heap.size 52 5 v' n xs) := h2
    have HA : Hid (alli w' v') := h3
    have HB : Hid (Below w.heap.size w w') := h4
    have HRun : Hid ((Builtin.append_ #[29, 29] 29 #[.slice (some ⟨w.heap.size, 0, none⟩) 0 0, .slice (some a) n c]).run Try.prog (w.alloc (.cells #[] 52)) = .ok v' w') := h1
    clear h hl hx hb h1 h2 h3 h4 hi hz0 hz1 hz2
    go_enter Try.func20, Try.ntmps20
    go_wp2_with (at_builtin; refine wpList_append_run rfl _ _ 29 rfl (.slice (some ⟨w.heap.size, 0, none⟩) 0 0) (.slice (some a) n c) rfl rfl HRun.out ?_)
    go_wp2_with fail
    go_ret
    exact ⟨⟨_, rfl, HO.out, HA.out⟩, HB.out⟩

theorem row_map {w : World} {p : Option Addr} {l : List Int} (h : row vi w p l) : row id w p (l.map vi) := fun j u hj => by
  rw [List.getElem?_map] at hj
  cases hl : l[j]? with
  | none => rw [hl] at hj; cases hj
  | some x => rw [hl] at hj; simp at hj; subst hj; exact h j x hl
theorem ints_map (l : List Int) : ints (l.map vi) := fun u hu => by obtain ⟨x, _, rfl⟩ := List.mem_map.1 hu; exact ⟨x, rfl⟩
theorem ints_flat7 (ts : List Trp) : ints (flat7 ts) := fun u hu => by
  unfold flat7 at hu
  obtain ⟨c, _, h⟩ := List.mem_flatMap.1 hu
  simp [tl7] at h
  rcases h with rfl | rfl | rfl | rfl | rfl | rfl | rfl <;> exact ⟨_, rfl⟩
theorem ints_flat2 (cs : List Cel) : ints (flat2 cs) := fun u hu => by
  unfold flat2 at hu
  obtain ⟨c, _, h⟩ := List.mem_flatMap.1 hu
  simp [cl2] at h
  rcases h with rfl | rfl <;> exact ⟨_, rfl⟩
theorem crow_raw {w : World} {p : Option Addr} {cs : List Cel} (h : crow w p cs) : row id w p (flat2 cs) := by
  cases cs with
  | nil => exact row_nil _ _ _
  | cons c cs =>
    obtain ⟨a, rfl, _⟩ := h 0 c rfl
    exact fun j u hj => ⟨a, rfl, flat2_in h j u hj⟩
theorem Clonei_any (p : Option Addr) (n c : Nat) (l : List Int) (w : World) (h : row vi w p l) (hn : l.length = n) (hb : n * 8 ≤ 140737488355328) :
    Calls Try.prog 24 #[.slice p n c] w fun e w' => (∃ v, e = .returned v ∧ mine 3 vi w.heap.size w' v l ∧ alli w' v) ∧ Below w.heap.size w w' := by
  subst hn
  exact Clonei_raw p l.length c (l.map vi) w (row_map h) (by simp) (ints_map l) hb
theorem Clonec_any (p : Option Addr) (n c : Nat) (l : List Cel) (w : World) (h : crow w p l) (hn : l.length = n) (hb : n * 16 ≤ 140737488355328) :
    Calls Try.prog 25 #[.slice p n c] w fun e w' => (∃ v, e = .returned v ∧ minec w.heap.size w' v l ∧ alli w' v) ∧ Below w.heap.size w w' := by
  subst hn
  exact Clonec_raw p l.length c (flat2 l) w (crow_raw h) (flat2_len l) (ints_flat2 l) hb
/-- v is a row of troops of one's own, or nil; and one of blows. -/
def minet (B : Nat) (w : World) (v : Value) (Q : List Trp) : Prop := w.ownsRow B 47 7 v Q.length (flat7 Q)
theorem Clonet_any (p : Option Addr) (n c : Nat) (l : List Trp) (w : World) (h : trow w p l) (hn : l.length = n) (hb : n * 56 ≤ 140737488355328) :
    Calls Try.prog 23 #[.slice p n c] w fun e w' => (∃ v, e = .returned v ∧ minet w.heap.size w' v l ∧ alli w' v) ∧ Below w.heap.size w w' := by
  subst hn
  exact Clonet_raw p l.length c (flat7 l) w h (flat7_len l) (ints_flat7 l) hb
theorem ints_flatd (ts : List Ded) : ints (flatd ts) := fun u hu => by
  unfold flatd at hu
  obtain ⟨c, _, h⟩ := List.mem_flatMap.1 hu
  simp [tl5] at h
  rcases h with rfl | rfl | rfl | rfl | rfl <;> exact ⟨_, rfl⟩
theorem Cloned_any (p : Option Addr) (n c : Nat) (l : List Ded) (w : World) (h : dor w p l) (hn : l.length = n) (hb : n * 40 ≤ 140737488355328) :
    Calls Try.prog 20 #[.slice p n c] w fun e w' => (∃ v, e = .returned v ∧ mined w.heap.size w' v l ∧ alli w' v) ∧ Below w.heap.size w w' := by
  subst hn
  exact Cloned_raw p l.length c (flatd l) w h (flatd_len l) (ints_flatd l) hb
end Go.Proofs.Ytdcjjfipnilmpaa
