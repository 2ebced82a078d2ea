/- The document's deal ('Dealt'), and when two rows are equal ('slices.Equal'). -/
import Derived.Test.YtefgmgapiknemaaDeal
namespace Go.Proofs.Ytefgmgapiknemaa
open Go.RowKit
set_option linter.unusedVariables false

set_option maxHeartbeats 400000 in
theorem Deal_no (s : Nat) (n : Int) (w : World) (h : n < 0 ∨ 52 < n) :
    Calls Try.prog 11 #[.int .u32 s, .int .i64 n] w fun e w' => e = .returned (.tuple #[.slice none 0 0, .int .u32 s, .int .i64 1]) ∧ w' = w := by
  rcases h with h | h
  · go_enter Try.func11, Try.ntmps11
    go_wp2_with fail
    exact bodyPost_ret (v := .tuple #[.slice none 0 0, .int .u32 s, .int .i64 1]) (by simp [results, Try.results11, go_sem]) rfl ⟨rfl, rfl⟩
  · go_enter Try.func11, Try.ntmps11
    go_wp2_with fail
    exact bodyPost_ret (v := .tuple #[.slice none 0 0, .int .u32 s, .int .i64 1]) (by simp [results, Try.results11, go_sem]) rfl ⟨rfl, rfl⟩

def apd (B : Nat) (w : World) (k : Nat) (v : Value) (wr : World) : Prop := Below B w wr ∧ B ≤ wr.heap.size ∧ wr.ownsRow B 3 1 v k (ints (List.range k))

theorem apd_next {B : Nat} {w wr w1 : World} {k : Nat} {v v' : Value} {o : Obj} (h : apd B w k v wr)
    (ho : w1.ownsRow B 3 1 v' (k + 1) (ints (List.range k) ++ [.int .i64 (k : Int)])) (hg : (wr.alloc o).grownBy w1 v.ownBlock) : apd B w (k + 1) v' w1 := by
  obtain ⟨hb, hB, hv⟩ := h
  have hs : (wr.alloc o).heap.size = wr.heap.size + 1 := by simp
  refine ⟨(hb.alloc hB o).grown hg (by omega) (fun j hj => (World.ownsRow.lt hv j hj).1), by have := hg.size; omega, ?_⟩
  rw [List.range_succ]
  unfold ints at ho ⊢
  rw [List.map_append]; exact ho

theorem apd_shape {B : Nat} {w wr : World} {n : Nat} {v : Value} (hn : 0 < n) (h : apd B w n v wr) :
    ∃ g c, v = .slice (some ⟨g, 0, none⟩) n c ∧ B ≤ g ∧ n ≤ c ∧ owns B wr g n c (List.range n) := by
  obtain ⟨hb, hB, hv⟩ := h
  rcases hv.2 with ⟨_, e⟩ | ⟨g, cap, cur, rfl, hg, _, hc, _⟩
  · omega
  · exact ⟨g, cap, rfl, hg, hc, hv⟩

set_option maxHeartbeats 1000000 in
theorem Dealt_any (s n T : Nat) (C : List Nat) (w : World) (hs : Hid (s < 4294967296)) (hn0 : 0 < n) (hn : n ≤ 52) (hT : Hid (dl s (n - 1) (List.range n) = (T, C))) :
    Calls Try.prog 18 #[.int .u32 s, .int .i64 n] w fun e w' => ∃ g c, e = .returned (.tuple #[.slice (some ⟨g, 0, none⟩) n c, .int .u32 T]) ∧ Below w.heap.size w w' ∧ owns w.heap.size w' g n c C := by
  obtain ⟨i0, hi, hz0, hz1, hz2⟩ := info_parts info3
  have AS : Hid (apd w.heap.size w 0 (.slice none 0 0) w) := ⟨Below.refl _ _, Nat.le_refl _, World.ownsRow_nil _ _ _ _⟩
  go_enter Try.func18, Try.ntmps18
  go_wp2_with fail
  go_loopw [6, 13] (fun v i wr => ∃ k : Nat, k ≤ n ∧ i = .int .i64 k ∧ apd w.heap.size w k v wr) (fun _ i _ => n - (intOf i).toNat)
  case atStart => exact ⟨0, by omega, rfl, AS.out⟩
  case round =>
    obtain ⟨k, hk, rfl, A⟩ := hrel
    clear AS
    have HA : Hid (apd w.heap.size w k _ wr) := A
    by_cases hlt : k < n
    · have hown := A.2.2
      have HL : Hid (w.heap.size ≤ wr.heap.size) := A.2.1
      clear A
      go_wp2_with (at_builtin; refine wpList_append_own _ rfl _ _ 28 rfl w.heap.size 3 i0 (.int .i64 0) 1 8 Try.underlying28 hi hz0 hz1 hz2 rfl (by decide) _ _ _ rfl (hown.alloc _) ⟨wr.heap.size, 0, none⟩ 1 1 [.int .i64 (k : Int)] rfl rfl ?c1 ?c2 ?c3 ?c4 ?c5 ?_)
      case c1 =>
        intro j u hj
        match j, hj with
        | 0, hj => simp at hj; subst hj; simp [Addr.add]
      case c2 => intro u hu; simp at hu; subst hu; rfl
      case c3 => unfold maxLen; omega
      case c4 => omega
      case c5 => have := HL.out; simp; omega
      · intro v' w1 hown' hgrow _
        have AN := apd_next HA.out hown' hgrow
        have HN : Hid (apd w.heap.size w (k + 1) v' w1) := AN
        clear hown' hgrow hown AN
        go_wp2_with fail
        go_roundw
        case rel => exact ⟨k + 1, by omega, by go_num, HN.out⟩
        case measure => simp [intOf]; omega
    · obtain rfl : k = n := by omega
      obtain ⟨g, c, rfl, hg, hc, ho⟩ := apd_shape hn0 A
      have RS : Hid (shf w.heap.size w s k s g c ((k : Int) - 1) wr) := ⟨A.1, hs.out, hg, _, ho, by rw [show ((k : Int) - 1).toNat = k - 1 by omega]⟩
      clear A HA ho hi hz0 hz1 hz2
      go_wp2_with fail
      go_loopw [0, 8] (fun a b wr => ∃ (S : Nat) (kk : Int), a = .int .u32 S ∧ b = .int .i64 kk ∧ -1 ≤ kk ∧ kk < k ∧ shf w.heap.size w s k S g c kk wr) (fun _ b _ => (intOf b + 1).toNat)
      case atStart => exact ⟨s, (k : Int) - 1, rfl, rfl, by omega, by omega, RS.out⟩
      case round =>
        obtain ⟨S, kk, rfl, rfl, h1, h2, R⟩ := hrel
        clear RS
        by_cases hk : 1 ≤ kk
        · obtain ⟨K, rfl⟩ : ∃ K : Nat, kk = (K : Int) + 1 := ⟨(kk - 1).toNat, by omega⟩
          obtain ⟨hb, hS, _, L, ho, hd⟩ := R
          have HS : Hid (S < 4294967296) := hS
          obtain ⟨P, hP⟩ : ∃ P, pk S (K + 2) = P := ⟨_, rfl⟩
          obtain ⟨T', hT'⟩ : ∃ T', nx S = T' := ⟨_, rfl⟩
          have hPl : P < K + 2 := by rw [← hP]; exact pk_lt (by omega)
          have HP : Hid (pk S ((K : Int) + 1 + 1).toNat = P) := by show pk S ((K : Int) + 1 + 1).toNat = P; rw [show ((K : Int) + 1 + 1).toNat = K + 2 by omega]; exact hP
          have HT' : Hid (nx S = T') := hT'
          rw [show ((K : Int) + 1).toNat = K + 1 by omega] at hd
          have NX := fun m => shf_back hP hb hg ho hd m
          rw [hT'] at NX
          have HNX : Hid (∀ m : Nat, _) := NX
          have c1 := owns_cell ho (j := K + 1) (by omega)
          have c2 := owns_cell ho (j := P) (by omega)
          have f1 := owns_free ho (K + 1)
          have f2 := owns_free ho P
          have ho1 := owns_put ho P (L.getD (K + 1) 0)
          have c3 := owns_cell ho1 (j := K + 1) (by omega)
          have f3 := owns_free ho1 (K + 1)
          generalize hx : L.getD (K + 1) 0 = x at *
          generalize hy : L.getD P 0 = y at *
          generalize (L.set P x).getD (K + 1) 0 = z at *
          clear ho ho1 hb hS hd hP hT' NX hx hy hT hs
          go_wp2_with fail
          refine (Luck_at S P T' ((K : Int) + 1 + 1) _ HS (by omega) (by omega) HP HT').mono ?_
          rintro e w2 ⟨rfl, rfl⟩
          go_wp2_with fail
          go_region
          go_wp2_with fail
          go_roundw
          case rel => exact ⟨T', (K : Int), rfl, by go_num, by omega, by omega, HNX.out _⟩
          case measure => simp [intOf]; omega
        · have hk0 : kk.toNat = 0 := by omega
          obtain ⟨hb, hS, _, L, ho, hd⟩ := R
          rw [hk0, hT.out, dl_zero] at hd
          injection hd with e1 e2
          subst e1 e2
          have HO : Hid (owns w.heap.size wr g k c L) := ho
          have HB : Hid (Below w.heap.size w wr) := hb
          clear ho hb hS hg hT hk0
          go_wp2_with fail
          go_ret2
          exact ⟨g, c, rfl, HB.out, HO.out⟩

set_option maxHeartbeats 400000 in
theorem Dealt_zero (s : Nat) (w : World) :
    Calls Try.prog 18 #[.int .u32 s, .int .i64 0] w fun e w' => e = .returned (.tuple #[.slice none 0 0, .int .u32 s]) ∧ w' = w := by
  go_enter Try.func18, Try.ntmps18
  go_wp2_with fail
  refine wp_loop_rounds 1 ?_
  rw [rounds_succ]
  go_wp2_with fail
  refine wp_loop_rounds 1 ?_
  rw [rounds_succ]
  go_wp2_with fail
  go_ret2
  exact ⟨rfl, rfl⟩

set_option maxHeartbeats 400000 in
theorem equal_any (b1 b2 n n1 n2 : Nat) (L : List Nat) (w : World) (hn : n ≤ 1000)
    (h1 : ∀ k, k < n → w.cell? ⟨b1, k, none⟩ = some (.int .i64 ((L.getD k 0 : Nat) : Int))) (h2 : ∀ k, k < n → w.cell? ⟨b2, k, none⟩ = some (.int .i64 ((L.getD k 0 : Nat) : Int))) :
    Calls Try.prog 19 #[.slice (some ⟨b1, 0, none⟩) n n1, .slice (some ⟨b2, 0, none⟩) n n2] w fun e w' => e = .returned (.bool true) ∧ ∃ m, w' = w.drewN m := by
  go_enter Try.func19, Try.ntmps19
  go_wp2
  go_loopw [13] (fun x wr => ∃ k : Nat, k ≤ n ∧ x = .int .i64 k ∧ ∃ m, wr = w.drewN m) (fun x _ => n - (intOf x).toNat)
  case atStart => exact ⟨0, Nat.zero_le _, rfl, 0, rfl⟩
  case round =>
    obtain ⟨k, hk, rfl, m, rfl⟩ := hrel
    by_cases hlt : k < n
    · have c1 := h1 k hlt
      have c2 := h2 k hlt
      clear h1 h2
      go_wp2
      go_quiet (fail)
      go_wp2
      go_roundw
      case rel => exact ⟨k + 1, by omega, by go_num, _, rfl⟩
      case measure => simp [intOf]; omega
    · clear h1 h2
      go_wp2
      go_ret
      exact ⟨rfl, _, rfl⟩

set_option maxHeartbeats 400000 in
theorem equal_zero (a b : Option Addr) (c d : Nat) (w : World) :
    Calls Try.prog 19 #[.slice a 0 c, .slice b 0 d] w fun e w' => e = .returned (.bool true) ∧ w' = w := by
  go_enter Try.func19, Try.ntmps19
  go_wp2_with fail
  refine wp_loop_rounds 1 ?_
  rw [rounds_succ]
  go_wp2_with fail
  go_ret
  exact ⟨rfl, rfl⟩
end Go.Proofs.Ytefgmgapiknemaa
