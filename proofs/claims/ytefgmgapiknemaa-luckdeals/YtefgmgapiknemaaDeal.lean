/- The deal: what 'sorted', 'Deal' and the document's 'Dealt' return: a row of their own that holds the cards. -/
import Derived.Test.YtefgmgapiknemaaRows
import Derived.Test.YtefgmgapiknemaaMath
import Derived.Test.YtefgmgapiknemaaCon
import Derived.Test.YtefgmgapiknemaaPost
import Derived.WalkKit
import Derived.WalkSpells
import Derived.WalkLawsBesides
import Derived.RegionTactic
import Derived.ChangeAlike
import Derived.Deep.QuietTactic
import Derived.BigQuiet
namespace Go.Proofs.Ytefgmgapiknemaa
open Go.RowKit
set_option linter.unusedVariables false

def swp (L : List Nat) (i j : Nat) : List Nat := (L.set i (L.getD j 0)).set j (L.getD i 0)
def dlg (f : Nat → Nat) (p : Nat → Nat → Nat) : Nat → Nat → List Nat → Nat × List Nat
  | 0, s, L => (s, L)
  | k + 1, s, L => dlg f p k (f s) (swp L (k + 1) (p s (k + 2)))
theorem dlg_succ (f : Nat → Nat) (p : Nat → Nat → Nat) (s k : Nat) (L : List Nat) : dlg f p (k + 1) s L = dlg f p k (f s) (swp L (k + 1) (p s (k + 2))) := rfl
def dl (s k : Nat) (L : List Nat) : Nat × List Nat := dlg nx pk k s L
theorem dl_succ (s k : Nat) (L : List Nat) : dl s (k + 1) L = dl (nx s) k (swp L (k + 1) (pk s (k + 2))) := dlg_succ nx pk s k L
theorem dl_zero (s : Nat) (L : List Nat) : dl s 0 L = (s, L) := rfl
def ints (L : List Nat) : List Value := L.map fun x : Nat => Value.int .i64 (x : Int)

theorem swp_length (L : List Nat) (i j : Nat) : (swp L i j).length = L.length := by unfold swp; simp
theorem ints_getElem {L : List Nat} {j : Nat} (h : j < L.length) : (ints L)[j]? = some (.int .i64 ((L.getD j 0 : Nat) : Int)) := by
  unfold ints
  rw [List.getElem?_map, List.getElem?_eq_getElem h]
  simp [List.getD_eq_getElem?_getD, List.getElem?_eq_getElem h]
theorem ints_set (L : List Nat) (j x : Nat) : (ints L).set j (.int .i64 (x : Int)) = ints (L.set j x) := by
  unfold ints; rw [List.map_set]

theorem info3 : (Try.prog.info? 3).map (fun i => (i.zero, i.size, i.bytes)) = some (some (.int .i64 0), 1, 8) := by kernel_rfl

/-- A row of its own: block g, from its head, holds the numbers. -/
def owns (B : Nat) (wr : World) (g n c : Nat) (L : List Nat) : Prop := wr.ownsRow B 3 1 (.slice (some ⟨g, 0, none⟩) n c) n (ints L)

theorem owns_len {B : Nat} {wr : World} {g n c : Nat} {L : List Nat} (h : owns B wr g n c L) : L.length = n := by
  have := h.1; unfold ints at this; rw [List.length_map] at this; omega
theorem owns_cell {B : Nat} {wr : World} {g n c : Nat} {L : List Nat} (h : owns B wr g n c L) {j : Nat} (hj : j < n) :
    wr.cell? ⟨g, j, none⟩ = some (.int .i64 ((L.getD j 0 : Nat) : Int)) := by
  rw [World.ownsRow.cellAt h j (by omega), ints_getElem (by rw [owns_len h]; exact hj)]
theorem owns_free {B : Nat} {wr : World} {g n c : Nat} {L : List Nat} (h : owns B wr g n c L) (j : Nat) : wr.frozen? ⟨g, j, none⟩ = false := World.ownsRow.frozenAt h j
theorem owns_put {B : Nat} {wr : World} {g n c : Nat} {L : List Nat} (h : owns B wr g n c L) (j x : Nat) : owns B (wr.setCell ⟨g, j, none⟩ (.int .i64 (x : Int))) g n c (L.set j x) := by
  unfold owns; rw [← ints_set]; exact (World.ownsRow.stored h j _).1

/- sorted -/
def srt (B : Nat) (w : World) (n k : Nat) (wr : World) : Prop := Below B w wr ∧ ∃ L : List Nat, owns B wr B n n L ∧ ∀ j, j < k → L.getD j 0 = j

theorem srt_next {B : Nat} {w wr : World} {n k : Nat} (h : srt B w n k wr) (hk : k < n) : srt B w n (k + 1) (wr.setCell ⟨B, k, none⟩ (.int .i64 (k : Int))) := by
  obtain ⟨hb, L, ho, hL⟩ := h
  refine ⟨hb.setCell (Nat.le_refl _) _, _, owns_put ho k k, fun j hj => ?_⟩
  have hl := owns_len ho
  rw [List.getD_eq_getElem?_getD, List.getElem?_set]
  by_cases c : k = j
  · rw [if_pos c, if_pos (by omega)]; exact c
  · rw [if_neg c, ← List.getD_eq_getElem?_getD]; exact hL j (by omega)
theorem srt_end {B : Nat} {w wr : World} {n : Nat} (h : srt B w n n wr) : owns B wr B n n (List.range n) := by
  obtain ⟨hb, L, ho, hL⟩ := h
  have hl := owns_len ho
  have : L = List.range n := by
    apply List.ext_getElem (by simpa using hl)
    intro j h1 h2
    have := hL j (by omega)
    rw [List.getD_eq_getElem?_getD, List.getElem?_eq_getElem h1] at this
    simp at this ⊢; exact this
  rw [← this]; exact ho
theorem srt_start {w w1 : World} {n : Nat} (hb : Below w.heap.size w w1) (h : w1.ownsRow w.heap.size 3 1 (.slice (some ⟨w.heap.size, 0, none⟩) n n) n (madeCells #[.int .i64 0] n).toList) : srt w.heap.size w n 0 w1 := by
  refine ⟨hb, List.replicate n 0, ?_, fun j hj => by omega⟩
  unfold owns ints
  rw [List.map_replicate]
  rw [toList_madeCells_one] at h; exact h

set_option maxHeartbeats 400000 in
theorem sorted_any (n : Nat) (w : World) (hn : n ≤ 52) :
    Calls Try.prog 24 #[.int .i64 n] w fun e w' => e = .returned (.slice (some ⟨w.heap.size, 0, none⟩) n n) ∧ Below w.heap.size w w' ∧ owns w.heap.size w' w.heap.size n n (List.range n) := by
  obtain ⟨i0, hi, hz0, hz1, hz2⟩ := info_parts info3
  have HB : Hid (i0.bytes = 8) := hz2
  clear hz2
  go_enter Try.func24, Try.ntmps24
  go_wp2_with (at_make; refine wpList_make_full _ rfl (.tmp 5) (.tmp 5) 28 rfl w.heap.size 3 i0 (.int .i64 0) 1 Try.underlying28 hi hz0 hz1 .i64 .i64 (n : Int) (n : Int) n rfl rfl rfl rfl ?_ ?_ (Nat.le_refl _) ?_)
  · rw [HB.out]; omega
  · unfold maxLen; omega
  · intro w1 hown hgrow
    have hbel : Below w.heap.size w w1 := (Below.refl _ _).grown hgrow (Nat.le_refl _) (fun k h => by cases h)
    have RS : Hid (srt w.heap.size w n 0 w1) := srt_start hbel hown
    clear hbel hown hgrow hi hz0 hz1
    go_wp2_with fail
    go_loopw [9] (fun i wr => ∃ k : Nat, k ≤ n ∧ i = .int .i64 k ∧ srt w.heap.size w n k wr) (fun i _ => n - (intOf i).toNat)
    case atStart => exact ⟨0, by omega, rfl, RS.out⟩
    case round =>
      obtain ⟨k, hk, rfl, R⟩ := hrel
      have RR : Hid (srt w.heap.size w n k wr) := R
      by_cases hlt : k < n
      · obtain ⟨_, L, ho, _⟩ := R
        have hc := owns_cell ho hlt
        have hf := owns_free ho k
        clear ho RS
        go_wp2_with fail
        go_roundw
        case rel => exact ⟨k + 1, by omega, by go_num, srt_next RR.out hlt⟩
        case measure => simp [intOf]; omega
      · obtain rfl : k = n := by omega
        clear R
        go_wp2_with fail
        go_ret
        exact ⟨rfl, RR.out.1, srt_end RR.out⟩

/- The shuffle's loop. -/
def shf (B : Nat) (w : World) (s n S g c : Nat) (kk : Int) (wr : World) : Prop :=
  Below B w wr ∧ S < 4294967296 ∧ B ≤ g ∧ ∃ L : List Nat, owns B wr g n c L ∧ dl S kk.toNat L = dl s (n - 1) (List.range n)

theorem shf_next {B : Nat} {w wr : World} {s n S g c : Nat} {K P : Nat} (hP : pk S (K + 2) = P) (hb : Below B w wr) (hg : B ≤ g) {L : List Nat} (ho : owns B wr g n c L)
    (hd : dl S (K + 1) L = dl s (n - 1) (List.range n)) (m : Nat) :
    shf B w s n (nx S) g c (K : Int) (((wr.setCell ⟨g, K + 1, none⟩ (.int .i64 ((L.getD P 0 : Nat) : Int))).setCell ⟨g, P, none⟩ (.int .i64 ((L.getD (K + 1) 0 : Nat) : Int))).drewN m) := by
  refine ⟨below_drewN ((hb.setCell hg _).setCell hg _) m, nx_lt S, hg, swp L (K + 1) P, owns_put (owns_put ho (K + 1) _) P _, ?_⟩
  rw [Int.toNat_natCast]
  rw [dl_succ, hP] at hd; exact hd

theorem swp_comm (L : List Nat) (i j : Nat) : swp L i j = swp L j i := by
  unfold swp
  by_cases c : i = j
  · rw [c]
  · exact List.set_comm _ _ c
theorem shf_back {B : Nat} {w wr : World} {s n S g c : Nat} {K P : Nat} (hP : pk S (K + 2) = P) (hb : Below B w wr) (hg : B ≤ g) {L : List Nat} (ho : owns B wr g n c L)
    (hd : dl S (K + 1) L = dl s (n - 1) (List.range n)) (m : Nat) :
    shf B w s n (nx S) g c (K : Int) (((wr.setCell ⟨g, P, none⟩ (.int .i64 ((L.getD (K + 1) 0 : Nat) : Int))).setCell ⟨g, K + 1, none⟩ (.int .i64 ((L.getD P 0 : Nat) : Int))).drewN m) := by
  refine ⟨below_drewN ((hb.setCell hg _).setCell hg _) m, nx_lt S, hg, swp L P (K + 1), owns_put (owns_put ho P _) (K + 1) _, ?_⟩
  rw [Int.toNat_natCast]
  rw [dl_succ, hP, swp_comm] at hd; exact hd

set_option maxHeartbeats 1000000 in
theorem Deal_any (s n T : Nat) (C : List Nat) (w : World) (hs : Hid (s < 4294967296)) (hn : n ≤ 52) (hT : Hid (dl s (n - 1) (List.range n) = (T, C))) :
    Calls Try.prog 11 #[.int .u32 s, .int .i64 n] w fun e w' => e = .returned (.tuple #[.slice (some ⟨w.heap.size, 0, none⟩) n n, .int .u32 T, .int .i64 0]) ∧ Below w.heap.size w w' ∧ owns w.heap.size w' w.heap.size n n C := by
  go_enter Try.func11, Try.ntmps11
  go_wp2_with fail
  refine (sorted_any n _ hn).mono ?_
  rintro e w1 ⟨rfl, hb, ho⟩
  have RS : Hid (shf w.heap.size w s n s w.heap.size n ((n : Int) - 1) w1) := ⟨hb, hs.out, Nat.le_refl _, _, ho, by rw [show ((n : Int) - 1).toNat = n - 1 by omega]⟩
  clear hb ho
  go_wp2_with fail
  go_loopw [0, 8] (fun a b wr => ∃ (S : Nat) (kk : Int), a = .int .u32 S ∧ b = .int .i64 kk ∧ -1 ≤ kk ∧ kk < n ∧ shf w.heap.size w s n S w.heap.size n kk wr) (fun _ b _ => (intOf b + 1).toNat)
  case atStart => exact ⟨s, (n : Int) - 1, rfl, rfl, by omega, by omega, RS.out⟩
  case round =>
    obtain ⟨S, kk, rfl, rfl, h1, h2, R⟩ := hrel
    clear RS
    by_cases hk : 1 ≤ kk
    · obtain ⟨K, rfl⟩ : ∃ K : Nat, kk = (K : Int) + 1 := ⟨(kk - 1).toNat, by omega⟩
      obtain ⟨hb, hS, hg, L, ho, hd⟩ := R
      obtain ⟨P, hP⟩ : ∃ P, pk S (K + 2) = P := ⟨_, rfl⟩
      obtain ⟨T', hT'⟩ : ∃ T', nx S = T' := ⟨_, rfl⟩
      have hPl : P < K + 2 := by rw [← hP]; exact pk_lt (by omega)
      have HP : Hid (pk S ((K : Int) + 1 + 1).toNat = P) := by show pk S ((K : Int) + 1 + 1).toNat = P; rw [show ((K : Int) + 1 + 1).toNat = K + 2 by omega]; exact hP
      have HT' : Hid (nx S = T') := hT'
      rw [show ((K : Int) + 1).toNat = K + 1 by omega] at hd
      have NX := fun m => shf_next hP hb hg ho hd m
      rw [hT'] at NX
      have HNX : Hid (∀ m : Nat, _) := NX
      have c1 := owns_cell ho (j := K + 1) (by omega)
      have c2 := owns_cell ho (j := P) (by omega)
      have f1 := owns_free ho (K + 1)
      have f2 := owns_free ho P
      have ho1 := owns_put ho (K + 1) (L.getD P 0)
      have c3 := owns_cell ho1 (j := P) (by omega)
      have f3 := owns_free ho1 P
      generalize hx : L.getD (K + 1) 0 = x at *
      generalize hy : L.getD P 0 = y at *
      generalize (L.set (K + 1) y).getD P 0 = z at *
      clear ho ho1 hb hS hg hd hP hT' NX hx hy
      go_wp2_with fail
      refine (Pick_is S P T' ((K : Int) + 1 + 1) _ (by omega) (by omega) HP HT').mono ?_
      rintro e w2 ⟨rfl, rfl⟩
      go_wp2_with fail
      go_region
      go_wp2_with fail
      go_roundw
      case rel => exact ⟨T', (K : Int), rfl, by go_num, by omega, by omega, HNX.out _⟩
      case measure => simp [intOf]; omega
    · have hk0 : kk.toNat = 0 := by omega
      obtain ⟨hb, hS, hg, L, ho, hd⟩ := R
      rw [hk0, hT.out, dl_zero] at hd
      injection hd with e1 e2
      subst e1 e2
      have HO : Hid (owns w.heap.size wr w.heap.size n n L) := ho
      have HB : Hid (Below w.heap.size w wr) := hb
      clear ho hb hS hg hT hk0
      go_wp2_with fail
      exact bodyPost_ret (v := .tuple #[.slice (some ⟨w.heap.size, 0, none⟩) n n, .int .u32 S, .int .i64 0]) (by simp [results, Try.results11, go_sem]) rfl ⟨rfl, HB.out, HO.out⟩
end Go.Proofs.Ytefgmgapiknemaa
