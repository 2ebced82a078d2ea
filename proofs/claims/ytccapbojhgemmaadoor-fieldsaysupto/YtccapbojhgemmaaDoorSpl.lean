/- What strings.Split returns, asked for the row's end. -/
import Derived.Test.YtccapbojhgemmaaDoorBk
import Derived.Lib.Split
import Derived.Deep.OwnRows
import Derived.Lib.Strings
import Derived.Laws.Strings3
namespace Go.Proofs.YtccapbojhgemmaaDoor
open Go.RowKit
set_option linter.unusedVariables false

/-- The pieces between the row's ends. -/
def pcs : List UInt8 → List (List UInt8)
  | [] => [[]]
  | b :: r => if b = 10 then [] :: pcs r else (b :: (pcs r).headD []) :: (pcs r).tail
theorem pcs_end (r : List UInt8) : pcs (10 :: r) = [] :: pcs r := by rw [pcs]; simp
theorem pcs_more {b : UInt8} (hb : ¬ b = 10) (r : List UInt8) : pcs (b :: r) = (b :: (pcs r).headD []) :: (pcs r).tail := by rw [pcs, if_neg hb]
theorem pcs_ne (L : List UInt8) : pcs L ≠ [] := by cases L with
  | nil => simp [pcs]
  | cons b r => unfold pcs; split <;> simp
theorem pcs_head (L : List UInt8) : (pcs L).headD [] :: (pcs L).tail = pcs L := by
  cases h : pcs L with
  | nil => exact absurd h (pcs_ne L)
  | cons a t => rfl
theorem gh_cons (b : UInt8) (r : List UInt8) : gh (b :: r) = gh r + if b = 10 then 1 else 0 := by
  unfold gh Lib.countByte; rw [List.count_cons]; by_cases h : b = 10 <;> simp [h]
theorem pcs_none : ∀ {L : List UInt8}, gh L = 0 → pcs L = [L]
  | [], _ => rfl
  | b :: r, h => by
    rw [gh_cons] at h
    by_cases hb : b = 10
    · simp [hb] at h
    · simp [hb] at h
      unfold pcs; rw [if_neg hb, pcs_none h]; rfl
theorem gw_cons (b : UInt8) (r : List UInt8) : gw (b :: r) = if b = 10 then 0 else if gw r = -1 then -1 else gw r + 1 := by
  unfold gw; rw [Lib.indexByte]; by_cases h : b = 10 <;> simp [h]
theorem gw_ge (L : List UInt8) : -1 ≤ gw L := Lib.indexByte_ge L 10
theorem pcs_hit : ∀ {L : List UInt8} {i : Nat}, gw L = i → i < L.length ∧ pcs L = L.take i :: pcs (L.drop (i + 1)) ∧ gh L = gh (L.drop (i + 1)) + 1
  | [], i, h => by have : gw [] = -1 := rfl; omega
  | b :: r, i, h => by
    rw [gw_cons] at h
    by_cases hb : b = 10
    · rw [if_pos hb] at h
      have : i = 0 := by omega
      subst this
      refine ⟨by simp, ?_, ?_⟩
      · rw [hb, pcs_end]; rfl
      · rw [gh_cons, if_pos hb]; rfl
    · rw [if_neg hb] at h
      by_cases h1 : gw r = -1
      · rw [if_pos h1] at h; omega
      · rw [if_neg h1] at h
        have hg := gw_ge r
        obtain ⟨j, rfl⟩ : ∃ j, i = j + 1 := ⟨i - 1, by omega⟩
        obtain ⟨k1, k2, k3⟩ := pcs_hit (L := r) (i := j) (by omega)
        refine ⟨by simp; omega, ?_, ?_⟩
        · rw [pcs_more hb, k2]; rfl
        · rw [gh_cons, if_neg hb, k3]; rfl
theorem gw_miss : ∀ {L : List UInt8}, gw L = -1 → gh L = 0
  | [], _ => rfl
  | b :: r, h => by
    rw [gw_cons] at h
    by_cases hb : b = 10
    · rw [if_pos hb] at h; omega
    · rw [if_neg hb] at h
      by_cases h1 : gw r = -1
      · rw [gh_cons, if_neg hb, gw_miss h1]
      · rw [if_neg h1] at h; have := gw_ge r; omega
theorem gh_le (L : List UInt8) : gh L ≤ L.length := List.count_le_length
theorem pcs_len : ∀ L : List UInt8, (pcs L).length = gh L + 1
  | [] => rfl
  | b :: r => by
    have ih := pcs_len r
    rw [gh_cons]; unfold pcs
    by_cases hb : b = 10
    · simp [hb, ih]
    · simp [hb, ih]
theorem bs_front (s : ByteArray) (i : Nat) : bs (s.extract 0 i) = (bs s).take i := by simp [bs]
theorem bs_back (s : ByteArray) (i : Nat) : bs (s.extract i s.size) = (bs s).drop i := by
  unfold bs
  rw [ByteArray.data_extract, Array.toList_extract, List.extract_eq_take_drop]
  exact List.take_of_length_le (by simp)

set_option maxRecDepth 100000 in
set_option maxHeartbeats 4000000 in
theorem genSplit_any (s : ByteArray) (w : World) (hs : s.size ≤ 1048576) :
    Calls Tryd.prog 27 #[.string s, .string ⟨#[10]⟩, .int .i64 0, .int .i64 (-1)] w fun e w' => ∃ p : List ByteArray, p.map bs = pcs (bs s) ∧ e = .returned (.slice (some ⟨w.heap.size, 0, none⟩) p.length p.length) ∧ w' = w.alloc (.cells (p.map Value.string).toArray 9) := by
  obtain ⟨C, hC⟩ : ∃ C, gh (bs s) = C := ⟨_, rfl⟩
  have HC : Hid (gh (bs s) = C) := hC
  have hCs : C ≤ s.size := by rw [← hC, ← bs_len]; exact gh_le _
  clear hC
  have hmn : min (C : Int) (s.size : Int) = C := by omega
  have hmk := fun w' : World => run_make_row' (P := Tryd.prog) 44 9 (.string ByteArray.empty) 16 Tryd.underlying44 (by kernel_rfl) rfl .i64 .i64 (C + 1) (by omega) (by omega) w'
  rw [Int.natCast_add] at hmk
  have hmk2 : ∀ w' : World, Sem.run Tryd.prog (Instr.makeSlice 44 (.int .i64 ((C : Int) + 1)) (.int .i64 ((C : Int) + 1))) w' = .ok (.slice (some ⟨w'.heap.size, 0, none⟩) (C + 1) (C + 1)) (w'.alloc (.cells (madeCells #[.string ByteArray.empty] (C + 1)) 9)) := hmk
  clear hmk
  go_enter Tryd.func27, Tryd.ntmps27
  go_wp2_with fail
  refine (Count_at s C _ HC).mono ?_
  rintro e w' ⟨rfl, hw⟩; subst w'
  go_wp2_with fail
  rw [← Lib.cellsOf_nil]
  clear hmk2 hmn
  go_loopw [0, 10] (fun s0 i wr => ∃ (done : List ByteArray) (rest : ByteArray), s0 = .string rest ∧ i = .int .i64 (done.length : Int) ∧ rest.size ≤ 1048576 ∧ Hid (done.length + gh (bs rest) = C ∧ done.map bs ++ pcs (bs rest) = pcs (bs s)) ∧ wr = w.alloc (.cells (Lib.cellsOf done (C + 1)) 9)) (fun _ i _ => C - (intOf i).toNat)
  case atStart => exact ⟨[], s, rfl, rfl, hs, ⟨by simp; exact HC.out, rfl⟩, rfl⟩
  case round =>
    obtain ⟨done, rest, rfl, rfl, hrs, HI, rfl⟩ := hrel
    have hle : done.length ≤ C := by have := HI.out.1; omega
    have hnext : (Lib.cellsOf done (C + 1))[done.length]? = some (.string ByteArray.empty) := Lib.cellsOf_next (by omega)
    by_cases hlt : done.length < C
    · obtain ⟨i, hi⟩ : ∃ i : Nat, gw (bs rest) = i := by
        have h1 := gw_ge (bs rest)
        by_cases h2 : gw (bs rest) = -1
        · have := gw_miss h2; have := HI.out.1; omega
        · exact ⟨(gw (bs rest)).toNat, by omega⟩
      obtain ⟨k1, k2, k3⟩ := pcs_hit hi
      rw [bs_len] at k1
      have HK : Hid (pcs (bs rest) = (bs rest).take i :: pcs ((bs rest).drop (i + 1)) ∧ gh (bs rest) = gh ((bs rest).drop (i + 1)) + 1) := ⟨k2, k3⟩
      have HG : Hid (gw (bs rest) = (i : Int)) := hi
      clear k2 k3 hi
      have l0 : (done.length : Int) < (C : Int) := by omega
      have c0 : ¬ ((i : Int) < 0) := by omega
      have c2 : (i : Int) ≤ (rest.size : Int) := by omega
      have c4 : (i : Int) + 1 ≤ (rest.size : Int) := by omega
      go_wp2_with fail
      refine (Index_at rest i _ HG).mono ?_
      rintro e w' ⟨rfl, hw⟩; subst w'
      go_wp2_with fail
      go_roundw
      case rel =>
        refine ⟨done ++ [rest.extract 0 i], rest.extract (i + 1) rest.size, rfl, by simp, by rw [ByteArray.size_extract]; omega, ⟨?_, ?_⟩, by rw [← Lib.cellsOf_set (by omega)]⟩
        · rw [bs_back, List.length_append]; have := HI.out.1; have := HK.out.2; simp; omega
        · rw [List.map_append, bs_back, List.append_assoc, ← HI.out.2, HK.out.1]; simp [bs_front]
      case measure => simp [intOf]; omega
    · have hC2 : done.length = C := by omega
      subst hC2
      have hz : gh (bs rest) = 0 := by have := HI.out.1; omega
      have HE : Hid ((done ++ [rest]).map bs = pcs (bs s)) := by
        unfold Hid; rw [← HI.out.2, pcs_none hz]; simp
      have HF : Hid ((Lib.cellsOf done (done.length + 1)).setIfInBounds done.length (.string rest) = ((done ++ [rest]).map Value.string).toArray) := by
        unfold Hid; rw [Lib.cellsOf_set (by omega)]; unfold Lib.cellsOf; simp
      go_wp2_with fail
      go_ret
      refine ⟨done ++ [rest], HE.out, ?_, ?_⟩
      · simp
      · rw [HF.out]
set_option maxRecDepth 20000 in
theorem Split_any (s : ByteArray) (w : World) (hs : s.size ≤ 1048576) :
    Calls Tryd.prog 17 #[.string s, .string ⟨#[10]⟩] w fun e w' => ∃ p : List ByteArray, p.map bs = pcs (bs s) ∧ e = .returned (.slice (some ⟨w.heap.size, 0, none⟩) p.length p.length) ∧ w' = w.alloc (.cells (p.map Value.string).toArray 9) := by
  have HS : Hid (Calls Tryd.prog 27 #[.string s, .string ⟨#[10]⟩, .int .i64 0, .int .i64 (-1)] w fun e w' => ∃ p : List ByteArray, p.map bs = pcs (bs s) ∧ e = .returned (.slice (some ⟨w.heap.size, 0, none⟩) p.length p.length) ∧ w' = w.alloc (.cells (p.map Value.string).toArray 9)) := genSplit_any s w hs
  clear hs
  go_enter Tryd.func17, Tryd.ntmps17
  go_wp2_with fail
  refine HS.out.mono ?_
  rintro e w' ⟨p, hp, rfl, hw⟩
  have HP : Hid (p.map bs = pcs (bs s)) := hp
  have HW : Hid (w' = w.alloc (.cells (p.map Value.string).toArray 9)) := hw
  clear hp hw
  go_wp2_with fail
  go_ret
  exact ⟨p, HP.out, rfl, HW.out⟩
end Go.Proofs.YtccapbojhgemmaaDoor
