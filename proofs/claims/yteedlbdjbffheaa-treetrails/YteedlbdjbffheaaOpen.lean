/- How lists of numbers and of texts that are handed in are opened. -/
import Derived.Test.YteedlbdjbffheaaOwn
import Derived.Test.YteedlbdjbffheaaTxt
import Derived.SliceStrings
import Derived.OpenShut
import Derived.SizedLaws
namespace Go.Proofs.Yteedlbdjbffheaa
open Go.ChangeShapes Go.WideShapes Go.RowKit
set_option linter.unusedVariables false
variable {H : Type} {enc : TypeId × Value → H} {P : Program}

theorem nat_of {a : Int} (h : (Lit.int .u64 a).wf = true) : ∃ n : Nat, a = n ∧ n < 18446744073709551616 := by
  have h2 : 0 ≤ a ∧ a ≤ 18446744073709551615 := by simpa [Lit.wf, IntKind.min, IntKind.max, IntKind.bits, IntKind.signed] using h
  exact ⟨a.toNat, by omega, by omega⟩
theorem int_of {a : Int} (h : (Lit.int .i64 a).wf = true) : -9223372036854775808 ≤ a ∧ a ≤ 9223372036854775807 := by
  simpa [Lit.wf, IntKind.min, IntKind.max, IntKind.bits, IntKind.signed] using h

/-- What a list's reading tells of its length. -/
def told (d : DataW H) (n : Nat) : Prop := (d = .nil ∧ n = 0) ∨ ∃ elems spare, d = .slice elems spare ∧ elems.length = n
/-- A list that is handed in, and has room. -/
def Lst.fit (w : World) (s : Lst) : Prop := s.ok w ∧ (s.p = none → s.c = 0) ∧ s.l.length ≤ s.c

/-- A list of texts that is handed in. -/
structure Sst where
  p : Option Addr
  c : Nat
  l : List ByteArray
def Sst.val (s : Sst) : Value := .slice s.p s.l.length s.c
def Sst.fit (w : World) (s : Sst) : Prop := txt w s.p s.l ∧ tsm s.l ∧ s.l.length ≤ 9223372036854775807 ∧ (s.p = none → s.c = 0) ∧ s.l.length ≤ s.c

theorem open_lst {t e : TypeId} (ht : P.underlying t = some (.slice e)) (he : P.underlying e = some (.int .u64)) (hc : P.cellsOf e = 1) {W : World} {r : Reach} {b0 base : Nat} {sp : Nat → Bool} {held : Bool} {v : Value} {d : DataW H} {ps : List MemPlace}
    (hval : Value.okWide P W r b0 t v) (hd : DataW.Trod enc P W base sp held t v d ps) : ∃ s : Lst, v = s.val ∧ s.fit W ∧ told d s.l.length := by
  obtain ⟨a0, len, cap, rfl⟩ := okWide_slice ht hval
  obtain ⟨fuel, hf⟩ := hd
  rcases open_ints ht he hc hf with ⟨hcs, hx⟩ | ⟨a, len', cap', zs, hcs, _, hl, hm, hz, hx, hcell, hwz⟩
  · simp [Value.cells] at hcs hx
    obtain ⟨rfl, rfl, rfl⟩ := hcs
    exact ⟨⟨none, 0, []⟩, rfl, ⟨⟨row_nil _ _, (fun x hx => by cases hx), by simp⟩, fun _ => rfl, Nat.le_refl _⟩, .inl ⟨hx.1, rfl⟩⟩
  · simp [Value.cells] at hcs hx
    obtain ⟨rfl, rfl, rfl⟩ := hcs
    have hlz : len ≤ zs.length := by rw [hz]; split <;> omega
    have hN : ∀ i, i < zs.length → ∃ n : Nat, zs.getD i 0 = n ∧ n < 18446744073709551616 := by
      intro i hi
      have := hwz (zs.getD i 0) (by rw [List.getD_eq_getElem?_getD, List.getElem?_eq_getElem hi]; exact List.getElem_mem hi)
      exact nat_of this
    have hlen : ((zs.take len).map Int.toNat).length = len := by simp; omega
    have hget : ∀ j, j < len → ((zs.take len).map Int.toNat).getD j 0 = (zs.getD j 0).toNat := by
      intro j hj
      simp [List.getD_eq_getElem?_getD, hj]
      rw [List.getElem?_eq_getElem (by omega)]; simp
    refine ⟨⟨some a, cap, (zs.take len).map Int.toNat⟩, ?_, ⟨⟨?_, ?_, ?_⟩, fun h => (by cases h), ?_⟩, .inr ⟨_, _, hx.1, ?_⟩⟩
    · unfold Lst.val; rw [hlen]
    · intro j hj
      replace hj : j < len := by rwa [hlen] at hj
      refine ⟨a, rfl, ?_⟩
      obtain ⟨n, hn, hn2⟩ := hN j (by omega)
      rw [hcell j (by omega), hget j hj, hn]; rfl
    · intro x hx2
      obtain ⟨z, hz2, rfl⟩ := List.mem_map.1 hx2
      obtain ⟨n, rfl, hn⟩ := nat_of (hwz z (List.mem_of_mem_take hz2))
      simpa using hn
    · rw [hlen]; unfold maxLen at hm; omega
    · show ((zs.take len).map Int.toNat).length ≤ cap
      rw [hlen]; exact hl
    · rw [hlen]; simp [lits]; omega

theorem open_sst {t e : TypeId} (ht : P.underlying t = some (.slice e)) (he : P.underlying e = some .string) (hc : P.cellsOf e = 1) {W : World} {r : Reach} {b0 base : Nat} {sp : Nat → Bool} {held : Bool} {v : Value} {d : DataW H} {ps : List MemPlace}
    (hval : Value.okWide P W r b0 t v) (hd : DataW.Trod enc P W base sp held t v d ps) : ∃ s : Sst, v = s.val ∧ s.fit W ∧ told d s.l.length := by
  obtain ⟨a0, len, cap, rfl⟩ := okWide_slice ht hval
  obtain ⟨fuel, hf⟩ := hd
  rcases open_strings ht he hc hf with ⟨hcs, hx⟩ | ⟨a, len', cap', ss, hcs, _, hl, hm, hz, hx, hcell, hwz⟩
  · simp [Value.cells] at hcs hx
    obtain ⟨rfl, rfl, rfl⟩ := hcs
    exact ⟨⟨none, 0, []⟩, rfl, ⟨txt_nil _ _, (fun x hx => by cases hx), by simp, fun _ => rfl, Nat.le_refl _⟩, .inl ⟨hx.1, rfl⟩⟩
  · simp [Value.cells] at hcs hx
    obtain ⟨rfl, rfl, rfl⟩ := hcs
    have hlz : len ≤ ss.length := by rw [hz]; split <;> omega
    have hlen : (ss.take len).length = len := by simp; omega
    refine ⟨⟨some a, cap, ss.take len⟩, ?_, ⟨?_, ?_, ?_, fun h => (by cases h), ?_⟩, .inr ⟨_, _, hx.1, ?_⟩⟩
    · unfold Sst.val; rw [hlen]
    · intro j hj
      replace hj : j < len := by rwa [hlen] at hj
      refine ⟨a, rfl, ?_⟩
      rw [hcell j (by omega)]
      have : (ss.take len).getD j ⟨#[]⟩ = ss.getD j ByteArray.empty := by
        simp [List.getD_eq_getElem?_getD, hj]; rfl
      rw [this]
    · intro s hs
      have := hwz s (List.mem_of_mem_take hs)
      unfold maxLen at this; omega
    · show (ss.take len).length ≤ _
      rw [hlen]; unfold maxLen at hm; omega
    · show (ss.take len).length ≤ cap
      rw [hlen]; exact hl
    · show (strs (ss.take len)).length = (ss.take len).length
      simp [strs]

/-- A list that is handed in is no longer than memory reaches. -/
theorem told_sized {ts : List TypeId} {ds : List (DataW H)} (h : (DataW.weightsEach P ts ds).all (· ≤ reachBytes) = true) {j b : Nat} {t e : TypeId} {d : DataW H} {n : Nat} (ht : ts[j]? = some t) (hd : ds[j]? = some d) (hu : P.underlying t = some (.slice e))
    (hb : P.bytesOf e = b) (hn : told d n) : n * b ≤ 140737488351232 := by
  rcases hn with ⟨_, rfl⟩ | ⟨elems, spare, rfl, rfl⟩
  · omega
  · have := sized_slice h ht hd hu
    rw [hb, Nat.add_mul] at this; unfold reachBytes at this; omega
theorem bulk_pos (d : DataW H) : 1 ≤ Rows.uptoBulk d := by
  cases d with
  | lit l => cases l <;> simp [Rows.uptoBulk]
  | _ => simp [Rows.uptoBulk]
theorem bulk_all : ∀ l : List (DataW H), l.length ≤ Rows.uptoBulkAll l
  | [] => Nat.zero_le _
  | d :: r => by
    have h1 := bulk_pos d
    have h2 := bulk_all r
    simp only [Rows.uptoBulkAll, List.length_cons]; omega
theorem told_bulk {d : DataW H} {n : Nat} (h : told d n) : n ≤ Rows.uptoBulk d := by
  rcases h with ⟨_, rfl⟩ | ⟨elems, spare, rfl, rfl⟩
  · omega
  · have := bulk_all elems
    simp only [Rows.uptoBulk]; omega
end Go.Proofs.Yteedlbdjbffheaa
