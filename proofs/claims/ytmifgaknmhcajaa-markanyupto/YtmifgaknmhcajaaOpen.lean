/- How a list of numbers that is handed in is opened. -/
import Derived.Test.YtmifgaknmhcajaaOf
import Derived.ChangeSlices
import Derived.OpenShut
import Derived.SizedLaws
namespace Go.Proofs.Ytmifgaknmhcajaa
open Go.ChangeShapes Go.WideShapes Go.RowKit
set_option linter.unusedVariables false
variable {H : Type} {enc : TypeId × Value → H} {P : Program}

theorem nat_of {a : Int} (h : (Lit.int .u64 a).wf = true) : ∃ n : Nat, a = n ∧ n < 18446744073709551616 := by
  have h2 : 0 ≤ a ∧ a ≤ 18446744073709551615 := by simpa [Lit.wf, IntKind.min, IntKind.max, IntKind.bits, IntKind.signed] using h
  exact ⟨a.toNat, by omega, by omega⟩
theorem int_of {a : Int} (h : (Lit.int .i64 a).wf = true) : -9223372036854775808 ≤ a ∧ a ≤ 9223372036854775807 := by
  simpa [Lit.wf, IntKind.min, IntKind.max, IntKind.bits, IntKind.signed] using h

/-- A list of whole numbers that is handed in. -/
structure Ist where
  p : Option Addr
  c : Nat
  l : List Int
def Ist.val (s : Ist) : Value := .slice s.p s.l.length s.c
def Ist.ok (w : World) (s : Ist) : Prop := (∀ j, j < s.l.length → ∃ a, s.p = some a ∧ w.cell? (a.add j) = some (.int .i64 (s.l.getD j 0)) ∧ -9223372036854775808 ≤ s.l.getD j 0 ∧ s.l.getD j 0 ≤ 9223372036854775807) ∧ s.l.length ≤ 9223372036854775807
theorem Ist.ok_below {w w' : World} {s : Ist} (h : s.ok w) (hb : Below w.heap.size w w') : s.ok w' := by
  refine ⟨fun j hj => ?_, h.2⟩
  obtain ⟨a, ha, hc, h1, h2⟩ := h.1 j hj
  exact ⟨a, ha, by rw [hb.cell (cell_lt hc)]; exact hc, h1, h2⟩

/-- What a list's reading tells of its length. -/
def told (d : DataW H) (n : Nat) : Prop := (d = .nil ∧ n = 0) ∨ ∃ elems spare, d = .slice elems spare ∧ elems.length = n

theorem open_lst {t e : TypeId} (ht : P.underlying t = some (.slice e)) (he : P.underlying e = some (.int .u64)) (hc : P.cellsOf e = 1) {W : World} {r : Reach} {b0 base : Nat} {sp : Nat → Bool} {held : Bool} {v : Value} {d : DataW H} {ps : List MemPlace}
    (hval : Value.okWide P W r b0 t v) (hd : DataW.Trod enc P W base sp held t v d ps) : ∃ s : Lst, v = s.val ∧ s.ok W ∧ told d s.l.length := by
  obtain ⟨a0, len, cap, rfl⟩ := okWide_slice ht hval
  obtain ⟨fuel, hf⟩ := hd
  rcases open_ints ht he hc hf with ⟨hcs, hx⟩ | ⟨a, len', cap', zs, hcs, _, hl, hm, hz, hx, hcell, hwz⟩
  · simp [Value.cells] at hcs hx
    obtain ⟨rfl, rfl, rfl⟩ := hcs
    exact ⟨⟨none, 0, []⟩, rfl, ⟨row_nil _ _, (fun x hx => by cases hx), by simp⟩, .inl ⟨hx.1, rfl⟩⟩
  · simp [Value.cells] at hcs hx
    obtain ⟨rfl, rfl, rfl⟩ := hcs
    have hlz : len ≤ zs.length := by rw [hz]; split <;> omega
    have hN : ∀ i, i < zs.length → ∃ n : Nat, zs.getD i 0 = n ∧ n < 18446744073709551616 := by
      intro i hi
      have := hwz (zs.getD i 0) (by rw [List.getD_eq_getElem?_getD, List.getElem?_eq_getElem hi]; exact List.getElem_mem hi)
      exact nat_of this
    have hlen : ((zs.take len).map Int.toNat).length = len := by simp; omega
    have hget : ∀ j, j < len → ((zs.take len).map Int.toNat).getD j 0 = (zs.getD j 0).toNat := by
      intro j hj
      simp [List.getD_eq_getElem?_getD, hj]
      rw [List.getElem?_eq_getElem (by omega)]; simp
    refine ⟨⟨some a, cap, (zs.take len).map Int.toNat⟩, ?_, ⟨?_, ?_, ?_⟩, .inr ⟨_, _, hx.1, ?_⟩⟩
    · unfold Lst.val; rw [hlen]
    · intro j hj
      replace hj : j < len := by rwa [hlen] at hj
      refine ⟨a, rfl, ?_⟩
      obtain ⟨n, hn, hn2⟩ := hN j (by omega)
      rw [hcell j (by omega), hget j hj, hn]; rfl
    · intro x hx2
      obtain ⟨z, hz2, rfl⟩ := List.mem_map.1 hx2
      obtain ⟨n, rfl, hn⟩ := nat_of (hwz z (List.mem_of_mem_take hz2))
      simpa using hn
    · rw [hlen]; unfold maxLen at hm; omega
    · rw [hlen]; simp [lits]; omega

theorem open_ist {t e : TypeId} (ht : P.underlying t = some (.slice e)) (he : P.underlying e = some (.int .i64)) (hc : P.cellsOf e = 1) {W : World} {r : Reach} {b0 base : Nat} {sp : Nat → Bool} {held : Bool} {v : Value} {d : DataW H} {ps : List MemPlace}
    (hval : Value.okWide P W r b0 t v) (hd : DataW.Trod enc P W base sp held t v d ps) : ∃ s : Ist, v = s.val ∧ s.ok W ∧ told d s.l.length := by
  obtain ⟨a0, len, cap, rfl⟩ := okWide_slice ht hval
  obtain ⟨fuel, hf⟩ := hd
  rcases open_ints ht he hc hf with ⟨hcs, hx⟩ | ⟨a, len', cap', zs, hcs, _, hl, hm, hz, hx, hcell, hwz⟩
  · simp [Value.cells] at hcs hx
    obtain ⟨rfl, rfl, rfl⟩ := hcs
    exact ⟨⟨none, 0, []⟩, rfl, ⟨fun j hj => absurd hj (Nat.not_lt_zero _), by simp⟩, .inl ⟨hx.1, rfl⟩⟩
  · simp [Value.cells] at hcs hx
    obtain ⟨rfl, rfl, rfl⟩ := hcs
    have hlz : len ≤ zs.length := by rw [hz]; split <;> omega
    have hlen : (zs.take len).length = len := by simp; omega
    have hget : ∀ j, j < len → (zs.take len).getD j 0 = zs.getD j 0 := by
      intro j hj
      simp [List.getD_eq_getElem?_getD, hj]
    refine ⟨⟨some a, cap, zs.take len⟩, ?_, ⟨?_, ?_⟩, .inr ⟨_, _, hx.1, ?_⟩⟩
    · unfold Ist.val; rw [hlen]
    · intro j hj
      replace hj : j < len := by rwa [hlen] at hj
      refine ⟨a, rfl, ?_⟩
      rw [hget j hj]
      exact ⟨hcell j (by omega), int_of (hwz _ (by rw [List.getD_eq_getElem?_getD, List.getElem?_eq_getElem (by omega)]; exact List.getElem_mem _))⟩
    · rw [hlen]; unfold maxLen at hm; omega
    · rw [hlen]; simp [lits]; omega

/-- A list that is handed in is no longer than memory reaches. -/
theorem told_sized {ts : List TypeId} {ds : List (DataW H)} (h : (DataW.weightsEach P ts ds).all (· ≤ reachBytes) = true) {j : Nat} {t e : TypeId} {d : DataW H} {n : Nat} (ht : ts[j]? = some t) (hd : ds[j]? = some d) (hu : P.underlying t = some (.slice e))
    (hb : P.bytesOf e = 8) (hn : told d n) : n * 8 ≤ 140737488351232 := by
  rcases hn with ⟨_, rfl⟩ | ⟨elems, spare, rfl, rfl⟩
  · omega
  · have := sized_slice h ht hd hu
    rw [hb] at this; unfold reachBytes at this; omega
end Go.Proofs.Ytmifgaknmhcajaa
