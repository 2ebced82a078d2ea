/- How lists of whole numbers that are handed in are opened. -/
import Derived.Test.YtdciebhnnggcoaaOwn
import Derived.OpenShut
import Derived.SizedLaws
namespace Go.Proofs.Ytdciebhnnggcoaa
open Go.ChangeShapes Go.WideShapes Go.RowKit
set_option linter.unusedVariables false
variable {H : Type} {enc : TypeId × Value → H} {P : Program}

theorem nat_of {a : Int} (h : (Lit.int .u64 a).wf = true) : ∃ n : Nat, a = n ∧ n < 18446744073709551616 := by
  have h2 : 0 ≤ a ∧ a ≤ 18446744073709551615 := by simpa [Lit.wf, IntKind.min, IntKind.max, IntKind.bits, IntKind.signed] using h
  exact ⟨a.toNat, by omega, by omega⟩
theorem int_of {a : Int} (h : (Lit.int .i64 a).wf = true) : fits a := by
  unfold fits
  simpa [Lit.wf, IntKind.min, IntKind.max, IntKind.bits, IntKind.signed] using h

/-- What a list's reading tells of its length. -/
def told (d : DataW H) (n : Nat) : Prop := (d = .nil ∧ n = 0) ∨ ∃ elems spare, d = .slice elems spare ∧ elems.length = n
/-- A list of whole numbers that is handed in: where it lies, its room, its numbers. -/
structure Ist where
  p : Option Addr
  c : Nat
  l : List Int
def Ist.val (s : Ist) : Value := .slice s.p s.l.length s.c
def Ist.fit (w : World) (s : Ist) : Prop := row vi w s.p s.l ∧ (∀ x ∈ s.l, fits x) ∧ s.l.length ≤ 9223372036854775807 ∧ (s.p = none → s.c = 0) ∧ s.l.length ≤ s.c

theorem open_ist {t e : TypeId} (ht : P.underlying t = some (.slice e)) (he : P.underlying e = some (.int .i64)) (hc : P.cellsOf e = 1) {W : World} {r : Reach} {b0 base : Nat} {sp : Nat → Bool} {held : Bool} {v : Value} {d : DataW H} {ps : List MemPlace}
    (hval : Value.okWide P W r b0 t v) (hd : DataW.Trod enc P W base sp held t v d ps) : ∃ s : Ist, v = s.val ∧ s.fit W ∧ told d s.l.length := by
  obtain ⟨a0, len, cap, rfl⟩ := okWide_slice ht hval
  obtain ⟨fuel, hf⟩ := hd
  rcases open_ints ht he hc hf with ⟨hcs, hx⟩ | ⟨a, len', cap', zs, hcs, _, hl, hm, hz, hx, hcell, hwz⟩
  · simp [Value.cells] at hcs hx
    obtain ⟨rfl, rfl, rfl⟩ := hcs
    exact ⟨⟨none, 0, []⟩, rfl, ⟨row_nil _ _ _, (fun x hx => by cases hx), by simp, fun _ => rfl, Nat.le_refl _⟩, .inl ⟨hx.1, rfl⟩⟩
  · simp [Value.cells] at hcs hx
    obtain ⟨rfl, rfl, rfl⟩ := hcs
    have hlz : len ≤ zs.length := by rw [hz]; split <;> omega
    have hlen : (zs.take len).length = len := by simp; omega
    refine ⟨⟨some a, cap, zs.take len⟩, ?_, ⟨?_, ?_, ?_, fun h => (by cases h), ?_⟩, .inr ⟨_, _, hx.1, ?_⟩⟩
    · unfold Ist.val; rw [hlen]
    · intro j x hj
      have hj' : j < len := by have := (List.getElem?_eq_some_iff.1 hj).1; rwa [hlen] at this
      refine ⟨a, rfl, ?_⟩
      rw [hcell j (by omega)]
      have : zs.getD j 0 = x := by
        rw [List.getElem?_take, if_pos hj'] at hj
        rw [List.getD_eq_getElem?_getD, hj]; rfl
      rw [this]; rfl
    · intro x hx2
      exact int_of (hwz x (List.mem_of_mem_take hx2))
    · rw [hlen]; unfold maxLen at hm; omega
    · show (zs.take len).length ≤ cap
      rw [hlen]; exact hl
    · rw [hlen]; simp [lits]; omega

/-- A list that is handed in is no longer than memory reaches. -/
theorem told_sized {ts : List TypeId} {ds : List (DataW H)} (h : (DataW.weightsEach P ts ds).all (· ≤ reachBytes) = true) {j b : Nat} {t e : TypeId} {d : DataW H} {n : Nat} (ht : ts[j]? = some t) (hd : ds[j]? = some d) (hu : P.underlying t = some (.slice e))
    (hb : P.bytesOf e = b) (hn : told d n) : n * b ≤ 140737488351232 := by
  rcases hn with ⟨_, rfl⟩ | ⟨elems, spare, rfl, rfl⟩
  · omega
  · have := sized_slice h ht hd hu
    rw [hb, Nat.add_mul] at this; unfold reachBytes at this; omega
end Go.Proofs.Ytdciebhnnggcoaa
