/- How a field that is handed in is opened. -/
import Derived.Test.YteemcighpoomhaaCon
import Derived.OpenShut
import Derived.SizedLaws
namespace Go.Proofs.Yteemcighpoomhaa
open Go.ChangeShapes Go.WideShapes Go.RowKit
set_option linter.unusedVariables false
variable {H : Type} {enc : TypeId × Value → H} {P : Program}

theorem int_of {a : Int} (h : (Lit.int .i64 a).wf = true) : fits a := by
  unfold fits
  simpa [Lit.wf, IntKind.min, IntKind.max, IntKind.bits, IntKind.signed] using h

/-- What a list's reading tells of its length. -/
def told (d : DataW H) (n : Nat) : Prop := (d = .nil ∧ n = 0) ∨ ∃ elems spare, d = .slice elems spare ∧ elems.length = n
/-- A field that is handed in: its sides, where its places lie, their room, the places. -/
structure Fld where
  A : Int
  B : Int
  p : Option Addr
  c : Nat
  l : List Int
def Fld.val (s : Fld) : Value := .agg #[.int .i64 s.A, .int .i64 s.B, .slice s.p s.l.length s.c]
def Fld.fit (w : World) (s : Fld) : Prop := fits s.A ∧ fits s.B ∧ row vi w s.p s.l ∧ (∀ x ∈ s.l, fits x) ∧ s.l.length ≤ 9223372036854775807 ∧ (s.p = none → s.c = 0) ∧ s.l.length ≤ s.c

theorem open_fld {t t3 t22 : TypeId} {f0 f1 f2 : Field} (ht : P.underlying t = some (.struct #[f0, f1, f2])) (h3 : P.underlying t3 = some (.int .i64)) (h22 : P.underlying t22 = some (.slice t3)) (y0 : f0.type = t3) (y1 : f1.type = t3) (y2 : f2.type = t22) (o0 : f0.offset = 0) (o1 : f1.offset = 1) (o2 : f2.offset = 2)
    (c3 : P.cellsOf t3 = 1) (c22 : P.cellsOf t22 = 1) (hc : P.cellsOf t = 3) {W : World} {r : Reach} {b0 base : Nat} {sp : Nat → Bool} {held : Bool} {v : Value} {d : DataW H} {ps : List MemPlace} (hval : Value.okWide P W r b0 t v) (hd : DataW.Trod enc P W base sp held t v d ps) :
    ∃ s : Fld, v = s.val ∧ s.fit W ∧ ∃ d2, d = .agg [.lit (.int .i64 s.A), .lit (.int .i64 s.B), d2] ∧ told d2 s.l.length := by
  obtain ⟨cs, rfl, hs⟩ := okWide_struct ht hval
  rw [hc] at hs
  obtain ⟨fuel, hf⟩ := hd
  obtain ⟨xs, n, _, hx, _, hxl, hfs⟩ := DataW.trod_struct ht hf
  have e0 := hfs 0 f0 rfl
  have e1 := hfs 1 f1 rfl
  have e2 := hfs 2 f2 rfl
  obtain ⟨l⟩ := cs
  match l, hs with
  | [u0, u1, u2], _ =>
    match xs, hxl with
    | [z0, z1, z2], _ =>
      simp only [y0, y1, y2, o0, o1, o2, c3, c22, Value.cells] at e0 e1 e2
      obtain ⟨A, ea, ra, wa⟩ := DataW.trod_int h3 e0
      obtain ⟨B, eb, rb, wb⟩ := DataW.trod_int h3 e1
      simp at ea eb ra rb
      subst ea eb ra rb
      rcases open_ints h22 h3 c3 e2 with ⟨hcs, hx2⟩ | ⟨a, len, cap, zs, hcs, _, hl, hm, hz, hx2, hcell, hwz⟩
      · simp at hcs hx2
        subst hcs hx2
        simp at hx
        exact ⟨⟨A, B, none, 0, []⟩, rfl, ⟨int_of wa, int_of wb, row_nil _ _ _, (fun x hx => by cases hx), by simp, fun _ => rfl, Nat.le_refl _⟩, _, hx.1, .inl ⟨rfl, rfl⟩⟩
      · simp at hcs hx2
        subst hcs hx2
        simp at hx
        have hlz : len ≤ zs.length := by rw [hz]; split <;> omega
        have hlen : (zs.take len).length = len := by simp; omega
        refine ⟨⟨A, B, some a, cap, zs.take len⟩, ?_, ⟨int_of wa, int_of wb, ?_, ?_, ?_, fun h => (by cases h), ?_⟩, _, hx.1, .inr ⟨_, _, rfl, ?_⟩⟩
        · unfold Fld.val; rw [hlen]
        · intro j x hj
          have hj' : j < len := by have := (List.getElem?_eq_some_iff.1 hj).1; rwa [hlen] at this
          refine ⟨a, rfl, ?_⟩
          rw [hcell j (by omega)]
          have : zs.getD j 0 = x := by
            rw [List.getElem?_take, if_pos hj'] at hj
            rw [List.getD_eq_getElem?_getD, hj]; rfl
          rw [this]; rfl
        · intro x hx2
          exact int_of (hwz x (List.mem_of_mem_take hx2))
        · rw [hlen]; unfold maxLen at hm; omega
        · show (zs.take len).length ≤ cap
          rw [hlen]; exact hl
        · rw [hlen]; simp [lits]; omega

/-- The places of a field that is handed in are no more than memory reaches. -/
theorem fld_sized {ts : List TypeId} {ds : List (DataW H)} (h : (DataW.weightsEach P ts ds).all (· ≤ reachBytes) = true) {j : Nat} {t t22 t3 : TypeId} {f0 f1 f2 : Field} {d2 : DataW H} {A B : Int} {n : Nat} (ht : ts[j]? = some t) (hd : ds[j]? = some (.agg [.lit (.int .i64 A), .lit (.int .i64 B), d2])) (hu : P.underlying t = some (.struct #[f0, f1, f2])) (y2 : f2.type = t22) (h22 : P.underlying t22 = some (.slice t3))
    (hb : P.bytesOf t3 = 8) (hn : told d2 n) : n * 8 ≤ 140737488351232 := by
  rcases hn with ⟨_, rfl⟩ | ⟨elems, spare, rfl, rfl⟩
  · omega
  · have h1 : (elems.length + spare.length) * 8 ∈ (DataW.agg [.lit (.int .i64 A), .lit (.int .i64 B), .slice elems spare] : DataW H).weights P t := by
      simp only [DataW.weights, hu, List.map_cons, List.map_nil, DataW.weightsEach, y2, h22, hb]
      simp
    have := List.all_eq_true.1 h _ (DataW.weights_mem_each ht hd _ h1)
    have h2 : (elems.length + spare.length) * 8 ≤ reachBytes := by simpa using this
    unfold reachBytes at h2
    omega
end Go.Proofs.Yteemcighpoomhaa
