/- Which numbers stand in a map, and with what: a map of places by numbers that grows by one; what byId returns. -/
import Derived.Test.YtdcjjfipnilmpaaWst
namespace Go.Proofs.Ytdcjjfipnilmpaa
open Go.RowKit Go.Maps
set_option linter.unusedVariables false

theorem lawi : Keyed Try.prog 3 := int_keyed Try.underlying3
/-- What a number reads as among a map's keys. -/
def kil (c : Int) : Lit := .int .i64 c
theorem key_int {x : Int} (hx : fits x) : keyOf Try.prog 3 (.int .i64 x) = some (kil x) := keyOf_int_mk Try.underlying3 (wf_of hx)
theorem kil_key {c : Int} (h : fits c) : WideAt.IsKeyLit (kil c) := lawi.key (key_int h)
theorem kil_inj {c d : Int} (hc : fits c) (hd : fits d) (h : kil c = kil d) : c = d := by unfold kil at h; injection h

/-- The map D has the numbers of L, each with the last place at which it stands there. -/
structure Mpi (D : DataW Unit) (L : List Int) : Prop where
  tidy : Tidy D
  has_ : ∀ c, fits c → (Maps.has D (kil c) = true ↔ c ∈ L)
  at_ : ∀ c (i : Nat), fits c → L[i]? = some c → (∀ j, i < j → L[j]? ≠ some c) → D.atKey (kil c) (.lit (.int .i64 0)) = .lit (.int .i64 (i : Int))
  le : Maps.size D ≤ L.length
  all : Maps.size D = L.length ↔ L.Nodup
set_option maxRecDepth 100000 in
theorem mpi_empty : Mpi (.map []) [] := ⟨tidy_empty, fun c _ => by simp [Maps.has], fun c i _ h => by simp at h, by simp [Maps.size], by simp [Maps.size]⟩
set_option maxRecDepth 100000 in
theorem mpi_put {D : DataW Unit} {L : List Int} {c : Int} {k : Nat} (h : Mpi D L) (fc : fits c) (hL : ∀ c ∈ L, fits c) (hk : L.length = k) : Mpi (D.put (kil c) (.lit (.int .i64 (k : Int)))) (L ++ [c]) := by
  subst hk
  have hk := kil_key fc
  refine ⟨h.tidy.put hk _, ?_, ?_, ?_, ?_⟩
  · intro d fd
    by_cases e : d = c
    · subst e; rw [has_put_same h.tidy.isMap hk]; simp
    · rw [has_put_other (fun e2 => e (kil_inj fd fc e2)), h.has_ d fd]; simp [e]
  · intro d i fd hi hj
    by_cases e : d = c
    · subst e
      have hi2 : i < L.length + 1 := by have := (List.getElem?_eq_some_iff.1 hi).1; simpa using this
      have : i = L.length := by
        rcases Nat.lt_or_ge i L.length with hlt | hge
        · exact absurd (by simp) (hj L.length hlt)
        · omega
      subst this
      exact atKey_put_same h.tidy.isMap hk _ _
    · have hi2 : i < L.length := by
        rcases Nat.lt_or_ge i L.length with hlt | hge
        · exact hlt
        · exfalso
          rw [List.getElem?_append_right hge] at hi
          have : i - L.length = 0 := by have := (List.getElem?_eq_some_iff.1 hi).1; simpa using this
          rw [this] at hi
          simp at hi
          exact e hi.symm
      rw [atKey_put_other (fun e2 => e (kil_inj fd fc e2))]
      refine h.at_ d i fd ?_ ?_
      · rw [List.getElem?_append_left hi2] at hi; exact hi
      · intro j hij hjd
        refine hj j hij ?_
        have hjl : j < L.length := (List.getElem?_eq_some_iff.1 hjd).1
        rw [List.getElem?_append_left hjl]; exact hjd
  · rw [size_put h.tidy]
    have := h.le
    split <;> simp <;> omega
  · rw [size_put h.tidy]
    have hle := h.le
    cases hh : Maps.has D (kil c) with
    | true =>
      have hm : c ∈ L := (h.has_ c fc).1 hh
      simp only [if_true, List.length_append, List.length_singleton]
      constructor
      · intro e; omega
      · intro e; exact absurd rfl ((List.nodup_append.1 e).2.2 c hm c (by simp))
    | false =>
      have hm : c ∉ L := fun hm => by have := (h.has_ c fc).2 hm; rw [hh] at this; cases this
      simp only [Bool.false_eq_true, if_false, List.length_append, List.length_singleton]
      rw [List.nodup_append]
      constructor
      · intro e; exact ⟨h.all.1 (by omega), by simp, fun a ha b hb => by simp at hb; subst hb; exact fun e => hm (e ▸ ha)⟩
      · intro e; have := h.all.2 e.1; omega
set_option maxRecDepth 100000 in
theorem mpi_no {D : DataW Unit} {L : List Int} {c : Int} (h : Mpi D L) (fc : fits c) (hc : c ∉ L) (z : DataW Unit) : D.atKey (kil c) z = z ∧ Maps.has D (kil c) = false := by
  have : Maps.has D (kil c) = false := by
    cases hh : Maps.has D (kil c) with
    | false => rfl
    | true => exact absurd ((h.has_ c fc).1 hh) hc
  exact ⟨atKey_of_not_has this z, this⟩
/-- The map that lies in block b. -/
def mapi (w : World) (b : Nat) (L : List Int) : Prop := ∃ D n, w.ownsMap Try.prog 3 (plainElem (H := Unit) Try.prog 3) b n D ∧ Mpi D L ∧ n ≤ L.length
set_option maxRecDepth 100000 in
theorem mapi_len {w : World} {b : Nat} {L : List Int} (h : mapi w b L) : ∃ n : Nat, (∀ ty, (Builtin.len_ #[66] ty #[.map (some b)]).run Try.prog w = .ok (.int .i64 (n : Int)) w) ∧ n ≤ L.length ∧ (n = L.length ↔ L.Nodup) := by
  obtain ⟨D, n, h1, h2, _⟩ := h
  exact ⟨Maps.size D, fun ty => h1.len Try.underlying66 ty, h2.le, h2.all⟩
set_option maxRecDepth 100000 in
/-- What stands in the map at a cell: its place, or nothing. -/
theorem mapi_look {w : World} {b : Nat} {L : List Int} {c : Int} (h : mapi w b L) (fc : fits c) : ∃ (v : Int) (r : Bool), (Instr.lookup 66 (.map (some b)) (.int .i64 c) true).run Try.prog w = .ok (.tuple #[.int .i64 v, .bool r]) w ∧ ((c ∉ L ∧ v = 0 ∧ r = false) ∨ (r = true ∧ c ∈ L ∧ ∀ i : Nat, L[i]? = some c → (∀ j, i < j → L[j]? ≠ some c) → v = i)) := by
  obtain ⟨D, n, h1, h2, _⟩ := h
  obtain ⟨v, ps, hrun, hv⟩ := h1.look_ok lawi Try.underlying66 (zero3 w) (plainElem_int Try.underlying3 (by decide)) (key_int fc)
  obtain ⟨a, rfl, ha, _⟩ := plainElem_int_inv Try.underlying3 hv
  have ha1 : D.atKey (kil c) (.lit (.int .i64 0)) = .lit (.int .i64 a) := congrArg Prod.fst ha
  refine ⟨a, _, hrun, ?_⟩
  cases hh : Maps.has D (kil c) with
  | true =>
    refine .inr ⟨rfl, (h2.has_ c fc).1 hh, fun i hi hj => ?_⟩
    have := h2.at_ c i fc hi hj
    rw [ha1] at this
    injection this with this
    injection this
  | false =>
    have hc : c ∉ L := fun hm => by have := (h2.has_ c fc).2 hm; rw [hh] at this; cases this
    have := (mpi_no h2 fc hc (.lit (.int .i64 0))).1
    rw [ha1] at this
    injection this with this
    injection this with _ this
    exact .inl ⟨hc, this, rfl⟩
end Go.Proofs.Ytdcjjfipnilmpaa
