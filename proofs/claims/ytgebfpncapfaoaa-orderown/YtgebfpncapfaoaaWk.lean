/- Which cells stand in a map, and with what: a map of places by cells that grows by one. -/
import Derived.Test.YtgebfpncapfaoaaWm
import Derived.Maps.OwnSet
import Derived.DeepKeys4
namespace Go.Proofs.Ytgebfpncapfaoaa
open Go.RowKit Go.Maps
set_option linter.unusedVariables false

set_option maxRecDepth 100000 in
theorem laidOut0 : laidOutB Try.prog = true := by kernel_rfl
set_option maxRecDepth 100000 in
theorem rowc : (23 : TypeId) < Try.prog.types.size := of_decide_eq_true (by kernel_rfl)
set_option maxRecDepth 100000 in
theorem widec : (match Try.prog.underlying 23 with | some (.array _ _) | some (.struct _) => true | _ => false) = true := by rw [Try.underlying23]
set_option maxRecDepth 100000 in
theorem cellsc : Try.prog.cellsOf 23 = 2 := by kernel_rfl
set_option maxRecDepth 100000 in
theorem cells3 : Try.prog.cellsOf 3 = 1 := by kernel_rfl
set_option maxRecDepth 100000 in
theorem lawc : Keyed Try.prog 23 := Keyed.of_law (deep_law_laid laidOut0 (m := 2) (by omega) rowc (by kernel_rfl) widec)
set_option maxRecDepth 100000 in
theorem zero3 (w : World) : (zeroValue 3).run Try.prog w = .ok (.int .i64 0) w := by kernel_rfl
/-- What a cell reads as among a map's keys. -/
def kcl (c : Cel) : Lit := .string (keyBytes [.int .i64 c.x, .int .i64 c.y])
def fitc (c : Cel) : Prop := fits c.x ∧ fits c.y
set_option maxRecDepth 100000 in
theorem wf_of {x : Int} (h : fits x) : (Lit.int .i64 x).wf = true := by
  unfold fits at h
  simp [Lit.wf, IntKind.min, IntKind.max, IntKind.bits, IntKind.signed]; omega
set_option maxRecDepth 100000 in
theorem key_cell {x y : Int} (hx : fits x) (hy : fits y) : keyOf Try.prog 23 (.agg #[.int .i64 x, .int .i64 y]) = some (kcl ⟨x, y⟩) := by
  have hkt : Try.prog.keyType 23 = true := by kernel_rfl
  obtain ⟨m, hm⟩ : ∃ m, Try.prog.types.size = m + 1 := ⟨Try.prog.types.size - 1, (Nat.sub_add_cancel (Nat.succ_le_of_lt (Nat.lt_of_le_of_lt (Nat.zero_le 23) rowc))).symm⟩
  have wx := wf_of hx
  have wy := wf_of hy
  unfold keyOf
  simp only [Try.underlying23]
  rw [if_pos (by simp [hkt, Value.formed, Try.underlying23, cellsc]), hm]
  unfold Program.keyLits
  simp [Try.underlying23, cellsc, cells3, Value.cells, Program.keyLits, Try.underlying3, wx, wy, kcl]
set_option maxRecDepth 100000 in
theorem kcl_key {c : Cel} (h : fitc c) : WideAt.IsKeyLit (kcl c) := lawc.key (key_cell h.1 h.2)
set_option maxRecDepth 100000 in
theorem kcl_inj {c d : Cel} (hc : fitc c) (hd : fitc d) (h : kcl c = kcl d) : c = d := by
  have h1 := key_cell hc.1 hc.2
  have h2 := key_cell hd.1 hd.2
  have e1 : kcl ⟨c.x, c.y⟩ = kcl c := rfl
  have e2 : kcl ⟨d.x, d.y⟩ = kcl d := rfl
  rw [e1] at h1
  rw [e2, ← h] at h2
  have := lawc.inj h1 h2
  simp at this
  cases c; cases d; simp_all

/-- The map D has the cells of L, each with the last place at which it stands there. -/
structure Mp (D : DataW Unit) (L : List Cel) : Prop where
  tidy : Tidy D
  has_ : ∀ c, fitc c → (Maps.has D (kcl c) = true ↔ c ∈ L)
  at_ : ∀ c (i : Nat), fitc c → L[i]? = some c → (∀ j, i < j → L[j]? ≠ some c) → D.atKey (kcl c) (.lit (.int .i64 0)) = .lit (.int .i64 (i : Int))
  le : Maps.size D ≤ L.length
  all : Maps.size D = L.length ↔ L.Nodup
set_option maxRecDepth 100000 in
theorem mp_empty : Mp (.map []) [] := ⟨tidy_empty, fun c _ => by simp [Maps.has], fun c i _ h => by simp at h, by simp [Maps.size], by simp [Maps.size]⟩
set_option maxRecDepth 100000 in
theorem mp_put {D : DataW Unit} {L : List Cel} {c : Cel} {k : Nat} (h : Mp D L) (fc : fitc c) (hL : ∀ c ∈ L, fitc c) (hk : L.length = k) : Mp (D.put (kcl c) (.lit (.int .i64 (k : Int)))) (L ++ [c]) := by
  subst hk
  have hk := kcl_key fc
  refine ⟨h.tidy.put hk _, ?_, ?_, ?_, ?_⟩
  · intro d fd
    by_cases e : d = c
    · subst e; rw [has_put_same h.tidy.isMap hk]; simp
    · rw [has_put_other (fun e2 => e (kcl_inj fd fc e2)), h.has_ d fd]; simp [e]
  · intro d i fd hi hj
    by_cases e : d = c
    · subst e
      have hi2 : i < L.length + 1 := by have := (List.getElem?_eq_some_iff.1 hi).1; simpa using this
      have : i = L.length := by
        rcases Nat.lt_or_ge i L.length with hlt | hge
        · exact absurd (by simp) (hj L.length hlt)
        · omega
      subst this
      exact atKey_put_same h.tidy.isMap hk _ _
    · have hi2 : i < L.length := by
        rcases Nat.lt_or_ge i L.length with hlt | hge
        · exact hlt
        · exfalso
          rw [List.getElem?_append_right hge] at hi
          have : i - L.length = 0 := by have := (List.getElem?_eq_some_iff.1 hi).1; simpa using this
          rw [this] at hi
          simp at hi
          exact e hi.symm
      rw [atKey_put_other (fun e2 => e (kcl_inj fd fc e2))]
      refine h.at_ d i fd ?_ ?_
      · rw [List.getElem?_append_left hi2] at hi; exact hi
      · intro j hij hjd
        refine hj j hij ?_
        have hjl : j < L.length := (List.getElem?_eq_some_iff.1 hjd).1
        rw [List.getElem?_append_left hjl]; exact hjd
  · rw [size_put h.tidy]
    have := h.le
    split <;> simp <;> omega
  · rw [size_put h.tidy]
    have hle := h.le
    cases hh : Maps.has D (kcl c) with
    | true =>
      have hm : c ∈ L := (h.has_ c fc).1 hh
      simp only [if_true, List.length_append, List.length_singleton]
      constructor
      · intro e; omega
      · intro e; exact absurd rfl ((List.nodup_append.1 e).2.2 c hm c (by simp))
    | false =>
      have hm : c ∉ L := fun hm => by have := (h.has_ c fc).2 hm; rw [hh] at this; cases this
      simp only [Bool.false_eq_true, if_false, List.length_append, List.length_singleton]
      rw [List.nodup_append]
      constructor
      · intro e; exact ⟨h.all.1 (by omega), by simp, fun a ha b hb => by simp at hb; subst hb; exact fun e => hm (e ▸ ha)⟩
      · intro e; have := h.all.2 e.1; omega
set_option maxRecDepth 100000 in
theorem mp_no {D : DataW Unit} {L : List Cel} {c : Cel} (h : Mp D L) (fc : fitc c) (hc : c ∉ L) (z : DataW Unit) : D.atKey (kcl c) z = z ∧ Maps.has D (kcl c) = false := by
  have : Maps.has D (kcl c) = false := by
    cases hh : Maps.has D (kcl c) with
    | false => rfl
    | true => exact absurd ((h.has_ c fc).1 hh) hc
  exact ⟨atKey_of_not_has this z, this⟩
/-- The map that lies in block b. -/
def mapc (w : World) (b : Nat) (L : List Cel) : Prop := ∃ D n, w.ownsMap Try.prog 23 (plainElem (H := Unit) Try.prog 3) b n D ∧ Mp D L ∧ n ≤ L.length
set_option maxRecDepth 100000 in
theorem mapc_len {w : World} {b : Nat} {L : List Cel} (h : mapc w b L) : ∃ n : Nat, (∀ ty, (Builtin.len_ #[119] ty #[.map (some b)]).run Try.prog w = .ok (.int .i64 (n : Int)) w) ∧ n ≤ L.length ∧ (n = L.length ↔ L.Nodup) := by
  obtain ⟨D, n, h1, h2, _⟩ := h
  exact ⟨Maps.size D, fun ty => h1.len Try.underlying119 ty, h2.le, h2.all⟩
set_option maxRecDepth 100000 in
/-- What stands in the map at a cell: its place, or nothing. -/
theorem mapc_look {w : World} {b : Nat} {L : List Cel} {c : Cel} (h : mapc w b L) (fc : fitc c) : ∃ (v : Int) (r : Bool), (Instr.lookup 119 (.map (some b)) (.agg #[.int .i64 c.x, .int .i64 c.y]) true).run Try.prog w = .ok (.tuple #[.int .i64 v, .bool r]) w ∧ ((c ∉ L ∧ v = 0 ∧ r = false) ∨ (r = true ∧ c ∈ L ∧ ∀ i : Nat, L[i]? = some c → (∀ j, i < j → L[j]? ≠ some c) → v = i)) := by
  obtain ⟨D, n, h1, h2, _⟩ := h
  obtain ⟨v, ps, hrun, hv⟩ := h1.look_ok lawc Try.underlying119 (zero3 w) (plainElem_int Try.underlying3 (by decide)) (key_cell fc.1 fc.2)
  obtain ⟨a, rfl, ha, _⟩ := plainElem_int_inv Try.underlying3 hv
  have ha1 : D.atKey (kcl c) (.lit (.int .i64 0)) = .lit (.int .i64 a) := congrArg Prod.fst ha
  refine ⟨a, _, hrun, ?_⟩
  cases hh : Maps.has D (kcl ⟨c.x, c.y⟩) with
  | true =>
    refine .inr ⟨rfl, (h2.has_ c fc).1 hh, fun i hi hj => ?_⟩
    have := h2.at_ c i fc hi hj
    rw [ha1] at this
    injection this with this
    injection this
  | false =>
    have hc : c ∉ L := fun hm => by have := (h2.has_ c fc).2 hm; rw [show kcl c = kcl ⟨c.x, c.y⟩ from rfl, hh] at this; cases this
    have := (mp_no h2 fc hc (.lit (.int .i64 0))).1
    rw [ha1] at this
    injection this with this
    injection this with _ this
    exact .inl ⟨hc, this, rfl⟩
end Go.Proofs.Ytgebfpncapfaoaa
