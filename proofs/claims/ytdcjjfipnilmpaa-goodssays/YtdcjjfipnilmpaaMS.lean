/- Of troops that stand, one by one -/
import Derived.Test.YtdcjjfipnilmpaaWk
/- What standing returns: a map of the troops' places by their cells. -/
namespace Go.Proofs.Ytdcjjfipnilmpaa
open Go.RowKit Go.Maps
set_option linter.unusedVariables false

/-- A troop as a value. -/
def tv (t : Trp) : Value := .agg #[.int .i64 t.i, .int .i64 t.o, .int .i64 t.k, .int .i64 t.x, .int .i64 t.y, .int .i64 t.f, .int .i64 t.d]
def fitt (t : Trp) : Prop := fits t.i ∧ fits t.o ∧ fits t.k ∧ fits t.x ∧ fits t.y ∧ fits t.f ∧ fits t.d
/-- A box of a troop's own. -/
theorem boxt {w w0 V : World} {a b c d e f g : Value} {t : TypeId} {F : Nat} (hF : w.heap.size = F) (hw : w.alloc (.cells #[a, b, c, d, e, f, g] t) = w0) (hb : Below w0.heap.size w0 V) :
    V.cell? ⟨F, 0, none⟩ = some a ∧ V.cell? ⟨F, 1, none⟩ = some b ∧ V.cell? ⟨F, 2, none⟩ = some c ∧ V.cell? ⟨F, 3, none⟩ = some d ∧ V.cell? ⟨F, 4, none⟩ = some e ∧ V.cell? ⟨F, 5, none⟩ = some f ∧ V.cell? ⟨F, 6, none⟩ = some g := by
  subst hw hF
  refine ⟨?_, ?_, ?_, ?_, ?_, ?_, ?_⟩
  all_goals
    rw [hb.cell (by simp)]
    simp [go_sem]
theorem take_map_snoc {lt : List Trp} {k : Nat} (hk : k < lt.length) : (lt.map Trp.c).take (k + 1) = (lt.map Trp.c).take k ++ [lt[k].c] := by
  rw [List.take_succ_eq_append_getElem (by simpa using hk)]; simp
theorem run_makeMap_hint (w : World) (n : Int) : (Instr.makeMap 94 (some (.int .i64 n))).run Try.prog w = .ok (.map (some w.heap.size)) (w.alloc (.map #[] 0)) := by
  simp [Instr.makeMap, run_underlying Try.underlying94, asInt, go_sem]
set_option maxRecDepth 20000 in
set_option maxHeartbeats 2000000 in
theorem standing_any (p : Option Addr) (n c : Nat) (lt : List Trp) (w : World) (hr : trow w p lt) (hn : lt.length = n) (hm : n ≤ 100) (hx : ∀ t ∈ lt, fitt t) :
    Calls Try.prog 62 #[.slice p n c] w fun e w' => (∃ b, e = .returned (.map (some b)) ∧ mapc w' b (lt.map Trp.c)) ∧ Below w.heap.size w w' := by
  have H1 : Hid (trow w p lt) := hr
  have HN : Hid (lt.length = n) := hn
  have HX : Hid (∀ t ∈ lt, fitt t) := hx
  clear hr hn hx
  have hmm := run_makeMap_hint
  obtain ⟨B, hB⟩ : ∃ B, w.heap.size = B := ⟨_, rfl⟩
  have HB : Hid (w.heap.size = B) := hB
  go_enter Try.func62, Try.ntmps62
  go_wp2_with fail
  have HM0 : Hid (mapc (w.alloc (.map #[] 0)) B ((lt.map Trp.c).take 0)) := ⟨_, 0, by rw [← hB]; exact World.ownsMap_made _ _ _ _, by simpa using mp_empty, Nat.zero_le _⟩
  have HB0 : Hid (Below w.heap.size w (w.alloc (.map #[] 0))) := alloc_below _ _
  go_loopw [11] (fun i wr => ∃ k : Nat, i = .int .i64 (k : Int) ∧ k ≤ n ∧ Hid (Below w.heap.size w wr ∧ mapc wr B ((lt.map Trp.c).take k))) (fun i _ => n - (intOf i).toNat)
  case atStart => exact ⟨0, rfl, by omega, HB0.out, HM0.out⟩
  case round =>
    obtain ⟨k, rfl, hk, HS⟩ := hrel
    by_cases hlt : k < n
    · have hkl : k < lt.length := by rw [HN.out]; exact hlt
      obtain ⟨a, rfl, hc⟩ := trow_at (trow_below H1.out HS.out.1) hkl
      obtain ⟨t, ht⟩ : ∃ t, lt[k] = t := ⟨_, rfl⟩
      have hft := HX.out _ (List.getElem_mem hkl)
      have hsn := take_map_snoc hkl
      rw [ht] at hc hft hsn
      obtain ⟨ti, to_, tk, tx, ty, tf, td⟩ := t
      obtain ⟨c0, c1, c2, c3, c4, c5, c6⟩ := hc
      simp only at c0 c1 c2 c3 c4 c5 c6
      obtain ⟨w4, hw4⟩ : ∃ w4, wr.alloc (.cells #[.int .i64 ti, .int .i64 to_, .int .i64 tk, .int .i64 tx, .int .i64 ty, .int .i64 tf, .int .i64 td] 47) = w4 := ⟨_, rfl⟩
      obtain ⟨G, hG⟩ : ∃ G, wr.heap.size = G := ⟨_, rfl⟩
      obtain ⟨-, -, -, g3, g4, -, -⟩ := boxt hG hw4 (Below.refl _ _)
      obtain ⟨D, m, ho, hp, hml⟩ := HS.out.2
      have ho4 : w4.ownsMap Try.prog 45 (plainElem (H := Unit) Try.prog 3) B m D := by rw [← hw4]; exact ho.alloc _
      have hB4 : Below w.heap.size w w4 := by rw [← hw4]; exact HS.out.1.alloc HS.out.1.size _
      have hkey := key_cell (x := tx) (y := ty) hft.2.2.2.1 hft.2.2.2.2.1
      have hm1 : m < maxLen := by rw [List.length_take] at hml; unfold maxLen; omega
      have wfk : (Lit.int .i64 (k : Int)).wf = true := wf_of (by unfold fits; omega)
      have HFC : Hid (fitc ⟨tx, ty⟩) := ⟨hft.2.2.2.1, hft.2.2.2.2.1⟩
      have HP : Hid (Mp D ((lt.map Trp.c).take k)) := hp
      have HSN : Hid ((lt.map Trp.c).take (k + 1) = (lt.map Trp.c).take k ++ [⟨tx, ty⟩]) := hsn
      have HB4 : Hid (Below w.heap.size w w4) := hB4
      have HML : Hid (m ≤ k) := by rw [List.length_take] at hml; unfold Hid; omega
      have l1 : (k : Int) < n := by omega
      have l2 : (0 : Int) ≤ k := by omega
      clear ht hp hft hsn hB4 ho HS hml
      go_wp2_with (at_mapUpdate; refine wpList_mapUpdate_own _ rfl _ _ _ 94 rfl 45 3 lawc Try.underlying94 _ B m D rfl ho4 hm1 _ _ _ rfl rfl hkey _ [] (plainElem_int Try.underlying3 wfk) ?_; intro w5 hown5 hgrow5)
      have HS5 : Hid (Below w.heap.size w w5 ∧ mapc w5 B ((lt.map Trp.c).take (k + 1))) := by
        refine ⟨HB4.out.grown hgrow5 HB4.out.size (fun j hj => by cases hj; exact Nat.le_of_eq HB.out), ⟨_, m + 1, hown5, ?_, ?_⟩⟩
        · rw [HSN.out]
          refine mp_put HP.out HFC.out ?_ (by rw [List.length_take, List.length_map, HN.out]; omega)
          intro d hd
          obtain ⟨t, ht, rfl⟩ := List.mem_map.1 (List.mem_of_mem_take hd)
          exact ⟨(HX.out t ht).2.2.2.1, (HX.out t ht).2.2.2.2.1⟩
        · have := HML.out; rw [List.length_take, List.length_map, HN.out]; omega
      clear hown5 hgrow5
      go_wp2_with fail
      go_roundw
      case rel => exact ⟨k + 1, by go_num, by omega, HS5.out⟩
      case measure => simp [intOf]; omega
    · have hkn : k = n := by omega
      subst hkn
      go_wp2_with fail
      go_ret
      refine ⟨⟨B, rfl, ?_⟩, HS.out.1⟩
      have e : (lt.map Trp.c).take k = lt.map Trp.c := List.take_of_length_le (by rw [List.length_map, HN.out]; exact Nat.le_refl _)
      have := HS.out.2
      rw [e] at this; exact this
end Go.Proofs.Ytdcjjfipnilmpaa
/- Which numbers stand in a map, and with what: a map of places by numbers that grows by one; what byId returns. -/
namespace Go.Proofs.Ytdcjjfipnilmpaa
open Go.RowKit Go.Maps
set_option linter.unusedVariables false

theorem lawi : Keyed Try.prog 3 := int_keyed Try.underlying3
/-- What a number reads as among a map's keys. -/
def kil (c : Int) : Lit := .int .i64 c
theorem key_int {x : Int} (hx : fits x) : keyOf Try.prog 3 (.int .i64 x) = some (kil x) := keyOf_int_mk Try.underlying3 (wf_of hx)
theorem kil_key {c : Int} (h : fits c) : WideAt.IsKeyLit (kil c) := lawi.key (key_int h)
theorem kil_inj {c d : Int} (hc : fits c) (hd : fits d) (h : kil c = kil d) : c = d := by unfold kil at h; injection h

/-- The map D has the numbers of L, each with the last place at which it stands there. -/
structure Mpi (D : DataW Unit) (L : List Int) : Prop where
  tidy : Tidy D
  has_ : ∀ c, fits c → (Maps.has D (kil c) = true ↔ c ∈ L)
  at_ : ∀ c (i : Nat), fits c → L[i]? = some c → (∀ j, i < j → L[j]? ≠ some c) → D.atKey (kil c) (.lit (.int .i64 0)) = .lit (.int .i64 (i : Int))
  le : Maps.size D ≤ L.length
  all : Maps.size D = L.length ↔ L.Nodup
set_option maxRecDepth 100000 in
theorem mpi_empty : Mpi (.map []) [] := ⟨tidy_empty, fun c _ => by simp [Maps.has], fun c i _ h => by simp at h, by simp [Maps.size], by simp [Maps.size]⟩
set_option maxRecDepth 100000 in
theorem mpi_put {D : DataW Unit} {L : List Int} {c : Int} {k : Nat} (h : Mpi D L) (fc : fits c) (hL : ∀ c ∈ L, fits c) (hk : L.length = k) : Mpi (D.put (kil c) (.lit (.int .i64 (k : Int)))) (L ++ [c]) := by
  subst hk
  have hk := kil_key fc
  refine ⟨h.tidy.put hk _, ?_, ?_, ?_, ?_⟩
  · intro d fd
    by_cases e : d = c
    · subst e; rw [has_put_same h.tidy.isMap hk]; simp
    · rw [has_put_other (fun e2 => e (kil_inj fd fc e2)), h.has_ d fd]; simp [e]
  · intro d i fd hi hj
    by_cases e : d = c
    · subst e
      have hi2 : i < L.length + 1 := by have := (List.getElem?_eq_some_iff.1 hi).1; simpa using this
      have : i = L.length := by
        rcases Nat.lt_or_ge i L.length with hlt | hge
        · exact absurd (by simp) (hj L.length hlt)
        · omega
      subst this
      exact atKey_put_same h.tidy.isMap hk _ _
    · have hi2 : i < L.length := by
        rcases Nat.lt_or_ge i L.length with hlt | hge
        · exact hlt
        · exfalso
          rw [List.getElem?_append_right hge] at hi
          have : i - L.length = 0 := by have := (List.getElem?_eq_some_iff.1 hi).1; simpa using this
          rw [this] at hi
          simp at hi
          exact e hi.symm
      rw [atKey_put_other (fun e2 => e (kil_inj fd fc e2))]
      refine h.at_ d i fd ?_ ?_
      · rw [List.getElem?_append_left hi2] at hi; exact hi
      · intro j hij hjd
        refine hj j hij ?_
        have hjl : j < L.length := (List.getElem?_eq_some_iff.1 hjd).1
        rw [List.getElem?_append_left hjl]; exact hjd
  · rw [size_put h.tidy]
    have := h.le
    split <;> simp <;> omega
  · rw [size_put h.tidy]
    have hle := h.le
    cases hh : Maps.has D (kil c) with
    | true =>
      have hm : c ∈ L := (h.has_ c fc).1 hh
      simp only [if_true, List.length_append, List.length_singleton]
      constructor
      · intro e; omega
      · intro e; exact absurd rfl ((List.nodup_append.1 e).2.2 c hm c (by simp))
    | false =>
      have hm : c ∉ L := fun hm => by have := (h.has_ c fc).2 hm; rw [hh] at this; cases this
      simp only [Bool.false_eq_true, if_false, List.length_append, List.length_singleton]
      rw [List.nodup_append]
      constructor
      · intro e; exact ⟨h.all.1 (by omega), by simp, fun a ha b hb => by simp at hb; subst hb; exact fun e => hm (e ▸ ha)⟩
      · intro e; have := h.all.2 e.1; omega
set_option maxRecDepth 100000 in
theorem mpi_no {D : DataW Unit} {L : List Int} {c : Int} (h : Mpi D L) (fc : fits c) (hc : c ∉ L) (z : DataW Unit) : D.atKey (kil c) z = z ∧ Maps.has D (kil c) = false := by
  have : Maps.has D (kil c) = false := by
    cases hh : Maps.has D (kil c) with
    | false => rfl
    | true => exact absurd ((h.has_ c fc).1 hh) hc
  exact ⟨atKey_of_not_has this z, this⟩
/-- The map that lies in block b. -/
def mapi (w : World) (b : Nat) (L : List Int) : Prop := ∃ D n, w.ownsMap Try.prog 3 (plainElem (H := Unit) Try.prog 3) b n D ∧ Mpi D L ∧ n ≤ L.length
set_option maxRecDepth 100000 in
theorem mapi_len {w : World} {b : Nat} {L : List Int} (h : mapi w b L) : ∃ n : Nat, (∀ ty, (Builtin.len_ #[66] ty #[.map (some b)]).run Try.prog w = .ok (.int .i64 (n : Int)) w) ∧ n ≤ L.length ∧ (n = L.length ↔ L.Nodup) := by
  obtain ⟨D, n, h1, h2, _⟩ := h
  exact ⟨Maps.size D, fun ty => h1.len Try.underlying66 ty, h2.le, h2.all⟩
set_option maxRecDepth 100000 in
/-- What stands in the map at a cell: its place, or nothing. -/
theorem mapi_look {w : World} {b : Nat} {L : List Int} {c : Int} (h : mapi w b L) (fc : fits c) : ∃ (v : Int) (r : Bool), (Instr.lookup 66 (.map (some b)) (.int .i64 c) true).run Try.prog w = .ok (.tuple #[.int .i64 v, .bool r]) w ∧ ((c ∉ L ∧ v = 0 ∧ r = false) ∨ (r = true ∧ c ∈ L ∧ ∀ i : Nat, L[i]? = some c → (∀ j, i < j → L[j]? ≠ some c) → v = i)) := by
  obtain ⟨D, n, h1, h2, _⟩ := h
  obtain ⟨v, ps, hrun, hv⟩ := h1.look_ok lawi Try.underlying66 (zero3 w) (plainElem_int Try.underlying3 (by decide)) (key_int fc)
  obtain ⟨a, rfl, ha, _⟩ := plainElem_int_inv Try.underlying3 hv
  have ha1 : D.atKey (kil c) (.lit (.int .i64 0)) = .lit (.int .i64 a) := congrArg Prod.fst ha
  refine ⟨a, _, hrun, ?_⟩
  cases hh : Maps.has D (kil c) with
  | true =>
    refine .inr ⟨rfl, (h2.has_ c fc).1 hh, fun i hi hj => ?_⟩
    have := h2.at_ c i fc hi hj
    rw [ha1] at this
    injection this with this
    injection this
  | false =>
    have hc : c ∉ L := fun hm => by have := (h2.has_ c fc).2 hm; rw [hh] at this; cases this
    have := (mpi_no h2 fc hc (.lit (.int .i64 0))).1
    rw [ha1] at this
    injection this with this
    injection this with _ this
    exact .inl ⟨hc, this, rfl⟩
end Go.Proofs.Ytdcjjfipnilmpaa
/- Whether a troop stands on a cell; whether one has a number: the closures of goods.isFree and of the document's own answer. -/
namespace Go.Proofs.Ytdcjjfipnilmpaa
open Go.RowKit
set_option linter.unusedVariables false

/-- The first place at which P is true, or less than 0. -/
def fst1 (P : Trp → Bool) (lt : List Trp) (r : Int) : Prop := (r < 0 ∧ ∀ j (h : j < lt.length), P lt[j] = false) ∨ ∃ i : Nat, ∃ h : i < lt.length, r = i ∧ P lt[i] = true
set_option maxRecDepth 20000 in
set_option maxHeartbeats 2000000 in
theorem IndexFunct_any {f : Nat} (hen0 : Enters f) (k0 : Value) (p : Option Addr) (n c : Nat) (lt : List Trp) (P : Trp → Bool) (w : World) (hr : trow w p lt) (hn : lt.length = n) (hm : n ≤ 9223372036854775807)
    (hf : Hid (∀ t V, t ∈ lt → Below w.heap.size w V → Calls Try.prog f #[tv t, k0] V fun e w' => e = .returned (.bool (P t)) ∧ Below V.heap.size V w')) :
    Calls Try.prog 50 #[.slice p n c, .func (.func f) #[] #[k0]] w fun e w' => (∃ r, e = .returned (.int .i64 r) ∧ Hid (fst1 P lt r)) ∧ Below w.heap.size w w' := by
  have hen : ∀ (args : Array Value) (w : World), (callFunc f args).run Try.prog w = .ok (.enter f args) w := hen0
  clear hen0
  have HRT : Hid (trow w p lt) := hr
  have HN : Hid (lt.length = n) := hn
  clear hr hn
  go_enter Try.func50, Try.ntmps50
  go_wp2_with fail
  go_loopw [8] (fun i wr => ∃ k : Nat, i = .int .i64 (k : Int) ∧ k ≤ n ∧ Hid (Below w.heap.size w wr ∧ ∀ j (h : j < lt.length), j < k → P lt[j] = false)) (fun i _ => n - (intOf i).toNat)
  case atStart => exact ⟨0, rfl, by omega, Below.refl _ _, fun j h hj => by omega⟩
  case round =>
    obtain ⟨k, rfl, hk, HS⟩ := hrel
    by_cases hkn : k < n
    · have hkl : k < lt.length := by rw [HN.out]; exact hkn
      obtain ⟨a, rfl, hc⟩ := trow_at (trow_below HRT.out HS.out.1) hkl
      obtain ⟨t, ht⟩ : ∃ t, lt[k] = t := ⟨_, rfl⟩
      have HT : Hid (lt[k] = t) := ht
      obtain ⟨g, hg⟩ : ∃ g, P t = g := ⟨_, rfl⟩
      have HPT : Hid (Calls Try.prog f #[tv t, k0] wr fun e w' => e = .returned (.bool g) ∧ Below wr.heap.size wr w') := by
        have := hf.out t wr (by rw [← ht]; exact List.getElem_mem hkl) HS.out.1
        rw [hg] at this; exact this
      have HG : Hid (P t = g) := hg
      rw [ht] at hc
      clear ht hg
      obtain ⟨ti, to_, tk, tx, ty, tf, td⟩ := t
      obtain ⟨c0, c1, c2, c3, c4, c5, c6⟩ := hc
      simp only at c0 c1 c2 c3 c4 c5 c6
      have l1 : (k : Int) < n := by omega
      have l2 : (0 : Int) ≤ k := by omega
      go_wp2_with fail
      refine Calls.mono HPT.out ?_
      rintro e w5 ⟨rfl, hb5⟩
      have HB5 : Hid (Below w.heap.size w w5) := below_step HS.out.1 HS.out.1.size hb5
      clear hb5 c0 c1 c2 c3 c4 c5 c6
      cases g with
      | true =>
        have HF : Hid (fst1 P lt (k : Int)) := .inr ⟨k, hkl, rfl, by rw [HT.out]; exact HG.out⟩
        go_wp2_with fail
        go_ret
        exact ⟨⟨_, rfl, HF⟩, HB5.out⟩
      | false =>
        have HN2 : Hid (∀ j (h : j < lt.length), j < k + 1 → P lt[j] = false) := fun j h hj => by
          by_cases e : j = k
          · subst e; rw [HT.out]; exact HG.out
          · exact HS.out.2 j h (by omega)
        go_wp2_with fail
        go_roundw
        case rel => exact ⟨k + 1, by go_num, by omega, HB5.out, HN2.out⟩
        case measure => simp [intOf]; omega
    · have HF : Hid (fst1 P lt (-1)) := .inl ⟨by omega, fun j h => HS.out.2 j h (by have := HN.out; omega)⟩
      have HBr : Hid (Below w.heap.size w wr) := HS.out.1
      go_wp2_with fail
      go_ret
      exact ⟨⟨_, rfl, HF⟩, HBr.out⟩
theorem fst1_any {P : Trp → Bool} {lt : List Trp} {r : Int} (h : fst1 P lt r) : decide (0 ≤ r) = lt.any P := by
  rcases h with ⟨h1, h2⟩ | ⟨i, hi, rfl, h2⟩
  · have : lt.any P = false := List.any_eq_false.2 fun x hx => by
      obtain ⟨j, hj, rfl⟩ := List.getElem_of_mem hx
      rw [h2 j hj]; simp
    rw [this]; simp; omega
  · rw [List.any_eq_true.2 ⟨lt[i], List.getElem_mem hi, h2⟩]; simp
set_option maxRecDepth 20000 in
theorem ContainsFunct_any {f : Nat} (hen : Enters f) (k0 : Value) (p : Option Addr) (n c : Nat) (lt : List Trp) (P : Trp → Bool) (b : Bool) (w : World) (hr : trow w p lt) (hn : lt.length = n) (hm : n ≤ 9223372036854775807) (hb : Hid (lt.any P = b))
    (hf : Hid (∀ t V, t ∈ lt → Below w.heap.size w V → Calls Try.prog f #[tv t, k0] V fun e w' => e = .returned (.bool (P t)) ∧ Below V.heap.size V w')) :
    Calls Try.prog 53 #[.slice p n c, .func (.func f) #[] #[k0]] w fun e w' => e = .returned (.bool b) ∧ Below w.heap.size w w' := by
  have HIX : Hid (Calls Try.prog 50 #[.slice p n c, .func (.func f) #[] #[k0]] w fun e w' => (∃ r : Int, e = .returned (.int .i64 r) ∧ Hid (fst1 P lt r)) ∧ Below w.heap.size w w') := IndexFunct_any hen k0 p n c lt P w hr hn hm hf
  clear hf hr hn hen
  go_enter Try.func53, Try.ntmps53
  go_wp2_with fail
  refine Calls.mono HIX.out ?_
  rintro e w1 ⟨⟨r, rfl, hr⟩, hb1⟩
  have HB1 : Hid (Below w.heap.size w w1) := hb1
  have hd := fst1_any hr.out
  rw [hb.out] at hd
  subst hd
  clear hr hb1
  go_wp2_with fail
  go_ret
  exact ⟨rfl, HB1.out⟩
/-- Whether a troop stands on a cell. -/
def onb (x y : Int) (t : Trp) : Bool := decide (t.x = x) && decide (t.y = y)
theorem onb_iff {x y : Int} {t : Trp} : onb x y t = true ↔ t.c = ⟨x, y⟩ := by
  unfold onb Trp.c
  simp
set_option maxRecDepth 20000 in
theorem Free1_at (t : Trp) (x y : Int) (q : Nat) (V : World) (hq : V.cell? ⟨q, 0, none⟩ = some (.int .i64 x)) (hq2 : V.cell? ⟨q, 1, none⟩ = some (.int .i64 y)) : Calls Try.prog 73 #[tv t, .pointer (some ⟨q, 0, none⟩)] V fun e w' => e = .returned (.bool (onb x y t)) ∧ Below V.heap.size V w' := by
  obtain ⟨ti, to_, tk, tx, ty, tf, td⟩ := t
  unfold tv
  dsimp only
  obtain ⟨w0, hw0⟩ : ∃ w0, V.alloc (.cells #[.int .i64 ti, .int .i64 to_, .int .i64 tk, .int .i64 tx, .int .i64 ty, .int .i64 tf, .int .i64 td] 47) = w0 := ⟨_, rfl⟩
  obtain ⟨G, hG⟩ : ∃ G, V.heap.size = G := ⟨_, rfl⟩
  obtain ⟨g0, g1, g2, g3, g4, g5, g6⟩ := boxt hG hw0 (Below.refl _ _)
  have hb : Below V.heap.size V w0 := by rw [← hw0]; exact alloc_below _ _
  have e0 : w0.cell? ⟨q, 0, none⟩ = some (.int .i64 x) := (hb.cell (cell_lt hq)).trans hq
  have e1 : w0.cell? ⟨q, 1, none⟩ = some (.int .i64 y) := (hb.cell (cell_lt hq2)).trans hq2
  have HB : Hid (Below V.heap.size V w0) := hb
  obtain ⟨g, hg⟩ : ∃ g, onb x y ⟨ti, to_, tk, tx, ty, tf, td⟩ = g := ⟨_, rfl⟩
  have HG : Hid (g = (decide (tx = x) && decide (ty = y))) := hg.symm
  rw [hg]
  clear hq hq2 hb hg
  by_cases hx : tx = x
  · subst hx
    have m0_ : (tx == tx) = true := by simp
    by_cases hy : ty = y
    · subst hy
      have m1_ : (ty == ty) = true := by simp
      go_enter Try.func73, Try.ntmps73
      go_wp2_with fail
      go_ret
      exact ⟨by rw [HG.out]; simp, by first | exact HB.out | (rw [← hG]; exact HB.out)⟩
    · have m1_ : (ty == y) = false := by simp [hy]
      have m3_ : decide (ty = y) = false := by simp [hy]
      go_enter Try.func73, Try.ntmps73
      go_wp2_with fail
      go_ret
      exact ⟨by rw [HG.out]; simp [hy], by first | exact HB.out | (rw [← hG]; exact HB.out)⟩
  · have m1_ : (tx == x) = false := by simp [hx]
    have m3_ : decide (tx = x) = false := by simp [hx]
    go_enter Try.func73, Try.ntmps73
    go_wp2_with fail
    go_ret
    exact ⟨by rw [HG.out]; simp [hx], by first | exact HB.out | (rw [← hG]; exact HB.out)⟩
set_option maxRecDepth 20000 in
theorem Free2_at (t : Trp) (x y : Int) (q : Nat) (V : World) (hq : V.cell? ⟨q, 0, none⟩ = some (.int .i64 x)) (hq2 : V.cell? ⟨q, 1, none⟩ = some (.int .i64 y)) : Calls Try.prog 54 #[tv t, .pointer (some ⟨q, 0, none⟩)] V fun e w' => e = .returned (.bool (onb x y t)) ∧ Below V.heap.size V w' := by
  obtain ⟨ti, to_, tk, tx, ty, tf, td⟩ := t
  unfold tv
  dsimp only
  obtain ⟨w0, hw0⟩ : ∃ w0, V.alloc (.cells #[.int .i64 ti, .int .i64 to_, .int .i64 tk, .int .i64 tx, .int .i64 ty, .int .i64 tf, .int .i64 td] 47) = w0 := ⟨_, rfl⟩
  obtain ⟨G, hG⟩ : ∃ G, V.heap.size = G := ⟨_, rfl⟩
  obtain ⟨g0, g1, g2, g3, g4, g5, g6⟩ := boxt hG hw0 (Below.refl _ _)
  have hb : Below V.heap.size V w0 := by rw [← hw0]; exact alloc_below _ _
  have e0 : w0.cell? ⟨q, 0, none⟩ = some (.int .i64 x) := (hb.cell (cell_lt hq)).trans hq
  have e1 : w0.cell? ⟨q, 1, none⟩ = some (.int .i64 y) := (hb.cell (cell_lt hq2)).trans hq2
  have HB : Hid (Below V.heap.size V w0) := hb
  obtain ⟨g, hg⟩ : ∃ g, onb x y ⟨ti, to_, tk, tx, ty, tf, td⟩ = g := ⟨_, rfl⟩
  have HG : Hid (g = (decide (tx = x) && decide (ty = y))) := hg.symm
  rw [hg]
  clear hq hq2 hb hg
  by_cases hx : tx = x
  · subst hx
    have m0_ : (tx == tx) = true := by simp
    by_cases hy : ty = y
    · subst hy
      have m1_ : (ty == ty) = true := by simp
      go_enter Try.func54, Try.ntmps54
      go_wp2_with fail
      go_ret
      exact ⟨by rw [HG.out]; simp, by first | exact HB.out | (rw [← hG]; exact HB.out)⟩
    · have m1_ : (ty == y) = false := by simp [hy]
      have m3_ : decide (ty = y) = false := by simp [hy]
      go_enter Try.func54, Try.ntmps54
      go_wp2_with fail
      go_ret
      exact ⟨by rw [HG.out]; simp [hy], by first | exact HB.out | (rw [← hG]; exact HB.out)⟩
  · have m1_ : (tx == x) = false := by simp [hx]
    have m3_ : decide (tx = x) = false := by simp [hx]
    go_enter Try.func54, Try.ntmps54
    go_wp2_with fail
    go_ret
    exact ⟨by rw [HG.out]; simp [hx], by first | exact HB.out | (rw [← hG]; exact HB.out)⟩
set_option maxRecDepth 20000 in
theorem Who1_at (t : Trp) (i : Int) (q : Nat) (V : World) (hq : V.cell? ⟨q, 1, none⟩ = some (.int .i64 i)) : Calls Try.prog 51 #[tv t, .pointer (some ⟨q, 0, none⟩)] V fun e w' => e = .returned (.bool (t.i == i)) ∧ Below V.heap.size V w' := by
  obtain ⟨ti, to_, tk, tx, ty, tf, td⟩ := t
  unfold tv
  dsimp only
  obtain ⟨w0, hw0⟩ : ∃ w0, V.alloc (.cells #[.int .i64 ti, .int .i64 to_, .int .i64 tk, .int .i64 tx, .int .i64 ty, .int .i64 tf, .int .i64 td] 47) = w0 := ⟨_, rfl⟩
  obtain ⟨G, hG⟩ : ∃ G, V.heap.size = G := ⟨_, rfl⟩
  obtain ⟨g0, g1, g2, g3, g4, g5, g6⟩ := boxt hG hw0 (Below.refl _ _)
  have hb : Below V.heap.size V w0 := by rw [← hw0]; exact alloc_below _ _
  have e0 : w0.cell? ⟨q, 1, none⟩ = some (.int .i64 i) := (hb.cell (cell_lt hq)).trans hq
  have HB : Hid (Below V.heap.size V w0) := hb
  obtain ⟨r, hr⟩ : ∃ r, (ti == i) = r := ⟨_, rfl⟩
  rw [hr]
  clear hq hb
  go_enter Try.func51, Try.ntmps51
  go_wp2_with fail
  go_ret
  exact ⟨rfl, by first | exact HB.out | (rw [← hG]; exact HB.out)⟩
theorem cell_call2 {w w' : World} {p : Addr} {v : Value} (h : w.cell? p = some v) (hb : Below w.heap.size w w') : w'.cell? p = some v := (hb.cell (cell_lt h)).trans h
end Go.Proofs.Ytdcjjfipnilmpaa
