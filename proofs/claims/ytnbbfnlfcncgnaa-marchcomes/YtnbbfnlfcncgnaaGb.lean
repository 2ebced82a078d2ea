/- What march.byId returns: a map of the cells that goes tell, by their numbers; the first go of a number counts. -/
import Derived.Test.YtnbbfnlfcncgnaaGm
import Derived.Test.YtnbbfnlfcncgnaaWst
namespace Go.Proofs.Ytnbbfnlfcncgnaa
open Go.RowKit Go.Maps
set_option linter.unusedVariables false

theorem lawi : Keyed Try.prog 3 := int_keyed Try.underlying3
/-- What a number reads as among a map's keys. -/
def kil (c : Int) : Lit := .int .i64 c
theorem key_int {x : Int} (hx : fits x) : keyOf Try.prog 3 (.int .i64 x) = some (kil x) := keyOf_int_mk Try.underlying3 (wf_of hx)
theorem kil_key {c : Int} (h : fits c) : WideAt.IsKeyLit (kil c) := lawi.key (key_int h)
theorem kil_inj {c d : Int} (hc : fits c) (hd : fits d) (h : kil c = kil d) : c = d := by unfold kil at h; injection h
/-- What a cell reads as. -/
def cdat (x y : Int) : DataW Unit := .agg [.lit (.int .i64 x), .lit (.int .i64 y)]
def celE : Value → Option (DataW Unit × List MemPlace)
  | .agg ⟨[.int .i64 x, .int .i64 y]⟩ => some (cdat x y, [])
  | _ => none
theorem celE_mk (x y : Int) : celE (.agg #[.int .i64 x, .int .i64 y]) = some (cdat x y, []) := rfl
theorem celE_inv {v : Value} {x y : Int} {ps : List MemPlace} (h : celE v = some (cdat x y, ps)) : v = .agg #[.int .i64 x, .int .i64 y] := by
  unfold celE at h
  split at h
  · simp [cdat] at h
    obtain ⟨⟨rfl, rfl⟩, _⟩ := h; rfl
  · cases h
/-- The cell that the goes tell for a number: that of the first one. -/
def gol (gs : List Goe) (i : Int) : Option Cel := (gs.find? fun g => g.i == i).map fun g => ⟨g.x, g.y⟩
theorem gol_nil (i : Int) : gol [] i = none := rfl
theorem gol_snoc (gs : List Goe) (g : Goe) (i : Int) : gol (gs ++ [g]) i = (gol gs i).or (if g.i = i then some ⟨g.x, g.y⟩ else none) := by
  unfold gol
  rw [List.find?_append]
  cases h : gs.find? fun g => g.i == i with
  | some t => simp
  | none =>
    by_cases e : g.i = i
    · simp [e]
    · have : (g.i == i) = false := by simp [e]
      simp [this, e]
theorem gol_one (j x y i : Int) : gol [⟨j, x, y⟩] i = if j = i then some ⟨x, y⟩ else none := by
  rw [← List.nil_append [(⟨j, x, y⟩ : Goe)], gol_snoc, gol_nil]; rfl
/-- The map D tells what f tells. -/
structure Mpg (D : DataW Unit) (f : Int → Option Cel) : Prop where
  tidy : Tidy D
  no : ∀ c, fits c → f c = none → Maps.has D (kil c) = false
  yes : ∀ c d, fits c → f c = some d → Maps.has D (kil c) = true ∧ ∀ z, D.atKey (kil c) z = cdat d.x d.y
set_option maxRecDepth 100000 in
theorem mpg_empty : Mpg (.map []) (fun _ => none) := ⟨tidy_empty, fun c _ _ => by simp [Maps.has], fun c d _ h => by cases h⟩
set_option maxRecDepth 100000 in
theorem mpg_put {D : DataW Unit} {f f' : Int → Option Cel} {c x y : Int} (h : Mpg D f) (fc : fits c) (hs : f' c = some ⟨x, y⟩) (ho : ∀ d, d ≠ c → f' d = f d) : Mpg (D.put (kil c) (cdat x y)) f' := by
  have hk := kil_key fc
  refine ⟨h.tidy.put hk _, ?_, ?_⟩
  · intro d fd hd
    by_cases e : d = c
    · subst e; rw [hs] at hd; cases hd
    · rw [ho d e] at hd
      rw [has_put_other (fun e2 => e (kil_inj fd fc e2))]; exact h.no d fd hd
  · intro d u fd hd
    by_cases e : d = c
    · subst e
      rw [hs] at hd
      cases hd
      exact ⟨has_put_same h.tidy.isMap hk _, fun z => atKey_put_same h.tidy.isMap hk _ _⟩
    · rw [ho d e] at hd
      rw [has_put_other (fun e2 => e (kil_inj fd fc e2)), (h.yes d u fd hd).1]
      exact ⟨rfl, fun z => by rw [atKey_put_other (fun e2 => e (kil_inj fd fc e2))]; exact (h.yes d u fd hd).2 z⟩
theorem mpg_same {D : DataW Unit} {f f' : Int → Option Cel} (h : Mpg D f) (he : ∀ c, f' c = f c) : Mpg D f' := ⟨h.tidy, fun c fc hc => h.no c fc (by rw [← he]; exact hc), fun c d fc hc => h.yes c d fc (by rw [← he]; exact hc)⟩
/-- The map that lies in block b. -/
def mapg (w : World) (b n : Nat) (f : Int → Option Cel) : Prop := ∃ D, w.ownsMap Try.prog 3 celE b n D ∧ Mpg D f
theorem mapg_below {w w' : World} {b n : Nat} {f : Int → Option Cel} (h : mapg w b n f) (hb : Below w.heap.size w w') : mapg w' b n f := by
  obtain ⟨D, ⟨es, clock, h1, h2⟩, h3⟩ := h
  refine ⟨D, ⟨es, clock, ?_, h2⟩, h3⟩
  have : b < w.heap.size := by
    rcases Nat.lt_or_ge b w.heap.size with hlt | hge
    · exact hlt
    · rw [Array.getElem?_eq_none hge] at h1; cases h1
  rw [hb.block b this]; exact h1
set_option maxRecDepth 100000 in
theorem zeroc (w : World) : (zeroValue 31).run Try.prog w = .ok (.agg #[.int .i64 0, .int .i64 0]) w := by kernel_rfl
def celv (o : Option Cel) : Value := match o with | some c => .agg #[.int .i64 c.x, .int .i64 c.y] | none => .agg #[.int .i64 0, .int .i64 0]
set_option maxRecDepth 100000 in
/-- What stands in the map at a number. -/
theorem mapg_look {w : World} {b n : Nat} {f : Int → Option Cel} {c : Int} (h : mapg w b n f) (fc : fits c) : (Instr.lookup 75 (.map (some b)) (.int .i64 c) true).run Try.prog w = .ok (.tuple #[celv (f c), .bool (f c).isSome]) w := by
  obtain ⟨D, h1, h2⟩ := h
  obtain ⟨v, ps, hrun, hv⟩ := h1.look_ok lawi Try.underlying75 (zeroc w) (celE_mk 0 0) (key_int fc)
  rw [hrun]
  cases hh : f c with
  | none =>
    have h0 := h2.no c fc hh
    rw [atKey_of_not_has h0] at hv
    rw [celE_inv hv, h0]; rfl
  | some d =>
    have h1 := h2.yes c d fc hh
    rw [h1.2] at hv
    rw [celE_inv hv, h1.1]; rfl
theorem take_gs_snoc {gs : List Goe} {k : Nat} (hk : k < gs.length) : gs.take (k + 1) = gs.take k ++ [gs[k]] := List.take_succ_eq_append_getElem hk
theorem run_makeMapg_hint (w : World) (n : Int) : (Instr.makeMap 75 (some (.int .i64 n))).run Try.prog w = .ok (.map (some w.heap.size)) (w.alloc (.map #[] 0)) := by
  simp [Instr.makeMap, run_underlying Try.underlying75, asInt, go_sem]
theorem boxg {w w0 V : World} {a b c : Value} {t : TypeId} {F : Nat} (hF : w.heap.size = F) (hw : w.alloc (.cells #[a, b, c] t) = w0) (hb : Below w0.heap.size w0 V) :
    V.cell? ⟨F, 0, none⟩ = some a ∧ V.cell? ⟨F, 1, none⟩ = some b ∧ V.cell? ⟨F, 2, none⟩ = some c := by
  subst hw hF
  exact box3 hb
set_option maxRecDepth 20000 in
set_option maxHeartbeats 2000000 in
theorem byId_any (p : Option Addr) (n c : Nat) (gs : List Goe) (w : World) (hr : gor w p gs) (hn : gs.length = n) (hm : n ≤ 200) (hx : ∀ t ∈ gs, fitg t) :
    Calls Try.prog 38 #[.slice p n c] w fun e w' => (∃ b, e = .returned (.map (some b)) ∧ mapg w' b 200 (gol gs)) ∧ Below w.heap.size w w' := by
  have H1 : Hid (gor w p gs) := hr
  have HN : Hid (gs.length = n) := hn
  have HX : Hid (∀ t ∈ gs, fitg t) := hx
  clear hr hn hx
  have hmm := run_makeMapg_hint
  obtain ⟨B, hB⟩ : ∃ B, w.heap.size = B := ⟨_, rfl⟩
  have HB : Hid (w.heap.size = B) := hB
  go_enter Try.func38, Try.ntmps38
  go_wp2_with fail
  have HM0 : Hid (mapg (w.alloc (.map #[] 0)) B 0 (gol (gs.take 0))) := ⟨_, by rw [← hB]; exact World.ownsMap_made _ _ _ _, mpg_empty⟩
  have HB0 : Hid (Below w.heap.size w (w.alloc (.map #[] 0))) := alloc_below _ _
  go_loopw [13] (fun i wr => ∃ k : Nat, i = .int .i64 (k : Int) ∧ k ≤ n ∧ Hid (Below w.heap.size w wr ∧ ∃ m, m ≤ k ∧ mapg wr B m (gol (gs.take k)))) (fun i _ => n - (intOf i).toNat)
  case atStart => exact ⟨0, rfl, by omega, HB0.out, 0, Nat.le_refl _, HM0.out⟩
  case round =>
    obtain ⟨k, rfl, hk, HS⟩ := hrel
    by_cases hlt : k < n
    · have hkl : k < gs.length := by rw [HN.out]; exact hlt
      obtain ⟨a, rfl, hc⟩ := gor_at (gor_below H1.out HS.out.1) hkl
      obtain ⟨t, ht⟩ : ∃ t, gs[k] = t := ⟨_, rfl⟩
      have hft := HX.out _ (List.getElem_mem hkl)
      have hsn := take_gs_snoc hkl
      rw [ht] at hc hft hsn
      obtain ⟨ti, tx, ty⟩ := t
      obtain ⟨c0, c1, c2⟩ := hc
      simp only at c0 c1 c2
      obtain ⟨w4, hw4⟩ : ∃ w4, wr.alloc (.cells #[.int .i64 ti, .int .i64 tx, .int .i64 ty] 55) = w4 := ⟨_, rfl⟩
      obtain ⟨G, hG⟩ : ∃ G, wr.heap.size = G := ⟨_, rfl⟩
      obtain ⟨g0, g1, g2⟩ := boxg hG hw4 (Below.refl _ _)
      have hs4 : w4.heap.size = G + 1 := by rw [← hw4, World.size_alloc, hG]
      obtain ⟨m, hml, hM⟩ := HS.out.2
      have hM4 : mapg w4 B m (gol (gs.take k)) := mapg_below hM (by rw [← hw4]; exact alloc_below _ _)
      have hB4 : Below w.heap.size w w4 := by rw [← hw4]; exact HS.out.1.alloc HS.out.1.size _
      have hlook := mapg_look hM4 hft.1
      have hgs := gol_snoc (gs.take k) ⟨ti, tx, ty⟩
      rw [← hsn] at hgs
      have HGS : Hid (∀ i, gol (gs.take (k + 1)) i = (gol (gs.take k) i).or (if ti = i then some ⟨tx, ty⟩ else none)) := hgs
      have HM4 : Hid (mapg w4 B m (gol (gs.take k))) := hM4
      have HB4 : Hid (Below w.heap.size w w4) := hB4
      have HFC : Hid (fits ti) := hft.1
      have l1 : (k : Int) < n := by omega
      have l2 : (0 : Int) ≤ k := by omega
      have HML : Hid (m ≤ k) := hml
      clear ht hft hsn hB4 HS hM hM4 hgs hml
      cases hf : gol (gs.take k) ti with
      | some d =>
        have HF : Hid (gol (gs.take k) ti = some d) := hf
        rw [hf] at hlook
        obtain ⟨dx, dy⟩ := d
        unfold celv at hlook
        simp only [Option.isSome_some] at hlook
        clear hf
        obtain ⟨w5, hw5⟩ : ∃ w5, w4.alloc (.cells #[.int .i64 dx, .int .i64 dy] 31) = w5 := ⟨_, rfl⟩
        have HS5 : Hid (Below w.heap.size w w5 ∧ ∃ m, m ≤ k + 1 ∧ mapg w5 B m (gol (gs.take (k + 1)))) := by
          refine ⟨by rw [← hw5]; exact HB4.out.alloc HB4.out.size _, m, Nat.le_succ_of_le HML.out, mapg_below (w := w4) ?_ (by rw [← hw5]; exact alloc_below _ _)⟩
          obtain ⟨D, h1, h2⟩ := HM4.out
          refine ⟨D, h1, mpg_same h2 fun i => ?_⟩
          rw [HGS.out]
          by_cases e : ti = i
          · subst e; rw [HF.out]; rfl
          · rw [if_neg e]; simp
        go_wp2_with fail
        go_roundw
        case rel => exact ⟨k + 1, by go_num, by omega, HS5.out⟩
        case measure => simp [intOf]; omega
      | none =>
        have HF : Hid (gol (gs.take k) ti = none) := hf
        rw [hf] at hlook
        unfold celv at hlook
        simp only [Option.isSome_none] at hlook
        clear hf
        have b5 : Below w4.heap.size w4 (w4.alloc (.cells #[.int .i64 0, .int .i64 0] 31)) := alloc_below _ _
        have HB5 : Hid (Below w.heap.size w (w4.alloc (.cells #[.int .i64 0, .int .i64 0] 31))) := below_step HB4.out HB4.out.size b5
        obtain ⟨D, ho5, hD⟩ := mapg_below HM4.out b5
        have HD : Hid (Mpg D (gol (gs.take k))) := hD
        have hkey := key_int (x := ti) HFC.out
        have hm1 : m < maxLen := by have := HML.out; unfold maxLen; omega
        have hgl : G < w4.heap.size := by omega
        clear b5 hD
        go_wp2_with (at_mapUpdate; refine wpList_mapUpdate_own _ rfl _ _ _ 75 rfl 3 31 lawi Try.underlying75 _ B m D rfl ho5 hm1 _ _ _ rfl rfl hkey _ [] (celE_mk tx ty) ?_; intro w6 hown6 hgrow6)
        have HS6 : Hid (Below w.heap.size w w6 ∧ ∃ m, m ≤ k + 1 ∧ mapg w6 B m (gol (gs.take (k + 1)))) := by
          refine ⟨HB5.out.grown hgrow6 HB5.out.size (fun j hj => by cases hj; exact Nat.le_of_eq HB.out), m + 1, by have := HML.out; omega, _, hown6, mpg_put HD.out HFC.out ?_ ?_⟩
          · rw [HGS.out, HF.out, if_pos rfl]; rfl
          · intro d hd
            rw [HGS.out, if_neg (fun e => hd e.symm)]; simp
        clear hown6 hgrow6
        go_wp2_with fail
        go_roundw
        case rel => exact ⟨k + 1, by go_num, by omega, HS6.out⟩
        case measure => simp [intOf]; omega
    · have hkn : k = n := by omega
      subst hkn
      go_wp2_with fail
      go_ret
      refine ⟨⟨B, rfl, ?_⟩, HS.out.1⟩
      have e : gs.take k = gs := List.take_of_length_le (by rw [HN.out]; exact Nat.le_refl _)
      obtain ⟨m, h1, D, ⟨es, clock, h3, h4, h5, h6⟩, h2⟩ := HS.out.2
      rw [e] at h2
      exact ⟨D, ⟨es, clock, h3, h4, by omega, h6⟩, h2⟩
end Go.Proofs.Ytnbbfnlfcncgnaa
