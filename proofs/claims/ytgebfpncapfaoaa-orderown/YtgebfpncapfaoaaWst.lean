/- What standing returns: a map of the troops' places by their cells. -/
import Derived.Test.YtgebfpncapfaoaaWk
namespace Go.Proofs.Ytgebfpncapfaoaa
open Go.RowKit Go.Maps
set_option linter.unusedVariables false

/-- A troop as a value. -/
def tv (t : Trp) : Value := .agg #[.int .i64 t.i, .int .i64 t.o, .int .i64 t.k, .int .i64 t.x, .int .i64 t.y, .int .i64 t.f, .int .i64 t.d]
def fitt (t : Trp) : Prop := fits t.i ∧ fits t.o ∧ fits t.k ∧ fits t.x ∧ fits t.y ∧ fits t.f ∧ fits t.d
/-- A box of a troop's own. -/
theorem boxt {w w0 V : World} {a b c d e f g : Value} {t : TypeId} {F : Nat} (hF : w.heap.size = F) (hw : w.alloc (.cells #[a, b, c, d, e, f, g] t) = w0) (hb : Below w0.heap.size w0 V) :
    V.cell? ⟨F, 0, none⟩ = some a ∧ V.cell? ⟨F, 1, none⟩ = some b ∧ V.cell? ⟨F, 2, none⟩ = some c ∧ V.cell? ⟨F, 3, none⟩ = some d ∧ V.cell? ⟨F, 4, none⟩ = some e ∧ V.cell? ⟨F, 5, none⟩ = some f ∧ V.cell? ⟨F, 6, none⟩ = some g := by
  subst hw hF
  refine ⟨?_, ?_, ?_, ?_, ?_, ?_, ?_⟩
  all_goals
    rw [hb.cell (by simp)]
    simp [go_sem]
theorem take_map_snoc {lt : List Trp} {k : Nat} (hk : k < lt.length) : (lt.map Trp.c).take (k + 1) = (lt.map Trp.c).take k ++ [lt[k].c] := by
  rw [List.take_succ_eq_append_getElem (by simpa using hk)]; simp
theorem run_makeMap_hint (w : World) (n : Int) : (Instr.makeMap 119 (some (.int .i64 n))).run Try.prog w = .ok (.map (some w.heap.size)) (w.alloc (.map #[] 0)) := by
  simp [Instr.makeMap, run_underlying Try.underlying119, asInt, go_sem]
set_option maxRecDepth 20000 in
set_option maxHeartbeats 2000000 in
theorem standing_any (p : Option Addr) (n c : Nat) (lt : List Trp) (w : World) (hr : trow w p lt) (hn : lt.length = n) (hm : n ≤ 100) (hx : ∀ t ∈ lt, fitt t) :
    Calls Try.prog 84 #[.slice p n c] w fun e w' => (∃ b, e = .returned (.map (some b)) ∧ mapc w' b (lt.map Trp.c)) ∧ Below w.heap.size w w' := by
  have H1 : Hid (trow w p lt) := hr
  have HN : Hid (lt.length = n) := hn
  have HX : Hid (∀ t ∈ lt, fitt t) := hx
  clear hr hn hx
  have hmm := run_makeMap_hint
  obtain ⟨B, hB⟩ : ∃ B, w.heap.size = B := ⟨_, rfl⟩
  have HB : Hid (w.heap.size = B) := hB
  go_enter Try.func84, Try.ntmps84
  go_wp2_with fail
  have HM0 : Hid (mapc (w.alloc (.map #[] 0)) B ((lt.map Trp.c).take 0)) := ⟨_, 0, by rw [← hB]; exact World.ownsMap_made _ _ _ _, by simpa using mp_empty, Nat.zero_le _⟩
  have HB0 : Hid (Below w.heap.size w (w.alloc (.map #[] 0))) := alloc_below _ _
  go_loopw [11] (fun i wr => ∃ k : Nat, i = .int .i64 (k : Int) ∧ k ≤ n ∧ Hid (Below w.heap.size w wr ∧ mapc wr B ((lt.map Trp.c).take k))) (fun i _ => n - (intOf i).toNat)
  case atStart => exact ⟨0, rfl, by omega, HB0.out, HM0.out⟩
  case round =>
    obtain ⟨k, rfl, hk, HS⟩ := hrel
    by_cases hlt : k < n
    · have hkl : k < lt.length := by rw [HN.out]; exact hlt
      obtain ⟨a, rfl, hc⟩ := trow_at (trow_below H1.out HS.out.1) hkl
      obtain ⟨t, ht⟩ : ∃ t, lt[k] = t := ⟨_, rfl⟩
      have hft := HX.out _ (List.getElem_mem hkl)
      have hsn := take_map_snoc hkl
      rw [ht] at hc hft hsn
      obtain ⟨ti, to_, tk, tx, ty, tf, td⟩ := t
      obtain ⟨c0, c1, c2, c3, c4, c5, c6⟩ := hc
      simp only at c0 c1 c2 c3 c4 c5 c6
      obtain ⟨w4, hw4⟩ : ∃ w4, wr.alloc (.cells #[.int .i64 ti, .int .i64 to_, .int .i64 tk, .int .i64 tx, .int .i64 ty, .int .i64 tf, .int .i64 td] 71) = w4 := ⟨_, rfl⟩
      obtain ⟨G, hG⟩ : ∃ G, wr.heap.size = G := ⟨_, rfl⟩
      obtain ⟨-, -, -, g3, g4, -, -⟩ := boxt hG hw4 (Below.refl _ _)
      obtain ⟨D, m, ho, hp, hml⟩ := HS.out.2
      have ho4 : w4.ownsMap Try.prog 23 (plainElem (H := Unit) Try.prog 3) B m D := by rw [← hw4]; exact ho.alloc _
      have hB4 : Below w.heap.size w w4 := by rw [← hw4]; exact HS.out.1.alloc HS.out.1.size _
      have hkey := key_cell (x := tx) (y := ty) hft.2.2.2.1 hft.2.2.2.2.1
      have hm1 : m < maxLen := by rw [List.length_take] at hml; unfold maxLen; omega
      have wfk : (Lit.int .i64 (k : Int)).wf = true := wf_of (by unfold fits; omega)
      have HFC : Hid (fitc ⟨tx, ty⟩) := ⟨hft.2.2.2.1, hft.2.2.2.2.1⟩
      have HP : Hid (Mp D ((lt.map Trp.c).take k)) := hp
      have HSN : Hid ((lt.map Trp.c).take (k + 1) = (lt.map Trp.c).take k ++ [⟨tx, ty⟩]) := hsn
      have HB4 : Hid (Below w.heap.size w w4) := hB4
      have HML : Hid (m ≤ k) := by rw [List.length_take] at hml; unfold Hid; omega
      have l1 : (k : Int) < n := by omega
      have l2 : (0 : Int) ≤ k := by omega
      clear ht hp hft hsn hB4 ho HS hml
      go_wp2_with (at_mapUpdate; refine wpList_mapUpdate_own _ rfl _ _ _ 119 rfl 23 3 lawc Try.underlying119 _ B m D rfl ho4 hm1 _ _ _ rfl rfl hkey _ [] (plainElem_int Try.underlying3 wfk) ?_; intro w5 hown5 hgrow5)
      have HS5 : Hid (Below w.heap.size w w5 ∧ mapc w5 B ((lt.map Trp.c).take (k + 1))) := by
        refine ⟨HB4.out.grown hgrow5 HB4.out.size (fun j hj => by cases hj; exact Nat.le_of_eq HB.out), ⟨_, m + 1, hown5, ?_, ?_⟩⟩
        · rw [HSN.out]
          refine mp_put HP.out HFC.out ?_ (by rw [List.length_take, List.length_map, HN.out]; omega)
          intro d hd
          obtain ⟨t, ht, rfl⟩ := List.mem_map.1 (List.mem_of_mem_take hd)
          exact ⟨(HX.out t ht).2.2.2.1, (HX.out t ht).2.2.2.2.1⟩
        · have := HML.out; rw [List.length_take, List.length_map, HN.out]; omega
      clear hown5 hgrow5
      go_wp2_with fail
      go_roundw
      case rel => exact ⟨k + 1, by go_num, by omega, HS5.out⟩
      case measure => simp [intOf]; omega
    · have hkn : k = n := by omega
      subst hkn
      go_wp2_with fail
      go_ret
      refine ⟨⟨B, rfl, ?_⟩, HS.out.1⟩
      have e : (lt.map Trp.c).take k = lt.map Trp.c := List.take_of_length_le (by rw [List.length_map, HN.out]; exact Nat.le_refl _)
      have := HS.out.2
      rw [e] at this; exact this
end Go.Proofs.Ytgebfpncapfaoaa
