/- What goods.Do tells, deed by deed -/
import Derived.Test.YtdcjjfipnilmpaaGx
import Derived.Test.YtdcjjfipnilmpaaCut
import Derived.Test.YtdcjjfipnilmpaaMW
/- What goods.open returns: a shop like the world that is handed in, in memory of its own. -/
namespace Go.Proofs.Ytdcjjfipnilmpaa
open Go.RowKit Go.Maps
set_option linter.unusedVariables false

section
variable {B J b : Nat} {V U : World} {s : Wld}
theorem wown_mono {B' : Nat} (h : wown B V s) (hB : B' ≤ B) : wown B' V s :=
  ⟨own_mono h.kp hB, h.jp, own_mono h.kb hB, h.jb, own_mono h.ks hB, h.js, own_mono h.km hB, h.jm, own_mono h.kt hB, h.jt⟩
theorem mapi_made (V : World) : mapi (V.alloc (.map #[] 0)) V.heap.size [] := ⟨_, 0, World.ownsMap_made _ _ _ _, mpi_empty, Nat.zero_le _⟩
/-- A shop's box, laid. -/
theorem shop_made (ho : wown B U s) (ha : apart3 s) (hm : mapi U b []) (hb : B ≤ b) (hB : B ≤ U.heap.size) :
    shop0 B U.heap.size b (U.alloc (.cells #[.int .i64 s.A, .int .i64 s.B, .slice s.p s.n s.c, .slice s.pb s.nb s.cb, .slice s.ps s.ns s.cs, .slice s.pm s.nm s.cm, .slice s.pt s.nt s.ct, .int .i64 s.N, .int .i64 s.T, .map (some b)] 68)) s ∧ mapi (U.alloc (.cells #[.int .i64 s.A, .int .i64 s.B, .slice s.p s.n s.c, .slice s.pb s.nb s.cb, .slice s.ps s.ns s.cs, .slice s.pm s.nm s.cm, .slice s.pt s.nt s.ct, .int .i64 s.N, .int .i64 s.T, .map (some b)] 68)) b [] :=
  ⟨⟨World.alloc_heap_new U _, wown_below ho (alloc_below _ _), ha, hB, hb⟩, mapi_below hm (alloc_below _ _)⟩
theorem mapi_put {L : List Int} (h : mapi V b L) {k : Int} (fk : fits k) (hf : ∀ i ∈ L, fits i) {m : Nat} (hm : L.length = m) (hm2 : m ≤ 100) :
    ∃ V', (Instr.mapUpdate 66 (.map (some b)) (.int .i64 k) (.int .i64 (m : Int))).run Try.prog V = .ok () V' ∧ mapi V' b (L ++ [k]) ∧ Ex (fun g => g = b) V V' := by
  obtain ⟨D, n, h1, h2, h3⟩ := h
  obtain ⟨V', hrun, ho, hg⟩ := h1.update lawi Try.underlying66 (by unfold maxLen; omega) (key_int fk) (plainElem_int Try.underlying3 (wf_of (x := (m : Int)) (by unfold fits; omega)))
  refine ⟨V', hrun, ⟨_, n + 1, ho, mpi_put h2 fk hf hm, by rw [List.length_append, List.length_singleton]; omega⟩, (Ex.of_grown hg).mono (fun i _ e => by cases e; rfl)⟩
theorem take_ids_snoc {lt : List Trp} {k : Nat} (hk : k < lt.length) : (lt.map Trp.i).take (k + 1) = (lt.map Trp.i).take k ++ [lt[k].i] := by
  rw [List.take_succ_eq_append_getElem (by simpa using hk)]; simp
theorem run_makeMapi_hint (w : World) (n : Int) : (Instr.makeMap 66 (some (.int .i64 n))).run Try.prog w = .ok (.map (some w.heap.size)) (w.alloc (.map #[] 0)) := by
  simp [Instr.makeMap, run_underlying Try.underlying66, asInt, go_sem]
theorem alike_flat {s s' : Wld} (h : alike s s') : ∃ p c pb cb ps cs pm cm pt ct, s' = ⟨s.A, s.B, p, s.n, c, s.l, pb, s.nb, cb, s.lb, ps, s.ns, cs, s.ls, pm, s.nm, cm, s.lm, pt, s.nt, ct, s.lt, s.N, s.T⟩ := by
  obtain ⟨A', B', p', n', c', l', pb', nb', cb', lb', ps', ns', cs', ls', pm', nm', cm', lm', pt', nt', ct', lt', N', T'⟩ := s'
  unfold alike at h
  simp only at h
  obtain ⟨rfl, rfl, rfl, rfl, rfl, rfl, rfl, rfl, rfl, rfl, rfl, rfl, rfl, rfl⟩ := h
  exact ⟨_, _, _, _, _, _, _, _, _, _, rfl⟩
end
set_option maxRecDepth 20000 in
set_option maxHeartbeats 8000000 in
theorem open_at (s : Wld) (W H : Nat) (w : World) (h : s.fit w) (hk : okw s W H) :
    Calls Try.prog 30 #[s.val] w fun e w' => (∃ (J b : Nat) (s' : Wld), e = .returned (.pointer (some ⟨J, 0, none⟩)) ∧ shop w.heap.size J b w' s' ∧ alike s s') ∧ Below w.heap.size w w' := by
  have hsz : s.n ≤ 1600 ∧ s.ns ≤ 8 ∧ s.nm ≤ 1600 ∧ s.nb ≤ 8 ∧ s.nt ≤ 100 := by
    have h1 := h.h; have h2 := hk.f.2.2.1; have h3 := wh_le hk.f.1 hk.f.2.1; have h4 := hk.pl.1; have h5 := h.hs; have h6 := h.hb; have h7 := hk.nb; have h8 := hk.mn.1; have h9 := h.hm; have h10 := hk.nt
    omega
  have HCP : Hid (∀ V, Below w.heap.size w V → Calls Try.prog 44 #[s.val] V fun e w' => (∃ s' : Wld, e = .returned s'.val ∧ wown V.heap.size w' s' ∧ alike s s' ∧ apart3 s') ∧ Below V.heap.size V w') := fun V hV => Copy_any s V (Wld.fit_below h hV) (by omega) (by omega) (by omega) (by omega) (by omega)
  have HLT : Hid (s.lt.length = s.nt) := h.ht
  have HFI : Hid (∀ t ∈ s.lt, fits t.i) := fun t ht => (h.xt t ht).1
  have hnt := hsz.2.2.2.2
  clear h hk hsz
  obtain ⟨A, B, p, n, c, l, pb, nb, cb, lb, ps, ns, cs, ls, pm, nm, cm, lm, pt, nt, ct, lt, N, T⟩ := s
  unfold Wld.val at *
  dsimp only at *
  have hmm := run_makeMapi_hint
  obtain ⟨F, hF⟩ : ∃ F, w.heap.size = F := ⟨_, rfl⟩
  obtain ⟨w0, hw0⟩ : ∃ w0, w.alloc (.cells #[.int .i64 A, .int .i64 B, .slice p n c, .slice pb nb cb, .slice ps ns cs, .slice pm nm cm, .slice pt nt ct, .int .i64 N, .int .i64 T] 28) = w0 := ⟨_, rfl⟩
  have x0 : bx9 w0 F (.int .i64 A) (.int .i64 B) (.slice p n c) (.slice pb nb cb) (.slice ps ns cs) (.slice pm nm cm) (.slice pt nt ct) (.int .i64 N) (.int .i64 T) := by rw [← hw0, ← hF]; exact box9_new _ _ _ _ _ _ _ _ _ _
  have hB0 : Below w.heap.size w w0 := by rw [← hw0]; exact alloc_below _ _
  have HB0 : Hid (Below w.heap.size w w0) := hB0
  have HF : Hid (w.heap.size = F) := hF
  obtain ⟨z0, z1, z2, z3, z4, z5, z6, z7, z8⟩ := bx9_c9 x0
  have HZ : Hid (c9 w0 F (.int .i64 A) (.int .i64 B) (.slice p n c) (.slice pb nb cb) (.slice ps ns cs) (.slice pm nm cm) (.slice pt nt ct) (.int .i64 N) (.int .i64 T)) := bx9_c9 x0
  clear x0 hB0
  go_enter Try.func30, Try.ntmps30
  go_wp2_with fail
  refine cut_set [3, 6, 7, 8, 9, 10, 11, 12, 13] (fun u w' => ∃ (J b : Nat) (s' : Wld), u 3 = .pointer (some ⟨J, 0, none⟩) ∧ shop0 w.heap.size J b w' s' ∧ mapi w' b [] ∧ alike (⟨A, B, p, n, c, l, pb, nb, cb, lb, ps, ns, cs, ls, pm, nm, cm, lm, pt, nt, ct, lt, N, T⟩ : Wld) s' ∧ Below w.heap.size w w') ?first1 ?rest1
  case first1 =>
    go_region_held3 (fun U => Below w0.heap.size w0 U ∧ U.cell? ⟨F, 0, none⟩ = some (.int .i64 A) ∧ U.cell? ⟨F, 1, none⟩ = some (.int .i64 B) ∧ U.cell? ⟨F, 2, none⟩ = some (.slice p n c) ∧ U.cell? ⟨F, 3, none⟩ = some (.slice pb nb cb) ∧ U.cell? ⟨F, 4, none⟩ = some (.slice ps ns cs) ∧ U.cell? ⟨F, 5, none⟩ = some (.slice pm nm cm) ∧ U.cell? ⟨F, 6, none⟩ = some (.slice pt nt ct) ∧ U.cell? ⟨F, 7, none⟩ = some (.int .i64 N) ∧ U.cell? ⟨F, 8, none⟩ = some (.int .i64 T)) (first | with_reducible assumption | with_reducible exact k9_drew (by assumption) | with_reducible exact k9_call (by assumption) (by assumption) | with_reducible exact k9_call (by assumption) (alloc_below _ _) | with_reducible exact k9_call (by assumption) (alloc_below _ _).drew | exact ⟨Below.drew (Below.refl _ _), z0, z1, z2, z3, z4, z5, z6, z7, z8⟩) (first
            | (go_at_call 44; with_reducible refine (HCP.out _ (below_step HB0.out HB0.out.size (And.left (by assumption)))).mono ?_; rintro e w5 ⟨⟨s', rfl, ho5, hal5, hap5⟩, hb5⟩; obtain ⟨p', c', pb', cb', ps', cs', pm', cm', pt', ct', rfl⟩ := alike_flat hal5; dsimp only))
    · have hle : w.heap.size ≤ w0.heap.size := HB0.out.size
      have hle5 : w0.heap.size ≤ w5.heap.size := hb5.size
      have h1 := wown_below (wown_mono (B' := w.heap.size) ho5 hle) (alloc_below w5 (.map #[] 0))
      obtain ⟨h2, h3⟩ := shop_made h1 hap5 (mapi_made w5) (Nat.le_trans hle hle5) (by rw [World.size_alloc]; omega)
      rw [World.size_alloc] at h2
      refine ⟨by kernel_rfl, w5.heap.size + 1, w5.heap.size, _, by kernel_rfl, h2, h3, hal5, ?_⟩
      have h4 : Below w0.heap.size w0 w5 := (Below.refl _ _).drew.trans hb5
      exact ((below_step HB0.out HB0.out.size h4).alloc (Nat.le_trans hle hle5) _).alloc (by rw [World.size_alloc]; omega) _
    · have hle : w.heap.size ≤ w0.heap.size := HB0.out.size
      have hsz : (w0.alloc (.map #[] 0)).drew.heap.size = w0.heap.size + 1 := by rw [World.size_drew, World.size_alloc]
      have hle5 : w0.heap.size + 1 ≤ w5.heap.size := by rw [← hsz]; exact hb5.size
      have h1 := wown_mono (B' := w.heap.size) ho5 (by omega)
      have hm5 : mapi w5 w0.heap.size [] := mapi_below (mapi_below (mapi_made w0) (V' := (w0.alloc (.map #[] 0)).drew) (Below.refl _ _).drew) hb5
      obtain ⟨h2, h3⟩ := shop_made h1 hap5 hm5 hle (by omega)
      refine ⟨by kernel_rfl, w5.heap.size, w0.heap.size, _, by kernel_rfl, h2, h3, hal5, ?_⟩
      have h4 : Below w0.heap.size w0 w5 := ((alloc_below w0 (.map #[] 0)).drew).trans (hb5.mono (by omega))
      exact (below_step HB0.out HB0.out.size h4).alloc (by omega) _
  case rest1 =>
    rintro u w6 ⟨J, b, s', hu, hsh, hmp, hal, hb6⟩
    obtain ⟨p', c', pb', cb', ps', cs', pm', cm', pt', ct', rfl⟩ := alike_flat hal
    simp only [setAll, List.foldl, Act.put, List.setIfInBounds_toArray, List.set_cons_zero, List.set_cons_succ, hu]
    dsimp only at *
    have HAL : Hid (alike (⟨A, B, p, n, c, l, pb, nb, cb, lb, ps, ns, cs, ls, pm, nm, cm, lm, pt, nt, ct, lt, N, T⟩ : Wld) ⟨A, B, p', n, c', l, pb', nb, cb', lb, ps', ns, cs', ls, pm', nm, cm', lm, pt', nt, ct', lt, N, T⟩) := hal
    have HSH : Hid (shop0 w.heap.size J b w6 ⟨A, B, p', n, c', l, pb', nb, cb', lb, ps', ns, cs', ls, pm', nm, cm', lm, pt', nt, ct', lt, N, T⟩ ∧ mapi w6 b []) := ⟨hsh, hmp⟩
    have HB6 : Hid (Below w.heap.size w w6) := hb6
    obtain ⟨-, -, -, -, -, -, j6, -, -, j9⟩ := bx10_c10 hsh.x
    simp only at j6 j9
    clear hu hsh hmp hal hb6 z0 z1 z2 z3 z4 z5 z6 z7 z8 hw0
    go_wp2_with fail
    clear j6 j9
    go_loopw [20] (fun i wr => ∃ k : Nat, i = .int .i64 (k : Int) ∧ k ≤ nt ∧ Hid (Below w.heap.size w wr ∧ shop0 w.heap.size J b wr ⟨A, B, p', n, c', l, pb', nb, cb', lb, ps', ns, cs', ls, pm', nm, cm', lm, pt', nt, ct', lt, N, T⟩ ∧ mapi wr b ((lt.map Trp.i).take k))) (fun i _ => nt - (intOf i).toNat)
    case atStart => exact ⟨0, rfl, by omega, HB6.out, HSH.out.1, by simpa using HSH.out.2⟩
    case round =>
      obtain ⟨k, rfl, hk, HS⟩ := hrel
      by_cases hlt : k < nt
      · have hkl : k < lt.length := by rw [HLT.out]; exact hlt
        obtain ⟨t, ht⟩ : ∃ t, lt[k] = t := ⟨_, rfl⟩
        obtain ⟨gt, rfl, hc, -, -, -⟩ := own_tcell HS.out.2.1.o.kt (j := k) (t := t) (by rw [List.getElem?_eq_getElem hkl, ht])
        have hft := HFI.out _ (List.getElem_mem hkl)
        have hsn := take_ids_snoc hkl
        rw [ht] at hft hsn
        obtain ⟨ti, to_, tk, tx, ty, tf, td⟩ := t
        obtain ⟨c0, c1, c2, c3, c4, c5, c6⟩ := hc
        simp only at c0 c1 c2 c3 c4 c5 c6
        obtain ⟨w4, hw4⟩ : ∃ w4, wr.alloc (.cells #[.int .i64 ti, .int .i64 to_, .int .i64 tk, .int .i64 tx, .int .i64 ty, .int .i64 tf, .int .i64 td] 47) = w4 := ⟨_, rfl⟩
        obtain ⟨G, hG⟩ : ∃ G, wr.heap.size = G := ⟨_, rfl⟩
        obtain ⟨g0, -, -, -, -, -, -⟩ := boxt hG hw4 (Below.refl _ _)
        have hb4 : Below wr.heap.size wr w4 := by rw [← hw4]; exact alloc_below _ _
        have hbw4 : Below w.heap.size w w4 := below_step HS.out.1 HS.out.1.size hb4
        have hlen : ((lt.map Trp.i).take k).length = k := by rw [List.length_take, List.length_map, HLT.out]; omega
        obtain ⟨w5, hrun, hm5, he5⟩ := mapi_put (k := ti) (V := w4.drew) (mapi_below (mapi_below HS.out.2.2 hb4) (Below.refl _ _).drew) hft (fun i hi => by
          obtain ⟨t, ht, rfl⟩ := List.mem_map.1 (List.mem_of_mem_take hi)
          exact HFI.out t ht) hlen (by omega)
        have hs4 := shop0_below (shop0_below HS.out.2.1 hb4) (Below.refl _ _).drew
        have hm4 := mapi_below (mapi_below HS.out.2.2 hb4) (V' := w4.drew) (Below.refl _ _).drew
        have hs5 : shop0 w.heap.size J b w5 ⟨A, B, p', n, c', l, pb', nb, cb', lb, ps', ns, cs', ls, pm', nm, cm', lm, some ⟨gt, 0, none⟩, nt, ct', lt, N, T⟩ := shop0_ex hs4 he5 (mapi_cells hs4.x hm4) (mapi_not hs4.o.kp hm4) (mapi_not hs4.o.kb hm4) (mapi_not hs4.o.ks hm4) (mapi_not hs4.o.km hm4) (mapi_not hs4.o.kt hm4)
        have hb5 : Below w.heap.size w w5 := hbw4.drew.trans (he5.below (B := w.heap.size) hbw4.drew.size (fun j hj e => by have := hs4.bB; omega))
        have HS5 : Hid (Below w.heap.size w w5 ∧ shop0 w.heap.size J b w5 ⟨A, B, p', n, c', l, pb', nb, cb', lb, ps', ns, cs', ls, pm', nm, cm', lm, some ⟨gt, 0, none⟩, nt, ct', lt, N, T⟩ ∧ mapi w5 b ((lt.map Trp.i).take (k + 1))) := ⟨hb5, hs5, by rw [hsn]; exact hm5⟩
        obtain ⟨-, -, -, -, -, -, -, -, -, j9⟩ := bx10_c10 (shop0_below HS.out.2.1 hb4).x
        have l1 : (k : Int) < nt := by omega
        have l2 : (0 : Int) ≤ k := by omega
        clear hs4 hm4 hs5 hb5 hm5 he5 hlen hbw4 hb4 hft hsn ht
        go_wp2_with fail
        go_region
        go_wp2_with fail
        go_roundw
        case rel => exact ⟨k + 1, by go_num, by omega, HS5.out⟩
        case measure => simp [intOf]; omega
      · have hkn : k = nt := by omega
        have hta : (lt.map Trp.i).take k = lt.map Trp.i := List.take_of_length_le (by rw [List.length_map, HLT.out]; omega)
        have HF2 : Hid (shop w.heap.size J b wr ⟨A, B, p', n, c', l, pb', nb, cb', lb, ps', ns, cs', ls, pm', nm, cm', lm, pt', nt, ct', lt, N, T⟩) := ⟨HS.out.2.1, by rw [← hta]; exact HS.out.2.2⟩
        subst hkn
        go_wp2_with fail
        go_ret
        exact ⟨⟨J, b, _, rfl, by first | exact HF2.out | (rw [← hF]; exact HF2.out), HAL.out⟩, by first | exact HS.out.1 | (rw [← hF]; exact HS.out.1)⟩
end Go.Proofs.Ytdcjjfipnilmpaa
/- goods.Do: what is told with an error. -/
namespace Go.Proofs.Ytdcjjfipnilmpaa
open Go.RowKit
set_option linter.unusedVariables false

set_option maxRecDepth 20000 in
set_option maxHeartbeats 2000000 in
theorem Do_no (s : Wld) (E : Int) (pl : Option Addr) (nl cl : Nat) (w : World) (h : s.fit w) (hm : nl ≤ 9223372036854775807) (hE : Hid (ber s nl E)) (hE0 : E ≠ 0) :
    Calls Try.prog 9 #[s.val, .slice pl nl cl] w fun e w' => e = .returned (.tuple #[wz.val, .slice none 0 0, .int .i64 E]) ∧ Below w.heap.size w w' := by
  obtain ⟨E0, hE1, hE2⟩ := hE.out
  have HC : Hid (∀ V, Below w.heap.size w V → Calls Try.prog 17 #[s.val] V fun e w' => e = .returned (.int .i64 E0) ∧ Below V.heap.size V w') := fun V hV => Check_world s E0 V (Wld.fit_below h hV) hE1
  clear h hE hE1
  obtain ⟨A, B, p, n, c, l, pb, nb, cb, lb, ps, ns, cs, ls, pm, nm, cm, lm, pt, nt, ct, lt, N, T⟩ := s
  unfold Wld.val at *
  dsimp only [wz] at *
  obtain ⟨F, hF⟩ : ∃ F, w.heap.size = F := ⟨_, rfl⟩
  obtain ⟨wa, hwa⟩ : ∃ wa, w.alloc (.cells #[.int .i64 A, .int .i64 B, .slice p n c, .slice pb nb cb, .slice ps ns cs, .slice pm nm cm, .slice pt nt ct, .int .i64 N, .int .i64 T] 28) = wa := ⟨_, rfl⟩
  have xa : bx9 wa F (.int .i64 A) (.int .i64 B) (.slice p n c) (.slice pb nb cb) (.slice ps ns cs) (.slice pm nm cm) (.slice pt nt ct) (.int .i64 N) (.int .i64 T) := by rw [← hwa, ← hF]; exact box9_new _ _ _ _ _ _ _ _ _ _
  have sa : wa.heap.size = F + 1 := by rw [← hwa, World.size_alloc, hF]
  obtain ⟨w0, hw0⟩ : ∃ w0, wa.alloc (.cells #[.int .i64 0, .int .i64 0, .slice none 0 0, .slice none 0 0, .slice none 0 0, .slice none 0 0, .slice none 0 0, .int .i64 0, .int .i64 0] 28) = w0 := ⟨_, rfl⟩
  have ba : Below wa.heap.size wa w0 := by rw [← hw0]; exact alloc_below _ _
  have R0 : bx9 w0 (F + 1) (.int .i64 0) (.int .i64 0) (.slice none 0 0) (.slice none 0 0) (.slice none 0 0) (.slice none 0 0) (.slice none 0 0) (.int .i64 0) (.int .i64 0) := by rw [← hw0, ← sa]; exact box9_new _ _ _ _ _ _ _ _ _ _
  have hB0 : Below w.heap.size w w0 := by
    have h1 : Below w.heap.size w wa := by rw [← hwa]; exact alloc_below _ _
    exact below_call h1 h1.size ba
  have HB0 : Hid (Below w.heap.size w w0) := hB0
  have HF : Hid (w.heap.size = F) := hF
  obtain ⟨z0, z1, z2, z3, z4, z5, z6, z7, z8⟩ := bx9_c9 (bx9_below xa ba)
  have HR0 : Hid (bx9 w0 (F + 1) (.int .i64 0) (.int .i64 0) (.slice none 0 0) (.slice none 0 0) (.slice none 0 0) (.slice none 0 0) (.slice none 0 0) (.int .i64 0) (.int .i64 0)) := R0
  clear xa ba hB0 R0
  go_enter Try.func9, Try.ntmps9
  go_wp2_with fail
  refine (HC.out w0 HB0.out).mono ?_
  rintro e w1 ⟨rfl, hb1⟩
  have HB1 : Hid (Below w.heap.size w w1) := below_call HB0.out HB0.out.size hb1
  have HR1 : Hid (bx9 w1 (F + 1) (.int .i64 0) (.int .i64 0) (.slice none 0 0) (.slice none 0 0) (.slice none 0 0) (.slice none 0 0) (.slice none 0 0) (.int .i64 0) (.int .i64 0)) := bx9_below HR0.out hb1
  clear z0 z1 z2 z3 z4 z5 z6 z7 z8 hb1 hw0 hwa sa hF
  obtain ⟨y0, y1, y2, y3, y4, y5, y6, y7, y8⟩ := bx9_c9 HR1.out
  have fr0 := bx9_free HR1.out 0
  have fr1 := bx9_free HR1.out 1
  have fr2 := bx9_free HR1.out 2
  have fr3 := bx9_free HR1.out 3
  have fr4 := bx9_free HR1.out 4
  have fr5 := bx9_free HR1.out 5
  have fr6 := bx9_free HR1.out 6
  have fr7 := bx9_free HR1.out 7
  have fr8 := bx9_free HR1.out 8
  have hEE : E0 = E ∨ (E0 = 0 ∧ E = 2 ∧ 200 < nl) := by
    rcases hE2 with ⟨_, h2⟩ | ⟨h1, h2, h3⟩ | ⟨_, _, h2⟩
    · exact .inl h2.symm
    · exact .inr ⟨h1, h3, h2⟩
    · exact absurd h2 hE0
  clear hE2
  rcases hEE with rfl | ⟨rfl, rfl, hgt⟩
  · have d1 : (E0 != 0) = true := by simp [hE0]
    go_wp2_with fail
    obtain ⟨V, hV⟩ : ∃ V, ((((((((w1.setCell ⟨F + 1, 0, none⟩ (.int .i64 0)).setCell ⟨F + 1, 1, none⟩ (.int .i64 0)).setCell ⟨F + 1, 2, none⟩ (.slice none 0 0)).setCell ⟨F + 1, 3, none⟩ (.slice none 0 0)).setCell ⟨F + 1, 4, none⟩ (.slice none 0 0)).setCell ⟨F + 1, 5, none⟩ (.slice none 0 0)).setCell ⟨F + 1, 6, none⟩ (.slice none 0 0)).setCell ⟨F + 1, 7, none⟩ (.int .i64 0)).setCell ⟨F + 1, 8, none⟩ (.int .i64 0) = V := ⟨_, rfl⟩
    rw [hV]
    obtain ⟨k2, kx⟩ := set9 HR1.out hV.symm
    obtain ⟨t0, t1, t2, t3, t4, t5, t6, t7, t8⟩ := bx9_c9 k2
    refine ⟨by simp, .tuple #[.agg #[.int .i64 0, .int .i64 0, .slice none 0 0, .slice none 0 0, .slice none 0 0, .slice none 0 0, .slice none 0 0, .int .i64 0, .int .i64 0], .slice none 0 0, .int .i64 E0], ?_, rfl, ?_⟩
    · simp [results, Try.results9, go_sem, t0, t1, t2, t3, t4, t5, t6, t7, t8]
    · have h9 : Below w.heap.size w V := HB1.out.trans (kx.below (B := w.heap.size) HB1.out.size (fun k hk e => by have := HF.out; omega))
      first | exact h9 | (rw [← HF.out]; exact h9)
  · have l1 : (200 : Int) < nl := by omega
    go_wp2_with fail
    obtain ⟨V, hV⟩ : ∃ V, ((((((((w1.setCell ⟨F + 1, 0, none⟩ (.int .i64 0)).setCell ⟨F + 1, 1, none⟩ (.int .i64 0)).setCell ⟨F + 1, 2, none⟩ (.slice none 0 0)).setCell ⟨F + 1, 3, none⟩ (.slice none 0 0)).setCell ⟨F + 1, 4, none⟩ (.slice none 0 0)).setCell ⟨F + 1, 5, none⟩ (.slice none 0 0)).setCell ⟨F + 1, 6, none⟩ (.slice none 0 0)).setCell ⟨F + 1, 7, none⟩ (.int .i64 0)).setCell ⟨F + 1, 8, none⟩ (.int .i64 0) = V := ⟨_, rfl⟩
    rw [hV]
    obtain ⟨k2, kx⟩ := set9 HR1.out hV.symm
    obtain ⟨t0, t1, t2, t3, t4, t5, t6, t7, t8⟩ := bx9_c9 k2
    refine ⟨by simp, .tuple #[.agg #[.int .i64 0, .int .i64 0, .slice none 0 0, .slice none 0 0, .slice none 0 0, .slice none 0 0, .slice none 0 0, .int .i64 0, .int .i64 0], .slice none 0 0, .int .i64 2], ?_, rfl, ?_⟩
    · simp [results, Try.results9, go_sem, t0, t1, t2, t3, t4, t5, t6, t7, t8]
    · have h9 : Below w.heap.size w V := HB1.out.trans (kx.below (B := w.heap.size) HB1.out.size (fun k hk e => by have := HF.out; omega))
      first | exact h9 | (rw [← HF.out]; exact h9)
end Go.Proofs.Ytdcjjfipnilmpaa
/- goods.Do: what is told of a right world. -/
namespace Go.Proofs.Ytdcjjfipnilmpaa
open Go.RowKit Go.Maps
set_option linter.unusedVariables false

theorem kbl : (Try.prog.info? 4).map (fun i => (i.zero, i.size, i.bytes)) = some (some (.bool false), 1, 1) := by kernel_rfl
section
variable {B J b g : Nat} {V V' : World} {s : Wld}
theorem shop_ex {S : Nat → Prop} (h : shop B J b V s) (he : Ex S V V') (hJ : ¬ S J) (hb : ¬ S b) (h1 : ∀ g, (Value.slice s.p s.n s.c).ownBlock = some g → ¬ S g) (h2 : ∀ g, (Value.slice s.pb s.nb s.cb).ownBlock = some g → ¬ S g) (h3 : ∀ g, (Value.slice s.ps s.ns s.cs).ownBlock = some g → ¬ S g)
    (h4 : ∀ g, (Value.slice s.pm s.nm s.cm).ownBlock = some g → ¬ S g) (h5 : ∀ g, (Value.slice s.pt s.nt s.ct).ownBlock = some g → ¬ S g) : shop B J b V' s :=
  ⟨shop0_ex h.1 he hJ h1 h2 h3 h4 h5, mapi_kept h.2 he hb⟩
/-- A row of something else written: the shop is as it was. -/
theorem shop_away {C n cap : Nat} {bs : List Bool} (h : shop B J b V s) (hr : mine 4 vbl C V (.slice (some ⟨g, 0, none⟩) n cap) bs) (o : Nat) (u : Value) : shop B J b (V.setCell ⟨g, o, none⟩ u) s := by
  have he : Ex (fun j => j = g) V (V.setCell ⟨g, o, none⟩ u) := Ex.set (S := fun j => j = g) V ⟨g, o, none⟩ rfl _
  have hx : ∀ {e : TypeId} {z B' n : Nat} {v : Value} {xs : List Value}, V.ownsRow B' e z v n xs → e ≠ 4 → ∀ j, v.ownBlock = some j → ¬ j = g := fun ho hne j hj e => own_apart ho hr hne j hj (by rw [e]; rfl)
  exact shop_ex h he (fun e => own_not hr h.1.x (by decide) g rfl e.symm) (fun e => mapi_not hr h.2 g rfl e.symm) (hx h.1.o.kp (by decide)) (hx h.1.o.kb (by decide)) (hx h.1.o.ks (by decide)) (hx h.1.o.km (by decide)) (hx h.1.o.kt (by decide))
end
/-- What deeds leave as it was. -/
structure kept (s s' : Wld) : Prop where
  a : s'.A = s.A
  b : s'.B = s.B
  l : s'.l = s.l
  lb : s'.lb = s.lb
  t : s'.T = s.T
  n : s'.n = s.n
  nb : s'.nb = s.nb
/-- The loop's state: k deeds are told. -/
def dinv (w1 : World) (B J b gd C nl W H : Nat) (s0 : Wld) (gs : List Ded) (k : Nat) (wr : World) : Prop :=
  Below B w1 wr ∧ B ≤ C ∧ ∃ (sk : Wld) (bs : List Bool), shop B J b wr sk ∧ likes s0 sk ∧ Dr W H s0.l s0.lb s0.shp (gs.take k) sk.shp bs ∧ mine 4 vbl C wr (.slice (some ⟨gd, 0, none⟩) nl nl) (bs ++ List.replicate (nl - k) false)
theorem set_next {bs : List Bool} {n k : Nat} (h : bs.length = k) (hk : k < n) (r : Bool) : (bs ++ List.replicate (n - k) false).set k r = (bs ++ [r]) ++ List.replicate (n - (k + 1)) false := by
  obtain ⟨m, hm⟩ : ∃ m, n - k = m + 1 := ⟨n - k - 1, by omega⟩
  have hm2 : n - (k + 1) = m := by omega
  rw [hm, hm2, List.replicate_succ, List.set_append_right _ _ (by omega), h]
  simp
theorem dor_take {gs : List Ded} {k : Nat} (hk : k < gs.length) : gs.take (k + 1) = gs.take k ++ [gs[k]] := List.take_succ_eq_append_getElem hk
set_option maxRecDepth 20000 in
set_option maxHeartbeats 8000000 in
theorem Do_ok (s : Wld) (W H : Nat) (pl : Option Addr) (nl cl : Nat) (gs : List Ded) (w : World) (h : s.fit w) (hk : okw s W H) (hg : dor w pl gs) (hx : ∀ t ∈ gs, fitd t) (hn : gs.length = nl) (h200 : nl ≤ 200) :
    Calls Try.prog 9 #[s.val, .slice pl nl cl] w fun e w' => (∃ (s' : Wld) (dp : Option Addr) (dc : Nat) (bs : List Bool), e = .returned (.tuple #[s'.val, .slice dp bs.length dc, .int .i64 0]) ∧ row vbl w' dp bs ∧ wown w.heap.size w' s' ∧ kept s s' ∧ Dr W H s.l s.lb s.shp gs s'.shp bs) ∧ Below w.heap.size w w' := by
  have HCK : Hid (∀ V, Below w.heap.size w V → Calls Try.prog 17 #[s.val] V fun e w' => e = .returned (.int .i64 0) ∧ Below V.heap.size V w') := fun V hV => Check_world s 0 V (Wld.fit_below h hV) (wre_of hk)
  have HOP : Hid (∀ V, Below w.heap.size w V → Calls Try.prog 30 #[s.val] V fun e w' => (∃ (J b : Nat) (s' : Wld), e = .returned (.pointer (some ⟨J, 0, none⟩)) ∧ shop V.heap.size J b w' s' ∧ alike s s') ∧ Below V.heap.size V w') := fun V hV => open_at s W H V (Wld.fit_below h hV) hk
  have HG : Hid (dor w pl gs) := hg
  have HXD : Hid (∀ t ∈ gs, fitd t) := hx
  have HGN : Hid (gs.length = nl) := hn
  have HOK : Hid (oks W H s.l s.lb s.shp ∧ s.A = W ∧ s.B = H) := ⟨okw_oks hk h.hb h.ht, hk.a, hk.b⟩
  clear h hk hg hx hn
  obtain ⟨A, B, p, n, c, l, pb, nb, cb, lb, ps, ns, cs, ls, pm, nm, cm, lm, pt, nt, ct, lt, N, T⟩ := s
  unfold Wld.val at *
  dsimp only at *
  obtain ⟨F, hF⟩ : ∃ F, w.heap.size = F := ⟨_, rfl⟩
  obtain ⟨wa, hwa⟩ : ∃ wa, w.alloc (.cells #[.int .i64 A, .int .i64 B, .slice p n c, .slice pb nb cb, .slice ps ns cs, .slice pm nm cm, .slice pt nt ct, .int .i64 N, .int .i64 T] 28) = wa := ⟨_, rfl⟩
  have xa : bx9 wa F (.int .i64 A) (.int .i64 B) (.slice p n c) (.slice pb nb cb) (.slice ps ns cs) (.slice pm nm cm) (.slice pt nt ct) (.int .i64 N) (.int .i64 T) := by rw [← hwa, ← hF]; exact box9_new _ _ _ _ _ _ _ _ _ _
  have sa : wa.heap.size = F + 1 := by rw [← hwa, World.size_alloc, hF]
  obtain ⟨w0, hw0⟩ : ∃ w0, wa.alloc (.cells #[.int .i64 0, .int .i64 0, .slice none 0 0, .slice none 0 0, .slice none 0 0, .slice none 0 0, .slice none 0 0, .int .i64 0, .int .i64 0] 28) = w0 := ⟨_, rfl⟩
  have ba : Below wa.heap.size wa w0 := by rw [← hw0]; exact alloc_below _ _
  have HX0 : Hid (bx9 w0 F (.int .i64 A) (.int .i64 B) (.slice p n c) (.slice pb nb cb) (.slice ps ns cs) (.slice pm nm cm) (.slice pt nt ct) (.int .i64 N) (.int .i64 T)) := bx9_below xa ba
  have HR0 : Hid (bx9 w0 (F + 1) (.int .i64 0) (.int .i64 0) (.slice none 0 0) (.slice none 0 0) (.slice none 0 0) (.slice none 0 0) (.slice none 0 0) (.int .i64 0) (.int .i64 0)) := by unfold Hid; rw [← hw0, ← sa]; exact box9_new _ _ _ _ _ _ _ _ _ _
  have hB0 : Below w.heap.size w w0 := by
    have h1 : Below w.heap.size w wa := by rw [← hwa]; exact alloc_below _ _
    exact below_call h1 h1.size ba
  have HB0 : Hid (Below w.heap.size w w0) := hB0
  have HS0 : Hid (w0.heap.size = F + 2) := by unfold Hid; rw [← hw0, World.size_alloc, sa]
  have HF : Hid (w.heap.size = F) := hF
  obtain ⟨z0, z1, z2, z3, z4, z5, z6, z7, z8⟩ := bx9_c9 HX0.out
  clear xa ba hB0
  go_enter Try.func9, Try.ntmps9
  go_wp2_with fail
  refine (HCK.out w0 HB0.out).mono ?_
  rintro e w1 ⟨rfl, hb1⟩
  have HB1 : Hid (Below w.heap.size w w1) := below_call HB0.out HB0.out.size hb1
  have HS1 : Hid (F + 2 ≤ w1.heap.size) := by unfold Hid; rw [← HS0.out]; exact hb1.size
  have HR1 : Hid (bx9 w1 (F + 1) (.int .i64 0) (.int .i64 0) (.slice none 0 0) (.slice none 0 0) (.slice none 0 0) (.slice none 0 0) (.slice none 0 0) (.int .i64 0) (.int .i64 0)) := bx9_below HR0.out hb1
  have HX1 : Hid (bx9 w1 F (.int .i64 A) (.int .i64 B) (.slice p n c) (.slice pb nb cb) (.slice ps ns cs) (.slice pm nm cm) (.slice pt nt ct) (.int .i64 N) (.int .i64 T)) := bx9_below HX0.out hb1
  clear z0 z1 z2 z3 z4 z5 z6 z7 z8 hb1 hw0 hwa sa hF HCK HX0 HR0
  obtain ⟨z0, z1, z2, z3, z4, z5, z6, z7, z8⟩ := bx9_c9 HX1.out
  have d200 : decide ((200 : Int) < nl) = false := by simp; omega
  go_wp2_with fail
  refine (HOP.out w1 HB1.out).mono ?_
  rintro e w2 ⟨⟨J, b, s0, rfl, hsh, hal⟩, hb2⟩
  obtain ⟨p', c', pb', cb', ps', cs', pm', cm', pt', ct', rfl⟩ := alike_flat hal
  dsimp only at *
  obtain ⟨s0, hs0⟩ : ∃ s0 : Wld, (⟨A, B, p', n, c', l, pb', nb, cb', lb, ps', ns, cs', ls, pm', nm, cm', lm, pt', nt, ct', lt, N, T⟩ : Wld) = s0 := ⟨_, rfl⟩
  rw [hs0] at hsh
  have HSH2 : Hid (shop w1.heap.size J b w2 s0) := hsh
  have HB2 : Hid (Below w1.heap.size w1 w2) := hb2
  have HO0 : Hid (oks W H s0.l s0.lb s0.shp ∧ s0.A = W ∧ s0.B = H) := by rw [← hs0]; exact HOK.out
  have HK0 : Hid (s0.A = A ∧ s0.B = B ∧ s0.l = l ∧ s0.lb = lb ∧ s0.T = T ∧ s0.n = n ∧ s0.nb = nb ∧ s0.shp = ⟨ls, lm, lt, N⟩) := by rw [← hs0]; exact ⟨rfl, rfl, rfl, rfl, rfl, rfl, rfl, rfl⟩
  clear z0 z1 z2 z3 z4 z5 z6 z7 z8 hsh hb2 hal hs0 HOP
  obtain ⟨i1, gi, gz0, gz1, gz2⟩ := info_parts kbl
  have GZ2 : Hid (i1.bytes = 1) := gz2
  clear gz2
  go_wp2_with (at_make; refine wpList_make_full _ rfl (.tmp 25) (.tmp 25) 30 rfl w2.heap.size 4 i1 (.bool false) 1 Try.underlying30 gi gz0 gz1 .i64 .i64 (nl : Int) (nl : Int) nl rfl rfl rfl rfl ?_ ?_ (Nat.le_refl _) ?_)
  · rw [GZ2.out]; omega
  · unfold maxLen; omega
  intro w3 hown3 hgr3
  obtain ⟨gd, hgd⟩ : ∃ gd, w2.heap.size = gd := ⟨_, rfl⟩
  rw [hgd] at hown3 ⊢
  have hb23 : Below w2.heap.size w2 w3 := (Below.refl _ _).grown hgr3 (Nat.le_refl _) (by simp)
  have e1 : (madeCells #[Value.bool false] nl).toList = (List.replicate nl false).map vbl := by
    rw [toList_madeCells_one (.bool false) nl]; simp [vbl]
  have hm3 : mine 4 vbl gd w3 (.slice (some ⟨gd, 0, none⟩) nl nl) (List.replicate nl false) := by
    unfold mine
    rw [List.length_replicate, ← e1]
    exact hown3
  have HGD : Hid (w1.heap.size ≤ gd) := by unfold Hid; rw [← hgd]; exact HB2.out.size
  have HI0 : Hid (dinv w1 w1.heap.size J b gd gd nl W H s0 gs 0 w3) := ⟨below_step HB2.out HB2.out.size hb23, HGD.out, s0, [], shop_below HSH2.out hb23, likes.refl _, by simpa using Dr.zero, by simpa using hm3⟩
  clear hown3 hgr3 hb23 e1 hm3 gi gz0 gz1 hgd
  go_wp2_with fail
  go_loopw [29] (fun i wr => ∃ k : Nat, i = .int .i64 (k : Int) ∧ k ≤ nl ∧ Hid (dinv w1 w1.heap.size J b gd gd nl W H s0 gs k wr)) (fun i _ => nl - (intOf i).toNat)
  case atStart => exact ⟨0, rfl, by omega, HI0.out⟩
  case round =>
    obtain ⟨k, rfl, hk, HS⟩ := hrel
    have HBr : Hid (Below w.heap.size w wr) := below_step HB1.out HB1.out.size HS.out.1
    by_cases hlt : k < nl
    · have hkl : k < gs.length := by rw [HGN.out]; exact hlt
      obtain ⟨a, rfl, hc⟩ := dor_at (dor_below HG.out HBr.out) hkl
      obtain ⟨t, ht⟩ : ∃ t, gs[k] = t := ⟨_, rfl⟩
      have hft := HXD.out _ (List.getElem_mem hkl)
      have hsn := dor_take hkl
      rw [ht] at hc hft hsn
      have HSN : Hid (gs.take (k + 1) = gs.take k ++ [t]) := hsn
      obtain ⟨sk, bs, hsh, hlk, hdr, hmb⟩ := HS.out.2.2
      have hok := dr_oks HO0.out.1 hdr
      rw [← hlk.l, ← hlk.lb] at hok
      obtain ⟨dk, dw, dx, dy, da⟩ := t
      obtain ⟨c0, c1, c2, c3, c4⟩ := hc
      simp only at c0 c1 c2 c3 c4
      obtain ⟨w4, hw4⟩ : ∃ w4, wr.alloc (.cells #[.int .i64 dk, .int .i64 dw, .int .i64 dx, .int .i64 dy, .int .i64 da] 52) = w4 := ⟨_, rfl⟩
      have hb4 : Below wr.heap.size wr w4 := by rw [← hw4]; exact alloc_below _ _
      obtain ⟨G, hG⟩ : ∃ G, wr.heap.size = G := ⟨_, rfl⟩
      have e4 : w4.heap[G]? = some (.cells #[.int .i64 dk, .int .i64 dw, .int .i64 dx, .int .i64 dy, .int .i64 da] 52) := by rw [← hw4, ← hG]; exact World.alloc_heap_new wr _
      have q0 : w4.cell? ⟨G, 0, none⟩ = some (.int .i64 dk) := by simp [World.cell?, e4]
      have q1 : w4.cell? ⟨G, 1, none⟩ = some (.int .i64 dw) := by simp [World.cell?, e4]
      have q2 : w4.cell? ⟨G, 2, none⟩ = some (.int .i64 dx) := by simp [World.cell?, e4]
      have q3 : w4.cell? ⟨G, 3, none⟩ = some (.int .i64 dy) := by simp [World.cell?, e4]
      have q4 : w4.cell? ⟨G, 4, none⟩ = some (.int .i64 da) := by simp [World.cell?, e4]
      have HDO : Hid (Calls Try.prog 31 #[.pointer (some ⟨J, 0, none⟩), .agg #[.int .i64 dk, .int .i64 dw, .int .i64 dx, .int .i64 dy, .int .i64 da]] w4 fun e w' => resO w1.heap.size J b sk (fun s' r => Ds W H sk.l sk.lb sk.shp ⟨dk, dw, dx, dy, da⟩ s' r) e w' ∧ Ex (shS J b sk) w4 w') :=
        do_at w1.heap.size J b W H sk ⟨dk, dw, dx, dy, da⟩ w4 (shop_below hsh hb4) hok (by rw [hlk.a]; exact HO0.out.2.1) (by rw [hlk.b]; exact HO0.out.2.2) hft
      have HB4 : Hid (Below w1.heap.size w1 w4) := below_step HS.out.1 HS.out.1.size hb4
      have HLK : Hid (likes s0 sk) := hlk
      have HDR : Hid (Dr W H s0.l s0.lb s0.shp (gs.take k) sk.shp bs) := hdr
      have HSH4 : Hid (shop w1.heap.size J b w4 sk) := shop_below hsh hb4
      have HMB4 : Hid (mine 4 vbl gd w4 (.slice (some ⟨gd, 0, none⟩) nl nl) (bs ++ List.replicate (nl - k) false)) := mine_below hmb hb4
      have HBL : Hid (bs.length = k) := by have h1 := dr_len hdr; rw [List.length_take] at h1; unfold Hid; have := HGN.out; omega
      have l1 : (k : Int) < nl := by omega
      have l2 : (0 : Int) ≤ k := by omega
      clear hsh hlk hdr hmb hok ht hft hsn hb4 e4
      go_wp2_with fail
      refine Calls.mono HDO.out ?_
      rintro e w5 ⟨⟨r, s1, rfl, hsh1, hlk1, hds⟩, he5⟩
      have hm5 : mine 4 vbl gd w5 (.slice (some ⟨gd, 0, none⟩) nl nl) (bs ++ List.replicate (nl - k) false) := mine_kept HMB4.out he5 (shS_row HSH4.out HMB4.out (by decide) (by decide) (by decide))
      have hll : (bs ++ List.replicate (nl - k) false).length = nl := by rw [List.length_append, List.length_replicate, HBL.out]; omega
      have hfr := mine_free hm5 hll k
      obtain ⟨uv, hcl⟩ : ∃ u, w5.cell? ⟨gd, k, none⟩ = some u := ⟨_, mine_cell hm5 hll (k := k) (by omega) rfl⟩
      have hb5 : Below w1.heap.size w1 w5 := HB4.out.trans (he5.below (B := w1.heap.size) HB4.out.size (fun j hj e => by have := shS_ge HSH4.out.1 j e; omega))
      have HD6 : Hid (dinv w1 w1.heap.size J b gd gd nl W H s0 gs (k + 1) (w5.setCell ⟨gd, k, none⟩ (.bool r))) := by
        refine ⟨hb5.setCell HGD.out _, HGD.out, s1, bs ++ [r], shop_away hsh1 hm5 _ _, HLK.out.trans hlk1, ?_, ?_⟩
        · rw [HSN.out]
          rw [HLK.out.l, HLK.out.lb] at hds
          exact HDR.out.more hds
        · have := mine_put hm5 hll k r
          rw [set_next HBL.out hlt] at this
          exact this
      clear hsh1 hlk1 hds he5 hm5 hb5 hll c0 c1 c2 c3 c4 q0 q1 q2 q3 q4 hw4
      go_wp2_with fail
      go_roundw
      case rel => exact ⟨k + 1, by go_num, by omega, HD6.out⟩
      case measure => simp [intOf]; omega
    · have hkn : k = nl := by omega
      subst hkn
      obtain ⟨hbr, -, sk, bs, hsh, hlk, hdr, hmb⟩ := HS.out
      have hta : gs.take k = gs := List.take_of_length_le (by rw [HGN.out]; omega)
      rw [hta] at hdr
      have hbl := dr_len hdr
      rw [HGN.out] at hbl
      simp only [Nat.sub_self, List.replicate_zero, List.append_nil] at hmb
      have hRr := bx9_below HR1.out (V' := wr) ⟨hbr.os, hbr.tape, hbr.output, hbr.size, hbr.block⟩
      have HLK : Hid (likes s0 sk) := hlk
      have HDR : Hid (Dr W H s0.l s0.lb s0.shp gs sk.shp bs) := hdr
      have HSHr : Hid (shop w1.heap.size J b wr sk) := hsh
      have HMB : Hid (mine 4 vbl gd wr (.slice (some ⟨gd, 0, none⟩) k k) bs) := hmb
      have HBL : Hid (bs.length = k) := hbl
      have HRr : Hid (bx9 wr (F + 1) (.int .i64 0) (.int .i64 0) (.slice none 0 0) (.slice none 0 0) (.slice none 0 0) (.slice none 0 0) (.slice none 0 0) (.int .i64 0) (.int .i64 0)) := hRr
      obtain ⟨A1, B1, p1, n1, c1, l1, pb1, nb1, cb1, lb1, ps1, ns1, cs1, ls1, pm1, nm1, cm1, lm1, pt1, nt1, ct1, lt1, N1, T1⟩ := sk
      obtain ⟨z0, z1, z2, z3, z4, z5, z6, z7, z8, z9⟩ := bx10_c10 hsh.1.x
      simp only at z0 z1 z2 z3 z4 z5 z6 z7 z8 z9
      obtain ⟨y0, y1, y2, y3, y4, y5, y6, y7, y8⟩ := bx9_c9 hRr
      have fr0 := bx9_free hRr 0
      have fr1 := bx9_free hRr 1
      have fr2 := bx9_free hRr 2
      have fr3 := bx9_free hRr 3
      have fr4 := bx9_free hRr 4
      have fr5 := bx9_free hRr 5
      have fr6 := bx9_free hRr 6
      have fr7 := bx9_free hRr 7
      have fr8 := bx9_free hRr 8
      have hJF : ¬ J = F + 1 := by have := HS1.out; have := hsh.1.jB; omega
      have hFJ : ¬ F + 1 = J := fun e => hJF e.symm
      clear hbr hsh hlk hdr hmb hta hbl hRr
      go_wp2_with fail
      obtain ⟨V, hV⟩ : ∃ V, ((((((((wr.setCell ⟨F + 1, 0, none⟩ (.int .i64 A1)).setCell ⟨F + 1, 1, none⟩ (.int .i64 B1)).setCell ⟨F + 1, 2, none⟩ (.slice p1 n1 c1)).setCell ⟨F + 1, 3, none⟩ (.slice pb1 nb1 cb1)).setCell ⟨F + 1, 4, none⟩ (.slice ps1 ns1 cs1)).setCell ⟨F + 1, 5, none⟩ (.slice pm1 nm1 cm1)).setCell ⟨F + 1, 6, none⟩ (.slice pt1 nt1 ct1)).setCell ⟨F + 1, 7, none⟩ (.int .i64 N1)).setCell ⟨F + 1, 8, none⟩ (.int .i64 T1) = V := ⟨_, rfl⟩
      rw [hV]
      obtain ⟨k2, kx⟩ := set9 HRr.out hV.symm
      obtain ⟨t0, t1, t2, t3, t4, t5, t6, t7, t8⟩ := bx9_c9 k2
      have hSz := HS1.out
      have hBw : w.heap.size ≤ w1.heap.size := HB1.out.size
      have nr : ∀ {e : TypeId} {z n : Nat} {v : Value} {xs : List Value}, wr.ownsRow w1.heap.size e z v n xs → ∀ g, v.ownBlock = some g → ¬ g = F + 1 := fun h g hg e => by have := own_base h g hg; omega
      have ho := HSHr.out.1.o
      have hwV : Below w.heap.size w V := HBr.out.trans (kx.below (B := w.heap.size) HBr.out.size (fun j hj e => by have := HF.out; omega))
      have hmV := mine_kept HMB.out kx (fun g hg e => by have := own_base HMB.out g hg; have := HGD.out; omega)
      refine ⟨by simp, .tuple #[.agg #[.int .i64 A1, .int .i64 B1, .slice p1 n1 c1, .slice pb1 nb1 cb1, .slice ps1 ns1 cs1, .slice pm1 nm1 cm1, .slice pt1 nt1 ct1, .int .i64 N1, .int .i64 T1], .slice (some ⟨gd, 0, none⟩) k k, .int .i64 0], ?_, ⟨⟨A1, B1, p1, n1, c1, l1, pb1, nb1, cb1, lb1, ps1, ns1, cs1, ls1, pm1, nm1, cm1, lm1, pt1, nt1, ct1, lt1, N1, T1⟩, some ⟨gd, 0, none⟩, k, bs, by rw [HBL.out], mine_row hmV HBL.out, ?_, ?_, ?_⟩, ?_⟩
      · simp [results, Try.results9, go_sem, t0, t1, t2, t3, t4, t5, t6, t7, t8]
      · rw [HF.out.symm.symm]
        exact wown_mono (wown_ex ho kx (nr ho.kp) (nr ho.kb) (nr ho.ks) (nr ho.km) (nr ho.kt)) (by first | exact hBw | (rw [← HF.out]; exact hBw))
      · have hL := HLK.out
        have hK := HK0.out
        exact ⟨by rw [hL.a, hK.1], by rw [hL.b, hK.2.1], by rw [hL.l, hK.2.2.1], by rw [hL.lb, hK.2.2.2.1], by rw [hL.t, hK.2.2.2.2.1], by rw [hL.n, hK.2.2.2.2.2.1], by rw [hL.nb, hK.2.2.2.2.2.2.1]⟩
      · have hK := HK0.out
        have := HDR.out
        rw [hK.2.2.1, hK.2.2.2.1, hK.2.2.2.2.2.2.2] at this
        exact this
      · first | exact hwV | (rw [← HF.out]; exact hwV)
end Go.Proofs.Ytdcjjfipnilmpaa
/- goods.Do, whatever is handed in; that what it tells is a right world. -/
namespace Go.Proofs.Ytdcjjfipnilmpaa
open Go.RowKit Go.Maps
set_option linter.unusedVariables false

/-- What Do tells, and of which error. -/
def dok (s : Wld) (gs : List Ded) (E : Int) (s' : Wld) (bs : List Bool) : Prop :=
  (E ≠ 0 ∧ s' = wz ∧ bs = []) ∨ (E = 0 ∧ ∃ W H, okw s W H ∧ kept s s' ∧ Dr W H s.l s.lb s.shp gs s'.shp bs)
theorem Do_any (s : Wld) (E : Int) (pl : Option Addr) (nl cl : Nat) (gs : List Ded) (w : World) (h : s.fit w) (hg : dor w pl gs) (hx : ∀ t ∈ gs, fitd t) (hn : gs.length = nl) (hm : nl ≤ 9223372036854775807) (hE : Hid (ber s nl E)) :
    Calls Try.prog 9 #[s.val, .slice pl nl cl] w fun e w' => (∃ (s' : Wld) (dp : Option Addr) (dc : Nat) (bs : List Bool), e = .returned (.tuple #[s'.val, .slice dp bs.length dc, .int .i64 E]) ∧ row vbl w' dp bs ∧ wown w.heap.size w' s' ∧ dok s gs E s' bs) ∧ Below w.heap.size w w' := by
  by_cases h0 : E = 0
  · subst h0
    obtain ⟨⟨W, H, hk⟩, h2⟩ := ber_ok hE.out
    refine (Do_ok s W H pl nl cl gs w h hk hg hx hn h2).mono ?_
    rintro e w' ⟨⟨s', dp, dc, bs, rfl, hr, ho, hkp, hd⟩, hb⟩
    exact ⟨⟨s', dp, dc, bs, rfl, hr, ho, .inr ⟨rfl, W, H, hk, hkp, hd⟩⟩, hb⟩
  · refine (Do_no s E pl nl cl w h hm hE h0).mono ?_
    rintro e w' ⟨rfl, hb⟩
    exact ⟨⟨wz, none, 0, [], rfl, row_nil _ _ _, wz_own _ _, .inl ⟨h0, rfl, rfl⟩⟩, hb⟩
theorem wz_fit {B : Nat} {V : World} (hw : wown B V wz) : wz.fit V := by
  have f0 : fits 0 := by unfold fits; omega
  exact fit_of_own hw f0 f0 f0 f0 (fun x hx => by cases hx) (fun x hx => by cases hx) (fun x hx => by cases hx) (fun x hx => by cases hx) (fun x hx => by cases hx)
theorem fits_am {l : List Int} (h : l.any am = false) : ∀ x ∈ l, fits x := fun x hx => by
  have := any_am.1 h x hx
  unfold fits; omega
theorem oks_fitt {W H : Nat} {l : List Int} {lb : List Cel} {s : Shp} (ho : oks W H l lb s) : ∀ t ∈ s.lt, fits t.i ∧ fits t.o ∧ fits t.k ∧ fits t.x ∧ fits t.y ∧ fits t.f ∧ fits t.d := fun t ht => by
  obtain ⟨k, hk, rfl⟩ := List.getElem_of_mem ht
  obtain ⟨h1, h2, h3, h4, h5, h6, h7, h8, h9, h10⟩ := ho.tr.1 k hk
  have h11 := ho.n2
  have h12 := ho.nb
  have hw := ho.f.1.2
  have hh := ho.f.2.1.2
  obtain ⟨a, b, e1, e2, ha, hb⟩ := inb_nat (opn_inb h6)
  have h13 : lifeOf s.lt[k].k ≤ 20 := by unfold lifeOf; split <;> omega
  have h14 : loadOf s.lt[k].k ≤ 5 := by unfold loadOf; split <;> omega
  rw [e1, e2]
  unfold fits
  refine ⟨by omega, by omega, ?_, by omega, by omega, by omega, by omega⟩
  rcases h3 with h3 | h3 <;> rw [h3] <;> omega
theorem okw_T {s : Wld} {W H : Nat} (h : okw s W H) : 0 ≤ s.T ∧ s.T ≤ 1000000 := by
  have hc := h.c
  unfold cok at hc
  simp at hc
  omega
theorem dr_right {s s' : Wld} {W H B : Nat} {w V : World} {gs : List Ded} {bs : List Bool} (h : s.fit w) (hk : okw s W H) (hkp : kept s s') (hd : Dr W H s.l s.lb s.shp gs s'.shp bs) (hw : wown B V s') : s'.fit V ∧ okw s' W H := by
  have ho := dr_oks (okw_oks hk h.hb h.ht) hd
  have hp := fit_of_own hw (by rw [hkp.a]; exact h.fA) (by rw [hkp.b]; exact h.fB) (by have h1 : 1 ≤ s'.N := ho.n1; have h2 : s'.N ≤ 1000000 := ho.n2; unfold fits; omega) (by rw [hkp.t]; exact h.fT) (by rw [hkp.l]; exact h.x) (by rw [hkp.lb]; exact h.xb)
    (fits_am ho.pl.2.1) (fits_am ho.mn.2.1) (oks_fitt ho)
  refine ⟨hp, oks_okw (by rw [hkp.l, hkp.lb]; exact ho) (by rw [hkp.a]; exact hk.a) (by rw [hkp.b]; exact hk.b) hp.hb hp.ht (by rw [hkp.t]; exact okw_T hk)⟩
theorem dok_fit {s s' : Wld} {E : Int} {B : Nat} {w V : World} {gs : List Ded} {bs : List Bool} (h : s.fit w) (hd : dok s gs E s' bs) (hw : wown B V s') : s'.fit V := by
  rcases hd with ⟨_, rfl, _⟩ | ⟨_, W, H, hk, hkp, hd⟩
  · exact wz_fit hw
  · exact (dr_right h hk hkp hd hw).1
end Go.Proofs.Ytdcjjfipnilmpaa
