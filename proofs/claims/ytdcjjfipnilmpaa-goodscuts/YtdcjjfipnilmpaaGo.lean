/- What goods.open returns: a shop like the world that is handed in, in memory of its own. -/
import Derived.Test.YtdcjjfipnilmpaaGx
import Derived.Test.YtdcjjfipnilmpaaCut
namespace Go.Proofs.Ytdcjjfipnilmpaa
open Go.RowKit Go.Maps
set_option linter.unusedVariables false

section
variable {B J b : Nat} {V U : World} {s : Wld}
theorem wown_mono {B' : Nat} (h : wown B V s) (hB : B' ≤ B) : wown B' V s :=
  ⟨own_mono h.kp hB, h.jp, own_mono h.kb hB, h.jb, own_mono h.ks hB, h.js, own_mono h.km hB, h.jm, own_mono h.kt hB, h.jt⟩
theorem mapi_made (V : World) : mapi (V.alloc (.map #[] 0)) V.heap.size [] := ⟨_, 0, World.ownsMap_made _ _ _ _, mpi_empty, Nat.zero_le _⟩
/-- A shop's box, laid. -/
theorem shop_made (ho : wown B U s) (ha : apart3 s) (hm : mapi U b []) (hb : B ≤ b) (hB : B ≤ U.heap.size) :
    shop0 B U.heap.size b (U.alloc (.cells #[.int .i64 s.A, .int .i64 s.B, .slice s.p s.n s.c, .slice s.pb s.nb s.cb, .slice s.ps s.ns s.cs, .slice s.pm s.nm s.cm, .slice s.pt s.nt s.ct, .int .i64 s.N, .int .i64 s.T, .map (some b)] 68)) s ∧ mapi (U.alloc (.cells #[.int .i64 s.A, .int .i64 s.B, .slice s.p s.n s.c, .slice s.pb s.nb s.cb, .slice s.ps s.ns s.cs, .slice s.pm s.nm s.cm, .slice s.pt s.nt s.ct, .int .i64 s.N, .int .i64 s.T, .map (some b)] 68)) b [] :=
  ⟨⟨World.alloc_heap_new U _, wown_below ho (alloc_below _ _), ha, hB, hb⟩, mapi_below hm (alloc_below _ _)⟩
theorem mapi_put {L : List Int} (h : mapi V b L) {k : Int} (fk : fits k) (hf : ∀ i ∈ L, fits i) {m : Nat} (hm : L.length = m) (hm2 : m ≤ 100) :
    ∃ V', (Instr.mapUpdate 66 (.map (some b)) (.int .i64 k) (.int .i64 (m : Int))).run Try.prog V = .ok () V' ∧ mapi V' b (L ++ [k]) ∧ Ex (fun g => g = b) V V' := by
  obtain ⟨D, n, h1, h2, h3⟩ := h
  obtain ⟨V', hrun, ho, hg⟩ := h1.update lawi Try.underlying66 (by unfold maxLen; omega) (key_int fk) (plainElem_int Try.underlying3 (wf_of (x := (m : Int)) (by unfold fits; omega)))
  refine ⟨V', hrun, ⟨_, n + 1, ho, mpi_put h2 fk hf hm, by rw [List.length_append, List.length_singleton]; omega⟩, (Ex.of_grown hg).mono (fun i _ e => by cases e; rfl)⟩
theorem take_ids_snoc {lt : List Trp} {k : Nat} (hk : k < lt.length) : (lt.map Trp.i).take (k + 1) = (lt.map Trp.i).take k ++ [lt[k].i] := by
  rw [List.take_succ_eq_append_getElem (by simpa using hk)]; simp
theorem run_makeMapi_hint (w : World) (n : Int) : (Instr.makeMap 66 (some (.int .i64 n))).run Try.prog w = .ok (.map (some w.heap.size)) (w.alloc (.map #[] 0)) := by
  simp [Instr.makeMap, run_underlying Try.underlying66, asInt, go_sem]
theorem alike_flat {s s' : Wld} (h : alike s s') : ∃ p c pb cb ps cs pm cm pt ct, s' = ⟨s.A, s.B, p, s.n, c, s.l, pb, s.nb, cb, s.lb, ps, s.ns, cs, s.ls, pm, s.nm, cm, s.lm, pt, s.nt, ct, s.lt, s.N, s.T⟩ := by
  obtain ⟨A', B', p', n', c', l', pb', nb', cb', lb', ps', ns', cs', ls', pm', nm', cm', lm', pt', nt', ct', lt', N', T'⟩ := s'
  unfold alike at h
  simp only at h
  obtain ⟨rfl, rfl, rfl, rfl, rfl, rfl, rfl, rfl, rfl, rfl, rfl, rfl, rfl, rfl⟩ := h
  exact ⟨_, _, _, _, _, _, _, _, _, _, rfl⟩
end
set_option maxRecDepth 20000 in
set_option maxHeartbeats 8000000 in
theorem open_at (s : Wld) (W H : Nat) (w : World) (h : s.fit w) (hk : okw s W H) :
    Calls Try.prog 30 #[s.val] w fun e w' => (∃ (J b : Nat) (s' : Wld), e = .returned (.pointer (some ⟨J, 0, none⟩)) ∧ shop w.heap.size J b w' s' ∧ alike s s') ∧ Below w.heap.size w w' := by
  have hsz : s.n ≤ 1600 ∧ s.ns ≤ 8 ∧ s.nm ≤ 1600 ∧ s.nb ≤ 8 ∧ s.nt ≤ 100 := by
    have h1 := h.h; have h2 := hk.f.2.2.1; have h3 := wh_le hk.f.1 hk.f.2.1; have h4 := hk.pl.1; have h5 := h.hs; have h6 := h.hb; have h7 := hk.nb; have h8 := hk.mn.1; have h9 := h.hm; have h10 := hk.nt
    omega
  have HCP : Hid (∀ V, Below w.heap.size w V → Calls Try.prog 44 #[s.val] V fun e w' => (∃ s' : Wld, e = .returned s'.val ∧ wown V.heap.size w' s' ∧ alike s s' ∧ apart3 s') ∧ Below V.heap.size V w') := fun V hV => Copy_any s V (Wld.fit_below h hV) (by omega) (by omega) (by omega) (by omega) (by omega)
  have HLT : Hid (s.lt.length = s.nt) := h.ht
  have HFI : Hid (∀ t ∈ s.lt, fits t.i) := fun t ht => (h.xt t ht).1
  have hnt := hsz.2.2.2.2
  clear h hk hsz
  obtain ⟨A, B, p, n, c, l, pb, nb, cb, lb, ps, ns, cs, ls, pm, nm, cm, lm, pt, nt, ct, lt, N, T⟩ := s
  unfold Wld.val at *
  dsimp only at *
  have hmm := run_makeMapi_hint
  obtain ⟨F, hF⟩ : ∃ F, w.heap.size = F := ⟨_, rfl⟩
  obtain ⟨w0, hw0⟩ : ∃ w0, w.alloc (.cells #[.int .i64 A, .int .i64 B, .slice p n c, .slice pb nb cb, .slice ps ns cs, .slice pm nm cm, .slice pt nt ct, .int .i64 N, .int .i64 T] 28) = w0 := ⟨_, rfl⟩
  have x0 : bx9 w0 F (.int .i64 A) (.int .i64 B) (.slice p n c) (.slice pb nb cb) (.slice ps ns cs) (.slice pm nm cm) (.slice pt nt ct) (.int .i64 N) (.int .i64 T) := by rw [← hw0, ← hF]; exact box9_new _ _ _ _ _ _ _ _ _ _
  have hB0 : Below w.heap.size w w0 := by rw [← hw0]; exact alloc_below _ _
  have HB0 : Hid (Below w.heap.size w w0) := hB0
  have HF : Hid (w.heap.size = F) := hF
  obtain ⟨z0, z1, z2, z3, z4, z5, z6, z7, z8⟩ := bx9_c9 x0
  have HZ : Hid (c9 w0 F (.int .i64 A) (.int .i64 B) (.slice p n c) (.slice pb nb cb) (.slice ps ns cs) (.slice pm nm cm) (.slice pt nt ct) (.int .i64 N) (.int .i64 T)) := bx9_c9 x0
  clear x0 hB0
  go_enter Try.func30, Try.ntmps30
  go_wp2_with fail
  refine cut_set [3, 6, 7, 8, 9, 10, 11, 12, 13] (fun u w' => ∃ (J b : Nat) (s' : Wld), u 3 = .pointer (some ⟨J, 0, none⟩) ∧ shop0 w.heap.size J b w' s' ∧ mapi w' b [] ∧ alike (⟨A, B, p, n, c, l, pb, nb, cb, lb, ps, ns, cs, ls, pm, nm, cm, lm, pt, nt, ct, lt, N, T⟩ : Wld) s' ∧ Below w.heap.size w w') ?first1 ?rest1
  case first1 =>
    go_region_held3 (fun U => Below w0.heap.size w0 U ∧ U.cell? ⟨F, 0, none⟩ = some (.int .i64 A) ∧ U.cell? ⟨F, 1, none⟩ = some (.int .i64 B) ∧ U.cell? ⟨F, 2, none⟩ = some (.slice p n c) ∧ U.cell? ⟨F, 3, none⟩ = some (.slice pb nb cb) ∧ U.cell? ⟨F, 4, none⟩ = some (.slice ps ns cs) ∧ U.cell? ⟨F, 5, none⟩ = some (.slice pm nm cm) ∧ U.cell? ⟨F, 6, none⟩ = some (.slice pt nt ct) ∧ U.cell? ⟨F, 7, none⟩ = some (.int .i64 N) ∧ U.cell? ⟨F, 8, none⟩ = some (.int .i64 T)) (first | with_reducible assumption | with_reducible exact k9_drew (by assumption) | with_reducible exact k9_call (by assumption) (by assumption) | with_reducible exact k9_call (by assumption) (alloc_below _ _) | with_reducible exact k9_call (by assumption) (alloc_below _ _).drew | exact ⟨Below.drew (Below.refl _ _), z0, z1, z2, z3, z4, z5, z6, z7, z8⟩) (first
            | (go_at_call 44; with_reducible refine (HCP.out _ (below_step HB0.out HB0.out.size (And.left (by assumption)))).mono ?_; rintro e w5 ⟨⟨s', rfl, ho5, hal5, hap5⟩, hb5⟩; obtain ⟨p', c', pb', cb', ps', cs', pm', cm', pt', ct', rfl⟩ := alike_flat hal5; dsimp only))
    · have hle : w.heap.size ≤ w0.heap.size := HB0.out.size
      have hle5 : w0.heap.size ≤ w5.heap.size := hb5.size
      have h1 := wown_below (wown_mono (B' := w.heap.size) ho5 hle) (alloc_below w5 (.map #[] 0))
      obtain ⟨h2, h3⟩ := shop_made h1 hap5 (mapi_made w5) (Nat.le_trans hle hle5) (by rw [World.size_alloc]; omega)
      rw [World.size_alloc] at h2
      refine ⟨by kernel_rfl, w5.heap.size + 1, w5.heap.size, _, by kernel_rfl, h2, h3, hal5, ?_⟩
      have h4 : Below w0.heap.size w0 w5 := (Below.refl _ _).drew.trans hb5
      exact ((below_step HB0.out HB0.out.size h4).alloc (Nat.le_trans hle hle5) _).alloc (by rw [World.size_alloc]; omega) _
    · have hle : w.heap.size ≤ w0.heap.size := HB0.out.size
      have hsz : (w0.alloc (.map #[] 0)).drew.heap.size = w0.heap.size + 1 := by rw [World.size_drew, World.size_alloc]
      have hle5 : w0.heap.size + 1 ≤ w5.heap.size := by rw [← hsz]; exact hb5.size
      have h1 := wown_mono (B' := w.heap.size) ho5 (by omega)
      have hm5 : mapi w5 w0.heap.size [] := mapi_below (mapi_below (mapi_made w0) (V' := (w0.alloc (.map #[] 0)).drew) (Below.refl _ _).drew) hb5
      obtain ⟨h2, h3⟩ := shop_made h1 hap5 hm5 hle (by omega)
      refine ⟨by kernel_rfl, w5.heap.size, w0.heap.size, _, by kernel_rfl, h2, h3, hal5, ?_⟩
      have h4 : Below w0.heap.size w0 w5 := ((alloc_below w0 (.map #[] 0)).drew).trans (hb5.mono (by omega))
      exact (below_step HB0.out HB0.out.size h4).alloc (by omega) _
  case rest1 =>
    rintro u w6 ⟨J, b, s', hu, hsh, hmp, hal, hb6⟩
    obtain ⟨p', c', pb', cb', ps', cs', pm', cm', pt', ct', rfl⟩ := alike_flat hal
    simp only [setAll, List.foldl, Act.put, List.setIfInBounds_toArray, List.set_cons_zero, List.set_cons_succ, hu]
    dsimp only at *
    have HAL : Hid (alike (⟨A, B, p, n, c, l, pb, nb, cb, lb, ps, ns, cs, ls, pm, nm, cm, lm, pt, nt, ct, lt, N, T⟩ : Wld) ⟨A, B, p', n, c', l, pb', nb, cb', lb, ps', ns, cs', ls, pm', nm, cm', lm, pt', nt, ct', lt, N, T⟩) := hal
    have HSH : Hid (shop0 w.heap.size J b w6 ⟨A, B, p', n, c', l, pb', nb, cb', lb, ps', ns, cs', ls, pm', nm, cm', lm, pt', nt, ct', lt, N, T⟩ ∧ mapi w6 b []) := ⟨hsh, hmp⟩
    have HB6 : Hid (Below w.heap.size w w6) := hb6
    obtain ⟨-, -, -, -, -, -, j6, -, -, j9⟩ := bx10_c10 hsh.x
    simp only at j6 j9
    clear hu hsh hmp hal hb6 z0 z1 z2 z3 z4 z5 z6 z7 z8 hw0
    go_wp2_with fail
    clear j6 j9
    go_loopw [20] (fun i wr => ∃ k : Nat, i = .int .i64 (k : Int) ∧ k ≤ nt ∧ Hid (Below w.heap.size w wr ∧ shop0 w.heap.size J b wr ⟨A, B, p', n, c', l, pb', nb, cb', lb, ps', ns, cs', ls, pm', nm, cm', lm, pt', nt, ct', lt, N, T⟩ ∧ mapi wr b ((lt.map Trp.i).take k))) (fun i _ => nt - (intOf i).toNat)
    case atStart => exact ⟨0, rfl, by omega, HB6.out, HSH.out.1, by simpa using HSH.out.2⟩
    case round =>
      obtain ⟨k, rfl, hk, HS⟩ := hrel
      by_cases hlt : k < nt
      · have hkl : k < lt.length := by rw [HLT.out]; exact hlt
        obtain ⟨t, ht⟩ : ∃ t, lt[k] = t := ⟨_, rfl⟩
        obtain ⟨gt, rfl, hc, -, -, -⟩ := own_tcell HS.out.2.1.o.kt (j := k) (t := t) (by rw [List.getElem?_eq_getElem hkl, ht])
        have hft := HFI.out _ (List.getElem_mem hkl)
        have hsn := take_ids_snoc hkl
        rw [ht] at hft hsn
        obtain ⟨ti, to_, tk, tx, ty, tf, td⟩ := t
        obtain ⟨c0, c1, c2, c3, c4, c5, c6⟩ := hc
        simp only at c0 c1 c2 c3 c4 c5 c6
        obtain ⟨w4, hw4⟩ : ∃ w4, wr.alloc (.cells #[.int .i64 ti, .int .i64 to_, .int .i64 tk, .int .i64 tx, .int .i64 ty, .int .i64 tf, .int .i64 td] 47) = w4 := ⟨_, rfl⟩
        obtain ⟨G, hG⟩ : ∃ G, wr.heap.size = G := ⟨_, rfl⟩
        obtain ⟨g0, -, -, -, -, -, -⟩ := boxt hG hw4 (Below.refl _ _)
        have hb4 : Below wr.heap.size wr w4 := by rw [← hw4]; exact alloc_below _ _
        have hbw4 : Below w.heap.size w w4 := below_step HS.out.1 HS.out.1.size hb4
        have hlen : ((lt.map Trp.i).take k).length = k := by rw [List.length_take, List.length_map, HLT.out]; omega
        obtain ⟨w5, hrun, hm5, he5⟩ := mapi_put (k := ti) (V := w4.drew) (mapi_below (mapi_below HS.out.2.2 hb4) (Below.refl _ _).drew) hft (fun i hi => by
          obtain ⟨t, ht, rfl⟩ := List.mem_map.1 (List.mem_of_mem_take hi)
          exact HFI.out t ht) hlen (by omega)
        have hs4 := shop0_below (shop0_below HS.out.2.1 hb4) (Below.refl _ _).drew
        have hm4 := mapi_below (mapi_below HS.out.2.2 hb4) (V' := w4.drew) (Below.refl _ _).drew
        have hs5 : shop0 w.heap.size J b w5 ⟨A, B, p', n, c', l, pb', nb, cb', lb, ps', ns, cs', ls, pm', nm, cm', lm, some ⟨gt, 0, none⟩, nt, ct', lt, N, T⟩ := shop0_ex hs4 he5 (mapi_cells hs4.x hm4) (mapi_not hs4.o.kp hm4) (mapi_not hs4.o.kb hm4) (mapi_not hs4.o.ks hm4) (mapi_not hs4.o.km hm4) (mapi_not hs4.o.kt hm4)
        have hb5 : Below w.heap.size w w5 := hbw4.drew.trans (he5.below (B := w.heap.size) hbw4.drew.size (fun j hj e => by have := hs4.bB; omega))
        have HS5 : Hid (Below w.heap.size w w5 ∧ shop0 w.heap.size J b w5 ⟨A, B, p', n, c', l, pb', nb, cb', lb, ps', ns, cs', ls, pm', nm, cm', lm, some ⟨gt, 0, none⟩, nt, ct', lt, N, T⟩ ∧ mapi w5 b ((lt.map Trp.i).take (k + 1))) := ⟨hb5, hs5, by rw [hsn]; exact hm5⟩
        obtain ⟨-, -, -, -, -, -, -, -, -, j9⟩ := bx10_c10 (shop0_below HS.out.2.1 hb4).x
        have l1 : (k : Int) < nt := by omega
        have l2 : (0 : Int) ≤ k := by omega
        clear hs4 hm4 hs5 hb5 hm5 he5 hlen hbw4 hb4 hft hsn ht
        go_wp2_with fail
        go_region
        go_wp2_with fail
        go_roundw
        case rel => exact ⟨k + 1, by go_num, by omega, HS5.out⟩
        case measure => simp [intOf]; omega
      · have hkn : k = nt := by omega
        have hta : (lt.map Trp.i).take k = lt.map Trp.i := List.take_of_length_le (by rw [List.length_map, HLT.out]; omega)
        have HF2 : Hid (shop w.heap.size J b wr ⟨A, B, p', n, c', l, pb', nb, cb', lb, ps', ns, cs', ls, pm', nm, cm', lm, pt', nt, ct', lt, N, T⟩) := ⟨HS.out.2.1, by rw [← hta]; exact HS.out.2.2⟩
        subst hkn
        go_wp2_with fail
        go_ret
        exact ⟨⟨J, b, _, rfl, by first | exact HF2.out | (rw [← hF]; exact HF2.out), HAL.out⟩, by first | exact HS.out.1 | (rw [← hF]; exact HS.out.1)⟩
end Go.Proofs.Ytdcjjfipnilmpaa
