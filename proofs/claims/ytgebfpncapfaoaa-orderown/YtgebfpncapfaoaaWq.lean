/- What haveMines returns. -/
import Derived.Test.YtgebfpncapfaoaaWp
namespace Go.Proofs.Ytgebfpncapfaoaa
open Go.RowKit
set_option linter.unusedVariables false

set_option maxRecDepth 20000 in
set_option maxHeartbeats 4000000 in
theorem haveMines_at (s : Wld) (W H : Nat) (b : Bool) (w : World) (h : s.fit w) (hA : s.A = W) (hB : s.B = H) (hf : okf W H s.l) (hb : Hid (b = true ↔ MNr s.l s.lm)) :
    Calls Try.prog 68 #[s.val] w fun e w' => e = .returned (.bool b) ∧ Below w.heap.size w w' := by
  obtain ⟨A, B, p, n, c, l, pb, nb, cb, lb, ps, ns, cs, ls, pm, nm, cm, lm, pt, nt, ct, lt, N, T⟩ := s
  have hr := h.r
  have hn := h.h
  have hm := h.m
  have rm := h.rm
  have hlm := h.hm
  have mm := h.mm
  clear h
  unfold Wld.val
  dsimp only at *
  subst hA hB
  have HN : Hid (l.length = n) := hn
  have HLM : Hid (lm.length = nm) := hlm
  have hn1600 : n ≤ 1600 := by rw [← hn, hf.2.2.1]; exact wh_le hf.1 hf.2.1
  obtain ⟨F, hF⟩ : ∃ F, w.heap.size = F := ⟨_, rfl⟩
  obtain ⟨w0, hw0⟩ : ∃ w0, w.alloc (.cells #[.int .i64 (W : Int), .int .i64 (H : Int), .slice p n c, .slice pb nb cb, .slice ps ns cs, .slice pm nm cm, .slice pt nt ct, .int .i64 N, .int .i64 T] 41) = w0 := ⟨_, rfl⟩
  have HBX : Hid (∀ V, Below w0.heap.size w0 V → c9 V F (.int .i64 (W : Int)) (.int .i64 (H : Int)) (.slice p n c) (.slice pb nb cb) (.slice ps ns cs) (.slice pm nm cm) (.slice pt nt ct) (.int .i64 N) (.int .i64 T)) := fun V hV => boxw hF hw0 hV
  have hB0 : Below w.heap.size w w0 := by rw [← hw0]; exact alloc_below _ _
  have HB0 : Hid (Below w.heap.size w w0) := hB0
  have HR : Hid (row vi w0 p l) := row_below hr hB0
  have HRM : Hid (row vi w0 pm lm) := row_below rm hB0
  obtain ⟨z0, z1, z2, z3, z4, z5, z6, z7, z8⟩ := HBX.out w0 (Below.refl _ _)
  clear hr rm hB0 hn hlm hf
  by_cases hne : nm = n
  rotate_left
  · have hne2 : ¬ ((nm : Int) = n) := by omega
    have d1 : ((nm : Int) != (n : Int)) = true := by simp [hne2]
    have d2 : (nm != n) = true := by simp [hne]
    have eb : b = false := bool_no hb.out (fun h => hne (by have := h.1; rw [HLM.out, HN.out] at this; exact this))
    subst eb
    clear hne
    go_enter Try.func68, Try.ntmps68
    go_wp2_with fail
    go_ret
    exact ⟨rfl, HB0.out⟩
  subst hne
  cases hq : lm.any am with
  | true =>
    have HQ : Hid (lm.any am = true) := hq
    have eb : b = false := bool_no hb.out (fun h => by have := h.2.1; rw [hq] at this; cases this)
    subst eb
    clear hq
    go_enter Try.func68, Try.ntmps68
    go_wp2_with fail
    refine (ContainsFunc_any isNoAmount_asks pm nm cm lm true _ HRM.out HLM.out mm HQ).mono ?_
    rintro e w' ⟨rfl, hw⟩; subst w'
    go_wp2_with fail
    go_ret
    exact ⟨rfl, HB0.out⟩
  | false =>
    have HQ : Hid (lm.any am = false) := hq
    clear hq
    go_enter Try.func68, Try.ntmps68
    go_wp2_with fail
    refine (ContainsFunc_any isNoAmount_asks pm nm cm lm false _ HRM.out HLM.out mm HQ).mono ?_
    rintro e w' ⟨rfl, hw⟩; subst w'
    go_wp2_with fail
    clear hw0 hF
    go_loop [21] (fun i => ∃ k : Nat, i = .int .i64 (k : Int) ∧ k ≤ nm ∧ Hid (∀ i (h : i < lm.length), i < k → lm[i] ≠ 0 → l.getD i 0 = 3)) (fun i => nm - (intOf i).toNat)
    case atStart => exact ⟨0, rfl, by omega, fun i h hi => by omega⟩
    case round =>
      obtain ⟨k, rfl, hk, HS⟩ := hrel
      by_cases hlt : k < nm
      · have hkl : k < lm.length := by rw [HLM.out]; exact hlt
        have hkl2 : k < l.length := by rw [HN.out]; exact hlt
        obtain ⟨am_, rfl, ha⟩ := row_at HRM.out hkl
        obtain ⟨ap, rfl, hc⟩ := row_at HR.out hkl2
        obtain ⟨X, hX⟩ : ∃ X, lm[k] = X := ⟨_, rfl⟩
        obtain ⟨Z, hZ⟩ : ∃ Z, l[k] = Z := ⟨_, rfl⟩
        have HZ : Hid (l.getD k 0 = Z) := by unfold Hid; rw [List.getD_eq_getElem?_getD, List.getElem?_eq_getElem hkl2, ← hZ]; rfl
        have HX : Hid (lm[k] = X) := hX
        rw [hX] at ha
        rw [hZ] at hc
        have ha' : w0.cell? (am_.add k) = some (.int .i64 X) := ha
        have hc' : w0.cell? (ap.add k) = some (.int .i64 Z) := hc
        have l1 : (k : Int) < nm := by omega
        have l2 : (0 : Int) ≤ k := by omega
        have HNX : Hid ((X = 0 ∨ Z = 3) → ∀ i (h : i < lm.length), i < k + 1 → lm[i] ≠ 0 → l.getD i 0 = 3) := fun h i hi hik hne => by
          by_cases e : i = k
          · subst e
            rw [HX.out] at hne
            rcases h with h | h
            · exact absurd h hne
            · rw [HZ.out]; exact h
          · exact HS.out i hi (by omega) hne
        have HBN : Hid (X ≠ 0 → Z ≠ 3 → b = false) := fun h1 h2 => bool_no hb.out (fun hp => h2 (by rw [← HZ.out]; exact hp.2.2 k hkl (by rw [HX.out]; exact h1)))
        clear hX hZ ha hc
        by_cases hx : X = 0
        · subst hx
          have HN2 := HNX.out (.inl rfl)
          have HN3 : Hid (∀ i (h : i < lm.length), i < k + 1 → lm[i] ≠ 0 → l.getD i 0 = 3) := HN2
          clear HN2
          go_wp2_with fail
          go_round
          case rel => exact ⟨k + 1, by go_num, by omega, HN3.out⟩
          case measure => simp [intOf]; omega
        · have d1 : (X != 0) = true := by simp [hx]
          by_cases hz : Z = 3
          · subst hz
            have HN3 : Hid (∀ i (h : i < lm.length), i < k + 1 → lm[i] ≠ 0 → l.getD i 0 = 3) := HNX.out (.inr rfl)
            go_wp2_with fail
            go_round
            case rel => exact ⟨k + 1, by go_num, by omega, HN3.out⟩
            case measure => simp [intOf]; omega
          · have d2 : (Z != 3) = true := by simp [hz]
            have HB2 : Hid (b = false) := HBN.out hx hz
            go_wp2_with fail
            go_ret
            exact ⟨by rw [HB2.out]; rfl, HB0.out⟩
      · have HBT : Hid (b = true) := hb.out.2 ⟨by rw [HLM.out, HN.out], HQ.out, fun i hi => HS.out i hi (by have := HLM.out; omega)⟩
        go_wp2_with fail
        go_ret
        exact ⟨by rw [HBT.out]; rfl, HB0.out⟩
end Go.Proofs.Ytgebfpncapfaoaa
