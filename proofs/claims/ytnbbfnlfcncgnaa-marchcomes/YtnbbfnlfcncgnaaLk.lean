/- What look returns, and IndexFunc over troops. -/
import Derived.Test.YtnbbfnlfcncgnaaWc
import Derived.Test.YtnbbfnlfcncgnaaKx
namespace Go.Proofs.Ytnbbfnlfcncgnaa
open Go.RowKit
set_option linter.unusedVariables false

/-- The places, among the first k, of those of whom P is true. -/
def ixs (P : Trp → Bool) (lt : List Trp) : Nat → List Int
  | 0 => []
  | k + 1 => ixs P lt k ++ (match lt[k]? with | some t => if P t then [(k : Int)] else [] | none => [])
theorem ixs_succ {P : Trp → Bool} {lt : List Trp} {k : Nat} (hk : k < lt.length) : ixs P lt (k + 1) = ixs P lt k ++ if P lt[k] then [(k : Int)] else [] := by
  show ixs P lt k ++ (match lt[k]? with | some t => if P t then [(k : Int)] else [] | none => []) = _
  rw [List.getElem?_eq_getElem hk]
theorem ixs_len (P : Trp → Bool) (lt : List Trp) (k : Nat) : (ixs P lt k).length ≤ k := by
  induction k with
  | zero => exact Nat.le_refl _
  | succ k ih =>
    show (ixs P lt k ++ (match lt[k]? with | some t => if P t then [(k : Int)] else [] | none => [])).length ≤ k + 1
    rw [List.length_append]
    split
    · split <;> simp <;> omega
    · simp; omega
theorem ixs_mem {P : Trp → Bool} {lt : List Trp} {x : Int} : ∀ {k : Nat}, k ≤ lt.length → (x ∈ ixs P lt k ↔ ∃ i : Nat, x = i ∧ i < k ∧ ∃ h : i < lt.length, P lt[i] = true) := by
  intro k
  induction k with
  | zero => intro _; constructor
            · intro h; cases h
            · rintro ⟨i, _, h, _⟩; omega
  | succ k ih =>
    intro hk
    rw [ixs_succ hk, List.mem_append, ih (by omega)]
    constructor
    · rintro (⟨i, h1, h2, h3⟩ | h)
      · exact ⟨i, h1, by omega, h3⟩
      · split at h
        · rename_i hp
          exact ⟨k, by simpa using h, by omega, hk, hp⟩
        · cases h
    · rintro ⟨i, h1, h2, h3, h4⟩
      by_cases e : i = k
      · subst e; rw [if_pos h4]; right; simp [h1]
      · exact .inl ⟨i, h1, by omega, h3, h4⟩
set_option maxRecDepth 20000 in
set_option maxHeartbeats 4000000 in
theorem look1_any {f : Nat} (hen0 : Enters f) (k0 : Value) (s : Wld) (P : Trp → Bool) (w : World) (h : s.fit w) (hnt : s.nt ≤ 100)
    (hf : Hid (∀ t V, t ∈ s.lt → Below w.heap.size w V → Calls Try.prog f #[tv t, k0] V fun e w' => e = .returned (.bool (P t)) ∧ Below V.heap.size V w')) :
    Calls Try.prog 62 #[s.val, .func (.func f) #[] #[k0]] w fun e w' => (∃ v, e = .returned v ∧ mine 3 vi w.heap.size w' v (ixs P s.lt s.nt)) ∧ Below w.heap.size w w' := by
  have hen : ∀ (args : Array Value) (w : World), (callFunc f args).run Try.prog w = .ok (.enter f args) w := hen0
  clear hen0
  obtain ⟨A, B, p, n, c, l, pb, nb, cb, lb, ps, ns, cs, ls, pm, nm, cm, lm, pt, nt, ct, lt, N, T⟩ := s
  have rt := h.rt
  have hlt := h.ht
  clear h
  unfold Wld.val
  dsimp only at *
  have HLT : Hid (lt.length = nt) := hlt
  obtain ⟨F, hF⟩ : ∃ F, w.heap.size = F := ⟨_, rfl⟩
  obtain ⟨w0, hw0⟩ : ∃ w0, w.alloc (.cells #[.int .i64 A, .int .i64 B, .slice p n c, .slice pb nb cb, .slice ps ns cs, .slice pm nm cm, .slice pt nt ct, .int .i64 N, .int .i64 T] 28) = w0 := ⟨_, rfl⟩
  have hB0 : Below w.heap.size w w0 := by rw [← hw0]; exact alloc_below _ _
  have HB0 : Hid (Below w.heap.size w w0) := hB0
  have HRT : Hid (trow w pt lt) := rt
  obtain ⟨z0, z1, z2, z3, z4, z5, z6, z7, z8⟩ := boxw hF hw0 (Below.refl _ _)
  clear rt hB0 hlt
  go_enter Try.func62, Try.ntmps62
  go_wp2_with fail
  clear hw0 hF z0 z1 z2 z3 z4 z5 z6 z7 z8
  go_loopw [5, 11] (fun v i wr => ∃ k : Nat, i = .int .i64 (k : Int) ∧ k ≤ nt ∧ Hid (Below w.heap.size w wr ∧ mine 3 vi w.heap.size wr v (ixs P lt k))) (fun _ i _ => nt - (intOf i).toNat)
  case atStart => exact ⟨0, rfl, by omega, HB0.out, mine_nil _ _ _ _⟩
  case round =>
    obtain ⟨k, rfl, hk, HS⟩ := hrel
    by_cases hkn : k < nt
    · have hkl : k < lt.length := by rw [HLT.out]; exact hkn
      obtain ⟨a, rfl, hc⟩ := trow_at (trow_below HRT.out HS.out.1) hkl
      obtain ⟨t, ht⟩ : ∃ t, lt[k] = t := ⟨_, rfl⟩
      have HT : Hid (lt[k] = t) := ht
      have HPT : Hid (∀ V, Below w.heap.size w V → Calls Try.prog f #[tv t, k0] V fun e w' => e = .returned (.bool (P t)) ∧ Below V.heap.size V w') := fun V hV => hf.out t V (by rw [← ht]; exact List.getElem_mem hkl) hV
      rw [ht] at hc
      clear ht
      obtain ⟨g, hg⟩ : ∃ g, P t = g := ⟨_, rfl⟩
      have HG : Hid (P t = g) := hg
      rw [hg] at HPT
      clear hg
      obtain ⟨ti, to_, tk, tx, ty, tf, td⟩ := t
      obtain ⟨c0, c1, c2, c3, c4, c5, c6⟩ := hc
      simp only at c0 c1 c2 c3 c4 c5 c6
      obtain ⟨w4, hw4⟩ : ∃ w4, wr.alloc (.cells #[.int .i64 ti, .int .i64 to_, .int .i64 tk, .int .i64 tx, .int .i64 ty, .int .i64 tf, .int .i64 td] 41) = w4 := ⟨_, rfl⟩
      obtain ⟨G, hG⟩ : ∃ G, wr.heap.size = G := ⟨_, rfl⟩
      obtain ⟨g0, g1, g2, g3, g4, g5, g6⟩ := boxt hG hw4 (Below.refl _ _)
      have hb4 : Below wr.heap.size wr w4 := by rw [← hw4]; exact alloc_below _ _
      have HB4 : Hid (Below w.heap.size w w4) := below_step HS.out.1 HS.out.1.size hb4
      have HM4 : Hid (mine 3 vi w.heap.size w4 u5 (ixs P lt k)) := mine_below HS.out.2 hb4
      have l1 : (k : Int) < nt := by omega
      have l2 : (0 : Int) ≤ k := by omega
      clear hb4
      go_wp2_with fail
      refine Calls.mono (HPT.out w4 HB4.out) ?_
      rintro e w5 ⟨rfl, hb5⟩
      have HB5 : Hid (Below w.heap.size w w5) := below_step HB4.out HB4.out.size hb5
      have HM5 : Hid (mine 3 vi w.heap.size w5 u5 (ixs P lt k)) := mine_below HM4.out hb5
      clear hb5 hw4 c0 c1 c2 c3 c4 c5 c6 g0 g1 g2 g3 g4 g5 g6
      cases g with
      | false =>
        have HNX : Hid (ixs P lt (k + 1) = ixs P lt k) := by unfold Hid; rw [ixs_succ hkl, HT.out, HG.out]; simp
        go_wp2_with fail
        go_roundw
        case rel => exact ⟨k + 1, by go_num, by omega, HB5.out, by rw [HNX.out]; exact HM5.out⟩
        case measure => simp [intOf]; omega
      | true =>
        have HNX : Hid (ixs P lt (k + 1) = ixs P lt k ++ [(k : Int)]) := by unfold Hid; rw [ixs_succ hkl, HT.out, HG.out]; simp
        have hle : (ixs P lt k).length ≤ 1000000 := Nat.le_trans (ixs_len P lt k) (by omega)
        go_wp2_with (at_builtin; refine list_one ki _ rfl _ _ rfl w.heap.size u5 (ixs P lt k) rfl (mine_below HM5.out (alloc_below _ _)) ⟨w5.heap.size, 0, none⟩ 1 (k : Int) rfl (new_one _ _ _) hle (by rw [World.size_alloc]; exact Nat.le_succ_of_le HB5.out.size) ?_)
        intro g cap w6 hm6 hg6
        have HB6 : Hid (Below w.heap.size w w6) := mine_grown (mine_below HM5.out (alloc_below _ _)) (HB5.out.alloc HB5.out.size _) (by rw [World.size_alloc]; exact Nat.le_succ_of_le HB5.out.size) hg6
        have HM6 : Hid (mine 3 vi w.heap.size w6 (.slice (some ⟨g, 0, none⟩) ((ixs P lt k).length + 1) cap) (ixs P lt (k + 1))) := by unfold Hid; rw [HNX.out]; exact hm6
        clear hm6 hg6 hle
        go_wp2_with fail
        go_roundw
        case rel => exact ⟨k + 1, by go_num, by omega, HB6.out, HM6.out⟩
        case measure => simp [intOf]; omega
    · obtain rfl : nt = k := by omega
      go_wp2_with fail
      go_ret
      exact ⟨⟨_, rfl, HS.out.2⟩, HS.out.1⟩
set_option maxRecDepth 20000 in
set_option maxHeartbeats 4000000 in
theorem look2_any {f : Nat} (hen0 : Enters f) (k0 k1 : Value) (s : Wld) (P : Trp → Bool) (w : World) (h : s.fit w) (hnt : s.nt ≤ 100)
    (hf : Hid (∀ t V, t ∈ s.lt → Below w.heap.size w V → Calls Try.prog f #[tv t, k0, k1] V fun e w' => e = .returned (.bool (P t)) ∧ Below V.heap.size V w')) :
    Calls Try.prog 62 #[s.val, .func (.func f) #[] #[k0, k1]] w fun e w' => (∃ v, e = .returned v ∧ mine 3 vi w.heap.size w' v (ixs P s.lt s.nt)) ∧ Below w.heap.size w w' := by
  have hen : ∀ (args : Array Value) (w : World), (callFunc f args).run Try.prog w = .ok (.enter f args) w := hen0
  clear hen0
  obtain ⟨A, B, p, n, c, l, pb, nb, cb, lb, ps, ns, cs, ls, pm, nm, cm, lm, pt, nt, ct, lt, N, T⟩ := s
  have rt := h.rt
  have hlt := h.ht
  clear h
  unfold Wld.val
  dsimp only at *
  have HLT : Hid (lt.length = nt) := hlt
  obtain ⟨F, hF⟩ : ∃ F, w.heap.size = F := ⟨_, rfl⟩
  obtain ⟨w0, hw0⟩ : ∃ w0, w.alloc (.cells #[.int .i64 A, .int .i64 B, .slice p n c, .slice pb nb cb, .slice ps ns cs, .slice pm nm cm, .slice pt nt ct, .int .i64 N, .int .i64 T] 28) = w0 := ⟨_, rfl⟩
  have hB0 : Below w.heap.size w w0 := by rw [← hw0]; exact alloc_below _ _
  have HB0 : Hid (Below w.heap.size w w0) := hB0
  have HRT : Hid (trow w pt lt) := rt
  obtain ⟨z0, z1, z2, z3, z4, z5, z6, z7, z8⟩ := boxw hF hw0 (Below.refl _ _)
  clear rt hB0 hlt
  go_enter Try.func62, Try.ntmps62
  go_wp2_with fail
  clear hw0 hF z0 z1 z2 z3 z4 z5 z6 z7 z8
  go_loopw [5, 11] (fun v i wr => ∃ k : Nat, i = .int .i64 (k : Int) ∧ k ≤ nt ∧ Hid (Below w.heap.size w wr ∧ mine 3 vi w.heap.size wr v (ixs P lt k))) (fun _ i _ => nt - (intOf i).toNat)
  case atStart => exact ⟨0, rfl, by omega, HB0.out, mine_nil _ _ _ _⟩
  case round =>
    obtain ⟨k, rfl, hk, HS⟩ := hrel
    by_cases hkn : k < nt
    · have hkl : k < lt.length := by rw [HLT.out]; exact hkn
      obtain ⟨a, rfl, hc⟩ := trow_at (trow_below HRT.out HS.out.1) hkl
      obtain ⟨t, ht⟩ : ∃ t, lt[k] = t := ⟨_, rfl⟩
      have HT : Hid (lt[k] = t) := ht
      have HPT : Hid (∀ V, Below w.heap.size w V → Calls Try.prog f #[tv t, k0, k1] V fun e w' => e = .returned (.bool (P t)) ∧ Below V.heap.size V w') := fun V hV => hf.out t V (by rw [← ht]; exact List.getElem_mem hkl) hV
      rw [ht] at hc
      clear ht
      obtain ⟨g, hg⟩ : ∃ g, P t = g := ⟨_, rfl⟩
      have HG : Hid (P t = g) := hg
      rw [hg] at HPT
      clear hg
      obtain ⟨ti, to_, tk, tx, ty, tf, td⟩ := t
      obtain ⟨c0, c1, c2, c3, c4, c5, c6⟩ := hc
      simp only at c0 c1 c2 c3 c4 c5 c6
      obtain ⟨w4, hw4⟩ : ∃ w4, wr.alloc (.cells #[.int .i64 ti, .int .i64 to_, .int .i64 tk, .int .i64 tx, .int .i64 ty, .int .i64 tf, .int .i64 td] 41) = w4 := ⟨_, rfl⟩
      obtain ⟨G, hG⟩ : ∃ G, wr.heap.size = G := ⟨_, rfl⟩
      obtain ⟨g0, g1, g2, g3, g4, g5, g6⟩ := boxt hG hw4 (Below.refl _ _)
      have hb4 : Below wr.heap.size wr w4 := by rw [← hw4]; exact alloc_below _ _
      have HB4 : Hid (Below w.heap.size w w4) := below_step HS.out.1 HS.out.1.size hb4
      have HM4 : Hid (mine 3 vi w.heap.size w4 u5 (ixs P lt k)) := mine_below HS.out.2 hb4
      have l1 : (k : Int) < nt := by omega
      have l2 : (0 : Int) ≤ k := by omega
      clear hb4
      go_wp2_with fail
      refine Calls.mono (HPT.out w4 HB4.out) ?_
      rintro e w5 ⟨rfl, hb5⟩
      have HB5 : Hid (Below w.heap.size w w5) := below_step HB4.out HB4.out.size hb5
      have HM5 : Hid (mine 3 vi w.heap.size w5 u5 (ixs P lt k)) := mine_below HM4.out hb5
      clear hb5 hw4 c0 c1 c2 c3 c4 c5 c6 g0 g1 g2 g3 g4 g5 g6
      cases g with
      | false =>
        have HNX : Hid (ixs P lt (k + 1) = ixs P lt k) := by unfold Hid; rw [ixs_succ hkl, HT.out, HG.out]; simp
        go_wp2_with fail
        go_roundw
        case rel => exact ⟨k + 1, by go_num, by omega, HB5.out, by rw [HNX.out]; exact HM5.out⟩
        case measure => simp [intOf]; omega
      | true =>
        have HNX : Hid (ixs P lt (k + 1) = ixs P lt k ++ [(k : Int)]) := by unfold Hid; rw [ixs_succ hkl, HT.out, HG.out]; simp
        have hle : (ixs P lt k).length ≤ 1000000 := Nat.le_trans (ixs_len P lt k) (by omega)
        go_wp2_with (at_builtin; refine list_one ki _ rfl _ _ rfl w.heap.size u5 (ixs P lt k) rfl (mine_below HM5.out (alloc_below _ _)) ⟨w5.heap.size, 0, none⟩ 1 (k : Int) rfl (new_one _ _ _) hle (by rw [World.size_alloc]; exact Nat.le_succ_of_le HB5.out.size) ?_)
        intro g cap w6 hm6 hg6
        have HB6 : Hid (Below w.heap.size w w6) := mine_grown (mine_below HM5.out (alloc_below _ _)) (HB5.out.alloc HB5.out.size _) (by rw [World.size_alloc]; exact Nat.le_succ_of_le HB5.out.size) hg6
        have HM6 : Hid (mine 3 vi w.heap.size w6 (.slice (some ⟨g, 0, none⟩) ((ixs P lt k).length + 1) cap) (ixs P lt (k + 1))) := by unfold Hid; rw [HNX.out]; exact hm6
        clear hm6 hg6 hle
        go_wp2_with fail
        go_roundw
        case rel => exact ⟨k + 1, by go_num, by omega, HB6.out, HM6.out⟩
        case measure => simp [intOf]; omega
    · obtain rfl : nt = k := by omega
      go_wp2_with fail
      go_ret
      exact ⟨⟨_, rfl, HS.out.2⟩, HS.out.1⟩
end Go.Proofs.Ytnbbfnlfcncgnaa
