/- What Read returns. -/
import Derived.Test.YteemcighpoomhaaGs
import Derived.Test.YteemcighpoomhaaWr
namespace Go.Proofs.Yteemcighpoomhaa
open Go.RowKit
set_option linter.unusedVariables false

theorem str_back (s : ByteArray) : (⟨(bs s).toArray⟩ : ByteArray) = s := by cases s; simp [bs]
theorem of_bs {s t : ByteArray} (h : bs s = bs t) : s = t := by rw [← str_back s, ← str_back t, h]
theorem ck_yes {A C : Int} {l : List Int} (h : ck A C l = 0) : ∃ W H : Nat, A = W ∧ C = H ∧ (1 ≤ W ∧ W ≤ 40) ∧ (1 ≤ H ∧ H ≤ 40) ∧ l.length = W * H ∧ l.any bad = false := by
  unfold ck at h
  by_cases h1 : sd A = true ∧ sd C = true
  · rw [if_pos h1] at h
    by_cases h2 : (l.length : Int) = A * C ∧ l.any bad = false
    · unfold sd at h1
      simp at h1
      refine ⟨A.toNat, C.toNat, by omega, by omega, ⟨by omega, by omega⟩, ⟨by omega, by omega⟩, ?_, h2.2⟩
      have h3 := h2.1
      have e1 : A = (A.toNat : Int) := by omega
      have e2 : C = (C.toNat : Int) := by omega
      rw [e1, e2] at h3
      exact_mod_cast h3
    · rw [if_neg h2] at h; cases h
  · rw [if_neg h1] at h; cases h
/-- A text of a field. -/
def rok (s : ByteArray) : Prop := s.size ≤ 1640 ∧ ck (gw (bs s)) (gh (bs s)) (gl (bs s)) = 0 ∧ txt (gw (bs s)).toNat (gh (bs s)) (gl (bs s)) = bs s

/-- What comes of Read. -/
def rdp (s : ByteArray) (B : Nat) (e : Ending) (w' : World) : Prop := (rok s ∧ ∃ v, e = .returned (.tuple #[.agg #[.int .i64 (gw (bs s)), .int .i64 (gh (bs s) : Int), v], .int .i64 0]) ∧ mine 3 vi B w' v (gl (bs s))) ∨
      (¬ rok s ∧ e = .returned (.tuple #[.agg #[.int .i64 0, .int .i64 0, .slice none 0 0], .int .i64 4]))
/-- The box of a result, and that it may be written. -/
theorem rbox {w : World} {R : Nat} {x y z : Value} (h : w.heap[R]? = some (.cells #[x, y, z] 24)) : w.cell? ⟨R, 0, none⟩ = some x ∧ w.cell? ⟨R, 1, none⟩ = some y ∧ w.cell? ⟨R, 2, none⟩ = some z ∧ w.frozen? ⟨R, 0, none⟩ = false ∧ w.frozen? ⟨R, 1, none⟩ = false ∧ w.frozen? ⟨R, 2, none⟩ = false := by
  simp [World.cell?, World.frozen?, h]
theorem str_bne {t s : ByteArray} (h : ¬ t = s) : (t.toList == s.toList) = false := str_ne h

set_option maxRecDepth 20000 in
set_option maxHeartbeats 2000000 in
theorem Read_any (s : ByteArray) (w : World) :
    Calls Try.prog 24 #[.string s] w fun e w' => rdp s w.heap.size e w' ∧ Below w.heap.size w w' := by
  obtain ⟨w0, hw0⟩ : ∃ w0, w.alloc (.cells #[.int .i64 0, .int .i64 0, .slice none 0 0] 24) = w0 := ⟨_, rfl⟩
  have hs0 : w0.heap.size = w.heap.size + 1 := by rw [← hw0]; simp
  have hB0 : Below w.heap.size w w0 := by rw [← hw0]; exact alloc_below w _
  have hr0 : w0.heap[w.heap.size]? = some (.cells #[.int .i64 0, .int .i64 0, .slice none 0 0] 24) := by rw [← hw0]; exact World.alloc_heap_new w _
  have HW0 : Hid (w.alloc (.cells #[.int .i64 0, .int .i64 0, .slice none 0 0] 24) = w0) := hw0
  have HR0 : Hid (w0.heap[w.heap.size]? = some (.cells #[.int .i64 0, .int .i64 0, .slice none 0 0] 24)) := hr0
  clear hw0 hr0
  by_cases hs : s.size ≤ 1640
  · obtain ⟨A, hA⟩ : ∃ A, gw (bs s) = A := ⟨_, rfl⟩
    obtain ⟨C, hC⟩ : ∃ C, gh (bs s) = C := ⟨_, rfl⟩
    obtain ⟨L, hL⟩ : ∃ L, gl (bs s) = L := ⟨_, rfl⟩
    have HG := guess_any s w0 hs
    rw [hA, hC, hL] at HG
    have HG2 : Hid (Calls Try.prog 31 #[.string s] w0 fun e w' => ∃ v, e = .returned (.agg #[.int .i64 A, .int .i64 (C : Int), v]) ∧ mine 3 vi w0.heap.size w' v L ∧ Below w0.heap.size w0 w') := HG
    have HLl : Hid (L.length ≤ 1640) := by have := gl_len (bs s); rw [hL, bs_len] at this; unfold Hid; omega
    have HA : Hid (gw (bs s) = A) := hA
    have HC : Hid (gh (bs s) = C) := hC
    have HL : Hid (gl (bs s) = L) := hL
    clear HG hA hC hL
    go_enter Try.func24, Try.ntmps24
    go_wp2_with fail
    rw [HW0.out]
    refine HG2.out.mono ?_
    rintro e w1 ⟨v, rfl, hm, hb1⟩
    obtain ⟨p, cc, rfl, hrow, hcc, _⟩ := mine_full hm
    have HM : Hid (mine 3 vi w0.heap.size w1 (.slice p L.length cc) L) := hm
    have HB1 : Hid (Below w0.heap.size w0 w1) := hb1
    have HROW : Hid (row vi w1 p L) := hrow
    obtain ⟨n, hn⟩ : ∃ n, L.length = n := ⟨_, rfl⟩
    have HN : Hid (L.length = n) := hn
    rw [hn] at hcc HM ⊢
    clear hm hb1 hrow hn
    go_wp2_with fail
    obtain ⟨w2, hw2⟩ : ∃ w2, w1.alloc (.cells #[.int .i64 A, .int .i64 (C : Int), .slice p n cc] 24) = w2 := ⟨_, rfl⟩
    have hs1 : w.heap.size + 1 ≤ w1.heap.size := by have := HB1.out.size; omega
    obtain ⟨F, hF⟩ : ∃ F, w1.heap.size = F := ⟨_, rfl⟩
    have hB2 : Below w.heap.size w w2 := by
      rw [← hw2]; exact (hB0.trans (HB1.out.mono (by omega))).alloc (by omega) _
    have hf2 : Hid (w2.heap[F]? = some (.cells #[.int .i64 A, .int .i64 (C : Int), .slice p n cc] 24)) := by unfold Hid; rw [← hw2, ← hF]; exact World.alloc_heap_new w1 _
    have hr2 : Hid (w2.heap[w.heap.size]? = some (.cells #[.int .i64 0, .int .i64 0, .slice none 0 0] 24)) := by
      unfold Hid; rw [← hw2, Below.heap_alloc _ _ _ (by omega), HB1.out.block _ (by omega)]; exact HR0.out
    have hs2 : w2.heap.size = F + 1 := by rw [← hw2, ← hF]; simp
    have HROW2 : Hid (row vi w2 p L) := row_below HROW.out (by rw [← hw2]; exact alloc_below _ _)
    have HM2 : Hid (mine 3 vi (w.heap.size + 1) w2 (.slice p n cc) L) := by
      have := mine_mono (B' := w.heap.size + 1) (mine_below HM.out (w' := w2) (by rw [← hw2]; exact alloc_below _ _)) (by omega)
      exact this
    rw [hF, hw2]
    clear hw2 hcc
    by_cases hck : ck A C L = 0
    · obtain ⟨W, H, e1, e2, hW, hH, hl, hg⟩ := ck_yes hck
      subst e1
      have e3 : C = H := by omega
      subst e3
      have h11 : 1 * 1 ≤ W * C := Nat.mul_le_mul hW.1 hH.1
      have hnl : n = W * C := by rw [← HN.out, hl]
      subst hnl
      obtain ⟨a, ha⟩ := row_some HROW2.out (by rw [hl]; omega)
      subst ha
      have hccl : W * C ≤ cc := by
        obtain ⟨p', c', hv', _, hle, _⟩ := mine_full HM2.out
        injection hv' with _ _ h3; rw [hl, ← h3] at hle; exact hle
      have HWr := Write_ok W C a cc L w2 HROW2.out hW hH hl hg hccl
      obtain ⟨t, ht⟩ : ∃ t : ByteArray, (⟨(txt W C L).toArray⟩ : ByteArray) = t := ⟨_, rfl⟩
      rw [ht] at HWr
      have HT : Hid (rok s ↔ t = s) := by
        unfold Hid rok
        rw [HA.out, HC.out, HL.out, ← ht]
        refine ⟨fun h => of_bs (by have := h.2.2; simpa [bs] using this), fun h => ⟨hs, hck, ?_⟩⟩
        have := congrArg bs h
        simpa [bs] using this
      have HWr2 : Hid (Calls Try.prog 32 #[.agg #[.int .i64 (W : Int), .int .i64 (C : Int), .slice (some a) (W * C) cc]] w2 fun e w' => e = .returned (.tuple #[.string t, .int .i64 0]) ∧ Below w2.heap.size w2 w') := HWr
      clear HWr ht hck hW hH hl hg h11 hccl
      refine HWr2.out.mono ?_
      rintro e w3 ⟨rfl, hb3⟩
      have hf3 : w3.heap[F]? = some (.cells #[.int .i64 (W : Int), .int .i64 (C : Int), .slice (some a) (W * C) cc] 24) := (hb3.block _ (by omega)).trans hf2.out
      have hr3 : w3.heap[w.heap.size]? = some (.cells #[.int .i64 0, .int .i64 0, .slice none 0 0] 24) := (hb3.block _ (by omega)).trans hr2.out
      obtain ⟨q0, q1, q2, _, _, _⟩ := rbox hf3
      obtain ⟨r0, r1, r2, r3, r4, r5⟩ := rbox hr3
      have HR3 : Hid (w3.heap[w.heap.size]? = some (.cells #[.int .i64 0, .int .i64 0, .slice none 0 0] 24)) := hr3
      have HB3 : Hid (Below w.heap.size w w3) := hB2.trans (hb3.mono (by omega))
      have HM3 : Hid (mine 3 vi (w.heap.size + 1) w3 (.slice (some a) (W * C) cc) L) := mine_below HM2.out hb3
      clear hb3 hf3 hr3
      by_cases hts : t = s
      · have HO : Hid (rok s) := HT.out.2 hts
        subst hts
        go_wp2_with fail
        obtain ⟨V, hV⟩ : ∃ V, ((w3.setCell ⟨w.heap.size, 0, none⟩ (.int .i64 (W : Int))).setCell ⟨w.heap.size, 1, none⟩ (.int .i64 (C : Int))).setCell ⟨w.heap.size, 2, none⟩ (.slice (some a) (W * C) cc) = V := ⟨_, rfl⟩
        rw [hV]
        have k2 := set3 HR3.out V hV.symm
        refine ⟨by simp, .tuple #[.agg #[.int .i64 (W : Int), .int .i64 (C : Int), .slice (some a) (W * C) cc], .int .i64 0], ?_, .inl ⟨HO.out, .slice (some a) (W * C) cc, ?_, ?_⟩, ?_⟩
        · rw [results_cell_tmp rfl]
          simp [go_sem, k2.1, k2.2.1, k2.2.2.1]
        · rw [HA.out, HC.out]
        · rw [HL.out]
          have hb : But w3.heap.size w.heap.size w3 V := by rw [← hV]; exact ((But.set _ _ _ _ _).trans (But.set _ _ _ _ _)).trans (But.set _ _ _ _ _)
          refine mine_mono (B := w.heap.size + 1) (World.ownsRow.kept HM3.out hb.grownBy (.inr fun e => ?_)) (by omega)
          have := (World.ownsRow.lt HM3.out _ e).1; omega
        · exact HB3.out.trans (k2.2.2.2 w.heap.size (Nat.le_refl _))
      · have HO : Hid (¬ rok s) := fun h => hts (HT.out.1 h)
        have hne := str_bne hts
        go_wp2_with fail
        obtain ⟨V, hV⟩ : ∃ V, ((w3.setCell ⟨w.heap.size, 0, none⟩ (.int .i64 0)).setCell ⟨w.heap.size, 1, none⟩ (.int .i64 0)).setCell ⟨w.heap.size, 2, none⟩ (.slice none 0 0) = V := ⟨_, rfl⟩
        rw [hV]
        have k2 := set3 HR3.out V hV.symm
        refine ⟨by simp, .tuple #[.agg #[.int .i64 0, .int .i64 0, .slice none 0 0], .int .i64 4], ?_, .inr ⟨HO.out, rfl⟩, ?_⟩
        · rw [results_cell_tmp rfl]
          simp [go_sem, k2.1, k2.2.1, k2.2.2.1]
        · exact HB3.out.trans (k2.2.2.2 w.heap.size (Nat.le_refl _))
    · have HO : Hid (¬ rok s) := fun h => hck (by have := h.2.1; rw [HA.out, HC.out, HL.out] at this; exact this)
      obtain ⟨E, hE⟩ : ∃ E, ck A C L = E := ⟨_, rfl⟩
      have hE0 : ¬ E = 0 := by rw [← hE]; exact hck
      have HE : Hid (ck A C L = E) := hE
      have e0 : (E == 0) = false := by simp [hE0]
      clear hck hE
      refine (Write_no A C p n cc L E w2 HROW2.out HN.out (by have := HLl.out; have := HN.out; omega) HE hE0).mono ?_
      rintro e w3 ⟨rfl, hb3⟩
      have hr3 : w3.heap[w.heap.size]? = some (.cells #[.int .i64 0, .int .i64 0, .slice none 0 0] 24) := (hb3.block _ (by omega)).trans hr2.out
      obtain ⟨r0, r1, r2, r3, r4, r5⟩ := rbox hr3
      have HR3 : Hid (w3.heap[w.heap.size]? = some (.cells #[.int .i64 0, .int .i64 0, .slice none 0 0] 24)) := hr3
      have HB3 : Hid (Below w.heap.size w w3) := hB2.trans (hb3.mono (by omega))
      clear hb3 hr3
      go_wp2_with fail
      obtain ⟨V, hV⟩ : ∃ V, ((w3.setCell ⟨w.heap.size, 0, none⟩ (.int .i64 0)).setCell ⟨w.heap.size, 1, none⟩ (.int .i64 0)).setCell ⟨w.heap.size, 2, none⟩ (.slice none 0 0) = V := ⟨_, rfl⟩
      rw [hV]
      have k2 := set3 HR3.out V hV.symm
      refine ⟨by simp, .tuple #[.agg #[.int .i64 0, .int .i64 0, .slice none 0 0], .int .i64 4], ?_, .inr ⟨HO.out, rfl⟩, ?_⟩
      · rw [results_cell_tmp rfl]
        simp [go_sem, k2.1, k2.2.1, k2.2.2.1]
      · exact HB3.out.trans (k2.2.2.2 w.heap.size (Nat.le_refl _))
  · have HO : Hid (¬ rok s) := fun h => hs h.1
    obtain ⟨r0, r1, r2, r3, r4, r5⟩ := rbox HR0.out
    go_enter Try.func24, Try.ntmps24
    go_wp2_with fail
    rw [HW0.out]
    refine ⟨by simp, .tuple #[.agg #[.int .i64 0, .int .i64 0, .slice none 0 0], .int .i64 4], ?_, .inr ⟨HO.out, rfl⟩, hB0⟩
    rw [results_cell_tmp rfl]
    simp [go_sem, r0, r1, r2]
end Go.Proofs.Yteemcighpoomhaa
