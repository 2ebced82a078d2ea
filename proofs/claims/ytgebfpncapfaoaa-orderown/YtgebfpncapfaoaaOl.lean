/- What is written is read, what is read was written so; the package lives: one order is written and read. -/
import Derived.Test.YtgebfpncapfaoaaOr3
import Derived.Test.YtgebfpncapfaoaaOq
namespace Go.Proofs.Ytgebfpncapfaoaa
open Go.RowKit
set_option linter.unusedVariables false

theorem sl_parts (s : ByteArray) : (cr.sl s).size = s.size + 4 ∧ cr.body (cr.sl s) = s ∧ cr.foot (cr.sl s) = cr.tl s := by
  have h : (cr.sl s).size = s.size + 4 := by unfold cr.sl; rw [ByteArray.size_append, cr.tl_size]
  refine ⟨h, ?_, ?_⟩
  · unfold cr.body
    rw [h]
    apply str_eq
    unfold cr.sl
    simp
    rw [List.take_of_length_le (by simp)]
  · unfold cr.foot
    rw [h]
    apply str_eq
    unfold cr.sl
    simp
    rw [List.take_of_length_le (by simp [cr.tl, cr.le4])]
theorem rd_wt {l : List Ord} (hf : ∀ o ∈ l, fito o) (h : oes l = 0) : rd (wt l) = (l, 0) := by
  have hl := (oes_zero h).1
  obtain ⟨h1, h2, h3⟩ := sl_parts (pk.qa (nums l))
  unfold wt
  rw [if_pos h]
  unfold rd
  rw [if_neg (by rw [h1]; omega), h2, h3, if_pos rfl, pk.bs_qa (by rw [nums_len]; omega), pk.ga_pa (nums_fits hf) (by rw [nums_len]; omega)]
  unfold rdn
  simp only [if_true]
  rw [if_pos (by rw [nums_len]; omega), sixes_nums, if_pos h]
theorem rd_err {s : ByteArray} (h : (rd s).2 ≠ 0) : (rd s).1 = [] := by
  revert h
  unfold rd rdn
  split
  · intro; rfl
  · split
    · split
      · split
        · split
          · intro h; exact absurd rfl h
          · intro; rfl
        · intro; rfl
      · intro; rfl
    · intro; rfl
theorem wt_rd {s : ByteArray} (h : (rd s).2 = 0) : wt (rd s).1 = s ∧ oes (rd s).1 = 0 ∧ (∀ o ∈ (rd s).1, fito o) := by
  by_cases h4 : s.size < 4
  · unfold rd at h; rw [if_pos h4] at h; exact absurd h (by decide)
  by_cases ht : cr.tl (cr.body s) = cr.foot s
  · have e : rd s = rdn (pk.ga (pk.bs (cr.body s))) := by unfold rd; rw [if_neg h4, if_pos ht]
    rw [e] at h ⊢
    have hg : (pk.ga (pk.bs (cr.body s))).2 = 0 := by
      apply Classical.byContradiction
      intro hn
      unfold rdn at h
      rw [if_neg hn] at h
      have h : ((pk.ga (pk.bs (cr.body s))).2 : Int) = 0 := h
      omega
    obtain ⟨g1, g2, g3⟩ := pk.ga_ok hg
    obtain ⟨q, hq⟩ : ∃ q, (pk.ga (pk.bs (cr.body s))).1 = q := ⟨_, rfl⟩
    have hR : pk.ga (pk.bs (cr.body s)) = (q, 0) := by rw [← hq, ← hg]
    rw [hR] at h ⊢
    rw [hq] at g1 g2 g3
    by_cases h6 : q.length % 6 = 0
    · by_cases hz : oes (sixes q) = 0
      · have e2 : rdn (q, 0) = (sixes q, 0) := by unfold rdn; simp only [if_true]; rw [if_pos h6, if_pos hz]
        rw [e2]
        refine ⟨?_, hz, sixes_fits g3⟩
        show wt (sixes q) = s
        unfold wt
        rw [if_pos hz, nums_sixes q h6]
        have e3 : pk.qa q = cr.body s := by
          apply pk.of_bs
          rw [pk.bs_qa g2, g1]
        rw [e3]
        exact (cr.sl_eq (by omega)).2 ht
      · have e2 : rdn (q, 0) = ([], oes (sixes q)) := by unfold rdn; simp only [if_true]; rw [if_pos h6, if_neg hz]
        rw [e2] at h
        exact absurd h hz
    · have e2 : rdn (q, 0) = ([], 4) := by unfold rdn; simp only [if_true]; rw [if_neg h6]
      rw [e2] at h
      exact absurd h (by decide)
  · unfold rd at h; rw [if_neg h4, if_neg ht] at h; exact absurd h (by decide)
theorem rd_bd (s : ByteArray) : (rd s).1.length ≤ 100 := by
  by_cases h : (rd s).2 = 0
  · exact (oes_zero (wt_rd h).2.1).1
  · rw [rd_err h]; simp
theorem wt_sz {l : List Ord} (hf : ∀ o ∈ l, fito o) : (wt l).size ≤ 20000 := by
  unfold wt
  split
  · rename_i h
    have := qa_size hf (oes_zero h).1
    rw [(sl_parts _).1]; omega
  · exact Nat.zero_le _

/-- The one order. -/
def lo : Ord := ⟨1, 2, 7, 2, -1, 0⟩
theorem lo_ok : oes [lo] = 0 := by decide
theorem lo_fit : ∀ o ∈ [lo], fito o := by
  intro o ho
  simp at ho
  subst ho
  unfold fito fits lo
  simp
theorem lo_size : (wt [lo]).size = 11 := by
  unfold wt
  rw [if_pos lo_ok, (sl_parts _).1]
  have e : (pk.qa (nums [lo])).size = (pk.pa (nums [lo])).length := by rw [← pk.bs_len, pk.bs_qa (by rw [nums_len]; decide)]
  rw [e]
  have : pk.pa (nums [lo]) = pk.pk 6 ++ (pk.pk 2 ++ (pk.pk 4 ++ (pk.pk 14 ++ (pk.pk 4 ++ (pk.pk 1 ++ pk.pk 0))))) := by
    simp [pk.pa, pk.fs, nums, Ord.nums, lo, pk.fd]
  rw [this]
  simp [pk.pk_small]
theorem lo_row (w : World) (t : TypeId) : rowf to6 (w.alloc (.cells #[.int .i64 1, .int .i64 2, .int .i64 7, .int .i64 2, .int .i64 (-1), .int .i64 0] t)) (some ⟨w.heap.size, 0, none⟩) [lo] := by
  intro j u hj
  refine ⟨_, rfl, ?_⟩
  rw [add_zero_at, World.cell?_alloc_mark]
  rw [fl_one] at hj
  have : to6 lo = [.int .i64 1, .int .i64 2, .int .i64 7, .int .i64 2, .int .i64 (-1), .int .i64 0] := rfl
  rw [this] at hj
  simpa using hj
set_option maxRecDepth 20000 in
set_option maxHeartbeats 4000000 in
theorem lives_any (w : World) : Calls Try.prog 25 #[] w fun e w' => e = .returned (.bool true) ∧ Below w.heap.size w w' := by
  have HR : Hid (rowf to6 (w.alloc (.cells #[.int .i64 1, .int .i64 2, .int .i64 7, .int .i64 2, .int .i64 (-1), .int .i64 0] 25)) (some ⟨w.heap.size, 0, none⟩) [lo]) := lo_row w _
  have HW : Hid (Calls Try.prog 9 #[.slice (some ⟨w.heap.size, 0, none⟩) 1 1] (w.alloc (.cells #[.int .i64 1, .int .i64 2, .int .i64 7, .int .i64 2, .int .i64 (-1), .int .i64 0] 25)) fun e w' => e = .returned (.tuple #[.string (wt [lo]), .int .i64 0]) ∧ Below (w.alloc (.cells #[.int .i64 1, .int .i64 2, .int .i64 7, .int .i64 2, .int .i64 (-1), .int .i64 0] 25)).heap.size (w.alloc (.cells #[.int .i64 1, .int .i64 2, .int .i64 7, .int .i64 2, .int .i64 (-1), .int .i64 0] 25)) w') := by
    have := Write_any (some ⟨w.heap.size, 0, none⟩) 1 1 [lo] _ HR.out rfl (by decide) lo_fit
    rwa [lo_ok] at this
  have HD : Hid (∀ V, Calls Try.prog 11 #[.string (wt [lo])] V fun e w' => (∃ v, e = .returned (.tuple #[v, .int .i64 0]) ∧ minef 25 6 to6 V.heap.size w' v [lo]) ∧ Below V.heap.size V w') := fun V => by
    have := Read_any (wt [lo]) V (by rw [lo_size]; decide)
    rwa [rd_wt lo_fit lo_ok] at this
  have HB : Hid (Below w.heap.size w (w.alloc (.cells #[.int .i64 1, .int .i64 2, .int .i64 7, .int .i64 2, .int .i64 (-1), .int .i64 0] 25))) := alloc_below _ _
  have hz := lo_size
  obtain ⟨T, hT⟩ : ∃ T, wt [lo] = T := ⟨_, rfl⟩
  simp only [hT] at HW HD hz
  obtain ⟨W0, hW0⟩ : ∃ W0, w.alloc (.cells #[.int .i64 1, .int .i64 2, .int .i64 7, .int .i64 2, .int .i64 (-1), .int .i64 0] 25) = W0 := ⟨_, rfl⟩
  rw [hW0] at HR HW HB
  clear hT
  go_enter Try.func25, Try.ntmps25
  go_wp2_with fail
  refine HW.out.mono ?_
  rintro e w1 ⟨rfl, hb1⟩
  have HB1 : Hid (Below w.heap.size w w1 ∧ rowf to6 w1 (some ⟨w.heap.size, 0, none⟩) [lo]) := ⟨below_step HB.out HB.out.size hb1, rowf_below HR.out hb1⟩
  clear hb1 HW hW0 HR HB
  go_wp2_with fail
  refine (HD.out _).mono ?_
  rintro e w2 ⟨⟨v, rfl, hv⟩, hb2⟩
  obtain ⟨p, c, rfl, hr⟩ := minef_form flt6 hv rfl
  have HB2 : Hid (Below w.heap.size w w2 ∧ rowf to6 w2 (some ⟨w.heap.size, 0, none⟩) [lo]) := ⟨below_step HB1.out.1 HB1.out.1.size hb2, rowf_below HB1.out.2 hb2⟩
  have HR2 : Hid (rowf to6 w2 p [lo]) := hr
  have HE : Hid (Calls Try.prog 15 #[.slice (some ⟨w.heap.size, 0, none⟩) 1 1, .slice p 1 c] w2 fun e w' => e = .returned (.bool true) ∧ Below w2.heap.size w2 w') := Equalo_b _ _ 1 _ _ [lo] w2 rfl (by decide) HB2.out.2 HR2.out
  clear hv hr hb2 HD HB1 HR2
  go_wp2_with fail
  refine HE.out.mono ?_
  rintro e w3 ⟨rfl, hb3⟩
  have HB3 : Hid (Below w.heap.size w w3) := below_step HB2.out.1 HB2.out.1.size hb3
  clear hb3 HE
  go_wp2_with fail
  go_ret
  exact ⟨rfl, HB3.out⟩
end Go.Proofs.Ytgebfpncapfaoaa
