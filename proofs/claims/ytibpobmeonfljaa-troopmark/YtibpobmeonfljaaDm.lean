/- One troop taken out of a row of one's own. -/
import Derived.Test.YtibpobmeonfljaaDl
namespace Go.Proofs.Ytibpobmeonfljaa
open Go.RowKit
set_option linter.unusedVariables false
set_option maxRecDepth 20000 in
set_option maxHeartbeats 4000000 in
theorem Delete_any (B n k : Nat) (v : Value) (Q : List Trp) (w : World) (h : minet B w v Q) (hn : Q.length = n) (hk : k < n) (hl : n ≤ 1000) :
    Calls Try.prog 26 #[v, .int .i64 (k : Int), .int .i64 ((k : Int) + 1)] w fun e w' => (∃ a c, e = .returned (.slice (some a) (n - 1) c) ∧ n - 1 ≤ c ∧ B ≤ a.block ∧ trow w' (some a) (Q.eraseIdx k)) ∧ Below B w w' := by
  obtain ⟨g, cap, rfl, hB, hc, hm, hcell, hfz⟩ := minet_cells h hn (by omega)
  obtain ⟨i0, hi, hz0, hz1, hz2⟩ := info_parts ktrp
  subst hn
  clear h
  obtain ⟨m, hM⟩ : ∃ m, Q.length - (k + 1) = m := ⟨_, rfl⟩
  obtain ⟨n, hN⟩ : ∃ n, Q.length = n := ⟨_, rfl⟩
  obtain ⟨news, hnews⟩ : ∃ news, flat7 (Q.drop (k + 1)) = news := ⟨_, rfl⟩
  have hlen : news.length = m * 7 := by rw [← hnews, flat7_len, List.length_drop]; omega
  have hget : ∀ j, news[j]? = (flat7 Q)[(k + 1) * 7 + j]? := by intro j; rw [← hnews]; exact flat7_drop Q (k + 1) j (by omega)
  have hflen : (flat7 Q).length = n * 7 := by rw [flat7_len, hN]
  have hsome : ∀ (j : Nat), j < n * 7 → (w.cell? ⟨g, j, none⟩).isSome = true := by
    intro j hj
    rw [hcell j _ (List.getElem?_eq_getElem (by omega))]; rfl
  obtain ⟨A, hA, hsrc⟩ : ∃ A : Addr, (if cap = k + 1 then some (⟨g, 0, none⟩ : Addr) else some ⟨g, (k + 1) * 7, none⟩) = some A ∧ Hid (∀ t u, news[t]? = some u → w.drew.cell? (A.add t) = some u) := by
    by_cases h : cap = k + 1
    · refine ⟨⟨g, 0, none⟩, by simp [h], fun t u hu => ?_⟩
      have h0 : news.length = 0 := by rw [hlen]; omega
      rw [List.length_eq_zero_iff.1 h0] at hu
      simp at hu
    · refine ⟨⟨g, (k + 1) * 7, none⟩, by simp [h], fun t u hu => ?_⟩
      rw [hget t] at hu
      rw [Addr.add_lit]
      exact hcell _ _ hu
  have s1 : Hid (news.length = m * 7) := hlen
  have s2 : Hid (∀ u ∈ news, u.oneCell' = true) := by rw [← hnews]; exact flat7_one _
  have s3 : Hid (∀ t, t < news.length → (w.drew.cell? ⟨g, 0 + k * 7 + t, none⟩).isSome = true ∧ w.drew.frozen? ⟨g, 0 + k * 7 + t, none⟩ = false) := by
    intro t ht
    rw [hlen] at ht
    exact ⟨hsome _ (by omega), hfz _⟩
  obtain ⟨W1, hW1⟩ : ∃ W1, W1 = w.drew.setCells g (0 + k * 7) news := ⟨_, rfl⟩
  have hout1 : ∀ j, j < k * 7 ∨ k * 7 + m * 7 ≤ j → W1.cell? ⟨g, j, none⟩ = w.cell? ⟨g, j, none⟩ := by
    intro j hj
    rw [hW1]
    exact World.cell?_setCells_out g news (0 + k * 7) w.drew ⟨g, j, none⟩ (fun _ _ => by rw [hlen]; show j < 0 + k * 7 ∨ 0 + k * 7 + m * 7 ≤ j; omega)
  have hin1 : ∀ j (hj : j < news.length), W1.cell? ⟨g, k * 7 + j, none⟩ = some news[j] := by
    intro j hj
    have := World.cell?_setCells_in g news (0 + k * 7) w.drew (fun t ht => (s3.out t ht).1) j hj
    rw [hW1, show k * 7 + j = 0 + k * 7 + j by omega]; exact this
  have hfz1 : ∀ j, W1.frozen? ⟨g, j, none⟩ = false := by intro j; rw [hW1, World.frozen?_setCells]; exact hfz j
  have hcl : Hid (∀ ty, (Builtin.clear_ #[26] ty #[.slice (some ⟨g, 0 + (k + m) * 7, none⟩) 1 (cap - (k + m))]).run Try.prog W1 = .ok (.tuple #[]) (W1.setCells g (0 + (k + m) * 7) (List.replicate 7 (.int .i64 0)))) := by
    intro ty
    refine clear_one W1 ty g _ _ (fun j hj => ?_) (fun j _ => hfz1 _)
    rw [hout1 _ (by omega)]
    exact hsome _ (by omega)
  obtain ⟨W2, hW2⟩ : ∃ W2, W2 = W1.setCells g (0 + (k + m) * 7) (List.replicate 7 (.int .i64 0)) := ⟨_, rfl⟩
  have HR : Hid (trow W2 (some ⟨g, 0, none⟩) (Q.eraseIdx k)) := by
    intro j u hj
    have hjl : j < (k + m) * 7 := by
      have := (List.getElem?_eq_some_iff.1 hj).1
      rw [flat7_len, List.length_eraseIdx, if_pos (by omega)] at this
      omega
    refine ⟨_, rfl, ?_⟩
    rw [add_zero_at, hW2, World.cell?_setCells_out g _ _ W1 ⟨g, j, none⟩ (fun _ _ => by left; show j < 0 + (k + m) * 7; omega)]
    rw [flat7_erase] at hj
    by_cases hjk : j < k * 7
    · rw [List.getElem?_append_left (by rw [flat7_len, List.length_take]; omega), flat7_take Q k j (by omega) hjk] at hj
      rw [hout1 j (.inl hjk)]
      exact hcell j u hj
    · have l : (flat7 (Q.take k)).length = k * 7 := by rw [flat7_len, List.length_take]; omega
      rw [List.getElem?_append_right (by omega), l, hnews] at hj
      have hjn : j - k * 7 < news.length := by rw [hlen]; omega
      have := hin1 (j - k * 7) hjn
      rw [show k * 7 + (j - k * 7) = j by omega] at this
      show W1.cell? _ = some u
      rw [this, ← hj]
      exact (List.getElem?_eq_getElem hjn).symm
  have HB : Hid (Below B w W2) := by
    rw [hW2, hW1]
    exact below_sets hB _ _ _ (below_sets hB _ _ _ (Below.refl B w).drew)
  have hW : Hid (W1 = w.drew.setCells g (0 + k * 7) news) := hW1
  have hcl2 : Hid (∀ ty, (Builtin.clear_ #[26] ty #[.slice (some ⟨g, 0 + (k + m) * 7, none⟩) 1 (cap - (k + m))]).run Try.prog W1 = .ok (.tuple #[]) W2) := by rw [hW2]; exact hcl
  have hnk : n = k + m + 1 := by omega
  have hs7 : i0.size = 7 := hz1
  clear hcl hW2 hW1 hout1 hin1 hfz1 hget hnews hlen hcell hfz hsome hflen hM
  rw [hN]
  clear hk
  subst hnk
  have d1 : ((k : Int) == (k : Int) + 1) = false := by simp <;> omega
  have d2 : (0 : Int) ≤ (k : Int) + 1 := by omega
  have d3 : (k : Int) ≤ (k : Int) + (m : Int) := by omega
  have b1 : k ≤ cap := by omega
  have b2 : k + 1 ≤ cap := by omega
  have b3 : k + m + 1 ≤ cap := by omega
  have b4 : k + m ≤ cap := by omega
  go_enter Try.func26, Try.ntmps26
  go_wp2_with fail
  go_region_law (refine step_append_room rfl (.tmp 22) (.tmp 25) 26 rfl 47 i0 7 Try.underlying26 hi hz1 g 0 k cap (by simp [Act.eval, Act.put]) A m (cap - (k + 1)) news (by simp [Act.eval, Act.put]) s1.out hsrc.out s2.out (by omega) s3.out ?_; rw [← hW.out])
  have b5 : ¬ cap = k + m := by omega
  have hcl := hcl2.out
  simp only [Nat.zero_add] at hcl
  go_wp2_with fail
  go_ret
  exact ⟨⟨⟨g, 0, none⟩, cap, rfl, by omega, hB, HR.out⟩, HB.out⟩
end Go.Proofs.Ytibpobmeonfljaa
