/- heap.Push: a stop is lifted to where it belongs. -/
import Derived.Test.YtkdammmikmljmaaHp
namespace Go.Proofs.Ytkdammmikmljmaa
open Go.RowKit
set_option linter.unusedVariables false

/-- The queue's stops lie in block g, in some order. -/
def hst (B T g n cap : Nat) (a b c d : Value) (w0 : World) (Q0 : List Stop) (w : World) (Q : List Stop) : Prop :=
  tbx T w a b c d (.slice (some ⟨g, 0, none⟩) n cap) ∧ que B w (.slice (some ⟨g, 0, none⟩) n cap) Q ∧ Q.length = n ∧ Q.Perm Q0 ∧ Ex (fun k => k = g) w0 w ∧ T < B
section
variable {B T g n cap : Nat} {a b c d : Value} {w0 : World} {Q0 : List Stop} {w w' : World} {Q : List Stop}
theorem hst_len (h : hst B T g n cap a b c d w0 Q0 w Q) : Q.length = n := h.2.2.1
theorem hst_que (h : hst B T g n cap a b c d w0 Q0 w Q) : que B w (.slice (some ⟨g, 0, none⟩) n cap) Q := h.2.1
theorem hst_ptr (h : hst B T g n cap a b c d w0 Q0 w Q) : w.cell? ⟨T, 4, none⟩ = some (.slice (some ⟨g, 0, none⟩) n cap) := (tbx_cells h.1).2.2.2.2.1
theorem hst_drewN (h : hst B T g n cap a b c d w0 Q0 w Q) (m : Nat) : hst B T g n cap a b c d w0 Q0 (w.drewN m) Q := ⟨h.1, h.2.1, h.2.2.1, h.2.2.2.1, h.2.2.2.2.1.drewN m, h.2.2.2.2.2⟩
theorem hst_swap (h : hst B T g n cap a b c d w0 Q0 w Q) {i j : Nat} (hi : i < n) (hj : j < n) (hq : que B w' (.slice (some ⟨g, 0, none⟩) n cap) (swp Q i j)) (he : Ex (fun k => k = g) w w') : hst B T g n cap a b c d w0 Q0 w' (swp Q i j) := by
  obtain ⟨h1, h2, h3, h4, h5, h6⟩ := h
  have hg := (World.ownsRow.lt h2 g rfl).1
  exact ⟨tbx_kept h1 he (by omega), hq, by rw [swp_len]; exact h3, (swp_perm Q (by omega) (by omega)).trans h4, h5.trans he (fun _ _ e => e), h6⟩
end
theorem dec_ge {X Y : Int} (h : Y ≤ X) : decide (X < Y) = false := by simp; omega

set_option maxRecDepth 20000 in
set_option maxHeartbeats 1000000 in
theorem up_any (B T g n cap j0 : Nat) (a b c d : Value) (Q0 : List Stop) (w : World) (h0 : hst B T g n cap a b c d w Q0 w Q0) (hj : j0 < n) (hu : hup j0 Q0) (hm : n ≤ 1000000) :
    Calls Try.prog 59 #[.iface 83 (.pointer (some ⟨T, 4, none⟩)), .int .i64 (j0 : Int)] w fun e w' => e = .returned (.tuple #[]) ∧ ∃ Q, hst B T g n cap a b c d w Q0 w' Q ∧ hp n Q := by
  have H0 : Hid (hst B T g n cap a b c d w Q0 w Q0) := h0
  have HU : Hid (hup j0 Q0) := hu
  clear h0 hu
  go_enter Try.func59, Try.ntmps59
  go_wp2_with fail
  go_loopw [1] (fun i wr => ∃ (j : Nat) (Q : List Stop), i = .int .i64 j ∧ j < n ∧ Hid (hst B T g n cap a b c d w Q0 wr Q) ∧ Hid (hup j Q)) (fun i _ => (intOf i).toNat)
  case atStart => exact ⟨j0, Q0, rfl, hj, H0, HU⟩
  case round =>
    obtain ⟨j, Q, rfl, hjn, HS, HU⟩ := hrel
    have c4 := hst_ptr HS.out
    have mL := m_Less c4
    cases j with
    | zero =>
      go_wp2_with fail
      go_end0
      exact ⟨rfl, Q, HS.out, by have := hup_end HU.out (.inl rfl); rwa [hst_len HS.out] at this⟩
    | succ K =>
      obtain ⟨I, hI⟩ : ∃ I : Nat, K / 2 = I := ⟨_, rfl⟩
      have eI : (K : Int) / 2 = (I : Int) := by omega
      have hne : ((I : Int) == (K : Int) + 1) = false := by simp; omega
      have eP : (K + 1 - 1) / 2 = I := by simpa using hI
      have HP : Hid ((K + 1 - 1) / 2 = I) := eP
      have hIn : I < n := by omega
      have HI : Hid (I < K + 1) := by unfold Hid; omega
      clear hI eP
      obtain ⟨X, hX⟩ : ∃ X, ky Q (K + 1) = X := ⟨_, rfl⟩
      obtain ⟨Y, hY⟩ : ∃ Y, ky Q I = Y := ⟨_, rfl⟩
      have HX : Hid (ky Q (K + 1) = X) := hX
      have HY : Hid (ky Q I = Y) := hY
      clear hX hY
      by_cases hlt : X < Y
      · go_wp2_with fail
        refine (Less_at g cap n (K + 1) I _ _ Q X Y wr (hst_que HS.out) (hst_len HS.out) hjn hIn HX HY (by omega) rfl).mono ?_
        rintro e w1 ⟨rfl, m, hw⟩
        have HS1 : Hid (hst B T g n cap a b c d w Q0 w1 Q) := by rw [hw]; exact hst_drewN HS.out m
        have c41 := hst_ptr HS1.out
        have mS := m_Swap c41
        clear mL c4 hw
        go_wp2_with fail
        refine (Swap_at g cap n I (K + 1) _ _ Q w1 (hst_que HS1.out) (hst_len HS1.out) hIn hjn rfl (by omega)).mono ?_
        rintro e w2 ⟨rfl, hq2, he2⟩
        have HS2 : Hid (hst B T g n cap a b c d w Q0 w2 (swp Q I (K + 1))) := hst_swap HS1.out hIn hjn hq2 he2
        have HU2 : Hid (hup I (swp Q I (K + 1))) := by
          have := hup_swap HU.out (by omega) (by rw [hst_len HS.out]; exact hjn) (by rw [HP.out, HX.out, HY.out]; exact hlt)
          rwa [HP.out] at this
        clear hq2 he2 mS c41
        go_wp2_with fail
        go_roundw
        case rel => exact ⟨I, _, rfl, hIn, HS2, HU2⟩
        case measure => have := HI.out; simp [intOf]; omega
      · have hd := dec_ge (Int.not_lt.1 hlt)
        go_wp2_with fail
        refine (Less_at g cap n (K + 1) I _ _ Q X Y wr (hst_que HS.out) (hst_len HS.out) hjn hIn HX HY (by omega) rfl).mono ?_
        rintro e w1 ⟨rfl, m, hw⟩
        have HS1 : Hid (hst B T g n cap a b c d w Q0 w1 Q) := by rw [hw]; exact hst_drewN HS.out m
        clear mL c4 hw
        go_wp2_with fail
        go_end0
        exact ⟨rfl, Q, HS1.out, by have := hup_end HU.out (.inr (by rw [HP.out, HX.out, HY.out]; omega)); rwa [hst_len HS.out] at this⟩
set_option maxRecDepth 20000 in
set_option maxHeartbeats 1000000 in
theorem hPush_any (B T : Nat) (a b c d v : Value) (Q : List Stop) (s : Stop) (w : World) (ht : tbx T w a b c d v) (hq : que B w v Q) (hT : T < B) (hB : B ≤ w.heap.size) (hl : Q.length < 1000000) (hh : hp Q.length Q) :
    Calls Try.prog 46 #[.iface 83 (.pointer (some ⟨T, 4, none⟩)), .iface 68 (.agg #[.int .i64 s.x, .int .i64 s.y, .int .i64 s.c])] w fun e w' => e = .returned (.tuple #[]) ∧ ∃ v' Q', tbx T w' a b c d v' ∧ que B w' v' Q' ∧ Q'.Perm (s :: Q) ∧ hp Q'.length Q' ∧ Ex (fun k => k = T ∨ some k = v.ownBlock) w w' ∧ ∀ k, v'.ownBlock = some k → v.ownBlock = some k ∨ w.heap.size ≤ k := by
  have HT : Hid (tbx T w a b c d v) := ht
  have HQ : Hid (que B w v Q) := hq
  have HH : Hid (hp Q.length Q) := hh
  have mP := m_Push
  clear ht hq hh
  go_enter Try.func46, Try.ntmps46
  go_wp2_with fail
  refine (Push_m B T a b c d v Q s w HT.out HQ.out hT hB (by omega)).mono ?_
  rintro e w1 ⟨rfl, g, cap, ht1, hq1, he1, hg1⟩
  obtain ⟨n, hn⟩ : ∃ n, Q.length = n := ⟨_, rfl⟩
  rw [hn] at ht1 hq1 hl
  have hln : (Q ++ [s]).length = n + 1 := by simp [hn]
  have HS : Hid (hst B T g (n + 1) cap a b c d w1 (Q ++ [s]) w1 (Q ++ [s])) := ⟨ht1, hq1, hln, List.Perm.refl _, Ex.refl _ _, hT⟩
  have HU : Hid (hup n (Q ++ [s])) := by have := hup_new (s := s) HH.out; rwa [hn] at this
  have HE : Hid (Ex (fun k => k = T ∨ some k = v.ownBlock) w w1) := he1
  have HG : Hid (v.ownBlock = some g ∨ w.heap.size ≤ g) := hg1
  have c4 := (tbx_cells ht1).2.2.2.2.1
  have mL := m_Len c4
  clear ht1 hq1 he1 hg1 mP hn hln
  go_wp2_with fail
  refine (Len_any _ (n + 1) cap w1).mono ?_
  rintro e w' ⟨rfl, hw⟩; subst w'
  go_wp2_with fail
  refine (up_any B T g (n + 1) cap n a b c d _ w1 HS.out (by omega) HU.out (by omega)).mono ?_
  rintro e w2 ⟨rfl, Q2, hs2, hp2⟩
  have HS2 : Hid (hst B T g (n + 1) cap a b c d w1 (Q ++ [s]) w2 Q2) := hs2
  have HP2 : Hid (hp (n + 1) Q2) := hp2
  clear hs2 hp2 mL c4
  go_wp2_with fail
  go_end0
  obtain ⟨h1, h2, h3, h4, h5, h6⟩ := HS2.out
  refine ⟨rfl, _, Q2, h1, h2, h4.trans (List.perm_append_comm (l₁ := Q) (l₂ := [s])), by rw [h3]; exact HP2.out, HE.out.trans h5 (fun i hi e => ?_), fun k hk => ?_⟩
  · subst e
    rcases HG.out with h | h
    · exact .inr h.symm
    · omega
  · simp [Value.ownBlock] at hk
    subst hk
    exact HG.out
end Go.Proofs.Ytkdammmikmljmaa
