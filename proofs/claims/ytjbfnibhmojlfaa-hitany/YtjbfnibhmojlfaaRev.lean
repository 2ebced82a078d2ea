/- What slices.Reverse does to a row of blows of one's own. -/
import Derived.Test.YtjbfnibhmojlfaaCp
import Derived.RegionTactic
namespace Go.Proofs.Ytjbfnibhmojlfaa
open Go.RowKit
set_option linter.unusedVariables false

theorem flat2_set (s : Cel) : ∀ (Q : List Cel) (k : Nat), k < Q.length → flat2 (Q.set k s) = ((flat2 Q).set (k * 2) (.int .i64 s.x)).set (k * 2 + 1) (.int .i64 s.y) := by
  intro Q
  induction Q with
  | nil => intro k h; simp at h
  | cons c Q ih =>
    intro k h
    cases k with
    | zero => rfl
    | succ k =>
      rw [List.set_cons_succ, flat2_cons, flat2_cons, ih k (by simpa using h)]
      have e : (k + 1) * 2 = k * 2 + 2 := by omega
      rw [e]
      rfl
section
variable {B : Nat} {w w' : World} {v : Value} {Q : List Cel} {g n cap : Nat}
theorem mineb_kept {S : Nat → Prop} (h : mineb B w v Q) (he : Ex S w w') (hn : ∀ g, v.ownBlock = some g → ¬ S g) : mineb B w' v Q := by
  refine ⟨h.1, ?_⟩
  rcases h.2 with h0 | ⟨g', cap, cur, hv, hB, hblk, hr⟩
  · exact .inl h0
  · refine .inr ⟨g', cap, cur, hv, hB, ?_, hr⟩
    have : g' < w.heap.size := by
      rcases Nat.lt_or_ge g' w.heap.size with hlt | hge
      · exact hlt
      · rw [Array.getElem?_eq_none hge] at hblk; cases hblk
    rw [he.block g' this (hn g' (by rw [hv]; rfl))]; exact hblk
theorem mineb_cell (h : mineb B w (.slice (some ⟨g, 0, none⟩) n cap) Q) (hn : Q.length = n) {k : Nat} (hk : k < n) {s : Cel} (hs : Q[k]? = some s) :
    w.cell? ⟨g, k * 2, none⟩ = some (.int .i64 s.x) ∧ w.cell? ⟨g, k * 2 + 1, none⟩ = some (.int .i64 s.y) := by
  subst hn
  have := flat2_at Q k hk
  rw [List.getElem?_eq_getElem hk] at hs
  rw [Option.some.inj hs] at this
  exact ⟨(World.ownsRow.cellAt h _ (by omega)).trans this.1, (World.ownsRow.cellAt h _ (by omega)).trans this.2⟩
theorem mineb_free (h : mineb B w (.slice (some ⟨g, 0, none⟩) n cap) Q) (hn : Q.length = n) (k : Nat) : w.frozen? ⟨g, k, none⟩ = false := by
  subst hn; exact World.ownsRow.frozenAt h k
theorem mineb_put (h : mineb B w (.slice (some ⟨g, 0, none⟩) n cap) Q) (hn : Q.length = n) {k : Nat} (hk : k < n) (s : Cel) :
    mineb B ((w.setCell ⟨g, k * 2, none⟩ (.int .i64 s.x)).setCell ⟨g, k * 2 + 1, none⟩ (.int .i64 s.y)) (.slice (some ⟨g, 0, none⟩) n cap) (Q.set k s) := by
  subst hn
  unfold mineb at h ⊢
  rw [flat2_set s Q k hk, List.length_set]
  exact (World.ownsRow.stored (World.ownsRow.stored h _ _).1 _ _).1
theorem mineb_drew (h : mineb B w v Q) : mineb B w.drew v Q := h
theorem mineb_some (h : mineb B w v Q) (hl : 0 < Q.length) : ∃ g cap, v = .slice (some ⟨g, 0, none⟩) Q.length cap ∧ B ≤ g ∧ g < w.heap.size ∧ Q.length ≤ cap := by
  rcases h.2 with ⟨h0, h1⟩ | ⟨g, cap, cur, hv, hB, hblk, hr⟩
  · exact absurd h1 (by omega)
  · refine ⟨g, cap, hv, hB, ?_, hr.1⟩
    rcases Nat.lt_or_ge g w.heap.size with hlt | hge
    · exact hlt
    · rw [Array.getElem?_eq_none hge] at hblk; cases hblk
end
/-- Of L the first k and the last k stand as they will. -/
def rvs (Q : List Cel) (k : Nat) (L : List Cel) : Prop := L.length = Q.length ∧ ∀ t, t < Q.length → L[t]? = if t < k ∨ Q.length ≤ t + k then Q[Q.length - 1 - t]? else Q[t]?
theorem rvs_zero (Q : List Cel) : rvs Q 0 Q := ⟨rfl, fun t ht => by rw [if_neg (by omega)]⟩
theorem rvs_next {Q L : List Cel} {k J : Nat} {s t : Cel} (h : rvs Q k L) (hJ : k + J + 1 = Q.length) (hk : k < J) (hs : L[k]? = some s) (ht : L[J]? = some t) : rvs Q (k + 1) ((L.set k t).set J s) := by
  refine ⟨by simpa using h.1, fun i hi => ?_⟩
  have hl := h.1
  have h1 := h.2 k (by omega)
  have h2 := h.2 J (by omega)
  rw [if_neg (by omega)] at h1 h2
  by_cases e1 : i = J
  · subst e1
    rw [List.getElem?_set_self (by simp; omega), if_pos (by omega)]
    have : Q.length - 1 - i = k := by omega
    rw [this, ← h1, hs]
  · rw [List.getElem?_set_ne (by omega)]
    by_cases e2 : i = k
    · subst e2
      rw [List.getElem?_set_self (by omega), if_pos (by omega)]
      have : Q.length - 1 - i = J := by omega
      rw [this, ← h2, ht]
    · rw [List.getElem?_set_ne (by omega), h.2 i hi]
      by_cases e3 : i < k ∨ Q.length ≤ i + k
      · rw [if_pos e3, if_pos (by omega)]
      · rw [if_neg e3, if_neg (by omega)]
theorem rvs_end {Q L : List Cel} {k J : Nat} (h : rvs Q k L) (hJ : k + J + 1 = Q.length) (h1 : J ≤ k) (h2 : k ≤ J + 1) : L = Q.reverse := by
  apply List.ext_getElem?
  intro i
  rcases Nat.lt_or_ge i Q.length with hi | hi
  · rw [h.2 i hi, List.getElem?_reverse hi]
    split
    · rfl
    · have : Q.length - 1 - i = i := by omega
      rw [this]
  · rw [List.getElem?_eq_none (by rw [h.1]; exact hi), List.getElem?_eq_none (by simpa using hi)]
set_option maxRecDepth 20000 in
set_option maxHeartbeats 2000000 in
theorem Reverse_some (B g n cap : Nat) (Q : List Cel) (w : World) (hq : mineb B w (.slice (some ⟨g, 0, none⟩) n cap) Q) (hn : Q.length = n) (h1 : 1 ≤ n) (h4 : n ≤ 9000000000000) :
    Calls Try.prog 16 #[.slice (some ⟨g, 0, none⟩) n cap] w fun e w' => e = .returned (.tuple #[]) ∧ mineb B w' (.slice (some ⟨g, 0, none⟩) n cap) Q.reverse ∧ Ex (fun k => k = g) w w' := by
  have HN : Hid (Q.length = n) := hn
  have HQ : Hid (mineb B w (.slice (some ⟨g, 0, none⟩) n cap) Q) := hq
  clear hn hq
  go_enter Try.func16, Try.ntmps16
  go_wp2_with fail
  go_loopw [2, 3] (fun i j wr => ∃ (k J : Nat) (L : List Cel), i = .int .i64 k ∧ j = .int .i64 J ∧ k + J + 1 = n ∧ k ≤ J + 1 ∧ Hid (mineb B wr (.slice (some ⟨g, 0, none⟩) n cap) L ∧ rvs Q k L ∧ Ex (fun k => k = g) w wr)) (fun _ j _ => (intOf j).toNat)
  case atStart => exact ⟨0, n - 1, Q, rfl, by go_num, by omega, by omega, HQ.out, rvs_zero Q, Ex.refl _ _⟩
  case round =>
    obtain ⟨k, J, L, rfl, rfl, hkJ, hle, HS⟩ := hrel
    by_cases hlt : k < J
    · have i0 : (k : Int) < J := by omega
      have i1 : (k : Int) < n := by omega
      have i2 : (J : Int) < n := by omega
      have i3 : (0 : Int) ≤ k := by omega
      have i4 : (0 : Int) ≤ J := by omega
      have hL : L.length = n := HS.out.2.1.1.trans HN.out
      obtain ⟨s, hs⟩ : ∃ s, L[k]? = some s := ⟨_, List.getElem?_eq_getElem (by omega)⟩
      obtain ⟨t, ht⟩ : ∃ t, L[J]? = some t := ⟨_, List.getElem?_eq_getElem (by omega)⟩
      obtain ⟨a1, a2⟩ := mineb_cell HS.out.1 hL (by omega) hs
      obtain ⟨b1, b2⟩ := mineb_cell HS.out.1 hL (by omega) ht
      have fz := mineb_free HS.out.1 hL
      have hq1 := mineb_put HS.out.1 hL (k := k) (by omega) t
      have hn1 : (L.set k t).length = n := by simpa using hL
      have hs1 : (L.set k t)[J]? = some t := by rw [List.getElem?_set_ne (by omega)]; exact ht
      obtain ⟨d1, d2⟩ := mineb_cell hq1 hn1 (by omega) hs1
      have fz1 := mineb_free hq1 hn1
      have hq2 := mineb_put hq1 hn1 (k := J) (by omega) s
      have E1 := fun (V : World) (p : Addr) (u : Value) (hp : p.block = g) => Ex.set (S := fun k => k = g) V p hp u
      have T1 := fun {a b c : World} (h : Ex (fun k => k = g) a b) (k : Ex (fun k => k = g) b c) => Ex.trans h k (fun _ _ e => e)
      have HS2 : Hid (mineb B ((((wr.setCell ⟨g, k * 2, none⟩ (.int .i64 t.x)).setCell ⟨g, k * 2 + 1, none⟩ (.int .i64 t.y)).setCell ⟨g, J * 2, none⟩ (.int .i64 s.x)).setCell ⟨g, J * 2 + 1, none⟩ (.int .i64 s.y)).drew (.slice (some ⟨g, 0, none⟩) n cap) ((L.set k t).set J s) ∧ rvs Q (k + 1) ((L.set k t).set J s) ∧ Ex (fun k => k = g) w ((((wr.setCell ⟨g, k * 2, none⟩ (.int .i64 t.x)).setCell ⟨g, k * 2 + 1, none⟩ (.int .i64 t.y)).setCell ⟨g, J * 2, none⟩ (.int .i64 s.x)).setCell ⟨g, J * 2 + 1, none⟩ (.int .i64 s.y)).drew) := by
        refine ⟨mineb_drew hq2, rvs_next HS.out.2.1 (by rw [HN.out]; exact hkJ) hlt hs ht, ?_⟩
        exact (T1 (T1 (T1 (T1 HS.out.2.2 (E1 _ _ _ rfl)) (E1 _ _ _ rfl)) (E1 _ _ _ rfl)) (E1 _ _ _ rfl)).drew
      clear E1 T1 hq1 hq2 hs ht hs1 hn1 hL
      go_wp2_with fail
      go_region
      go_wp2_with fail
      go_roundw
      case rel => exact ⟨k + 1, J - 1, _, by go_num, by go_num, by omega, by omega, HS2⟩
      case measure => simp [intOf]; omega
    · have HZ : Hid (L = Q.reverse) := rvs_end HS.out.2.1 (by rw [HN.out]; exact hkJ) (by omega) hle
      go_wp2_with fail
      go_end0
      exact ⟨rfl, by rw [← HZ.out]; exact HS.out.1, HS.out.2.2⟩
end Go.Proofs.Ytjbfnibhmojlfaa
