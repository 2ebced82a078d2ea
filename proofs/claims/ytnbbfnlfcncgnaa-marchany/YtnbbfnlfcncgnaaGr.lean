/- What slices.Reverse does to a row of goes of one's own. -/
import Derived.Test.YtnbbfnlfcncgnaaCw
import Derived.Test.YtnbbfnlfcncgnaaMb
import Derived.RegionTactic
namespace Go.Proofs.Ytnbbfnlfcncgnaa
open Go.RowKit
set_option linter.unusedVariables false

theorem flatg_set (s : Goe) : ∀ (Q : List Goe) (k : Nat), k < Q.length → flatg (Q.set k s) = (((flatg Q).set (k * 3) (.int .i64 s.i)).set (k * 3 + 1) (.int .i64 s.x)).set (k * 3 + 2) (.int .i64 s.y) := by
  intro Q
  induction Q with
  | nil => intro k h; simp at h
  | cons c Q ih =>
    intro k h
    cases k with
    | zero => rfl
    | succ k =>
      rw [List.set_cons_succ, flatg_cons, flatg_cons, ih k (by simpa using h)]
      have e : (k + 1) * 3 = k * 3 + 3 := by omega
      rw [e]
      rfl
section
variable {B : Nat} {w w' : World} {v : Value} {Q : List Goe} {g n cap : Nat}
theorem mineg_cell (h : mineg B w (.slice (some ⟨g, 0, none⟩) n cap) Q) (hn : Q.length = n) {k : Nat} (hk : k < n) {s : Goe} (hs : Q[k]? = some s) :
    w.cell? ⟨g, k * 3, none⟩ = some (.int .i64 s.i) ∧ w.cell? ⟨g, k * 3 + 1, none⟩ = some (.int .i64 s.x) ∧ w.cell? ⟨g, k * 3 + 2, none⟩ = some (.int .i64 s.y) := by
  subst hn
  obtain ⟨_, rfl⟩ := List.getElem?_eq_some_iff.1 hs
  have f : ∀ i u, i < 3 → (tl3 Q[k])[i]? = some u → w.cell? ⟨g, k * 3 + i, none⟩ = some u := fun i u hi hu => by
    rw [World.ownsRow.cellAt h _ (by omega), flatg_at Q k hk i hi]; exact hu
  exact ⟨f 0 _ (by omega) rfl, f 1 _ (by omega) rfl, f 2 _ (by omega) rfl⟩
theorem mineg_free (h : mineg B w (.slice (some ⟨g, 0, none⟩) n cap) Q) (hn : Q.length = n) (k : Nat) : w.frozen? ⟨g, k, none⟩ = false := by
  subst hn; exact World.ownsRow.frozenAt h k
theorem mineg_put (h : mineg B w (.slice (some ⟨g, 0, none⟩) n cap) Q) (hn : Q.length = n) {k : Nat} (hk : k < n) (s : Goe) :
    mineg B (((w.setCell ⟨g, k * 3, none⟩ (.int .i64 s.i)).setCell ⟨g, k * 3 + 1, none⟩ (.int .i64 s.x)).setCell ⟨g, k * 3 + 2, none⟩ (.int .i64 s.y)) (.slice (some ⟨g, 0, none⟩) n cap) (Q.set k s) := by
  subst hn
  unfold mineg at h ⊢
  rw [flatg_set s Q k hk, List.length_set]
  exact (World.ownsRow.stored (World.ownsRow.stored (World.ownsRow.stored h _ _).1 _ _).1 _ _).1
theorem mineg_drew (h : mineg B w v Q) : mineg B w.drew v Q := h
end
/-- Of L the first k and the last k stand as they will. -/
def rvg (Q : List Goe) (k : Nat) (L : List Goe) : Prop := L.length = Q.length ∧ ∀ t, t < Q.length → L[t]? = if t < k ∨ Q.length ≤ t + k then Q[Q.length - 1 - t]? else Q[t]?
theorem rvg_zero (Q : List Goe) : rvg Q 0 Q := ⟨rfl, fun t ht => by rw [if_neg (by omega)]⟩
theorem rvg_next {Q L : List Goe} {k J : Nat} {s t : Goe} (h : rvg Q k L) (hJ : k + J + 1 = Q.length) (hk : k < J) (hs : L[k]? = some s) (ht : L[J]? = some t) : rvg Q (k + 1) ((L.set k t).set J s) := by
  refine ⟨by simpa using h.1, fun i hi => ?_⟩
  have hl := h.1
  have h1 := h.2 k (by omega)
  have h2 := h.2 J (by omega)
  rw [if_neg (by omega)] at h1 h2
  by_cases e1 : i = J
  · subst e1
    rw [List.getElem?_set_self (by simp; omega), if_pos (by omega)]
    have : Q.length - 1 - i = k := by omega
    rw [this, ← h1, hs]
  · rw [List.getElem?_set_ne (by omega)]
    by_cases e2 : i = k
    · subst e2
      rw [List.getElem?_set_self (by omega), if_pos (by omega)]
      have : Q.length - 1 - i = J := by omega
      rw [this, ← h2, ht]
    · rw [List.getElem?_set_ne (by omega), h.2 i hi]
      by_cases e3 : i < k ∨ Q.length ≤ i + k
      · rw [if_pos e3, if_pos (by omega)]
      · rw [if_neg e3, if_neg (by omega)]
theorem rvg_end {Q L : List Goe} {k J : Nat} (h : rvg Q k L) (hJ : k + J + 1 = Q.length) (h1 : J ≤ k) (h2 : k ≤ J + 1) : L = Q.reverse := by
  apply List.ext_getElem?
  intro i
  rcases Nat.lt_or_ge i Q.length with hi | hi
  · rw [h.2 i hi, List.getElem?_reverse hi]
    split
    · rfl
    · have : Q.length - 1 - i = i := by omega
      rw [this]
  · rw [List.getElem?_eq_none (by rw [h.1]; exact hi), List.getElem?_eq_none (by simpa using hi)]
set_option maxRecDepth 20000 in
set_option maxHeartbeats 2000000 in
theorem Reverseg_some (B g n cap : Nat) (Q : List Goe) (w : World) (hq : mineg B w (.slice (some ⟨g, 0, none⟩) n cap) Q) (hn : Q.length = n) (h1 : 1 ≤ n) (h4 : n ≤ 9000000000000) :
    Calls Try.prog 26 #[.slice (some ⟨g, 0, none⟩) n cap] w fun e w' => e = .returned (.tuple #[]) ∧ mineg B w' (.slice (some ⟨g, 0, none⟩) n cap) Q.reverse ∧ Ex (fun k => k = g) w w' := by
  have HN : Hid (Q.length = n) := hn
  have HQ : Hid (mineg B w (.slice (some ⟨g, 0, none⟩) n cap) Q) := hq
  clear hn hq
  go_enter Try.func26, Try.ntmps26
  go_wp2_with fail
  go_loopw [2, 3] (fun i j wr => ∃ (k J : Nat) (L : List Goe), i = .int .i64 k ∧ j = .int .i64 J ∧ k + J + 1 = n ∧ k ≤ J + 1 ∧ Hid (mineg B wr (.slice (some ⟨g, 0, none⟩) n cap) L ∧ rvg Q k L ∧ Ex (fun k => k = g) w wr)) (fun _ j _ => (intOf j).toNat)
  case atStart => exact ⟨0, n - 1, Q, rfl, by go_num, by omega, by omega, HQ.out, rvg_zero Q, Ex.refl _ _⟩
  case round =>
    obtain ⟨k, J, L, rfl, rfl, hkJ, hle, HS⟩ := hrel
    by_cases hlt : k < J
    · have i0 : (k : Int) < J := by omega
      have i1 : (k : Int) < n := by omega
      have i2 : (J : Int) < n := by omega
      have i3 : (0 : Int) ≤ k := by omega
      have i4 : (0 : Int) ≤ J := by omega
      have hL : L.length = n := HS.out.2.1.1.trans HN.out
      obtain ⟨s, hs⟩ : ∃ s, L[k]? = some s := ⟨_, List.getElem?_eq_getElem (by omega)⟩
      obtain ⟨t, ht⟩ : ∃ t, L[J]? = some t := ⟨_, List.getElem?_eq_getElem (by omega)⟩
      obtain ⟨a1, a2, a3⟩ := mineg_cell HS.out.1 hL (by omega) hs
      obtain ⟨b1, b2, b3⟩ := mineg_cell HS.out.1 hL (by omega) ht
      have fz := mineg_free HS.out.1 hL
      have hq1 := mineg_put HS.out.1 hL (k := k) (by omega) t
      have hn1 : (L.set k t).length = n := by simpa using hL
      have hs1 : (L.set k t)[J]? = some t := by rw [List.getElem?_set_ne (by omega)]; exact ht
      obtain ⟨d1, d2, d3⟩ := mineg_cell hq1 hn1 (by omega) hs1
      have fz1 := mineg_free hq1 hn1
      have hq2 := mineg_put hq1 hn1 (k := J) (by omega) s
      have E1 := fun (V : World) (p : Addr) (u : Value) (hp : p.block = g) => Ex.set (S := fun k => k = g) V p hp u
      have T1 := fun {a b c : World} (h : Ex (fun k => k = g) a b) (k : Ex (fun k => k = g) b c) => Ex.trans h k (fun _ _ e => e)
      have HS2 : Hid (mineg B ((((((wr.setCell ⟨g, k * 3, none⟩ (.int .i64 t.i)).setCell ⟨g, k * 3 + 1, none⟩ (.int .i64 t.x)).setCell ⟨g, k * 3 + 2, none⟩ (.int .i64 t.y)).setCell ⟨g, J * 3, none⟩ (.int .i64 s.i)).setCell ⟨g, J * 3 + 1, none⟩ (.int .i64 s.x)).setCell ⟨g, J * 3 + 2, none⟩ (.int .i64 s.y)).drew (.slice (some ⟨g, 0, none⟩) n cap) ((L.set k t).set J s) ∧ rvg Q (k + 1) ((L.set k t).set J s) ∧ Ex (fun k => k = g) w ((((((wr.setCell ⟨g, k * 3, none⟩ (.int .i64 t.i)).setCell ⟨g, k * 3 + 1, none⟩ (.int .i64 t.x)).setCell ⟨g, k * 3 + 2, none⟩ (.int .i64 t.y)).setCell ⟨g, J * 3, none⟩ (.int .i64 s.i)).setCell ⟨g, J * 3 + 1, none⟩ (.int .i64 s.x)).setCell ⟨g, J * 3 + 2, none⟩ (.int .i64 s.y)).drew) := by
        refine ⟨mineg_drew hq2, rvg_next HS.out.2.1 (by rw [HN.out]; exact hkJ) hlt hs ht, ?_⟩
        exact (T1 (T1 (T1 (T1 (T1 (T1 HS.out.2.2 (E1 _ _ _ rfl)) (E1 _ _ _ rfl)) (E1 _ _ _ rfl)) (E1 _ _ _ rfl)) (E1 _ _ _ rfl)) (E1 _ _ _ rfl)).drew
      clear E1 T1 hq1 hq2 hs ht hs1 hn1 hL
      go_wp2_with fail
      go_region
      go_wp2_with fail
      go_roundw
      case rel => exact ⟨k + 1, J - 1, _, by go_num, by go_num, by omega, by omega, HS2⟩
      case measure => simp [intOf]; omega
    · have HZ : Hid (L = Q.reverse) := rvg_end HS.out.2.1 (by rw [HN.out]; exact hkJ) (by omega) hle
      go_wp2_with fail
      go_end0
      exact ⟨rfl, by rw [← HZ.out]; exact HS.out.1, HS.out.2.2⟩
set_option maxRecDepth 20000 in
theorem Reverseg_zero (p : Option Addr) (c : Nat) (w : World) : Calls Try.prog 26 #[.slice p 0 c] w fun e w' => e = .returned (.tuple #[]) ∧ w' = w := by
  go_enter Try.func26, Try.ntmps26
  go_wp2_with fail
  go_loopw [2, 3] (fun i j wr => i = .int .i64 0 ∧ j = .int .i64 (-1) ∧ wr = w) (fun _ _ _ => 0)
  case atStart => exact ⟨rfl, rfl, rfl⟩
  case round =>
    obtain ⟨rfl, rfl, rfl⟩ := hrel
    go_wp2_with fail
    go_end0
    exact ⟨rfl, rfl⟩
theorem Reverseg_any (B n cap : Nat) (p : Option Addr) (Q : List Goe) (w : World) (hq : mineg B w (.slice p n cap) Q) (hn : Q.length = n) (h4 : n ≤ 9000000000000) :
    Calls Try.prog 26 #[.slice p n cap] w fun e w' => e = .returned (.tuple #[]) ∧ mineg B w' (.slice p n cap) Q.reverse ∧ Ex (fun k => some k = (Value.slice p n cap).ownBlock) w w' := by
  rcases Nat.eq_zero_or_pos n with h0 | h0
  · subst h0
    have hQ : Q = [] := List.eq_nil_of_length_eq_zero hn
    subst hQ
    refine (Reverseg_zero p cap w).mono ?_
    rintro e w' ⟨rfl, hw⟩; subst w'
    exact ⟨rfl, hq, Ex.refl _ _⟩
  · obtain ⟨g, rfl⟩ : ∃ g, p = some ⟨g, 0, none⟩ := by
      rcases hq.2 with ⟨_, h1⟩ | ⟨g, cap', cur, hv, hB, hblk, hr⟩
      · omega
      · simp only [Value.slice.injEq] at hv
        exact ⟨g, hv.1⟩
    refine (Reverseg_some B g n cap Q w hq hn h0 h4).mono ?_
    rintro e w' ⟨rfl, h1, h2⟩
    exact ⟨rfl, h1, h2.mono (fun i _ e => by rw [e]; rfl)⟩
theorem mineg_gor {B n cap : Nat} {p : Option Addr} {w : World} {Q : List Goe} (h : mineg B w (.slice p n cap) Q) (hn : Q.length = n) : gor w p Q := by
  rcases h.2 with ⟨h0, h1⟩ | ⟨g, cap', cur, hv, hB, hblk, hr⟩
  · have : Q = [] := List.eq_nil_of_length_eq_zero h1
    subst this; exact gor_nil _ _
  · simp only [Value.slice.injEq] at hv
    obtain ⟨rfl, _, _⟩ := hv
    subst hn
    intro j u hj
    have hjl : j < Q.length * 3 := by have := (List.getElem?_eq_some_iff.1 hj).1; rwa [flatg_len] at this
    exact ⟨_, rfl, by rw [add_zero_at, World.ownsRow.cellAt h _ hjl]; exact hj⟩
end Go.Proofs.Ytnbbfnlfcncgnaa
