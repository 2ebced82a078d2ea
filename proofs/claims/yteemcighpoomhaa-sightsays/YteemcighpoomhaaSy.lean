/- Two rows of the same cells are equal; what Seen, and the document's own answer to it, return, in one form. -/
import Derived.Test.YteemcighpoomhaaSw
namespace Go.Proofs.Yteemcighpoomhaa
open Go.RowKit
set_option linter.unusedVariables false

set_option maxRecDepth 20000 in
set_option maxHeartbeats 1000000 in
theorem Equalc_yes (p q : Option Addr) (n c d : Nat) (l : List Cel) (w : World) (hn : l.length = n) (hm : n ≤ 9223372036854775807) (h1 : crow w p l) (h2 : crow w q l) :
    Calls Try.prog 13 #[.slice p n c, .slice q n d] w fun e w' => e = .returned (.bool true) ∧ ∃ m, w' = w.drewN m := by
  have H1 : Hid (crow w p l) := h1
  have H2 : Hid (crow w q l) := h2
  have HN : Hid (l.length = n) := hn
  clear h1 h2 hn
  go_enter Try.func13, Try.ntmps13
  go_wp2_with fail
  go_loopw [13] (fun i wr => ∃ k : Nat, i = .int .i64 k ∧ k ≤ n ∧ ∃ m, wr = w.drewN m) (fun i _ => n - (intOf i).toNat)
  case atStart => exact ⟨0, rfl, by omega, 0, rfl⟩
  case round =>
    obtain ⟨k, rfl, hk, m, rfl⟩ := hrel
    by_cases hlt : k < n
    · obtain ⟨a, rfl, ha, hay⟩ := crow_at H1.out (j := k) (by rw [HN.out]; exact hlt)
      obtain ⟨b, rfl, hb, hby⟩ := crow_at H2.out (j := k) (by rw [HN.out]; exact hlt)
      obtain ⟨X, hX⟩ : ∃ X, (l[k]'(by rw [HN.out]; exact hlt)).x = X := ⟨_, rfl⟩
      obtain ⟨Y, hY⟩ : ∃ Y, (l[k]'(by rw [HN.out]; exact hlt)).y = Y := ⟨_, rfl⟩
      rw [hX] at ha hb
      rw [hY] at hay hby
      clear hX hY
      have ha' : (w.drewN m).cell? (a.add (k * 2)) = some (.int .i64 X) := ha
      have hb' : (w.drewN m).cell? (b.add (k * 2)) = some (.int .i64 X) := hb
      have hay' : (w.drewN m).cell? ⟨(a.add (k * 2)).block, (a.add (k * 2)).off + 1, none⟩ = some (.int .i64 Y) := cell_two hay
      have hby' : (w.drewN m).cell? ⟨(b.add (k * 2)).block, (b.add (k * 2)).off + 1, none⟩ = some (.int .i64 Y) := cell_two hby
      have HQ : Hid (∀ n, ∃ q, (w.drewN m).drewN n = w.drewN q) := fun n => ⟨_, World.drewN_drewN _ _ _⟩
      clear ha hb hay hby
      generalize w.drewN m = w5 at ha' hb' hay' hby' HQ ⊢
      have l1 : (k : Int) < n := by omega
      have l2 : (0 : Int) ≤ k := by omega
      go_wp2_with fail
      go_quiet (fail)
      go_wp2_with fail
      go_roundw
      case rel => exact ⟨k + 1, by go_num, by omega, HQ.out _⟩
      case measure => simp [intOf]; omega
    · go_wp2_with fail
      go_ret
      exact ⟨rfl, m, rfl⟩
theorem Equalc_b (p q : Option Addr) (n c d : Nat) (l : List Cel) (w : World) (hn : l.length = n) (hm : n ≤ 9223372036854775807) (h1 : crow w p l) (h2 : crow w q l) :
    Calls Try.prog 13 #[.slice p n c, .slice q n d] w fun e w' => e = .returned (.bool true) ∧ Below w.heap.size w w' := by
  refine (Equalc_yes p q n c d l w hn hm h1 h2).mono ?_
  rintro e w' ⟨rfl, m, rfl⟩
  exact ⟨rfl, below_drewN (Below.refl _ _) m⟩
/-- What is told to be seen: nothing, where there is an error. -/
def sl (A B : Int) (l : List Int) (X Y r : Int) : List Cel := if nse A B l X Y r = 0 then sn A.toNat l X Y r (A.toNat * B.toNat) else []
theorem Seen_u (A B : Int) (p : Option Addr) (n c : Nat) (l : List Int) (X Y r E : Int) (L : List Cel) (m : Nat) (w : World) (hr : row vi w p l) (hn : l.length = n) (hm : n ≤ 9223372036854775807) (hE : Hid (nse A B l X Y r = E)) (hL : Hid (sl A B l X Y r = L)) (hLm : Hid (L.length = m)) :
    Calls Try.prog 7 #[.agg #[.int .i64 A, .int .i64 B, .slice p n c], .agg #[.int .i64 X, .int .i64 Y], .int .i64 r] w fun e w' => (∃ q d, e = .returned (.tuple #[.slice q m d, .int .i64 E]) ∧ crow w' q L) ∧ Below w.heap.size w w' := by
  refine (Seen_any A B p n c l X Y r w hr hn hm).mono ?_
  rintro e w' ⟨(⟨F, hF, h1, rfl⟩ | ⟨W, H, x, y, k, v, rfl, rfl, rfl, rfl, rfl, hx, hy, hk, hf, rfl, hv⟩), hb⟩
  · obtain rfl : F = E := by rw [← h1]; exact hE.out
    have h2 : L = [] := by rw [← hL.out]; unfold sl; rw [if_neg (by rw [h1]; exact hF)]
    subst h2
    obtain rfl : m = 0 := by have := hLm.out; simpa using this.symm
    exact ⟨⟨_, _, rfl, crow_nil _ _⟩, hb⟩
  · have h0 : nse W H l x y k = 0 := by unfold nse; rw [if_pos (cer_ok hf hx hy), if_pos (by omega)]
    obtain rfl : E = 0 := by rw [← hE.out]; exact h0
    have h2 : sn W l x y k (W * H) = L := by rw [← hL.out]; unfold sl; rw [if_pos h0]; simp
    rw [h2] at hv
    obtain ⟨q, d, rfl, hc⟩ := minec_form hv hLm.out
    exact ⟨⟨q, d, rfl, hc⟩, hb⟩
theorem LookedAt_u (A B : Int) (p : Option Addr) (n c : Nat) (l : List Int) (X Y r E : Int) (L : List Cel) (m : Nat) (w : World) (hr : row vi w p l) (hn : l.length = n) (hm : n ≤ 9223372036854775807) (hE : Hid (nse A B l X Y r = E)) (hL : Hid (sl A B l X Y r = L)) (hLm : Hid (L.length = m)) :
    Calls Try.prog 8 #[.agg #[.int .i64 A, .int .i64 B, .slice p n c], .agg #[.int .i64 X, .int .i64 Y], .int .i64 r] w fun e w' => (∃ q d, e = .returned (.tuple #[.slice q m d, .int .i64 E]) ∧ crow w' q L) ∧ Below w.heap.size w w' := by
  have hno : E ≠ 0 → L = [] ∧ m = 0 := fun h => by
    have h2 : L = [] := by rw [← hL.out]; unfold sl; rw [if_neg (by rw [hE.out]; exact h)]
    subst h2
    exact ⟨rfl, by have := hLm.out; simpa using this.symm⟩
  by_cases h0 : ck A B l = 0
  · obtain ⟨W, H, rfl, rfl, hW, hH, hl, hg⟩ := ck_yes h0
    have hf : okf W H l := ⟨hW, hH, hl, hg⟩
    cases h1 : inb W H X Y with
    | false =>
      obtain rfl : E = 7 := by rw [← hE.out]; unfold nse cer; simp [h0, h1]
      obtain ⟨rfl, rfl⟩ := hno (by decide)
      refine (LookedAt_out W H p n c l X Y r w hr hn hm hf h1).mono ?_
      rintro e w' ⟨rfl, hb⟩
      exact ⟨⟨_, _, rfl, crow_nil _ _⟩, hb⟩
    | true =>
      obtain ⟨x, y, rfl, rfl, hx, hy⟩ := inb_yes h1
      by_cases h2 : 0 ≤ r ∧ r ≤ 12
      · obtain ⟨k, rfl⟩ : ∃ k : Nat, r = k := ⟨r.toNat, by omega⟩
        have h3 : nse W H l x y k = 0 := by unfold nse; rw [if_pos (cer_ok hf hx hy), if_pos h2]
        obtain rfl : E = 0 := by rw [← hE.out]; exact h3
        have h4 : sn W l x y k (W * H) = L := by rw [← hL.out]; unfold sl; rw [if_pos h3]; simp
        obtain ⟨a, rfl⟩ := row_some hr (by rw [hl]; exact one_le hW hH)
        rw [hl] at hn
        subst hn
        refine (LookedAt_ok W H a c l x y k w hr hf hx hy (by omega)).mono ?_
        rintro e w' ⟨v, rfl, hv, hb⟩
        rw [h4] at hv
        obtain ⟨q, d, rfl, hc⟩ := minec_form hv hLm.out
        exact ⟨⟨q, d, rfl, hc⟩, hb⟩
      · obtain rfl : E = 1 := by rw [← hE.out]; unfold nse; rw [if_pos (cer_ok hf hx hy), if_neg h2]
        obtain ⟨rfl, rfl⟩ := hno (by decide)
        refine (LookedAt_arg W H p n c l x y r w hr hn hm hf h1 (by unfold Hid; simp; omega)).mono ?_
        rintro e w' ⟨rfl, hb⟩
        exact ⟨⟨_, _, rfl, crow_nil _ _⟩, hb⟩
  · have h1 : E = ck A B l := by rw [← hE.out]; unfold nse cer; simp [h0]
    have h2 : E ≠ 0 := by rw [h1]; exact h0
    obtain ⟨rfl, rfl⟩ := hno h2
    refine (LookedAt_no A B p n c l X Y r E w hr hn hm h1.symm h2).mono ?_
    rintro e w' ⟨rfl, hb⟩
    exact ⟨⟨_, _, rfl, crow_nil _ _⟩, hb⟩
theorem sl_len (A B : Int) (l : List Int) (X Y r : Int) (h : ck A B l = 0 → A.toNat * B.toNat ≤ 1600) : (sl A B l X Y r).length ≤ 1600 := by
  unfold sl
  by_cases h0 : nse A B l X Y r = 0
  · rw [if_pos h0]
    refine Nat.le_trans (sn_len _ _ _ _ _ _) (h ?_)
    apply Classical.byContradiction
    intro h1
    unfold nse cer at h0
    simp [h1] at h0
  · rw [if_neg h0]; simp
theorem sl_bd (A B : Int) (l : List Int) (X Y r : Int) : (sl A B l X Y r).length ≤ 1600 := sl_len A B l X Y r fun h => by
  obtain ⟨W, H, rfl, rfl, hW, hH, _⟩ := ck_yes h
  simpa using wh_le hW hH
end Go.Proofs.Yteemcighpoomhaa
