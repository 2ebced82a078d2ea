/- Reversing and sorting a list's own copy, whatever it is. -/
import Derived.Test.YtmifgaknmhcajaaPdq
import Derived.Test.YtmifgaknmhcajaaBoth
namespace Go.Proofs.Ytmifgaknmhcajaa
open Go.RowKit
set_option linter.unusedVariables false

set_option maxRecDepth 20000 in
theorem Reverse_none (w : World) : Calls Try.prog 14 #[.slice none 0 0] w fun e w' => e = .returned (.tuple #[]) ∧ w' = w := by
  go_enter Try.func14, Try.ntmps14
  go_wp2_with fail
  refine wp_loop_rounds 1 ?_
  rw [rounds_succ]
  go_wp2_with fail
  go_end0
  exact ⟨rfl, rfl⟩
set_option maxRecDepth 20000 in
theorem insertion_none (w : World) : Calls Try.prog 24 #[.slice none 0 0, .int .i64 0, .int .i64 0] w fun e w' => e = .returned (.tuple #[]) ∧ w' = w := by
  go_enter Try.func24, Try.ntmps24
  go_wp2_with fail
  refine wp_loop_rounds 1 ?_
  rw [rounds_succ]
  go_wp2_with fail
  go_end0
  exact ⟨rfl, rfl⟩
set_option maxRecDepth 20000 in
theorem pdq_none (w : World) : Calls Try.prog 22 #[.slice none 0 0, .int .i64 0, .int .i64 0, .int .i64 0] w fun e w' => e = .returned (.tuple #[]) ∧ w' = w := by
  go_enter Try.func22, Try.ntmps22
  go_wp2_with fail
  refine wp_loop_rounds 1 ?_
  rw [rounds_succ]
  go_wp2_with fail
  refine (insertion_none _).mono ?_
  rintro e w' ⟨rfl, hw⟩; subst w'
  go_wp2_with fail
  exact bodyPost_ret (v := .tuple #[]) (by simp [results, Try.results22, go_sem]) rfl ⟨rfl, rfl⟩
set_option maxRecDepth 20000 in
theorem Sort_none (w : World) : Calls Try.prog 15 #[.slice none 0 0] w fun e w' => e = .returned (.tuple #[]) ∧ w' = w := by
  go_enter Try.func15, Try.ntmps15
  go_wp2_with fail
  refine (Try.bits_Len 0 _ (by omega) (by omega)).mono ?_
  rintro e w' ⟨rfl, hw⟩; subst w'
  rw [show Lib.bitLen (0 : Int).toNat = 0 from by decide]
  go_wp2_with fail
  refine (pdq_none _).mono ?_
  rintro e w' ⟨rfl, hw⟩; subst w'
  go_wp2_with fail
  go_end0
  exact ⟨rfl, rfl⟩
set_option maxRecDepth 20000 in
theorem Sort_zero (w0 : World) (g c : Nat) (L0 : List Nat) (w : World) (h : srd w0 g 0 c L0 w) :
    Calls Try.prog 15 #[.slice (some ⟨g, 0, none⟩) 0 c] w fun e w' => e = .returned (.tuple #[]) ∧ srd w0 g 0 c L0 w' := by
  have HS : Hid (srd w0 g 0 c L0 w) := h
  clear h
  go_enter Try.func15, Try.ntmps15
  go_wp2_with fail
  refine (Try.bits_Len 0 _ (by omega) (by omega)).mono ?_
  rintro e w' ⟨rfl, hw⟩; subst w'
  rw [show Lib.bitLen (0 : Int).toNat = 0 from by decide]
  go_wp2_with fail
  refine (pdq_any w0 g 0 c L0 (by omega) 1 0 0 0 _ HS.out (by omega) (by omega) (by omega) (by omega)).mono ?_
  rintro e w' ⟨rfl, hst⟩
  go_wp2_with fail
  go_end0
  exact ⟨rfl, hst⟩

theorem mine_srd {w0 w : World} {L0 : List Nat} {g n c : Nat} (h : srd w0 g n c L0 w) : (∃ L, L.Perm L0 ∧ mine w0.heap.size w (.slice (some ⟨g, 0, none⟩) n c) L) ∧ Below w0.heap.size w0 w := by
  obtain ⟨hb, L, ho, hp⟩ := h
  refine ⟨⟨L, hp, ?_⟩, hb⟩
  unfold mine; rw [owns_len ho]; exact ho

theorem Reverse_mine (w0 w : World) (v : Value) (L : List Nat) (h : mine w0.heap.size w v L) (hb : Below w0.heap.size w0 w) (hl : L.length ≤ 1152921504606846976) :
    Calls Try.prog 14 #[v] w fun e w' => e = .returned (.tuple #[]) ∧ (∃ L', L'.Perm L ∧ mine w0.heap.size w' v L') ∧ Below w0.heap.size w0 w' := by
  rcases h.2 with ⟨h0, hn⟩ | ⟨g, cap, cur, hv, hB, hblk, hr⟩
  · subst h0
    refine (Reverse_none w).mono ?_
    rintro e w' ⟨rfl, hw⟩; subst w'
    exact ⟨rfl, ⟨L, List.Perm.refl _, h⟩, hb⟩
  · subst hv
    refine (Reverse_any w0 g L.length cap L w ⟨hb, L, h, List.Perm.refl _⟩ (by omega)).mono ?_
    rintro e w' ⟨rfl, hst⟩
    exact ⟨rfl, mine_srd hst⟩
theorem Sort_mine (w0 w : World) (v : Value) (L : List Nat) (h : mine w0.heap.size w v L) (hb : Below w0.heap.size w0 w) (hl : L.length ≤ 1152921504606846976) :
    Calls Try.prog 15 #[v] w fun e w' => e = .returned (.tuple #[]) ∧ (∃ L', L'.Perm L ∧ mine w0.heap.size w' v L') ∧ Below w0.heap.size w0 w' := by
  rcases h.2 with ⟨h0, hn⟩ | ⟨g, cap, cur, hv, hB, hblk, hr⟩
  · subst h0
    refine (Sort_none w).mono ?_
    rintro e w' ⟨rfl, hw⟩; subst w'
    exact ⟨rfl, ⟨L, List.Perm.refl _, h⟩, hb⟩
  · subst hv
    have hs : srd w0 g L.length cap L w := ⟨hb, L, h, List.Perm.refl _⟩
    by_cases h0 : 0 < L.length
    · refine (Sort_any w0 g L.length cap L w hs hl h0).mono ?_
      rintro e w' ⟨rfl, hst⟩
      exact ⟨rfl, mine_srd hst⟩
    · have e0 : L.length = 0 := by omega
      rw [e0] at hs ⊢
      refine (Sort_zero w0 g cap L w hs).mono ?_
      rintro e w' ⟨rfl, hst⟩
      exact ⟨rfl, mine_srd hst⟩
theorem Of_mine {B : Nat} {w : World} {v : Value} {L : List Nat} (h : mine B w v L) (hs : small L) (hn : L.length ≤ 9223372036854775807) :
    Calls Try.prog 11 #[v] w fun e w' => e = .returned (.int .u64 (tn 0 L)) ∧ Below w.heap.size w w' := by
  obtain ⟨p, c, rfl, hr⟩ := mine_form h
  exact Of_any ⟨p, c, L⟩ w ⟨hr, hs, hn⟩
theorem bulk_one {H : Type} (d : DataW H) : 1 ≤ Rows.uptoBulk d := by
  cases d with
  | lit l => cases l <;> simp [Rows.uptoBulk]
  | _ => simp [Rows.uptoBulk]
theorem bulk_all {H : Type} : ∀ l : List (DataW H), l.length ≤ Rows.uptoBulkAll l
  | [] => by simp
  | d :: r => by
    have h1 := bulk_one d
    have h2 := bulk_all r
    simp only [Rows.uptoBulkAll, List.length_cons]; omega
theorem told_bulk {H : Type} {d : DataW H} {n : Nat} (h : told d n) : n ≤ Rows.uptoBulk d := by
  rcases h with ⟨_, rfl⟩ | ⟨elems, spare, rfl, rfl⟩
  · omega
  · have := bulk_all elems
    simp only [Rows.uptoBulk]; omega
end Go.Proofs.Ytmifgaknmhcajaa
