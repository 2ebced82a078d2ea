/- What slices.Contains returns of numbers; what Seen returns, whatever is handed in; how many cells are near enough. -/
import Derived.Test.YteemcighpoomhaaSg
namespace Go.Proofs.Yteemcighpoomhaa
open Go.RowKit
set_option linter.unusedVariables false

/-- Does a number stand in a list? -/
def has (v : Int) (l : List Int) : Bool := l.any fun x => x == v
theorem has_take {v : Int} {l : List Int} {k : Nat} (hk : k < l.length) (h : has v (l.take k) = false) : has v (l.take (k + 1)) = (l[k] == v) := by
  unfold has at h ⊢
  rw [List.take_succ_eq_append_getElem hk, List.any_append, h]; simp
set_option maxRecDepth 20000 in
set_option maxHeartbeats 1000000 in
theorem Indexi_any (p : Option Addr) (c : Nat) (l : List Int) (v : Int) (w : World) (hr : row vi w p l) (hm : l.length ≤ 9223372036854775807) :
    Calls Try.prog 27 #[.slice p l.length c, .int .i64 v] w fun e w' => (∃ r : Int, e = .returned (.int .i64 r) ∧ decide (0 ≤ r) = has v l) ∧ w' = w := by
  have H1 : Hid (row vi w p l) := hr
  obtain ⟨n, hn⟩ : ∃ n, l.length = n := ⟨_, rfl⟩
  rw [hn] at hm ⊢
  have HN : Hid (l.length = n) := hn
  clear hr hn
  go_enter Try.func27, Try.ntmps27
  go_wp2_with fail
  go_loop [8] (fun i => ∃ k : Nat, i = .int .i64 k ∧ k ≤ n ∧ Hid (has v (l.take k) = false)) (fun i => n - (intOf i).toNat)
  case atStart => exact ⟨0, rfl, by omega, by unfold Hid; simp [has]⟩
  case round =>
    obtain ⟨k, rfl, hk, HK⟩ := hrel
    by_cases hlt : k < n
    · have hkl : k < l.length := by rw [HN.out]; exact hlt
      obtain ⟨a, rfl, ha⟩ := row_at H1.out hkl
      have hat := has_take hkl HK.out
      have HT : Hid (has v (l.take (k + 1)) = true → has v l = true) := fun h => by
        unfold has at h ⊢
        rw [← List.take_append_drop (k + 1) l, List.any_append, h]; rfl
      obtain ⟨X, hX⟩ : ∃ X, l[k] = X := ⟨_, rfl⟩
      rw [hX] at ha hat
      have ha' : w.cell? (a.add k) = some (.int .i64 X) := ha
      clear ha hX
      have HA : Hid (has v (l.take (k + 1)) = (X == v)) := hat
      clear hat
      have l1 : (k : Int) < n := by omega
      have l2 : (0 : Int) ≤ k := by omega
      by_cases he : X = v
      · subst he
        go_wp2_with fail
        go_ret
        refine ⟨⟨_, rfl, ?_⟩, rfl⟩
        rw [HT.out (by rw [HA.out]; simp)]; simp
      · have d1 : (X == v) = false := by simp [he]
        have d2 : (v == X) = false := by simp; exact fun h => he h.symm
        have HA2 : Hid (has v (l.take (k + 1)) = false) := by unfold Hid; rw [HA.out]; exact d1
        go_wp2_with fail
        go_round
        case rel => exact ⟨k + 1, by go_num, by omega, HA2⟩
        case measure => simp [intOf]; omega
    · have HE : Hid (has v l = false) := by
        have e : l.take k = l := List.take_of_length_le (by rw [HN.out]; omega)
        have := HK.out; rw [e] at this; exact this
      go_wp2_with fail
      go_ret
      exact ⟨⟨_, rfl, by rw [HE.out]; decide⟩, rfl⟩
set_option maxRecDepth 20000 in
theorem Containsi_any (p : Option Addr) (n c : Nat) (l : List Int) (v : Int) (b : Bool) (w : World) (hr : row vi w p l) (hn : l.length = n) (hm : n ≤ 9223372036854775807) (hb : Hid (has v l = b)) :
    Calls Try.prog 18 #[.slice p n c, .int .i64 v] w fun e w' => e = .returned (.bool b) ∧ w' = w := by
  subst hn
  have H1 : Hid (row vi w p l) := hr
  clear hr
  go_enter Try.func18, Try.ntmps18
  go_wp2_with fail
  refine (Indexi_any p c l v w H1.out hm).mono ?_
  rintro e w' ⟨⟨r, rfl, hd⟩, hw⟩; subst w'
  rw [hb.out] at hd
  subst hd
  go_wp2_with fail
  go_ret
  exact ⟨rfl, rfl⟩

/-- Which error Seen is of. -/
def nse (A B : Int) (l : List Int) (X Y r : Int) : Int := if cer A B l X Y = 0 then (if 0 ≤ r ∧ r ≤ 12 then 0 else 1) else cer A B l X Y
/-- What Seen has told: an error, or all that is seen. -/
def senr (A B : Int) (l : List Int) (X Y r : Int) (w w' : World) (e : Ending) : Prop :=
  (∃ E, E ≠ 0 ∧ nse A B l X Y r = E ∧ e = .returned (.tuple #[.slice none 0 0, .int .i64 E])) ∨
  ∃ (W H x y k : Nat) (v : Value), A = W ∧ B = H ∧ X = x ∧ Y = y ∧ r = k ∧ x < W ∧ y < H ∧ k ≤ 12 ∧ okf W H l ∧ e = .returned (.tuple #[v, .int .i64 0]) ∧ minec w.heap.size w' v (sn W l x y k (W * H))
theorem Seen_any (A B : Int) (p : Option Addr) (n c : Nat) (l : List Int) (X Y r : Int) (w : World) (hr : row vi w p l) (hn : l.length = n) (hm : n ≤ 9223372036854775807) :
    Calls Try.prog 7 #[.agg #[.int .i64 A, .int .i64 B, .slice p n c], .agg #[.int .i64 X, .int .i64 Y], .int .i64 r] w fun e w' => senr A B l X Y r w w' e ∧ Below w.heap.size w w' := by
  by_cases h0 : cer A B l X Y = 0
  · by_cases h1 : 0 ≤ r ∧ r ≤ 12
    · obtain ⟨W, H, x, y, rfl, rfl, rfl, rfl, hx, hy, hf⟩ := cer_yes h0
      obtain ⟨k, rfl⟩ : ∃ k : Nat, r = k := ⟨r.toNat, by omega⟩
      obtain ⟨a, rfl⟩ := row_some hr (by rw [hf.2.2.1]; exact one_le hf.1 hf.2.1)
      rw [hf.2.2.1] at hn
      subst hn
      refine (Seen_ok W H a c l x y k w hr hf hx hy (by omega)).mono ?_
      rintro e w' ⟨v, rfl, hv, hb⟩
      exact ⟨.inr ⟨W, H, x, y, k, v, rfl, rfl, rfl, rfl, rfl, hx, hy, by omega, hf, rfl, hv⟩, hb⟩
    · refine (Seen_arg A B p n c l X Y r w hr hn hm h0 (by omega)).mono ?_
      rintro e w' ⟨rfl, hb⟩
      exact ⟨.inl ⟨1, by decide, by unfold nse; rw [if_pos h0, if_neg h1], rfl⟩, hb⟩
  · refine (Seen_no A B p n c l X Y r _ w hr hn hm rfl h0).mono ?_
    rintro e w' ⟨rfl, hb⟩
    exact ⟨.inl ⟨_, h0, by unfold nse; rw [if_neg h0], rfl⟩, hb⟩

/-- Where nothing hides, all cells that are near enough are seen: so many. -/
theorem sn_count {W H X Y r a0 a1 b0 b1 : Nat} {l : List Int} (hl : ∀ i, hds (l.getD i 0) = false) (hX : X < W) (hY : Y < H) (ha0 : X - r = a0) (ha1 : min (X + r) (W - 1) = a1) (hb0 : Y - r = b0) (hb1 : min (Y + r) (H - 1) = b1) :
    (sn W l X Y r (W * H)).length = (a1 + 1 - a0) * (b1 + 1 - b0) := by
  have hin : ∀ y d, b0 ≤ y → y ≤ b1 → a0 + d ≤ a1 + 1 → (sn W l X Y r (y * W + (a0 + d))).length = (sn W l X Y r (y * W)).length + d := by
    intro y d h1 h2
    induction d with
    | zero => intro _; rw [Nat.add_zero, sn_left (by omega) (by omega) (by omega), Nat.add_zero]
    | succ d ih =>
      intro h3
      rw [show y * W + (a0 + (d + 1)) = y * W + (a0 + d) + 1 by omega, sn_yes, List.length_append, ih (by omega)]
      · rfl
      · rw [sp_at (by omega)]
        unfold spc
        rw [se_open hl, decide_eq_true (kg_in (by omega) (by omega) (by omega) (by omega))]; rfl
  have hrow : ∀ d, b0 + d ≤ b1 + 1 → (sn W l X Y r ((b0 + d) * W)).length = (a1 + 1 - a0) * d := by
    intro d
    induction d with
    | zero => intro _; rw [Nat.add_zero, sn_top (by omega) (by omega)]; rfl
    | succ d ih =>
      intro h
      rw [← Nat.add_assoc, sn_right (a := a1 + 1) (by omega) (by omega) (by omega)]
      have := hin (b0 + d) (a1 + 1 - a0) (by omega) (by omega) (by omega)
      rw [show a0 + (a1 + 1 - a0) = a1 + 1 by omega] at this
      rw [this, ih (by omega), Nat.mul_add, Nat.mul_one]
  rw [sn_end (b := b1 + 1) (by omega) (by omega) (by omega)]
  have := hrow (b1 + 1 - b0) (by omega)
  rw [show b0 + (b1 + 1 - b0) = b1 + 1 by omega] at this
  exact this
theorem open_all {l : List Int} (hg : l.any bad = false) (h1 : has 1 l = false) (h2 : has 2 l = false) (i : Nat) : hds (l.getD i 0) = false := by
  rw [List.getD_eq_getElem?_getD]
  cases h : l[i]? with
  | none => rfl
  | some x =>
    have hm : x ∈ l := List.mem_of_getElem? h
    have b := List.any_eq_false.1 hg x hm
    have c1 := List.any_eq_false.1 h1 x hm
    have c2 := List.any_eq_false.1 h2 x hm
    unfold bad at b
    simp at b c1 c2
    unfold hds
    have : x = 0 ∨ x = 3 := by omega
    rcases this with rfl | rfl <;> rfl
end Go.Proofs.Yteemcighpoomhaa
