/- What slices.Equal and strings.HasPrefix return; what the laws use of PutAll and GetAll. -/
import Derived.Test.YtdciebhnnggcoaaAll
import Derived.Test.YtdciebhnnggcoaaLives
namespace Go.Proofs.Ytdciebhnnggcoaa
open Go.RowKit
set_option linter.unusedVariables false

set_option maxRecDepth 20000 in
set_option maxHeartbeats 1000000 in
theorem Equal_yes (p q : Option Addr) (n c d : Nat) (l : List Int) (w : World) (hn : l.length = n) (hm : n ≤ 9223372036854775807) (h1 : row vi w p l) (h2 : row vi w q l) :
    Calls Try.prog 19 #[.slice p n c, .slice q n d] w fun e w' => e = .returned (.bool true) ∧ ∃ m, w' = w.drewN m := by
  have H1 : Hid (row vi w p l) := h1
  have H2 : Hid (row vi w q l) := h2
  have HN : Hid (l.length = n) := hn
  clear h1 h2 hn
  go_enter Try.func19, Try.ntmps19
  go_wp2_with fail
  go_loopw [13] (fun i wr => ∃ k : Nat, i = .int .i64 k ∧ k ≤ n ∧ ∃ m, wr = w.drewN m) (fun i _ => n - (intOf i).toNat)
  case atStart => exact ⟨0, rfl, by omega, 0, rfl⟩
  case round =>
    obtain ⟨k, rfl, hk, m, rfl⟩ := hrel
    by_cases hlt : k < n
    · obtain ⟨a, rfl, ha⟩ := row_at H1.out (j := k) (by rw [HN.out]; exact hlt)
      obtain ⟨b, rfl, hb⟩ := row_at H2.out (j := k) (by rw [HN.out]; exact hlt)
      obtain ⟨X, hX⟩ : ∃ X, l[k]'(by rw [HN.out]; exact hlt) = X := ⟨_, rfl⟩
      rw [hX] at ha hb
      clear hX
      have ha' : (w.drewN m).cell? (a.add k) = some (.int .i64 X) := ha
      have hb' : (w.drewN m).cell? (b.add k) = some (.int .i64 X) := hb
      have HQ : Hid (∀ n, ∃ q, (w.drewN m).drewN n = w.drewN q) := fun n => ⟨_, World.drewN_drewN _ _ _⟩
      clear ha hb
      generalize w.drewN m = w5 at ha' hb' HQ ⊢
      have l1 : (k : Int) < n := by omega
      have l2 : (0 : Int) ≤ k := by omega
      go_wp2_with fail
      go_quiet (fail)
      go_wp2_with fail
      go_roundw
      case rel => exact ⟨k + 1, by go_num, by omega, HQ.out _⟩
      case measure => simp [intOf]; omega
    · go_wp2_with fail
      go_ret
      exact ⟨rfl, m, rfl⟩
theorem Equal_mine {B : Nat} {w : World} {v : Value} {l : List Int} (h1 : mine 3 vi B w v l) (q : Option Addr) (n d : Nat) (hn : l.length = n) (hl : n ≤ 1000000) (h2 : row vi w q l) :
    Calls Try.prog 19 #[v, .slice q n d] w fun e w' => e = .returned (.bool true) ∧ ∃ m, w' = w.drewN m := by
  obtain ⟨p, c, rfl, hr, _⟩ := mine_full h1
  subst hn
  exact Equal_yes p q _ c d l w rfl (by omega) hr h2
theorem PutAll_mine {B : Nat} {w : World} {v : Value} {l : List Int} (h1 : mine 3 vi B w v l) (hf : ∀ x ∈ l, fits x) :
    Calls Try.prog 9 #[v] w fun e w' => e = .returned (.tuple #[.string (qa l), .int .i64 (qe l)]) ∧ Below w.heap.size w w' := by
  obtain ⟨p, c, rfl, hr, _⟩ := mine_full h1
  exact PutAll_any p l c w hr hf
theorem qa_size {l : List Int} (hf : ∀ x ∈ l, fits x) : (qa l).size ≤ 9223372036854775807 := by
  by_cases h : l.length ≤ 1000
  · rw [← bs_len, bs_qa h]
    unfold pa
    have h1 := pk_ten (n := l.length) (by omega)
    have h2 := fs_len l hf
    rw [List.length_append]; omega
  · unfold qa; rw [if_neg h]; decide
/-- What is put of a list is got as it was. -/
theorem got_put {l : List Int} (hf : ∀ x ∈ l, fits x) (h : l.length ≤ 1000) : ga (bs (qa l)) = (l, 0) := by rw [bs_qa h]; exact ga_pa hf h
/-- What is got was put so. -/
theorem put_got {s : ByteArray} (h : (ga (bs s)).2 = 0) : qa (ga (bs s)).1 = s ∧ qe (ga (bs s)).1 = 0 ∧ ∀ x ∈ (ga (bs s)).1, fits x := by
  obtain ⟨h1, h2, h3⟩ := ga_ok h
  exact ⟨of_bs (by rw [bs_qa h2]; exact h1), by unfold qe; rw [if_pos h2], h3⟩
theorem get_put {n : Nat} (hn : n < 18446744073709551616) (r : ByteArray) : gn (ps n ++ r) = n ∧ gr (ps n ++ r) = r ∧ ge (ps n ++ r) = 0 := by
  have e : bs (ps n ++ r) = pk n ++ bs r := by simp [bs, ps]
  have := gl_pk hn (bs r)
  refine ⟨?_, of_bs ?_, ?_⟩
  · unfold gn; rw [e, this]
  · rw [bs_gr, e, this]
  · unfold ge; rw [e, this]
theorem put_get {s : ByteArray} (h : ge s = 0) : ps (gn s) ++ gr s = s := by
  apply of_bs
  have e : bs (ps (gn s) ++ gr s) = pk (gn s) ++ (gl (bs s)).2.1 := by simp [bs, ps, gr]
  rw [e]; exact (gl_ok h).1
theorem no_front {n m : Nat} (hn : n < 18446744073709551616) (hm : m < 18446744073709551616) (h : n ≠ m) : ¬ ((ps m).size ≤ (ps n).size ∧ (ps n).extract 0 (ps m).size = ps m) := by
  rintro ⟨h1, h2⟩
  have e := congrArg bs h2
  rw [bs_head, bs_ps, bs_ps] at e
  apply h
  refine pk_apart hn hm (t := (pk n).drop (ps m).size) ?_
  rw [← e, List.take_append_drop]

set_option maxRecDepth 20000 in
theorem hasPrefix_no (s t : ByteArray) (w : World) (h : ¬ (t.size ≤ s.size ∧ s.extract 0 t.size = t)) : Calls Try.prog 26 #[.string s, .string t] w fun e w' => e = .returned (.bool false) ∧ w' = w := by
  by_cases h1 : t.size ≤ s.size
  · have hne : ((s.extract 0 t.size).toList == t.toList) = false := str_ne fun e => h ⟨h1, e⟩
    clear h
    go_enter Try.func26, Try.ntmps26
    go_wp2_with fail
    go_ret
    exact ⟨by simp, rfl⟩
  · clear h
    go_enter Try.func26, Try.ntmps26
    go_wp2_with fail
    go_ret
    exact ⟨rfl, rfl⟩
set_option maxRecDepth 20000 in
theorem HasPrefix_no (s t : ByteArray) (w : World) (h : ¬ (t.size ≤ s.size ∧ s.extract 0 t.size = t)) : Calls Try.prog 21 #[.string s, .string t] w fun e w' => e = .returned (.bool false) ∧ w' = w := by
  have H : Hid (Calls Try.prog 26 #[.string s, .string t] w fun e w' => e = .returned (.bool false) ∧ w' = w) := hasPrefix_no s t w h
  clear h
  go_enter Try.func21, Try.ntmps21
  go_wp2_with fail
  refine H.out.mono ?_
  rintro e w' ⟨rfl, hw⟩; subst w'
  go_wp2_with fail
  go_ret
  exact ⟨rfl, rfl⟩
end Go.Proofs.Ytdciebhnnggcoaa
