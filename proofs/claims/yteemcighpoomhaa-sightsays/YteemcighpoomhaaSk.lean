/- What SightMore asks for besides: a cell that stands in a row is found there, a place of one's own field is changed. -/
import Derived.Test.YteemcighpoomhaaSo
import Derived.Test.YteemcighpoomhaaCl
namespace Go.Proofs.Yteemcighpoomhaa
open Go.RowKit
set_option linter.unusedVariables false

set_option maxRecDepth 20000 in
set_option maxHeartbeats 1000000 in
theorem Indexc_yes (p : Option Addr) (n c : Nat) (l : List Cel) (x y : Int) (w : World) (hn : l.length = n) (hm : n ≤ 4000000) (h1 : crow w p l) (h2 : (⟨x, y⟩ : Cel) ∈ l) :
    Calls Try.prog 25 #[.slice p n c, .agg #[.int .i64 x, .int .i64 y]] w fun e w' => (∃ r : Nat, e = .returned (.int .i64 (r : Int))) ∧ Below w.heap.size w w' := by
  obtain ⟨w0, hw0⟩ : ∃ w0, w.alloc (.cells #[.int .i64 x, .int .i64 y] 26) = w0 := ⟨_, rfl⟩
  have hb0 : Below w.heap.size w w0 := by rw [← hw0]; exact alloc_below _ _
  have H1 : Hid (crow w0 p l) := crow_below h1 hb0
  have HB0 : Hid (Below w.heap.size w w0) := hb0
  have HN : Hid (l.length = n) := hn
  have HZ : Hid (∃ k, ∃ h : k < l.length, l[k] = ⟨x, y⟩) := List.getElem_of_mem h2
  obtain ⟨F, hF⟩ : ∃ F, w.heap.size = F := ⟨_, rfl⟩
  have HC : Hid (w0.cell? ⟨F, 0, none⟩ = some (.int .i64 x) ∧ w0.cell? ⟨F, 1, none⟩ = some (.int .i64 y)) := by rw [← hw0, ← hF]; constructor <;> simp [go_sem]
  clear h1 h2 hn hb0
  go_enter Try.func25, Try.ntmps25
  go_wp2_with fail
  clear hw0
  go_loopw [8] (fun i wr => ∃ k : Nat, i = .int .i64 k ∧ k ≤ n ∧ Hid (∀ j (h : j < l.length), j < k → l[j] ≠ ⟨x, y⟩) ∧ ∃ m, wr = w0.drewN m) (fun i _ => n - (intOf i).toNat)
  case atStart => exact ⟨0, rfl, by omega, fun j _ h => by omega, 0, rfl⟩
  case round =>
    obtain ⟨k, rfl, hk, HJ, m, rfl⟩ := hrel
    by_cases hlt : k < n
    · have hkl : k < l.length := by rw [HN.out]; exact hlt
      obtain ⟨a, rfl, ha, hay⟩ := crow_at H1.out (j := k) hkl
      obtain ⟨X, hX⟩ : ∃ X, l[k].x = X := ⟨_, rfl⟩
      obtain ⟨Y, hY⟩ : ∃ Y, l[k].y = Y := ⟨_, rfl⟩
      have HXY : Hid (l[k] = ⟨x, y⟩ → x = X ∧ y = Y) := fun e => by rw [e] at hX hY; exact ⟨hX, hY⟩
      rw [hX] at ha
      rw [hY] at hay
      clear hX hY
      have ha' : (w0.drewN m).cell? (a.add (k * 2)) = some (.int .i64 X) := ha
      have hay' : (w0.drewN m).cell? ⟨(a.add (k * 2)).block, (a.add (k * 2)).off + 1, none⟩ = some (.int .i64 Y) := cell_two hay
      have c0 : (w0.drewN m).cell? ⟨F, 0, none⟩ = some (.int .i64 x) := HC.out.1
      have c1 : (w0.drewN m).cell? ⟨F, 1, none⟩ = some (.int .i64 y) := HC.out.2
      have HQ : Hid (∀ n, ∃ q, (w0.drewN m).drewN n = w0.drewN q) := fun n => ⟨_, World.drewN_drewN _ _ _⟩
      have HBm : Hid (Below w.heap.size w (w0.drewN m)) := below_drewN HB0.out m
      clear ha hay
      generalize w0.drewN m = w5 at ha' hay' c0 c1 HQ HBm ⊢
      have l1 : (k : Int) < n := by omega
      have l2 : (0 : Int) ≤ k := by omega
      have HNX : Hid (¬ (x = X ∧ y = Y) → ∀ j (h : j < l.length), j < k + 1 → l[j] ≠ ⟨x, y⟩) := fun hne j h hj => by
        by_cases e : j = k
        · subst e; exact fun e2 => hne (HXY.out e2)
        · exact HJ.out j h (by omega)
      by_cases hx : x = X
      · subst hx
        by_cases hy : y = Y
        · subst hy
          have e1 : (x == x) = true := by simp
          have e2 : (y == y) = true := by simp
          go_wp2_with fail
          go_quiet (fail)
          go_wp2_with fail
          go_ret
          exact ⟨⟨k, rfl⟩, by first | exact below_drewN HBm.out _ | (rw [← hF]; exact below_drewN HBm.out _)⟩
        · have d1 : (y == Y) = false := by simp [hy]
          have HN2 : Hid (∀ j (h : j < l.length), j < k + 1 → l[j] ≠ ⟨x, y⟩) := HNX.out (fun h => hy h.2)
          go_wp2_with fail
          go_quiet (fail)
          go_wp2_with fail
          go_roundw
          case rel => exact ⟨k + 1, by go_num, by omega, HN2, HQ.out _⟩
          case measure => simp [intOf]; omega
      · have d1 : (x == X) = false := by simp [hx]
        have HN2 : Hid (∀ j (h : j < l.length), j < k + 1 → l[j] ≠ ⟨x, y⟩) := HNX.out (fun h => hx h.1)
        go_wp2_with fail
        go_quiet (fail)
        go_wp2_with fail
        go_roundw
        case rel => exact ⟨k + 1, by go_num, by omega, HN2, HQ.out _⟩
        case measure => simp [intOf]; omega
    · exfalso
      obtain ⟨j, hj, e⟩ := HZ.out
      exact HJ.out j hj (by have := HN.out; omega) e
set_option maxRecDepth 20000 in
theorem Containsc_yes (p : Option Addr) (n c : Nat) (l : List Cel) (x y : Int) (w : World) (hn : l.length = n) (hm : n ≤ 4000000) (h1 : crow w p l) (h2 : (⟨x, y⟩ : Cel) ∈ l) :
    Calls Try.prog 15 #[.slice p n c, .agg #[.int .i64 x, .int .i64 y]] w fun e w' => e = .returned (.bool true) ∧ Below w.heap.size w w' := by
  have H1 : Hid (crow w p l) := h1
  have HN : Hid (l.length = n) := hn
  have HZ : Hid ((⟨x, y⟩ : Cel) ∈ l) := h2
  clear h1 h2 hn
  go_enter Try.func15, Try.ntmps15
  go_wp2_with fail
  refine (Indexc_yes p n c l x y _ HN.out hm (crow_below H1.out (alloc_below _ _)) HZ.out).mono ?_
  rintro e w1 ⟨⟨r, rfl⟩, hb1⟩
  have HB : Hid (Below w.heap.size w w1) := below_step (alloc_below w _) (by simp) hb1
  have hr : (0 : Int) ≤ r := by omega
  clear hb1
  go_wp2_with fail
  go_ret
  exact ⟨rfl, HB.out⟩

/-- What Seen has told, if it has told no error. -/
def seny (A B : Int) (l : List Int) (X Y r : Int) (w w' : World) (v : Value) : Prop :=
  ∃ W H x y k : Nat, A = W ∧ B = H ∧ X = x ∧ Y = y ∧ r = k ∧ x < W ∧ y < H ∧ k ≤ 12 ∧ okf W H l ∧ minec w.heap.size w' v (sn W l x y k (W * H))
theorem Seen_w (A B : Int) (p : Option Addr) (n c : Nat) (l : List Int) (X Y r : Int) (w : World) (hr : row vi w p l) (hn : l.length = n) (hm : n ≤ 9223372036854775807) :
    Calls Try.prog 7 #[.agg #[.int .i64 A, .int .i64 B, .slice p n c], .agg #[.int .i64 X, .int .i64 Y], .int .i64 r] w fun e w' => (∃ v E, e = .returned (.tuple #[v, .int .i64 E]) ∧ Hid (E = 0 → seny A B l X Y r w w' v)) ∧ Below w.heap.size w w' := by
  refine (Seen_any A B p n c l X Y r w hr hn hm).mono ?_
  rintro e w' ⟨(⟨E, hE, _, rfl⟩ | ⟨W, H, x, y, k, v, h1, h2, h3, h4, h5, h6, h7, h8, h9, rfl, hv⟩), hb⟩
  · exact ⟨⟨_, _, rfl, fun h => absurd h hE⟩, hb⟩
  · exact ⟨⟨_, _, rfl, fun _ => ⟨W, H, x, y, k, h1, h2, h3, h4, h5, h6, h7, h8, h9, hv⟩⟩, hb⟩
/-- What is told is seen, and is told too by who looks farther, and where places have become plain. -/
theorem sn_in {W H : Nat} {l m : List Int} {X Y r s : Int} {c : Cel} (hW : 1 ≤ W) (hr : r ≤ s) (hm : ∀ i, m.getD i 0 = l.getD i 0 ∨ m.getD i 0 = 0) (h : c ∈ sn W l X Y r (W * H)) :
    c ∈ sn W m X Y s (W * H) ∧ ∃ x y : Nat, c = ⟨x, y⟩ ∧ x < W ∧ y < H ∧ se W l X Y x y = true := by
  obtain ⟨i, hi, hp, rfl⟩ := sn_mem.1 h
  obtain ⟨h1, h2, h3⟩ := ix_form hW hi
  unfold sp spc at hp
  simp only [Bool.and_eq_true, decide_eq_true_eq] at hp
  refine ⟨sn_mem.2 ⟨i, hi, ?_, rfl⟩, i % W, i / W, rfl, h1, h2, hp.2⟩
  unfold sp spc
  rw [se_more hm hp.2, decide_eq_true (by omega)]; rfl
theorem sn_self {W H x y k : Nat} {l : List Int} (hx : x < W) (hy : y < H) : (⟨x, y⟩ : Cel) ∈ sn W l x y k (W * H) := by
  refine sn_mem.2 ⟨y * W + x, ix_lt hx hy, ?_, by rw [ix_mod hx, ix_div hx]⟩
  have h0 : kg (x : Int) y x y = 0 := by
    have := kg_cases (x : Int) y x y
    have : ds (x : Int) x = 0 := by unfold ds; omega
    have : ds (y : Int) y = 0 := by unfold ds; omega
    omega
  rw [sp_at hx]
  unfold spc
  rw [se_near (by omega), decide_eq_true (by omega)]; rfl
theorem set_plain {l : List Int} {J : Nat} (i : Nat) : (l.set J 0).getD i 0 = l.getD i 0 ∨ (l.set J 0).getD i 0 = 0 := by
  rw [List.getD_eq_getElem?_getD, List.getD_eq_getElem?_getD, List.getElem?_set]
  by_cases h : J = i
  · rw [if_pos h]; right; split <;> rfl
  · rw [if_neg h]; left; rfl
theorem okf_set {W H : Nat} {l : List Int} {J : Nat} (h : okf W H l) : okf W H (l.set J 0) := by
  obtain ⟨h1, h2, h3, h4⟩ := h
  refine ⟨h1, h2, by rw [List.length_set]; exact h3, ?_⟩
  rw [List.any_eq_false]
  intro x hx
  rcases List.mem_or_eq_of_mem_set hx with h | h
  · exact List.any_eq_false.1 h4 x h
  · subst h; decide
/-- A row of numbers of one's own: where it lies, that it may be written, what a store leaves. -/
theorem mine_form {B n : Nat} {w : World} {v : Value} {l : List Int} (h : mine 3 vi B w v l) (hl : l.length = n) (hn : 1 ≤ n) : ∃ g cap, v = .slice (some ⟨g, 0, none⟩) n cap ∧ B ≤ g ∧ g < w.heap.size ∧ row vi w (some ⟨g, 0, none⟩) l ∧ n ≤ cap := by
  subst hl
  obtain ⟨p, c, e, hr, hc, _⟩ := mine_full h
  rcases h.2 with ⟨h0, h1⟩ | ⟨g, cap, cur, rfl, hB, hblk, hr2⟩
  · omega
  · cases e
    exact ⟨g, _, rfl, hB, (World.ownsRow.lt h g rfl).2, hr, hc⟩
theorem mine_put {B n g cap : Nat} {w : World} {l : List Int} (h : mine 3 vi B w (.slice (some ⟨g, 0, none⟩) n cap) l) (hl : l.length = n) (J : Nat) (x : Int) : mine 3 vi B (w.setCell ⟨g, J, none⟩ (.int .i64 x)) (.slice (some ⟨g, 0, none⟩) n cap) (l.set J x) := by
  subst hl
  have := (World.ownsRow.stored h J (.int .i64 x)).1
  unfold mine
  rw [List.length_set, List.map_set]
  exact this
theorem mine_free {B n g cap : Nat} {w : World} {l : List Int} (h : mine 3 vi B w (.slice (some ⟨g, 0, none⟩) n cap) l) (hl : l.length = n) (J : Nat) : w.frozen? ⟨g, J, none⟩ = false := by
  subst hl; exact World.ownsRow.frozenAt h J
end Go.Proofs.Yteemcighpoomhaa
