/- What march.next returns: the cell behind one's own on the way, or none. -/
import Derived.Test.YtnbbfnlfcncgnaaPC
import Derived.Test.YtnbbfnlfcncgnaaGb
import Derived.Laws.ResultCell
namespace Go.Proofs.Ytnbbfnlfcncgnaa
open Go.RowKit
set_option linter.unusedVariables false

/-- The cell behind a on the way to b, or none. -/
def nxs (A B : Int) (l : List Int) (a b : Cel) (o : Option Cel) : Prop :=
  (∃ E, E ≠ 0 ∧ rerr A B l a b E ∧ o = none) ∨ (∃ (W H : Nat) (far : List Int) (R : List Cel), good A B l a b W H far ∧ 0 ≤ pa far (ixc W b) ∧ Trl W H l far b R ∧ o = R.reverse[1]?)
theorem rerr_good {A B : Int} {l : List Int} {a b : Cel} {E : Int} {W H : Nat} {far : List Int} (hr : rerr A B l a b E) (hg : good A B l a b W H far) (h0 : 0 ≤ pa far (ixc W b)) : False := by
  have hg0 := hg
  obtain ⟨rfl, rfl, hok, hia, hib, ra, rb, hs⟩ := hg
  rcases hr with ⟨h1, _⟩ | ⟨_, W', H', far', h2, h3⟩
  · exact h1 (per_ok hok hia hib ra rb)
  · obtain ⟨rfl, rfl, rfl⟩ := good_one hg0 h2
    omega
theorem nxs_one {A B : Int} {l : List Int} {a b : Cel} {o o' : Option Cel} (h : nxs A B l a b o) (h' : nxs A B l a b o') : o = o' := by
  rcases h with ⟨E, h1, h2, rfl⟩ | ⟨W, H, far, R, h1, h2, h3, rfl⟩ <;> rcases h' with ⟨E', k1, k2, rfl⟩ | ⟨W', H', far', R', k1, k2, k3, rfl⟩
  · rfl
  · exact (rerr_good h2 k1 k2).elim
  · exact (rerr_good k2 h1 h2).elim
  · obtain ⟨rfl, rfl, rfl⟩ := good_one h1 k1
    rw [trl_one h3 k3]
theorem celv_some (c : Cel) : celv (some c) = .agg #[.int .i64 c.x, .int .i64 c.y] := rfl
set_option maxRecDepth 20000 in
set_option maxHeartbeats 2000000 in
theorem mnext_any (A B : Int) (p : Option Addr) (n c : Nat) (l : List Int) (ax ay bx by_ : Int) (w : World) (hr : row vi w p l) (hn : l.length = n) (hm : n ≤ 9223372036854775807) :
    Calls Try.prog 39 #[.agg #[.int .i64 A, .int .i64 B, .slice p n c], .agg #[.int .i64 ax, .int .i64 ay], .agg #[.int .i64 bx, .int .i64 by_]] w fun e w' => (∃ o, e = .returned (.tuple #[celv o, .bool o.isSome]) ∧ nxs A B l ⟨ax, ay⟩ ⟨bx, by_⟩ o) ∧ Below w.heap.size w w' := by
  obtain ⟨F, hF⟩ : ∃ F, w.heap.size = F := ⟨_, rfl⟩
  obtain ⟨w0, hw0⟩ : ∃ w0, ((w.alloc (.cells #[.int .i64 A, .int .i64 B, .slice p n c] 24)).alloc (.cells #[.int .i64 ax, .int .i64 ay] 31)).alloc (.cells #[.int .i64 bx, .int .i64 by_] 31) = w0 := ⟨_, rfl⟩
  have hs0 : w0.heap.size = F + 3 := by rw [← hw0, ← hF]; simp
  obtain ⟨w1, hw1⟩ : ∃ w1, w0.alloc (.cells #[.int .i64 0, .int .i64 0] 31) = w1 := ⟨_, rfl⟩
  have hB1 : Below w0.heap.size w0 w1 := by rw [← hw1]; exact alloc_below _ _
  have hB0 : Below w.heap.size w w0 := by rw [← hw0]; exact ((alloc_below w _).alloc (by simp) _).alloc (by simp; omega) _
  have HB1 : Hid (Below w.heap.size w w1) := below_step hB0 hB0.size hB1
  obtain ⟨z0, z1, z2, z3, z4, z5, z6⟩ := pboxf hF hw0 hB1
  have hR1 : w1.heap[F + 3]? = some (.cells #[.int .i64 0, .int .i64 0] 31) := by rw [← hw1, ← hs0]; exact World.alloc_heap_new w0 _
  have HR1 : Hid (w1.heap[F + 3]? = some (.cells #[.int .i64 0, .int .i64 0] 31)) := hR1
  have HR : Hid (row vi w1 p l) := row_below hr HB1.out
  have HN : Hid (l.length = n) := hn
  have HF : Hid (w.heap.size = F) := hF
  have HS1 : Hid (F + 3 < w1.heap.size) := by unfold Hid; rw [← hw1, World.size_alloc, hs0]; omega
  clear hr hn hB0 hB1 hR1
  go_enter Try.func39, Try.ntmps39
  go_wp2_with fail
  refine (pFind_any A B p n c l ax ay bx by_ w1 HR.out HN.out hm).mono ?_
  rintro e w2 ⟨⟨v, D, E, rfl, hcase⟩, hb2⟩
  clear z0 z1 z2 z3 z4 z5 z6 hw0 hw1 hs0
  have hR2 : w2.heap[F + 3]? = some (.cells #[.int .i64 0, .int .i64 0] 31) := (hb2.block _ HS1.out).trans HR1.out
  obtain ⟨r0, r1, r2, r3⟩ := free2 hR2
  have HR2 : Hid (w2.heap[F + 3]? = some (.cells #[.int .i64 0, .int .i64 0] 31)) := hR2
  have HB2 : Hid (Below w.heap.size w w2) := below_step HB1.out HB1.out.size hb2
  clear hb2 hR2
  rcases hcase with ⟨hE, hrr, rfl, rfl⟩ | ⟨rfl, W, H, far, R, g, cap, hgd, hpos, rfl, hT, hRl, rfl, hmc⟩
  · have HX : Hid (nxs A B l ⟨ax, ay⟩ ⟨bx, by_⟩ none) := .inl ⟨E, hE, hrr, rfl⟩
    have d1 : (E == 0) = false := by simp [hE]
    clear hrr
    go_wp2_with fail
    obtain ⟨V, hV⟩ : ∃ V, (w2.setCell ⟨F + 3, 0, none⟩ (.int .i64 0)).setCell ⟨F + 3, 1, none⟩ (.int .i64 0) = V := ⟨_, rfl⟩
    rw [hV]
    have k2 := set2 HR2.out V hV.symm
    refine ⟨by simp, .tuple #[.agg #[.int .i64 0, .int .i64 0], .bool false], ?_, ⟨none, rfl, HX.out⟩, ?_⟩
    · rw [results_cell_tmp rfl]
      simp [go_sem, k2.1, k2.2.1]
    · exact HB2.out.trans (k2.2.2 w.heap.size (by have := HF.out; omega))
  · obtain ⟨m, hm2⟩ : ∃ m, R.length = m := ⟨_, rfl⟩
    have hmp := trl_pos hT
    rw [hm2] at hRl hmp
    by_cases h1 : m = 1
    · subst h1
      have HX : Hid (nxs A B l ⟨ax, ay⟩ ⟨bx, by_⟩ none) := .inr ⟨W, H, far, R, hgd, hpos, hT, by rw [List.getElem?_eq_none (by simp; omega)]⟩
      rw [hm2] at hmc ⊢
      clear hgd hpos hT hmc
      go_wp2_with fail
      obtain ⟨V, hV⟩ : ∃ V, (w2.setCell ⟨F + 3, 0, none⟩ (.int .i64 0)).setCell ⟨F + 3, 1, none⟩ (.int .i64 0) = V := ⟨_, rfl⟩
      rw [hV]
      have k2 := set2 HR2.out V hV.symm
      refine ⟨by simp, .tuple #[.agg #[.int .i64 0, .int .i64 0], .bool false], ?_, ⟨none, rfl, HX.out⟩, ?_⟩
      · rw [results_cell_tmp rfl]
        simp [go_sem, k2.1, k2.2.1]
      · exact HB2.out.trans (k2.2.2 w.heap.size (by have := HF.out; omega))
    · have hl1 : 1 < R.reverse.length := by simp; omega
      obtain ⟨⟨x, y⟩, hxy⟩ : ∃ q, R.reverse[1]? = some q := ⟨_, List.getElem?_eq_getElem hl1⟩
      have HX : Hid (nxs A B l ⟨ax, ay⟩ ⟨bx, by_⟩ (some ⟨x, y⟩)) := .inr ⟨W, H, far, R, hgd, hpos, hT, hxy.symm⟩
      rw [hm2] at hmc ⊢
      obtain ⟨q0, q1⟩ := minec_cell hmc (by simp; omega) (k := 1) (by omega) hxy
      simp only [Nat.one_mul] at q0 q1
      have l1 : ¬ ((m : Int) < 2) := by omega
      have l2 : (1 : Int) < m := by omega
      have l3 : decide ((m : Int) < 2) = false := by simp; omega
      clear hgd hpos hT hmc hxy hl1
      go_wp2_with fail
      obtain ⟨V, hV⟩ : ∃ V, (w2.setCell ⟨F + 3, 0, none⟩ (.int .i64 x)).setCell ⟨F + 3, 1, none⟩ (.int .i64 y) = V := ⟨_, rfl⟩
      rw [hV]
      have k2 := set2 HR2.out V hV.symm
      refine ⟨by simp, .tuple #[.agg #[.int .i64 x, .int .i64 y], .bool true], ?_, ⟨some ⟨x, y⟩, rfl, HX.out⟩, ?_⟩
      · rw [results_cell_tmp rfl]
        simp [go_sem, k2.1, k2.2.1]
      · exact HB2.out.trans (k2.2.2 w.heap.size (by have := HF.out; omega))
end Go.Proofs.Ytnbbfnlfcncgnaa
