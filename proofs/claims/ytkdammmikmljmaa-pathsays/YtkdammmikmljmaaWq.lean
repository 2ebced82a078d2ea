/- The document's own way on lists, and how it stands in memory. -/
import Derived.Test.YtkdammmikmljmaaWo
import Derived.Test.YtkdammmikmljmaaPt
import Derived.Test.YtkdammmikmljmaaFs
namespace Go.Proofs.Ytkdammmikmljmaa
open Go.RowKit
set_option linter.unusedVariables false

theorem first_filter {α : Type} (p q : α → Bool) : ∀ (xs : List α) (k : Nat) (d : α), xs[k]? = some d → p d = true → (∀ i e, i < k → xs[i]? = some e → p e = true → q e = false) → ∃ J : Nat, (xs.filter p)[J]? = some d ∧ ∀ i e, i < J → (xs.filter p)[i]? = some e → q e = false := by
  intro xs
  induction xs with
  | nil => intro k d h; simp at h
  | cons x xs ih =>
    intro k d hk hp hq
    cases k with
    | zero =>
      simp at hk
      subst hk
      exact ⟨0, by simp [hp], fun i e hi => by omega⟩
    | succ k =>
      obtain ⟨J, h1, h2⟩ := ih k d (by simpa using hk) hp (fun i e hi he hpe => hq (i + 1) e (by omega) (by simpa using he) hpe)
      cases hx : p x with
      | false => exact ⟨J, by rw [List.filter_cons_of_neg (by simp [hx])]; exact h1, by rw [List.filter_cons_of_neg (by simp [hx])]; exact h2⟩
      | true =>
        rw [List.filter_cons_of_pos hx]
        refine ⟨J + 1, by simpa using h1, fun i e hi he => ?_⟩
        cases i with
        | zero =>
          simp at he
          subst he
          exact hq 0 _ (by omega) (by simp) hx
        | succ i => exact h2 i e (by omega) (by simpa using he)
/-- Whether from e it is come to so cheaply. -/
def wq (W : Nat) (far : List Int) (K D : Int) (e : Cel) : Bool := decide (0 ≤ pa far (ixc W e)) && decide (pa far (ixc W e) + K = D)
theorem bsd_first {W H X Y : Nat} {l far : List Int} {S : Nat → Prop} {d : Cel} (hs : Sol W H l S far) (hX : X < W) (hY : Y < H) (h0 : 0 < pa far (ixc W ⟨X, Y⟩)) (h : ahd W H l far ⟨X, Y⟩ d) :
    ∃ J : Nat, (bsd W H X Y 4)[J]? = some d ∧ wq W far (kc (pa l (ixc W ⟨X, Y⟩))) (pa far (ixc W ⟨X, Y⟩)) d = true ∧ ∀ i e, i < J → (bsd W H X Y 4)[i]? = some e → wq W far (kc (pa l (ixc W ⟨X, Y⟩))) (pa far (ixc W ⟨X, Y⟩)) e = false := by
  have hin : inf W H ⟨X, Y⟩ := ⟨X, Y, rfl, hX, hY⟩
  obtain ⟨f1, f2, f3, f4⟩ := ahd_far hs hin h0 h
  obtain ⟨k, hk, hlo, hit_, rfl⟩ := h
  have e4 : bsd W H X Y 4 = (four X Y).filter fun c => inb W H c.x c.y := rfl
  have h4 : ∀ i, i < 4 → (four (X : Int) (Y : Int))[i]? = some (bc ⟨X, Y⟩ i) := fun i hi => four_at _ _ hi
  obtain ⟨J, j1, j2⟩ := first_filter (fun c => inb W H c.x c.y) (wq W far (kc (pa l (ixc W ⟨X, Y⟩))) (pa far (ixc W ⟨X, Y⟩))) (four X Y) k (bc ⟨X, Y⟩ k) (h4 k hk) (inf_inb.2 f1) (by
    intro i e hi he hpe
    rw [h4 i (by omega)] at he
    obtain rfl := Option.some.inj he
    have := hlo i hi
    unfold hit at this
    rw [hpe] at this
    simp at this
    unfold wq
    rw [Bool.and_eq_false_iff]
    right
    simp
    omega)
  refine ⟨J, by rw [e4]; exact j1, ?_, by rw [e4]; exact j2⟩
  unfold wq
  simp
  omega
/-- How the document's own answer stands behind j + 1 cells: the way v, the last cell in box C. -/
def fst5 (w2 wr : World) (R : List Cel) (v : Value) (C j : Nat) : Prop :=
  Below w2.heap.size w2 wr ∧ minec w2.heap.size wr v (R.take (j + 1)) ∧ (∃ x y, wr.heap[C]? = some (.cells #[.int .i64 x, .int .i64 y] 26) ∧ R[j]? = some ⟨x, y⟩) ∧ w2.heap.size ≤ C ∧ v.ownBlock ≠ some C
theorem hp_lt {w : World} {C : Nat} {o : Obj} (h : w.heap[C]? = some o) : C < w.heap.size := by
  rcases Nat.lt_or_ge C w.heap.size with hlt | hge
  · exact hlt
  · rw [Array.getElem?_eq_none hge] at h; cases h
theorem fst5_next {w2 wr w4 w5 w6 : World} {R : List Cel} {v : Value} {C C6 j : Nat} {dx dy : Int} (h : fst5 w2 wr R v C j) (hj : j + 1 < R.length) (hR : R.length ≤ 4000) (hb4 : Below wr.heap.size wr w4)
    (hw5 : (w4.setCell ⟨C, 0, none⟩ (.int .i64 dx)).setCell ⟨C, 1, none⟩ (.int .i64 dy) = w5) (hC6 : w5.heap.size = C6) (hw6 : w5.alloc (.cells #[.int .i64 dx, .int .i64 dy] 26) = w6) (hd : R[j + 1]? = some ⟨dx, dy⟩) :
    ∃ g7 cap7 w7, (Builtin.append_ #[27, 27] 27 #[v, .slice (some ⟨w6.heap.size, 0, none⟩) 1 1]).run Try.prog (w6.alloc (.cells #[.int .i64 dx, .int .i64 dy] 26)) = .ok (.slice (some ⟨g7, 0, none⟩) (j + 1 + 1) cap7) w7 ∧ fst5 w2 w7 R (.slice (some ⟨g7, 0, none⟩) (j + 1 + 1) cap7) C6 (j + 1) := by
  obtain ⟨h1, h2, ⟨x, y, h3, h4⟩, h5, h6⟩ := h
  have hC := hp_lt h3
  have hs4 := hb4.size
  have s1 := h1.size
  have E5 : Ex (fun k => k = C) w4 w5 := by
    rw [← hw5]
    have E1 := fun (V : World) (p : Addr) (u : Value) (hp : p.block = C) => Ex.set (S := fun k => k = C) V p hp u
    exact (E1 w4 _ _ rfl).trans (E1 _ _ _ rfl) (fun _ _ e => e)
  have hs5 := E5.size
  have hv := World.ownsRow.lt h2
  have hm5 : minec w2.heap.size w5 v (R.take (j + 1)) := minec_kept (minec_below h2 hb4) E5 (fun g hg e => h6 (by rw [hg]; exact congrArg some e))
  have hb6 : Below w5.heap.size w5 w6 := by rw [← hw6]; exact alloc_below _ _
  have hs6 : w6.heap.size = w5.heap.size + 1 := by rw [← hw6]; simp
  have hb7 := alloc_below w6 (.cells #[.int .i64 dx, .int .i64 dy] 26)
  have hB5 : Below w2.heap.size w2 w5 := (h1.trans (hb4.mono s1)).trans (E5.below (by omega) (fun k hk e => by omega))
  have hB6 : Below w2.heap.size w2 w6 := hB5.trans (hb6.mono hB5.size)
  obtain ⟨v', w7, hrun, hm, hg⟩ := run_more (d := 1) (m := 1) 27 (minec_below (minec_below hm5 hb6) hb7) (crow_one w6 dx dy) rfl (fun h => by cases h) (by rw [List.length_take]; omega) (by rw [World.size_alloc]; omega)
  have hm' : minec w2.heap.size w7 v' (R.take (j + 1 + 1)) := by
    have e : R.take (j + 1 + 1) = R.take (j + 1) ++ [⟨dx, dy⟩] := by rw [List.take_add_one, hd]; rfl
    rw [e]; exact hm
  have el : (R.take (j + 1 + 1)).length = j + 1 + 1 := by rw [List.length_take]; omega
  obtain ⟨g7, cap7, ev, hg7, hg7s, hc7⟩ := minec_some hm' (by omega)
  rw [el] at ev hc7
  have hC6l : w6.heap[C6]? = some (.cells #[.int .i64 dx, .int .i64 dy] 26) := by rw [← hw6, ← hC6]; exact World.alloc_heap_new w5 _
  have hC7 : w7.heap[C6]? = some (.cells #[.int .i64 dx, .int .i64 dy] 26) := by
    rw [hg.block C6 (by rw [World.size_alloc]; omega) (fun e => by have := (hv C6 e.symm).2; omega), hb7.block C6 (by omega)]; exact hC6l
  subst ev
  refine ⟨g7, cap7, w7, hrun, ?_, hm', ⟨dx, dy, hC7, hd⟩, by omega, ?_⟩
  · exact (hB6.alloc hB6.size _).grown hg (by rw [World.size_alloc]; have := hB6.size; omega) (fun q hq => (hv q hq).1)
  · intro e
    simp [Value.ownBlock] at e
    subst e
    rcases hm'.2 with ⟨h0, _⟩ | ⟨g', cap', cur, hv', _, hblk, hr1, hr2, hr3, _⟩
    · cases h0
    · simp only [Value.slice.injEq, Option.some.injEq, Addr.mk.injEq] at hv'
      obtain ⟨⟨rfl, _⟩, _, rfl⟩ := hv'
      rw [hC7] at hblk
      simp only [Option.some.injEq, Obj.cells.injEq] at hblk
      have := hblk.1
      rw [← this] at hr3
      simp at hr3
      omega
theorem IndexFuncc_at (p : Option Addr) (n c : Nat) (k0 k1 k2 : Value) (L : List Cel) (b : Nat → Bool) (J : Nat) (w : World) (hn : L.length = n) (hm : n ≤ 4000000) (h1 : crow w p L) (hJ : J < n) (hb : b J = true) (hbi : ∀ i, i < J → b i = false)
    (hf : Hid (∀ i x y, L[i]? = some ⟨x, y⟩ → ∀ V, Below w.heap.size w V → Calls Try.prog 27 #[.agg #[.int .i64 x, .int .i64 y], k0, k1, k2] V fun e w' => e = .returned (.bool (b i)) ∧ Below V.heap.size V w')) :
    Calls Try.prog 26 #[.slice p n c, .func (.func 27) #[] #[k0, k1, k2]] w fun e w' => e = .returned (.int .i64 (J : Int)) ∧ Below w.heap.size w w' :=
  IndexFuncc_any p n c 0 #[k0, k1, k2] L b J w hn hm h1 hJ hb hbi hf
theorem per_ck {A B : Int} {l : List Int} {a b : Cel} (h : ck A B l ≠ 0) : per A B l a b = ck A B l := by
  have : ate A B l a = ck A B l := by unfold ate; rw [if_pos h]
  unfold per; rw [this, if_pos h]
theorem ate_out {W H : Nat} {l : List Int} {c : Cel} (hok : okf W H l) (h : inb W H c.x c.y = false) : ate W H l c = 7 := by
  unfold ate
  rw [if_neg (by simp [ck_ok hok.1 hok.2.1 hok.2.2.1 hok.2.2.2])]
  simp [h]
theorem per_out {W H : Nat} {l : List Int} {a b : Cel} (hok : okf W H l) (h : inb W H a.x a.y = false ∨ (inf W H a ∧ inb W H b.x b.y = false)) : per W H l a b = 7 := by
  unfold per
  rcases h with h | ⟨h1, h2⟩
  · rw [ate_out hok h]; rfl
  · rw [(ate_ok hok h1).1, ate_out hok h2]; rfl
theorem per_rock {W H : Nat} {l : List Int} {a b : Cel} (hok : okf W H l) (ha : inf W H a) (hb : inf W H b) (h : pa l (ixc W a) = 1 ∨ pa l (ixc W b) = 1) : per W H l a b = 9 := by
  unfold per
  rw [(ate_ok hok ha).1, (ate_ok hok hb).1, (ate_ok hok ha).2, (ate_ok hok hb).2]
  rw [if_neg (by simp), if_neg (by simp), if_pos h]
end Go.Proofs.Ytkdammmikmljmaa
