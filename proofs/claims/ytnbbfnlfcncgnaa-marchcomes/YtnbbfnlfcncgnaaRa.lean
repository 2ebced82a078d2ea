/- march.Reach: its mathematics; what is told with an error. -/
import Derived.Test.YtnbbfnlfcncgnaaSn
import Derived.Test.YtnbbfnlfcncgnaaFi
namespace Go.Proofs.Ytnbbfnlfcncgnaa
open Go.RowKit
set_option linter.unusedVariables false

/-- From the troops L, going so many times at most: the troops then, and how often they moved. -/
inductive Rch (A B : Int) (l : List Int) (f : Int → Option Cel) (nt : Nat) : List Trp → Nat → List Trp → Nat → Prop
  | none {L : List Trp} : Rch A B l f nt L 0 L 0
  | stuck {n : Nat} {L L2 : List Trp} : Mst A B l f L nt L2 [] → Rch A B l f nt L (n + 1) L 0
  | step {n k : Nat} {L L2 L' : List Trp} {I : List Int} : Mst A B l f L nt L2 I → I ≠ [] → Rch A B l f nt L2 n L' k → Rch A B l f nt L (n + 1) L' (k + 1)
/-- So many goes that moved. -/
inductive Fwd (A B : Int) (l : List Int) (f : Int → Option Cel) (nt : Nat) (L0 : List Trp) : Nat → List Trp → Prop
  | zero : Fwd A B l f nt L0 0 L0
  | more {c : Nat} {L L2 : List Trp} {I : List Int} : Fwd A B l f nt L0 c L → Mst A B l f L nt L2 I → I ≠ [] → Fwd A B l f nt L0 (c + 1) L2
section
variable {A B : Int} {l : List Int} {f : Int → Option Cel} {nt : Nat}
theorem rch_one {L L1 L2 : List Trp} {n k j : Nat} (h : Rch A B l f nt L n L1 k) (h' : Rch A B l f nt L n L2 j) : L1 = L2 ∧ k = j := by
  induction h generalizing L2 j with
  | none => cases h'; exact ⟨rfl, rfl⟩
  | stuck h1 => cases h' with
    | stuck k1 => exact ⟨rfl, rfl⟩
    | step k1 k2 k3 => exact absurd (mst_one h1 k1).2.symm k2
  | step h1 h2 h3 ih => cases h' with
    | stuck k1 => exact absurd (mst_one h1 k1).2 h2
    | step k1 k2 k3 =>
      obtain ⟨rfl, rfl⟩ := mst_one h1 k1
      obtain ⟨rfl, rfl⟩ := ih k3
      exact ⟨rfl, rfl⟩
theorem rch_stay {L L1 L2 : List Trp} {n k : Nat} (hs : Mst A B l f L nt L2 []) (h : Rch A B l f nt L n L1 k) : L1 = L ∧ k = 0 := by
  cases h with
  | none => exact ⟨rfl, rfl⟩
  | stuck => exact ⟨rfl, rfl⟩
  | step k1 k2 k3 => exact absurd (mst_one hs k1).2.symm k2
/-- To go so far, and then farther, is to go all of it at once. -/
theorem rch_cut {L L1 L2 : List Trp} {n m k j : Nat} (h : Rch A B l f nt L n L1 k) (h' : Rch A B l f nt L1 m L2 j) : Rch A B l f nt L (n + m) L2 (k + j) := by
  induction h with
  | none => rw [Nat.zero_add, Nat.zero_add]; exact h'
  | @stuck n L L3 h1 =>
    obtain ⟨rfl, rfl⟩ := rch_stay h1 h'
    rw [show n + 1 + m = (n + m) + 1 by omega]
    exact .stuck h1
  | @step n k L L3 L' I h1 h2 h3 ih =>
    rw [show n + 1 + m = (n + m) + 1 by omega, show k + 1 + j = (k + j) + 1 by omega]
    exact .step h1 h2 (ih h')
theorem fwd_rch {L0 L L' : List Trp} {c n k : Nat} (h : Fwd A B l f nt L0 c L) (h' : Rch A B l f nt L n L' k) : Rch A B l f nt L0 (c + n) L' (c + k) := by
  induction h generalizing n k with
  | zero => rw [Nat.zero_add, Nat.zero_add]; exact h'
  | @more c L1 L2 I h1 h2 h3 ih =>
    have := ih (.step h2 h3 h')
    rw [show c + 1 + n = c + (n + 1) by omega, show c + 1 + k = c + (k + 1) by omega]
    exact this
theorem rch_le {L L1 : List Trp} {n k : Nat} (h : Rch A B l f nt L n L1 k) : k ≤ n := by
  induction h <;> omega
end
/-- Which error Reach is of. -/
def rer (s : Wld) (id n E : Int) : Prop := ∃ E0, wre s E0 ∧ ((E0 ≠ 0 ∧ E = E0) ∨ (E0 = 0 ∧ ¬ (0 ≤ n ∧ n ≤ 200) ∧ E = 1) ∨ (E0 = 0 ∧ (0 ≤ n ∧ n ≤ 200) ∧ (∀ t ∈ s.lt, t.i ≠ id) ∧ E = 7) ∨ (E0 = 0 ∧ (0 ≤ n ∧ n ≤ 200) ∧ (∃ t ∈ s.lt, t.i = id) ∧ E = 0))
theorem rer_total (s : Wld) (id n : Int) : ∃ E, rer s id n E := by
  obtain ⟨E0, h⟩ := wre_total s
  by_cases h0 : E0 = 0
  · by_cases h1 : 0 ≤ n ∧ n ≤ 200
    · by_cases h2 : ∃ t ∈ s.lt, t.i = id
      · exact ⟨0, E0, h, .inr (.inr (.inr ⟨h0, h1, h2, rfl⟩))⟩
      · exact ⟨7, E0, h, .inr (.inr (.inl ⟨h0, h1, fun t ht e => h2 ⟨t, ht, e⟩, rfl⟩))⟩
    · exact ⟨1, E0, h, .inr (.inl ⟨h0, h1, rfl⟩)⟩
  · exact ⟨E0, E0, h, .inl ⟨h0, rfl⟩⟩
theorem rer_ok {s : Wld} {id n : Int} (h : rer s id n 0) : (∃ W H, okw s W H) ∧ (0 ≤ n ∧ n ≤ 200) ∧ ∃ t ∈ s.lt, t.i = id := by
  obtain ⟨E0, h0, h1 | h1 | h1 | h1⟩ := h
  · exact absurd h1.2.symm h1.1
  · omega
  · omega
  · obtain ⟨rfl, h2, h3, _⟩ := h1
    exact ⟨wre_ok h0, h2, h3⟩
/-- The boxes at Reach's head. -/
theorem rboxes {w w0 V : World} {a b c d e f g h i x y a' b' c' d' e' f' g' h' i' : Value} {F : Nat} (hF : w.heap.size = F) (hw : ((w.alloc (.cells #[a, b, c, d, e, f, g, h, i] 28)).alloc (.cells #[x, y] 31)).alloc (.cells #[a', b', c', d', e', f', g', h', i'] 28) = w0) (hb : Below w0.heap.size w0 V) :
    bx9 V F a b c d e f g h i ∧ (V.cell? ⟨F + 1, 0, none⟩ = some x ∧ V.cell? ⟨F + 1, 1, none⟩ = some y) ∧ bx9 V (F + 2) a' b' c' d' e' f' g' h' i' ∧ Below w.heap.size w V := by
  subst hF
  obtain ⟨w1, h1⟩ : ∃ w1, w.alloc (.cells #[a, b, c, d, e, f, g, h, i] 28) = w1 := ⟨_, rfl⟩
  obtain ⟨w2, h2⟩ : ∃ w2, w1.alloc (.cells #[x, y] 31) = w2 := ⟨_, rfl⟩
  rw [h1, h2] at hw
  have b1 : Below w.heap.size w w1 := by rw [← h1]; exact alloc_below _ _
  have b2 : Below w1.heap.size w1 w2 := by rw [← h2]; exact alloc_below _ _
  have b3 : Below w2.heap.size w2 w0 := by rw [← hw]; exact alloc_below _ _
  have s1 : w1.heap.size = w.heap.size + 1 := by rw [← h1, World.size_alloc]
  have s2 : w2.heap.size = w.heap.size + 2 := by rw [← h2, World.size_alloc, s1]
  have x1 : bx9 w1 w.heap.size a b c d e f g h i := by rw [← h1]; exact box9_new _ _ _ _ _ _ _ _ _ _
  have x2 : w2.heap[w.heap.size + 1]? = some (.cells #[x, y] 31) := by rw [← h2, ← s1]; exact World.alloc_heap_new w1 _
  have x3 : bx9 w0 (w.heap.size + 2) a' b' c' d' e' f' g' h' i' := by rw [← hw, ← s2]; exact box9_new _ _ _ _ _ _ _ _ _ _
  have b02 : Below w2.heap.size w2 V := below_call b3 b3.size hb
  have b01 : Below w1.heap.size w1 V := below_call b2 b2.size b02
  have x2V := (b02.block _ (heap_lt x2)).trans x2
  exact ⟨bx9_below x1 b01, ⟨by simp [World.cell?, x2V], by simp [World.cell?, x2V]⟩, bx9_below x3 hb, below_call b1 b1.size b01⟩
set_option maxRecDepth 20000 in
set_option maxHeartbeats 4000000 in
theorem Reach_no (s : Wld) (id tx ty n E : Int) (w : World) (h : s.fit w) (hE : Hid (rer s id n E)) (hE0 : E ≠ 0) :
    Calls Try.prog 10 #[s.val, .int .i64 id, .agg #[.int .i64 tx, .int .i64 ty], .int .i64 n] w fun e w' => e = .returned (.tuple #[wz.val, .int .i64 0, .int .i64 E]) ∧ Below w.heap.size w w' := by
  obtain ⟨E0, hE1, hE2⟩ := hE.out
  have HC : Hid (∀ V, Below w.heap.size w V → Calls Try.prog 41 #[s.val, .int .i64 id] V fun e w' => (∃ r b, e = .returned (.tuple #[.int .i64 r, .bool b, .int .i64 E0]) ∧ Hid (fndr s (fun t => t.i = id) E0 r b)) ∧ Below V.heap.size V w') := fun V hV => Find_any s id E0 V (Wld.fit_below h hV) hE1
  clear h hE hE1
  obtain ⟨A, B, p, np, c, l, pb, nb, cb, lb, ps, ns, cs, ls, pm, nm, cm, lm, pt, nt, ct, lt, N, T⟩ := s
  unfold Wld.val at *
  dsimp only [wz] at *
  obtain ⟨F, hF⟩ : ∃ F, w.heap.size = F := ⟨_, rfl⟩
  obtain ⟨w0, hw0⟩ : ∃ w0, ((w.alloc (.cells #[.int .i64 A, .int .i64 B, .slice p np c, .slice pb nb cb, .slice ps ns cs, .slice pm nm cm, .slice pt nt ct, .int .i64 N, .int .i64 T] 28)).alloc (.cells #[.int .i64 tx, .int .i64 ty] 31)).alloc (.cells #[.int .i64 0, .int .i64 0, .slice none 0 0, .slice none 0 0, .slice none 0 0, .slice none 0 0, .slice none 0 0, .int .i64 0, .int .i64 0] 28) = w0 := ⟨_, rfl⟩
  obtain ⟨xa, xb, xc, hB0⟩ := rboxes hF hw0 (Below.refl _ _)
  have HB0 : Hid (Below w.heap.size w w0) := hB0
  have HF : Hid (w.heap.size = F) := hF
  have HR0 : Hid (bx9 w0 (F + 2) (.int .i64 0) (.int .i64 0) (.slice none 0 0) (.slice none 0 0) (.slice none 0 0) (.slice none 0 0) (.slice none 0 0) (.int .i64 0) (.int .i64 0)) := xc
  obtain ⟨z0, z1, z2, z3, z4, z5, z6, z7, z8⟩ := bx9_c9 xa
  clear xa xb xc hB0
  go_enter Try.func10, Try.ntmps10
  go_wp2_with fail
  refine (HC.out w0 HB0.out).mono ?_
  rintro e w1 ⟨⟨r, b, rfl, hf⟩, hb1⟩
  have HB1 : Hid (Below w.heap.size w w1) := below_call HB0.out HB0.out.size hb1
  have HR1 : Hid (bx9 w1 (F + 2) (.int .i64 0) (.int .i64 0) (.slice none 0 0) (.slice none 0 0) (.slice none 0 0) (.slice none 0 0) (.slice none 0 0) (.int .i64 0) (.int .i64 0)) := bx9_below HR0.out hb1
  clear z0 z1 z2 z3 z4 z5 z6 z7 z8 hb1 hw0 hF
  obtain ⟨y0, y1, y2, y3, y4, y5, y6, y7, y8⟩ := bx9_c9 HR1.out
  have fr0 := bx9_free HR1.out 0
  have fr1 := bx9_free HR1.out 1
  have fr2 := bx9_free HR1.out 2
  have fr3 := bx9_free HR1.out 3
  have fr4 := bx9_free HR1.out 4
  have fr5 := bx9_free HR1.out 5
  have fr6 := bx9_free HR1.out 6
  have fr7 := bx9_free HR1.out 7
  have fr8 := bx9_free HR1.out 8
  have hEE : (E0 ≠ 0 ∧ E = E0) ∨ (E0 = 0 ∧ n < 0 ∧ E = 1) ∨ (E0 = 0 ∧ ¬ n < 0 ∧ 200 < n ∧ E = 1) ∨ (E0 = 0 ∧ ¬ n < 0 ∧ ¬ 200 < n ∧ b = false ∧ E = 7) := by
    rcases hE2 with h1 | h1 | h1 | h1
    · exact .inl h1
    · by_cases h2 : n < 0
      · exact .inr (.inl ⟨h1.1, h2, h1.2.2⟩)
      · exact .inr (.inr (.inl ⟨h1.1, h2, by omega, h1.2.2⟩))
    · refine .inr (.inr (.inr ⟨h1.1, by omega, by omega, ?_, h1.2.2.2⟩))
      rcases hf.out with h2 | ⟨_, ⟨h2, _⟩ | ⟨_, i, hi, _, h3⟩⟩
      · exact absurd h1.1 h2.1
      · exact h2
      · exact absurd h3 (h1.2.2.1 _ (List.getElem_mem hi))
    · exact absurd h1.2.2.2 hE0
  clear hE2 hf
  rcases hEE with ⟨h0, rfl⟩ | ⟨rfl, h1, rfl⟩ | ⟨rfl, h1, h2, rfl⟩ | ⟨rfl, h1, h2, rfl, rfl⟩
  · have d1 : (E != 0) = true := by simp [h0]
    go_wp2_with fail
    obtain ⟨V, hV⟩ : ∃ V, ((((((((w1.setCell ⟨F + 2, 0, none⟩ (.int .i64 0)).setCell ⟨F + 2, 1, none⟩ (.int .i64 0)).setCell ⟨F + 2, 2, none⟩ (.slice none 0 0)).setCell ⟨F + 2, 3, none⟩ (.slice none 0 0)).setCell ⟨F + 2, 4, none⟩ (.slice none 0 0)).setCell ⟨F + 2, 5, none⟩ (.slice none 0 0)).setCell ⟨F + 2, 6, none⟩ (.slice none 0 0)).setCell ⟨F + 2, 7, none⟩ (.int .i64 0)).setCell ⟨F + 2, 8, none⟩ (.int .i64 0) = V := ⟨_, rfl⟩
    first | rw [hV] | skip
    obtain ⟨k2, kx⟩ := set9 HR1.out hV.symm
    obtain ⟨t0, t1, t2, t3, t4, t5, t6, t7, t8⟩ := bx9_c9 k2
    refine ⟨by simp, .tuple #[.agg #[.int .i64 0, .int .i64 0, .slice none 0 0, .slice none 0 0, .slice none 0 0, .slice none 0 0, .slice none 0 0, .int .i64 0, .int .i64 0], .int .i64 0, .int .i64 E], ?_, rfl, ?_⟩
    · simp [results, Try.results10, go_sem, t0, t1, t2, t3, t4, t5, t6, t7, t8]
    · have h9 : Below w.heap.size w V := HB1.out.trans (kx.below (B := w.heap.size) HB1.out.size (fun k hk e => by have := HF.out; omega))
      first | exact h9 | (rw [← HF.out]; exact h9)
  · go_wp2_with fail
    obtain ⟨V, hV⟩ : ∃ V, ((((((((w1.setCell ⟨F + 2, 0, none⟩ (.int .i64 0)).setCell ⟨F + 2, 1, none⟩ (.int .i64 0)).setCell ⟨F + 2, 2, none⟩ (.slice none 0 0)).setCell ⟨F + 2, 3, none⟩ (.slice none 0 0)).setCell ⟨F + 2, 4, none⟩ (.slice none 0 0)).setCell ⟨F + 2, 5, none⟩ (.slice none 0 0)).setCell ⟨F + 2, 6, none⟩ (.slice none 0 0)).setCell ⟨F + 2, 7, none⟩ (.int .i64 0)).setCell ⟨F + 2, 8, none⟩ (.int .i64 0) = V := ⟨_, rfl⟩
    first | rw [hV] | skip
    obtain ⟨k2, kx⟩ := set9 HR1.out hV.symm
    obtain ⟨t0, t1, t2, t3, t4, t5, t6, t7, t8⟩ := bx9_c9 k2
    refine ⟨by simp, .tuple #[.agg #[.int .i64 0, .int .i64 0, .slice none 0 0, .slice none 0 0, .slice none 0 0, .slice none 0 0, .slice none 0 0, .int .i64 0, .int .i64 0], .int .i64 0, .int .i64 1], ?_, rfl, ?_⟩
    · simp [results, Try.results10, go_sem, t0, t1, t2, t3, t4, t5, t6, t7, t8]
    · have h9 : Below w.heap.size w V := HB1.out.trans (kx.below (B := w.heap.size) HB1.out.size (fun k hk e => by have := HF.out; omega))
      first | exact h9 | (rw [← HF.out]; exact h9)
  · go_wp2_with fail
    obtain ⟨V, hV⟩ : ∃ V, ((((((((w1.setCell ⟨F + 2, 0, none⟩ (.int .i64 0)).setCell ⟨F + 2, 1, none⟩ (.int .i64 0)).setCell ⟨F + 2, 2, none⟩ (.slice none 0 0)).setCell ⟨F + 2, 3, none⟩ (.slice none 0 0)).setCell ⟨F + 2, 4, none⟩ (.slice none 0 0)).setCell ⟨F + 2, 5, none⟩ (.slice none 0 0)).setCell ⟨F + 2, 6, none⟩ (.slice none 0 0)).setCell ⟨F + 2, 7, none⟩ (.int .i64 0)).setCell ⟨F + 2, 8, none⟩ (.int .i64 0) = V := ⟨_, rfl⟩
    first | rw [hV] | skip
    obtain ⟨k2, kx⟩ := set9 HR1.out hV.symm
    obtain ⟨t0, t1, t2, t3, t4, t5, t6, t7, t8⟩ := bx9_c9 k2
    refine ⟨by simp, .tuple #[.agg #[.int .i64 0, .int .i64 0, .slice none 0 0, .slice none 0 0, .slice none 0 0, .slice none 0 0, .slice none 0 0, .int .i64 0, .int .i64 0], .int .i64 0, .int .i64 1], ?_, rfl, ?_⟩
    · simp [results, Try.results10, go_sem, t0, t1, t2, t3, t4, t5, t6, t7, t8]
    · have h9 : Below w.heap.size w V := HB1.out.trans (kx.below (B := w.heap.size) HB1.out.size (fun k hk e => by have := HF.out; omega))
      first | exact h9 | (rw [← HF.out]; exact h9)
  · go_wp2_with fail
    obtain ⟨V, hV⟩ : ∃ V, ((((((((w1.setCell ⟨F + 2, 0, none⟩ (.int .i64 0)).setCell ⟨F + 2, 1, none⟩ (.int .i64 0)).setCell ⟨F + 2, 2, none⟩ (.slice none 0 0)).setCell ⟨F + 2, 3, none⟩ (.slice none 0 0)).setCell ⟨F + 2, 4, none⟩ (.slice none 0 0)).setCell ⟨F + 2, 5, none⟩ (.slice none 0 0)).setCell ⟨F + 2, 6, none⟩ (.slice none 0 0)).setCell ⟨F + 2, 7, none⟩ (.int .i64 0)).setCell ⟨F + 2, 8, none⟩ (.int .i64 0) = V := ⟨_, rfl⟩
    first | rw [hV] | skip
    obtain ⟨k2, kx⟩ := set9 HR1.out hV.symm
    obtain ⟨t0, t1, t2, t3, t4, t5, t6, t7, t8⟩ := bx9_c9 k2
    refine ⟨by simp, .tuple #[.agg #[.int .i64 0, .int .i64 0, .slice none 0 0, .slice none 0 0, .slice none 0 0, .slice none 0 0, .slice none 0 0, .int .i64 0, .int .i64 0], .int .i64 0, .int .i64 7], ?_, rfl, ?_⟩
    · simp [results, Try.results10, go_sem, t0, t1, t2, t3, t4, t5, t6, t7, t8]
    · have h9 : Below w.heap.size w V := HB1.out.trans (kx.below (B := w.heap.size) HB1.out.size (fun k hk e => by have := HF.out; omega))
      first | exact h9 | (rw [← HF.out]; exact h9)
end Go.Proofs.Ytnbbfnlfcncgnaa
