/- What hitLives returns: a soldier and a worker. -/
import Derived.Test.YtjbfnibhmojlfaaSw
import Derived.Test.YtjbfnibhmojlfaaSl
import Derived.Test.YtjbfnibhmojlfaaSn
namespace Go.Proofs.Ytjbfnibhmojlfaa
open Go.RowKit
set_option linter.unusedVariables false

theorem flat7_lies {w : World} {a : Addr} {Q : List Trp} (h : trow w (some a) Q) : ∀ j u, (flat7 Q)[j]? = some u → w.cell? (a.add j) = some u := by
  intro j u hj
  obtain ⟨b, hb, hc⟩ := h j u hj
  cases hb; exact hc
theorem run_moret {B : Nat} {w : World} {v : Value} {Q R : List Trp} {a : Addr} {d m : Nat} (ty : TypeId) (h : minet B w v Q) (hq : trow w (some a) R) (hm : R.length = m) (hl : Q.length + m ≤ 2000000) (hB : B ≤ w.heap.size) :
    ∃ v' w', (Builtin.append_ #[26, 26] ty #[v, .slice (some a) m d]).run Try.prog w = .ok v' w' ∧ minet B w' v' (Q ++ R) ∧ w.grownBy w' v.ownBlock := by
  obtain ⟨i0, hi, hz0, hz1, hz2⟩ := info_parts kint
  obtain ⟨v', w', h1, h2, h3, _⟩ := run_append_own (P := Try.prog) w B 26 ty 42 i0 _ 7 56 Try.underlying26 hi hz0 hz1 hz2 rfl (by decide) v Q.length (flat7 Q) h a m d (flat7 R) (by rw [flat7_len, hm]) (flat7_lies hq) (fun u hu => by obtain ⟨x, rfl⟩ := ints_flat7 R u hu; rfl) (by unfold maxLen; omega) (by omega) hB
  refine ⟨v', w', h1, ?_, h3⟩
  unfold minet
  rw [flat7_app, List.length_append, hm]; exact h2
/-- The world of hitLives. -/
def hlt1 : Trp := ⟨1, 0, 1, 1, 0, 10, 0⟩
def hlt2 : Trp := ⟨2, 1, 2, 2, 0, 5, 0⟩
def hlw (F : Nat) (pb : Option Addr) (cb : Nat) (g : Nat) (pt : Option Addr) (ct : Nat) : Wld := ⟨3, 1, some ⟨F + 1, 0, none⟩, 3, 3, [0, 0, 3], pb, 2, cb, [⟨0, 0⟩, ⟨2, 0⟩], some ⟨g, 0, none⟩, 2, 2, [1, 1], some ⟨F + 1 + 1 + 1 + 1, 0, none⟩, 3, 3, [0, 0, 9], pt, 2, ct, [hlt1, hlt2], 3, 0⟩
theorem hlw_harm : harms (cnt 3 [0, 0, 3] [hlt1, hlt2]) [hlt1, hlt2] [⟨2, 1⟩, ⟨1, 2⟩, ⟨2, 1⟩] = [4, 1] := by decide +kernel
theorem hlw_ok (F : Nat) (pb : Option Addr) (cb : Nat) (g : Nat) (pt : Option Addr) (ct : Nat) : okw (hlw F pb cb g pt ct) 3 1 := by
  refine ⟨rfl, rfl, ⟨by omega, by omega, rfl, ?_⟩, ?_, ?_, ?_, ?_, ?_, ?_⟩
  · show List.any [0, 0, 3] bad = false; decide
  · show 2 ≤ 8; decide
  · show 2 ≤ 100; decide
  · show cok 3 0 = true; decide
  · refine ⟨rfl, ?_, fun i hi => ?_, by simp [hlw]⟩
    · show List.any [1, 1] am = false; decide
    · have : i = 0 ∨ i = 1 := by simp [hlw] at hi; omega
      rcases this with rfl | rfl
      · show opn 3 1 [0, 0, 3] 0 0 = true; decide
      · show opn 3 1 [0, 0, 3] 2 0 = true; decide
  · refine ⟨rfl, ?_, fun i hi => ?_⟩
    · show List.any [0, 0, 9] am = false; decide
    · have : i = 0 ∨ i = 1 ∨ i = 2 := by simp [hlw] at hi; omega
      rcases this with rfl | rfl | rfl <;> simp [hlw]
  · refine ⟨fun i hi => ?_, by simp [hlw, hlt1, hlt2], by simp [hlw, hlt1, hlt2, Trp.c]⟩
    have : i = 0 ∨ i = 1 := by simp [hlw] at hi; omega
    rcases this with rfl | rfl
    · show 1 ≤ (1 : Int) ∧ (1 : Int) < 3 ∧ T1r 3 1 [0, 0, 3] 2 ⟨1, 0, 1, 1, 0, 10, 0⟩
      refine ⟨by decide, by decide, .inl rfl, by decide, by decide, ?_, by decide, ?_, by decide, ?_⟩
      · show opn 3 1 [0, 0, 3] 1 0 = true; decide
      · show (10 : Int) ≤ lifeOf 1; decide
      · show (0 : Int) ≤ loadOf 1; decide
    · show 1 ≤ (2 : Int) ∧ (2 : Int) < 3 ∧ T1r 3 1 [0, 0, 3] 2 ⟨2, 1, 2, 2, 0, 5, 0⟩
      refine ⟨by decide, by decide, .inr rfl, by decide, by decide, ?_, by decide, ?_, by decide, ?_⟩
      · show opn 3 1 [0, 0, 3] 2 0 = true; decide
      · show (5 : Int) ≤ lifeOf 2; decide
      · show (0 : Int) ≤ loadOf 2; decide
theorem own_of {e : TypeId} {z B g n cap : Nat} {w : World} {l : List Value} (h : w.heap[g]? = some (.cells l.toArray e)) (hB : B ≤ g) (hl : l.length = n * z) (hc : n = cap) (hm : cap ≤ 1000) : w.ownsRow B e z (.slice (some ⟨g, 0, none⟩) n cap) n l := by
  subst hc
  exact ⟨hl, .inr ⟨g, n, l.toArray, rfl, hB, h, Nat.le_refl _, by unfold maxLen; omega, by simp [hl], by rw [List.take_of_length_le (by simp [hl])]⟩⟩
theorem grown_block {w w' : World} {r : Option Nat} (h : w.grownBy w' r) {k : Nat} {o : Obj} (hk : w.heap[k]? = some o) (hr : some k ≠ r) : w'.heap[k]? = some o := by
  have : k < w.heap.size := by
    rcases Nat.lt_or_ge k w.heap.size with hlt | hge
    · exact hlt
    · rw [Array.getElem?_eq_none hge] at hk; cases hk
  exact (h.block k this hr).trans hk
theorem heap_lt {w : World} {k : Nat} {o : Obj} (hk : w.heap[k]? = some o) : k < w.heap.size := by
  rcases Nat.lt_or_ge k w.heap.size with hlt | hge
  · exact hlt
  · rw [Array.getElem?_eq_none hge] at hk; cases hk
theorem own_not {e e' : TypeId} {z B n : Nat} {w : World} {v : Value} {xs : List Value} {k : Nat} {l : Array Value} (h : w.ownsRow B e z v n xs) (hk : w.heap[k]? = some (.cells l e')) (hne : e ≠ e') : ∀ g, v.ownBlock = some g → g ≠ k := by
  intro g hg hgk
  subst hgk
  rcases h.2 with ⟨h0, _⟩ | ⟨g1, cap, cur, hv, hB, hblk, hr⟩
  · rw [h0] at hg; cases hg
  · rw [hv] at hg
    simp [Value.ownBlock] at hg
    subst hg
    rw [hblk] at hk
    simp at hk
    exact hne hk.2
theorem row_frame {α : Type} {f : α → Value} {S : Nat → Prop} {w V : World} {a : Addr} {l : List α} (h : row f w (some a) l) (he : Ex S w V) (hS : ¬ S a.block) : row f V (some a) l := by
  intro j x hj
  obtain ⟨b, hb, hc⟩ := h j x hj
  cases hb
  have hl := cell_lt hc
  exact ⟨_, rfl, by rw [he.cell (p := a.add j) hl (by rw [add_block]; exact hS)]; exact hc⟩
set_option maxRecDepth 20000 in
set_option maxHeartbeats 4000000 in
theorem lives_any (w : World) : Calls Try.prog 17 #[] w fun e w' => e = .returned (.bool true) ∧ Below w.heap.size w w' := by
  go_enter Try.func17, Try.ntmps17
  go_wp2_with fail
  refine (small_any w).mono ?_
  rintro e w1 ⟨⟨F, rfl, hf, hF, h2, h5⟩, hb1⟩
  obtain ⟨G, hG⟩ : ∃ G, w1.heap.size = G := ⟨_, rfl⟩
  have hFG : F + 5 < G := by rw [← hG]; exact heap_lt h5
  obtain ⟨w2, hw2⟩ : ∃ w2, w1.alloc (.cells #[.int .i64 3, .int .i64 1, .slice (some ⟨F + 1, 0, none⟩) 3 3, .slice (some ⟨F + 1 + 1, 0, none⟩) 1 1, .slice (some ⟨F + 1 + 1 + 1, 0, none⟩) 1 1, .slice (some ⟨F + 1 + 1 + 1 + 1, 0, none⟩) 3 3, .slice (some ⟨F + 1 + 1 + 1 + 1 + 1, 0, none⟩) 1 1, .int .i64 2, .int .i64 0] 28) = w2 := ⟨_, rfl⟩
  have x2 : bx9 w2 G (.int .i64 3) (.int .i64 1) (.slice (some ⟨F + 1, 0, none⟩) 3 3) (.slice (some ⟨F + 1 + 1, 0, none⟩) 1 1) (.slice (some ⟨F + 1 + 1 + 1, 0, none⟩) 1 1) (.slice (some ⟨F + 1 + 1 + 1 + 1, 0, none⟩) 3 3) (.slice (some ⟨F + 1 + 1 + 1 + 1 + 1, 0, none⟩) 1 1) (.int .i64 2) (.int .i64 0) := by rw [← hw2, ← hG]; exact box9_new _ _ _ _ _ _ _ _ _ _
  have b12 : Below w1.heap.size w1 w2 := by rw [← hw2]; exact alloc_below _ _
  obtain ⟨w3, hw3⟩ : ∃ w3, w2.alloc (.cells #[.int .i64 2, .int .i64 0] 40) = w3 := ⟨_, rfl⟩
  have b23 : Below w2.heap.size w2 w3 := by rw [← hw3]; exact alloc_below _ _
  have b13 : Below w1.heap.size w1 w3 := below_call b12 b12.size b23
  have h23 : w3.heap[F + 1 + 1]? = some (.cells #[.int .i64 0, .int .i64 0] 40) := (b13.block _ (by omega)).trans h2
  have m3 : minec (F + 2) w3 (.slice (some ⟨F + 1 + 1, 0, none⟩) 1 1) [⟨0, 0⟩] := own_of (l := [.int .i64 0, .int .i64 0]) h23 (Nat.le_refl _) rfl rfl (by decide)
  have c3 : crow w3 (some ⟨w2.heap.size, 0, none⟩) [⟨2, 0⟩] := by rw [← hw3]; exact crow_one w2 2 0
  obtain ⟨v4, w4, hrun, hm4, hg4⟩ := run_more (d := 1) 25 m3 c3 rfl (by simp) (by simp) (by have := b13.size; omega)
  obtain ⟨pb, cb, rfl⟩ := mine_form hm4
  have x4 : bx9 w4 G (.int .i64 3) (.int .i64 1) (.slice (some ⟨F + 1, 0, none⟩) 3 3) (.slice (some ⟨F + 1 + 1, 0, none⟩) 1 1) (.slice (some ⟨F + 1 + 1 + 1, 0, none⟩) 1 1) (.slice (some ⟨F + 1 + 1 + 1 + 1, 0, none⟩) 3 3) (.slice (some ⟨F + 1 + 1 + 1 + 1 + 1, 0, none⟩) 1 1) (.int .i64 2) (.int .i64 0) := grown_block hg4 (bx9_below x2 b23) (by simp [Value.ownBlock]; omega)
  have h54 : w4.heap[F + 1 + 1 + 1 + 1 + 1]? = some (.cells #[.int .i64 1, .int .i64 0, .int .i64 1, .int .i64 1, .int .i64 0, .int .i64 10, .int .i64 0] 42) := grown_block hg4 ((b13.block _ (by omega)).trans h5) (by simp [Value.ownBlock] <;> omega)
  have hb14 : Below (F + 1) w1 w4 := (b13.mono (by omega)).grown hg4 (by have := b13.size; omega) (fun k hk => by simp [Value.ownBlock] at hk; omega)
  have HPB : Hid (minec (F + 2) w4 (.slice pb 2 cb) [⟨0, 0⟩, ⟨2, 0⟩]) := hm4
  have hpbG : ∀ g, (Value.slice pb 2 cb).ownBlock = some g → g ≠ G ∧ g ≠ F + 1 + 1 + 1 + 1 + 1 := fun g hg => ⟨own_not hm4 x4 (by decide) g hg, own_not hm4 h54 (by decide) g hg⟩
  obtain ⟨K, hK⟩ : ∃ K, w4.heap.size = K := ⟨_, rfl⟩
  obtain ⟨w5, hw5⟩ : ∃ w5, ((w4.setCell ⟨G, 3, none⟩ (.slice pb 2 cb)).setCell ⟨G, 4, none⟩ (.slice (some ⟨K, 0, none⟩) 2 2)).setCell ⟨G, 7, none⟩ (.int .i64 3) = w5 := ⟨_, rfl⟩
  have x5 : bx9 w5 G (.int .i64 3) (.int .i64 1) (.slice (some ⟨F + 1, 0, none⟩) 3 3) (.slice pb 2 cb) (.slice (some ⟨K, 0, none⟩) 2 2) (.slice (some ⟨F + 1 + 1 + 1 + 1, 0, none⟩) 3 3) (.slice (some ⟨F + 1 + 1 + 1 + 1 + 1, 0, none⟩) 1 1) (.int .i64 3) (.int .i64 0) := by
    rw [← hw5]; exact bx9_set7 (bx9_set4 (bx9_set3 x4 _) _) _
  have e45 : Ex (fun k => k = G) w4 w5 := by rw [← hw5]; exact ex_set (ex_set (ex_set (Ex.refl (fun k => k = G) _) ⟨G, 3, none⟩ rfl _) ⟨G, 4, none⟩ rfl _) ⟨G, 7, none⟩ rfl _
  have s5 : w5.heap.size = K := by rw [← hw5]; simp only [World.size_setCell]; exact hK
  obtain ⟨w6, hw6⟩ : ∃ w6, w5.alloc (.cells #[.int .i64 1, .int .i64 1] 3) = w6 := ⟨_, rfl⟩
  have b56 : Below w5.heap.size w5 w6 := by rw [← hw6]; exact alloc_below _ _
  have hs6 : w6.heap[K]? = some (.cells #[.int .i64 1, .int .i64 1] 3) := by rw [← hw6, ← s5]; exact World.alloc_heap_new w5 _
  have x6 := bx9_below x5 b56
  have e46 : Ex (fun k => k = G) w4 w6 := ex_call e45 b56
  obtain ⟨M, hM⟩ : ∃ M, w6.heap.size = M := ⟨_, rfl⟩
  obtain ⟨w7, hw7⟩ : ∃ w7, w6.alloc (.cells #[.int .i64 2, .int .i64 1, .int .i64 2, .int .i64 2, .int .i64 0, .int .i64 5, .int .i64 0] 42) = w7 := ⟨_, rfl⟩
  have b67 : Below w6.heap.size w6 w7 := by rw [← hw7]; exact alloc_below _ _
  have e47 : Ex (fun k => k = G) w4 w7 := ex_call e46 b67
  have h57 : w7.heap[F + 1 + 1 + 1 + 1 + 1]? = some (.cells #[.int .i64 1, .int .i64 0, .int .i64 1, .int .i64 1, .int .i64 0, .int .i64 10, .int .i64 0] 42) := (e47.block _ (heap_lt h54) (by omega)).trans h54
  have m7 : minet (F + 2) w7 (.slice (some ⟨F + 1 + 1 + 1 + 1 + 1, 0, none⟩) 1 1) [hlt1] := own_of (l := [.int .i64 1, .int .i64 0, .int .i64 1, .int .i64 1, .int .i64 0, .int .i64 10, .int .i64 0]) h57 (by omega) rfl rfl (by decide)
  have c7_ : trow w7 (some ⟨M, 0, none⟩) [hlt2] := by rw [← hw7, ← hM]; exact row_heap (f := id) (L := flat7 [hlt2]) (World.alloc_heap_new w6 _)
  obtain ⟨v8, w8, hrun8, hm8, hg8⟩ := run_moret (d := 1) 26 m7 c7_ rfl (by simp) (by have := e47.size; have := heap_lt h54; omega)
  obtain ⟨pt, ct, rfl⟩ := mine_form hm8
  have x8 := grown_block hg8 (bx9_below x6 b67) (by simp [Value.ownBlock] <;> omega)
  have e48 : Ex (fun k => k = G ∨ k = F + 1 + 1 + 1 + 1 + 1) w4 w8 := (e47.mono (S' := fun k => k = G ∨ k = F + 1 + 1 + 1 + 1 + 1) (fun _ _ e => .inl e)).trans (Ex.of_grown hg8) (fun k _ e => by simp [Value.ownBlock] at e; exact .inr e)
  obtain ⟨w9, hw9⟩ : ∃ w9, w8.setCell ⟨G, 6, none⟩ (.slice pt 2 ct) = w9 := ⟨_, rfl⟩
  have e89 : Ex (fun k => k = G) w8 w9 := by rw [← hw9]; exact Ex.set (S := fun k => k = G) w8 ⟨G, 6, none⟩ rfl _
  have e49 : Ex (fun k => k = G ∨ k = F + 1 + 1 + 1 + 1 + 1) w4 w9 := e48.trans e89 (fun _ _ e => .inl e)
  have x9 : bx9 w9 G (.int .i64 3) (.int .i64 1) (.slice (some ⟨F + 1, 0, none⟩) 3 3) (.slice pb 2 cb) (.slice (some ⟨K, 0, none⟩) 2 2) (.slice (some ⟨F + 1 + 1 + 1 + 1, 0, none⟩) 3 3) (.slice pt 2 ct) (.int .i64 3) (.int .i64 0) := by rw [← hw9]; exact bx9_set6 x8 _
  obtain ⟨Q, hQ⟩ : ∃ Q, w9.heap.size = Q := ⟨_, rfl⟩
  obtain ⟨w10, hw10⟩ : ∃ w10, w9.alloc (.cells #[.int .i64 2, .int .i64 1, .int .i64 1, .int .i64 2, .int .i64 2, .int .i64 1] 48) = w10 := ⟨_, rfl⟩
  have b910 : Below w9.heap.size w9 w10 := by rw [← hw10]; exact alloc_below _ _
  have e14 : Ex (fun k => k = F + 2) w1 w4 := (Ex.of_below (S := fun k => k = F + 2) b13).trans (Ex.of_grown hg4) (fun k _ e => by simp [Value.ownBlock] at e; exact e)
  have e1 : Ex (fun k => k = F + 2 ∨ k = G ∨ k = F + 1 + 1 + 1 + 1 + 1) w1 w10 := ex_call ((e14.mono (S' := fun k => k = F + 2 ∨ k = G ∨ k = F + 1 + 1 + 1 + 1 + 1) (fun _ _ e => .inl e)).trans e49 (fun _ _ e => .inr e)) b910
  have hblk : crow w10 (some ⟨Q, 0, none⟩) [⟨2, 1⟩, ⟨1, 2⟩, ⟨2, 1⟩] := by
    rw [← hw10, ← hQ]
    have hh : (w9.alloc (.cells #[.int .i64 2, .int .i64 1, .int .i64 1, .int .i64 2, .int .i64 2, .int .i64 1] 48)).heap[w9.heap.size]? = some (.cells (flat2 [⟨2, 1⟩, ⟨1, 2⟩, ⟨2, 1⟩]).toArray 48) := World.alloc_heap_new w9 _
    intro j c hj
    have hj3 : j < 3 := (List.getElem?_eq_some_iff.1 hj).1
    refine ⟨_, rfl, ?_, ?_⟩
    all_goals
      rw [add_zero_at, cells_heap hh]
      match j, hj3, hj with
      | 0, _, hj => simp at hj; subst hj; rfl
      | 1, _, hj => simp at hj; subst hj; rfl
      | 2, _, hj => simp at hj; subst hj; rfl
  have hfit : (hlw F pb cb K pt ct).fit w10 := by
    have r1 := row_frame hf.r e1 (by show ¬ (F + 1 = F + 2 ∨ F + 1 = G ∨ F + 1 = F + 1 + 1 + 1 + 1 + 1); omega)
    have r4 := row_frame hf.rm e1 (by show ¬ (F + 1 + 1 + 1 + 1 = F + 2 ∨ F + 1 + 1 + 1 + 1 = G ∨ F + 1 + 1 + 1 + 1 = F + 1 + 1 + 1 + 1 + 1); omega)
    have hb4 := own_stays hm4 (ex_call e49 b910) (fun g hg hh => by have := hpbG g hg; omega)
    have ht8 := own_stays hm8 (ex_call e89 b910) (fun g hg => own_not hm8 x8 (by decide) g hg)
    have hpp := own_parts hb4
    have htp := own_parts ht8
    have hsK : w10.heap[K]? = some (.cells ([1, 1].map vi).toArray 3) := by
      have h8 := grown_block hg8 ((b67.block K (heap_lt hs6)).trans hs6) (by have := heap_lt h54; simp [Value.ownBlock] <;> omega)
      have h9 : w9.heap[K]? = some (.cells #[.int .i64 1, .int .i64 1] 3) := (e89.block K (heap_lt h8) (by have := heap_lt x4; omega)).trans h8
      exact (b910.block K (heap_lt h9)).trans h9
    exact { fA := by unfold hlw fits; simp, fB := by unfold hlw fits; simp, r := r1, x := fun x hx => (by simp [hlw] at hx; rcases hx with rfl | rfl <;> (unfold fits; omega)), h := rfl, m := by unfold hlw; simp, z := fun h => (by cases h), k := by unfold hlw; simp, rb := own_crow hb4, xb := fun c hc => (by simp [hlw] at hc; rcases hc with rfl | rfl <;> (unfold fits; simp)), hb := rfl, mb := by unfold hlw; simp, zb := hpp.2.2.1, kb := hpp.2.1, rs := row_heap (L := [1, 1]) hsK, xs := fun x hx => (by simp [hlw] at hx; subst hx; unfold fits; omega), hs := rfl, ms := by unfold hlw; simp, rm := r4, xm := fun x hx => (by simp [hlw] at hx; rcases hx with rfl | rfl <;> (unfold fits; omega)), hm := rfl, mm := by unfold hlw; simp, rt := own_trow ht8, xt := fun t ht => (by simp [hlw, hlt1, hlt2] at ht; rcases ht with rfl | rfl <;> (unfold fits; simp)), ht := rfl, mt := by unfold hlw; simp, zt := htp.2.2.1, kt := htp.2.1, fN := by unfold hlw fits; simp, fT := by unfold hlw fits; simp }
  have HBW : Hid (Calls Try.prog 8 #[(hlw F pb cb K pt ct).val, .slice (some ⟨Q, 0, none⟩) 3 3] w10 fun e w' => (∃ g c, e = .returned (.tuple #[.slice (some ⟨g, 0, none⟩) 2 c, .int .i64 0]) ∧ row vi w' (some ⟨g, 0, none⟩) [4, 1]) ∧ Below w10.heap.size w10 w') := by
    have := Blows_ok (hlw F pb cb K pt ct) 3 1 (some ⟨Q, 0, none⟩) 3 3 [⟨2, 1⟩, ⟨1, 2⟩, ⟨2, 1⟩] w10 hfit (hlw_ok F pb cb K pt ct) hblk (fun c hc => by simp at hc; rcases hc with rfl | rfl | rfl <;> (unfold fits; simp)) rfl (by decide)
    have e : harms (cnt 3 (hlw F pb cb K pt ct).l (hlw F pb cb K pt ct).lt) (hlw F pb cb K pt ct).lt [⟨2, 1⟩, ⟨1, 2⟩, ⟨2, 1⟩] = [4, 1] := hlw_harm
    rw [e] at this
    exact this
  have hbw : Below w.heap.size w w10 := hb1.trans (e1.below hb1.size (fun k hk e => by omega))
  have HBW2 : Hid (Below w.heap.size w w10) := hbw
  have HX4 : Hid (bx9 w4 G _ _ _ _ _ _ _ _ _) := x4
  have HX8 : Hid (bx9 w8 G _ _ _ _ _ _ _ _ _) := x8
  have X2 : Hid (bx9 w2 G _ _ _ _ _ _ _ _ _) := x2
  have HRUN8 : Hid (_ = _) := hrun8
  clear hf hF h2 h5 hb1 hFG x2 b12 b23 b13 h23 m3 c3 hm4 hg4 x4 h54 hb14 HPB hpbG x5 e45 s5 b56 hs6 x6 e46 b67 e47 h57 m7 c7_ hm8 hg8 x8 e48 e89 e49 x9 b910 e14 e1 hblk hfit hbw hrun8
  have s2 : w2.heap.size = G + 1 := by rw [← hw2, World.size_alloc, hG]
  rw [s2, ← hw3, ← hw2] at hrun
  clear hw2 hw3 s2
  obtain ⟨y0, y1, y2, y3, y4, y5, y6, y7, y8⟩ := bx9_c9 HX4.out
  have f3 := bx9_free HX4.out 3
  have f4 := bx9_free HX4.out 4
  have f7 := bx9_free HX4.out 7
  obtain ⟨z0, z1, z2, z3, z4, z5, z6, z7, z8⟩ := bx9_c9 HX8.out
  have f6 := bx9_free HX8.out 6
  have hrun8 := HRUN8.out
  have sM : M = K + 1 := by rw [← hM, ← hw6, World.size_alloc, ← hw5]; simp only [World.size_setCell]; rw [hK]
  have sQ : w8.heap.size = Q := by rw [← hQ, ← hw9]; simp only [World.size_setCell]
  rw [sM, ← hw7, ← hw6, ← hw5] at hrun8
  have HW9 : Hid (w8.setCell ⟨G, 6, none⟩ (.slice pt 2 ct) = w9) := hw9
  have HW10 : Hid (w9.alloc (.cells #[.int .i64 2, .int .i64 1, .int .i64 1, .int .i64 2, .int .i64 2, .int .i64 1] 48) = w10) := hw10
  have hG4 : G < w4.heap.size := bx9_lt HX4.out
  have hGK : G < K := by rw [← hK]; exact hG4
  clear hw5 hw6 hw7 hw9 hw10 hM sM hQ HRUN8
  unfold smw Wld.val
  dsimp only
  go_wp2_with (at_builtin; first
    | refine wpList_append_run rfl _ _ 25 rfl (.slice (some ⟨F + 1 + 1, 0, none⟩) 1 1) (.slice (some ⟨G + 1, 0, none⟩) 1 1) rfl rfl hrun ?_
    | refine wpList_append_run rfl _ _ 26 rfl (.slice (some ⟨F + 1 + 1 + 1 + 1 + 1, 0, none⟩) 1 1) (.slice (some ⟨K + 1, 0, none⟩) 1 1) rfl rfl hrun8 ?_)
  rw [HW9.out, HW10.out]
  refine Calls.mono HBW.out ?_
  rintro e w11 ⟨⟨g, c, rfl, hr⟩, hb11⟩
  have HB11 : Hid (Below w.heap.size w w11) := below_call HBW2.out HBW2.out.size hb11
  have HR11 : Hid (row vi w11 (some ⟨g, 0, none⟩) [4, 1]) := hr
  clear y0 y1 y2 y3 y4 y5 y6 y7 y8 z0 z1 z2 z3 z4 z5 z6 z7 z8 f3 f4 f6 f7 hr hb11 sQ hK hG hrun hrun8
  go_wp2_with fail
  refine (Equal_b _ _ 2 _ _ [4, 1] _ rfl (by decide) (row_below HR11.out (alloc_below _ _)) (row_heap (L := [4, 1]) (World.alloc_heap_new w11 _))).mono ?_
  rintro e w13 ⟨rfl, hb13⟩
  have HB13 : Hid (Below w.heap.size w w13) := below_call (HB11.out.alloc HB11.out.size _) (Nat.le_trans HB11.out.size (alloc_below w11 _).size) hb13
  clear hb13
  go_wp2_with fail
  go_ret
  exact ⟨rfl, HB13.out⟩
end Go.Proofs.Ytjbfnibhmojlfaa
