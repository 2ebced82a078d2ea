/- Two regions that copy, make boxes and store into them, in any order. -/
import Derived.Test.YtdcjjfipnilmpaaHc
import Derived.Test.YtdcjjfipnilmpaaCw
import Derived.Test.YtdcjjfipnilmpaaMb
import Derived.RegionTactic
namespace Go.Proofs.Ytdcjjfipnilmpaa
open Go.RowKit
set_option linter.unusedVariables false

/-- Where it is told (b), v is a row of one's own. -/
def got (b : Bool) (C : Nat) (V : World) (e : TypeId) (z : Nat) (v : Value) (m : Nat) (xs : List Value) : Prop := b = true → V.ownsRow C e z v m xs
/-- Where it is told (b), v is a box of one's own for a slice, and nil lies in it. -/
def abox (b : Bool) (C : Nat) (V : World) (t : TypeId) (v : Value) : Prop := b = true → ∃ G, v = .pointer (some ⟨G, 0, none⟩) ∧ C ≤ G ∧ V.heap[G]? = some (.cells #[.slice none 0 0] t (0, 0))
theorem got_below {b : Bool} {C : Nat} {V V' : World} {e : TypeId} {z : Nat} {v : Value} {m : Nat} {xs : List Value} (h : got b C V e z v m xs) (hb : Below V.heap.size V V') : got b C V' e z v m xs := fun e' =>
  own_stays (h e') (Ex.of_below (S := fun _ => False) hb) (fun _ _ e => e)
theorem abox_below {b : Bool} {C : Nat} {V V' : World} {t : TypeId} {v : Value} (h : abox b C V t v) (hb : Below V.heap.size V V') : abox b C V' t v := fun e' => by
  obtain ⟨G, e, h1, h2⟩ := h e'
  exact ⟨G, e, h1, (hb.block G (heap_lt h2)).trans h2⟩
theorem abox_new {C : Nat} {V : World} (t : TypeId) (hC : C ≤ V.heap.size) (b : Bool) : abox b C (V.alloc (.cells #[.slice none 0 0] t)) t (.pointer (some ⟨V.heap.size, 0, none⟩)) := fun _ => ⟨_, rfl, hC, World.alloc_heap_new V _⟩
theorem got_no {C : Nat} {V : World} {e : TypeId} {z : Nat} {v : Value} {m : Nat} {xs : List Value} : got false C V e z v m xs := fun h => by cases h
theorem abox_no {C : Nat} {V : World} {t : TypeId} {v : Value} : abox false C V t v := fun h => by cases h
theorem got_yes {b : Bool} {C : Nat} {V : World} {e : TypeId} {z : Nat} {v : Value} {m : Nat} {xs : List Value} (h : V.ownsRow C e z v m xs) : got b C V e z v m xs := fun _ => h
/-- A box's cell. -/
theorem box_cell {V : World} {G : Nat} {x : Value} {t : TypeId} (h : V.heap[G]? = some (.cells #[x] t (0, 0))) : V.cell? ⟨G, 0, none⟩ = some x ∧ V.frozen? ⟨G, 0, none⟩ = false := by
  refine ⟨?_, ?_⟩
  · simp [World.cell?, h]
  · simp [World.frozen?, h]
theorem box_put {V : World} {G : Nat} {x u : Value} {t : TypeId} (h : V.heap[G]? = some (.cells #[x] t (0, 0))) : (V.setCell ⟨G, 0, none⟩ u).heap[G]? = some (.cells #[u] t (0, 0)) := by
  rw [heap_setCell_same V G 0 _ t u h]; rfl
theorem box_off {V : World} {G K : Nat} {o : Obj} {u : Value} (h : V.heap[K]? = some o) (hne : K ≠ G) : (V.setCell ⟨G, 0, none⟩ u).heap[K]? = some o := by
  rw [Below.heap_setCell _ _ _ _ hne]; exact h
theorem own_put {e t : TypeId} {z C m : Nat} {V : World} {v u x : Value} {xs : List Value} {G : Nat} (h : V.ownsRow C e z v m xs) (hG : V.heap[G]? = some (.cells #[x] t (0, 0))) (hne : e ≠ t) : (V.setCell ⟨G, 0, none⟩ u).ownsRow C e z v m xs :=
  own_stays h (Ex.set (S := fun g => g = G) V ⟨G, 0, none⟩ rfl u) (fun g hg e' => own_not h hG hne g hg e')
def nb (b : Bool) : Nat := if b then 0 else 1
def ops1 : Array Oper := #[{ dst := some 15, op := Go.Op.fieldAddr 28 (Go.Operand.tmp 2) 4, type := 0, pos := "goods.go:94", after := #[], guard := none }, { dst := some 16, op := Go.Op.load 26 (Go.Operand.tmp 15), type := 26, pos := "goods.go:94", after := #[{ on := 0, ground := Go.Ground.data }], guard := none }, { dst := some 17, op := Go.Op.call { callee := Go.Callee.value (Go.Operand.func 23), args := #[Go.Operand.tmp 16], argTypes := #[26] }, type := 26, pos := "goods.go:94", after := #[{ on := 1, ground := Go.Ground.data }], guard := none }, { dst := some 18, op := Go.Op.fieldAddr 28 (Go.Operand.tmp 2) 0, type := 0, pos := "goods.go:94", after := #[], guard := none }, { dst := some 19, op := Go.Op.fieldAddr 24 (Go.Operand.tmp 18) 2, type := 0, pos := "goods.go:94", after := #[{ on := 3, ground := Go.Ground.data }], guard := none }, { dst := some 20, op := Go.Op.load 22 (Go.Operand.tmp 19), type := 22, pos := "goods.go:94", after := #[{ on := 4, ground := Go.Ground.data }], guard := none }, { dst := some 21, op := Go.Op.call { callee := Go.Callee.value (Go.Operand.func 24), args := #[Go.Operand.tmp 20], argTypes := #[22] }, type := 22, pos := "goods.go:94", after := #[{ on := 5, ground := Go.Ground.data }, { on := 2, ground := Go.Ground.chain }], guard := none }, { dst := some 5, op := Go.Op.alloc 26, type := 0, pos := "goods.go:94", after := #[], guard := none }, { dst := some 6, op := Go.Op.alloc 22, type := 0, pos := "goods.go:94", after := #[], guard := none }, { dst := none, op := Go.Op.store 26 (Go.Operand.tmp 5) (Go.Operand.tmp 17), type := 0, pos := "goods.go:94", after := #[{ on := 7, ground := Go.Ground.data }, { on := 2, ground := Go.Ground.data }, { on := 6, ground := Go.Ground.chain }, { on := 0, ground := Go.Ground.phase }, { on := 1, ground := Go.Ground.phase }, { on := 2, ground := Go.Ground.phase }, { on := 3, ground := Go.Ground.textOnly Go.Departure.lateStores }, { on := 4, ground := Go.Ground.textOnly Go.Departure.lateStores }, { on := 5, ground := Go.Ground.textOnly Go.Departure.lateStores }, { on := 6, ground := Go.Ground.textOnly Go.Departure.lateStoresUnsure }, { on := 7, ground := Go.Ground.phase }, { on := 8, ground := Go.Ground.phase }], guard := none }, { dst := none, op := Go.Op.store 22 (Go.Operand.tmp 6) (Go.Operand.tmp 21), type := 0, pos := "goods.go:94", after := #[{ on := 8, ground := Go.Ground.data }, { on := 6, ground := Go.Ground.data }, { on := 9, ground := Go.Ground.chain }, { on := 0, ground := Go.Ground.phase }, { on := 1, ground := Go.Ground.phase }, { on := 2, ground := Go.Ground.phase }, { on := 3, ground := Go.Ground.phase }, { on := 4, ground := Go.Ground.phase }, { on := 5, ground := Go.Ground.phase }, { on := 6, ground := Go.Ground.phase }, { on := 7, ground := Go.Ground.phase }, { on := 8, ground := Go.Ground.phase }, { on := 9, ground := Go.Ground.phase }], guard := none }]
set_option maxRecDepth 40000 in
set_option maxHeartbeats 16000000 in
theorem reg1 (F : Nat) (A B N T : Int) (p pb ps pm pt : Option Addr) (n c nb cb ns cs nm cm nt ct : Nat) (l ls lm : List Int) (lb : List Cel) (lt : List Trp) (w0 : World) (x0 x1 x3 x4 x5 x6 x7 x8 x9 x10 x11 x12 x13 x14 x15 x16 x17 x18 x19 x20 x21 x22 x23 x24 x25 x26 x27 x28 x29 x30 x31 x32 x33 x34 x35 x36 x37 x38 x39 x40 x41 x42 x43 x44 x45 x46 x47 x48 x49 x50 : Value) (Q : Exit → Act → World → Prop)
    (hx : bx9 w0 F (.int .i64 A) (.int .i64 B) (.slice p n c) (.slice pb nb cb) (.slice ps ns cs) (.slice pm nm cm) (.slice pt nt ct) (.int .i64 N) (.int .i64 T)) (HC1 : Hid (∀ V, Below w0.heap.size w0 V → Calls Try.prog 23 #[.slice pt nt ct] V fun e w' => (∃ v, e = .returned v ∧ w'.ownsRow V.heap.size 47 7 v lt.length (flat7 lt)) ∧ Below V.heap.size V w')) (HC2 : Hid (∀ V, Below w0.heap.size w0 V → Calls Try.prog 24 #[.slice p n c] V fun e w' => (∃ v, e = .returned v ∧ w'.ownsRow V.heap.size 3 1 v l.length (l.map vi)) ∧ Below V.heap.size V w'))
    (hQ : Hid (∀ v17 v21 g5 g6 V, Below w0.heap.size w0 V → V.cell? ⟨g5, 0, none⟩ = some v17 → V.cell? ⟨g6, 0, none⟩ = some v21 → V.ownsRow w0.heap.size 47 7 v17 lt.length (flat7 lt) → V.ownsRow w0.heap.size 3 1 v21 l.length (l.map vi) → Q .normal { tmps := #[x0, x1, .pointer (some ⟨F, 0, none⟩), x3, x4, .pointer (some ⟨g5, 0, none⟩), .pointer (some ⟨g6, 0, none⟩), x7, x8, x9, x10, x11, x12, x13, x14, .pointer (some ⟨F, 6, none⟩), .slice pt nt ct, v17, .pointer (some ⟨F, 0, none⟩), .pointer (some ⟨F, 2, none⟩), .slice p n c, v21, x22, x23, x24, x25, x26, x27, x28, x29, x30, x31, x32, x33, x34, x35, x36, x37, x38, x39, x40, x41, x42, x43, x44, x45, x46, x47, x48, x49, x50], defers := [] } V)) :
    (Code.region 1 ops1 true).wp Try.prog Q { tmps := #[x0, x1, .pointer (some ⟨F, 0, none⟩), x3, x4, x5, x6, x7, x8, x9, x10, x11, x12, x13, x14, x15, x16, x17, x18, x19, x20, x21, x22, x23, x24, x25, x26, x27, x28, x29, x30, x31, x32, x33, x34, x35, x36, x37, x38, x39, x40, x41, x42, x43, x44, x45, x46, x47, x48, x49, x50], defers := [] } w0 := by
  have HBX : Hid (∀ V, Below w0.heap.size w0 V → c9 V F (.int .i64 A) (.int .i64 B) (.slice p n c) (.slice pb nb cb) (.slice ps ns cs) (.slice pm nm cm) (.slice pt nt ct) (.int .i64 N) (.int .i64 T)) := fun V hV => bx9_c9 (bx9_below hx hV)
  clear hx
  have key : ∀ (m : Nat) (b2 b6 b7 b8 : Bool) (v17 v21 v5 v6 : Value) (V : World), Go.Proofs.Ytdcjjfipnilmpaa.nb b2 + Go.Proofs.Ytdcjjfipnilmpaa.nb b6 + Go.Proofs.Ytdcjjfipnilmpaa.nb b7 + Go.Proofs.Ytdcjjfipnilmpaa.nb b8 = m → (b6 = true → b2 = true) → Below w0.heap.size w0 V → got b2 w0.heap.size V 47 7 v17 lt.length (flat7 lt) → got b6 w0.heap.size V 3 1 v21 l.length (l.map vi) → abox b7 w0.heap.size V 26 v5 → abox b8 w0.heap.size V 22 v6 → wpAnyH Try.prog .any ops1 (NoPanic Q) (fun V => Below w0.heap.size w0 V) (m + 2) #[true, true, b2, true, true, true, b6, b7, b8, false, false] { tmps := #[x0, x1, .pointer (some ⟨F, 0, none⟩), x3, x4, v5, v6, x7, x8, x9, x10, x11, x12, x13, x14, .pointer (some ⟨F, 6, none⟩), .slice pt nt ct, v17, .pointer (some ⟨F, 0, none⟩), .pointer (some ⟨F, 2, none⟩), .slice p n c, v21, x22, x23, x24, x25, x26, x27, x28, x29, x30, x31, x32, x33, x34, x35, x36, x37, x38, x39, x40, x41, x42, x43, x44, x45, x46, x47, x48, x49, x50], defers := [] } V := by
    intro m
    induction m with
    | zero =>
      intro b2 b6 b7 b8 v17 v21 v5 v6 V hm h0 hB o17 o21 x_5 x_6
      obtain ⟨rfl, rfl, rfl, rfl⟩ : b2 = true ∧ b6 = true ∧ b7 = true ∧ b8 = true := by
        revert hm
        cases b2 <;> cases b6 <;> cases b7 <;> cases b8 <;> simp [Go.Proofs.Ytdcjjfipnilmpaa.nb]
      have w17 := o17 rfl
      obtain ⟨q17, e17, rfl⟩ := mine_form w17
      have w21 := o21 rfl
      obtain ⟨q21, e21, rfl⟩ := mine_form w21
      obtain ⟨g5, rfl, C5, B5⟩ := x_5 rfl
      obtain ⟨g6, rfl, C6, B6⟩ := x_6 rfl
      have n5_6 : g5 ≠ g6 := fun e => by rw [e, B6] at B5; simp at B5
      clear hm h0 o17 o21 x_5 x_6 
      have cc0 := box_cell B5
      obtain ⟨ca0, cb0⟩ := cc0
      refine wpAnyH_ready (rs := [9]) (by kernel_rfl) (by simp) ?_
      refine AllReadyH.cons (o := { dst := none, op := Go.Op.store 26 (Go.Operand.tmp 5) (Go.Operand.tmp 17), type := 0, pos := "goods.go:94", after := #[{ on := 7, ground := Go.Ground.data }, { on := 2, ground := Go.Ground.data }, { on := 6, ground := Go.Ground.chain }, { on := 0, ground := Go.Ground.phase }, { on := 1, ground := Go.Ground.phase }, { on := 2, ground := Go.Ground.phase }, { on := 3, ground := Go.Ground.textOnly Go.Departure.lateStores }, { on := 4, ground := Go.Ground.textOnly Go.Departure.lateStores }, { on := 5, ground := Go.Ground.textOnly Go.Departure.lateStores }, { on := 6, ground := Go.Ground.textOnly Go.Departure.lateStoresUnsure }, { on := 7, ground := Go.Ground.phase }, { on := 8, ground := Go.Ground.phase }], guard := none }) (by rfl) (fun K' hK' => ?_) AllReadyH.nil
      go_simp
      go_wp2_with fail
      have HN0 : Hid (Below w0.heap.size w0 (V.setCell ⟨g5, 0, none⟩ (.slice q17 lt.length e17))) := hB.setCell C5 _
      refine hK'.out _ _ HN0.out (fun _ => ?_)
      clear hK' K'
      try simp only [List.setIfInBounds_toArray, List.set_cons_zero, List.set_cons_succ]
      obtain ⟨V0, hV0⟩ : ∃ U, V.setCell ⟨g5, 0, none⟩ (.slice q17 lt.length e17) = U := ⟨_, rfl⟩
      rw [hV0]
      replace w17 := own_put (u := (.slice q17 lt.length e17)) w17 B5 (by decide)
      replace w21 := own_put (u := (.slice q17 lt.length e17)) w21 B5 (by decide)
      replace B6 := box_off (G := g5) (u := (.slice q17 lt.length e17)) B6 (Ne.symm n5_6)
      replace B5 := box_put (u := (.slice q17 lt.length e17)) B5
      rw [hV0] at w17
      rw [hV0] at w21
      rw [hV0] at B5
      rw [hV0] at B6
      replace hB : Below w0.heap.size w0 V0 := by rw [← hV0]; exact HN0.out
      clear ca0 cb0 HN0 hV0
      have cc1 := box_cell B6
      obtain ⟨ca1, cb1⟩ := cc1
      refine wpAnyH_ready (rs := [10]) (by kernel_rfl) (by simp) ?_
      refine AllReadyH.cons (o := { dst := none, op := Go.Op.store 22 (Go.Operand.tmp 6) (Go.Operand.tmp 21), type := 0, pos := "goods.go:94", after := #[{ on := 8, ground := Go.Ground.data }, { on := 6, ground := Go.Ground.data }, { on := 9, ground := Go.Ground.chain }, { on := 0, ground := Go.Ground.phase }, { on := 1, ground := Go.Ground.phase }, { on := 2, ground := Go.Ground.phase }, { on := 3, ground := Go.Ground.phase }, { on := 4, ground := Go.Ground.phase }, { on := 5, ground := Go.Ground.phase }, { on := 6, ground := Go.Ground.phase }, { on := 7, ground := Go.Ground.phase }, { on := 8, ground := Go.Ground.phase }, { on := 9, ground := Go.Ground.phase }], guard := none }) (by rfl) (fun K' hK' => ?_) AllReadyH.nil
      go_simp
      go_wp2_with fail
      have HN1 : Hid (Below w0.heap.size w0 (V0.setCell ⟨g6, 0, none⟩ (.slice q21 l.length e21))) := hB.setCell C6 _
      refine hK'.out _ _ HN1.out (fun _ => ?_)
      clear hK' K'
      try simp only [List.setIfInBounds_toArray, List.set_cons_zero, List.set_cons_succ]
      obtain ⟨V1, hV1⟩ : ∃ U, V0.setCell ⟨g6, 0, none⟩ (.slice q21 l.length e21) = U := ⟨_, rfl⟩
      rw [hV1]
      replace w17 := own_put (u := (.slice q21 l.length e21)) w17 B6 (by decide)
      replace w21 := own_put (u := (.slice q21 l.length e21)) w21 B6 (by decide)
      replace B5 := box_off (G := g6) (u := (.slice q21 l.length e21)) B5 n5_6
      replace B6 := box_put (u := (.slice q21 l.length e21)) B6
      rw [hV1] at w17
      rw [hV1] at w21
      rw [hV1] at B5
      rw [hV1] at B6
      replace hB : Below w0.heap.size w0 V1 := by rw [← hV1]; exact HN1.out
      clear ca1 cb1 HN1 hV1
      refine wpAnyH_done (by kernel_rfl) ?_ _
      refine NoPanic.normal ?_
      exact hQ.out (.slice q17 lt.length e17) (.slice q21 l.length e21) g5 g6 V1 hB (box_cell B5).1 (box_cell B6).1 w17 w21
    | succ m ih =>
      intro b2 b6 b7 b8 v17 v21 v5 v6 V hm h0 hB o17 o21 x_5 x_6
      have hC : w0.heap.size ≤ V.heap.size := hB.size
      cases b2 with
      | true =>
        cases b6 with
        | true =>
          cases b7 with
          | true =>
            cases b8 with
            | true =>
              simp [Go.Proofs.Ytdcjjfipnilmpaa.nb] at hm
            | false =>
              refine wpAnyH_ready (rs := [8]) (by kernel_rfl) (by simp) ?_
              refine AllReadyH.cons (o := { dst := some 6, op := Go.Op.alloc 22, type := 0, pos := "goods.go:94", after := #[], guard := none }) (by rfl) (fun K' hK' => ?_) (AllReadyH.nil)
              · go_simp
                go_wp2_with fail
                refine hK'.out _ _ (below_call hB hC (alloc_below _ _)) (fun _ => ?_)
                clear hK' K'
                try simp only [List.setIfInBounds_toArray, List.set_cons_zero, List.set_cons_succ]
                exact ih true true true true v17 v21 v5 (.pointer (some ⟨V.heap.size, 0, none⟩)) _ (by simp [Go.Proofs.Ytdcjjfipnilmpaa.nb] at hm ⊢ <;> omega) (by decide) (below_call hB hC (alloc_below V _)) (got_below o17 (alloc_below V _)) (got_below o21 (alloc_below V _)) (abox_below x_5 (alloc_below V _)) (abox_new 22 hC true)
          | false =>
            cases b8 with
            | true =>
              refine wpAnyH_ready (rs := [7]) (by kernel_rfl) (by simp) ?_
              refine AllReadyH.cons (o := { dst := some 5, op := Go.Op.alloc 26, type := 0, pos := "goods.go:94", after := #[], guard := none }) (by rfl) (fun K' hK' => ?_) (AllReadyH.nil)
              · go_simp
                go_wp2_with fail
                refine hK'.out _ _ (below_call hB hC (alloc_below _ _)) (fun _ => ?_)
                clear hK' K'
                try simp only [List.setIfInBounds_toArray, List.set_cons_zero, List.set_cons_succ]
                exact ih true true true true v17 v21 (.pointer (some ⟨V.heap.size, 0, none⟩)) v6 _ (by simp [Go.Proofs.Ytdcjjfipnilmpaa.nb] at hm ⊢ <;> omega) (by decide) (below_call hB hC (alloc_below V _)) (got_below o17 (alloc_below V _)) (got_below o21 (alloc_below V _)) (abox_new 26 hC true) (abox_below x_6 (alloc_below V _))
            | false =>
              refine wpAnyH_ready (rs := [7, 8]) (by kernel_rfl) (by simp) ?_
              refine AllReadyH.cons (o := { dst := some 5, op := Go.Op.alloc 26, type := 0, pos := "goods.go:94", after := #[], guard := none }) (by rfl) (fun K' hK' => ?_) (AllReadyH.cons (o := { dst := some 6, op := Go.Op.alloc 22, type := 0, pos := "goods.go:94", after := #[], guard := none }) (by rfl) (fun K' hK' => ?_) (AllReadyH.nil))
              · go_simp
                go_wp2_with fail
                refine hK'.out _ _ (below_call hB hC (alloc_below _ _)) (fun _ => ?_)
                clear hK' K'
                try simp only [List.setIfInBounds_toArray, List.set_cons_zero, List.set_cons_succ]
                exact ih true true true false v17 v21 (.pointer (some ⟨V.heap.size, 0, none⟩)) v6 _ (by simp [Go.Proofs.Ytdcjjfipnilmpaa.nb] at hm ⊢ <;> omega) (by decide) (below_call hB hC (alloc_below V _)) (got_below o17 (alloc_below V _)) (got_below o21 (alloc_below V _)) (abox_new 26 hC true) (abox_below x_6 (alloc_below V _))
              · go_simp
                go_wp2_with fail
                refine hK'.out _ _ (below_call hB hC (alloc_below _ _)) (fun _ => ?_)
                clear hK' K'
                try simp only [List.setIfInBounds_toArray, List.set_cons_zero, List.set_cons_succ]
                exact ih true true false true v17 v21 v5 (.pointer (some ⟨V.heap.size, 0, none⟩)) _ (by simp [Go.Proofs.Ytdcjjfipnilmpaa.nb] at hm ⊢ <;> omega) (by decide) (below_call hB hC (alloc_below V _)) (got_below o17 (alloc_below V _)) (got_below o21 (alloc_below V _)) (abox_below x_5 (alloc_below V _)) (abox_new 22 hC true)
        | false =>
          cases b7 with
          | true =>
            cases b8 with
            | true =>
              refine wpAnyH_ready (rs := [6]) (by kernel_rfl) (by simp) ?_
              refine AllReadyH.cons (o := { dst := some 21, op := Go.Op.call { callee := Go.Callee.value (Go.Operand.func 24), args := #[Go.Operand.tmp 20], argTypes := #[22] }, type := 22, pos := "goods.go:94", after := #[{ on := 5, ground := Go.Ground.data }, { on := 2, ground := Go.Ground.chain }], guard := none }) (by rfl) (fun K' hK' => ?_) (AllReadyH.nil)
              · go_simp
                go_at_call 24
                refine (HC2.out V hB).mono ?_
                rintro e V' ⟨⟨v, rfl, hv⟩, hb'⟩
                go_wp2_with fail
                refine hK'.out _ _ (below_call hB hC hb') (fun _ => ?_)
                clear hK' K'
                try simp only [List.setIfInBounds_toArray, List.set_cons_zero, List.set_cons_succ]
                exact ih true true true true v17 v v5 v6 V' (by simp [Go.Proofs.Ytdcjjfipnilmpaa.nb] at hm ⊢ <;> omega) (by decide) (below_call hB hC hb') (got_below o17 hb') (got_yes (own_mono hv hC)) (abox_below x_5 hb') (abox_below x_6 hb')
            | false =>
              refine wpAnyH_ready (rs := [6, 8]) (by kernel_rfl) (by simp) ?_
              refine AllReadyH.cons (o := { dst := some 21, op := Go.Op.call { callee := Go.Callee.value (Go.Operand.func 24), args := #[Go.Operand.tmp 20], argTypes := #[22] }, type := 22, pos := "goods.go:94", after := #[{ on := 5, ground := Go.Ground.data }, { on := 2, ground := Go.Ground.chain }], guard := none }) (by rfl) (fun K' hK' => ?_) (AllReadyH.cons (o := { dst := some 6, op := Go.Op.alloc 22, type := 0, pos := "goods.go:94", after := #[], guard := none }) (by rfl) (fun K' hK' => ?_) (AllReadyH.nil))
              · go_simp
                go_at_call 24
                refine (HC2.out V hB).mono ?_
                rintro e V' ⟨⟨v, rfl, hv⟩, hb'⟩
                go_wp2_with fail
                refine hK'.out _ _ (below_call hB hC hb') (fun _ => ?_)
                clear hK' K'
                try simp only [List.setIfInBounds_toArray, List.set_cons_zero, List.set_cons_succ]
                exact ih true true true false v17 v v5 v6 V' (by simp [Go.Proofs.Ytdcjjfipnilmpaa.nb] at hm ⊢ <;> omega) (by decide) (below_call hB hC hb') (got_below o17 hb') (got_yes (own_mono hv hC)) (abox_below x_5 hb') (abox_below x_6 hb')
              · go_simp
                go_wp2_with fail
                refine hK'.out _ _ (below_call hB hC (alloc_below _ _)) (fun _ => ?_)
                clear hK' K'
                try simp only [List.setIfInBounds_toArray, List.set_cons_zero, List.set_cons_succ]
                exact ih true false true true v17 v21 v5 (.pointer (some ⟨V.heap.size, 0, none⟩)) _ (by simp [Go.Proofs.Ytdcjjfipnilmpaa.nb] at hm ⊢ <;> omega) (by decide) (below_call hB hC (alloc_below V _)) (got_below o17 (alloc_below V _)) (got_below o21 (alloc_below V _)) (abox_below x_5 (alloc_below V _)) (abox_new 22 hC true)
          | false =>
            cases b8 with
            | true =>
              refine wpAnyH_ready (rs := [6, 7]) (by kernel_rfl) (by simp) ?_
              refine AllReadyH.cons (o := { dst := some 21, op := Go.Op.call { callee := Go.Callee.value (Go.Operand.func 24), args := #[Go.Operand.tmp 20], argTypes := #[22] }, type := 22, pos := "goods.go:94", after := #[{ on := 5, ground := Go.Ground.data }, { on := 2, ground := Go.Ground.chain }], guard := none }) (by rfl) (fun K' hK' => ?_) (AllReadyH.cons (o := { dst := some 5, op := Go.Op.alloc 26, type := 0, pos := "goods.go:94", after := #[], guard := none }) (by rfl) (fun K' hK' => ?_) (AllReadyH.nil))
              · go_simp
                go_at_call 24
                refine (HC2.out V hB).mono ?_
                rintro e V' ⟨⟨v, rfl, hv⟩, hb'⟩
                go_wp2_with fail
                refine hK'.out _ _ (below_call hB hC hb') (fun _ => ?_)
                clear hK' K'
                try simp only [List.setIfInBounds_toArray, List.set_cons_zero, List.set_cons_succ]
                exact ih true true false true v17 v v5 v6 V' (by simp [Go.Proofs.Ytdcjjfipnilmpaa.nb] at hm ⊢ <;> omega) (by decide) (below_call hB hC hb') (got_below o17 hb') (got_yes (own_mono hv hC)) (abox_below x_5 hb') (abox_below x_6 hb')
              · go_simp
                go_wp2_with fail
                refine hK'.out _ _ (below_call hB hC (alloc_below _ _)) (fun _ => ?_)
                clear hK' K'
                try simp only [List.setIfInBounds_toArray, List.set_cons_zero, List.set_cons_succ]
                exact ih true false true true v17 v21 (.pointer (some ⟨V.heap.size, 0, none⟩)) v6 _ (by simp [Go.Proofs.Ytdcjjfipnilmpaa.nb] at hm ⊢ <;> omega) (by decide) (below_call hB hC (alloc_below V _)) (got_below o17 (alloc_below V _)) (got_below o21 (alloc_below V _)) (abox_new 26 hC true) (abox_below x_6 (alloc_below V _))
            | false =>
              refine wpAnyH_ready (rs := [6, 7, 8]) (by kernel_rfl) (by simp) ?_
              refine AllReadyH.cons (o := { dst := some 21, op := Go.Op.call { callee := Go.Callee.value (Go.Operand.func 24), args := #[Go.Operand.tmp 20], argTypes := #[22] }, type := 22, pos := "goods.go:94", after := #[{ on := 5, ground := Go.Ground.data }, { on := 2, ground := Go.Ground.chain }], guard := none }) (by rfl) (fun K' hK' => ?_) (AllReadyH.cons (o := { dst := some 5, op := Go.Op.alloc 26, type := 0, pos := "goods.go:94", after := #[], guard := none }) (by rfl) (fun K' hK' => ?_) (AllReadyH.cons (o := { dst := some 6, op := Go.Op.alloc 22, type := 0, pos := "goods.go:94", after := #[], guard := none }) (by rfl) (fun K' hK' => ?_) (AllReadyH.nil)))
              · go_simp
                go_at_call 24
                refine (HC2.out V hB).mono ?_
                rintro e V' ⟨⟨v, rfl, hv⟩, hb'⟩
                go_wp2_with fail
                refine hK'.out _ _ (below_call hB hC hb') (fun _ => ?_)
                clear hK' K'
                try simp only [List.setIfInBounds_toArray, List.set_cons_zero, List.set_cons_succ]
                exact ih true true false false v17 v v5 v6 V' (by simp [Go.Proofs.Ytdcjjfipnilmpaa.nb] at hm ⊢ <;> omega) (by decide) (below_call hB hC hb') (got_below o17 hb') (got_yes (own_mono hv hC)) (abox_below x_5 hb') (abox_below x_6 hb')
              · go_simp
                go_wp2_with fail
                refine hK'.out _ _ (below_call hB hC (alloc_below _ _)) (fun _ => ?_)
                clear hK' K'
                try simp only [List.setIfInBounds_toArray, List.set_cons_zero, List.set_cons_succ]
                exact ih true false true false v17 v21 (.pointer (some ⟨V.heap.size, 0, none⟩)) v6 _ (by simp [Go.Proofs.Ytdcjjfipnilmpaa.nb] at hm ⊢ <;> omega) (by decide) (below_call hB hC (alloc_below V _)) (got_below o17 (alloc_below V _)) (got_below o21 (alloc_below V _)) (abox_new 26 hC true) (abox_below x_6 (alloc_below V _))
              · go_simp
                go_wp2_with fail
                refine hK'.out _ _ (below_call hB hC (alloc_below _ _)) (fun _ => ?_)
                clear hK' K'
                try simp only [List.setIfInBounds_toArray, List.set_cons_zero, List.set_cons_succ]
                exact ih true false false true v17 v21 v5 (.pointer (some ⟨V.heap.size, 0, none⟩)) _ (by simp [Go.Proofs.Ytdcjjfipnilmpaa.nb] at hm ⊢ <;> omega) (by decide) (below_call hB hC (alloc_below V _)) (got_below o17 (alloc_below V _)) (got_below o21 (alloc_below V _)) (abox_below x_5 (alloc_below V _)) (abox_new 22 hC true)
      | false =>
        cases b6 with
        | true =>
          cases b7 with
          | true =>
            cases b8 with
            | true =>
              exact absurd (h0 rfl) (by decide)
            | false =>
              exact absurd (h0 rfl) (by decide)
          | false =>
            cases b8 with
            | true =>
              exact absurd (h0 rfl) (by decide)
            | false =>
              exact absurd (h0 rfl) (by decide)
        | false =>
          cases b7 with
          | true =>
            cases b8 with
            | true =>
              refine wpAnyH_ready (rs := [2]) (by kernel_rfl) (by simp) ?_
              refine AllReadyH.cons (o := { dst := some 17, op := Go.Op.call { callee := Go.Callee.value (Go.Operand.func 23), args := #[Go.Operand.tmp 16], argTypes := #[26] }, type := 26, pos := "goods.go:94", after := #[{ on := 1, ground := Go.Ground.data }], guard := none }) (by rfl) (fun K' hK' => ?_) (AllReadyH.nil)
              · go_simp
                go_at_call 23
                refine (HC1.out V hB).mono ?_
                rintro e V' ⟨⟨v, rfl, hv⟩, hb'⟩
                go_wp2_with fail
                refine hK'.out _ _ (below_call hB hC hb') (fun _ => ?_)
                clear hK' K'
                try simp only [List.setIfInBounds_toArray, List.set_cons_zero, List.set_cons_succ]
                exact ih true false true true v v21 v5 v6 V' (by simp [Go.Proofs.Ytdcjjfipnilmpaa.nb] at hm ⊢ <;> omega) (by decide) (below_call hB hC hb') (got_yes (own_mono hv hC)) (got_below o21 hb') (abox_below x_5 hb') (abox_below x_6 hb')
            | false =>
              refine wpAnyH_ready (rs := [2, 8]) (by kernel_rfl) (by simp) ?_
              refine AllReadyH.cons (o := { dst := some 17, op := Go.Op.call { callee := Go.Callee.value (Go.Operand.func 23), args := #[Go.Operand.tmp 16], argTypes := #[26] }, type := 26, pos := "goods.go:94", after := #[{ on := 1, ground := Go.Ground.data }], guard := none }) (by rfl) (fun K' hK' => ?_) (AllReadyH.cons (o := { dst := some 6, op := Go.Op.alloc 22, type := 0, pos := "goods.go:94", after := #[], guard := none }) (by rfl) (fun K' hK' => ?_) (AllReadyH.nil))
              · go_simp
                go_at_call 23
                refine (HC1.out V hB).mono ?_
                rintro e V' ⟨⟨v, rfl, hv⟩, hb'⟩
                go_wp2_with fail
                refine hK'.out _ _ (below_call hB hC hb') (fun _ => ?_)
                clear hK' K'
                try simp only [List.setIfInBounds_toArray, List.set_cons_zero, List.set_cons_succ]
                exact ih true false true false v v21 v5 v6 V' (by simp [Go.Proofs.Ytdcjjfipnilmpaa.nb] at hm ⊢ <;> omega) (by decide) (below_call hB hC hb') (got_yes (own_mono hv hC)) (got_below o21 hb') (abox_below x_5 hb') (abox_below x_6 hb')
              · go_simp
                go_wp2_with fail
                refine hK'.out _ _ (below_call hB hC (alloc_below _ _)) (fun _ => ?_)
                clear hK' K'
                try simp only [List.setIfInBounds_toArray, List.set_cons_zero, List.set_cons_succ]
                exact ih false false true true v17 v21 v5 (.pointer (some ⟨V.heap.size, 0, none⟩)) _ (by simp [Go.Proofs.Ytdcjjfipnilmpaa.nb] at hm ⊢ <;> omega) (by decide) (below_call hB hC (alloc_below V _)) (got_below o17 (alloc_below V _)) (got_below o21 (alloc_below V _)) (abox_below x_5 (alloc_below V _)) (abox_new 22 hC true)
          | false =>
            cases b8 with
            | true =>
              refine wpAnyH_ready (rs := [2, 7]) (by kernel_rfl) (by simp) ?_
              refine AllReadyH.cons (o := { dst := some 17, op := Go.Op.call { callee := Go.Callee.value (Go.Operand.func 23), args := #[Go.Operand.tmp 16], argTypes := #[26] }, type := 26, pos := "goods.go:94", after := #[{ on := 1, ground := Go.Ground.data }], guard := none }) (by rfl) (fun K' hK' => ?_) (AllReadyH.cons (o := { dst := some 5, op := Go.Op.alloc 26, type := 0, pos := "goods.go:94", after := #[], guard := none }) (by rfl) (fun K' hK' => ?_) (AllReadyH.nil))
              · go_simp
                go_at_call 23
                refine (HC1.out V hB).mono ?_
                rintro e V' ⟨⟨v, rfl, hv⟩, hb'⟩
                go_wp2_with fail
                refine hK'.out _ _ (below_call hB hC hb') (fun _ => ?_)
                clear hK' K'
                try simp only [List.setIfInBounds_toArray, List.set_cons_zero, List.set_cons_succ]
                exact ih true false false true v v21 v5 v6 V' (by simp [Go.Proofs.Ytdcjjfipnilmpaa.nb] at hm ⊢ <;> omega) (by decide) (below_call hB hC hb') (got_yes (own_mono hv hC)) (got_below o21 hb') (abox_below x_5 hb') (abox_below x_6 hb')
              · go_simp
                go_wp2_with fail
                refine hK'.out _ _ (below_call hB hC (alloc_below _ _)) (fun _ => ?_)
                clear hK' K'
                try simp only [List.setIfInBounds_toArray, List.set_cons_zero, List.set_cons_succ]
                exact ih false false true true v17 v21 (.pointer (some ⟨V.heap.size, 0, none⟩)) v6 _ (by simp [Go.Proofs.Ytdcjjfipnilmpaa.nb] at hm ⊢ <;> omega) (by decide) (below_call hB hC (alloc_below V _)) (got_below o17 (alloc_below V _)) (got_below o21 (alloc_below V _)) (abox_new 26 hC true) (abox_below x_6 (alloc_below V _))
            | false =>
              refine wpAnyH_ready (rs := [2, 7, 8]) (by kernel_rfl) (by simp) ?_
              refine AllReadyH.cons (o := { dst := some 17, op := Go.Op.call { callee := Go.Callee.value (Go.Operand.func 23), args := #[Go.Operand.tmp 16], argTypes := #[26] }, type := 26, pos := "goods.go:94", after := #[{ on := 1, ground := Go.Ground.data }], guard := none }) (by rfl) (fun K' hK' => ?_) (AllReadyH.cons (o := { dst := some 5, op := Go.Op.alloc 26, type := 0, pos := "goods.go:94", after := #[], guard := none }) (by rfl) (fun K' hK' => ?_) (AllReadyH.cons (o := { dst := some 6, op := Go.Op.alloc 22, type := 0, pos := "goods.go:94", after := #[], guard := none }) (by rfl) (fun K' hK' => ?_) (AllReadyH.nil)))
              · go_simp
                go_at_call 23
                refine (HC1.out V hB).mono ?_
                rintro e V' ⟨⟨v, rfl, hv⟩, hb'⟩
                go_wp2_with fail
                refine hK'.out _ _ (below_call hB hC hb') (fun _ => ?_)
                clear hK' K'
                try simp only [List.setIfInBounds_toArray, List.set_cons_zero, List.set_cons_succ]
                exact ih true false false false v v21 v5 v6 V' (by simp [Go.Proofs.Ytdcjjfipnilmpaa.nb] at hm ⊢ <;> omega) (by decide) (below_call hB hC hb') (got_yes (own_mono hv hC)) (got_below o21 hb') (abox_below x_5 hb') (abox_below x_6 hb')
              · go_simp
                go_wp2_with fail
                refine hK'.out _ _ (below_call hB hC (alloc_below _ _)) (fun _ => ?_)
                clear hK' K'
                try simp only [List.setIfInBounds_toArray, List.set_cons_zero, List.set_cons_succ]
                exact ih false false true false v17 v21 (.pointer (some ⟨V.heap.size, 0, none⟩)) v6 _ (by simp [Go.Proofs.Ytdcjjfipnilmpaa.nb] at hm ⊢ <;> omega) (by decide) (below_call hB hC (alloc_below V _)) (got_below o17 (alloc_below V _)) (got_below o21 (alloc_below V _)) (abox_new 26 hC true) (abox_below x_6 (alloc_below V _))
              · go_simp
                go_wp2_with fail
                refine hK'.out _ _ (below_call hB hC (alloc_below _ _)) (fun _ => ?_)
                clear hK' K'
                try simp only [List.setIfInBounds_toArray, List.set_cons_zero, List.set_cons_succ]
                exact ih false false false true v17 v21 v5 (.pointer (some ⟨V.heap.size, 0, none⟩)) _ (by simp [Go.Proofs.Ytdcjjfipnilmpaa.nb] at hm ⊢ <;> omega) (by decide) (below_call hB hC (alloc_below V _)) (got_below o17 (alloc_below V _)) (got_below o21 (alloc_below V _)) (abox_below x_5 (alloc_below V _)) (abox_new 22 hC true)
  refine wp_region_noPanic ?_
  refine wp_region_held_drew (S := (fun V => Below w0.heap.size w0 V)) (by kernel_rfl) (Below.drew (Below.refl _ _)) (fun hHeld => ?_)
  refine wpAnyH_take (i := 0) (oi := { dst := some 15, op := Go.Op.fieldAddr 28 (Go.Operand.tmp 2) 4, type := 0, pos := "goods.go:94", after := #[], guard := none }) (v := .pointer (some ⟨F, 6, none⟩)) (by rfl) (by kernel_rfl) (by kernel_rfl) (by kernel_rfl) (fun _ _ _ h => h) (Or.inl ⟨by rfl, by intro V hV; obtain ⟨z0, z1, z2, z3, z4, z5, z6, z7, z8⟩ := HBX.out V hV; go_simp⟩) hHeld ?_
  try simp only [Act.put, List.setIfInBounds_toArray, List.set_cons_zero, List.set_cons_succ]
  refine wpAnyH_take (i := 1) (oi := { dst := some 16, op := Go.Op.load 26 (Go.Operand.tmp 15), type := 26, pos := "goods.go:94", after := #[{ on := 0, ground := Go.Ground.data }], guard := none }) (v := .slice pt nt ct) (by rfl) (by kernel_rfl) (by kernel_rfl) (by kernel_rfl) (fun _ _ _ h => h) (Or.inl ⟨by rfl, by intro V hV; obtain ⟨z0, z1, z2, z3, z4, z5, z6, z7, z8⟩ := HBX.out V hV; go_simp⟩) hHeld ?_
  try simp only [Act.put, List.setIfInBounds_toArray, List.set_cons_zero, List.set_cons_succ]
  refine wpAnyH_take (i := 3) (oi := { dst := some 18, op := Go.Op.fieldAddr 28 (Go.Operand.tmp 2) 0, type := 0, pos := "goods.go:94", after := #[], guard := none }) (v := .pointer (some ⟨F, 0, none⟩)) (by rfl) (by kernel_rfl) (by kernel_rfl) (by kernel_rfl) (fun _ _ _ h => h) (Or.inl ⟨by rfl, by intro V hV; obtain ⟨z0, z1, z2, z3, z4, z5, z6, z7, z8⟩ := HBX.out V hV; go_simp⟩) hHeld ?_
  try simp only [Act.put, List.setIfInBounds_toArray, List.set_cons_zero, List.set_cons_succ]
  refine wpAnyH_take (i := 4) (oi := { dst := some 19, op := Go.Op.fieldAddr 24 (Go.Operand.tmp 18) 2, type := 0, pos := "goods.go:94", after := #[{ on := 3, ground := Go.Ground.data }], guard := none }) (v := .pointer (some ⟨F, 2, none⟩)) (by rfl) (by kernel_rfl) (by kernel_rfl) (by kernel_rfl) (fun _ _ _ h => h) (Or.inl ⟨by rfl, by intro V hV; obtain ⟨z0, z1, z2, z3, z4, z5, z6, z7, z8⟩ := HBX.out V hV; go_simp⟩) hHeld ?_
  try simp only [Act.put, List.setIfInBounds_toArray, List.set_cons_zero, List.set_cons_succ]
  refine wpAnyH_take (i := 5) (oi := { dst := some 20, op := Go.Op.load 22 (Go.Operand.tmp 19), type := 22, pos := "goods.go:94", after := #[{ on := 4, ground := Go.Ground.data }], guard := none }) (v := .slice p n c) (by rfl) (by kernel_rfl) (by kernel_rfl) (by kernel_rfl) (fun _ _ _ h => h) (Or.inl ⟨by rfl, by intro V hV; obtain ⟨z0, z1, z2, z3, z4, z5, z6, z7, z8⟩ := HBX.out V hV; go_simp⟩) hHeld ?_
  try simp only [Act.put, List.setIfInBounds_toArray, List.set_cons_zero, List.set_cons_succ]
  exact key 4 false false false false x17 x21 x5 x6 _ (by rfl) (fun e1 => by cases e1) hHeld got_no got_no abox_no abox_no
def ops2 : Array Oper := #[{ dst := some 22, op := Go.Op.fieldAddr 28 (Go.Operand.tmp 2) 1, type := 0, pos := "goods.go:95", after := #[], guard := none }, { dst := some 23, op := Go.Op.load 25 (Go.Operand.tmp 22), type := 25, pos := "goods.go:95", after := #[{ on := 0, ground := Go.Ground.data }], guard := none }, { dst := some 24, op := Go.Op.call { callee := Go.Callee.value (Go.Operand.func 25), args := #[Go.Operand.tmp 23], argTypes := #[25] }, type := 25, pos := "goods.go:95", after := #[{ on := 1, ground := Go.Ground.data }], guard := none }, { dst := some 25, op := Go.Op.fieldAddr 28 (Go.Operand.tmp 2) 2, type := 0, pos := "goods.go:95", after := #[], guard := none }, { dst := some 26, op := Go.Op.load 22 (Go.Operand.tmp 25), type := 22, pos := "goods.go:95", after := #[{ on := 3, ground := Go.Ground.data }], guard := none }, { dst := some 27, op := Go.Op.call { callee := Go.Callee.value (Go.Operand.func 24), args := #[Go.Operand.tmp 26], argTypes := #[22] }, type := 22, pos := "goods.go:95", after := #[{ on := 4, ground := Go.Ground.data }, { on := 2, ground := Go.Ground.chain }], guard := none }, { dst := some 28, op := Go.Op.fieldAddr 28 (Go.Operand.tmp 2) 3, type := 0, pos := "goods.go:95", after := #[], guard := none }, { dst := some 29, op := Go.Op.load 22 (Go.Operand.tmp 28), type := 22, pos := "goods.go:95", after := #[{ on := 6, ground := Go.Ground.data }], guard := none }, { dst := some 30, op := Go.Op.call { callee := Go.Callee.value (Go.Operand.func 24), args := #[Go.Operand.tmp 29], argTypes := #[22] }, type := 22, pos := "goods.go:95", after := #[{ on := 7, ground := Go.Ground.data }, { on := 5, ground := Go.Ground.chain }], guard := none }, { dst := some 7, op := Go.Op.alloc 25, type := 0, pos := "goods.go:95", after := #[], guard := none }, { dst := some 8, op := Go.Op.alloc 22, type := 0, pos := "goods.go:95", after := #[], guard := none }, { dst := some 9, op := Go.Op.alloc 22, type := 0, pos := "goods.go:95", after := #[], guard := none }, { dst := none, op := Go.Op.store 25 (Go.Operand.tmp 7) (Go.Operand.tmp 24), type := 0, pos := "goods.go:95", after := #[{ on := 9, ground := Go.Ground.data }, { on := 2, ground := Go.Ground.data }, { on := 8, ground := Go.Ground.chain }, { on := 0, ground := Go.Ground.phase }, { on := 1, ground := Go.Ground.phase }, { on := 2, ground := Go.Ground.phase }, { on := 3, ground := Go.Ground.textOnly Go.Departure.lateStores }, { on := 4, ground := Go.Ground.textOnly Go.Departure.lateStores }, { on := 5, ground := Go.Ground.textOnly Go.Departure.lateStoresUnsure }, { on := 6, ground := Go.Ground.textOnly Go.Departure.lateStores }, { on := 7, ground := Go.Ground.textOnly Go.Departure.lateStores }, { on := 8, ground := Go.Ground.textOnly Go.Departure.lateStoresUnsure }, { on := 9, ground := Go.Ground.phase }, { on := 10, ground := Go.Ground.phase }, { on := 11, ground := Go.Ground.phase }], guard := none }, { dst := none, op := Go.Op.store 22 (Go.Operand.tmp 8) (Go.Operand.tmp 27), type := 0, pos := "goods.go:95", after := #[{ on := 10, ground := Go.Ground.data }, { on := 5, ground := Go.Ground.data }, { on := 12, ground := Go.Ground.chain }, { on := 0, ground := Go.Ground.phase }, { on := 1, ground := Go.Ground.phase }, { on := 2, ground := Go.Ground.phase }, { on := 3, ground := Go.Ground.phase }, { on := 4, ground := Go.Ground.phase }, { on := 5, ground := Go.Ground.phase }, { on := 6, ground := Go.Ground.textOnly Go.Departure.lateStores }, { on := 7, ground := Go.Ground.textOnly Go.Departure.lateStores }, { on := 8, ground := Go.Ground.textOnly Go.Departure.lateStoresUnsure }, { on := 9, ground := Go.Ground.phase }, { on := 10, ground := Go.Ground.phase }, { on := 11, ground := Go.Ground.phase }, { on := 12, ground := Go.Ground.phase }], guard := none }, { dst := none, op := Go.Op.store 22 (Go.Operand.tmp 9) (Go.Operand.tmp 30), type := 0, pos := "goods.go:95", after := #[{ on := 11, ground := Go.Ground.data }, { on := 8, ground := Go.Ground.data }, { on := 13, ground := Go.Ground.chain }, { on := 0, ground := Go.Ground.phase }, { on := 1, ground := Go.Ground.phase }, { on := 2, ground := Go.Ground.phase }, { on := 3, ground := Go.Ground.phase }, { on := 4, ground := Go.Ground.phase }, { on := 5, ground := Go.Ground.phase }, { on := 6, ground := Go.Ground.phase }, { on := 7, ground := Go.Ground.phase }, { on := 8, ground := Go.Ground.phase }, { on := 9, ground := Go.Ground.phase }, { on := 10, ground := Go.Ground.phase }, { on := 11, ground := Go.Ground.phase }, { on := 12, ground := Go.Ground.phase }, { on := 13, ground := Go.Ground.phase }], guard := none }]
set_option maxRecDepth 40000 in
set_option maxHeartbeats 16000000 in
theorem reg2 (F : Nat) (A B N T : Int) (p pb ps pm pt : Option Addr) (n c nb cb ns cs nm cm nt ct : Nat) (l ls lm : List Int) (lb : List Cel) (lt : List Trp) (w0 : World) (x0 x1 x3 x4 x5 x6 x7 x8 x9 x10 x11 x12 x13 x14 x15 x16 x17 x18 x19 x20 x21 x22 x23 x24 x25 x26 x27 x28 x29 x30 x31 x32 x33 x34 x35 x36 x37 x38 x39 x40 x41 x42 x43 x44 x45 x46 x47 x48 x49 x50 : Value) (Q : Exit → Act → World → Prop)
    (hx : bx9 w0 F (.int .i64 A) (.int .i64 B) (.slice p n c) (.slice pb nb cb) (.slice ps ns cs) (.slice pm nm cm) (.slice pt nt ct) (.int .i64 N) (.int .i64 T)) (HC1 : Hid (∀ V, Below w0.heap.size w0 V → Calls Try.prog 25 #[.slice pb nb cb] V fun e w' => (∃ v, e = .returned v ∧ w'.ownsRow V.heap.size 45 2 v lb.length (flat2 lb)) ∧ Below V.heap.size V w')) (HC2 : Hid (∀ V, Below w0.heap.size w0 V → Calls Try.prog 24 #[.slice ps ns cs] V fun e w' => (∃ v, e = .returned v ∧ w'.ownsRow V.heap.size 3 1 v ls.length (ls.map vi)) ∧ Below V.heap.size V w')) (HC3 : Hid (∀ V, Below w0.heap.size w0 V → Calls Try.prog 24 #[.slice pm nm cm] V fun e w' => (∃ v, e = .returned v ∧ w'.ownsRow V.heap.size 3 1 v lm.length (lm.map vi)) ∧ Below V.heap.size V w'))
    (hQ : Hid (∀ v24 v27 v30 g7 g8 g9 V, Below w0.heap.size w0 V → V.cell? ⟨g7, 0, none⟩ = some v24 → V.cell? ⟨g8, 0, none⟩ = some v27 → V.cell? ⟨g9, 0, none⟩ = some v30 → V.ownsRow w0.heap.size 45 2 v24 lb.length (flat2 lb) → V.ownsRow w0.heap.size 3 1 v27 ls.length (ls.map vi) → V.ownsRow w0.heap.size 3 1 v30 lm.length (lm.map vi) → Q .normal { tmps := #[x0, x1, .pointer (some ⟨F, 0, none⟩), x3, x4, x5, x6, .pointer (some ⟨g7, 0, none⟩), .pointer (some ⟨g8, 0, none⟩), .pointer (some ⟨g9, 0, none⟩), x10, x11, x12, x13, x14, x15, x16, x17, x18, x19, x20, x21, .pointer (some ⟨F, 3, none⟩), .slice pb nb cb, v24, .pointer (some ⟨F, 4, none⟩), .slice ps ns cs, v27, .pointer (some ⟨F, 5, none⟩), .slice pm nm cm, v30, x31, x32, x33, x34, x35, x36, x37, x38, x39, x40, x41, x42, x43, x44, x45, x46, x47, x48, x49, x50], defers := [] } V)) :
    (Code.region 2 ops2 true).wp Try.prog Q { tmps := #[x0, x1, .pointer (some ⟨F, 0, none⟩), x3, x4, x5, x6, x7, x8, x9, x10, x11, x12, x13, x14, x15, x16, x17, x18, x19, x20, x21, x22, x23, x24, x25, x26, x27, x28, x29, x30, x31, x32, x33, x34, x35, x36, x37, x38, x39, x40, x41, x42, x43, x44, x45, x46, x47, x48, x49, x50], defers := [] } w0 := by
  have HBX : Hid (∀ V, Below w0.heap.size w0 V → c9 V F (.int .i64 A) (.int .i64 B) (.slice p n c) (.slice pb nb cb) (.slice ps ns cs) (.slice pm nm cm) (.slice pt nt ct) (.int .i64 N) (.int .i64 T)) := fun V hV => bx9_c9 (bx9_below hx hV)
  clear hx
  have key : ∀ (m : Nat) (b2 b5 b8 b9 b10 b11 : Bool) (v24 v27 v30 v7 v8 v9 : Value) (V : World), Go.Proofs.Ytdcjjfipnilmpaa.nb b2 + Go.Proofs.Ytdcjjfipnilmpaa.nb b5 + Go.Proofs.Ytdcjjfipnilmpaa.nb b8 + Go.Proofs.Ytdcjjfipnilmpaa.nb b9 + Go.Proofs.Ytdcjjfipnilmpaa.nb b10 + Go.Proofs.Ytdcjjfipnilmpaa.nb b11 = m → (b5 = true → b2 = true) → (b8 = true → b5 = true) → Below w0.heap.size w0 V → got b2 w0.heap.size V 45 2 v24 lb.length (flat2 lb) → got b5 w0.heap.size V 3 1 v27 ls.length (ls.map vi) → got b8 w0.heap.size V 3 1 v30 lm.length (lm.map vi) → abox b9 w0.heap.size V 25 v7 → abox b10 w0.heap.size V 22 v8 → abox b11 w0.heap.size V 22 v9 → (b10 = true → b11 = true → v8 ≠ v9) → wpAnyH Try.prog .any ops2 (NoPanic Q) (fun V => Below w0.heap.size w0 V) (m + 3) #[true, true, b2, true, true, b5, true, true, b8, b9, b10, b11, false, false, false] { tmps := #[x0, x1, .pointer (some ⟨F, 0, none⟩), x3, x4, x5, x6, v7, v8, v9, x10, x11, x12, x13, x14, x15, x16, x17, x18, x19, x20, x21, .pointer (some ⟨F, 3, none⟩), .slice pb nb cb, v24, .pointer (some ⟨F, 4, none⟩), .slice ps ns cs, v27, .pointer (some ⟨F, 5, none⟩), .slice pm nm cm, v30, x31, x32, x33, x34, x35, x36, x37, x38, x39, x40, x41, x42, x43, x44, x45, x46, x47, x48, x49, x50], defers := [] } V := by
    intro m
    induction m with
    | zero =>
      intro b2 b5 b8 b9 b10 b11 v24 v27 v30 v7 v8 v9 V hm h0 h1 hB o24 o27 o30 x_7 x_8 x_9 d8_9
      obtain ⟨rfl, rfl, rfl, rfl, rfl, rfl⟩ : b2 = true ∧ b5 = true ∧ b8 = true ∧ b9 = true ∧ b10 = true ∧ b11 = true := by
        revert hm
        cases b2 <;> cases b5 <;> cases b8 <;> cases b9 <;> cases b10 <;> cases b11 <;> simp [Go.Proofs.Ytdcjjfipnilmpaa.nb]
      have w24 := o24 rfl
      obtain ⟨q24, e24, rfl⟩ := mine_form w24
      have w27 := o27 rfl
      obtain ⟨q27, e27, rfl⟩ := mine_form w27
      have w30 := o30 rfl
      obtain ⟨q30, e30, rfl⟩ := mine_form w30
      obtain ⟨g7, rfl, C7, B7⟩ := x_7 rfl
      obtain ⟨g8, rfl, C8, B8⟩ := x_8 rfl
      obtain ⟨g9, rfl, C9, B9⟩ := x_9 rfl
      have n8_9 : g8 ≠ g9 := fun e => d8_9 rfl rfl (by rw [e])
      have n7_8 : g7 ≠ g8 := fun e => by rw [e, B8] at B7; simp at B7
      have n7_9 : g7 ≠ g9 := fun e => by rw [e, B9] at B7; simp at B7
      clear hm h0 h1 o24 o27 o30 x_7 x_8 x_9 d8_9
      have cc0 := box_cell B7
      obtain ⟨ca0, cb0⟩ := cc0
      refine wpAnyH_ready (rs := [12]) (by kernel_rfl) (by simp) ?_
      refine AllReadyH.cons (o := { dst := none, op := Go.Op.store 25 (Go.Operand.tmp 7) (Go.Operand.tmp 24), type := 0, pos := "goods.go:95", after := #[{ on := 9, ground := Go.Ground.data }, { on := 2, ground := Go.Ground.data }, { on := 8, ground := Go.Ground.chain }, { on := 0, ground := Go.Ground.phase }, { on := 1, ground := Go.Ground.phase }, { on := 2, ground := Go.Ground.phase }, { on := 3, ground := Go.Ground.textOnly Go.Departure.lateStores }, { on := 4, ground := Go.Ground.textOnly Go.Departure.lateStores }, { on := 5, ground := Go.Ground.textOnly Go.Departure.lateStoresUnsure }, { on := 6, ground := Go.Ground.textOnly Go.Departure.lateStores }, { on := 7, ground := Go.Ground.textOnly Go.Departure.lateStores }, { on := 8, ground := Go.Ground.textOnly Go.Departure.lateStoresUnsure }, { on := 9, ground := Go.Ground.phase }, { on := 10, ground := Go.Ground.phase }, { on := 11, ground := Go.Ground.phase }], guard := none }) (by rfl) (fun K' hK' => ?_) AllReadyH.nil
      go_simp
      go_wp2_with fail
      have HN0 : Hid (Below w0.heap.size w0 (V.setCell ⟨g7, 0, none⟩ (.slice q24 lb.length e24))) := hB.setCell C7 _
      refine hK'.out _ _ HN0.out (fun _ => ?_)
      clear hK' K'
      try simp only [List.setIfInBounds_toArray, List.set_cons_zero, List.set_cons_succ]
      obtain ⟨V0, hV0⟩ : ∃ U, V.setCell ⟨g7, 0, none⟩ (.slice q24 lb.length e24) = U := ⟨_, rfl⟩
      rw [hV0]
      replace w24 := own_put (u := (.slice q24 lb.length e24)) w24 B7 (by decide)
      replace w27 := own_put (u := (.slice q24 lb.length e24)) w27 B7 (by decide)
      replace w30 := own_put (u := (.slice q24 lb.length e24)) w30 B7 (by decide)
      replace B8 := box_off (G := g7) (u := (.slice q24 lb.length e24)) B8 (Ne.symm n7_8)
      replace B9 := box_off (G := g7) (u := (.slice q24 lb.length e24)) B9 (Ne.symm n7_9)
      replace B7 := box_put (u := (.slice q24 lb.length e24)) B7
      rw [hV0] at w24
      rw [hV0] at w27
      rw [hV0] at w30
      rw [hV0] at B7
      rw [hV0] at B8
      rw [hV0] at B9
      replace hB : Below w0.heap.size w0 V0 := by rw [← hV0]; exact HN0.out
      clear ca0 cb0 HN0 hV0
      have cc1 := box_cell B8
      obtain ⟨ca1, cb1⟩ := cc1
      refine wpAnyH_ready (rs := [13]) (by kernel_rfl) (by simp) ?_
      refine AllReadyH.cons (o := { dst := none, op := Go.Op.store 22 (Go.Operand.tmp 8) (Go.Operand.tmp 27), type := 0, pos := "goods.go:95", after := #[{ on := 10, ground := Go.Ground.data }, { on := 5, ground := Go.Ground.data }, { on := 12, ground := Go.Ground.chain }, { on := 0, ground := Go.Ground.phase }, { on := 1, ground := Go.Ground.phase }, { on := 2, ground := Go.Ground.phase }, { on := 3, ground := Go.Ground.phase }, { on := 4, ground := Go.Ground.phase }, { on := 5, ground := Go.Ground.phase }, { on := 6, ground := Go.Ground.textOnly Go.Departure.lateStores }, { on := 7, ground := Go.Ground.textOnly Go.Departure.lateStores }, { on := 8, ground := Go.Ground.textOnly Go.Departure.lateStoresUnsure }, { on := 9, ground := Go.Ground.phase }, { on := 10, ground := Go.Ground.phase }, { on := 11, ground := Go.Ground.phase }, { on := 12, ground := Go.Ground.phase }], guard := none }) (by rfl) (fun K' hK' => ?_) AllReadyH.nil
      go_simp
      go_wp2_with fail
      have HN1 : Hid (Below w0.heap.size w0 (V0.setCell ⟨g8, 0, none⟩ (.slice q27 ls.length e27))) := hB.setCell C8 _
      refine hK'.out _ _ HN1.out (fun _ => ?_)
      clear hK' K'
      try simp only [List.setIfInBounds_toArray, List.set_cons_zero, List.set_cons_succ]
      obtain ⟨V1, hV1⟩ : ∃ U, V0.setCell ⟨g8, 0, none⟩ (.slice q27 ls.length e27) = U := ⟨_, rfl⟩
      rw [hV1]
      replace w24 := own_put (u := (.slice q27 ls.length e27)) w24 B8 (by decide)
      replace w27 := own_put (u := (.slice q27 ls.length e27)) w27 B8 (by decide)
      replace w30 := own_put (u := (.slice q27 ls.length e27)) w30 B8 (by decide)
      replace B7 := box_off (G := g8) (u := (.slice q27 ls.length e27)) B7 n7_8
      replace B9 := box_off (G := g8) (u := (.slice q27 ls.length e27)) B9 (Ne.symm n8_9)
      replace B8 := box_put (u := (.slice q27 ls.length e27)) B8
      rw [hV1] at w24
      rw [hV1] at w27
      rw [hV1] at w30
      rw [hV1] at B7
      rw [hV1] at B8
      rw [hV1] at B9
      replace hB : Below w0.heap.size w0 V1 := by rw [← hV1]; exact HN1.out
      clear ca1 cb1 HN1 hV1
      have cc2 := box_cell B9
      obtain ⟨ca2, cb2⟩ := cc2
      refine wpAnyH_ready (rs := [14]) (by kernel_rfl) (by simp) ?_
      refine AllReadyH.cons (o := { dst := none, op := Go.Op.store 22 (Go.Operand.tmp 9) (Go.Operand.tmp 30), type := 0, pos := "goods.go:95", after := #[{ on := 11, ground := Go.Ground.data }, { on := 8, ground := Go.Ground.data }, { on := 13, ground := Go.Ground.chain }, { on := 0, ground := Go.Ground.phase }, { on := 1, ground := Go.Ground.phase }, { on := 2, ground := Go.Ground.phase }, { on := 3, ground := Go.Ground.phase }, { on := 4, ground := Go.Ground.phase }, { on := 5, ground := Go.Ground.phase }, { on := 6, ground := Go.Ground.phase }, { on := 7, ground := Go.Ground.phase }, { on := 8, ground := Go.Ground.phase }, { on := 9, ground := Go.Ground.phase }, { on := 10, ground := Go.Ground.phase }, { on := 11, ground := Go.Ground.phase }, { on := 12, ground := Go.Ground.phase }, { on := 13, ground := Go.Ground.phase }], guard := none }) (by rfl) (fun K' hK' => ?_) AllReadyH.nil
      go_simp
      go_wp2_with fail
      have HN2 : Hid (Below w0.heap.size w0 (V1.setCell ⟨g9, 0, none⟩ (.slice q30 lm.length e30))) := hB.setCell C9 _
      refine hK'.out _ _ HN2.out (fun _ => ?_)
      clear hK' K'
      try simp only [List.setIfInBounds_toArray, List.set_cons_zero, List.set_cons_succ]
      obtain ⟨V2, hV2⟩ : ∃ U, V1.setCell ⟨g9, 0, none⟩ (.slice q30 lm.length e30) = U := ⟨_, rfl⟩
      rw [hV2]
      replace w24 := own_put (u := (.slice q30 lm.length e30)) w24 B9 (by decide)
      replace w27 := own_put (u := (.slice q30 lm.length e30)) w27 B9 (by decide)
      replace w30 := own_put (u := (.slice q30 lm.length e30)) w30 B9 (by decide)
      replace B7 := box_off (G := g9) (u := (.slice q30 lm.length e30)) B7 n7_9
      replace B8 := box_off (G := g9) (u := (.slice q30 lm.length e30)) B8 n8_9
      replace B9 := box_put (u := (.slice q30 lm.length e30)) B9
      rw [hV2] at w24
      rw [hV2] at w27
      rw [hV2] at w30
      rw [hV2] at B7
      rw [hV2] at B8
      rw [hV2] at B9
      replace hB : Below w0.heap.size w0 V2 := by rw [← hV2]; exact HN2.out
      clear ca2 cb2 HN2 hV2
      refine wpAnyH_done (by kernel_rfl) ?_ _
      refine NoPanic.normal ?_
      exact hQ.out (.slice q24 lb.length e24) (.slice q27 ls.length e27) (.slice q30 lm.length e30) g7 g8 g9 V2 hB (box_cell B7).1 (box_cell B8).1 (box_cell B9).1 w24 w27 w30
    | succ m ih =>
      intro b2 b5 b8 b9 b10 b11 v24 v27 v30 v7 v8 v9 V hm h0 h1 hB o24 o27 o30 x_7 x_8 x_9 d8_9
      have hC : w0.heap.size ≤ V.heap.size := hB.size
      cases b2 with
      | true =>
        cases b5 with
        | true =>
          cases b8 with
          | true =>
            cases b9 with
            | true =>
              cases b10 with
              | true =>
                cases b11 with
                | true =>
                  simp [Go.Proofs.Ytdcjjfipnilmpaa.nb] at hm
                | false =>
                  refine wpAnyH_ready (rs := [11]) (by kernel_rfl) (by simp) ?_
                  refine AllReadyH.cons (o := { dst := some 9, op := Go.Op.alloc 22, type := 0, pos := "goods.go:95", after := #[], guard := none }) (by rfl) (fun K' hK' => ?_) (AllReadyH.nil)
                  · go_simp
                    go_wp2_with fail
                    refine hK'.out _ _ (below_call hB hC (alloc_below _ _)) (fun _ => ?_)
                    clear hK' K'
                    try simp only [List.setIfInBounds_toArray, List.set_cons_zero, List.set_cons_succ]
                    have hne : v8 ≠ .pointer (some ⟨V.heap.size, 0, none⟩) := fun e' => by
                      obtain ⟨G, e2, _, h2⟩ := x_8 rfl
                      rw [e2] at e'; simp at e'; have := heap_lt h2; omega
                    exact ih true true true true true true v24 v27 v30 v7 v8 (.pointer (some ⟨V.heap.size, 0, none⟩)) _ (by simp [Go.Proofs.Ytdcjjfipnilmpaa.nb] at hm ⊢ <;> omega) (by decide) (by decide) (below_call hB hC (alloc_below V _)) (got_below o24 (alloc_below V _)) (got_below o27 (alloc_below V _)) (got_below o30 (alloc_below V _)) (abox_below x_7 (alloc_below V _)) (abox_below x_8 (alloc_below V _)) (abox_new 22 hC true) (fun _ _ => hne)
              | false =>
                cases b11 with
                | true =>
                  refine wpAnyH_ready (rs := [10]) (by kernel_rfl) (by simp) ?_
                  refine AllReadyH.cons (o := { dst := some 8, op := Go.Op.alloc 22, type := 0, pos := "goods.go:95", after := #[], guard := none }) (by rfl) (fun K' hK' => ?_) (AllReadyH.nil)
                  · go_simp
                    go_wp2_with fail
                    refine hK'.out _ _ (below_call hB hC (alloc_below _ _)) (fun _ => ?_)
                    clear hK' K'
                    try simp only [List.setIfInBounds_toArray, List.set_cons_zero, List.set_cons_succ]
                    have hne : v9 ≠ .pointer (some ⟨V.heap.size, 0, none⟩) := fun e' => by
                      obtain ⟨G, e2, _, h2⟩ := x_9 rfl
                      rw [e2] at e'; simp at e'; have := heap_lt h2; omega
                    exact ih true true true true true true v24 v27 v30 v7 (.pointer (some ⟨V.heap.size, 0, none⟩)) v9 _ (by simp [Go.Proofs.Ytdcjjfipnilmpaa.nb] at hm ⊢ <;> omega) (by decide) (by decide) (below_call hB hC (alloc_below V _)) (got_below o24 (alloc_below V _)) (got_below o27 (alloc_below V _)) (got_below o30 (alloc_below V _)) (abox_below x_7 (alloc_below V _)) (abox_new 22 hC true) (abox_below x_9 (alloc_below V _)) (fun _ _ => Ne.symm hne)
                | false =>
                  refine wpAnyH_ready (rs := [10, 11]) (by kernel_rfl) (by simp) ?_
                  refine AllReadyH.cons (o := { dst := some 8, op := Go.Op.alloc 22, type := 0, pos := "goods.go:95", after := #[], guard := none }) (by rfl) (fun K' hK' => ?_) (AllReadyH.cons (o := { dst := some 9, op := Go.Op.alloc 22, type := 0, pos := "goods.go:95", after := #[], guard := none }) (by rfl) (fun K' hK' => ?_) (AllReadyH.nil))
                  · go_simp
                    go_wp2_with fail
                    refine hK'.out _ _ (below_call hB hC (alloc_below _ _)) (fun _ => ?_)
                    clear hK' K'
                    try simp only [List.setIfInBounds_toArray, List.set_cons_zero, List.set_cons_succ]
                    exact ih true true true true true false v24 v27 v30 v7 (.pointer (some ⟨V.heap.size, 0, none⟩)) v9 _ (by simp [Go.Proofs.Ytdcjjfipnilmpaa.nb] at hm ⊢ <;> omega) (by decide) (by decide) (below_call hB hC (alloc_below V _)) (got_below o24 (alloc_below V _)) (got_below o27 (alloc_below V _)) (got_below o30 (alloc_below V _)) (abox_below x_7 (alloc_below V _)) (abox_new 22 hC true) (abox_below x_9 (alloc_below V _)) (fun e1 e2 => by cases e2)
                  · go_simp
                    go_wp2_with fail
                    refine hK'.out _ _ (below_call hB hC (alloc_below _ _)) (fun _ => ?_)
                    clear hK' K'
                    try simp only [List.setIfInBounds_toArray, List.set_cons_zero, List.set_cons_succ]
                    exact ih true true true true false true v24 v27 v30 v7 v8 (.pointer (some ⟨V.heap.size, 0, none⟩)) _ (by simp [Go.Proofs.Ytdcjjfipnilmpaa.nb] at hm ⊢ <;> omega) (by decide) (by decide) (below_call hB hC (alloc_below V _)) (got_below o24 (alloc_below V _)) (got_below o27 (alloc_below V _)) (got_below o30 (alloc_below V _)) (abox_below x_7 (alloc_below V _)) (abox_below x_8 (alloc_below V _)) (abox_new 22 hC true) (fun e1 e2 => by cases e1)
            | false =>
              cases b10 with
              | true =>
                cases b11 with
                | true =>
                  refine wpAnyH_ready (rs := [9]) (by kernel_rfl) (by simp) ?_
                  refine AllReadyH.cons (o := { dst := some 7, op := Go.Op.alloc 25, type := 0, pos := "goods.go:95", after := #[], guard := none }) (by rfl) (fun K' hK' => ?_) (AllReadyH.nil)
                  · go_simp
                    go_wp2_with fail
                    refine hK'.out _ _ (below_call hB hC (alloc_below _ _)) (fun _ => ?_)
                    clear hK' K'
                    try simp only [List.setIfInBounds_toArray, List.set_cons_zero, List.set_cons_succ]
                    exact ih true true true true true true v24 v27 v30 (.pointer (some ⟨V.heap.size, 0, none⟩)) v8 v9 _ (by simp [Go.Proofs.Ytdcjjfipnilmpaa.nb] at hm ⊢ <;> omega) (by decide) (by decide) (below_call hB hC (alloc_below V _)) (got_below o24 (alloc_below V _)) (got_below o27 (alloc_below V _)) (got_below o30 (alloc_below V _)) (abox_new 25 hC true) (abox_below x_8 (alloc_below V _)) (abox_below x_9 (alloc_below V _)) (fun e1 e2 => d8_9 (by first | trivial | exact e1) (by first | trivial | exact e2))
                | false =>
                  refine wpAnyH_ready (rs := [9, 11]) (by kernel_rfl) (by simp) ?_
                  refine AllReadyH.cons (o := { dst := some 7, op := Go.Op.alloc 25, type := 0, pos := "goods.go:95", after := #[], guard := none }) (by rfl) (fun K' hK' => ?_) (AllReadyH.cons (o := { dst := some 9, op := Go.Op.alloc 22, type := 0, pos := "goods.go:95", after := #[], guard := none }) (by rfl) (fun K' hK' => ?_) (AllReadyH.nil))
                  · go_simp
                    go_wp2_with fail
                    refine hK'.out _ _ (below_call hB hC (alloc_below _ _)) (fun _ => ?_)
                    clear hK' K'
                    try simp only [List.setIfInBounds_toArray, List.set_cons_zero, List.set_cons_succ]
                    exact ih true true true true true false v24 v27 v30 (.pointer (some ⟨V.heap.size, 0, none⟩)) v8 v9 _ (by simp [Go.Proofs.Ytdcjjfipnilmpaa.nb] at hm ⊢ <;> omega) (by decide) (by decide) (below_call hB hC (alloc_below V _)) (got_below o24 (alloc_below V _)) (got_below o27 (alloc_below V _)) (got_below o30 (alloc_below V _)) (abox_new 25 hC true) (abox_below x_8 (alloc_below V _)) (abox_below x_9 (alloc_below V _)) (fun e1 e2 => d8_9 (by first | trivial | exact e1) (by first | trivial | exact e2))
                  · go_simp
                    go_wp2_with fail
                    refine hK'.out _ _ (below_call hB hC (alloc_below _ _)) (fun _ => ?_)
                    clear hK' K'
                    try simp only [List.setIfInBounds_toArray, List.set_cons_zero, List.set_cons_succ]
                    have hne : v8 ≠ .pointer (some ⟨V.heap.size, 0, none⟩) := fun e' => by
                      obtain ⟨G, e2, _, h2⟩ := x_8 rfl
                      rw [e2] at e'; simp at e'; have := heap_lt h2; omega
                    exact ih true true true false true true v24 v27 v30 v7 v8 (.pointer (some ⟨V.heap.size, 0, none⟩)) _ (by simp [Go.Proofs.Ytdcjjfipnilmpaa.nb] at hm ⊢ <;> omega) (by decide) (by decide) (below_call hB hC (alloc_below V _)) (got_below o24 (alloc_below V _)) (got_below o27 (alloc_below V _)) (got_below o30 (alloc_below V _)) (abox_below x_7 (alloc_below V _)) (abox_below x_8 (alloc_below V _)) (abox_new 22 hC true) (fun _ _ => hne)
              | false =>
                cases b11 with
                | true =>
                  refine wpAnyH_ready (rs := [9, 10]) (by kernel_rfl) (by simp) ?_
                  refine AllReadyH.cons (o := { dst := some 7, op := Go.Op.alloc 25, type := 0, pos := "goods.go:95", after := #[], guard := none }) (by rfl) (fun K' hK' => ?_) (AllReadyH.cons (o := { dst := some 8, op := Go.Op.alloc 22, type := 0, pos := "goods.go:95", after := #[], guard := none }) (by rfl) (fun K' hK' => ?_) (AllReadyH.nil))
                  · go_simp
                    go_wp2_with fail
                    refine hK'.out _ _ (below_call hB hC (alloc_below _ _)) (fun _ => ?_)
                    clear hK' K'
                    try simp only [List.setIfInBounds_toArray, List.set_cons_zero, List.set_cons_succ]
                    exact ih true true true true false true v24 v27 v30 (.pointer (some ⟨V.heap.size, 0, none⟩)) v8 v9 _ (by simp [Go.Proofs.Ytdcjjfipnilmpaa.nb] at hm ⊢ <;> omega) (by decide) (by decide) (below_call hB hC (alloc_below V _)) (got_below o24 (alloc_below V _)) (got_below o27 (alloc_below V _)) (got_below o30 (alloc_below V _)) (abox_new 25 hC true) (abox_below x_8 (alloc_below V _)) (abox_below x_9 (alloc_below V _)) (fun e1 e2 => d8_9 (by first | trivial | exact e1) (by first | trivial | exact e2))
                  · go_simp
                    go_wp2_with fail
                    refine hK'.out _ _ (below_call hB hC (alloc_below _ _)) (fun _ => ?_)
                    clear hK' K'
                    try simp only [List.setIfInBounds_toArray, List.set_cons_zero, List.set_cons_succ]
                    have hne : v9 ≠ .pointer (some ⟨V.heap.size, 0, none⟩) := fun e' => by
                      obtain ⟨G, e2, _, h2⟩ := x_9 rfl
                      rw [e2] at e'; simp at e'; have := heap_lt h2; omega
                    exact ih true true true false true true v24 v27 v30 v7 (.pointer (some ⟨V.heap.size, 0, none⟩)) v9 _ (by simp [Go.Proofs.Ytdcjjfipnilmpaa.nb] at hm ⊢ <;> omega) (by decide) (by decide) (below_call hB hC (alloc_below V _)) (got_below o24 (alloc_below V _)) (got_below o27 (alloc_below V _)) (got_below o30 (alloc_below V _)) (abox_below x_7 (alloc_below V _)) (abox_new 22 hC true) (abox_below x_9 (alloc_below V _)) (fun _ _ => Ne.symm hne)
                | false =>
                  refine wpAnyH_ready (rs := [9, 10, 11]) (by kernel_rfl) (by simp) ?_
                  refine AllReadyH.cons (o := { dst := some 7, op := Go.Op.alloc 25, type := 0, pos := "goods.go:95", after := #[], guard := none }) (by rfl) (fun K' hK' => ?_) (AllReadyH.cons (o := { dst := some 8, op := Go.Op.alloc 22, type := 0, pos := "goods.go:95", after := #[], guard := none }) (by rfl) (fun K' hK' => ?_) (AllReadyH.cons (o := { dst := some 9, op := Go.Op.alloc 22, type := 0, pos := "goods.go:95", after := #[], guard := none }) (by rfl) (fun K' hK' => ?_) (AllReadyH.nil)))
                  · go_simp
                    go_wp2_with fail
                    refine hK'.out _ _ (below_call hB hC (alloc_below _ _)) (fun _ => ?_)
                    clear hK' K'
                    try simp only [List.setIfInBounds_toArray, List.set_cons_zero, List.set_cons_succ]
                    exact ih true true true true false false v24 v27 v30 (.pointer (some ⟨V.heap.size, 0, none⟩)) v8 v9 _ (by simp [Go.Proofs.Ytdcjjfipnilmpaa.nb] at hm ⊢ <;> omega) (by decide) (by decide) (below_call hB hC (alloc_below V _)) (got_below o24 (alloc_below V _)) (got_below o27 (alloc_below V _)) (got_below o30 (alloc_below V _)) (abox_new 25 hC true) (abox_below x_8 (alloc_below V _)) (abox_below x_9 (alloc_below V _)) (fun e1 e2 => d8_9 (by first | trivial | exact e1) (by first | trivial | exact e2))
                  · go_simp
                    go_wp2_with fail
                    refine hK'.out _ _ (below_call hB hC (alloc_below _ _)) (fun _ => ?_)
                    clear hK' K'
                    try simp only [List.setIfInBounds_toArray, List.set_cons_zero, List.set_cons_succ]
                    exact ih true true true false true false v24 v27 v30 v7 (.pointer (some ⟨V.heap.size, 0, none⟩)) v9 _ (by simp [Go.Proofs.Ytdcjjfipnilmpaa.nb] at hm ⊢ <;> omega) (by decide) (by decide) (below_call hB hC (alloc_below V _)) (got_below o24 (alloc_below V _)) (got_below o27 (alloc_below V _)) (got_below o30 (alloc_below V _)) (abox_below x_7 (alloc_below V _)) (abox_new 22 hC true) (abox_below x_9 (alloc_below V _)) (fun e1 e2 => by cases e2)
                  · go_simp
                    go_wp2_with fail
                    refine hK'.out _ _ (below_call hB hC (alloc_below _ _)) (fun _ => ?_)
                    clear hK' K'
                    try simp only [List.setIfInBounds_toArray, List.set_cons_zero, List.set_cons_succ]
                    exact ih true true true false false true v24 v27 v30 v7 v8 (.pointer (some ⟨V.heap.size, 0, none⟩)) _ (by simp [Go.Proofs.Ytdcjjfipnilmpaa.nb] at hm ⊢ <;> omega) (by decide) (by decide) (below_call hB hC (alloc_below V _)) (got_below o24 (alloc_below V _)) (got_below o27 (alloc_below V _)) (got_below o30 (alloc_below V _)) (abox_below x_7 (alloc_below V _)) (abox_below x_8 (alloc_below V _)) (abox_new 22 hC true) (fun e1 e2 => by cases e1)
          | false =>
            cases b9 with
            | true =>
              cases b10 with
              | true =>
                cases b11 with
                | true =>
                  refine wpAnyH_ready (rs := [8]) (by kernel_rfl) (by simp) ?_
                  refine AllReadyH.cons (o := { dst := some 30, op := Go.Op.call { callee := Go.Callee.value (Go.Operand.func 24), args := #[Go.Operand.tmp 29], argTypes := #[22] }, type := 22, pos := "goods.go:95", after := #[{ on := 7, ground := Go.Ground.data }, { on := 5, ground := Go.Ground.chain }], guard := none }) (by rfl) (fun K' hK' => ?_) (AllReadyH.nil)
                  · go_simp
                    go_at_call 24
                    refine (HC3.out V hB).mono ?_
                    rintro e V' ⟨⟨v, rfl, hv⟩, hb'⟩
                    go_wp2_with fail
                    refine hK'.out _ _ (below_call hB hC hb') (fun _ => ?_)
                    clear hK' K'
                    try simp only [List.setIfInBounds_toArray, List.set_cons_zero, List.set_cons_succ]
                    exact ih true true true true true true v24 v27 v v7 v8 v9 V' (by simp [Go.Proofs.Ytdcjjfipnilmpaa.nb] at hm ⊢ <;> omega) (by decide) (by decide) (below_call hB hC hb') (got_below o24 hb') (got_below o27 hb') (got_yes (own_mono hv hC)) (abox_below x_7 hb') (abox_below x_8 hb') (abox_below x_9 hb') (fun e1 e2 => d8_9 (by first | trivial | exact e1) (by first | trivial | exact e2))
                | false =>
                  refine wpAnyH_ready (rs := [8, 11]) (by kernel_rfl) (by simp) ?_
                  refine AllReadyH.cons (o := { dst := some 30, op := Go.Op.call { callee := Go.Callee.value (Go.Operand.func 24), args := #[Go.Operand.tmp 29], argTypes := #[22] }, type := 22, pos := "goods.go:95", after := #[{ on := 7, ground := Go.Ground.data }, { on := 5, ground := Go.Ground.chain }], guard := none }) (by rfl) (fun K' hK' => ?_) (AllReadyH.cons (o := { dst := some 9, op := Go.Op.alloc 22, type := 0, pos := "goods.go:95", after := #[], guard := none }) (by rfl) (fun K' hK' => ?_) (AllReadyH.nil))
                  · go_simp
                    go_at_call 24
                    refine (HC3.out V hB).mono ?_
                    rintro e V' ⟨⟨v, rfl, hv⟩, hb'⟩
                    go_wp2_with fail
                    refine hK'.out _ _ (below_call hB hC hb') (fun _ => ?_)
                    clear hK' K'
                    try simp only [List.setIfInBounds_toArray, List.set_cons_zero, List.set_cons_succ]
                    exact ih true true true true true false v24 v27 v v7 v8 v9 V' (by simp [Go.Proofs.Ytdcjjfipnilmpaa.nb] at hm ⊢ <;> omega) (by decide) (by decide) (below_call hB hC hb') (got_below o24 hb') (got_below o27 hb') (got_yes (own_mono hv hC)) (abox_below x_7 hb') (abox_below x_8 hb') (abox_below x_9 hb') (fun e1 e2 => d8_9 (by first | trivial | exact e1) (by first | trivial | exact e2))
                  · go_simp
                    go_wp2_with fail
                    refine hK'.out _ _ (below_call hB hC (alloc_below _ _)) (fun _ => ?_)
                    clear hK' K'
                    try simp only [List.setIfInBounds_toArray, List.set_cons_zero, List.set_cons_succ]
                    have hne : v8 ≠ .pointer (some ⟨V.heap.size, 0, none⟩) := fun e' => by
                      obtain ⟨G, e2, _, h2⟩ := x_8 rfl
                      rw [e2] at e'; simp at e'; have := heap_lt h2; omega
                    exact ih true true false true true true v24 v27 v30 v7 v8 (.pointer (some ⟨V.heap.size, 0, none⟩)) _ (by simp [Go.Proofs.Ytdcjjfipnilmpaa.nb] at hm ⊢ <;> omega) (by decide) (by decide) (below_call hB hC (alloc_below V _)) (got_below o24 (alloc_below V _)) (got_below o27 (alloc_below V _)) (got_below o30 (alloc_below V _)) (abox_below x_7 (alloc_below V _)) (abox_below x_8 (alloc_below V _)) (abox_new 22 hC true) (fun _ _ => hne)
              | false =>
                cases b11 with
                | true =>
                  refine wpAnyH_ready (rs := [8, 10]) (by kernel_rfl) (by simp) ?_
                  refine AllReadyH.cons (o := { dst := some 30, op := Go.Op.call { callee := Go.Callee.value (Go.Operand.func 24), args := #[Go.Operand.tmp 29], argTypes := #[22] }, type := 22, pos := "goods.go:95", after := #[{ on := 7, ground := Go.Ground.data }, { on := 5, ground := Go.Ground.chain }], guard := none }) (by rfl) (fun K' hK' => ?_) (AllReadyH.cons (o := { dst := some 8, op := Go.Op.alloc 22, type := 0, pos := "goods.go:95", after := #[], guard := none }) (by rfl) (fun K' hK' => ?_) (AllReadyH.nil))
                  · go_simp
                    go_at_call 24
                    refine (HC3.out V hB).mono ?_
                    rintro e V' ⟨⟨v, rfl, hv⟩, hb'⟩
                    go_wp2_with fail
                    refine hK'.out _ _ (below_call hB hC hb') (fun _ => ?_)
                    clear hK' K'
                    try simp only [List.setIfInBounds_toArray, List.set_cons_zero, List.set_cons_succ]
                    exact ih true true true true false true v24 v27 v v7 v8 v9 V' (by simp [Go.Proofs.Ytdcjjfipnilmpaa.nb] at hm ⊢ <;> omega) (by decide) (by decide) (below_call hB hC hb') (got_below o24 hb') (got_below o27 hb') (got_yes (own_mono hv hC)) (abox_below x_7 hb') (abox_below x_8 hb') (abox_below x_9 hb') (fun e1 e2 => d8_9 (by first | trivial | exact e1) (by first | trivial | exact e2))
                  · go_simp
                    go_wp2_with fail
                    refine hK'.out _ _ (below_call hB hC (alloc_below _ _)) (fun _ => ?_)
                    clear hK' K'
                    try simp only [List.setIfInBounds_toArray, List.set_cons_zero, List.set_cons_succ]
                    have hne : v9 ≠ .pointer (some ⟨V.heap.size, 0, none⟩) := fun e' => by
                      obtain ⟨G, e2, _, h2⟩ := x_9 rfl
                      rw [e2] at e'; simp at e'; have := heap_lt h2; omega
                    exact ih true true false true true true v24 v27 v30 v7 (.pointer (some ⟨V.heap.size, 0, none⟩)) v9 _ (by simp [Go.Proofs.Ytdcjjfipnilmpaa.nb] at hm ⊢ <;> omega) (by decide) (by decide) (below_call hB hC (alloc_below V _)) (got_below o24 (alloc_below V _)) (got_below o27 (alloc_below V _)) (got_below o30 (alloc_below V _)) (abox_below x_7 (alloc_below V _)) (abox_new 22 hC true) (abox_below x_9 (alloc_below V _)) (fun _ _ => Ne.symm hne)
                | false =>
                  refine wpAnyH_ready (rs := [8, 10, 11]) (by kernel_rfl) (by simp) ?_
                  refine AllReadyH.cons (o := { dst := some 30, op := Go.Op.call { callee := Go.Callee.value (Go.Operand.func 24), args := #[Go.Operand.tmp 29], argTypes := #[22] }, type := 22, pos := "goods.go:95", after := #[{ on := 7, ground := Go.Ground.data }, { on := 5, ground := Go.Ground.chain }], guard := none }) (by rfl) (fun K' hK' => ?_) (AllReadyH.cons (o := { dst := some 8, op := Go.Op.alloc 22, type := 0, pos := "goods.go:95", after := #[], guard := none }) (by rfl) (fun K' hK' => ?_) (AllReadyH.cons (o := { dst := some 9, op := Go.Op.alloc 22, type := 0, pos := "goods.go:95", after := #[], guard := none }) (by rfl) (fun K' hK' => ?_) (AllReadyH.nil)))
                  · go_simp
                    go_at_call 24
                    refine (HC3.out V hB).mono ?_
                    rintro e V' ⟨⟨v, rfl, hv⟩, hb'⟩
                    go_wp2_with fail
                    refine hK'.out _ _ (below_call hB hC hb') (fun _ => ?_)
                    clear hK' K'
                    try simp only [List.setIfInBounds_toArray, List.set_cons_zero, List.set_cons_succ]
                    exact ih true true true true false false v24 v27 v v7 v8 v9 V' (by simp [Go.Proofs.Ytdcjjfipnilmpaa.nb] at hm ⊢ <;> omega) (by decide) (by decide) (below_call hB hC hb') (got_below o24 hb') (got_below o27 hb') (got_yes (own_mono hv hC)) (abox_below x_7 hb') (abox_below x_8 hb') (abox_below x_9 hb') (fun e1 e2 => d8_9 (by first | trivial | exact e1) (by first | trivial | exact e2))
                  · go_simp
                    go_wp2_with fail
                    refine hK'.out _ _ (below_call hB hC (alloc_below _ _)) (fun _ => ?_)
                    clear hK' K'
                    try simp only [List.setIfInBounds_toArray, List.set_cons_zero, List.set_cons_succ]
                    exact ih true true false true true false v24 v27 v30 v7 (.pointer (some ⟨V.heap.size, 0, none⟩)) v9 _ (by simp [Go.Proofs.Ytdcjjfipnilmpaa.nb] at hm ⊢ <;> omega) (by decide) (by decide) (below_call hB hC (alloc_below V _)) (got_below o24 (alloc_below V _)) (got_below o27 (alloc_below V _)) (got_below o30 (alloc_below V _)) (abox_below x_7 (alloc_below V _)) (abox_new 22 hC true) (abox_below x_9 (alloc_below V _)) (fun e1 e2 => by cases e2)
                  · go_simp
                    go_wp2_with fail
                    refine hK'.out _ _ (below_call hB hC (alloc_below _ _)) (fun _ => ?_)
                    clear hK' K'
                    try simp only [List.setIfInBounds_toArray, List.set_cons_zero, List.set_cons_succ]
                    exact ih true true false true false true v24 v27 v30 v7 v8 (.pointer (some ⟨V.heap.size, 0, none⟩)) _ (by simp [Go.Proofs.Ytdcjjfipnilmpaa.nb] at hm ⊢ <;> omega) (by decide) (by decide) (below_call hB hC (alloc_below V _)) (got_below o24 (alloc_below V _)) (got_below o27 (alloc_below V _)) (got_below o30 (alloc_below V _)) (abox_below x_7 (alloc_below V _)) (abox_below x_8 (alloc_below V _)) (abox_new 22 hC true) (fun e1 e2 => by cases e1)
            | false =>
              cases b10 with
              | true =>
                cases b11 with
                | true =>
                  refine wpAnyH_ready (rs := [8, 9]) (by kernel_rfl) (by simp) ?_
                  refine AllReadyH.cons (o := { dst := some 30, op := Go.Op.call { callee := Go.Callee.value (Go.Operand.func 24), args := #[Go.Operand.tmp 29], argTypes := #[22] }, type := 22, pos := "goods.go:95", after := #[{ on := 7, ground := Go.Ground.data }, { on := 5, ground := Go.Ground.chain }], guard := none }) (by rfl) (fun K' hK' => ?_) (AllReadyH.cons (o := { dst := some 7, op := Go.Op.alloc 25, type := 0, pos := "goods.go:95", after := #[], guard := none }) (by rfl) (fun K' hK' => ?_) (AllReadyH.nil))
                  · go_simp
                    go_at_call 24
                    refine (HC3.out V hB).mono ?_
                    rintro e V' ⟨⟨v, rfl, hv⟩, hb'⟩
                    go_wp2_with fail
                    refine hK'.out _ _ (below_call hB hC hb') (fun _ => ?_)
                    clear hK' K'
                    try simp only [List.setIfInBounds_toArray, List.set_cons_zero, List.set_cons_succ]
                    exact ih true true true false true true v24 v27 v v7 v8 v9 V' (by simp [Go.Proofs.Ytdcjjfipnilmpaa.nb] at hm ⊢ <;> omega) (by decide) (by decide) (below_call hB hC hb') (got_below o24 hb') (got_below o27 hb') (got_yes (own_mono hv hC)) (abox_below x_7 hb') (abox_below x_8 hb') (abox_below x_9 hb') (fun e1 e2 => d8_9 (by first | trivial | exact e1) (by first | trivial | exact e2))
                  · go_simp
                    go_wp2_with fail
                    refine hK'.out _ _ (below_call hB hC (alloc_below _ _)) (fun _ => ?_)
                    clear hK' K'
                    try simp only [List.setIfInBounds_toArray, List.set_cons_zero, List.set_cons_succ]
                    exact ih true true false true true true v24 v27 v30 (.pointer (some ⟨V.heap.size, 0, none⟩)) v8 v9 _ (by simp [Go.Proofs.Ytdcjjfipnilmpaa.nb] at hm ⊢ <;> omega) (by decide) (by decide) (below_call hB hC (alloc_below V _)) (got_below o24 (alloc_below V _)) (got_below o27 (alloc_below V _)) (got_below o30 (alloc_below V _)) (abox_new 25 hC true) (abox_below x_8 (alloc_below V _)) (abox_below x_9 (alloc_below V _)) (fun e1 e2 => d8_9 (by first | trivial | exact e1) (by first | trivial | exact e2))
                | false =>
                  refine wpAnyH_ready (rs := [8, 9, 11]) (by kernel_rfl) (by simp) ?_
                  refine AllReadyH.cons (o := { dst := some 30, op := Go.Op.call { callee := Go.Callee.value (Go.Operand.func 24), args := #[Go.Operand.tmp 29], argTypes := #[22] }, type := 22, pos := "goods.go:95", after := #[{ on := 7, ground := Go.Ground.data }, { on := 5, ground := Go.Ground.chain }], guard := none }) (by rfl) (fun K' hK' => ?_) (AllReadyH.cons (o := { dst := some 7, op := Go.Op.alloc 25, type := 0, pos := "goods.go:95", after := #[], guard := none }) (by rfl) (fun K' hK' => ?_) (AllReadyH.cons (o := { dst := some 9, op := Go.Op.alloc 22, type := 0, pos := "goods.go:95", after := #[], guard := none }) (by rfl) (fun K' hK' => ?_) (AllReadyH.nil)))
                  · go_simp
                    go_at_call 24
                    refine (HC3.out V hB).mono ?_
                    rintro e V' ⟨⟨v, rfl, hv⟩, hb'⟩
                    go_wp2_with fail
                    refine hK'.out _ _ (below_call hB hC hb') (fun _ => ?_)
                    clear hK' K'
                    try simp only [List.setIfInBounds_toArray, List.set_cons_zero, List.set_cons_succ]
                    exact ih true true true false true false v24 v27 v v7 v8 v9 V' (by simp [Go.Proofs.Ytdcjjfipnilmpaa.nb] at hm ⊢ <;> omega) (by decide) (by decide) (below_call hB hC hb') (got_below o24 hb') (got_below o27 hb') (got_yes (own_mono hv hC)) (abox_below x_7 hb') (abox_below x_8 hb') (abox_below x_9 hb') (fun e1 e2 => d8_9 (by first | trivial | exact e1) (by first | trivial | exact e2))
                  · go_simp
                    go_wp2_with fail
                    refine hK'.out _ _ (below_call hB hC (alloc_below _ _)) (fun _ => ?_)
                    clear hK' K'
                    try simp only [List.setIfInBounds_toArray, List.set_cons_zero, List.set_cons_succ]
                    exact ih true true false true true false v24 v27 v30 (.pointer (some ⟨V.heap.size, 0, none⟩)) v8 v9 _ (by simp [Go.Proofs.Ytdcjjfipnilmpaa.nb] at hm ⊢ <;> omega) (by decide) (by decide) (below_call hB hC (alloc_below V _)) (got_below o24 (alloc_below V _)) (got_below o27 (alloc_below V _)) (got_below o30 (alloc_below V _)) (abox_new 25 hC true) (abox_below x_8 (alloc_below V _)) (abox_below x_9 (alloc_below V _)) (fun e1 e2 => d8_9 (by first | trivial | exact e1) (by first | trivial | exact e2))
                  · go_simp
                    go_wp2_with fail
                    refine hK'.out _ _ (below_call hB hC (alloc_below _ _)) (fun _ => ?_)
                    clear hK' K'
                    try simp only [List.setIfInBounds_toArray, List.set_cons_zero, List.set_cons_succ]
                    have hne : v8 ≠ .pointer (some ⟨V.heap.size, 0, none⟩) := fun e' => by
                      obtain ⟨G, e2, _, h2⟩ := x_8 rfl
                      rw [e2] at e'; simp at e'; have := heap_lt h2; omega
                    exact ih true true false false true true v24 v27 v30 v7 v8 (.pointer (some ⟨V.heap.size, 0, none⟩)) _ (by simp [Go.Proofs.Ytdcjjfipnilmpaa.nb] at hm ⊢ <;> omega) (by decide) (by decide) (below_call hB hC (alloc_below V _)) (got_below o24 (alloc_below V _)) (got_below o27 (alloc_below V _)) (got_below o30 (alloc_below V _)) (abox_below x_7 (alloc_below V _)) (abox_below x_8 (alloc_below V _)) (abox_new 22 hC true) (fun _ _ => hne)
              | false =>
                cases b11 with
                | true =>
                  refine wpAnyH_ready (rs := [8, 9, 10]) (by kernel_rfl) (by simp) ?_
                  refine AllReadyH.cons (o := { dst := some 30, op := Go.Op.call { callee := Go.Callee.value (Go.Operand.func 24), args := #[Go.Operand.tmp 29], argTypes := #[22] }, type := 22, pos := "goods.go:95", after := #[{ on := 7, ground := Go.Ground.data }, { on := 5, ground := Go.Ground.chain }], guard := none }) (by rfl) (fun K' hK' => ?_) (AllReadyH.cons (o := { dst := some 7, op := Go.Op.alloc 25, type := 0, pos := "goods.go:95", after := #[], guard := none }) (by rfl) (fun K' hK' => ?_) (AllReadyH.cons (o := { dst := some 8, op := Go.Op.alloc 22, type := 0, pos := "goods.go:95", after := #[], guard := none }) (by rfl) (fun K' hK' => ?_) (AllReadyH.nil)))
                  · go_simp
                    go_at_call 24
                    refine (HC3.out V hB).mono ?_
                    rintro e V' ⟨⟨v, rfl, hv⟩, hb'⟩
                    go_wp2_with fail
                    refine hK'.out _ _ (below_call hB hC hb') (fun _ => ?_)
                    clear hK' K'
                    try simp only [List.setIfInBounds_toArray, List.set_cons_zero, List.set_cons_succ]
                    exact ih true true true false false true v24 v27 v v7 v8 v9 V' (by simp [Go.Proofs.Ytdcjjfipnilmpaa.nb] at hm ⊢ <;> omega) (by decide) (by decide) (below_call hB hC hb') (got_below o24 hb') (got_below o27 hb') (got_yes (own_mono hv hC)) (abox_below x_7 hb') (abox_below x_8 hb') (abox_below x_9 hb') (fun e1 e2 => d8_9 (by first | trivial | exact e1) (by first | trivial | exact e2))
                  · go_simp
                    go_wp2_with fail
                    refine hK'.out _ _ (below_call hB hC (alloc_below _ _)) (fun _ => ?_)
                    clear hK' K'
                    try simp only [List.setIfInBounds_toArray, List.set_cons_zero, List.set_cons_succ]
                    exact ih true true false true false true v24 v27 v30 (.pointer (some ⟨V.heap.size, 0, none⟩)) v8 v9 _ (by simp [Go.Proofs.Ytdcjjfipnilmpaa.nb] at hm ⊢ <;> omega) (by decide) (by decide) (below_call hB hC (alloc_below V _)) (got_below o24 (alloc_below V _)) (got_below o27 (alloc_below V _)) (got_below o30 (alloc_below V _)) (abox_new 25 hC true) (abox_below x_8 (alloc_below V _)) (abox_below x_9 (alloc_below V _)) (fun e1 e2 => d8_9 (by first | trivial | exact e1) (by first | trivial | exact e2))
                  · go_simp
                    go_wp2_with fail
                    refine hK'.out _ _ (below_call hB hC (alloc_below _ _)) (fun _ => ?_)
                    clear hK' K'
                    try simp only [List.setIfInBounds_toArray, List.set_cons_zero, List.set_cons_succ]
                    have hne : v9 ≠ .pointer (some ⟨V.heap.size, 0, none⟩) := fun e' => by
                      obtain ⟨G, e2, _, h2⟩ := x_9 rfl
                      rw [e2] at e'; simp at e'; have := heap_lt h2; omega
                    exact ih true true false false true true v24 v27 v30 v7 (.pointer (some ⟨V.heap.size, 0, none⟩)) v9 _ (by simp [Go.Proofs.Ytdcjjfipnilmpaa.nb] at hm ⊢ <;> omega) (by decide) (by decide) (below_call hB hC (alloc_below V _)) (got_below o24 (alloc_below V _)) (got_below o27 (alloc_below V _)) (got_below o30 (alloc_below V _)) (abox_below x_7 (alloc_below V _)) (abox_new 22 hC true) (abox_below x_9 (alloc_below V _)) (fun _ _ => Ne.symm hne)
                | false =>
                  refine wpAnyH_ready (rs := [8, 9, 10, 11]) (by kernel_rfl) (by simp) ?_
                  refine AllReadyH.cons (o := { dst := some 30, op := Go.Op.call { callee := Go.Callee.value (Go.Operand.func 24), args := #[Go.Operand.tmp 29], argTypes := #[22] }, type := 22, pos := "goods.go:95", after := #[{ on := 7, ground := Go.Ground.data }, { on := 5, ground := Go.Ground.chain }], guard := none }) (by rfl) (fun K' hK' => ?_) (AllReadyH.cons (o := { dst := some 7, op := Go.Op.alloc 25, type := 0, pos := "goods.go:95", after := #[], guard := none }) (by rfl) (fun K' hK' => ?_) (AllReadyH.cons (o := { dst := some 8, op := Go.Op.alloc 22, type := 0, pos := "goods.go:95", after := #[], guard := none }) (by rfl) (fun K' hK' => ?_) (AllReadyH.cons (o := { dst := some 9, op := Go.Op.alloc 22, type := 0, pos := "goods.go:95", after := #[], guard := none }) (by rfl) (fun K' hK' => ?_) (AllReadyH.nil))))
                  · go_simp
                    go_at_call 24
                    refine (HC3.out V hB).mono ?_
                    rintro e V' ⟨⟨v, rfl, hv⟩, hb'⟩
                    go_wp2_with fail
                    refine hK'.out _ _ (below_call hB hC hb') (fun _ => ?_)
                    clear hK' K'
                    try simp only [List.setIfInBounds_toArray, List.set_cons_zero, List.set_cons_succ]
                    exact ih true true true false false false v24 v27 v v7 v8 v9 V' (by simp [Go.Proofs.Ytdcjjfipnilmpaa.nb] at hm ⊢ <;> omega) (by decide) (by decide) (below_call hB hC hb') (got_below o24 hb') (got_below o27 hb') (got_yes (own_mono hv hC)) (abox_below x_7 hb') (abox_below x_8 hb') (abox_below x_9 hb') (fun e1 e2 => d8_9 (by first | trivial | exact e1) (by first | trivial | exact e2))
                  · go_simp
                    go_wp2_with fail
                    refine hK'.out _ _ (below_call hB hC (alloc_below _ _)) (fun _ => ?_)
                    clear hK' K'
                    try simp only [List.setIfInBounds_toArray, List.set_cons_zero, List.set_cons_succ]
                    exact ih true true false true false false v24 v27 v30 (.pointer (some ⟨V.heap.size, 0, none⟩)) v8 v9 _ (by simp [Go.Proofs.Ytdcjjfipnilmpaa.nb] at hm ⊢ <;> omega) (by decide) (by decide) (below_call hB hC (alloc_below V _)) (got_below o24 (alloc_below V _)) (got_below o27 (alloc_below V _)) (got_below o30 (alloc_below V _)) (abox_new 25 hC true) (abox_below x_8 (alloc_below V _)) (abox_below x_9 (alloc_below V _)) (fun e1 e2 => d8_9 (by first | trivial | exact e1) (by first | trivial | exact e2))
                  · go_simp
                    go_wp2_with fail
                    refine hK'.out _ _ (below_call hB hC (alloc_below _ _)) (fun _ => ?_)
                    clear hK' K'
                    try simp only [List.setIfInBounds_toArray, List.set_cons_zero, List.set_cons_succ]
                    exact ih true true false false true false v24 v27 v30 v7 (.pointer (some ⟨V.heap.size, 0, none⟩)) v9 _ (by simp [Go.Proofs.Ytdcjjfipnilmpaa.nb] at hm ⊢ <;> omega) (by decide) (by decide) (below_call hB hC (alloc_below V _)) (got_below o24 (alloc_below V _)) (got_below o27 (alloc_below V _)) (got_below o30 (alloc_below V _)) (abox_below x_7 (alloc_below V _)) (abox_new 22 hC true) (abox_below x_9 (alloc_below V _)) (fun e1 e2 => by cases e2)
                  · go_simp
                    go_wp2_with fail
                    refine hK'.out _ _ (below_call hB hC (alloc_below _ _)) (fun _ => ?_)
                    clear hK' K'
                    try simp only [List.setIfInBounds_toArray, List.set_cons_zero, List.set_cons_succ]
                    exact ih true true false false false true v24 v27 v30 v7 v8 (.pointer (some ⟨V.heap.size, 0, none⟩)) _ (by simp [Go.Proofs.Ytdcjjfipnilmpaa.nb] at hm ⊢ <;> omega) (by decide) (by decide) (below_call hB hC (alloc_below V _)) (got_below o24 (alloc_below V _)) (got_below o27 (alloc_below V _)) (got_below o30 (alloc_below V _)) (abox_below x_7 (alloc_below V _)) (abox_below x_8 (alloc_below V _)) (abox_new 22 hC true) (fun e1 e2 => by cases e1)
        | false =>
          cases b8 with
          | true =>
            cases b9 with
            | true =>
              cases b10 with
              | true =>
                cases b11 with
                | true =>
                  exact absurd (h1 rfl) (by decide)
                | false =>
                  exact absurd (h1 rfl) (by decide)
              | false =>
                cases b11 with
                | true =>
                  exact absurd (h1 rfl) (by decide)
                | false =>
                  exact absurd (h1 rfl) (by decide)
            | false =>
              cases b10 with
              | true =>
                cases b11 with
                | true =>
                  exact absurd (h1 rfl) (by decide)
                | false =>
                  exact absurd (h1 rfl) (by decide)
              | false =>
                cases b11 with
                | true =>
                  exact absurd (h1 rfl) (by decide)
                | false =>
                  exact absurd (h1 rfl) (by decide)
          | false =>
            cases b9 with
            | true =>
              cases b10 with
              | true =>
                cases b11 with
                | true =>
                  refine wpAnyH_ready (rs := [5]) (by kernel_rfl) (by simp) ?_
                  refine AllReadyH.cons (o := { dst := some 27, op := Go.Op.call { callee := Go.Callee.value (Go.Operand.func 24), args := #[Go.Operand.tmp 26], argTypes := #[22] }, type := 22, pos := "goods.go:95", after := #[{ on := 4, ground := Go.Ground.data }, { on := 2, ground := Go.Ground.chain }], guard := none }) (by rfl) (fun K' hK' => ?_) (AllReadyH.nil)
                  · go_simp
                    go_at_call 24
                    refine (HC2.out V hB).mono ?_
                    rintro e V' ⟨⟨v, rfl, hv⟩, hb'⟩
                    go_wp2_with fail
                    refine hK'.out _ _ (below_call hB hC hb') (fun _ => ?_)
                    clear hK' K'
                    try simp only [List.setIfInBounds_toArray, List.set_cons_zero, List.set_cons_succ]
                    exact ih true true false true true true v24 v v30 v7 v8 v9 V' (by simp [Go.Proofs.Ytdcjjfipnilmpaa.nb] at hm ⊢ <;> omega) (by decide) (by decide) (below_call hB hC hb') (got_below o24 hb') (got_yes (own_mono hv hC)) (got_below o30 hb') (abox_below x_7 hb') (abox_below x_8 hb') (abox_below x_9 hb') (fun e1 e2 => d8_9 (by first | trivial | exact e1) (by first | trivial | exact e2))
                | false =>
                  refine wpAnyH_ready (rs := [5, 11]) (by kernel_rfl) (by simp) ?_
                  refine AllReadyH.cons (o := { dst := some 27, op := Go.Op.call { callee := Go.Callee.value (Go.Operand.func 24), args := #[Go.Operand.tmp 26], argTypes := #[22] }, type := 22, pos := "goods.go:95", after := #[{ on := 4, ground := Go.Ground.data }, { on := 2, ground := Go.Ground.chain }], guard := none }) (by rfl) (fun K' hK' => ?_) (AllReadyH.cons (o := { dst := some 9, op := Go.Op.alloc 22, type := 0, pos := "goods.go:95", after := #[], guard := none }) (by rfl) (fun K' hK' => ?_) (AllReadyH.nil))
                  · go_simp
                    go_at_call 24
                    refine (HC2.out V hB).mono ?_
                    rintro e V' ⟨⟨v, rfl, hv⟩, hb'⟩
                    go_wp2_with fail
                    refine hK'.out _ _ (below_call hB hC hb') (fun _ => ?_)
                    clear hK' K'
                    try simp only [List.setIfInBounds_toArray, List.set_cons_zero, List.set_cons_succ]
                    exact ih true true false true true false v24 v v30 v7 v8 v9 V' (by simp [Go.Proofs.Ytdcjjfipnilmpaa.nb] at hm ⊢ <;> omega) (by decide) (by decide) (below_call hB hC hb') (got_below o24 hb') (got_yes (own_mono hv hC)) (got_below o30 hb') (abox_below x_7 hb') (abox_below x_8 hb') (abox_below x_9 hb') (fun e1 e2 => d8_9 (by first | trivial | exact e1) (by first | trivial | exact e2))
                  · go_simp
                    go_wp2_with fail
                    refine hK'.out _ _ (below_call hB hC (alloc_below _ _)) (fun _ => ?_)
                    clear hK' K'
                    try simp only [List.setIfInBounds_toArray, List.set_cons_zero, List.set_cons_succ]
                    have hne : v8 ≠ .pointer (some ⟨V.heap.size, 0, none⟩) := fun e' => by
                      obtain ⟨G, e2, _, h2⟩ := x_8 rfl
                      rw [e2] at e'; simp at e'; have := heap_lt h2; omega
                    exact ih true false false true true true v24 v27 v30 v7 v8 (.pointer (some ⟨V.heap.size, 0, none⟩)) _ (by simp [Go.Proofs.Ytdcjjfipnilmpaa.nb] at hm ⊢ <;> omega) (by decide) (by decide) (below_call hB hC (alloc_below V _)) (got_below o24 (alloc_below V _)) (got_below o27 (alloc_below V _)) (got_below o30 (alloc_below V _)) (abox_below x_7 (alloc_below V _)) (abox_below x_8 (alloc_below V _)) (abox_new 22 hC true) (fun _ _ => hne)
              | false =>
                cases b11 with
                | true =>
                  refine wpAnyH_ready (rs := [5, 10]) (by kernel_rfl) (by simp) ?_
                  refine AllReadyH.cons (o := { dst := some 27, op := Go.Op.call { callee := Go.Callee.value (Go.Operand.func 24), args := #[Go.Operand.tmp 26], argTypes := #[22] }, type := 22, pos := "goods.go:95", after := #[{ on := 4, ground := Go.Ground.data }, { on := 2, ground := Go.Ground.chain }], guard := none }) (by rfl) (fun K' hK' => ?_) (AllReadyH.cons (o := { dst := some 8, op := Go.Op.alloc 22, type := 0, pos := "goods.go:95", after := #[], guard := none }) (by rfl) (fun K' hK' => ?_) (AllReadyH.nil))
                  · go_simp
                    go_at_call 24
                    refine (HC2.out V hB).mono ?_
                    rintro e V' ⟨⟨v, rfl, hv⟩, hb'⟩
                    go_wp2_with fail
                    refine hK'.out _ _ (below_call hB hC hb') (fun _ => ?_)
                    clear hK' K'
                    try simp only [List.setIfInBounds_toArray, List.set_cons_zero, List.set_cons_succ]
                    exact ih true true false true false true v24 v v30 v7 v8 v9 V' (by simp [Go.Proofs.Ytdcjjfipnilmpaa.nb] at hm ⊢ <;> omega) (by decide) (by decide) (below_call hB hC hb') (got_below o24 hb') (got_yes (own_mono hv hC)) (got_below o30 hb') (abox_below x_7 hb') (abox_below x_8 hb') (abox_below x_9 hb') (fun e1 e2 => d8_9 (by first | trivial | exact e1) (by first | trivial | exact e2))
                  · go_simp
                    go_wp2_with fail
                    refine hK'.out _ _ (below_call hB hC (alloc_below _ _)) (fun _ => ?_)
                    clear hK' K'
                    try simp only [List.setIfInBounds_toArray, List.set_cons_zero, List.set_cons_succ]
                    have hne : v9 ≠ .pointer (some ⟨V.heap.size, 0, none⟩) := fun e' => by
                      obtain ⟨G, e2, _, h2⟩ := x_9 rfl
                      rw [e2] at e'; simp at e'; have := heap_lt h2; omega
                    exact ih true false false true true true v24 v27 v30 v7 (.pointer (some ⟨V.heap.size, 0, none⟩)) v9 _ (by simp [Go.Proofs.Ytdcjjfipnilmpaa.nb] at hm ⊢ <;> omega) (by decide) (by decide) (below_call hB hC (alloc_below V _)) (got_below o24 (alloc_below V _)) (got_below o27 (alloc_below V _)) (got_below o30 (alloc_below V _)) (abox_below x_7 (alloc_below V _)) (abox_new 22 hC true) (abox_below x_9 (alloc_below V _)) (fun _ _ => Ne.symm hne)
                | false =>
                  refine wpAnyH_ready (rs := [5, 10, 11]) (by kernel_rfl) (by simp) ?_
                  refine AllReadyH.cons (o := { dst := some 27, op := Go.Op.call { callee := Go.Callee.value (Go.Operand.func 24), args := #[Go.Operand.tmp 26], argTypes := #[22] }, type := 22, pos := "goods.go:95", after := #[{ on := 4, ground := Go.Ground.data }, { on := 2, ground := Go.Ground.chain }], guard := none }) (by rfl) (fun K' hK' => ?_) (AllReadyH.cons (o := { dst := some 8, op := Go.Op.alloc 22, type := 0, pos := "goods.go:95", after := #[], guard := none }) (by rfl) (fun K' hK' => ?_) (AllReadyH.cons (o := { dst := some 9, op := Go.Op.alloc 22, type := 0, pos := "goods.go:95", after := #[], guard := none }) (by rfl) (fun K' hK' => ?_) (AllReadyH.nil)))
                  · go_simp
                    go_at_call 24
                    refine (HC2.out V hB).mono ?_
                    rintro e V' ⟨⟨v, rfl, hv⟩, hb'⟩
                    go_wp2_with fail
                    refine hK'.out _ _ (below_call hB hC hb') (fun _ => ?_)
                    clear hK' K'
                    try simp only [List.setIfInBounds_toArray, List.set_cons_zero, List.set_cons_succ]
                    exact ih true true false true false false v24 v v30 v7 v8 v9 V' (by simp [Go.Proofs.Ytdcjjfipnilmpaa.nb] at hm ⊢ <;> omega) (by decide) (by decide) (below_call hB hC hb') (got_below o24 hb') (got_yes (own_mono hv hC)) (got_below o30 hb') (abox_below x_7 hb') (abox_below x_8 hb') (abox_below x_9 hb') (fun e1 e2 => d8_9 (by first | trivial | exact e1) (by first | trivial | exact e2))
                  · go_simp
                    go_wp2_with fail
                    refine hK'.out _ _ (below_call hB hC (alloc_below _ _)) (fun _ => ?_)
                    clear hK' K'
                    try simp only [List.setIfInBounds_toArray, List.set_cons_zero, List.set_cons_succ]
                    exact ih true false false true true false v24 v27 v30 v7 (.pointer (some ⟨V.heap.size, 0, none⟩)) v9 _ (by simp [Go.Proofs.Ytdcjjfipnilmpaa.nb] at hm ⊢ <;> omega) (by decide) (by decide) (below_call hB hC (alloc_below V _)) (got_below o24 (alloc_below V _)) (got_below o27 (alloc_below V _)) (got_below o30 (alloc_below V _)) (abox_below x_7 (alloc_below V _)) (abox_new 22 hC true) (abox_below x_9 (alloc_below V _)) (fun e1 e2 => by cases e2)
                  · go_simp
                    go_wp2_with fail
                    refine hK'.out _ _ (below_call hB hC (alloc_below _ _)) (fun _ => ?_)
                    clear hK' K'
                    try simp only [List.setIfInBounds_toArray, List.set_cons_zero, List.set_cons_succ]
                    exact ih true false false true false true v24 v27 v30 v7 v8 (.pointer (some ⟨V.heap.size, 0, none⟩)) _ (by simp [Go.Proofs.Ytdcjjfipnilmpaa.nb] at hm ⊢ <;> omega) (by decide) (by decide) (below_call hB hC (alloc_below V _)) (got_below o24 (alloc_below V _)) (got_below o27 (alloc_below V _)) (got_below o30 (alloc_below V _)) (abox_below x_7 (alloc_below V _)) (abox_below x_8 (alloc_below V _)) (abox_new 22 hC true) (fun e1 e2 => by cases e1)
            | false =>
              cases b10 with
              | true =>
                cases b11 with
                | true =>
                  refine wpAnyH_ready (rs := [5, 9]) (by kernel_rfl) (by simp) ?_
                  refine AllReadyH.cons (o := { dst := some 27, op := Go.Op.call { callee := Go.Callee.value (Go.Operand.func 24), args := #[Go.Operand.tmp 26], argTypes := #[22] }, type := 22, pos := "goods.go:95", after := #[{ on := 4, ground := Go.Ground.data }, { on := 2, ground := Go.Ground.chain }], guard := none }) (by rfl) (fun K' hK' => ?_) (AllReadyH.cons (o := { dst := some 7, op := Go.Op.alloc 25, type := 0, pos := "goods.go:95", after := #[], guard := none }) (by rfl) (fun K' hK' => ?_) (AllReadyH.nil))
                  · go_simp
                    go_at_call 24
                    refine (HC2.out V hB).mono ?_
                    rintro e V' ⟨⟨v, rfl, hv⟩, hb'⟩
                    go_wp2_with fail
                    refine hK'.out _ _ (below_call hB hC hb') (fun _ => ?_)
                    clear hK' K'
                    try simp only [List.setIfInBounds_toArray, List.set_cons_zero, List.set_cons_succ]
                    exact ih true true false false true true v24 v v30 v7 v8 v9 V' (by simp [Go.Proofs.Ytdcjjfipnilmpaa.nb] at hm ⊢ <;> omega) (by decide) (by decide) (below_call hB hC hb') (got_below o24 hb') (got_yes (own_mono hv hC)) (got_below o30 hb') (abox_below x_7 hb') (abox_below x_8 hb') (abox_below x_9 hb') (fun e1 e2 => d8_9 (by first | trivial | exact e1) (by first | trivial | exact e2))
                  · go_simp
                    go_wp2_with fail
                    refine hK'.out _ _ (below_call hB hC (alloc_below _ _)) (fun _ => ?_)
                    clear hK' K'
                    try simp only [List.setIfInBounds_toArray, List.set_cons_zero, List.set_cons_succ]
                    exact ih true false false true true true v24 v27 v30 (.pointer (some ⟨V.heap.size, 0, none⟩)) v8 v9 _ (by simp [Go.Proofs.Ytdcjjfipnilmpaa.nb] at hm ⊢ <;> omega) (by decide) (by decide) (below_call hB hC (alloc_below V _)) (got_below o24 (alloc_below V _)) (got_below o27 (alloc_below V _)) (got_below o30 (alloc_below V _)) (abox_new 25 hC true) (abox_below x_8 (alloc_below V _)) (abox_below x_9 (alloc_below V _)) (fun e1 e2 => d8_9 (by first | trivial | exact e1) (by first | trivial | exact e2))
                | false =>
                  refine wpAnyH_ready (rs := [5, 9, 11]) (by kernel_rfl) (by simp) ?_
                  refine AllReadyH.cons (o := { dst := some 27, op := Go.Op.call { callee := Go.Callee.value (Go.Operand.func 24), args := #[Go.Operand.tmp 26], argTypes := #[22] }, type := 22, pos := "goods.go:95", after := #[{ on := 4, ground := Go.Ground.data }, { on := 2, ground := Go.Ground.chain }], guard := none }) (by rfl) (fun K' hK' => ?_) (AllReadyH.cons (o := { dst := some 7, op := Go.Op.alloc 25, type := 0, pos := "goods.go:95", after := #[], guard := none }) (by rfl) (fun K' hK' => ?_) (AllReadyH.cons (o := { dst := some 9, op := Go.Op.alloc 22, type := 0, pos := "goods.go:95", after := #[], guard := none }) (by rfl) (fun K' hK' => ?_) (AllReadyH.nil)))
                  · go_simp
                    go_at_call 24
                    refine (HC2.out V hB).mono ?_
                    rintro e V' ⟨⟨v, rfl, hv⟩, hb'⟩
                    go_wp2_with fail
                    refine hK'.out _ _ (below_call hB hC hb') (fun _ => ?_)
                    clear hK' K'
                    try simp only [List.setIfInBounds_toArray, List.set_cons_zero, List.set_cons_succ]
                    exact ih true true false false true false v24 v v30 v7 v8 v9 V' (by simp [Go.Proofs.Ytdcjjfipnilmpaa.nb] at hm ⊢ <;> omega) (by decide) (by decide) (below_call hB hC hb') (got_below o24 hb') (got_yes (own_mono hv hC)) (got_below o30 hb') (abox_below x_7 hb') (abox_below x_8 hb') (abox_below x_9 hb') (fun e1 e2 => d8_9 (by first | trivial | exact e1) (by first | trivial | exact e2))
                  · go_simp
                    go_wp2_with fail
                    refine hK'.out _ _ (below_call hB hC (alloc_below _ _)) (fun _ => ?_)
                    clear hK' K'
                    try simp only [List.setIfInBounds_toArray, List.set_cons_zero, List.set_cons_succ]
                    exact ih true false false true true false v24 v27 v30 (.pointer (some ⟨V.heap.size, 0, none⟩)) v8 v9 _ (by simp [Go.Proofs.Ytdcjjfipnilmpaa.nb] at hm ⊢ <;> omega) (by decide) (by decide) (below_call hB hC (alloc_below V _)) (got_below o24 (alloc_below V _)) (got_below o27 (alloc_below V _)) (got_below o30 (alloc_below V _)) (abox_new 25 hC true) (abox_below x_8 (alloc_below V _)) (abox_below x_9 (alloc_below V _)) (fun e1 e2 => d8_9 (by first | trivial | exact e1) (by first | trivial | exact e2))
                  · go_simp
                    go_wp2_with fail
                    refine hK'.out _ _ (below_call hB hC (alloc_below _ _)) (fun _ => ?_)
                    clear hK' K'
                    try simp only [List.setIfInBounds_toArray, List.set_cons_zero, List.set_cons_succ]
                    have hne : v8 ≠ .pointer (some ⟨V.heap.size, 0, none⟩) := fun e' => by
                      obtain ⟨G, e2, _, h2⟩ := x_8 rfl
                      rw [e2] at e'; simp at e'; have := heap_lt h2; omega
                    exact ih true false false false true true v24 v27 v30 v7 v8 (.pointer (some ⟨V.heap.size, 0, none⟩)) _ (by simp [Go.Proofs.Ytdcjjfipnilmpaa.nb] at hm ⊢ <;> omega) (by decide) (by decide) (below_call hB hC (alloc_below V _)) (got_below o24 (alloc_below V _)) (got_below o27 (alloc_below V _)) (got_below o30 (alloc_below V _)) (abox_below x_7 (alloc_below V _)) (abox_below x_8 (alloc_below V _)) (abox_new 22 hC true) (fun _ _ => hne)
              | false =>
                cases b11 with
                | true =>
                  refine wpAnyH_ready (rs := [5, 9, 10]) (by kernel_rfl) (by simp) ?_
                  refine AllReadyH.cons (o := { dst := some 27, op := Go.Op.call { callee := Go.Callee.value (Go.Operand.func 24), args := #[Go.Operand.tmp 26], argTypes := #[22] }, type := 22, pos := "goods.go:95", after := #[{ on := 4, ground := Go.Ground.data }, { on := 2, ground := Go.Ground.chain }], guard := none }) (by rfl) (fun K' hK' => ?_) (AllReadyH.cons (o := { dst := some 7, op := Go.Op.alloc 25, type := 0, pos := "goods.go:95", after := #[], guard := none }) (by rfl) (fun K' hK' => ?_) (AllReadyH.cons (o := { dst := some 8, op := Go.Op.alloc 22, type := 0, pos := "goods.go:95", after := #[], guard := none }) (by rfl) (fun K' hK' => ?_) (AllReadyH.nil)))
                  · go_simp
                    go_at_call 24
                    refine (HC2.out V hB).mono ?_
                    rintro e V' ⟨⟨v, rfl, hv⟩, hb'⟩
                    go_wp2_with fail
                    refine hK'.out _ _ (below_call hB hC hb') (fun _ => ?_)
                    clear hK' K'
                    try simp only [List.setIfInBounds_toArray, List.set_cons_zero, List.set_cons_succ]
                    exact ih true true false false false true v24 v v30 v7 v8 v9 V' (by simp [Go.Proofs.Ytdcjjfipnilmpaa.nb] at hm ⊢ <;> omega) (by decide) (by decide) (below_call hB hC hb') (got_below o24 hb') (got_yes (own_mono hv hC)) (got_below o30 hb') (abox_below x_7 hb') (abox_below x_8 hb') (abox_below x_9 hb') (fun e1 e2 => d8_9 (by first | trivial | exact e1) (by first | trivial | exact e2))
                  · go_simp
                    go_wp2_with fail
                    refine hK'.out _ _ (below_call hB hC (alloc_below _ _)) (fun _ => ?_)
                    clear hK' K'
                    try simp only [List.setIfInBounds_toArray, List.set_cons_zero, List.set_cons_succ]
                    exact ih true false false true false true v24 v27 v30 (.pointer (some ⟨V.heap.size, 0, none⟩)) v8 v9 _ (by simp [Go.Proofs.Ytdcjjfipnilmpaa.nb] at hm ⊢ <;> omega) (by decide) (by decide) (below_call hB hC (alloc_below V _)) (got_below o24 (alloc_below V _)) (got_below o27 (alloc_below V _)) (got_below o30 (alloc_below V _)) (abox_new 25 hC true) (abox_below x_8 (alloc_below V _)) (abox_below x_9 (alloc_below V _)) (fun e1 e2 => d8_9 (by first | trivial | exact e1) (by first | trivial | exact e2))
                  · go_simp
                    go_wp2_with fail
                    refine hK'.out _ _ (below_call hB hC (alloc_below _ _)) (fun _ => ?_)
                    clear hK' K'
                    try simp only [List.setIfInBounds_toArray, List.set_cons_zero, List.set_cons_succ]
                    have hne : v9 ≠ .pointer (some ⟨V.heap.size, 0, none⟩) := fun e' => by
                      obtain ⟨G, e2, _, h2⟩ := x_9 rfl
                      rw [e2] at e'; simp at e'; have := heap_lt h2; omega
                    exact ih true false false false true true v24 v27 v30 v7 (.pointer (some ⟨V.heap.size, 0, none⟩)) v9 _ (by simp [Go.Proofs.Ytdcjjfipnilmpaa.nb] at hm ⊢ <;> omega) (by decide) (by decide) (below_call hB hC (alloc_below V _)) (got_below o24 (alloc_below V _)) (got_below o27 (alloc_below V _)) (got_below o30 (alloc_below V _)) (abox_below x_7 (alloc_below V _)) (abox_new 22 hC true) (abox_below x_9 (alloc_below V _)) (fun _ _ => Ne.symm hne)
                | false =>
                  refine wpAnyH_ready (rs := [5, 9, 10, 11]) (by kernel_rfl) (by simp) ?_
                  refine AllReadyH.cons (o := { dst := some 27, op := Go.Op.call { callee := Go.Callee.value (Go.Operand.func 24), args := #[Go.Operand.tmp 26], argTypes := #[22] }, type := 22, pos := "goods.go:95", after := #[{ on := 4, ground := Go.Ground.data }, { on := 2, ground := Go.Ground.chain }], guard := none }) (by rfl) (fun K' hK' => ?_) (AllReadyH.cons (o := { dst := some 7, op := Go.Op.alloc 25, type := 0, pos := "goods.go:95", after := #[], guard := none }) (by rfl) (fun K' hK' => ?_) (AllReadyH.cons (o := { dst := some 8, op := Go.Op.alloc 22, type := 0, pos := "goods.go:95", after := #[], guard := none }) (by rfl) (fun K' hK' => ?_) (AllReadyH.cons (o := { dst := some 9, op := Go.Op.alloc 22, type := 0, pos := "goods.go:95", after := #[], guard := none }) (by rfl) (fun K' hK' => ?_) (AllReadyH.nil))))
                  · go_simp
                    go_at_call 24
                    refine (HC2.out V hB).mono ?_
                    rintro e V' ⟨⟨v, rfl, hv⟩, hb'⟩
                    go_wp2_with fail
                    refine hK'.out _ _ (below_call hB hC hb') (fun _ => ?_)
                    clear hK' K'
                    try simp only [List.setIfInBounds_toArray, List.set_cons_zero, List.set_cons_succ]
                    exact ih true true false false false false v24 v v30 v7 v8 v9 V' (by simp [Go.Proofs.Ytdcjjfipnilmpaa.nb] at hm ⊢ <;> omega) (by decide) (by decide) (below_call hB hC hb') (got_below o24 hb') (got_yes (own_mono hv hC)) (got_below o30 hb') (abox_below x_7 hb') (abox_below x_8 hb') (abox_below x_9 hb') (fun e1 e2 => d8_9 (by first | trivial | exact e1) (by first | trivial | exact e2))
                  · go_simp
                    go_wp2_with fail
                    refine hK'.out _ _ (below_call hB hC (alloc_below _ _)) (fun _ => ?_)
                    clear hK' K'
                    try simp only [List.setIfInBounds_toArray, List.set_cons_zero, List.set_cons_succ]
                    exact ih true false false true false false v24 v27 v30 (.pointer (some ⟨V.heap.size, 0, none⟩)) v8 v9 _ (by simp [Go.Proofs.Ytdcjjfipnilmpaa.nb] at hm ⊢ <;> omega) (by decide) (by decide) (below_call hB hC (alloc_below V _)) (got_below o24 (alloc_below V _)) (got_below o27 (alloc_below V _)) (got_below o30 (alloc_below V _)) (abox_new 25 hC true) (abox_below x_8 (alloc_below V _)) (abox_below x_9 (alloc_below V _)) (fun e1 e2 => d8_9 (by first | trivial | exact e1) (by first | trivial | exact e2))
                  · go_simp
                    go_wp2_with fail
                    refine hK'.out _ _ (below_call hB hC (alloc_below _ _)) (fun _ => ?_)
                    clear hK' K'
                    try simp only [List.setIfInBounds_toArray, List.set_cons_zero, List.set_cons_succ]
                    exact ih true false false false true false v24 v27 v30 v7 (.pointer (some ⟨V.heap.size, 0, none⟩)) v9 _ (by simp [Go.Proofs.Ytdcjjfipnilmpaa.nb] at hm ⊢ <;> omega) (by decide) (by decide) (below_call hB hC (alloc_below V _)) (got_below o24 (alloc_below V _)) (got_below o27 (alloc_below V _)) (got_below o30 (alloc_below V _)) (abox_below x_7 (alloc_below V _)) (abox_new 22 hC true) (abox_below x_9 (alloc_below V _)) (fun e1 e2 => by cases e2)
                  · go_simp
                    go_wp2_with fail
                    refine hK'.out _ _ (below_call hB hC (alloc_below _ _)) (fun _ => ?_)
                    clear hK' K'
                    try simp only [List.setIfInBounds_toArray, List.set_cons_zero, List.set_cons_succ]
                    exact ih true false false false false true v24 v27 v30 v7 v8 (.pointer (some ⟨V.heap.size, 0, none⟩)) _ (by simp [Go.Proofs.Ytdcjjfipnilmpaa.nb] at hm ⊢ <;> omega) (by decide) (by decide) (below_call hB hC (alloc_below V _)) (got_below o24 (alloc_below V _)) (got_below o27 (alloc_below V _)) (got_below o30 (alloc_below V _)) (abox_below x_7 (alloc_below V _)) (abox_below x_8 (alloc_below V _)) (abox_new 22 hC true) (fun e1 e2 => by cases e1)
      | false =>
        cases b5 with
        | true =>
          cases b8 with
          | true =>
            cases b9 with
            | true =>
              cases b10 with
              | true =>
                cases b11 with
                | true =>
                  exact absurd (h0 rfl) (by decide)
                | false =>
                  exact absurd (h0 rfl) (by decide)
              | false =>
                cases b11 with
                | true =>
                  exact absurd (h0 rfl) (by decide)
                | false =>
                  exact absurd (h0 rfl) (by decide)
            | false =>
              cases b10 with
              | true =>
                cases b11 with
                | true =>
                  exact absurd (h0 rfl) (by decide)
                | false =>
                  exact absurd (h0 rfl) (by decide)
              | false =>
                cases b11 with
                | true =>
                  exact absurd (h0 rfl) (by decide)
                | false =>
                  exact absurd (h0 rfl) (by decide)
          | false =>
            cases b9 with
            | true =>
              cases b10 with
              | true =>
                cases b11 with
                | true =>
                  exact absurd (h0 rfl) (by decide)
                | false =>
                  exact absurd (h0 rfl) (by decide)
              | false =>
                cases b11 with
                | true =>
                  exact absurd (h0 rfl) (by decide)
                | false =>
                  exact absurd (h0 rfl) (by decide)
            | false =>
              cases b10 with
              | true =>
                cases b11 with
                | true =>
                  exact absurd (h0 rfl) (by decide)
                | false =>
                  exact absurd (h0 rfl) (by decide)
              | false =>
                cases b11 with
                | true =>
                  exact absurd (h0 rfl) (by decide)
                | false =>
                  exact absurd (h0 rfl) (by decide)
        | false =>
          cases b8 with
          | true =>
            cases b9 with
            | true =>
              cases b10 with
              | true =>
                cases b11 with
                | true =>
                  exact absurd (h1 rfl) (by decide)
                | false =>
                  exact absurd (h1 rfl) (by decide)
              | false =>
                cases b11 with
                | true =>
                  exact absurd (h1 rfl) (by decide)
                | false =>
                  exact absurd (h1 rfl) (by decide)
            | false =>
              cases b10 with
              | true =>
                cases b11 with
                | true =>
                  exact absurd (h1 rfl) (by decide)
                | false =>
                  exact absurd (h1 rfl) (by decide)
              | false =>
                cases b11 with
                | true =>
                  exact absurd (h1 rfl) (by decide)
                | false =>
                  exact absurd (h1 rfl) (by decide)
          | false =>
            cases b9 with
            | true =>
              cases b10 with
              | true =>
                cases b11 with
                | true =>
                  refine wpAnyH_ready (rs := [2]) (by kernel_rfl) (by simp) ?_
                  refine AllReadyH.cons (o := { dst := some 24, op := Go.Op.call { callee := Go.Callee.value (Go.Operand.func 25), args := #[Go.Operand.tmp 23], argTypes := #[25] }, type := 25, pos := "goods.go:95", after := #[{ on := 1, ground := Go.Ground.data }], guard := none }) (by rfl) (fun K' hK' => ?_) (AllReadyH.nil)
                  · go_simp
                    go_at_call 25
                    refine (HC1.out V hB).mono ?_
                    rintro e V' ⟨⟨v, rfl, hv⟩, hb'⟩
                    go_wp2_with fail
                    refine hK'.out _ _ (below_call hB hC hb') (fun _ => ?_)
                    clear hK' K'
                    try simp only [List.setIfInBounds_toArray, List.set_cons_zero, List.set_cons_succ]
                    exact ih true false false true true true v v27 v30 v7 v8 v9 V' (by simp [Go.Proofs.Ytdcjjfipnilmpaa.nb] at hm ⊢ <;> omega) (by decide) (by decide) (below_call hB hC hb') (got_yes (own_mono hv hC)) (got_below o27 hb') (got_below o30 hb') (abox_below x_7 hb') (abox_below x_8 hb') (abox_below x_9 hb') (fun e1 e2 => d8_9 (by first | trivial | exact e1) (by first | trivial | exact e2))
                | false =>
                  refine wpAnyH_ready (rs := [2, 11]) (by kernel_rfl) (by simp) ?_
                  refine AllReadyH.cons (o := { dst := some 24, op := Go.Op.call { callee := Go.Callee.value (Go.Operand.func 25), args := #[Go.Operand.tmp 23], argTypes := #[25] }, type := 25, pos := "goods.go:95", after := #[{ on := 1, ground := Go.Ground.data }], guard := none }) (by rfl) (fun K' hK' => ?_) (AllReadyH.cons (o := { dst := some 9, op := Go.Op.alloc 22, type := 0, pos := "goods.go:95", after := #[], guard := none }) (by rfl) (fun K' hK' => ?_) (AllReadyH.nil))
                  · go_simp
                    go_at_call 25
                    refine (HC1.out V hB).mono ?_
                    rintro e V' ⟨⟨v, rfl, hv⟩, hb'⟩
                    go_wp2_with fail
                    refine hK'.out _ _ (below_call hB hC hb') (fun _ => ?_)
                    clear hK' K'
                    try simp only [List.setIfInBounds_toArray, List.set_cons_zero, List.set_cons_succ]
                    exact ih true false false true true false v v27 v30 v7 v8 v9 V' (by simp [Go.Proofs.Ytdcjjfipnilmpaa.nb] at hm ⊢ <;> omega) (by decide) (by decide) (below_call hB hC hb') (got_yes (own_mono hv hC)) (got_below o27 hb') (got_below o30 hb') (abox_below x_7 hb') (abox_below x_8 hb') (abox_below x_9 hb') (fun e1 e2 => d8_9 (by first | trivial | exact e1) (by first | trivial | exact e2))
                  · go_simp
                    go_wp2_with fail
                    refine hK'.out _ _ (below_call hB hC (alloc_below _ _)) (fun _ => ?_)
                    clear hK' K'
                    try simp only [List.setIfInBounds_toArray, List.set_cons_zero, List.set_cons_succ]
                    have hne : v8 ≠ .pointer (some ⟨V.heap.size, 0, none⟩) := fun e' => by
                      obtain ⟨G, e2, _, h2⟩ := x_8 rfl
                      rw [e2] at e'; simp at e'; have := heap_lt h2; omega
                    exact ih false false false true true true v24 v27 v30 v7 v8 (.pointer (some ⟨V.heap.size, 0, none⟩)) _ (by simp [Go.Proofs.Ytdcjjfipnilmpaa.nb] at hm ⊢ <;> omega) (by decide) (by decide) (below_call hB hC (alloc_below V _)) (got_below o24 (alloc_below V _)) (got_below o27 (alloc_below V _)) (got_below o30 (alloc_below V _)) (abox_below x_7 (alloc_below V _)) (abox_below x_8 (alloc_below V _)) (abox_new 22 hC true) (fun _ _ => hne)
              | false =>
                cases b11 with
                | true =>
                  refine wpAnyH_ready (rs := [2, 10]) (by kernel_rfl) (by simp) ?_
                  refine AllReadyH.cons (o := { dst := some 24, op := Go.Op.call { callee := Go.Callee.value (Go.Operand.func 25), args := #[Go.Operand.tmp 23], argTypes := #[25] }, type := 25, pos := "goods.go:95", after := #[{ on := 1, ground := Go.Ground.data }], guard := none }) (by rfl) (fun K' hK' => ?_) (AllReadyH.cons (o := { dst := some 8, op := Go.Op.alloc 22, type := 0, pos := "goods.go:95", after := #[], guard := none }) (by rfl) (fun K' hK' => ?_) (AllReadyH.nil))
                  · go_simp
                    go_at_call 25
                    refine (HC1.out V hB).mono ?_
                    rintro e V' ⟨⟨v, rfl, hv⟩, hb'⟩
                    go_wp2_with fail
                    refine hK'.out _ _ (below_call hB hC hb') (fun _ => ?_)
                    clear hK' K'
                    try simp only [List.setIfInBounds_toArray, List.set_cons_zero, List.set_cons_succ]
                    exact ih true false false true false true v v27 v30 v7 v8 v9 V' (by simp [Go.Proofs.Ytdcjjfipnilmpaa.nb] at hm ⊢ <;> omega) (by decide) (by decide) (below_call hB hC hb') (got_yes (own_mono hv hC)) (got_below o27 hb') (got_below o30 hb') (abox_below x_7 hb') (abox_below x_8 hb') (abox_below x_9 hb') (fun e1 e2 => d8_9 (by first | trivial | exact e1) (by first | trivial | exact e2))
                  · go_simp
                    go_wp2_with fail
                    refine hK'.out _ _ (below_call hB hC (alloc_below _ _)) (fun _ => ?_)
                    clear hK' K'
                    try simp only [List.setIfInBounds_toArray, List.set_cons_zero, List.set_cons_succ]
                    have hne : v9 ≠ .pointer (some ⟨V.heap.size, 0, none⟩) := fun e' => by
                      obtain ⟨G, e2, _, h2⟩ := x_9 rfl
                      rw [e2] at e'; simp at e'; have := heap_lt h2; omega
                    exact ih false false false true true true v24 v27 v30 v7 (.pointer (some ⟨V.heap.size, 0, none⟩)) v9 _ (by simp [Go.Proofs.Ytdcjjfipnilmpaa.nb] at hm ⊢ <;> omega) (by decide) (by decide) (below_call hB hC (alloc_below V _)) (got_below o24 (alloc_below V _)) (got_below o27 (alloc_below V _)) (got_below o30 (alloc_below V _)) (abox_below x_7 (alloc_below V _)) (abox_new 22 hC true) (abox_below x_9 (alloc_below V _)) (fun _ _ => Ne.symm hne)
                | false =>
                  refine wpAnyH_ready (rs := [2, 10, 11]) (by kernel_rfl) (by simp) ?_
                  refine AllReadyH.cons (o := { dst := some 24, op := Go.Op.call { callee := Go.Callee.value (Go.Operand.func 25), args := #[Go.Operand.tmp 23], argTypes := #[25] }, type := 25, pos := "goods.go:95", after := #[{ on := 1, ground := Go.Ground.data }], guard := none }) (by rfl) (fun K' hK' => ?_) (AllReadyH.cons (o := { dst := some 8, op := Go.Op.alloc 22, type := 0, pos := "goods.go:95", after := #[], guard := none }) (by rfl) (fun K' hK' => ?_) (AllReadyH.cons (o := { dst := some 9, op := Go.Op.alloc 22, type := 0, pos := "goods.go:95", after := #[], guard := none }) (by rfl) (fun K' hK' => ?_) (AllReadyH.nil)))
                  · go_simp
                    go_at_call 25
                    refine (HC1.out V hB).mono ?_
                    rintro e V' ⟨⟨v, rfl, hv⟩, hb'⟩
                    go_wp2_with fail
                    refine hK'.out _ _ (below_call hB hC hb') (fun _ => ?_)
                    clear hK' K'
                    try simp only [List.setIfInBounds_toArray, List.set_cons_zero, List.set_cons_succ]
                    exact ih true false false true false false v v27 v30 v7 v8 v9 V' (by simp [Go.Proofs.Ytdcjjfipnilmpaa.nb] at hm ⊢ <;> omega) (by decide) (by decide) (below_call hB hC hb') (got_yes (own_mono hv hC)) (got_below o27 hb') (got_below o30 hb') (abox_below x_7 hb') (abox_below x_8 hb') (abox_below x_9 hb') (fun e1 e2 => d8_9 (by first | trivial | exact e1) (by first | trivial | exact e2))
                  · go_simp
                    go_wp2_with fail
                    refine hK'.out _ _ (below_call hB hC (alloc_below _ _)) (fun _ => ?_)
                    clear hK' K'
                    try simp only [List.setIfInBounds_toArray, List.set_cons_zero, List.set_cons_succ]
                    exact ih false false false true true false v24 v27 v30 v7 (.pointer (some ⟨V.heap.size, 0, none⟩)) v9 _ (by simp [Go.Proofs.Ytdcjjfipnilmpaa.nb] at hm ⊢ <;> omega) (by decide) (by decide) (below_call hB hC (alloc_below V _)) (got_below o24 (alloc_below V _)) (got_below o27 (alloc_below V _)) (got_below o30 (alloc_below V _)) (abox_below x_7 (alloc_below V _)) (abox_new 22 hC true) (abox_below x_9 (alloc_below V _)) (fun e1 e2 => by cases e2)
                  · go_simp
                    go_wp2_with fail
                    refine hK'.out _ _ (below_call hB hC (alloc_below _ _)) (fun _ => ?_)
                    clear hK' K'
                    try simp only [List.setIfInBounds_toArray, List.set_cons_zero, List.set_cons_succ]
                    exact ih false false false true false true v24 v27 v30 v7 v8 (.pointer (some ⟨V.heap.size, 0, none⟩)) _ (by simp [Go.Proofs.Ytdcjjfipnilmpaa.nb] at hm ⊢ <;> omega) (by decide) (by decide) (below_call hB hC (alloc_below V _)) (got_below o24 (alloc_below V _)) (got_below o27 (alloc_below V _)) (got_below o30 (alloc_below V _)) (abox_below x_7 (alloc_below V _)) (abox_below x_8 (alloc_below V _)) (abox_new 22 hC true) (fun e1 e2 => by cases e1)
            | false =>
              cases b10 with
              | true =>
                cases b11 with
                | true =>
                  refine wpAnyH_ready (rs := [2, 9]) (by kernel_rfl) (by simp) ?_
                  refine AllReadyH.cons (o := { dst := some 24, op := Go.Op.call { callee := Go.Callee.value (Go.Operand.func 25), args := #[Go.Operand.tmp 23], argTypes := #[25] }, type := 25, pos := "goods.go:95", after := #[{ on := 1, ground := Go.Ground.data }], guard := none }) (by rfl) (fun K' hK' => ?_) (AllReadyH.cons (o := { dst := some 7, op := Go.Op.alloc 25, type := 0, pos := "goods.go:95", after := #[], guard := none }) (by rfl) (fun K' hK' => ?_) (AllReadyH.nil))
                  · go_simp
                    go_at_call 25
                    refine (HC1.out V hB).mono ?_
                    rintro e V' ⟨⟨v, rfl, hv⟩, hb'⟩
                    go_wp2_with fail
                    refine hK'.out _ _ (below_call hB hC hb') (fun _ => ?_)
                    clear hK' K'
                    try simp only [List.setIfInBounds_toArray, List.set_cons_zero, List.set_cons_succ]
                    exact ih true false false false true true v v27 v30 v7 v8 v9 V' (by simp [Go.Proofs.Ytdcjjfipnilmpaa.nb] at hm ⊢ <;> omega) (by decide) (by decide) (below_call hB hC hb') (got_yes (own_mono hv hC)) (got_below o27 hb') (got_below o30 hb') (abox_below x_7 hb') (abox_below x_8 hb') (abox_below x_9 hb') (fun e1 e2 => d8_9 (by first | trivial | exact e1) (by first | trivial | exact e2))
                  · go_simp
                    go_wp2_with fail
                    refine hK'.out _ _ (below_call hB hC (alloc_below _ _)) (fun _ => ?_)
                    clear hK' K'
                    try simp only [List.setIfInBounds_toArray, List.set_cons_zero, List.set_cons_succ]
                    exact ih false false false true true true v24 v27 v30 (.pointer (some ⟨V.heap.size, 0, none⟩)) v8 v9 _ (by simp [Go.Proofs.Ytdcjjfipnilmpaa.nb] at hm ⊢ <;> omega) (by decide) (by decide) (below_call hB hC (alloc_below V _)) (got_below o24 (alloc_below V _)) (got_below o27 (alloc_below V _)) (got_below o30 (alloc_below V _)) (abox_new 25 hC true) (abox_below x_8 (alloc_below V _)) (abox_below x_9 (alloc_below V _)) (fun e1 e2 => d8_9 (by first | trivial | exact e1) (by first | trivial | exact e2))
                | false =>
                  refine wpAnyH_ready (rs := [2, 9, 11]) (by kernel_rfl) (by simp) ?_
                  refine AllReadyH.cons (o := { dst := some 24, op := Go.Op.call { callee := Go.Callee.value (Go.Operand.func 25), args := #[Go.Operand.tmp 23], argTypes := #[25] }, type := 25, pos := "goods.go:95", after := #[{ on := 1, ground := Go.Ground.data }], guard := none }) (by rfl) (fun K' hK' => ?_) (AllReadyH.cons (o := { dst := some 7, op := Go.Op.alloc 25, type := 0, pos := "goods.go:95", after := #[], guard := none }) (by rfl) (fun K' hK' => ?_) (AllReadyH.cons (o := { dst := some 9, op := Go.Op.alloc 22, type := 0, pos := "goods.go:95", after := #[], guard := none }) (by rfl) (fun K' hK' => ?_) (AllReadyH.nil)))
                  · go_simp
                    go_at_call 25
                    refine (HC1.out V hB).mono ?_
                    rintro e V' ⟨⟨v, rfl, hv⟩, hb'⟩
                    go_wp2_with fail
                    refine hK'.out _ _ (below_call hB hC hb') (fun _ => ?_)
                    clear hK' K'
                    try simp only [List.setIfInBounds_toArray, List.set_cons_zero, List.set_cons_succ]
                    exact ih true false false false true false v v27 v30 v7 v8 v9 V' (by simp [Go.Proofs.Ytdcjjfipnilmpaa.nb] at hm ⊢ <;> omega) (by decide) (by decide) (below_call hB hC hb') (got_yes (own_mono hv hC)) (got_below o27 hb') (got_below o30 hb') (abox_below x_7 hb') (abox_below x_8 hb') (abox_below x_9 hb') (fun e1 e2 => d8_9 (by first | trivial | exact e1) (by first | trivial | exact e2))
                  · go_simp
                    go_wp2_with fail
                    refine hK'.out _ _ (below_call hB hC (alloc_below _ _)) (fun _ => ?_)
                    clear hK' K'
                    try simp only [List.setIfInBounds_toArray, List.set_cons_zero, List.set_cons_succ]
                    exact ih false false false true true false v24 v27 v30 (.pointer (some ⟨V.heap.size, 0, none⟩)) v8 v9 _ (by simp [Go.Proofs.Ytdcjjfipnilmpaa.nb] at hm ⊢ <;> omega) (by decide) (by decide) (below_call hB hC (alloc_below V _)) (got_below o24 (alloc_below V _)) (got_below o27 (alloc_below V _)) (got_below o30 (alloc_below V _)) (abox_new 25 hC true) (abox_below x_8 (alloc_below V _)) (abox_below x_9 (alloc_below V _)) (fun e1 e2 => d8_9 (by first | trivial | exact e1) (by first | trivial | exact e2))
                  · go_simp
                    go_wp2_with fail
                    refine hK'.out _ _ (below_call hB hC (alloc_below _ _)) (fun _ => ?_)
                    clear hK' K'
                    try simp only [List.setIfInBounds_toArray, List.set_cons_zero, List.set_cons_succ]
                    have hne : v8 ≠ .pointer (some ⟨V.heap.size, 0, none⟩) := fun e' => by
                      obtain ⟨G, e2, _, h2⟩ := x_8 rfl
                      rw [e2] at e'; simp at e'; have := heap_lt h2; omega
                    exact ih false false false false true true v24 v27 v30 v7 v8 (.pointer (some ⟨V.heap.size, 0, none⟩)) _ (by simp [Go.Proofs.Ytdcjjfipnilmpaa.nb] at hm ⊢ <;> omega) (by decide) (by decide) (below_call hB hC (alloc_below V _)) (got_below o24 (alloc_below V _)) (got_below o27 (alloc_below V _)) (got_below o30 (alloc_below V _)) (abox_below x_7 (alloc_below V _)) (abox_below x_8 (alloc_below V _)) (abox_new 22 hC true) (fun _ _ => hne)
              | false =>
                cases b11 with
                | true =>
                  refine wpAnyH_ready (rs := [2, 9, 10]) (by kernel_rfl) (by simp) ?_
                  refine AllReadyH.cons (o := { dst := some 24, op := Go.Op.call { callee := Go.Callee.value (Go.Operand.func 25), args := #[Go.Operand.tmp 23], argTypes := #[25] }, type := 25, pos := "goods.go:95", after := #[{ on := 1, ground := Go.Ground.data }], guard := none }) (by rfl) (fun K' hK' => ?_) (AllReadyH.cons (o := { dst := some 7, op := Go.Op.alloc 25, type := 0, pos := "goods.go:95", after := #[], guard := none }) (by rfl) (fun K' hK' => ?_) (AllReadyH.cons (o := { dst := some 8, op := Go.Op.alloc 22, type := 0, pos := "goods.go:95", after := #[], guard := none }) (by rfl) (fun K' hK' => ?_) (AllReadyH.nil)))
                  · go_simp
                    go_at_call 25
                    refine (HC1.out V hB).mono ?_
                    rintro e V' ⟨⟨v, rfl, hv⟩, hb'⟩
                    go_wp2_with fail
                    refine hK'.out _ _ (below_call hB hC hb') (fun _ => ?_)
                    clear hK' K'
                    try simp only [List.setIfInBounds_toArray, List.set_cons_zero, List.set_cons_succ]
                    exact ih true false false false false true v v27 v30 v7 v8 v9 V' (by simp [Go.Proofs.Ytdcjjfipnilmpaa.nb] at hm ⊢ <;> omega) (by decide) (by decide) (below_call hB hC hb') (got_yes (own_mono hv hC)) (got_below o27 hb') (got_below o30 hb') (abox_below x_7 hb') (abox_below x_8 hb') (abox_below x_9 hb') (fun e1 e2 => d8_9 (by first | trivial | exact e1) (by first | trivial | exact e2))
                  · go_simp
                    go_wp2_with fail
                    refine hK'.out _ _ (below_call hB hC (alloc_below _ _)) (fun _ => ?_)
                    clear hK' K'
                    try simp only [List.setIfInBounds_toArray, List.set_cons_zero, List.set_cons_succ]
                    exact ih false false false true false true v24 v27 v30 (.pointer (some ⟨V.heap.size, 0, none⟩)) v8 v9 _ (by simp [Go.Proofs.Ytdcjjfipnilmpaa.nb] at hm ⊢ <;> omega) (by decide) (by decide) (below_call hB hC (alloc_below V _)) (got_below o24 (alloc_below V _)) (got_below o27 (alloc_below V _)) (got_below o30 (alloc_below V _)) (abox_new 25 hC true) (abox_below x_8 (alloc_below V _)) (abox_below x_9 (alloc_below V _)) (fun e1 e2 => d8_9 (by first | trivial | exact e1) (by first | trivial | exact e2))
                  · go_simp
                    go_wp2_with fail
                    refine hK'.out _ _ (below_call hB hC (alloc_below _ _)) (fun _ => ?_)
                    clear hK' K'
                    try simp only [List.setIfInBounds_toArray, List.set_cons_zero, List.set_cons_succ]
                    have hne : v9 ≠ .pointer (some ⟨V.heap.size, 0, none⟩) := fun e' => by
                      obtain ⟨G, e2, _, h2⟩ := x_9 rfl
                      rw [e2] at e'; simp at e'; have := heap_lt h2; omega
                    exact ih false false false false true true v24 v27 v30 v7 (.pointer (some ⟨V.heap.size, 0, none⟩)) v9 _ (by simp [Go.Proofs.Ytdcjjfipnilmpaa.nb] at hm ⊢ <;> omega) (by decide) (by decide) (below_call hB hC (alloc_below V _)) (got_below o24 (alloc_below V _)) (got_below o27 (alloc_below V _)) (got_below o30 (alloc_below V _)) (abox_below x_7 (alloc_below V _)) (abox_new 22 hC true) (abox_below x_9 (alloc_below V _)) (fun _ _ => Ne.symm hne)
                | false =>
                  refine wpAnyH_ready (rs := [2, 9, 10, 11]) (by kernel_rfl) (by simp) ?_
                  refine AllReadyH.cons (o := { dst := some 24, op := Go.Op.call { callee := Go.Callee.value (Go.Operand.func 25), args := #[Go.Operand.tmp 23], argTypes := #[25] }, type := 25, pos := "goods.go:95", after := #[{ on := 1, ground := Go.Ground.data }], guard := none }) (by rfl) (fun K' hK' => ?_) (AllReadyH.cons (o := { dst := some 7, op := Go.Op.alloc 25, type := 0, pos := "goods.go:95", after := #[], guard := none }) (by rfl) (fun K' hK' => ?_) (AllReadyH.cons (o := { dst := some 8, op := Go.Op.alloc 22, type := 0, pos := "goods.go:95", after := #[], guard := none }) (by rfl) (fun K' hK' => ?_) (AllReadyH.cons (o := { dst := some 9, op := Go.Op.alloc 22, type := 0, pos := "goods.go:95", after := #[], guard := none }) (by rfl) (fun K' hK' => ?_) (AllReadyH.nil))))
                  · go_simp
                    go_at_call 25
                    refine (HC1.out V hB).mono ?_
                    rintro e V' ⟨⟨v, rfl, hv⟩, hb'⟩
                    go_wp2_with fail
                    refine hK'.out _ _ (below_call hB hC hb') (fun _ => ?_)
                    clear hK' K'
                    try simp only [List.setIfInBounds_toArray, List.set_cons_zero, List.set_cons_succ]
                    exact ih true false false false false false v v27 v30 v7 v8 v9 V' (by simp [Go.Proofs.Ytdcjjfipnilmpaa.nb] at hm ⊢ <;> omega) (by decide) (by decide) (below_call hB hC hb') (got_yes (own_mono hv hC)) (got_below o27 hb') (got_below o30 hb') (abox_below x_7 hb') (abox_below x_8 hb') (abox_below x_9 hb') (fun e1 e2 => d8_9 (by first | trivial | exact e1) (by first | trivial | exact e2))
                  · go_simp
                    go_wp2_with fail
                    refine hK'.out _ _ (below_call hB hC (alloc_below _ _)) (fun _ => ?_)
                    clear hK' K'
                    try simp only [List.setIfInBounds_toArray, List.set_cons_zero, List.set_cons_succ]
                    exact ih false false false true false false v24 v27 v30 (.pointer (some ⟨V.heap.size, 0, none⟩)) v8 v9 _ (by simp [Go.Proofs.Ytdcjjfipnilmpaa.nb] at hm ⊢ <;> omega) (by decide) (by decide) (below_call hB hC (alloc_below V _)) (got_below o24 (alloc_below V _)) (got_below o27 (alloc_below V _)) (got_below o30 (alloc_below V _)) (abox_new 25 hC true) (abox_below x_8 (alloc_below V _)) (abox_below x_9 (alloc_below V _)) (fun e1 e2 => d8_9 (by first | trivial | exact e1) (by first | trivial | exact e2))
                  · go_simp
                    go_wp2_with fail
                    refine hK'.out _ _ (below_call hB hC (alloc_below _ _)) (fun _ => ?_)
                    clear hK' K'
                    try simp only [List.setIfInBounds_toArray, List.set_cons_zero, List.set_cons_succ]
                    exact ih false false false false true false v24 v27 v30 v7 (.pointer (some ⟨V.heap.size, 0, none⟩)) v9 _ (by simp [Go.Proofs.Ytdcjjfipnilmpaa.nb] at hm ⊢ <;> omega) (by decide) (by decide) (below_call hB hC (alloc_below V _)) (got_below o24 (alloc_below V _)) (got_below o27 (alloc_below V _)) (got_below o30 (alloc_below V _)) (abox_below x_7 (alloc_below V _)) (abox_new 22 hC true) (abox_below x_9 (alloc_below V _)) (fun e1 e2 => by cases e2)
                  · go_simp
                    go_wp2_with fail
                    refine hK'.out _ _ (below_call hB hC (alloc_below _ _)) (fun _ => ?_)
                    clear hK' K'
                    try simp only [List.setIfInBounds_toArray, List.set_cons_zero, List.set_cons_succ]
                    exact ih false false false false false true v24 v27 v30 v7 v8 (.pointer (some ⟨V.heap.size, 0, none⟩)) _ (by simp [Go.Proofs.Ytdcjjfipnilmpaa.nb] at hm ⊢ <;> omega) (by decide) (by decide) (below_call hB hC (alloc_below V _)) (got_below o24 (alloc_below V _)) (got_below o27 (alloc_below V _)) (got_below o30 (alloc_below V _)) (abox_below x_7 (alloc_below V _)) (abox_below x_8 (alloc_below V _)) (abox_new 22 hC true) (fun e1 e2 => by cases e1)
  refine wp_region_noPanic ?_
  refine wp_region_held_drew (S := (fun V => Below w0.heap.size w0 V)) (by kernel_rfl) (Below.drew (Below.refl _ _)) (fun hHeld => ?_)
  refine wpAnyH_take (i := 0) (oi := { dst := some 22, op := Go.Op.fieldAddr 28 (Go.Operand.tmp 2) 1, type := 0, pos := "goods.go:95", after := #[], guard := none }) (v := .pointer (some ⟨F, 3, none⟩)) (by rfl) (by kernel_rfl) (by kernel_rfl) (by kernel_rfl) (fun _ _ _ h => h) (Or.inl ⟨by rfl, by intro V hV; obtain ⟨z0, z1, z2, z3, z4, z5, z6, z7, z8⟩ := HBX.out V hV; go_simp⟩) hHeld ?_
  try simp only [Act.put, List.setIfInBounds_toArray, List.set_cons_zero, List.set_cons_succ]
  refine wpAnyH_take (i := 1) (oi := { dst := some 23, op := Go.Op.load 25 (Go.Operand.tmp 22), type := 25, pos := "goods.go:95", after := #[{ on := 0, ground := Go.Ground.data }], guard := none }) (v := .slice pb nb cb) (by rfl) (by kernel_rfl) (by kernel_rfl) (by kernel_rfl) (fun _ _ _ h => h) (Or.inl ⟨by rfl, by intro V hV; obtain ⟨z0, z1, z2, z3, z4, z5, z6, z7, z8⟩ := HBX.out V hV; go_simp⟩) hHeld ?_
  try simp only [Act.put, List.setIfInBounds_toArray, List.set_cons_zero, List.set_cons_succ]
  refine wpAnyH_take (i := 3) (oi := { dst := some 25, op := Go.Op.fieldAddr 28 (Go.Operand.tmp 2) 2, type := 0, pos := "goods.go:95", after := #[], guard := none }) (v := .pointer (some ⟨F, 4, none⟩)) (by rfl) (by kernel_rfl) (by kernel_rfl) (by kernel_rfl) (fun _ _ _ h => h) (Or.inl ⟨by rfl, by intro V hV; obtain ⟨z0, z1, z2, z3, z4, z5, z6, z7, z8⟩ := HBX.out V hV; go_simp⟩) hHeld ?_
  try simp only [Act.put, List.setIfInBounds_toArray, List.set_cons_zero, List.set_cons_succ]
  refine wpAnyH_take (i := 4) (oi := { dst := some 26, op := Go.Op.load 22 (Go.Operand.tmp 25), type := 22, pos := "goods.go:95", after := #[{ on := 3, ground := Go.Ground.data }], guard := none }) (v := .slice ps ns cs) (by rfl) (by kernel_rfl) (by kernel_rfl) (by kernel_rfl) (fun _ _ _ h => h) (Or.inl ⟨by rfl, by intro V hV; obtain ⟨z0, z1, z2, z3, z4, z5, z6, z7, z8⟩ := HBX.out V hV; go_simp⟩) hHeld ?_
  try simp only [Act.put, List.setIfInBounds_toArray, List.set_cons_zero, List.set_cons_succ]
  refine wpAnyH_take (i := 6) (oi := { dst := some 28, op := Go.Op.fieldAddr 28 (Go.Operand.tmp 2) 3, type := 0, pos := "goods.go:95", after := #[], guard := none }) (v := .pointer (some ⟨F, 5, none⟩)) (by rfl) (by kernel_rfl) (by kernel_rfl) (by kernel_rfl) (fun _ _ _ h => h) (Or.inl ⟨by rfl, by intro V hV; obtain ⟨z0, z1, z2, z3, z4, z5, z6, z7, z8⟩ := HBX.out V hV; go_simp⟩) hHeld ?_
  try simp only [Act.put, List.setIfInBounds_toArray, List.set_cons_zero, List.set_cons_succ]
  refine wpAnyH_take (i := 7) (oi := { dst := some 29, op := Go.Op.load 22 (Go.Operand.tmp 28), type := 22, pos := "goods.go:95", after := #[{ on := 6, ground := Go.Ground.data }], guard := none }) (v := .slice pm nm cm) (by rfl) (by kernel_rfl) (by kernel_rfl) (by kernel_rfl) (fun _ _ _ h => h) (Or.inl ⟨by rfl, by intro V hV; obtain ⟨z0, z1, z2, z3, z4, z5, z6, z7, z8⟩ := HBX.out V hV; go_simp⟩) hHeld ?_
  try simp only [Act.put, List.setIfInBounds_toArray, List.set_cons_zero, List.set_cons_succ]
  exact key 6 false false false false false false x24 x27 x30 x7 x8 x9 _ (by rfl) (fun e1 => by cases e1) (fun e1 => by cases e1) hHeld got_no got_no got_no abox_no abox_no abox_no (fun e1 _ => by cases e1)
end Go.Proofs.Ytdcjjfipnilmpaa
