/- Two regions that copy, make boxes and store into them, in any order. -/
import Derived.Test.YtnbbfnlfcncgnaaHc
import Derived.Test.YtnbbfnlfcncgnaaCw
import Derived.Test.YtnbbfnlfcncgnaaMb
import Derived.RegionTactic
namespace Go.Proofs.Ytnbbfnlfcncgnaa
open Go.RowKit
set_option linter.unusedVariables false

/-- Where it is told (b), v is a row of one's own. -/
def got (b : Bool) (C : Nat) (V : World) (e : TypeId) (z : Nat) (v : Value) (m : Nat) (xs : List Value) : Prop := b = true → V.ownsRow C e z v m xs
/-- Where it is told (b), v is a box of one's own for a slice, and nil lies in it. -/
def abox (b : Bool) (C : Nat) (V : World) (t : TypeId) (v : Value) : Prop := b = true → ∃ G, v = .pointer (some ⟨G, 0, none⟩) ∧ C ≤ G ∧ V.heap[G]? = some (.cells #[.slice none 0 0] t (0, 0))
theorem got_below {b : Bool} {C : Nat} {V V' : World} {e : TypeId} {z : Nat} {v : Value} {m : Nat} {xs : List Value} (h : got b C V e z v m xs) (hb : Below V.heap.size V V') : got b C V' e z v m xs := fun e' =>
  own_stays (h e') (Ex.of_below (S := fun _ => False) hb) (fun _ _ e => e)
theorem abox_below {b : Bool} {C : Nat} {V V' : World} {t : TypeId} {v : Value} (h : abox b C V t v) (hb : Below V.heap.size V V') : abox b C V' t v := fun e' => by
  obtain ⟨G, e, h1, h2⟩ := h e'
  exact ⟨G, e, h1, (hb.block G (heap_lt h2)).trans h2⟩
theorem abox_new {C : Nat} {V : World} (t : TypeId) (hC : C ≤ V.heap.size) (b : Bool) : abox b C (V.alloc (.cells #[.slice none 0 0] t)) t (.pointer (some ⟨V.heap.size, 0, none⟩)) := fun _ => ⟨_, rfl, hC, World.alloc_heap_new V _⟩
theorem got_no {C : Nat} {V : World} {e : TypeId} {z : Nat} {v : Value} {m : Nat} {xs : List Value} : got false C V e z v m xs := fun h => by cases h
theorem abox_no {C : Nat} {V : World} {t : TypeId} {v : Value} : abox false C V t v := fun h => by cases h
theorem got_yes {b : Bool} {C : Nat} {V : World} {e : TypeId} {z : Nat} {v : Value} {m : Nat} {xs : List Value} (h : V.ownsRow C e z v m xs) : got b C V e z v m xs := fun _ => h
/-- A box's cell. -/
theorem box_cell {V : World} {G : Nat} {x : Value} {t : TypeId} (h : V.heap[G]? = some (.cells #[x] t (0, 0))) : V.cell? ⟨G, 0, none⟩ = some x ∧ V.frozen? ⟨G, 0, none⟩ = false := by
  refine ⟨?_, ?_⟩
  · simp [World.cell?, h]
  · simp [World.frozen?, h]
theorem box_put {V : World} {G : Nat} {x u : Value} {t : TypeId} (h : V.heap[G]? = some (.cells #[x] t (0, 0))) : (V.setCell ⟨G, 0, none⟩ u).heap[G]? = some (.cells #[u] t (0, 0)) := by
  rw [heap_setCell_same V G 0 _ t u h]; rfl
theorem box_off {V : World} {G K : Nat} {o : Obj} {u : Value} (h : V.heap[K]? = some o) (hne : K ≠ G) : (V.setCell ⟨G, 0, none⟩ u).heap[K]? = some o := by
  rw [Below.heap_setCell _ _ _ _ hne]; exact h
theorem own_put {e t : TypeId} {z C m : Nat} {V : World} {v u x : Value} {xs : List Value} {G : Nat} (h : V.ownsRow C e z v m xs) (hG : V.heap[G]? = some (.cells #[x] t (0, 0))) (hne : e ≠ t) : (V.setCell ⟨G, 0, none⟩ u).ownsRow C e z v m xs :=
  own_stays h (Ex.set (S := fun g => g = G) V ⟨G, 0, none⟩ rfl u) (fun g hg e' => own_not h hG hne g hg e')
def nb (b : Bool) : Nat := if b then 0 else 1
def ops1 : Array Oper := #[{ dst := some 22, op := Op.fieldAddr 28 (Operand.tmp 4) 4, type := 0, pos := "march.go:104", after := #[], guard := none }, { dst := some 23, op := Op.load 26 (Operand.tmp 22), type := 26, pos := "march.go:104", after := #[{ on := 0, ground := Ground.data }], guard := none }, { dst := some 24, op := Op.call { callee := Callee.value (Operand.func 30), args := #[Operand.tmp 23], argTypes := #[26] }, type := 26, pos := "march.go:104", after := #[{ on := 1, ground := Ground.data }], guard := none }, { dst := some 25, op := Op.fieldAddr 28 (Operand.tmp 4) 0, type := 0, pos := "march.go:104", after := #[], guard := none }, { dst := some 26, op := Op.fieldAddr 24 (Operand.tmp 25) 2, type := 0, pos := "march.go:104", after := #[{ on := 3, ground := Ground.data }], guard := none }, { dst := some 27, op := Op.load 22 (Operand.tmp 26), type := 22, pos := "march.go:104", after := #[{ on := 4, ground := Ground.data }], guard := none }, { dst := some 28, op := Op.call { callee := Callee.value (Operand.func 31), args := #[Operand.tmp 27], argTypes := #[22] }, type := 22, pos := "march.go:104", after := #[{ on := 5, ground := Ground.data }, { on := 2, ground := Ground.chain }], guard := none }, { dst := some 9, op := Op.alloc 26, type := 0, pos := "march.go:104", after := #[], guard := none }, { dst := some 10, op := Op.alloc 22, type := 0, pos := "march.go:104", after := #[], guard := none }, { dst := none, op := Op.store 26 (Operand.tmp 9) (Operand.tmp 24), type := 0, pos := "march.go:104", after := #[{ on := 7, ground := Ground.data }, { on := 2, ground := Ground.data }, { on := 6, ground := Ground.chain }, { on := 0, ground := Ground.phase }, { on := 1, ground := Ground.phase }, { on := 2, ground := Ground.phase }, { on := 3, ground := Ground.textOnly Departure.lateStores }, { on := 4, ground := Ground.textOnly Departure.lateStores }, { on := 5, ground := Ground.textOnly Departure.lateStores }, { on := 6, ground := Ground.textOnly Departure.lateStoresUnsure }, { on := 7, ground := Ground.phase }, { on := 8, ground := Ground.phase }], guard := none }, { dst := none, op := Op.store 22 (Operand.tmp 10) (Operand.tmp 28), type := 0, pos := "march.go:104", after := #[{ on := 8, ground := Ground.data }, { on := 6, ground := Ground.data }, { on := 9, ground := Ground.chain }, { on := 0, ground := Ground.phase }, { on := 1, ground := Ground.phase }, { on := 2, ground := Ground.phase }, { on := 3, ground := Ground.phase }, { on := 4, ground := Ground.phase }, { on := 5, ground := Ground.phase }, { on := 6, ground := Ground.phase }, { on := 7, ground := Ground.phase }, { on := 8, ground := Ground.phase }, { on := 9, ground := Ground.phase }], guard := none }]
set_option maxRecDepth 40000 in
set_option maxHeartbeats 16000000 in
theorem reg1 (F : Nat) (A B N T : Int) (p pb ps pm pt : Option Addr) (n c nb cb ns cs nm cm nt ct : Nat) (l ls lm : List Int) (lb : List Cel) (lt : List Trp) (w0 : World) (x0 x1 x2 x3 x5 x6 x7 x8 x9 x10 x11 x12 x13 x14 x15 x16 x17 x18 x19 x20 x21 x22 x23 x24 x25 x26 x27 x28 x29 x30 x31 x32 x33 x34 x35 x36 x37 x38 x39 x40 x41 x42 x43 x44 x45 x46 x47 x48 x49 x50 x51 x52 x53 x54 x55 x56 x57 x58 x59 x60 x61 x62 x63 x64 x65 x66 x67 : Value) (Q : Exit → Act → World → Prop)
    (hx : bx9 w0 F (.int .i64 A) (.int .i64 B) (.slice p n c) (.slice pb nb cb) (.slice ps ns cs) (.slice pm nm cm) (.slice pt nt ct) (.int .i64 N) (.int .i64 T)) (HC1 : Hid (∀ V, Below w0.heap.size w0 V → Calls Try.prog 30 #[.slice pt nt ct] V fun e w' => (∃ v, e = .returned v ∧ w'.ownsRow V.heap.size 41 7 v lt.length (flat7 lt)) ∧ Below V.heap.size V w')) (HC2 : Hid (∀ V, Below w0.heap.size w0 V → Calls Try.prog 31 #[.slice p n c] V fun e w' => (∃ v, e = .returned v ∧ w'.ownsRow V.heap.size 3 1 v l.length (l.map vi)) ∧ Below V.heap.size V w'))
    (hQ : Hid (∀ v24 v28 g9 g10 V, Below w0.heap.size w0 V → V.cell? ⟨g9, 0, none⟩ = some v24 → V.cell? ⟨g10, 0, none⟩ = some v28 → V.ownsRow w0.heap.size 41 7 v24 lt.length (flat7 lt) → V.ownsRow w0.heap.size 3 1 v28 l.length (l.map vi) → Q .normal { tmps := #[x0, x1, x2, x3, .pointer (some ⟨F, 0, none⟩), x5, x6, x7, x8, .pointer (some ⟨g9, 0, none⟩), .pointer (some ⟨g10, 0, none⟩), x11, x12, x13, x14, x15, x16, x17, x18, x19, x20, x21, .pointer (some ⟨F, 6, none⟩), .slice pt nt ct, v24, .pointer (some ⟨F, 0, none⟩), .pointer (some ⟨F, 2, none⟩), .slice p n c, v28, x29, x30, x31, x32, x33, x34, x35, x36, x37, x38, x39, x40, x41, x42, x43, x44, x45, x46, x47, x48, x49, x50, x51, x52, x53, x54, x55, x56, x57, x58, x59, x60, x61, x62, x63, x64, x65, x66, x67], defers := [] } V)) :
    (Code.region 1 ops1 true).wp Try.prog Q { tmps := #[x0, x1, x2, x3, .pointer (some ⟨F, 0, none⟩), x5, x6, x7, x8, x9, x10, x11, x12, x13, x14, x15, x16, x17, x18, x19, x20, x21, x22, x23, x24, x25, x26, x27, x28, x29, x30, x31, x32, x33, x34, x35, x36, x37, x38, x39, x40, x41, x42, x43, x44, x45, x46, x47, x48, x49, x50, x51, x52, x53, x54, x55, x56, x57, x58, x59, x60, x61, x62, x63, x64, x65, x66, x67], defers := [] } w0 := by
  have HBX : Hid (∀ V, Below w0.heap.size w0 V → c9 V F (.int .i64 A) (.int .i64 B) (.slice p n c) (.slice pb nb cb) (.slice ps ns cs) (.slice pm nm cm) (.slice pt nt ct) (.int .i64 N) (.int .i64 T)) := fun V hV => bx9_c9 (bx9_below hx hV)
  clear hx
  have key : ∀ (m : Nat) (b2 b6 b7 b8 : Bool) (v24 v28 v9 v10 : Value) (V : World), Go.Proofs.Ytnbbfnlfcncgnaa.nb b2 + Go.Proofs.Ytnbbfnlfcncgnaa.nb b6 + Go.Proofs.Ytnbbfnlfcncgnaa.nb b7 + Go.Proofs.Ytnbbfnlfcncgnaa.nb b8 = m → (b6 = true → b2 = true) → Below w0.heap.size w0 V → got b2 w0.heap.size V 41 7 v24 lt.length (flat7 lt) → got b6 w0.heap.size V 3 1 v28 l.length (l.map vi) → abox b7 w0.heap.size V 26 v9 → abox b8 w0.heap.size V 22 v10 → wpAnyH Try.prog .any ops1 (NoPanic Q) (fun V => Below w0.heap.size w0 V) (m + 2) #[true, true, b2, true, true, true, b6, b7, b8, false, false] { tmps := #[x0, x1, x2, x3, .pointer (some ⟨F, 0, none⟩), x5, x6, x7, x8, v9, v10, x11, x12, x13, x14, x15, x16, x17, x18, x19, x20, x21, .pointer (some ⟨F, 6, none⟩), .slice pt nt ct, v24, .pointer (some ⟨F, 0, none⟩), .pointer (some ⟨F, 2, none⟩), .slice p n c, v28, x29, x30, x31, x32, x33, x34, x35, x36, x37, x38, x39, x40, x41, x42, x43, x44, x45, x46, x47, x48, x49, x50, x51, x52, x53, x54, x55, x56, x57, x58, x59, x60, x61, x62, x63, x64, x65, x66, x67], defers := [] } V := by
    intro m
    induction m with
    | zero =>
      intro b2 b6 b7 b8 v24 v28 v9 v10 V hm h0 hB o24 o28 x_9 x_10
      obtain ⟨rfl, rfl, rfl, rfl⟩ : b2 = true ∧ b6 = true ∧ b7 = true ∧ b8 = true := by
        revert hm
        cases b2 <;> cases b6 <;> cases b7 <;> cases b8 <;> simp [Go.Proofs.Ytnbbfnlfcncgnaa.nb]
      have w24 := o24 rfl
      obtain ⟨q24, e24, rfl⟩ := mine_form w24
      have w28 := o28 rfl
      obtain ⟨q28, e28, rfl⟩ := mine_form w28
      obtain ⟨g9, rfl, C9, B9⟩ := x_9 rfl
      obtain ⟨g10, rfl, C10, B10⟩ := x_10 rfl
      have n9_10 : g9 ≠ g10 := fun e => by rw [e, B10] at B9; simp at B9
      clear hm h0 o24 o28 x_9 x_10 
      have cc0 := box_cell B9
      obtain ⟨ca0, cb0⟩ := cc0
      refine wpAnyH_ready (rs := [9]) (by kernel_rfl) (by simp) ?_
      refine AllReadyH.cons (o := { dst := none, op := Op.store 26 (Operand.tmp 9) (Operand.tmp 24), type := 0, pos := "march.go:104", after := #[{ on := 7, ground := Ground.data }, { on := 2, ground := Ground.data }, { on := 6, ground := Ground.chain }, { on := 0, ground := Ground.phase }, { on := 1, ground := Ground.phase }, { on := 2, ground := Ground.phase }, { on := 3, ground := Ground.textOnly Departure.lateStores }, { on := 4, ground := Ground.textOnly Departure.lateStores }, { on := 5, ground := Ground.textOnly Departure.lateStores }, { on := 6, ground := Ground.textOnly Departure.lateStoresUnsure }, { on := 7, ground := Ground.phase }, { on := 8, ground := Ground.phase }], guard := none }) (by rfl) (fun K' hK' => ?_) AllReadyH.nil
      go_simp
      go_wp2_with fail
      have HN0 : Hid (Below w0.heap.size w0 (V.setCell ⟨g9, 0, none⟩ (.slice q24 lt.length e24))) := hB.setCell C9 _
      refine hK'.out _ _ HN0.out (fun _ => ?_)
      clear hK' K'
      try simp only [List.setIfInBounds_toArray, List.set_cons_zero, List.set_cons_succ]
      obtain ⟨V0, hV0⟩ : ∃ U, V.setCell ⟨g9, 0, none⟩ (.slice q24 lt.length e24) = U := ⟨_, rfl⟩
      rw [hV0]
      replace w24 := own_put (u := (.slice q24 lt.length e24)) w24 B9 (by decide)
      replace w28 := own_put (u := (.slice q24 lt.length e24)) w28 B9 (by decide)
      replace B10 := box_off (G := g9) (u := (.slice q24 lt.length e24)) B10 (Ne.symm n9_10)
      replace B9 := box_put (u := (.slice q24 lt.length e24)) B9
      rw [hV0] at w24
      rw [hV0] at w28
      rw [hV0] at B9
      rw [hV0] at B10
      replace hB : Below w0.heap.size w0 V0 := by rw [← hV0]; exact HN0.out
      clear ca0 cb0 HN0 hV0
      have cc1 := box_cell B10
      obtain ⟨ca1, cb1⟩ := cc1
      refine wpAnyH_ready (rs := [10]) (by kernel_rfl) (by simp) ?_
      refine AllReadyH.cons (o := { dst := none, op := Op.store 22 (Operand.tmp 10) (Operand.tmp 28), type := 0, pos := "march.go:104", after := #[{ on := 8, ground := Ground.data }, { on := 6, ground := Ground.data }, { on := 9, ground := Ground.chain }, { on := 0, ground := Ground.phase }, { on := 1, ground := Ground.phase }, { on := 2, ground := Ground.phase }, { on := 3, ground := Ground.phase }, { on := 4, ground := Ground.phase }, { on := 5, ground := Ground.phase }, { on := 6, ground := Ground.phase }, { on := 7, ground := Ground.phase }, { on := 8, ground := Ground.phase }, { on := 9, ground := Ground.phase }], guard := none }) (by rfl) (fun K' hK' => ?_) AllReadyH.nil
      go_simp
      go_wp2_with fail
      have HN1 : Hid (Below w0.heap.size w0 (V0.setCell ⟨g10, 0, none⟩ (.slice q28 l.length e28))) := hB.setCell C10 _
      refine hK'.out _ _ HN1.out (fun _ => ?_)
      clear hK' K'
      try simp only [List.setIfInBounds_toArray, List.set_cons_zero, List.set_cons_succ]
      obtain ⟨V1, hV1⟩ : ∃ U, V0.setCell ⟨g10, 0, none⟩ (.slice q28 l.length e28) = U := ⟨_, rfl⟩
      rw [hV1]
      replace w24 := own_put (u := (.slice q28 l.length e28)) w24 B10 (by decide)
      replace w28 := own_put (u := (.slice q28 l.length e28)) w28 B10 (by decide)
      replace B9 := box_off (G := g10) (u := (.slice q28 l.length e28)) B9 n9_10
      replace B10 := box_put (u := (.slice q28 l.length e28)) B10
      rw [hV1] at w24
      rw [hV1] at w28
      rw [hV1] at B9
      rw [hV1] at B10
      replace hB : Below w0.heap.size w0 V1 := by rw [← hV1]; exact HN1.out
      clear ca1 cb1 HN1 hV1
      refine wpAnyH_done (by kernel_rfl) ?_ _
      refine NoPanic.normal ?_
      exact hQ.out (.slice q24 lt.length e24) (.slice q28 l.length e28) g9 g10 V1 hB (box_cell B9).1 (box_cell B10).1 w24 w28
    | succ m ih =>
      intro b2 b6 b7 b8 v24 v28 v9 v10 V hm h0 hB o24 o28 x_9 x_10
      have hC : w0.heap.size ≤ V.heap.size := hB.size
      cases b2 with
      | true =>
        cases b6 with
        | true =>
          cases b7 with
          | true =>
            cases b8 with
            | true =>
              simp [Go.Proofs.Ytnbbfnlfcncgnaa.nb] at hm
            | false =>
              refine wpAnyH_ready (rs := [8]) (by kernel_rfl) (by simp) ?_
              refine AllReadyH.cons (o := { dst := some 10, op := Op.alloc 22, type := 0, pos := "march.go:104", after := #[], guard := none }) (by rfl) (fun K' hK' => ?_) (AllReadyH.nil)
              · go_simp
                go_wp2_with fail
                refine hK'.out _ _ (below_call hB hC (alloc_below _ _)) (fun _ => ?_)
                clear hK' K'
                try simp only [List.setIfInBounds_toArray, List.set_cons_zero, List.set_cons_succ]
                exact ih true true true true v24 v28 v9 (.pointer (some ⟨V.heap.size, 0, none⟩)) _ (by simp [Go.Proofs.Ytnbbfnlfcncgnaa.nb] at hm ⊢ <;> omega) (by decide) (below_call hB hC (alloc_below V _)) (got_below o24 (alloc_below V _)) (got_below o28 (alloc_below V _)) (abox_below x_9 (alloc_below V _)) (abox_new 22 hC true)
          | false =>
            cases b8 with
            | true =>
              refine wpAnyH_ready (rs := [7]) (by kernel_rfl) (by simp) ?_
              refine AllReadyH.cons (o := { dst := some 9, op := Op.alloc 26, type := 0, pos := "march.go:104", after := #[], guard := none }) (by rfl) (fun K' hK' => ?_) (AllReadyH.nil)
              · go_simp
                go_wp2_with fail
                refine hK'.out _ _ (below_call hB hC (alloc_below _ _)) (fun _ => ?_)
                clear hK' K'
                try simp only [List.setIfInBounds_toArray, List.set_cons_zero, List.set_cons_succ]
                exact ih true true true true v24 v28 (.pointer (some ⟨V.heap.size, 0, none⟩)) v10 _ (by simp [Go.Proofs.Ytnbbfnlfcncgnaa.nb] at hm ⊢ <;> omega) (by decide) (below_call hB hC (alloc_below V _)) (got_below o24 (alloc_below V _)) (got_below o28 (alloc_below V _)) (abox_new 26 hC true) (abox_below x_10 (alloc_below V _))
            | false =>
              refine wpAnyH_ready (rs := [7, 8]) (by kernel_rfl) (by simp) ?_
              refine AllReadyH.cons (o := { dst := some 9, op := Op.alloc 26, type := 0, pos := "march.go:104", after := #[], guard := none }) (by rfl) (fun K' hK' => ?_) (AllReadyH.cons (o := { dst := some 10, op := Op.alloc 22, type := 0, pos := "march.go:104", after := #[], guard := none }) (by rfl) (fun K' hK' => ?_) (AllReadyH.nil))
              · go_simp
                go_wp2_with fail
                refine hK'.out _ _ (below_call hB hC (alloc_below _ _)) (fun _ => ?_)
                clear hK' K'
                try simp only [List.setIfInBounds_toArray, List.set_cons_zero, List.set_cons_succ]
                exact ih true true true false v24 v28 (.pointer (some ⟨V.heap.size, 0, none⟩)) v10 _ (by simp [Go.Proofs.Ytnbbfnlfcncgnaa.nb] at hm ⊢ <;> omega) (by decide) (below_call hB hC (alloc_below V _)) (got_below o24 (alloc_below V _)) (got_below o28 (alloc_below V _)) (abox_new 26 hC true) (abox_below x_10 (alloc_below V _))
              · go_simp
                go_wp2_with fail
                refine hK'.out _ _ (below_call hB hC (alloc_below _ _)) (fun _ => ?_)
                clear hK' K'
                try simp only [List.setIfInBounds_toArray, List.set_cons_zero, List.set_cons_succ]
                exact ih true true false true v24 v28 v9 (.pointer (some ⟨V.heap.size, 0, none⟩)) _ (by simp [Go.Proofs.Ytnbbfnlfcncgnaa.nb] at hm ⊢ <;> omega) (by decide) (below_call hB hC (alloc_below V _)) (got_below o24 (alloc_below V _)) (got_below o28 (alloc_below V _)) (abox_below x_9 (alloc_below V _)) (abox_new 22 hC true)
        | false =>
          cases b7 with
          | true =>
            cases b8 with
            | true =>
              refine wpAnyH_ready (rs := [6]) (by kernel_rfl) (by simp) ?_
              refine AllReadyH.cons (o := { dst := some 28, op := Op.call { callee := Callee.value (Operand.func 31), args := #[Operand.tmp 27], argTypes := #[22] }, type := 22, pos := "march.go:104", after := #[{ on := 5, ground := Ground.data }, { on := 2, ground := Ground.chain }], guard := none }) (by rfl) (fun K' hK' => ?_) (AllReadyH.nil)
              · go_simp
                go_at_call 31
                refine (HC2.out V hB).mono ?_
                rintro e V' ⟨⟨v, rfl, hv⟩, hb'⟩
                go_wp2_with fail
                refine hK'.out _ _ (below_call hB hC hb') (fun _ => ?_)
                clear hK' K'
                try simp only [List.setIfInBounds_toArray, List.set_cons_zero, List.set_cons_succ]
                exact ih true true true true v24 v v9 v10 V' (by simp [Go.Proofs.Ytnbbfnlfcncgnaa.nb] at hm ⊢ <;> omega) (by decide) (below_call hB hC hb') (got_below o24 hb') (got_yes (own_mono hv hC)) (abox_below x_9 hb') (abox_below x_10 hb')
            | false =>
              refine wpAnyH_ready (rs := [6, 8]) (by kernel_rfl) (by simp) ?_
              refine AllReadyH.cons (o := { dst := some 28, op := Op.call { callee := Callee.value (Operand.func 31), args := #[Operand.tmp 27], argTypes := #[22] }, type := 22, pos := "march.go:104", after := #[{ on := 5, ground := Ground.data }, { on := 2, ground := Ground.chain }], guard := none }) (by rfl) (fun K' hK' => ?_) (AllReadyH.cons (o := { dst := some 10, op := Op.alloc 22, type := 0, pos := "march.go:104", after := #[], guard := none }) (by rfl) (fun K' hK' => ?_) (AllReadyH.nil))
              · go_simp
                go_at_call 31
                refine (HC2.out V hB).mono ?_
                rintro e V' ⟨⟨v, rfl, hv⟩, hb'⟩
                go_wp2_with fail
                refine hK'.out _ _ (below_call hB hC hb') (fun _ => ?_)
                clear hK' K'
                try simp only [List.setIfInBounds_toArray, List.set_cons_zero, List.set_cons_succ]
                exact ih true true true false v24 v v9 v10 V' (by simp [Go.Proofs.Ytnbbfnlfcncgnaa.nb] at hm ⊢ <;> omega) (by decide) (below_call hB hC hb') (got_below o24 hb') (got_yes (own_mono hv hC)) (abox_below x_9 hb') (abox_below x_10 hb')
              · go_simp
                go_wp2_with fail
                refine hK'.out _ _ (below_call hB hC (alloc_below _ _)) (fun _ => ?_)
                clear hK' K'
                try simp only [List.setIfInBounds_toArray, List.set_cons_zero, List.set_cons_succ]
                exact ih true false true true v24 v28 v9 (.pointer (some ⟨V.heap.size, 0, none⟩)) _ (by simp [Go.Proofs.Ytnbbfnlfcncgnaa.nb] at hm ⊢ <;> omega) (by decide) (below_call hB hC (alloc_below V _)) (got_below o24 (alloc_below V _)) (got_below o28 (alloc_below V _)) (abox_below x_9 (alloc_below V _)) (abox_new 22 hC true)
          | false =>
            cases b8 with
            | true =>
              refine wpAnyH_ready (rs := [6, 7]) (by kernel_rfl) (by simp) ?_
              refine AllReadyH.cons (o := { dst := some 28, op := Op.call { callee := Callee.value (Operand.func 31), args := #[Operand.tmp 27], argTypes := #[22] }, type := 22, pos := "march.go:104", after := #[{ on := 5, ground := Ground.data }, { on := 2, ground := Ground.chain }], guard := none }) (by rfl) (fun K' hK' => ?_) (AllReadyH.cons (o := { dst := some 9, op := Op.alloc 26, type := 0, pos := "march.go:104", after := #[], guard := none }) (by rfl) (fun K' hK' => ?_) (AllReadyH.nil))
              · go_simp
                go_at_call 31
                refine (HC2.out V hB).mono ?_
                rintro e V' ⟨⟨v, rfl, hv⟩, hb'⟩
                go_wp2_with fail
                refine hK'.out _ _ (below_call hB hC hb') (fun _ => ?_)
                clear hK' K'
                try simp only [List.setIfInBounds_toArray, List.set_cons_zero, List.set_cons_succ]
                exact ih true true false true v24 v v9 v10 V' (by simp [Go.Proofs.Ytnbbfnlfcncgnaa.nb] at hm ⊢ <;> omega) (by decide) (below_call hB hC hb') (got_below o24 hb') (got_yes (own_mono hv hC)) (abox_below x_9 hb') (abox_below x_10 hb')
              · go_simp
                go_wp2_with fail
                refine hK'.out _ _ (below_call hB hC (alloc_below _ _)) (fun _ => ?_)
                clear hK' K'
                try simp only [List.setIfInBounds_toArray, List.set_cons_zero, List.set_cons_succ]
                exact ih true false true true v24 v28 (.pointer (some ⟨V.heap.size, 0, none⟩)) v10 _ (by simp [Go.Proofs.Ytnbbfnlfcncgnaa.nb] at hm ⊢ <;> omega) (by decide) (below_call hB hC (alloc_below V _)) (got_below o24 (alloc_below V _)) (got_below o28 (alloc_below V _)) (abox_new 26 hC true) (abox_below x_10 (alloc_below V _))
            | false =>
              refine wpAnyH_ready (rs := [6, 7, 8]) (by kernel_rfl) (by simp) ?_
              refine AllReadyH.cons (o := { dst := some 28, op := Op.call { callee := Callee.value (Operand.func 31), args := #[Operand.tmp 27], argTypes := #[22] }, type := 22, pos := "march.go:104", after := #[{ on := 5, ground := Ground.data }, { on := 2, ground := Ground.chain }], guard := none }) (by rfl) (fun K' hK' => ?_) (AllReadyH.cons (o := { dst := some 9, op := Op.alloc 26, type := 0, pos := "march.go:104", after := #[], guard := none }) (by rfl) (fun K' hK' => ?_) (AllReadyH.cons (o := { dst := some 10, op := Op.alloc 22, type := 0, pos := "march.go:104", after := #[], guard := none }) (by rfl) (fun K' hK' => ?_) (AllReadyH.nil)))
              · go_simp
                go_at_call 31
                refine (HC2.out V hB).mono ?_
                rintro e V' ⟨⟨v, rfl, hv⟩, hb'⟩
                go_wp2_with fail
                refine hK'.out _ _ (below_call hB hC hb') (fun _ => ?_)
                clear hK' K'
                try simp only [List.setIfInBounds_toArray, List.set_cons_zero, List.set_cons_succ]
                exact ih true true false false v24 v v9 v10 V' (by simp [Go.Proofs.Ytnbbfnlfcncgnaa.nb] at hm ⊢ <;> omega) (by decide) (below_call hB hC hb') (got_below o24 hb') (got_yes (own_mono hv hC)) (abox_below x_9 hb') (abox_below x_10 hb')
              · go_simp
                go_wp2_with fail
                refine hK'.out _ _ (below_call hB hC (alloc_below _ _)) (fun _ => ?_)
                clear hK' K'
                try simp only [List.setIfInBounds_toArray, List.set_cons_zero, List.set_cons_succ]
                exact ih true false true false v24 v28 (.pointer (some ⟨V.heap.size, 0, none⟩)) v10 _ (by simp [Go.Proofs.Ytnbbfnlfcncgnaa.nb] at hm ⊢ <;> omega) (by decide) (below_call hB hC (alloc_below V _)) (got_below o24 (alloc_below V _)) (got_below o28 (alloc_below V _)) (abox_new 26 hC true) (abox_below x_10 (alloc_below V _))
              · go_simp
                go_wp2_with fail
                refine hK'.out _ _ (below_call hB hC (alloc_below _ _)) (fun _ => ?_)
                clear hK' K'
                try simp only [List.setIfInBounds_toArray, List.set_cons_zero, List.set_cons_succ]
                exact ih true false false true v24 v28 v9 (.pointer (some ⟨V.heap.size, 0, none⟩)) _ (by simp [Go.Proofs.Ytnbbfnlfcncgnaa.nb] at hm ⊢ <;> omega) (by decide) (below_call hB hC (alloc_below V _)) (got_below o24 (alloc_below V _)) (got_below o28 (alloc_below V _)) (abox_below x_9 (alloc_below V _)) (abox_new 22 hC true)
      | false =>
        cases b6 with
        | true =>
          cases b7 with
          | true =>
            cases b8 with
            | true =>
              exact absurd (h0 rfl) (by decide)
            | false =>
              exact absurd (h0 rfl) (by decide)
          | false =>
            cases b8 with
            | true =>
              exact absurd (h0 rfl) (by decide)
            | false =>
              exact absurd (h0 rfl) (by decide)
        | false =>
          cases b7 with
          | true =>
            cases b8 with
            | true =>
              refine wpAnyH_ready (rs := [2]) (by kernel_rfl) (by simp) ?_
              refine AllReadyH.cons (o := { dst := some 24, op := Op.call { callee := Callee.value (Operand.func 30), args := #[Operand.tmp 23], argTypes := #[26] }, type := 26, pos := "march.go:104", after := #[{ on := 1, ground := Ground.data }], guard := none }) (by rfl) (fun K' hK' => ?_) (AllReadyH.nil)
              · go_simp
                go_at_call 30
                refine (HC1.out V hB).mono ?_
                rintro e V' ⟨⟨v, rfl, hv⟩, hb'⟩
                go_wp2_with fail
                refine hK'.out _ _ (below_call hB hC hb') (fun _ => ?_)
                clear hK' K'
                try simp only [List.setIfInBounds_toArray, List.set_cons_zero, List.set_cons_succ]
                exact ih true false true true v v28 v9 v10 V' (by simp [Go.Proofs.Ytnbbfnlfcncgnaa.nb] at hm ⊢ <;> omega) (by decide) (below_call hB hC hb') (got_yes (own_mono hv hC)) (got_below o28 hb') (abox_below x_9 hb') (abox_below x_10 hb')
            | false =>
              refine wpAnyH_ready (rs := [2, 8]) (by kernel_rfl) (by simp) ?_
              refine AllReadyH.cons (o := { dst := some 24, op := Op.call { callee := Callee.value (Operand.func 30), args := #[Operand.tmp 23], argTypes := #[26] }, type := 26, pos := "march.go:104", after := #[{ on := 1, ground := Ground.data }], guard := none }) (by rfl) (fun K' hK' => ?_) (AllReadyH.cons (o := { dst := some 10, op := Op.alloc 22, type := 0, pos := "march.go:104", after := #[], guard := none }) (by rfl) (fun K' hK' => ?_) (AllReadyH.nil))
              · go_simp
                go_at_call 30
                refine (HC1.out V hB).mono ?_
                rintro e V' ⟨⟨v, rfl, hv⟩, hb'⟩
                go_wp2_with fail
                refine hK'.out _ _ (below_call hB hC hb') (fun _ => ?_)
                clear hK' K'
                try simp only [List.setIfInBounds_toArray, List.set_cons_zero, List.set_cons_succ]
                exact ih true false true false v v28 v9 v10 V' (by simp [Go.Proofs.Ytnbbfnlfcncgnaa.nb] at hm ⊢ <;> omega) (by decide) (below_call hB hC hb') (got_yes (own_mono hv hC)) (got_below o28 hb') (abox_below x_9 hb') (abox_below x_10 hb')
              · go_simp
                go_wp2_with fail
                refine hK'.out _ _ (below_call hB hC (alloc_below _ _)) (fun _ => ?_)
                clear hK' K'
                try simp only [List.setIfInBounds_toArray, List.set_cons_zero, List.set_cons_succ]
                exact ih false false true true v24 v28 v9 (.pointer (some ⟨V.heap.size, 0, none⟩)) _ (by simp [Go.Proofs.Ytnbbfnlfcncgnaa.nb] at hm ⊢ <;> omega) (by decide) (below_call hB hC (alloc_below V _)) (got_below o24 (alloc_below V _)) (got_below o28 (alloc_below V _)) (abox_below x_9 (alloc_below V _)) (abox_new 22 hC true)
          | false =>
            cases b8 with
            | true =>
              refine wpAnyH_ready (rs := [2, 7]) (by kernel_rfl) (by simp) ?_
              refine AllReadyH.cons (o := { dst := some 24, op := Op.call { callee := Callee.value (Operand.func 30), args := #[Operand.tmp 23], argTypes := #[26] }, type := 26, pos := "march.go:104", after := #[{ on := 1, ground := Ground.data }], guard := none }) (by rfl) (fun K' hK' => ?_) (AllReadyH.cons (o := { dst := some 9, op := Op.alloc 26, type := 0, pos := "march.go:104", after := #[], guard := none }) (by rfl) (fun K' hK' => ?_) (AllReadyH.nil))
              · go_simp
                go_at_call 30
                refine (HC1.out V hB).mono ?_
                rintro e V' ⟨⟨v, rfl, hv⟩, hb'⟩
                go_wp2_with fail
                refine hK'.out _ _ (below_call hB hC hb') (fun _ => ?_)
                clear hK' K'
                try simp only [List.setIfInBounds_toArray, List.set_cons_zero, List.set_cons_succ]
                exact ih true false false true v v28 v9 v10 V' (by simp [Go.Proofs.Ytnbbfnlfcncgnaa.nb] at hm ⊢ <;> omega) (by decide) (below_call hB hC hb') (got_yes (own_mono hv hC)) (got_below o28 hb') (abox_below x_9 hb') (abox_below x_10 hb')
              · go_simp
                go_wp2_with fail
                refine hK'.out _ _ (below_call hB hC (alloc_below _ _)) (fun _ => ?_)
                clear hK' K'
                try simp only [List.setIfInBounds_toArray, List.set_cons_zero, List.set_cons_succ]
                exact ih false false true true v24 v28 (.pointer (some ⟨V.heap.size, 0, none⟩)) v10 _ (by simp [Go.Proofs.Ytnbbfnlfcncgnaa.nb] at hm ⊢ <;> omega) (by decide) (below_call hB hC (alloc_below V _)) (got_below o24 (alloc_below V _)) (got_below o28 (alloc_below V _)) (abox_new 26 hC true) (abox_below x_10 (alloc_below V _))
            | false =>
              refine wpAnyH_ready (rs := [2, 7, 8]) (by kernel_rfl) (by simp) ?_
              refine AllReadyH.cons (o := { dst := some 24, op := Op.call { callee := Callee.value (Operand.func 30), args := #[Operand.tmp 23], argTypes := #[26] }, type := 26, pos := "march.go:104", after := #[{ on := 1, ground := Ground.data }], guard := none }) (by rfl) (fun K' hK' => ?_) (AllReadyH.cons (o := { dst := some 9, op := Op.alloc 26, type := 0, pos := "march.go:104", after := #[], guard := none }) (by rfl) (fun K' hK' => ?_) (AllReadyH.cons (o := { dst := some 10, op := Op.alloc 22, type := 0, pos := "march.go:104", after := #[], guard := none }) (by rfl) (fun K' hK' => ?_) (AllReadyH.nil)))
              · go_simp
                go_at_call 30
                refine (HC1.out V hB).mono ?_
                rintro e V' ⟨⟨v, rfl, hv⟩, hb'⟩
                go_wp2_with fail
                refine hK'.out _ _ (below_call hB hC hb') (fun _ => ?_)
                clear hK' K'
                try simp only [List.setIfInBounds_toArray, List.set_cons_zero, List.set_cons_succ]
                exact ih true false false false v v28 v9 v10 V' (by simp [Go.Proofs.Ytnbbfnlfcncgnaa.nb] at hm ⊢ <;> omega) (by decide) (below_call hB hC hb') (got_yes (own_mono hv hC)) (got_below o28 hb') (abox_below x_9 hb') (abox_below x_10 hb')
              · go_simp
                go_wp2_with fail
                refine hK'.out _ _ (below_call hB hC (alloc_below _ _)) (fun _ => ?_)
                clear hK' K'
                try simp only [List.setIfInBounds_toArray, List.set_cons_zero, List.set_cons_succ]
                exact ih false false true false v24 v28 (.pointer (some ⟨V.heap.size, 0, none⟩)) v10 _ (by simp [Go.Proofs.Ytnbbfnlfcncgnaa.nb] at hm ⊢ <;> omega) (by decide) (below_call hB hC (alloc_below V _)) (got_below o24 (alloc_below V _)) (got_below o28 (alloc_below V _)) (abox_new 26 hC true) (abox_below x_10 (alloc_below V _))
              · go_simp
                go_wp2_with fail
                refine hK'.out _ _ (below_call hB hC (alloc_below _ _)) (fun _ => ?_)
                clear hK' K'
                try simp only [List.setIfInBounds_toArray, List.set_cons_zero, List.set_cons_succ]
                exact ih false false false true v24 v28 v9 (.pointer (some ⟨V.heap.size, 0, none⟩)) _ (by simp [Go.Proofs.Ytnbbfnlfcncgnaa.nb] at hm ⊢ <;> omega) (by decide) (below_call hB hC (alloc_below V _)) (got_below o24 (alloc_below V _)) (got_below o28 (alloc_below V _)) (abox_below x_9 (alloc_below V _)) (abox_new 22 hC true)
  refine wp_region_noPanic ?_
  refine wp_region_held_drew (S := (fun V => Below w0.heap.size w0 V)) (by kernel_rfl) (Below.drew (Below.refl _ _)) (fun hHeld => ?_)
  refine wpAnyH_take (i := 0) (oi := { dst := some 22, op := Op.fieldAddr 28 (Operand.tmp 4) 4, type := 0, pos := "march.go:104", after := #[], guard := none }) (v := .pointer (some ⟨F, 6, none⟩)) (by rfl) (by kernel_rfl) (by kernel_rfl) (by kernel_rfl) (fun _ _ _ h => h) (Or.inl ⟨by rfl, by intro V hV; obtain ⟨z0, z1, z2, z3, z4, z5, z6, z7, z8⟩ := HBX.out V hV; go_simp⟩) hHeld ?_
  try simp only [Act.put, List.setIfInBounds_toArray, List.set_cons_zero, List.set_cons_succ]
  refine wpAnyH_take (i := 1) (oi := { dst := some 23, op := Op.load 26 (Operand.tmp 22), type := 26, pos := "march.go:104", after := #[{ on := 0, ground := Ground.data }], guard := none }) (v := .slice pt nt ct) (by rfl) (by kernel_rfl) (by kernel_rfl) (by kernel_rfl) (fun _ _ _ h => h) (Or.inl ⟨by rfl, by intro V hV; obtain ⟨z0, z1, z2, z3, z4, z5, z6, z7, z8⟩ := HBX.out V hV; go_simp⟩) hHeld ?_
  try simp only [Act.put, List.setIfInBounds_toArray, List.set_cons_zero, List.set_cons_succ]
  refine wpAnyH_take (i := 3) (oi := { dst := some 25, op := Op.fieldAddr 28 (Operand.tmp 4) 0, type := 0, pos := "march.go:104", after := #[], guard := none }) (v := .pointer (some ⟨F, 0, none⟩)) (by rfl) (by kernel_rfl) (by kernel_rfl) (by kernel_rfl) (fun _ _ _ h => h) (Or.inl ⟨by rfl, by intro V hV; obtain ⟨z0, z1, z2, z3, z4, z5, z6, z7, z8⟩ := HBX.out V hV; go_simp⟩) hHeld ?_
  try simp only [Act.put, List.setIfInBounds_toArray, List.set_cons_zero, List.set_cons_succ]
  refine wpAnyH_take (i := 4) (oi := { dst := some 26, op := Op.fieldAddr 24 (Operand.tmp 25) 2, type := 0, pos := "march.go:104", after := #[{ on := 3, ground := Ground.data }], guard := none }) (v := .pointer (some ⟨F, 2, none⟩)) (by rfl) (by kernel_rfl) (by kernel_rfl) (by kernel_rfl) (fun _ _ _ h => h) (Or.inl ⟨by rfl, by intro V hV; obtain ⟨z0, z1, z2, z3, z4, z5, z6, z7, z8⟩ := HBX.out V hV; go_simp⟩) hHeld ?_
  try simp only [Act.put, List.setIfInBounds_toArray, List.set_cons_zero, List.set_cons_succ]
  refine wpAnyH_take (i := 5) (oi := { dst := some 27, op := Op.load 22 (Operand.tmp 26), type := 22, pos := "march.go:104", after := #[{ on := 4, ground := Ground.data }], guard := none }) (v := .slice p n c) (by rfl) (by kernel_rfl) (by kernel_rfl) (by kernel_rfl) (fun _ _ _ h => h) (Or.inl ⟨by rfl, by intro V hV; obtain ⟨z0, z1, z2, z3, z4, z5, z6, z7, z8⟩ := HBX.out V hV; go_simp⟩) hHeld ?_
  try simp only [Act.put, List.setIfInBounds_toArray, List.set_cons_zero, List.set_cons_succ]
  exact key 4 false false false false x24 x28 x9 x10 _ (by rfl) (fun e1 => by cases e1) hHeld got_no got_no abox_no abox_no
def ops2 : Array Oper := #[{ dst := some 29, op := Op.fieldAddr 28 (Operand.tmp 4) 1, type := 0, pos := "march.go:105", after := #[], guard := none }, { dst := some 30, op := Op.load 25 (Operand.tmp 29), type := 25, pos := "march.go:105", after := #[{ on := 0, ground := Ground.data }], guard := none }, { dst := some 31, op := Op.call { callee := Callee.value (Operand.func 32), args := #[Operand.tmp 30], argTypes := #[25] }, type := 25, pos := "march.go:105", after := #[{ on := 1, ground := Ground.data }], guard := none }, { dst := some 32, op := Op.fieldAddr 28 (Operand.tmp 4) 2, type := 0, pos := "march.go:105", after := #[], guard := none }, { dst := some 33, op := Op.load 22 (Operand.tmp 32), type := 22, pos := "march.go:105", after := #[{ on := 3, ground := Ground.data }], guard := none }, { dst := some 34, op := Op.call { callee := Callee.value (Operand.func 31), args := #[Operand.tmp 33], argTypes := #[22] }, type := 22, pos := "march.go:105", after := #[{ on := 4, ground := Ground.data }, { on := 2, ground := Ground.chain }], guard := none }, { dst := some 35, op := Op.fieldAddr 28 (Operand.tmp 4) 3, type := 0, pos := "march.go:105", after := #[], guard := none }, { dst := some 36, op := Op.load 22 (Operand.tmp 35), type := 22, pos := "march.go:105", after := #[{ on := 6, ground := Ground.data }], guard := none }, { dst := some 37, op := Op.call { callee := Callee.value (Operand.func 31), args := #[Operand.tmp 36], argTypes := #[22] }, type := 22, pos := "march.go:105", after := #[{ on := 7, ground := Ground.data }, { on := 5, ground := Ground.chain }], guard := none }, { dst := some 11, op := Op.alloc 25, type := 0, pos := "march.go:105", after := #[], guard := none }, { dst := some 12, op := Op.alloc 22, type := 0, pos := "march.go:105", after := #[], guard := none }, { dst := some 13, op := Op.alloc 22, type := 0, pos := "march.go:105", after := #[], guard := none }, { dst := none, op := Op.store 25 (Operand.tmp 11) (Operand.tmp 31), type := 0, pos := "march.go:105", after := #[{ on := 9, ground := Ground.data }, { on := 2, ground := Ground.data }, { on := 8, ground := Ground.chain }, { on := 0, ground := Ground.phase }, { on := 1, ground := Ground.phase }, { on := 2, ground := Ground.phase }, { on := 3, ground := Ground.textOnly Departure.lateStores }, { on := 4, ground := Ground.textOnly Departure.lateStores }, { on := 5, ground := Ground.textOnly Departure.lateStoresUnsure }, { on := 6, ground := Ground.textOnly Departure.lateStores }, { on := 7, ground := Ground.textOnly Departure.lateStores }, { on := 8, ground := Ground.textOnly Departure.lateStoresUnsure }, { on := 9, ground := Ground.phase }, { on := 10, ground := Ground.phase }, { on := 11, ground := Ground.phase }], guard := none }, { dst := none, op := Op.store 22 (Operand.tmp 12) (Operand.tmp 34), type := 0, pos := "march.go:105", after := #[{ on := 10, ground := Ground.data }, { on := 5, ground := Ground.data }, { on := 12, ground := Ground.chain }, { on := 0, ground := Ground.phase }, { on := 1, ground := Ground.phase }, { on := 2, ground := Ground.phase }, { on := 3, ground := Ground.phase }, { on := 4, ground := Ground.phase }, { on := 5, ground := Ground.phase }, { on := 6, ground := Ground.textOnly Departure.lateStores }, { on := 7, ground := Ground.textOnly Departure.lateStores }, { on := 8, ground := Ground.textOnly Departure.lateStoresUnsure }, { on := 9, ground := Ground.phase }, { on := 10, ground := Ground.phase }, { on := 11, ground := Ground.phase }, { on := 12, ground := Ground.phase }], guard := none }, { dst := none, op := Op.store 22 (Operand.tmp 13) (Operand.tmp 37), type := 0, pos := "march.go:105", after := #[{ on := 11, ground := Ground.data }, { on := 8, ground := Ground.data }, { on := 13, ground := Ground.chain }, { on := 0, ground := Ground.phase }, { on := 1, ground := Ground.phase }, { on := 2, ground := Ground.phase }, { on := 3, ground := Ground.phase }, { on := 4, ground := Ground.phase }, { on := 5, ground := Ground.phase }, { on := 6, ground := Ground.phase }, { on := 7, ground := Ground.phase }, { on := 8, ground := Ground.phase }, { on := 9, ground := Ground.phase }, { on := 10, ground := Ground.phase }, { on := 11, ground := Ground.phase }, { on := 12, ground := Ground.phase }, { on := 13, ground := Ground.phase }], guard := none }]
set_option maxRecDepth 40000 in
set_option maxHeartbeats 16000000 in
theorem reg2 (F : Nat) (A B N T : Int) (p pb ps pm pt : Option Addr) (n c nb cb ns cs nm cm nt ct : Nat) (l ls lm : List Int) (lb : List Cel) (lt : List Trp) (w0 : World) (x0 x1 x2 x3 x5 x6 x7 x8 x9 x10 x11 x12 x13 x14 x15 x16 x17 x18 x19 x20 x21 x22 x23 x24 x25 x26 x27 x28 x29 x30 x31 x32 x33 x34 x35 x36 x37 x38 x39 x40 x41 x42 x43 x44 x45 x46 x47 x48 x49 x50 x51 x52 x53 x54 x55 x56 x57 x58 x59 x60 x61 x62 x63 x64 x65 x66 x67 : Value) (Q : Exit → Act → World → Prop)
    (hx : bx9 w0 F (.int .i64 A) (.int .i64 B) (.slice p n c) (.slice pb nb cb) (.slice ps ns cs) (.slice pm nm cm) (.slice pt nt ct) (.int .i64 N) (.int .i64 T)) (HC1 : Hid (∀ V, Below w0.heap.size w0 V → Calls Try.prog 32 #[.slice pb nb cb] V fun e w' => (∃ v, e = .returned v ∧ w'.ownsRow V.heap.size 31 2 v lb.length (flat2 lb)) ∧ Below V.heap.size V w')) (HC2 : Hid (∀ V, Below w0.heap.size w0 V → Calls Try.prog 31 #[.slice ps ns cs] V fun e w' => (∃ v, e = .returned v ∧ w'.ownsRow V.heap.size 3 1 v ls.length (ls.map vi)) ∧ Below V.heap.size V w')) (HC3 : Hid (∀ V, Below w0.heap.size w0 V → Calls Try.prog 31 #[.slice pm nm cm] V fun e w' => (∃ v, e = .returned v ∧ w'.ownsRow V.heap.size 3 1 v lm.length (lm.map vi)) ∧ Below V.heap.size V w'))
    (hQ : Hid (∀ v31 v34 v37 g11 g12 g13 V, Below w0.heap.size w0 V → V.cell? ⟨g11, 0, none⟩ = some v31 → V.cell? ⟨g12, 0, none⟩ = some v34 → V.cell? ⟨g13, 0, none⟩ = some v37 → V.ownsRow w0.heap.size 31 2 v31 lb.length (flat2 lb) → V.ownsRow w0.heap.size 3 1 v34 ls.length (ls.map vi) → V.ownsRow w0.heap.size 3 1 v37 lm.length (lm.map vi) → Q .normal { tmps := #[x0, x1, x2, x3, .pointer (some ⟨F, 0, none⟩), x5, x6, x7, x8, x9, x10, .pointer (some ⟨g11, 0, none⟩), .pointer (some ⟨g12, 0, none⟩), .pointer (some ⟨g13, 0, none⟩), x14, x15, x16, x17, x18, x19, x20, x21, x22, x23, x24, x25, x26, x27, x28, .pointer (some ⟨F, 3, none⟩), .slice pb nb cb, v31, .pointer (some ⟨F, 4, none⟩), .slice ps ns cs, v34, .pointer (some ⟨F, 5, none⟩), .slice pm nm cm, v37, x38, x39, x40, x41, x42, x43, x44, x45, x46, x47, x48, x49, x50, x51, x52, x53, x54, x55, x56, x57, x58, x59, x60, x61, x62, x63, x64, x65, x66, x67], defers := [] } V)) :
    (Code.region 2 ops2 true).wp Try.prog Q { tmps := #[x0, x1, x2, x3, .pointer (some ⟨F, 0, none⟩), x5, x6, x7, x8, x9, x10, x11, x12, x13, x14, x15, x16, x17, x18, x19, x20, x21, x22, x23, x24, x25, x26, x27, x28, x29, x30, x31, x32, x33, x34, x35, x36, x37, x38, x39, x40, x41, x42, x43, x44, x45, x46, x47, x48, x49, x50, x51, x52, x53, x54, x55, x56, x57, x58, x59, x60, x61, x62, x63, x64, x65, x66, x67], defers := [] } w0 := by
  have HBX : Hid (∀ V, Below w0.heap.size w0 V → c9 V F (.int .i64 A) (.int .i64 B) (.slice p n c) (.slice pb nb cb) (.slice ps ns cs) (.slice pm nm cm) (.slice pt nt ct) (.int .i64 N) (.int .i64 T)) := fun V hV => bx9_c9 (bx9_below hx hV)
  clear hx
  have key : ∀ (m : Nat) (b2 b5 b8 b9 b10 b11 : Bool) (v31 v34 v37 v11 v12 v13 : Value) (V : World), Go.Proofs.Ytnbbfnlfcncgnaa.nb b2 + Go.Proofs.Ytnbbfnlfcncgnaa.nb b5 + Go.Proofs.Ytnbbfnlfcncgnaa.nb b8 + Go.Proofs.Ytnbbfnlfcncgnaa.nb b9 + Go.Proofs.Ytnbbfnlfcncgnaa.nb b10 + Go.Proofs.Ytnbbfnlfcncgnaa.nb b11 = m → (b5 = true → b2 = true) → (b8 = true → b5 = true) → Below w0.heap.size w0 V → got b2 w0.heap.size V 31 2 v31 lb.length (flat2 lb) → got b5 w0.heap.size V 3 1 v34 ls.length (ls.map vi) → got b8 w0.heap.size V 3 1 v37 lm.length (lm.map vi) → abox b9 w0.heap.size V 25 v11 → abox b10 w0.heap.size V 22 v12 → abox b11 w0.heap.size V 22 v13 → (b10 = true → b11 = true → v12 ≠ v13) → wpAnyH Try.prog .any ops2 (NoPanic Q) (fun V => Below w0.heap.size w0 V) (m + 3) #[true, true, b2, true, true, b5, true, true, b8, b9, b10, b11, false, false, false] { tmps := #[x0, x1, x2, x3, .pointer (some ⟨F, 0, none⟩), x5, x6, x7, x8, x9, x10, v11, v12, v13, x14, x15, x16, x17, x18, x19, x20, x21, x22, x23, x24, x25, x26, x27, x28, .pointer (some ⟨F, 3, none⟩), .slice pb nb cb, v31, .pointer (some ⟨F, 4, none⟩), .slice ps ns cs, v34, .pointer (some ⟨F, 5, none⟩), .slice pm nm cm, v37, x38, x39, x40, x41, x42, x43, x44, x45, x46, x47, x48, x49, x50, x51, x52, x53, x54, x55, x56, x57, x58, x59, x60, x61, x62, x63, x64, x65, x66, x67], defers := [] } V := by
    intro m
    induction m with
    | zero =>
      intro b2 b5 b8 b9 b10 b11 v31 v34 v37 v11 v12 v13 V hm h0 h1 hB o31 o34 o37 x_11 x_12 x_13 d12_13
      obtain ⟨rfl, rfl, rfl, rfl, rfl, rfl⟩ : b2 = true ∧ b5 = true ∧ b8 = true ∧ b9 = true ∧ b10 = true ∧ b11 = true := by
        revert hm
        cases b2 <;> cases b5 <;> cases b8 <;> cases b9 <;> cases b10 <;> cases b11 <;> simp [Go.Proofs.Ytnbbfnlfcncgnaa.nb]
      have w31 := o31 rfl
      obtain ⟨q31, e31, rfl⟩ := mine_form w31
      have w34 := o34 rfl
      obtain ⟨q34, e34, rfl⟩ := mine_form w34
      have w37 := o37 rfl
      obtain ⟨q37, e37, rfl⟩ := mine_form w37
      obtain ⟨g11, rfl, C11, B11⟩ := x_11 rfl
      obtain ⟨g12, rfl, C12, B12⟩ := x_12 rfl
      obtain ⟨g13, rfl, C13, B13⟩ := x_13 rfl
      have n12_13 : g12 ≠ g13 := fun e => d12_13 rfl rfl (by rw [e])
      have n11_12 : g11 ≠ g12 := fun e => by rw [e, B12] at B11; simp at B11
      have n11_13 : g11 ≠ g13 := fun e => by rw [e, B13] at B11; simp at B11
      clear hm h0 h1 o31 o34 o37 x_11 x_12 x_13 d12_13
      have cc0 := box_cell B11
      obtain ⟨ca0, cb0⟩ := cc0
      refine wpAnyH_ready (rs := [12]) (by kernel_rfl) (by simp) ?_
      refine AllReadyH.cons (o := { dst := none, op := Op.store 25 (Operand.tmp 11) (Operand.tmp 31), type := 0, pos := "march.go:105", after := #[{ on := 9, ground := Ground.data }, { on := 2, ground := Ground.data }, { on := 8, ground := Ground.chain }, { on := 0, ground := Ground.phase }, { on := 1, ground := Ground.phase }, { on := 2, ground := Ground.phase }, { on := 3, ground := Ground.textOnly Departure.lateStores }, { on := 4, ground := Ground.textOnly Departure.lateStores }, { on := 5, ground := Ground.textOnly Departure.lateStoresUnsure }, { on := 6, ground := Ground.textOnly Departure.lateStores }, { on := 7, ground := Ground.textOnly Departure.lateStores }, { on := 8, ground := Ground.textOnly Departure.lateStoresUnsure }, { on := 9, ground := Ground.phase }, { on := 10, ground := Ground.phase }, { on := 11, ground := Ground.phase }], guard := none }) (by rfl) (fun K' hK' => ?_) AllReadyH.nil
      go_simp
      go_wp2_with fail
      have HN0 : Hid (Below w0.heap.size w0 (V.setCell ⟨g11, 0, none⟩ (.slice q31 lb.length e31))) := hB.setCell C11 _
      refine hK'.out _ _ HN0.out (fun _ => ?_)
      clear hK' K'
      try simp only [List.setIfInBounds_toArray, List.set_cons_zero, List.set_cons_succ]
      obtain ⟨V0, hV0⟩ : ∃ U, V.setCell ⟨g11, 0, none⟩ (.slice q31 lb.length e31) = U := ⟨_, rfl⟩
      rw [hV0]
      replace w31 := own_put (u := (.slice q31 lb.length e31)) w31 B11 (by decide)
      replace w34 := own_put (u := (.slice q31 lb.length e31)) w34 B11 (by decide)
      replace w37 := own_put (u := (.slice q31 lb.length e31)) w37 B11 (by decide)
      replace B12 := box_off (G := g11) (u := (.slice q31 lb.length e31)) B12 (Ne.symm n11_12)
      replace B13 := box_off (G := g11) (u := (.slice q31 lb.length e31)) B13 (Ne.symm n11_13)
      replace B11 := box_put (u := (.slice q31 lb.length e31)) B11
      rw [hV0] at w31
      rw [hV0] at w34
      rw [hV0] at w37
      rw [hV0] at B11
      rw [hV0] at B12
      rw [hV0] at B13
      replace hB : Below w0.heap.size w0 V0 := by rw [← hV0]; exact HN0.out
      clear ca0 cb0 HN0 hV0
      have cc1 := box_cell B12
      obtain ⟨ca1, cb1⟩ := cc1
      refine wpAnyH_ready (rs := [13]) (by kernel_rfl) (by simp) ?_
      refine AllReadyH.cons (o := { dst := none, op := Op.store 22 (Operand.tmp 12) (Operand.tmp 34), type := 0, pos := "march.go:105", after := #[{ on := 10, ground := Ground.data }, { on := 5, ground := Ground.data }, { on := 12, ground := Ground.chain }, { on := 0, ground := Ground.phase }, { on := 1, ground := Ground.phase }, { on := 2, ground := Ground.phase }, { on := 3, ground := Ground.phase }, { on := 4, ground := Ground.phase }, { on := 5, ground := Ground.phase }, { on := 6, ground := Ground.textOnly Departure.lateStores }, { on := 7, ground := Ground.textOnly Departure.lateStores }, { on := 8, ground := Ground.textOnly Departure.lateStoresUnsure }, { on := 9, ground := Ground.phase }, { on := 10, ground := Ground.phase }, { on := 11, ground := Ground.phase }, { on := 12, ground := Ground.phase }], guard := none }) (by rfl) (fun K' hK' => ?_) AllReadyH.nil
      go_simp
      go_wp2_with fail
      have HN1 : Hid (Below w0.heap.size w0 (V0.setCell ⟨g12, 0, none⟩ (.slice q34 ls.length e34))) := hB.setCell C12 _
      refine hK'.out _ _ HN1.out (fun _ => ?_)
      clear hK' K'
      try simp only [List.setIfInBounds_toArray, List.set_cons_zero, List.set_cons_succ]
      obtain ⟨V1, hV1⟩ : ∃ U, V0.setCell ⟨g12, 0, none⟩ (.slice q34 ls.length e34) = U := ⟨_, rfl⟩
      rw [hV1]
      replace w31 := own_put (u := (.slice q34 ls.length e34)) w31 B12 (by decide)
      replace w34 := own_put (u := (.slice q34 ls.length e34)) w34 B12 (by decide)
      replace w37 := own_put (u := (.slice q34 ls.length e34)) w37 B12 (by decide)
      replace B11 := box_off (G := g12) (u := (.slice q34 ls.length e34)) B11 n11_12
      replace B13 := box_off (G := g12) (u := (.slice q34 ls.length e34)) B13 (Ne.symm n12_13)
      replace B12 := box_put (u := (.slice q34 ls.length e34)) B12
      rw [hV1] at w31
      rw [hV1] at w34
      rw [hV1] at w37
      rw [hV1] at B11
      rw [hV1] at B12
      rw [hV1] at B13
      replace hB : Below w0.heap.size w0 V1 := by rw [← hV1]; exact HN1.out
      clear ca1 cb1 HN1 hV1
      have cc2 := box_cell B13
      obtain ⟨ca2, cb2⟩ := cc2
      refine wpAnyH_ready (rs := [14]) (by kernel_rfl) (by simp) ?_
      refine AllReadyH.cons (o := { dst := none, op := Op.store 22 (Operand.tmp 13) (Operand.tmp 37), type := 0, pos := "march.go:105", after := #[{ on := 11, ground := Ground.data }, { on := 8, ground := Ground.data }, { on := 13, ground := Ground.chain }, { on := 0, ground := Ground.phase }, { on := 1, ground := Ground.phase }, { on := 2, ground := Ground.phase }, { on := 3, ground := Ground.phase }, { on := 4, ground := Ground.phase }, { on := 5, ground := Ground.phase }, { on := 6, ground := Ground.phase }, { on := 7, ground := Ground.phase }, { on := 8, ground := Ground.phase }, { on := 9, ground := Ground.phase }, { on := 10, ground := Ground.phase }, { on := 11, ground := Ground.phase }, { on := 12, ground := Ground.phase }, { on := 13, ground := Ground.phase }], guard := none }) (by rfl) (fun K' hK' => ?_) AllReadyH.nil
      go_simp
      go_wp2_with fail
      have HN2 : Hid (Below w0.heap.size w0 (V1.setCell ⟨g13, 0, none⟩ (.slice q37 lm.length e37))) := hB.setCell C13 _
      refine hK'.out _ _ HN2.out (fun _ => ?_)
      clear hK' K'
      try simp only [List.setIfInBounds_toArray, List.set_cons_zero, List.set_cons_succ]
      obtain ⟨V2, hV2⟩ : ∃ U, V1.setCell ⟨g13, 0, none⟩ (.slice q37 lm.length e37) = U := ⟨_, rfl⟩
      rw [hV2]
      replace w31 := own_put (u := (.slice q37 lm.length e37)) w31 B13 (by decide)
      replace w34 := own_put (u := (.slice q37 lm.length e37)) w34 B13 (by decide)
      replace w37 := own_put (u := (.slice q37 lm.length e37)) w37 B13 (by decide)
      replace B11 := box_off (G := g13) (u := (.slice q37 lm.length e37)) B11 n11_13
      replace B12 := box_off (G := g13) (u := (.slice q37 lm.length e37)) B12 n12_13
      replace B13 := box_put (u := (.slice q37 lm.length e37)) B13
      rw [hV2] at w31
      rw [hV2] at w34
      rw [hV2] at w37
      rw [hV2] at B11
      rw [hV2] at B12
      rw [hV2] at B13
      replace hB : Below w0.heap.size w0 V2 := by rw [← hV2]; exact HN2.out
      clear ca2 cb2 HN2 hV2
      refine wpAnyH_done (by kernel_rfl) ?_ _
      refine NoPanic.normal ?_
      exact hQ.out (.slice q31 lb.length e31) (.slice q34 ls.length e34) (.slice q37 lm.length e37) g11 g12 g13 V2 hB (box_cell B11).1 (box_cell B12).1 (box_cell B13).1 w31 w34 w37
    | succ m ih =>
      intro b2 b5 b8 b9 b10 b11 v31 v34 v37 v11 v12 v13 V hm h0 h1 hB o31 o34 o37 x_11 x_12 x_13 d12_13
      have hC : w0.heap.size ≤ V.heap.size := hB.size
      cases b2 with
      | true =>
        cases b5 with
        | true =>
          cases b8 with
          | true =>
            cases b9 with
            | true =>
              cases b10 with
              | true =>
                cases b11 with
                | true =>
                  simp [Go.Proofs.Ytnbbfnlfcncgnaa.nb] at hm
                | false =>
                  refine wpAnyH_ready (rs := [11]) (by kernel_rfl) (by simp) ?_
                  refine AllReadyH.cons (o := { dst := some 13, op := Op.alloc 22, type := 0, pos := "march.go:105", after := #[], guard := none }) (by rfl) (fun K' hK' => ?_) (AllReadyH.nil)
                  · go_simp
                    go_wp2_with fail
                    refine hK'.out _ _ (below_call hB hC (alloc_below _ _)) (fun _ => ?_)
                    clear hK' K'
                    try simp only [List.setIfInBounds_toArray, List.set_cons_zero, List.set_cons_succ]
                    have hne : v12 ≠ .pointer (some ⟨V.heap.size, 0, none⟩) := fun e' => by
                      obtain ⟨G, e2, _, h2⟩ := x_12 rfl
                      rw [e2] at e'; simp at e'; have := heap_lt h2; omega
                    exact ih true true true true true true v31 v34 v37 v11 v12 (.pointer (some ⟨V.heap.size, 0, none⟩)) _ (by simp [Go.Proofs.Ytnbbfnlfcncgnaa.nb] at hm ⊢ <;> omega) (by decide) (by decide) (below_call hB hC (alloc_below V _)) (got_below o31 (alloc_below V _)) (got_below o34 (alloc_below V _)) (got_below o37 (alloc_below V _)) (abox_below x_11 (alloc_below V _)) (abox_below x_12 (alloc_below V _)) (abox_new 22 hC true) (fun _ _ => hne)
              | false =>
                cases b11 with
                | true =>
                  refine wpAnyH_ready (rs := [10]) (by kernel_rfl) (by simp) ?_
                  refine AllReadyH.cons (o := { dst := some 12, op := Op.alloc 22, type := 0, pos := "march.go:105", after := #[], guard := none }) (by rfl) (fun K' hK' => ?_) (AllReadyH.nil)
                  · go_simp
                    go_wp2_with fail
                    refine hK'.out _ _ (below_call hB hC (alloc_below _ _)) (fun _ => ?_)
                    clear hK' K'
                    try simp only [List.setIfInBounds_toArray, List.set_cons_zero, List.set_cons_succ]
                    have hne : v13 ≠ .pointer (some ⟨V.heap.size, 0, none⟩) := fun e' => by
                      obtain ⟨G, e2, _, h2⟩ := x_13 rfl
                      rw [e2] at e'; simp at e'; have := heap_lt h2; omega
                    exact ih true true true true true true v31 v34 v37 v11 (.pointer (some ⟨V.heap.size, 0, none⟩)) v13 _ (by simp [Go.Proofs.Ytnbbfnlfcncgnaa.nb] at hm ⊢ <;> omega) (by decide) (by decide) (below_call hB hC (alloc_below V _)) (got_below o31 (alloc_below V _)) (got_below o34 (alloc_below V _)) (got_below o37 (alloc_below V _)) (abox_below x_11 (alloc_below V _)) (abox_new 22 hC true) (abox_below x_13 (alloc_below V _)) (fun _ _ => Ne.symm hne)
                | false =>
                  refine wpAnyH_ready (rs := [10, 11]) (by kernel_rfl) (by simp) ?_
                  refine AllReadyH.cons (o := { dst := some 12, op := Op.alloc 22, type := 0, pos := "march.go:105", after := #[], guard := none }) (by rfl) (fun K' hK' => ?_) (AllReadyH.cons (o := { dst := some 13, op := Op.alloc 22, type := 0, pos := "march.go:105", after := #[], guard := none }) (by rfl) (fun K' hK' => ?_) (AllReadyH.nil))
                  · go_simp
                    go_wp2_with fail
                    refine hK'.out _ _ (below_call hB hC (alloc_below _ _)) (fun _ => ?_)
                    clear hK' K'
                    try simp only [List.setIfInBounds_toArray, List.set_cons_zero, List.set_cons_succ]
                    exact ih true true true true true false v31 v34 v37 v11 (.pointer (some ⟨V.heap.size, 0, none⟩)) v13 _ (by simp [Go.Proofs.Ytnbbfnlfcncgnaa.nb] at hm ⊢ <;> omega) (by decide) (by decide) (below_call hB hC (alloc_below V _)) (got_below o31 (alloc_below V _)) (got_below o34 (alloc_below V _)) (got_below o37 (alloc_below V _)) (abox_below x_11 (alloc_below V _)) (abox_new 22 hC true) (abox_below x_13 (alloc_below V _)) (fun e1 e2 => by cases e2)
                  · go_simp
                    go_wp2_with fail
                    refine hK'.out _ _ (below_call hB hC (alloc_below _ _)) (fun _ => ?_)
                    clear hK' K'
                    try simp only [List.setIfInBounds_toArray, List.set_cons_zero, List.set_cons_succ]
                    exact ih true true true true false true v31 v34 v37 v11 v12 (.pointer (some ⟨V.heap.size, 0, none⟩)) _ (by simp [Go.Proofs.Ytnbbfnlfcncgnaa.nb] at hm ⊢ <;> omega) (by decide) (by decide) (below_call hB hC (alloc_below V _)) (got_below o31 (alloc_below V _)) (got_below o34 (alloc_below V _)) (got_below o37 (alloc_below V _)) (abox_below x_11 (alloc_below V _)) (abox_below x_12 (alloc_below V _)) (abox_new 22 hC true) (fun e1 e2 => by cases e1)
            | false =>
              cases b10 with
              | true =>
                cases b11 with
                | true =>
                  refine wpAnyH_ready (rs := [9]) (by kernel_rfl) (by simp) ?_
                  refine AllReadyH.cons (o := { dst := some 11, op := Op.alloc 25, type := 0, pos := "march.go:105", after := #[], guard := none }) (by rfl) (fun K' hK' => ?_) (AllReadyH.nil)
                  · go_simp
                    go_wp2_with fail
                    refine hK'.out _ _ (below_call hB hC (alloc_below _ _)) (fun _ => ?_)
                    clear hK' K'
                    try simp only [List.setIfInBounds_toArray, List.set_cons_zero, List.set_cons_succ]
                    exact ih true true true true true true v31 v34 v37 (.pointer (some ⟨V.heap.size, 0, none⟩)) v12 v13 _ (by simp [Go.Proofs.Ytnbbfnlfcncgnaa.nb] at hm ⊢ <;> omega) (by decide) (by decide) (below_call hB hC (alloc_below V _)) (got_below o31 (alloc_below V _)) (got_below o34 (alloc_below V _)) (got_below o37 (alloc_below V _)) (abox_new 25 hC true) (abox_below x_12 (alloc_below V _)) (abox_below x_13 (alloc_below V _)) (fun e1 e2 => d12_13 (by first | trivial | exact e1) (by first | trivial | exact e2))
                | false =>
                  refine wpAnyH_ready (rs := [9, 11]) (by kernel_rfl) (by simp) ?_
                  refine AllReadyH.cons (o := { dst := some 11, op := Op.alloc 25, type := 0, pos := "march.go:105", after := #[], guard := none }) (by rfl) (fun K' hK' => ?_) (AllReadyH.cons (o := { dst := some 13, op := Op.alloc 22, type := 0, pos := "march.go:105", after := #[], guard := none }) (by rfl) (fun K' hK' => ?_) (AllReadyH.nil))
                  · go_simp
                    go_wp2_with fail
                    refine hK'.out _ _ (below_call hB hC (alloc_below _ _)) (fun _ => ?_)
                    clear hK' K'
                    try simp only [List.setIfInBounds_toArray, List.set_cons_zero, List.set_cons_succ]
                    exact ih true true true true true false v31 v34 v37 (.pointer (some ⟨V.heap.size, 0, none⟩)) v12 v13 _ (by simp [Go.Proofs.Ytnbbfnlfcncgnaa.nb] at hm ⊢ <;> omega) (by decide) (by decide) (below_call hB hC (alloc_below V _)) (got_below o31 (alloc_below V _)) (got_below o34 (alloc_below V _)) (got_below o37 (alloc_below V _)) (abox_new 25 hC true) (abox_below x_12 (alloc_below V _)) (abox_below x_13 (alloc_below V _)) (fun e1 e2 => d12_13 (by first | trivial | exact e1) (by first | trivial | exact e2))
                  · go_simp
                    go_wp2_with fail
                    refine hK'.out _ _ (below_call hB hC (alloc_below _ _)) (fun _ => ?_)
                    clear hK' K'
                    try simp only [List.setIfInBounds_toArray, List.set_cons_zero, List.set_cons_succ]
                    have hne : v12 ≠ .pointer (some ⟨V.heap.size, 0, none⟩) := fun e' => by
                      obtain ⟨G, e2, _, h2⟩ := x_12 rfl
                      rw [e2] at e'; simp at e'; have := heap_lt h2; omega
                    exact ih true true true false true true v31 v34 v37 v11 v12 (.pointer (some ⟨V.heap.size, 0, none⟩)) _ (by simp [Go.Proofs.Ytnbbfnlfcncgnaa.nb] at hm ⊢ <;> omega) (by decide) (by decide) (below_call hB hC (alloc_below V _)) (got_below o31 (alloc_below V _)) (got_below o34 (alloc_below V _)) (got_below o37 (alloc_below V _)) (abox_below x_11 (alloc_below V _)) (abox_below x_12 (alloc_below V _)) (abox_new 22 hC true) (fun _ _ => hne)
              | false =>
                cases b11 with
                | true =>
                  refine wpAnyH_ready (rs := [9, 10]) (by kernel_rfl) (by simp) ?_
                  refine AllReadyH.cons (o := { dst := some 11, op := Op.alloc 25, type := 0, pos := "march.go:105", after := #[], guard := none }) (by rfl) (fun K' hK' => ?_) (AllReadyH.cons (o := { dst := some 12, op := Op.alloc 22, type := 0, pos := "march.go:105", after := #[], guard := none }) (by rfl) (fun K' hK' => ?_) (AllReadyH.nil))
                  · go_simp
                    go_wp2_with fail
                    refine hK'.out _ _ (below_call hB hC (alloc_below _ _)) (fun _ => ?_)
                    clear hK' K'
                    try simp only [List.setIfInBounds_toArray, List.set_cons_zero, List.set_cons_succ]
                    exact ih true true true true false true v31 v34 v37 (.pointer (some ⟨V.heap.size, 0, none⟩)) v12 v13 _ (by simp [Go.Proofs.Ytnbbfnlfcncgnaa.nb] at hm ⊢ <;> omega) (by decide) (by decide) (below_call hB hC (alloc_below V _)) (got_below o31 (alloc_below V _)) (got_below o34 (alloc_below V _)) (got_below o37 (alloc_below V _)) (abox_new 25 hC true) (abox_below x_12 (alloc_below V _)) (abox_below x_13 (alloc_below V _)) (fun e1 e2 => d12_13 (by first | trivial | exact e1) (by first | trivial | exact e2))
                  · go_simp
                    go_wp2_with fail
                    refine hK'.out _ _ (below_call hB hC (alloc_below _ _)) (fun _ => ?_)
                    clear hK' K'
                    try simp only [List.setIfInBounds_toArray, List.set_cons_zero, List.set_cons_succ]
                    have hne : v13 ≠ .pointer (some ⟨V.heap.size, 0, none⟩) := fun e' => by
                      obtain ⟨G, e2, _, h2⟩ := x_13 rfl
                      rw [e2] at e'; simp at e'; have := heap_lt h2; omega
                    exact ih true true true false true true v31 v34 v37 v11 (.pointer (some ⟨V.heap.size, 0, none⟩)) v13 _ (by simp [Go.Proofs.Ytnbbfnlfcncgnaa.nb] at hm ⊢ <;> omega) (by decide) (by decide) (below_call hB hC (alloc_below V _)) (got_below o31 (alloc_below V _)) (got_below o34 (alloc_below V _)) (got_below o37 (alloc_below V _)) (abox_below x_11 (alloc_below V _)) (abox_new 22 hC true) (abox_below x_13 (alloc_below V _)) (fun _ _ => Ne.symm hne)
                | false =>
                  refine wpAnyH_ready (rs := [9, 10, 11]) (by kernel_rfl) (by simp) ?_
                  refine AllReadyH.cons (o := { dst := some 11, op := Op.alloc 25, type := 0, pos := "march.go:105", after := #[], guard := none }) (by rfl) (fun K' hK' => ?_) (AllReadyH.cons (o := { dst := some 12, op := Op.alloc 22, type := 0, pos := "march.go:105", after := #[], guard := none }) (by rfl) (fun K' hK' => ?_) (AllReadyH.cons (o := { dst := some 13, op := Op.alloc 22, type := 0, pos := "march.go:105", after := #[], guard := none }) (by rfl) (fun K' hK' => ?_) (AllReadyH.nil)))
                  · go_simp
                    go_wp2_with fail
                    refine hK'.out _ _ (below_call hB hC (alloc_below _ _)) (fun _ => ?_)
                    clear hK' K'
                    try simp only [List.setIfInBounds_toArray, List.set_cons_zero, List.set_cons_succ]
                    exact ih true true true true false false v31 v34 v37 (.pointer (some ⟨V.heap.size, 0, none⟩)) v12 v13 _ (by simp [Go.Proofs.Ytnbbfnlfcncgnaa.nb] at hm ⊢ <;> omega) (by decide) (by decide) (below_call hB hC (alloc_below V _)) (got_below o31 (alloc_below V _)) (got_below o34 (alloc_below V _)) (got_below o37 (alloc_below V _)) (abox_new 25 hC true) (abox_below x_12 (alloc_below V _)) (abox_below x_13 (alloc_below V _)) (fun e1 e2 => d12_13 (by first | trivial | exact e1) (by first | trivial | exact e2))
                  · go_simp
                    go_wp2_with fail
                    refine hK'.out _ _ (below_call hB hC (alloc_below _ _)) (fun _ => ?_)
                    clear hK' K'
                    try simp only [List.setIfInBounds_toArray, List.set_cons_zero, List.set_cons_succ]
                    exact ih true true true false true false v31 v34 v37 v11 (.pointer (some ⟨V.heap.size, 0, none⟩)) v13 _ (by simp [Go.Proofs.Ytnbbfnlfcncgnaa.nb] at hm ⊢ <;> omega) (by decide) (by decide) (below_call hB hC (alloc_below V _)) (got_below o31 (alloc_below V _)) (got_below o34 (alloc_below V _)) (got_below o37 (alloc_below V _)) (abox_below x_11 (alloc_below V _)) (abox_new 22 hC true) (abox_below x_13 (alloc_below V _)) (fun e1 e2 => by cases e2)
                  · go_simp
                    go_wp2_with fail
                    refine hK'.out _ _ (below_call hB hC (alloc_below _ _)) (fun _ => ?_)
                    clear hK' K'
                    try simp only [List.setIfInBounds_toArray, List.set_cons_zero, List.set_cons_succ]
                    exact ih true true true false false true v31 v34 v37 v11 v12 (.pointer (some ⟨V.heap.size, 0, none⟩)) _ (by simp [Go.Proofs.Ytnbbfnlfcncgnaa.nb] at hm ⊢ <;> omega) (by decide) (by decide) (below_call hB hC (alloc_below V _)) (got_below o31 (alloc_below V _)) (got_below o34 (alloc_below V _)) (got_below o37 (alloc_below V _)) (abox_below x_11 (alloc_below V _)) (abox_below x_12 (alloc_below V _)) (abox_new 22 hC true) (fun e1 e2 => by cases e1)
          | false =>
            cases b9 with
            | true =>
              cases b10 with
              | true =>
                cases b11 with
                | true =>
                  refine wpAnyH_ready (rs := [8]) (by kernel_rfl) (by simp) ?_
                  refine AllReadyH.cons (o := { dst := some 37, op := Op.call { callee := Callee.value (Operand.func 31), args := #[Operand.tmp 36], argTypes := #[22] }, type := 22, pos := "march.go:105", after := #[{ on := 7, ground := Ground.data }, { on := 5, ground := Ground.chain }], guard := none }) (by rfl) (fun K' hK' => ?_) (AllReadyH.nil)
                  · go_simp
                    go_at_call 31
                    refine (HC3.out V hB).mono ?_
                    rintro e V' ⟨⟨v, rfl, hv⟩, hb'⟩
                    go_wp2_with fail
                    refine hK'.out _ _ (below_call hB hC hb') (fun _ => ?_)
                    clear hK' K'
                    try simp only [List.setIfInBounds_toArray, List.set_cons_zero, List.set_cons_succ]
                    exact ih true true true true true true v31 v34 v v11 v12 v13 V' (by simp [Go.Proofs.Ytnbbfnlfcncgnaa.nb] at hm ⊢ <;> omega) (by decide) (by decide) (below_call hB hC hb') (got_below o31 hb') (got_below o34 hb') (got_yes (own_mono hv hC)) (abox_below x_11 hb') (abox_below x_12 hb') (abox_below x_13 hb') (fun e1 e2 => d12_13 (by first | trivial | exact e1) (by first | trivial | exact e2))
                | false =>
                  refine wpAnyH_ready (rs := [8, 11]) (by kernel_rfl) (by simp) ?_
                  refine AllReadyH.cons (o := { dst := some 37, op := Op.call { callee := Callee.value (Operand.func 31), args := #[Operand.tmp 36], argTypes := #[22] }, type := 22, pos := "march.go:105", after := #[{ on := 7, ground := Ground.data }, { on := 5, ground := Ground.chain }], guard := none }) (by rfl) (fun K' hK' => ?_) (AllReadyH.cons (o := { dst := some 13, op := Op.alloc 22, type := 0, pos := "march.go:105", after := #[], guard := none }) (by rfl) (fun K' hK' => ?_) (AllReadyH.nil))
                  · go_simp
                    go_at_call 31
                    refine (HC3.out V hB).mono ?_
                    rintro e V' ⟨⟨v, rfl, hv⟩, hb'⟩
                    go_wp2_with fail
                    refine hK'.out _ _ (below_call hB hC hb') (fun _ => ?_)
                    clear hK' K'
                    try simp only [List.setIfInBounds_toArray, List.set_cons_zero, List.set_cons_succ]
                    exact ih true true true true true false v31 v34 v v11 v12 v13 V' (by simp [Go.Proofs.Ytnbbfnlfcncgnaa.nb] at hm ⊢ <;> omega) (by decide) (by decide) (below_call hB hC hb') (got_below o31 hb') (got_below o34 hb') (got_yes (own_mono hv hC)) (abox_below x_11 hb') (abox_below x_12 hb') (abox_below x_13 hb') (fun e1 e2 => d12_13 (by first | trivial | exact e1) (by first | trivial | exact e2))
                  · go_simp
                    go_wp2_with fail
                    refine hK'.out _ _ (below_call hB hC (alloc_below _ _)) (fun _ => ?_)
                    clear hK' K'
                    try simp only [List.setIfInBounds_toArray, List.set_cons_zero, List.set_cons_succ]
                    have hne : v12 ≠ .pointer (some ⟨V.heap.size, 0, none⟩) := fun e' => by
                      obtain ⟨G, e2, _, h2⟩ := x_12 rfl
                      rw [e2] at e'; simp at e'; have := heap_lt h2; omega
                    exact ih true true false true true true v31 v34 v37 v11 v12 (.pointer (some ⟨V.heap.size, 0, none⟩)) _ (by simp [Go.Proofs.Ytnbbfnlfcncgnaa.nb] at hm ⊢ <;> omega) (by decide) (by decide) (below_call hB hC (alloc_below V _)) (got_below o31 (alloc_below V _)) (got_below o34 (alloc_below V _)) (got_below o37 (alloc_below V _)) (abox_below x_11 (alloc_below V _)) (abox_below x_12 (alloc_below V _)) (abox_new 22 hC true) (fun _ _ => hne)
              | false =>
                cases b11 with
                | true =>
                  refine wpAnyH_ready (rs := [8, 10]) (by kernel_rfl) (by simp) ?_
                  refine AllReadyH.cons (o := { dst := some 37, op := Op.call { callee := Callee.value (Operand.func 31), args := #[Operand.tmp 36], argTypes := #[22] }, type := 22, pos := "march.go:105", after := #[{ on := 7, ground := Ground.data }, { on := 5, ground := Ground.chain }], guard := none }) (by rfl) (fun K' hK' => ?_) (AllReadyH.cons (o := { dst := some 12, op := Op.alloc 22, type := 0, pos := "march.go:105", after := #[], guard := none }) (by rfl) (fun K' hK' => ?_) (AllReadyH.nil))
                  · go_simp
                    go_at_call 31
                    refine (HC3.out V hB).mono ?_
                    rintro e V' ⟨⟨v, rfl, hv⟩, hb'⟩
                    go_wp2_with fail
                    refine hK'.out _ _ (below_call hB hC hb') (fun _ => ?_)
                    clear hK' K'
                    try simp only [List.setIfInBounds_toArray, List.set_cons_zero, List.set_cons_succ]
                    exact ih true true true true false true v31 v34 v v11 v12 v13 V' (by simp [Go.Proofs.Ytnbbfnlfcncgnaa.nb] at hm ⊢ <;> omega) (by decide) (by decide) (below_call hB hC hb') (got_below o31 hb') (got_below o34 hb') (got_yes (own_mono hv hC)) (abox_below x_11 hb') (abox_below x_12 hb') (abox_below x_13 hb') (fun e1 e2 => d12_13 (by first | trivial | exact e1) (by first | trivial | exact e2))
                  · go_simp
                    go_wp2_with fail
                    refine hK'.out _ _ (below_call hB hC (alloc_below _ _)) (fun _ => ?_)
                    clear hK' K'
                    try simp only [List.setIfInBounds_toArray, List.set_cons_zero, List.set_cons_succ]
                    have hne : v13 ≠ .pointer (some ⟨V.heap.size, 0, none⟩) := fun e' => by
                      obtain ⟨G, e2, _, h2⟩ := x_13 rfl
                      rw [e2] at e'; simp at e'; have := heap_lt h2; omega
                    exact ih true true false true true true v31 v34 v37 v11 (.pointer (some ⟨V.heap.size, 0, none⟩)) v13 _ (by simp [Go.Proofs.Ytnbbfnlfcncgnaa.nb] at hm ⊢ <;> omega) (by decide) (by decide) (below_call hB hC (alloc_below V _)) (got_below o31 (alloc_below V _)) (got_below o34 (alloc_below V _)) (got_below o37 (alloc_below V _)) (abox_below x_11 (alloc_below V _)) (abox_new 22 hC true) (abox_below x_13 (alloc_below V _)) (fun _ _ => Ne.symm hne)
                | false =>
                  refine wpAnyH_ready (rs := [8, 10, 11]) (by kernel_rfl) (by simp) ?_
                  refine AllReadyH.cons (o := { dst := some 37, op := Op.call { callee := Callee.value (Operand.func 31), args := #[Operand.tmp 36], argTypes := #[22] }, type := 22, pos := "march.go:105", after := #[{ on := 7, ground := Ground.data }, { on := 5, ground := Ground.chain }], guard := none }) (by rfl) (fun K' hK' => ?_) (AllReadyH.cons (o := { dst := some 12, op := Op.alloc 22, type := 0, pos := "march.go:105", after := #[], guard := none }) (by rfl) (fun K' hK' => ?_) (AllReadyH.cons (o := { dst := some 13, op := Op.alloc 22, type := 0, pos := "march.go:105", after := #[], guard := none }) (by rfl) (fun K' hK' => ?_) (AllReadyH.nil)))
                  · go_simp
                    go_at_call 31
                    refine (HC3.out V hB).mono ?_
                    rintro e V' ⟨⟨v, rfl, hv⟩, hb'⟩
                    go_wp2_with fail
                    refine hK'.out _ _ (below_call hB hC hb') (fun _ => ?_)
                    clear hK' K'
                    try simp only [List.setIfInBounds_toArray, List.set_cons_zero, List.set_cons_succ]
                    exact ih true true true true false false v31 v34 v v11 v12 v13 V' (by simp [Go.Proofs.Ytnbbfnlfcncgnaa.nb] at hm ⊢ <;> omega) (by decide) (by decide) (below_call hB hC hb') (got_below o31 hb') (got_below o34 hb') (got_yes (own_mono hv hC)) (abox_below x_11 hb') (abox_below x_12 hb') (abox_below x_13 hb') (fun e1 e2 => d12_13 (by first | trivial | exact e1) (by first | trivial | exact e2))
                  · go_simp
                    go_wp2_with fail
                    refine hK'.out _ _ (below_call hB hC (alloc_below _ _)) (fun _ => ?_)
                    clear hK' K'
                    try simp only [List.setIfInBounds_toArray, List.set_cons_zero, List.set_cons_succ]
                    exact ih true true false true true false v31 v34 v37 v11 (.pointer (some ⟨V.heap.size, 0, none⟩)) v13 _ (by simp [Go.Proofs.Ytnbbfnlfcncgnaa.nb] at hm ⊢ <;> omega) (by decide) (by decide) (below_call hB hC (alloc_below V _)) (got_below o31 (alloc_below V _)) (got_below o34 (alloc_below V _)) (got_below o37 (alloc_below V _)) (abox_below x_11 (alloc_below V _)) (abox_new 22 hC true) (abox_below x_13 (alloc_below V _)) (fun e1 e2 => by cases e2)
                  · go_simp
                    go_wp2_with fail
                    refine hK'.out _ _ (below_call hB hC (alloc_below _ _)) (fun _ => ?_)
                    clear hK' K'
                    try simp only [List.setIfInBounds_toArray, List.set_cons_zero, List.set_cons_succ]
                    exact ih true true false true false true v31 v34 v37 v11 v12 (.pointer (some ⟨V.heap.size, 0, none⟩)) _ (by simp [Go.Proofs.Ytnbbfnlfcncgnaa.nb] at hm ⊢ <;> omega) (by decide) (by decide) (below_call hB hC (alloc_below V _)) (got_below o31 (alloc_below V _)) (got_below o34 (alloc_below V _)) (got_below o37 (alloc_below V _)) (abox_below x_11 (alloc_below V _)) (abox_below x_12 (alloc_below V _)) (abox_new 22 hC true) (fun e1 e2 => by cases e1)
            | false =>
              cases b10 with
              | true =>
                cases b11 with
                | true =>
                  refine wpAnyH_ready (rs := [8, 9]) (by kernel_rfl) (by simp) ?_
                  refine AllReadyH.cons (o := { dst := some 37, op := Op.call { callee := Callee.value (Operand.func 31), args := #[Operand.tmp 36], argTypes := #[22] }, type := 22, pos := "march.go:105", after := #[{ on := 7, ground := Ground.data }, { on := 5, ground := Ground.chain }], guard := none }) (by rfl) (fun K' hK' => ?_) (AllReadyH.cons (o := { dst := some 11, op := Op.alloc 25, type := 0, pos := "march.go:105", after := #[], guard := none }) (by rfl) (fun K' hK' => ?_) (AllReadyH.nil))
                  · go_simp
                    go_at_call 31
                    refine (HC3.out V hB).mono ?_
                    rintro e V' ⟨⟨v, rfl, hv⟩, hb'⟩
                    go_wp2_with fail
                    refine hK'.out _ _ (below_call hB hC hb') (fun _ => ?_)
                    clear hK' K'
                    try simp only [List.setIfInBounds_toArray, List.set_cons_zero, List.set_cons_succ]
                    exact ih true true true false true true v31 v34 v v11 v12 v13 V' (by simp [Go.Proofs.Ytnbbfnlfcncgnaa.nb] at hm ⊢ <;> omega) (by decide) (by decide) (below_call hB hC hb') (got_below o31 hb') (got_below o34 hb') (got_yes (own_mono hv hC)) (abox_below x_11 hb') (abox_below x_12 hb') (abox_below x_13 hb') (fun e1 e2 => d12_13 (by first | trivial | exact e1) (by first | trivial | exact e2))
                  · go_simp
                    go_wp2_with fail
                    refine hK'.out _ _ (below_call hB hC (alloc_below _ _)) (fun _ => ?_)
                    clear hK' K'
                    try simp only [List.setIfInBounds_toArray, List.set_cons_zero, List.set_cons_succ]
                    exact ih true true false true true true v31 v34 v37 (.pointer (some ⟨V.heap.size, 0, none⟩)) v12 v13 _ (by simp [Go.Proofs.Ytnbbfnlfcncgnaa.nb] at hm ⊢ <;> omega) (by decide) (by decide) (below_call hB hC (alloc_below V _)) (got_below o31 (alloc_below V _)) (got_below o34 (alloc_below V _)) (got_below o37 (alloc_below V _)) (abox_new 25 hC true) (abox_below x_12 (alloc_below V _)) (abox_below x_13 (alloc_below V _)) (fun e1 e2 => d12_13 (by first | trivial | exact e1) (by first | trivial | exact e2))
                | false =>
                  refine wpAnyH_ready (rs := [8, 9, 11]) (by kernel_rfl) (by simp) ?_
                  refine AllReadyH.cons (o := { dst := some 37, op := Op.call { callee := Callee.value (Operand.func 31), args := #[Operand.tmp 36], argTypes := #[22] }, type := 22, pos := "march.go:105", after := #[{ on := 7, ground := Ground.data }, { on := 5, ground := Ground.chain }], guard := none }) (by rfl) (fun K' hK' => ?_) (AllReadyH.cons (o := { dst := some 11, op := Op.alloc 25, type := 0, pos := "march.go:105", after := #[], guard := none }) (by rfl) (fun K' hK' => ?_) (AllReadyH.cons (o := { dst := some 13, op := Op.alloc 22, type := 0, pos := "march.go:105", after := #[], guard := none }) (by rfl) (fun K' hK' => ?_) (AllReadyH.nil)))
                  · go_simp
                    go_at_call 31
                    refine (HC3.out V hB).mono ?_
                    rintro e V' ⟨⟨v, rfl, hv⟩, hb'⟩
                    go_wp2_with fail
                    refine hK'.out _ _ (below_call hB hC hb') (fun _ => ?_)
                    clear hK' K'
                    try simp only [List.setIfInBounds_toArray, List.set_cons_zero, List.set_cons_succ]
                    exact ih true true true false true false v31 v34 v v11 v12 v13 V' (by simp [Go.Proofs.Ytnbbfnlfcncgnaa.nb] at hm ⊢ <;> omega) (by decide) (by decide) (below_call hB hC hb') (got_below o31 hb') (got_below o34 hb') (got_yes (own_mono hv hC)) (abox_below x_11 hb') (abox_below x_12 hb') (abox_below x_13 hb') (fun e1 e2 => d12_13 (by first | trivial | exact e1) (by first | trivial | exact e2))
                  · go_simp
                    go_wp2_with fail
                    refine hK'.out _ _ (below_call hB hC (alloc_below _ _)) (fun _ => ?_)
                    clear hK' K'
                    try simp only [List.setIfInBounds_toArray, List.set_cons_zero, List.set_cons_succ]
                    exact ih true true false true true false v31 v34 v37 (.pointer (some ⟨V.heap.size, 0, none⟩)) v12 v13 _ (by simp [Go.Proofs.Ytnbbfnlfcncgnaa.nb] at hm ⊢ <;> omega) (by decide) (by decide) (below_call hB hC (alloc_below V _)) (got_below o31 (alloc_below V _)) (got_below o34 (alloc_below V _)) (got_below o37 (alloc_below V _)) (abox_new 25 hC true) (abox_below x_12 (alloc_below V _)) (abox_below x_13 (alloc_below V _)) (fun e1 e2 => d12_13 (by first | trivial | exact e1) (by first | trivial | exact e2))
                  · go_simp
                    go_wp2_with fail
                    refine hK'.out _ _ (below_call hB hC (alloc_below _ _)) (fun _ => ?_)
                    clear hK' K'
                    try simp only [List.setIfInBounds_toArray, List.set_cons_zero, List.set_cons_succ]
                    have hne : v12 ≠ .pointer (some ⟨V.heap.size, 0, none⟩) := fun e' => by
                      obtain ⟨G, e2, _, h2⟩ := x_12 rfl
                      rw [e2] at e'; simp at e'; have := heap_lt h2; omega
                    exact ih true true false false true true v31 v34 v37 v11 v12 (.pointer (some ⟨V.heap.size, 0, none⟩)) _ (by simp [Go.Proofs.Ytnbbfnlfcncgnaa.nb] at hm ⊢ <;> omega) (by decide) (by decide) (below_call hB hC (alloc_below V _)) (got_below o31 (alloc_below V _)) (got_below o34 (alloc_below V _)) (got_below o37 (alloc_below V _)) (abox_below x_11 (alloc_below V _)) (abox_below x_12 (alloc_below V _)) (abox_new 22 hC true) (fun _ _ => hne)
              | false =>
                cases b11 with
                | true =>
                  refine wpAnyH_ready (rs := [8, 9, 10]) (by kernel_rfl) (by simp) ?_
                  refine AllReadyH.cons (o := { dst := some 37, op := Op.call { callee := Callee.value (Operand.func 31), args := #[Operand.tmp 36], argTypes := #[22] }, type := 22, pos := "march.go:105", after := #[{ on := 7, ground := Ground.data }, { on := 5, ground := Ground.chain }], guard := none }) (by rfl) (fun K' hK' => ?_) (AllReadyH.cons (o := { dst := some 11, op := Op.alloc 25, type := 0, pos := "march.go:105", after := #[], guard := none }) (by rfl) (fun K' hK' => ?_) (AllReadyH.cons (o := { dst := some 12, op := Op.alloc 22, type := 0, pos := "march.go:105", after := #[], guard := none }) (by rfl) (fun K' hK' => ?_) (AllReadyH.nil)))
                  · go_simp
                    go_at_call 31
                    refine (HC3.out V hB).mono ?_
                    rintro e V' ⟨⟨v, rfl, hv⟩, hb'⟩
                    go_wp2_with fail
                    refine hK'.out _ _ (below_call hB hC hb') (fun _ => ?_)
                    clear hK' K'
                    try simp only [List.setIfInBounds_toArray, List.set_cons_zero, List.set_cons_succ]
                    exact ih true true true false false true v31 v34 v v11 v12 v13 V' (by simp [Go.Proofs.Ytnbbfnlfcncgnaa.nb] at hm ⊢ <;> omega) (by decide) (by decide) (below_call hB hC hb') (got_below o31 hb') (got_below o34 hb') (got_yes (own_mono hv hC)) (abox_below x_11 hb') (abox_below x_12 hb') (abox_below x_13 hb') (fun e1 e2 => d12_13 (by first | trivial | exact e1) (by first | trivial | exact e2))
                  · go_simp
                    go_wp2_with fail
                    refine hK'.out _ _ (below_call hB hC (alloc_below _ _)) (fun _ => ?_)
                    clear hK' K'
                    try simp only [List.setIfInBounds_toArray, List.set_cons_zero, List.set_cons_succ]
                    exact ih true true false true false true v31 v34 v37 (.pointer (some ⟨V.heap.size, 0, none⟩)) v12 v13 _ (by simp [Go.Proofs.Ytnbbfnlfcncgnaa.nb] at hm ⊢ <;> omega) (by decide) (by decide) (below_call hB hC (alloc_below V _)) (got_below o31 (alloc_below V _)) (got_below o34 (alloc_below V _)) (got_below o37 (alloc_below V _)) (abox_new 25 hC true) (abox_below x_12 (alloc_below V _)) (abox_below x_13 (alloc_below V _)) (fun e1 e2 => d12_13 (by first | trivial | exact e1) (by first | trivial | exact e2))
                  · go_simp
                    go_wp2_with fail
                    refine hK'.out _ _ (below_call hB hC (alloc_below _ _)) (fun _ => ?_)
                    clear hK' K'
                    try simp only [List.setIfInBounds_toArray, List.set_cons_zero, List.set_cons_succ]
                    have hne : v13 ≠ .pointer (some ⟨V.heap.size, 0, none⟩) := fun e' => by
                      obtain ⟨G, e2, _, h2⟩ := x_13 rfl
                      rw [e2] at e'; simp at e'; have := heap_lt h2; omega
                    exact ih true true false false true true v31 v34 v37 v11 (.pointer (some ⟨V.heap.size, 0, none⟩)) v13 _ (by simp [Go.Proofs.Ytnbbfnlfcncgnaa.nb] at hm ⊢ <;> omega) (by decide) (by decide) (below_call hB hC (alloc_below V _)) (got_below o31 (alloc_below V _)) (got_below o34 (alloc_below V _)) (got_below o37 (alloc_below V _)) (abox_below x_11 (alloc_below V _)) (abox_new 22 hC true) (abox_below x_13 (alloc_below V _)) (fun _ _ => Ne.symm hne)
                | false =>
                  refine wpAnyH_ready (rs := [8, 9, 10, 11]) (by kernel_rfl) (by simp) ?_
                  refine AllReadyH.cons (o := { dst := some 37, op := Op.call { callee := Callee.value (Operand.func 31), args := #[Operand.tmp 36], argTypes := #[22] }, type := 22, pos := "march.go:105", after := #[{ on := 7, ground := Ground.data }, { on := 5, ground := Ground.chain }], guard := none }) (by rfl) (fun K' hK' => ?_) (AllReadyH.cons (o := { dst := some 11, op := Op.alloc 25, type := 0, pos := "march.go:105", after := #[], guard := none }) (by rfl) (fun K' hK' => ?_) (AllReadyH.cons (o := { dst := some 12, op := Op.alloc 22, type := 0, pos := "march.go:105", after := #[], guard := none }) (by rfl) (fun K' hK' => ?_) (AllReadyH.cons (o := { dst := some 13, op := Op.alloc 22, type := 0, pos := "march.go:105", after := #[], guard := none }) (by rfl) (fun K' hK' => ?_) (AllReadyH.nil))))
                  · go_simp
                    go_at_call 31
                    refine (HC3.out V hB).mono ?_
                    rintro e V' ⟨⟨v, rfl, hv⟩, hb'⟩
                    go_wp2_with fail
                    refine hK'.out _ _ (below_call hB hC hb') (fun _ => ?_)
                    clear hK' K'
                    try simp only [List.setIfInBounds_toArray, List.set_cons_zero, List.set_cons_succ]
                    exact ih true true true false false false v31 v34 v v11 v12 v13 V' (by simp [Go.Proofs.Ytnbbfnlfcncgnaa.nb] at hm ⊢ <;> omega) (by decide) (by decide) (below_call hB hC hb') (got_below o31 hb') (got_below o34 hb') (got_yes (own_mono hv hC)) (abox_below x_11 hb') (abox_below x_12 hb') (abox_below x_13 hb') (fun e1 e2 => d12_13 (by first | trivial | exact e1) (by first | trivial | exact e2))
                  · go_simp
                    go_wp2_with fail
                    refine hK'.out _ _ (below_call hB hC (alloc_below _ _)) (fun _ => ?_)
                    clear hK' K'
                    try simp only [List.setIfInBounds_toArray, List.set_cons_zero, List.set_cons_succ]
                    exact ih true true false true false false v31 v34 v37 (.pointer (some ⟨V.heap.size, 0, none⟩)) v12 v13 _ (by simp [Go.Proofs.Ytnbbfnlfcncgnaa.nb] at hm ⊢ <;> omega) (by decide) (by decide) (below_call hB hC (alloc_below V _)) (got_below o31 (alloc_below V _)) (got_below o34 (alloc_below V _)) (got_below o37 (alloc_below V _)) (abox_new 25 hC true) (abox_below x_12 (alloc_below V _)) (abox_below x_13 (alloc_below V _)) (fun e1 e2 => d12_13 (by first | trivial | exact e1) (by first | trivial | exact e2))
                  · go_simp
                    go_wp2_with fail
                    refine hK'.out _ _ (below_call hB hC (alloc_below _ _)) (fun _ => ?_)
                    clear hK' K'
                    try simp only [List.setIfInBounds_toArray, List.set_cons_zero, List.set_cons_succ]
                    exact ih true true false false true false v31 v34 v37 v11 (.pointer (some ⟨V.heap.size, 0, none⟩)) v13 _ (by simp [Go.Proofs.Ytnbbfnlfcncgnaa.nb] at hm ⊢ <;> omega) (by decide) (by decide) (below_call hB hC (alloc_below V _)) (got_below o31 (alloc_below V _)) (got_below o34 (alloc_below V _)) (got_below o37 (alloc_below V _)) (abox_below x_11 (alloc_below V _)) (abox_new 22 hC true) (abox_below x_13 (alloc_below V _)) (fun e1 e2 => by cases e2)
                  · go_simp
                    go_wp2_with fail
                    refine hK'.out _ _ (below_call hB hC (alloc_below _ _)) (fun _ => ?_)
                    clear hK' K'
                    try simp only [List.setIfInBounds_toArray, List.set_cons_zero, List.set_cons_succ]
                    exact ih true true false false false true v31 v34 v37 v11 v12 (.pointer (some ⟨V.heap.size, 0, none⟩)) _ (by simp [Go.Proofs.Ytnbbfnlfcncgnaa.nb] at hm ⊢ <;> omega) (by decide) (by decide) (below_call hB hC (alloc_below V _)) (got_below o31 (alloc_below V _)) (got_below o34 (alloc_below V _)) (got_below o37 (alloc_below V _)) (abox_below x_11 (alloc_below V _)) (abox_below x_12 (alloc_below V _)) (abox_new 22 hC true) (fun e1 e2 => by cases e1)
        | false =>
          cases b8 with
          | true =>
            cases b9 with
            | true =>
              cases b10 with
              | true =>
                cases b11 with
                | true =>
                  exact absurd (h1 rfl) (by decide)
                | false =>
                  exact absurd (h1 rfl) (by decide)
              | false =>
                cases b11 with
                | true =>
                  exact absurd (h1 rfl) (by decide)
                | false =>
                  exact absurd (h1 rfl) (by decide)
            | false =>
              cases b10 with
              | true =>
                cases b11 with
                | true =>
                  exact absurd (h1 rfl) (by decide)
                | false =>
                  exact absurd (h1 rfl) (by decide)
              | false =>
                cases b11 with
                | true =>
                  exact absurd (h1 rfl) (by decide)
                | false =>
                  exact absurd (h1 rfl) (by decide)
          | false =>
            cases b9 with
            | true =>
              cases b10 with
              | true =>
                cases b11 with
                | true =>
                  refine wpAnyH_ready (rs := [5]) (by kernel_rfl) (by simp) ?_
                  refine AllReadyH.cons (o := { dst := some 34, op := Op.call { callee := Callee.value (Operand.func 31), args := #[Operand.tmp 33], argTypes := #[22] }, type := 22, pos := "march.go:105", after := #[{ on := 4, ground := Ground.data }, { on := 2, ground := Ground.chain }], guard := none }) (by rfl) (fun K' hK' => ?_) (AllReadyH.nil)
                  · go_simp
                    go_at_call 31
                    refine (HC2.out V hB).mono ?_
                    rintro e V' ⟨⟨v, rfl, hv⟩, hb'⟩
                    go_wp2_with fail
                    refine hK'.out _ _ (below_call hB hC hb') (fun _ => ?_)
                    clear hK' K'
                    try simp only [List.setIfInBounds_toArray, List.set_cons_zero, List.set_cons_succ]
                    exact ih true true false true true true v31 v v37 v11 v12 v13 V' (by simp [Go.Proofs.Ytnbbfnlfcncgnaa.nb] at hm ⊢ <;> omega) (by decide) (by decide) (below_call hB hC hb') (got_below o31 hb') (got_yes (own_mono hv hC)) (got_below o37 hb') (abox_below x_11 hb') (abox_below x_12 hb') (abox_below x_13 hb') (fun e1 e2 => d12_13 (by first | trivial | exact e1) (by first | trivial | exact e2))
                | false =>
                  refine wpAnyH_ready (rs := [5, 11]) (by kernel_rfl) (by simp) ?_
                  refine AllReadyH.cons (o := { dst := some 34, op := Op.call { callee := Callee.value (Operand.func 31), args := #[Operand.tmp 33], argTypes := #[22] }, type := 22, pos := "march.go:105", after := #[{ on := 4, ground := Ground.data }, { on := 2, ground := Ground.chain }], guard := none }) (by rfl) (fun K' hK' => ?_) (AllReadyH.cons (o := { dst := some 13, op := Op.alloc 22, type := 0, pos := "march.go:105", after := #[], guard := none }) (by rfl) (fun K' hK' => ?_) (AllReadyH.nil))
                  · go_simp
                    go_at_call 31
                    refine (HC2.out V hB).mono ?_
                    rintro e V' ⟨⟨v, rfl, hv⟩, hb'⟩
                    go_wp2_with fail
                    refine hK'.out _ _ (below_call hB hC hb') (fun _ => ?_)
                    clear hK' K'
                    try simp only [List.setIfInBounds_toArray, List.set_cons_zero, List.set_cons_succ]
                    exact ih true true false true true false v31 v v37 v11 v12 v13 V' (by simp [Go.Proofs.Ytnbbfnlfcncgnaa.nb] at hm ⊢ <;> omega) (by decide) (by decide) (below_call hB hC hb') (got_below o31 hb') (got_yes (own_mono hv hC)) (got_below o37 hb') (abox_below x_11 hb') (abox_below x_12 hb') (abox_below x_13 hb') (fun e1 e2 => d12_13 (by first | trivial | exact e1) (by first | trivial | exact e2))
                  · go_simp
                    go_wp2_with fail
                    refine hK'.out _ _ (below_call hB hC (alloc_below _ _)) (fun _ => ?_)
                    clear hK' K'
                    try simp only [List.setIfInBounds_toArray, List.set_cons_zero, List.set_cons_succ]
                    have hne : v12 ≠ .pointer (some ⟨V.heap.size, 0, none⟩) := fun e' => by
                      obtain ⟨G, e2, _, h2⟩ := x_12 rfl
                      rw [e2] at e'; simp at e'; have := heap_lt h2; omega
                    exact ih true false false true true true v31 v34 v37 v11 v12 (.pointer (some ⟨V.heap.size, 0, none⟩)) _ (by simp [Go.Proofs.Ytnbbfnlfcncgnaa.nb] at hm ⊢ <;> omega) (by decide) (by decide) (below_call hB hC (alloc_below V _)) (got_below o31 (alloc_below V _)) (got_below o34 (alloc_below V _)) (got_below o37 (alloc_below V _)) (abox_below x_11 (alloc_below V _)) (abox_below x_12 (alloc_below V _)) (abox_new 22 hC true) (fun _ _ => hne)
              | false =>
                cases b11 with
                | true =>
                  refine wpAnyH_ready (rs := [5, 10]) (by kernel_rfl) (by simp) ?_
                  refine AllReadyH.cons (o := { dst := some 34, op := Op.call { callee := Callee.value (Operand.func 31), args := #[Operand.tmp 33], argTypes := #[22] }, type := 22, pos := "march.go:105", after := #[{ on := 4, ground := Ground.data }, { on := 2, ground := Ground.chain }], guard := none }) (by rfl) (fun K' hK' => ?_) (AllReadyH.cons (o := { dst := some 12, op := Op.alloc 22, type := 0, pos := "march.go:105", after := #[], guard := none }) (by rfl) (fun K' hK' => ?_) (AllReadyH.nil))
                  · go_simp
                    go_at_call 31
                    refine (HC2.out V hB).mono ?_
                    rintro e V' ⟨⟨v, rfl, hv⟩, hb'⟩
                    go_wp2_with fail
                    refine hK'.out _ _ (below_call hB hC hb') (fun _ => ?_)
                    clear hK' K'
                    try simp only [List.setIfInBounds_toArray, List.set_cons_zero, List.set_cons_succ]
                    exact ih true true false true false true v31 v v37 v11 v12 v13 V' (by simp [Go.Proofs.Ytnbbfnlfcncgnaa.nb] at hm ⊢ <;> omega) (by decide) (by decide) (below_call hB hC hb') (got_below o31 hb') (got_yes (own_mono hv hC)) (got_below o37 hb') (abox_below x_11 hb') (abox_below x_12 hb') (abox_below x_13 hb') (fun e1 e2 => d12_13 (by first | trivial | exact e1) (by first | trivial | exact e2))
                  · go_simp
                    go_wp2_with fail
                    refine hK'.out _ _ (below_call hB hC (alloc_below _ _)) (fun _ => ?_)
                    clear hK' K'
                    try simp only [List.setIfInBounds_toArray, List.set_cons_zero, List.set_cons_succ]
                    have hne : v13 ≠ .pointer (some ⟨V.heap.size, 0, none⟩) := fun e' => by
                      obtain ⟨G, e2, _, h2⟩ := x_13 rfl
                      rw [e2] at e'; simp at e'; have := heap_lt h2; omega
                    exact ih true false false true true true v31 v34 v37 v11 (.pointer (some ⟨V.heap.size, 0, none⟩)) v13 _ (by simp [Go.Proofs.Ytnbbfnlfcncgnaa.nb] at hm ⊢ <;> omega) (by decide) (by decide) (below_call hB hC (alloc_below V _)) (got_below o31 (alloc_below V _)) (got_below o34 (alloc_below V _)) (got_below o37 (alloc_below V _)) (abox_below x_11 (alloc_below V _)) (abox_new 22 hC true) (abox_below x_13 (alloc_below V _)) (fun _ _ => Ne.symm hne)
                | false =>
                  refine wpAnyH_ready (rs := [5, 10, 11]) (by kernel_rfl) (by simp) ?_
                  refine AllReadyH.cons (o := { dst := some 34, op := Op.call { callee := Callee.value (Operand.func 31), args := #[Operand.tmp 33], argTypes := #[22] }, type := 22, pos := "march.go:105", after := #[{ on := 4, ground := Ground.data }, { on := 2, ground := Ground.chain }], guard := none }) (by rfl) (fun K' hK' => ?_) (AllReadyH.cons (o := { dst := some 12, op := Op.alloc 22, type := 0, pos := "march.go:105", after := #[], guard := none }) (by rfl) (fun K' hK' => ?_) (AllReadyH.cons (o := { dst := some 13, op := Op.alloc 22, type := 0, pos := "march.go:105", after := #[], guard := none }) (by rfl) (fun K' hK' => ?_) (AllReadyH.nil)))
                  · go_simp
                    go_at_call 31
                    refine (HC2.out V hB).mono ?_
                    rintro e V' ⟨⟨v, rfl, hv⟩, hb'⟩
                    go_wp2_with fail
                    refine hK'.out _ _ (below_call hB hC hb') (fun _ => ?_)
                    clear hK' K'
                    try simp only [List.setIfInBounds_toArray, List.set_cons_zero, List.set_cons_succ]
                    exact ih true true false true false false v31 v v37 v11 v12 v13 V' (by simp [Go.Proofs.Ytnbbfnlfcncgnaa.nb] at hm ⊢ <;> omega) (by decide) (by decide) (below_call hB hC hb') (got_below o31 hb') (got_yes (own_mono hv hC)) (got_below o37 hb') (abox_below x_11 hb') (abox_below x_12 hb') (abox_below x_13 hb') (fun e1 e2 => d12_13 (by first | trivial | exact e1) (by first | trivial | exact e2))
                  · go_simp
                    go_wp2_with fail
                    refine hK'.out _ _ (below_call hB hC (alloc_below _ _)) (fun _ => ?_)
                    clear hK' K'
                    try simp only [List.setIfInBounds_toArray, List.set_cons_zero, List.set_cons_succ]
                    exact ih true false false true true false v31 v34 v37 v11 (.pointer (some ⟨V.heap.size, 0, none⟩)) v13 _ (by simp [Go.Proofs.Ytnbbfnlfcncgnaa.nb] at hm ⊢ <;> omega) (by decide) (by decide) (below_call hB hC (alloc_below V _)) (got_below o31 (alloc_below V _)) (got_below o34 (alloc_below V _)) (got_below o37 (alloc_below V _)) (abox_below x_11 (alloc_below V _)) (abox_new 22 hC true) (abox_below x_13 (alloc_below V _)) (fun e1 e2 => by cases e2)
                  · go_simp
                    go_wp2_with fail
                    refine hK'.out _ _ (below_call hB hC (alloc_below _ _)) (fun _ => ?_)
                    clear hK' K'
                    try simp only [List.setIfInBounds_toArray, List.set_cons_zero, List.set_cons_succ]
                    exact ih true false false true false true v31 v34 v37 v11 v12 (.pointer (some ⟨V.heap.size, 0, none⟩)) _ (by simp [Go.Proofs.Ytnbbfnlfcncgnaa.nb] at hm ⊢ <;> omega) (by decide) (by decide) (below_call hB hC (alloc_below V _)) (got_below o31 (alloc_below V _)) (got_below o34 (alloc_below V _)) (got_below o37 (alloc_below V _)) (abox_below x_11 (alloc_below V _)) (abox_below x_12 (alloc_below V _)) (abox_new 22 hC true) (fun e1 e2 => by cases e1)
            | false =>
              cases b10 with
              | true =>
                cases b11 with
                | true =>
                  refine wpAnyH_ready (rs := [5, 9]) (by kernel_rfl) (by simp) ?_
                  refine AllReadyH.cons (o := { dst := some 34, op := Op.call { callee := Callee.value (Operand.func 31), args := #[Operand.tmp 33], argTypes := #[22] }, type := 22, pos := "march.go:105", after := #[{ on := 4, ground := Ground.data }, { on := 2, ground := Ground.chain }], guard := none }) (by rfl) (fun K' hK' => ?_) (AllReadyH.cons (o := { dst := some 11, op := Op.alloc 25, type := 0, pos := "march.go:105", after := #[], guard := none }) (by rfl) (fun K' hK' => ?_) (AllReadyH.nil))
                  · go_simp
                    go_at_call 31
                    refine (HC2.out V hB).mono ?_
                    rintro e V' ⟨⟨v, rfl, hv⟩, hb'⟩
                    go_wp2_with fail
                    refine hK'.out _ _ (below_call hB hC hb') (fun _ => ?_)
                    clear hK' K'
                    try simp only [List.setIfInBounds_toArray, List.set_cons_zero, List.set_cons_succ]
                    exact ih true true false false true true v31 v v37 v11 v12 v13 V' (by simp [Go.Proofs.Ytnbbfnlfcncgnaa.nb] at hm ⊢ <;> omega) (by decide) (by decide) (below_call hB hC hb') (got_below o31 hb') (got_yes (own_mono hv hC)) (got_below o37 hb') (abox_below x_11 hb') (abox_below x_12 hb') (abox_below x_13 hb') (fun e1 e2 => d12_13 (by first | trivial | exact e1) (by first | trivial | exact e2))
                  · go_simp
                    go_wp2_with fail
                    refine hK'.out _ _ (below_call hB hC (alloc_below _ _)) (fun _ => ?_)
                    clear hK' K'
                    try simp only [List.setIfInBounds_toArray, List.set_cons_zero, List.set_cons_succ]
                    exact ih true false false true true true v31 v34 v37 (.pointer (some ⟨V.heap.size, 0, none⟩)) v12 v13 _ (by simp [Go.Proofs.Ytnbbfnlfcncgnaa.nb] at hm ⊢ <;> omega) (by decide) (by decide) (below_call hB hC (alloc_below V _)) (got_below o31 (alloc_below V _)) (got_below o34 (alloc_below V _)) (got_below o37 (alloc_below V _)) (abox_new 25 hC true) (abox_below x_12 (alloc_below V _)) (abox_below x_13 (alloc_below V _)) (fun e1 e2 => d12_13 (by first | trivial | exact e1) (by first | trivial | exact e2))
                | false =>
                  refine wpAnyH_ready (rs := [5, 9, 11]) (by kernel_rfl) (by simp) ?_
                  refine AllReadyH.cons (o := { dst := some 34, op := Op.call { callee := Callee.value (Operand.func 31), args := #[Operand.tmp 33], argTypes := #[22] }, type := 22, pos := "march.go:105", after := #[{ on := 4, ground := Ground.data }, { on := 2, ground := Ground.chain }], guard := none }) (by rfl) (fun K' hK' => ?_) (AllReadyH.cons (o := { dst := some 11, op := Op.alloc 25, type := 0, pos := "march.go:105", after := #[], guard := none }) (by rfl) (fun K' hK' => ?_) (AllReadyH.cons (o := { dst := some 13, op := Op.alloc 22, type := 0, pos := "march.go:105", after := #[], guard := none }) (by rfl) (fun K' hK' => ?_) (AllReadyH.nil)))
                  · go_simp
                    go_at_call 31
                    refine (HC2.out V hB).mono ?_
                    rintro e V' ⟨⟨v, rfl, hv⟩, hb'⟩
                    go_wp2_with fail
                    refine hK'.out _ _ (below_call hB hC hb') (fun _ => ?_)
                    clear hK' K'
                    try simp only [List.setIfInBounds_toArray, List.set_cons_zero, List.set_cons_succ]
                    exact ih true true false false true false v31 v v37 v11 v12 v13 V' (by simp [Go.Proofs.Ytnbbfnlfcncgnaa.nb] at hm ⊢ <;> omega) (by decide) (by decide) (below_call hB hC hb') (got_below o31 hb') (got_yes (own_mono hv hC)) (got_below o37 hb') (abox_below x_11 hb') (abox_below x_12 hb') (abox_below x_13 hb') (fun e1 e2 => d12_13 (by first | trivial | exact e1) (by first | trivial | exact e2))
                  · go_simp
                    go_wp2_with fail
                    refine hK'.out _ _ (below_call hB hC (alloc_below _ _)) (fun _ => ?_)
                    clear hK' K'
                    try simp only [List.setIfInBounds_toArray, List.set_cons_zero, List.set_cons_succ]
                    exact ih true false false true true false v31 v34 v37 (.pointer (some ⟨V.heap.size, 0, none⟩)) v12 v13 _ (by simp [Go.Proofs.Ytnbbfnlfcncgnaa.nb] at hm ⊢ <;> omega) (by decide) (by decide) (below_call hB hC (alloc_below V _)) (got_below o31 (alloc_below V _)) (got_below o34 (alloc_below V _)) (got_below o37 (alloc_below V _)) (abox_new 25 hC true) (abox_below x_12 (alloc_below V _)) (abox_below x_13 (alloc_below V _)) (fun e1 e2 => d12_13 (by first | trivial | exact e1) (by first | trivial | exact e2))
                  · go_simp
                    go_wp2_with fail
                    refine hK'.out _ _ (below_call hB hC (alloc_below _ _)) (fun _ => ?_)
                    clear hK' K'
                    try simp only [List.setIfInBounds_toArray, List.set_cons_zero, List.set_cons_succ]
                    have hne : v12 ≠ .pointer (some ⟨V.heap.size, 0, none⟩) := fun e' => by
                      obtain ⟨G, e2, _, h2⟩ := x_12 rfl
                      rw [e2] at e'; simp at e'; have := heap_lt h2; omega
                    exact ih true false false false true true v31 v34 v37 v11 v12 (.pointer (some ⟨V.heap.size, 0, none⟩)) _ (by simp [Go.Proofs.Ytnbbfnlfcncgnaa.nb] at hm ⊢ <;> omega) (by decide) (by decide) (below_call hB hC (alloc_below V _)) (got_below o31 (alloc_below V _)) (got_below o34 (alloc_below V _)) (got_below o37 (alloc_below V _)) (abox_below x_11 (alloc_below V _)) (abox_below x_12 (alloc_below V _)) (abox_new 22 hC true) (fun _ _ => hne)
              | false =>
                cases b11 with
                | true =>
                  refine wpAnyH_ready (rs := [5, 9, 10]) (by kernel_rfl) (by simp) ?_
                  refine AllReadyH.cons (o := { dst := some 34, op := Op.call { callee := Callee.value (Operand.func 31), args := #[Operand.tmp 33], argTypes := #[22] }, type := 22, pos := "march.go:105", after := #[{ on := 4, ground := Ground.data }, { on := 2, ground := Ground.chain }], guard := none }) (by rfl) (fun K' hK' => ?_) (AllReadyH.cons (o := { dst := some 11, op := Op.alloc 25, type := 0, pos := "march.go:105", after := #[], guard := none }) (by rfl) (fun K' hK' => ?_) (AllReadyH.cons (o := { dst := some 12, op := Op.alloc 22, type := 0, pos := "march.go:105", after := #[], guard := none }) (by rfl) (fun K' hK' => ?_) (AllReadyH.nil)))
                  · go_simp
                    go_at_call 31
                    refine (HC2.out V hB).mono ?_
                    rintro e V' ⟨⟨v, rfl, hv⟩, hb'⟩
                    go_wp2_with fail
                    refine hK'.out _ _ (below_call hB hC hb') (fun _ => ?_)
                    clear hK' K'
                    try simp only [List.setIfInBounds_toArray, List.set_cons_zero, List.set_cons_succ]
                    exact ih true true false false false true v31 v v37 v11 v12 v13 V' (by simp [Go.Proofs.Ytnbbfnlfcncgnaa.nb] at hm ⊢ <;> omega) (by decide) (by decide) (below_call hB hC hb') (got_below o31 hb') (got_yes (own_mono hv hC)) (got_below o37 hb') (abox_below x_11 hb') (abox_below x_12 hb') (abox_below x_13 hb') (fun e1 e2 => d12_13 (by first | trivial | exact e1) (by first | trivial | exact e2))
                  · go_simp
                    go_wp2_with fail
                    refine hK'.out _ _ (below_call hB hC (alloc_below _ _)) (fun _ => ?_)
                    clear hK' K'
                    try simp only [List.setIfInBounds_toArray, List.set_cons_zero, List.set_cons_succ]
                    exact ih true false false true false true v31 v34 v37 (.pointer (some ⟨V.heap.size, 0, none⟩)) v12 v13 _ (by simp [Go.Proofs.Ytnbbfnlfcncgnaa.nb] at hm ⊢ <;> omega) (by decide) (by decide) (below_call hB hC (alloc_below V _)) (got_below o31 (alloc_below V _)) (got_below o34 (alloc_below V _)) (got_below o37 (alloc_below V _)) (abox_new 25 hC true) (abox_below x_12 (alloc_below V _)) (abox_below x_13 (alloc_below V _)) (fun e1 e2 => d12_13 (by first | trivial | exact e1) (by first | trivial | exact e2))
                  · go_simp
                    go_wp2_with fail
                    refine hK'.out _ _ (below_call hB hC (alloc_below _ _)) (fun _ => ?_)
                    clear hK' K'
                    try simp only [List.setIfInBounds_toArray, List.set_cons_zero, List.set_cons_succ]
                    have hne : v13 ≠ .pointer (some ⟨V.heap.size, 0, none⟩) := fun e' => by
                      obtain ⟨G, e2, _, h2⟩ := x_13 rfl
                      rw [e2] at e'; simp at e'; have := heap_lt h2; omega
                    exact ih true false false false true true v31 v34 v37 v11 (.pointer (some ⟨V.heap.size, 0, none⟩)) v13 _ (by simp [Go.Proofs.Ytnbbfnlfcncgnaa.nb] at hm ⊢ <;> omega) (by decide) (by decide) (below_call hB hC (alloc_below V _)) (got_below o31 (alloc_below V _)) (got_below o34 (alloc_below V _)) (got_below o37 (alloc_below V _)) (abox_below x_11 (alloc_below V _)) (abox_new 22 hC true) (abox_below x_13 (alloc_below V _)) (fun _ _ => Ne.symm hne)
                | false =>
                  refine wpAnyH_ready (rs := [5, 9, 10, 11]) (by kernel_rfl) (by simp) ?_
                  refine AllReadyH.cons (o := { dst := some 34, op := Op.call { callee := Callee.value (Operand.func 31), args := #[Operand.tmp 33], argTypes := #[22] }, type := 22, pos := "march.go:105", after := #[{ on := 4, ground := Ground.data }, { on := 2, ground := Ground.chain }], guard := none }) (by rfl) (fun K' hK' => ?_) (AllReadyH.cons (o := { dst := some 11, op := Op.alloc 25, type := 0, pos := "march.go:105", after := #[], guard := none }) (by rfl) (fun K' hK' => ?_) (AllReadyH.cons (o := { dst := some 12, op := Op.alloc 22, type := 0, pos := "march.go:105", after := #[], guard := none }) (by rfl) (fun K' hK' => ?_) (AllReadyH.cons (o := { dst := some 13, op := Op.alloc 22, type := 0, pos := "march.go:105", after := #[], guard := none }) (by rfl) (fun K' hK' => ?_) (AllReadyH.nil))))
                  · go_simp
                    go_at_call 31
                    refine (HC2.out V hB).mono ?_
                    rintro e V' ⟨⟨v, rfl, hv⟩, hb'⟩
                    go_wp2_with fail
                    refine hK'.out _ _ (below_call hB hC hb') (fun _ => ?_)
                    clear hK' K'
                    try simp only [List.setIfInBounds_toArray, List.set_cons_zero, List.set_cons_succ]
                    exact ih true true false false false false v31 v v37 v11 v12 v13 V' (by simp [Go.Proofs.Ytnbbfnlfcncgnaa.nb] at hm ⊢ <;> omega) (by decide) (by decide) (below_call hB hC hb') (got_below o31 hb') (got_yes (own_mono hv hC)) (got_below o37 hb') (abox_below x_11 hb') (abox_below x_12 hb') (abox_below x_13 hb') (fun e1 e2 => d12_13 (by first | trivial | exact e1) (by first | trivial | exact e2))
                  · go_simp
                    go_wp2_with fail
                    refine hK'.out _ _ (below_call hB hC (alloc_below _ _)) (fun _ => ?_)
                    clear hK' K'
                    try simp only [List.setIfInBounds_toArray, List.set_cons_zero, List.set_cons_succ]
                    exact ih true false false true false false v31 v34 v37 (.pointer (some ⟨V.heap.size, 0, none⟩)) v12 v13 _ (by simp [Go.Proofs.Ytnbbfnlfcncgnaa.nb] at hm ⊢ <;> omega) (by decide) (by decide) (below_call hB hC (alloc_below V _)) (got_below o31 (alloc_below V _)) (got_below o34 (alloc_below V _)) (got_below o37 (alloc_below V _)) (abox_new 25 hC true) (abox_below x_12 (alloc_below V _)) (abox_below x_13 (alloc_below V _)) (fun e1 e2 => d12_13 (by first | trivial | exact e1) (by first | trivial | exact e2))
                  · go_simp
                    go_wp2_with fail
                    refine hK'.out _ _ (below_call hB hC (alloc_below _ _)) (fun _ => ?_)
                    clear hK' K'
                    try simp only [List.setIfInBounds_toArray, List.set_cons_zero, List.set_cons_succ]
                    exact ih true false false false true false v31 v34 v37 v11 (.pointer (some ⟨V.heap.size, 0, none⟩)) v13 _ (by simp [Go.Proofs.Ytnbbfnlfcncgnaa.nb] at hm ⊢ <;> omega) (by decide) (by decide) (below_call hB hC (alloc_below V _)) (got_below o31 (alloc_below V _)) (got_below o34 (alloc_below V _)) (got_below o37 (alloc_below V _)) (abox_below x_11 (alloc_below V _)) (abox_new 22 hC true) (abox_below x_13 (alloc_below V _)) (fun e1 e2 => by cases e2)
                  · go_simp
                    go_wp2_with fail
                    refine hK'.out _ _ (below_call hB hC (alloc_below _ _)) (fun _ => ?_)
                    clear hK' K'
                    try simp only [List.setIfInBounds_toArray, List.set_cons_zero, List.set_cons_succ]
                    exact ih true false false false false true v31 v34 v37 v11 v12 (.pointer (some ⟨V.heap.size, 0, none⟩)) _ (by simp [Go.Proofs.Ytnbbfnlfcncgnaa.nb] at hm ⊢ <;> omega) (by decide) (by decide) (below_call hB hC (alloc_below V _)) (got_below o31 (alloc_below V _)) (got_below o34 (alloc_below V _)) (got_below o37 (alloc_below V _)) (abox_below x_11 (alloc_below V _)) (abox_below x_12 (alloc_below V _)) (abox_new 22 hC true) (fun e1 e2 => by cases e1)
      | false =>
        cases b5 with
        | true =>
          cases b8 with
          | true =>
            cases b9 with
            | true =>
              cases b10 with
              | true =>
                cases b11 with
                | true =>
                  exact absurd (h0 rfl) (by decide)
                | false =>
                  exact absurd (h0 rfl) (by decide)
              | false =>
                cases b11 with
                | true =>
                  exact absurd (h0 rfl) (by decide)
                | false =>
                  exact absurd (h0 rfl) (by decide)
            | false =>
              cases b10 with
              | true =>
                cases b11 with
                | true =>
                  exact absurd (h0 rfl) (by decide)
                | false =>
                  exact absurd (h0 rfl) (by decide)
              | false =>
                cases b11 with
                | true =>
                  exact absurd (h0 rfl) (by decide)
                | false =>
                  exact absurd (h0 rfl) (by decide)
          | false =>
            cases b9 with
            | true =>
              cases b10 with
              | true =>
                cases b11 with
                | true =>
                  exact absurd (h0 rfl) (by decide)
                | false =>
                  exact absurd (h0 rfl) (by decide)
              | false =>
                cases b11 with
                | true =>
                  exact absurd (h0 rfl) (by decide)
                | false =>
                  exact absurd (h0 rfl) (by decide)
            | false =>
              cases b10 with
              | true =>
                cases b11 with
                | true =>
                  exact absurd (h0 rfl) (by decide)
                | false =>
                  exact absurd (h0 rfl) (by decide)
              | false =>
                cases b11 with
                | true =>
                  exact absurd (h0 rfl) (by decide)
                | false =>
                  exact absurd (h0 rfl) (by decide)
        | false =>
          cases b8 with
          | true =>
            cases b9 with
            | true =>
              cases b10 with
              | true =>
                cases b11 with
                | true =>
                  exact absurd (h1 rfl) (by decide)
                | false =>
                  exact absurd (h1 rfl) (by decide)
              | false =>
                cases b11 with
                | true =>
                  exact absurd (h1 rfl) (by decide)
                | false =>
                  exact absurd (h1 rfl) (by decide)
            | false =>
              cases b10 with
              | true =>
                cases b11 with
                | true =>
                  exact absurd (h1 rfl) (by decide)
                | false =>
                  exact absurd (h1 rfl) (by decide)
              | false =>
                cases b11 with
                | true =>
                  exact absurd (h1 rfl) (by decide)
                | false =>
                  exact absurd (h1 rfl) (by decide)
          | false =>
            cases b9 with
            | true =>
              cases b10 with
              | true =>
                cases b11 with
                | true =>
                  refine wpAnyH_ready (rs := [2]) (by kernel_rfl) (by simp) ?_
                  refine AllReadyH.cons (o := { dst := some 31, op := Op.call { callee := Callee.value (Operand.func 32), args := #[Operand.tmp 30], argTypes := #[25] }, type := 25, pos := "march.go:105", after := #[{ on := 1, ground := Ground.data }], guard := none }) (by rfl) (fun K' hK' => ?_) (AllReadyH.nil)
                  · go_simp
                    go_at_call 32
                    refine (HC1.out V hB).mono ?_
                    rintro e V' ⟨⟨v, rfl, hv⟩, hb'⟩
                    go_wp2_with fail
                    refine hK'.out _ _ (below_call hB hC hb') (fun _ => ?_)
                    clear hK' K'
                    try simp only [List.setIfInBounds_toArray, List.set_cons_zero, List.set_cons_succ]
                    exact ih true false false true true true v v34 v37 v11 v12 v13 V' (by simp [Go.Proofs.Ytnbbfnlfcncgnaa.nb] at hm ⊢ <;> omega) (by decide) (by decide) (below_call hB hC hb') (got_yes (own_mono hv hC)) (got_below o34 hb') (got_below o37 hb') (abox_below x_11 hb') (abox_below x_12 hb') (abox_below x_13 hb') (fun e1 e2 => d12_13 (by first | trivial | exact e1) (by first | trivial | exact e2))
                | false =>
                  refine wpAnyH_ready (rs := [2, 11]) (by kernel_rfl) (by simp) ?_
                  refine AllReadyH.cons (o := { dst := some 31, op := Op.call { callee := Callee.value (Operand.func 32), args := #[Operand.tmp 30], argTypes := #[25] }, type := 25, pos := "march.go:105", after := #[{ on := 1, ground := Ground.data }], guard := none }) (by rfl) (fun K' hK' => ?_) (AllReadyH.cons (o := { dst := some 13, op := Op.alloc 22, type := 0, pos := "march.go:105", after := #[], guard := none }) (by rfl) (fun K' hK' => ?_) (AllReadyH.nil))
                  · go_simp
                    go_at_call 32
                    refine (HC1.out V hB).mono ?_
                    rintro e V' ⟨⟨v, rfl, hv⟩, hb'⟩
                    go_wp2_with fail
                    refine hK'.out _ _ (below_call hB hC hb') (fun _ => ?_)
                    clear hK' K'
                    try simp only [List.setIfInBounds_toArray, List.set_cons_zero, List.set_cons_succ]
                    exact ih true false false true true false v v34 v37 v11 v12 v13 V' (by simp [Go.Proofs.Ytnbbfnlfcncgnaa.nb] at hm ⊢ <;> omega) (by decide) (by decide) (below_call hB hC hb') (got_yes (own_mono hv hC)) (got_below o34 hb') (got_below o37 hb') (abox_below x_11 hb') (abox_below x_12 hb') (abox_below x_13 hb') (fun e1 e2 => d12_13 (by first | trivial | exact e1) (by first | trivial | exact e2))
                  · go_simp
                    go_wp2_with fail
                    refine hK'.out _ _ (below_call hB hC (alloc_below _ _)) (fun _ => ?_)
                    clear hK' K'
                    try simp only [List.setIfInBounds_toArray, List.set_cons_zero, List.set_cons_succ]
                    have hne : v12 ≠ .pointer (some ⟨V.heap.size, 0, none⟩) := fun e' => by
                      obtain ⟨G, e2, _, h2⟩ := x_12 rfl
                      rw [e2] at e'; simp at e'; have := heap_lt h2; omega
                    exact ih false false false true true true v31 v34 v37 v11 v12 (.pointer (some ⟨V.heap.size, 0, none⟩)) _ (by simp [Go.Proofs.Ytnbbfnlfcncgnaa.nb] at hm ⊢ <;> omega) (by decide) (by decide) (below_call hB hC (alloc_below V _)) (got_below o31 (alloc_below V _)) (got_below o34 (alloc_below V _)) (got_below o37 (alloc_below V _)) (abox_below x_11 (alloc_below V _)) (abox_below x_12 (alloc_below V _)) (abox_new 22 hC true) (fun _ _ => hne)
              | false =>
                cases b11 with
                | true =>
                  refine wpAnyH_ready (rs := [2, 10]) (by kernel_rfl) (by simp) ?_
                  refine AllReadyH.cons (o := { dst := some 31, op := Op.call { callee := Callee.value (Operand.func 32), args := #[Operand.tmp 30], argTypes := #[25] }, type := 25, pos := "march.go:105", after := #[{ on := 1, ground := Ground.data }], guard := none }) (by rfl) (fun K' hK' => ?_) (AllReadyH.cons (o := { dst := some 12, op := Op.alloc 22, type := 0, pos := "march.go:105", after := #[], guard := none }) (by rfl) (fun K' hK' => ?_) (AllReadyH.nil))
                  · go_simp
                    go_at_call 32
                    refine (HC1.out V hB).mono ?_
                    rintro e V' ⟨⟨v, rfl, hv⟩, hb'⟩
                    go_wp2_with fail
                    refine hK'.out _ _ (below_call hB hC hb') (fun _ => ?_)
                    clear hK' K'
                    try simp only [List.setIfInBounds_toArray, List.set_cons_zero, List.set_cons_succ]
                    exact ih true false false true false true v v34 v37 v11 v12 v13 V' (by simp [Go.Proofs.Ytnbbfnlfcncgnaa.nb] at hm ⊢ <;> omega) (by decide) (by decide) (below_call hB hC hb') (got_yes (own_mono hv hC)) (got_below o34 hb') (got_below o37 hb') (abox_below x_11 hb') (abox_below x_12 hb') (abox_below x_13 hb') (fun e1 e2 => d12_13 (by first | trivial | exact e1) (by first | trivial | exact e2))
                  · go_simp
                    go_wp2_with fail
                    refine hK'.out _ _ (below_call hB hC (alloc_below _ _)) (fun _ => ?_)
                    clear hK' K'
                    try simp only [List.setIfInBounds_toArray, List.set_cons_zero, List.set_cons_succ]
                    have hne : v13 ≠ .pointer (some ⟨V.heap.size, 0, none⟩) := fun e' => by
                      obtain ⟨G, e2, _, h2⟩ := x_13 rfl
                      rw [e2] at e'; simp at e'; have := heap_lt h2; omega
                    exact ih false false false true true true v31 v34 v37 v11 (.pointer (some ⟨V.heap.size, 0, none⟩)) v13 _ (by simp [Go.Proofs.Ytnbbfnlfcncgnaa.nb] at hm ⊢ <;> omega) (by decide) (by decide) (below_call hB hC (alloc_below V _)) (got_below o31 (alloc_below V _)) (got_below o34 (alloc_below V _)) (got_below o37 (alloc_below V _)) (abox_below x_11 (alloc_below V _)) (abox_new 22 hC true) (abox_below x_13 (alloc_below V _)) (fun _ _ => Ne.symm hne)
                | false =>
                  refine wpAnyH_ready (rs := [2, 10, 11]) (by kernel_rfl) (by simp) ?_
                  refine AllReadyH.cons (o := { dst := some 31, op := Op.call { callee := Callee.value (Operand.func 32), args := #[Operand.tmp 30], argTypes := #[25] }, type := 25, pos := "march.go:105", after := #[{ on := 1, ground := Ground.data }], guard := none }) (by rfl) (fun K' hK' => ?_) (AllReadyH.cons (o := { dst := some 12, op := Op.alloc 22, type := 0, pos := "march.go:105", after := #[], guard := none }) (by rfl) (fun K' hK' => ?_) (AllReadyH.cons (o := { dst := some 13, op := Op.alloc 22, type := 0, pos := "march.go:105", after := #[], guard := none }) (by rfl) (fun K' hK' => ?_) (AllReadyH.nil)))
                  · go_simp
                    go_at_call 32
                    refine (HC1.out V hB).mono ?_
                    rintro e V' ⟨⟨v, rfl, hv⟩, hb'⟩
                    go_wp2_with fail
                    refine hK'.out _ _ (below_call hB hC hb') (fun _ => ?_)
                    clear hK' K'
                    try simp only [List.setIfInBounds_toArray, List.set_cons_zero, List.set_cons_succ]
                    exact ih true false false true false false v v34 v37 v11 v12 v13 V' (by simp [Go.Proofs.Ytnbbfnlfcncgnaa.nb] at hm ⊢ <;> omega) (by decide) (by decide) (below_call hB hC hb') (got_yes (own_mono hv hC)) (got_below o34 hb') (got_below o37 hb') (abox_below x_11 hb') (abox_below x_12 hb') (abox_below x_13 hb') (fun e1 e2 => d12_13 (by first | trivial | exact e1) (by first | trivial | exact e2))
                  · go_simp
                    go_wp2_with fail
                    refine hK'.out _ _ (below_call hB hC (alloc_below _ _)) (fun _ => ?_)
                    clear hK' K'
                    try simp only [List.setIfInBounds_toArray, List.set_cons_zero, List.set_cons_succ]
                    exact ih false false false true true false v31 v34 v37 v11 (.pointer (some ⟨V.heap.size, 0, none⟩)) v13 _ (by simp [Go.Proofs.Ytnbbfnlfcncgnaa.nb] at hm ⊢ <;> omega) (by decide) (by decide) (below_call hB hC (alloc_below V _)) (got_below o31 (alloc_below V _)) (got_below o34 (alloc_below V _)) (got_below o37 (alloc_below V _)) (abox_below x_11 (alloc_below V _)) (abox_new 22 hC true) (abox_below x_13 (alloc_below V _)) (fun e1 e2 => by cases e2)
                  · go_simp
                    go_wp2_with fail
                    refine hK'.out _ _ (below_call hB hC (alloc_below _ _)) (fun _ => ?_)
                    clear hK' K'
                    try simp only [List.setIfInBounds_toArray, List.set_cons_zero, List.set_cons_succ]
                    exact ih false false false true false true v31 v34 v37 v11 v12 (.pointer (some ⟨V.heap.size, 0, none⟩)) _ (by simp [Go.Proofs.Ytnbbfnlfcncgnaa.nb] at hm ⊢ <;> omega) (by decide) (by decide) (below_call hB hC (alloc_below V _)) (got_below o31 (alloc_below V _)) (got_below o34 (alloc_below V _)) (got_below o37 (alloc_below V _)) (abox_below x_11 (alloc_below V _)) (abox_below x_12 (alloc_below V _)) (abox_new 22 hC true) (fun e1 e2 => by cases e1)
            | false =>
              cases b10 with
              | true =>
                cases b11 with
                | true =>
                  refine wpAnyH_ready (rs := [2, 9]) (by kernel_rfl) (by simp) ?_
                  refine AllReadyH.cons (o := { dst := some 31, op := Op.call { callee := Callee.value (Operand.func 32), args := #[Operand.tmp 30], argTypes := #[25] }, type := 25, pos := "march.go:105", after := #[{ on := 1, ground := Ground.data }], guard := none }) (by rfl) (fun K' hK' => ?_) (AllReadyH.cons (o := { dst := some 11, op := Op.alloc 25, type := 0, pos := "march.go:105", after := #[], guard := none }) (by rfl) (fun K' hK' => ?_) (AllReadyH.nil))
                  · go_simp
                    go_at_call 32
                    refine (HC1.out V hB).mono ?_
                    rintro e V' ⟨⟨v, rfl, hv⟩, hb'⟩
                    go_wp2_with fail
                    refine hK'.out _ _ (below_call hB hC hb') (fun _ => ?_)
                    clear hK' K'
                    try simp only [List.setIfInBounds_toArray, List.set_cons_zero, List.set_cons_succ]
                    exact ih true false false false true true v v34 v37 v11 v12 v13 V' (by simp [Go.Proofs.Ytnbbfnlfcncgnaa.nb] at hm ⊢ <;> omega) (by decide) (by decide) (below_call hB hC hb') (got_yes (own_mono hv hC)) (got_below o34 hb') (got_below o37 hb') (abox_below x_11 hb') (abox_below x_12 hb') (abox_below x_13 hb') (fun e1 e2 => d12_13 (by first | trivial | exact e1) (by first | trivial | exact e2))
                  · go_simp
                    go_wp2_with fail
                    refine hK'.out _ _ (below_call hB hC (alloc_below _ _)) (fun _ => ?_)
                    clear hK' K'
                    try simp only [List.setIfInBounds_toArray, List.set_cons_zero, List.set_cons_succ]
                    exact ih false false false true true true v31 v34 v37 (.pointer (some ⟨V.heap.size, 0, none⟩)) v12 v13 _ (by simp [Go.Proofs.Ytnbbfnlfcncgnaa.nb] at hm ⊢ <;> omega) (by decide) (by decide) (below_call hB hC (alloc_below V _)) (got_below o31 (alloc_below V _)) (got_below o34 (alloc_below V _)) (got_below o37 (alloc_below V _)) (abox_new 25 hC true) (abox_below x_12 (alloc_below V _)) (abox_below x_13 (alloc_below V _)) (fun e1 e2 => d12_13 (by first | trivial | exact e1) (by first | trivial | exact e2))
                | false =>
                  refine wpAnyH_ready (rs := [2, 9, 11]) (by kernel_rfl) (by simp) ?_
                  refine AllReadyH.cons (o := { dst := some 31, op := Op.call { callee := Callee.value (Operand.func 32), args := #[Operand.tmp 30], argTypes := #[25] }, type := 25, pos := "march.go:105", after := #[{ on := 1, ground := Ground.data }], guard := none }) (by rfl) (fun K' hK' => ?_) (AllReadyH.cons (o := { dst := some 11, op := Op.alloc 25, type := 0, pos := "march.go:105", after := #[], guard := none }) (by rfl) (fun K' hK' => ?_) (AllReadyH.cons (o := { dst := some 13, op := Op.alloc 22, type := 0, pos := "march.go:105", after := #[], guard := none }) (by rfl) (fun K' hK' => ?_) (AllReadyH.nil)))
                  · go_simp
                    go_at_call 32
                    refine (HC1.out V hB).mono ?_
                    rintro e V' ⟨⟨v, rfl, hv⟩, hb'⟩
                    go_wp2_with fail
                    refine hK'.out _ _ (below_call hB hC hb') (fun _ => ?_)
                    clear hK' K'
                    try simp only [List.setIfInBounds_toArray, List.set_cons_zero, List.set_cons_succ]
                    exact ih true false false false true false v v34 v37 v11 v12 v13 V' (by simp [Go.Proofs.Ytnbbfnlfcncgnaa.nb] at hm ⊢ <;> omega) (by decide) (by decide) (below_call hB hC hb') (got_yes (own_mono hv hC)) (got_below o34 hb') (got_below o37 hb') (abox_below x_11 hb') (abox_below x_12 hb') (abox_below x_13 hb') (fun e1 e2 => d12_13 (by first | trivial | exact e1) (by first | trivial | exact e2))
                  · go_simp
                    go_wp2_with fail
                    refine hK'.out _ _ (below_call hB hC (alloc_below _ _)) (fun _ => ?_)
                    clear hK' K'
                    try simp only [List.setIfInBounds_toArray, List.set_cons_zero, List.set_cons_succ]
                    exact ih false false false true true false v31 v34 v37 (.pointer (some ⟨V.heap.size, 0, none⟩)) v12 v13 _ (by simp [Go.Proofs.Ytnbbfnlfcncgnaa.nb] at hm ⊢ <;> omega) (by decide) (by decide) (below_call hB hC (alloc_below V _)) (got_below o31 (alloc_below V _)) (got_below o34 (alloc_below V _)) (got_below o37 (alloc_below V _)) (abox_new 25 hC true) (abox_below x_12 (alloc_below V _)) (abox_below x_13 (alloc_below V _)) (fun e1 e2 => d12_13 (by first | trivial | exact e1) (by first | trivial | exact e2))
                  · go_simp
                    go_wp2_with fail
                    refine hK'.out _ _ (below_call hB hC (alloc_below _ _)) (fun _ => ?_)
                    clear hK' K'
                    try simp only [List.setIfInBounds_toArray, List.set_cons_zero, List.set_cons_succ]
                    have hne : v12 ≠ .pointer (some ⟨V.heap.size, 0, none⟩) := fun e' => by
                      obtain ⟨G, e2, _, h2⟩ := x_12 rfl
                      rw [e2] at e'; simp at e'; have := heap_lt h2; omega
                    exact ih false false false false true true v31 v34 v37 v11 v12 (.pointer (some ⟨V.heap.size, 0, none⟩)) _ (by simp [Go.Proofs.Ytnbbfnlfcncgnaa.nb] at hm ⊢ <;> omega) (by decide) (by decide) (below_call hB hC (alloc_below V _)) (got_below o31 (alloc_below V _)) (got_below o34 (alloc_below V _)) (got_below o37 (alloc_below V _)) (abox_below x_11 (alloc_below V _)) (abox_below x_12 (alloc_below V _)) (abox_new 22 hC true) (fun _ _ => hne)
              | false =>
                cases b11 with
                | true =>
                  refine wpAnyH_ready (rs := [2, 9, 10]) (by kernel_rfl) (by simp) ?_
                  refine AllReadyH.cons (o := { dst := some 31, op := Op.call { callee := Callee.value (Operand.func 32), args := #[Operand.tmp 30], argTypes := #[25] }, type := 25, pos := "march.go:105", after := #[{ on := 1, ground := Ground.data }], guard := none }) (by rfl) (fun K' hK' => ?_) (AllReadyH.cons (o := { dst := some 11, op := Op.alloc 25, type := 0, pos := "march.go:105", after := #[], guard := none }) (by rfl) (fun K' hK' => ?_) (AllReadyH.cons (o := { dst := some 12, op := Op.alloc 22, type := 0, pos := "march.go:105", after := #[], guard := none }) (by rfl) (fun K' hK' => ?_) (AllReadyH.nil)))
                  · go_simp
                    go_at_call 32
                    refine (HC1.out V hB).mono ?_
                    rintro e V' ⟨⟨v, rfl, hv⟩, hb'⟩
                    go_wp2_with fail
                    refine hK'.out _ _ (below_call hB hC hb') (fun _ => ?_)
                    clear hK' K'
                    try simp only [List.setIfInBounds_toArray, List.set_cons_zero, List.set_cons_succ]
                    exact ih true false false false false true v v34 v37 v11 v12 v13 V' (by simp [Go.Proofs.Ytnbbfnlfcncgnaa.nb] at hm ⊢ <;> omega) (by decide) (by decide) (below_call hB hC hb') (got_yes (own_mono hv hC)) (got_below o34 hb') (got_below o37 hb') (abox_below x_11 hb') (abox_below x_12 hb') (abox_below x_13 hb') (fun e1 e2 => d12_13 (by first | trivial | exact e1) (by first | trivial | exact e2))
                  · go_simp
                    go_wp2_with fail
                    refine hK'.out _ _ (below_call hB hC (alloc_below _ _)) (fun _ => ?_)
                    clear hK' K'
                    try simp only [List.setIfInBounds_toArray, List.set_cons_zero, List.set_cons_succ]
                    exact ih false false false true false true v31 v34 v37 (.pointer (some ⟨V.heap.size, 0, none⟩)) v12 v13 _ (by simp [Go.Proofs.Ytnbbfnlfcncgnaa.nb] at hm ⊢ <;> omega) (by decide) (by decide) (below_call hB hC (alloc_below V _)) (got_below o31 (alloc_below V _)) (got_below o34 (alloc_below V _)) (got_below o37 (alloc_below V _)) (abox_new 25 hC true) (abox_below x_12 (alloc_below V _)) (abox_below x_13 (alloc_below V _)) (fun e1 e2 => d12_13 (by first | trivial | exact e1) (by first | trivial | exact e2))
                  · go_simp
                    go_wp2_with fail
                    refine hK'.out _ _ (below_call hB hC (alloc_below _ _)) (fun _ => ?_)
                    clear hK' K'
                    try simp only [List.setIfInBounds_toArray, List.set_cons_zero, List.set_cons_succ]
                    have hne : v13 ≠ .pointer (some ⟨V.heap.size, 0, none⟩) := fun e' => by
                      obtain ⟨G, e2, _, h2⟩ := x_13 rfl
                      rw [e2] at e'; simp at e'; have := heap_lt h2; omega
                    exact ih false false false false true true v31 v34 v37 v11 (.pointer (some ⟨V.heap.size, 0, none⟩)) v13 _ (by simp [Go.Proofs.Ytnbbfnlfcncgnaa.nb] at hm ⊢ <;> omega) (by decide) (by decide) (below_call hB hC (alloc_below V _)) (got_below o31 (alloc_below V _)) (got_below o34 (alloc_below V _)) (got_below o37 (alloc_below V _)) (abox_below x_11 (alloc_below V _)) (abox_new 22 hC true) (abox_below x_13 (alloc_below V _)) (fun _ _ => Ne.symm hne)
                | false =>
                  refine wpAnyH_ready (rs := [2, 9, 10, 11]) (by kernel_rfl) (by simp) ?_
                  refine AllReadyH.cons (o := { dst := some 31, op := Op.call { callee := Callee.value (Operand.func 32), args := #[Operand.tmp 30], argTypes := #[25] }, type := 25, pos := "march.go:105", after := #[{ on := 1, ground := Ground.data }], guard := none }) (by rfl) (fun K' hK' => ?_) (AllReadyH.cons (o := { dst := some 11, op := Op.alloc 25, type := 0, pos := "march.go:105", after := #[], guard := none }) (by rfl) (fun K' hK' => ?_) (AllReadyH.cons (o := { dst := some 12, op := Op.alloc 22, type := 0, pos := "march.go:105", after := #[], guard := none }) (by rfl) (fun K' hK' => ?_) (AllReadyH.cons (o := { dst := some 13, op := Op.alloc 22, type := 0, pos := "march.go:105", after := #[], guard := none }) (by rfl) (fun K' hK' => ?_) (AllReadyH.nil))))
                  · go_simp
                    go_at_call 32
                    refine (HC1.out V hB).mono ?_
                    rintro e V' ⟨⟨v, rfl, hv⟩, hb'⟩
                    go_wp2_with fail
                    refine hK'.out _ _ (below_call hB hC hb') (fun _ => ?_)
                    clear hK' K'
                    try simp only [List.setIfInBounds_toArray, List.set_cons_zero, List.set_cons_succ]
                    exact ih true false false false false false v v34 v37 v11 v12 v13 V' (by simp [Go.Proofs.Ytnbbfnlfcncgnaa.nb] at hm ⊢ <;> omega) (by decide) (by decide) (below_call hB hC hb') (got_yes (own_mono hv hC)) (got_below o34 hb') (got_below o37 hb') (abox_below x_11 hb') (abox_below x_12 hb') (abox_below x_13 hb') (fun e1 e2 => d12_13 (by first | trivial | exact e1) (by first | trivial | exact e2))
                  · go_simp
                    go_wp2_with fail
                    refine hK'.out _ _ (below_call hB hC (alloc_below _ _)) (fun _ => ?_)
                    clear hK' K'
                    try simp only [List.setIfInBounds_toArray, List.set_cons_zero, List.set_cons_succ]
                    exact ih false false false true false false v31 v34 v37 (.pointer (some ⟨V.heap.size, 0, none⟩)) v12 v13 _ (by simp [Go.Proofs.Ytnbbfnlfcncgnaa.nb] at hm ⊢ <;> omega) (by decide) (by decide) (below_call hB hC (alloc_below V _)) (got_below o31 (alloc_below V _)) (got_below o34 (alloc_below V _)) (got_below o37 (alloc_below V _)) (abox_new 25 hC true) (abox_below x_12 (alloc_below V _)) (abox_below x_13 (alloc_below V _)) (fun e1 e2 => d12_13 (by first | trivial | exact e1) (by first | trivial | exact e2))
                  · go_simp
                    go_wp2_with fail
                    refine hK'.out _ _ (below_call hB hC (alloc_below _ _)) (fun _ => ?_)
                    clear hK' K'
                    try simp only [List.setIfInBounds_toArray, List.set_cons_zero, List.set_cons_succ]
                    exact ih false false false false true false v31 v34 v37 v11 (.pointer (some ⟨V.heap.size, 0, none⟩)) v13 _ (by simp [Go.Proofs.Ytnbbfnlfcncgnaa.nb] at hm ⊢ <;> omega) (by decide) (by decide) (below_call hB hC (alloc_below V _)) (got_below o31 (alloc_below V _)) (got_below o34 (alloc_below V _)) (got_below o37 (alloc_below V _)) (abox_below x_11 (alloc_below V _)) (abox_new 22 hC true) (abox_below x_13 (alloc_below V _)) (fun e1 e2 => by cases e2)
                  · go_simp
                    go_wp2_with fail
                    refine hK'.out _ _ (below_call hB hC (alloc_below _ _)) (fun _ => ?_)
                    clear hK' K'
                    try simp only [List.setIfInBounds_toArray, List.set_cons_zero, List.set_cons_succ]
                    exact ih false false false false false true v31 v34 v37 v11 v12 (.pointer (some ⟨V.heap.size, 0, none⟩)) _ (by simp [Go.Proofs.Ytnbbfnlfcncgnaa.nb] at hm ⊢ <;> omega) (by decide) (by decide) (below_call hB hC (alloc_below V _)) (got_below o31 (alloc_below V _)) (got_below o34 (alloc_below V _)) (got_below o37 (alloc_below V _)) (abox_below x_11 (alloc_below V _)) (abox_below x_12 (alloc_below V _)) (abox_new 22 hC true) (fun e1 e2 => by cases e1)
  refine wp_region_noPanic ?_
  refine wp_region_held_drew (S := (fun V => Below w0.heap.size w0 V)) (by kernel_rfl) (Below.drew (Below.refl _ _)) (fun hHeld => ?_)
  refine wpAnyH_take (i := 0) (oi := { dst := some 29, op := Op.fieldAddr 28 (Operand.tmp 4) 1, type := 0, pos := "march.go:105", after := #[], guard := none }) (v := .pointer (some ⟨F, 3, none⟩)) (by rfl) (by kernel_rfl) (by kernel_rfl) (by kernel_rfl) (fun _ _ _ h => h) (Or.inl ⟨by rfl, by intro V hV; obtain ⟨z0, z1, z2, z3, z4, z5, z6, z7, z8⟩ := HBX.out V hV; go_simp⟩) hHeld ?_
  try simp only [Act.put, List.setIfInBounds_toArray, List.set_cons_zero, List.set_cons_succ]
  refine wpAnyH_take (i := 1) (oi := { dst := some 30, op := Op.load 25 (Operand.tmp 29), type := 25, pos := "march.go:105", after := #[{ on := 0, ground := Ground.data }], guard := none }) (v := .slice pb nb cb) (by rfl) (by kernel_rfl) (by kernel_rfl) (by kernel_rfl) (fun _ _ _ h => h) (Or.inl ⟨by rfl, by intro V hV; obtain ⟨z0, z1, z2, z3, z4, z5, z6, z7, z8⟩ := HBX.out V hV; go_simp⟩) hHeld ?_
  try simp only [Act.put, List.setIfInBounds_toArray, List.set_cons_zero, List.set_cons_succ]
  refine wpAnyH_take (i := 3) (oi := { dst := some 32, op := Op.fieldAddr 28 (Operand.tmp 4) 2, type := 0, pos := "march.go:105", after := #[], guard := none }) (v := .pointer (some ⟨F, 4, none⟩)) (by rfl) (by kernel_rfl) (by kernel_rfl) (by kernel_rfl) (fun _ _ _ h => h) (Or.inl ⟨by rfl, by intro V hV; obtain ⟨z0, z1, z2, z3, z4, z5, z6, z7, z8⟩ := HBX.out V hV; go_simp⟩) hHeld ?_
  try simp only [Act.put, List.setIfInBounds_toArray, List.set_cons_zero, List.set_cons_succ]
  refine wpAnyH_take (i := 4) (oi := { dst := some 33, op := Op.load 22 (Operand.tmp 32), type := 22, pos := "march.go:105", after := #[{ on := 3, ground := Ground.data }], guard := none }) (v := .slice ps ns cs) (by rfl) (by kernel_rfl) (by kernel_rfl) (by kernel_rfl) (fun _ _ _ h => h) (Or.inl ⟨by rfl, by intro V hV; obtain ⟨z0, z1, z2, z3, z4, z5, z6, z7, z8⟩ := HBX.out V hV; go_simp⟩) hHeld ?_
  try simp only [Act.put, List.setIfInBounds_toArray, List.set_cons_zero, List.set_cons_succ]
  refine wpAnyH_take (i := 6) (oi := { dst := some 35, op := Op.fieldAddr 28 (Operand.tmp 4) 3, type := 0, pos := "march.go:105", after := #[], guard := none }) (v := .pointer (some ⟨F, 5, none⟩)) (by rfl) (by kernel_rfl) (by kernel_rfl) (by kernel_rfl) (fun _ _ _ h => h) (Or.inl ⟨by rfl, by intro V hV; obtain ⟨z0, z1, z2, z3, z4, z5, z6, z7, z8⟩ := HBX.out V hV; go_simp⟩) hHeld ?_
  try simp only [Act.put, List.setIfInBounds_toArray, List.set_cons_zero, List.set_cons_succ]
  refine wpAnyH_take (i := 7) (oi := { dst := some 36, op := Op.load 22 (Operand.tmp 35), type := 22, pos := "march.go:105", after := #[{ on := 6, ground := Ground.data }], guard := none }) (v := .slice pm nm cm) (by rfl) (by kernel_rfl) (by kernel_rfl) (by kernel_rfl) (fun _ _ _ h => h) (Or.inl ⟨by rfl, by intro V hV; obtain ⟨z0, z1, z2, z3, z4, z5, z6, z7, z8⟩ := HBX.out V hV; go_simp⟩) hHeld ?_
  try simp only [Act.put, List.setIfInBounds_toArray, List.set_cons_zero, List.set_cons_succ]
  exact key 6 false false false false false false x31 x34 x37 x11 x12 x13 _ (by rfl) (fun e1 => by cases e1) (fun e1 => by cases e1) hHeld got_no got_no got_no abox_no abox_no abox_no (fun e1 _ => by cases e1)
end Go.Proofs.Ytnbbfnlfcncgnaa
