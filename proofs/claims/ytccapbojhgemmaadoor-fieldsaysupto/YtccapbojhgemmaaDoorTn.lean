/- What Turn returns of a right field. -/
import Derived.Test.YtccapbojhgemmaaDoorTm
import Derived.Laws.ResultCell
namespace Go.Proofs.YtccapbojhgemmaaDoor
open Go.RowKit Go.Shelf
set_option linter.unusedVariables false
attribute [local go_sem] Oper.semAt_some
theorem cut_in {F : Fence} {rm : Nat} {P : Program} {s : Code} {K : Act → World → Prop} {Q' : Exit → Act → World → Prop} {a : Act} {w : World} (R : Act → World → Prop)
    (first : s.wpIn F rm P (Exit.then R Q') a w) (rest : ∀ a' w', R a' w' → K a' w') : s.wpIn F rm P (Exit.then K Q') a w := by
  refine wpIn_mono first ?_
  intro e a' w' hq
  cases e with
  | normal => exact rest _ _ hq
  | exit id => exact hq
  | goto l => exact hq
  | ret => exact hq
  | panic c => exact hq
  | outgrown => exact hq

theorem new_two {w1 : World} {S : Nat} (hS : w1.heap.size = S) (o1 o2 : Obj) : ((w1.alloc o1).alloc o2).drew.heap.size = S + 2 ∧ ((w1.alloc o1).alloc o2).drew.heap[S]? = some o1 ∧ ((w1.alloc o1).alloc o2).drew.heap[S + 1]? = some o2 ∧ Below S w1 ((w1.alloc o1).alloc o2).drew := by
  subst hS
  refine ⟨by show ((w1.alloc o1).alloc o2).heap.size = _; simp, ?_, ?_, (((Below.refl _ _).alloc (Nat.le_refl _) _).alloc (by simp) _).drew⟩
  · show ((w1.alloc o1).alloc o2).heap[w1.heap.size]? = _
    rw [Below.heap_alloc _ _ _ (by simp)]; exact World.alloc_heap_new w1 _
  · have := World.alloc_heap_new (w1.alloc o1) o2
    rwa [World.size_alloc] at this
/-- The places of one's own, as many as they are. -/
def ow (n S P : Nat) (w : World) (L : List Int) : Prop := w.ownsRow S 3 1 (.slice (some ⟨P, 0, none⟩) n n) n (L.map vi)
theorem ow_own {β : Type} (n S P : Nat) (g : β → List Int) : Own (fun s W => ow n S P W (g s)) := by
  intro s W W' row hs hg hr
  refine World.ownsRow.kept hs hg (.inr fun e => ?_)
  rcases hs.2 with ⟨h, _⟩ | ⟨g', cap, cur, h, _, hgb, _⟩
  · cases h
  · cases h
    obtain ⟨o, ho, hc⟩ := hr P (by rw [← e]; rfl)
    rw [hgb] at ho; cases ho; cases hc
theorem ow_set {n S P : Nat} {w : World} {L : List Int} (h : ow n S P w L) (j : Nat) (x : Int) : ow n S P (w.setCell ⟨P, j, none⟩ (.int .i64 x)) (L.set j x) := by
  have := (World.ownsRow.stored h j (vi x)).1
  unfold ow
  rw [List.map_set]; exact this
theorem ow_cell {n S P : Nat} {w : World} {L : List Int} (h : ow n S P w L) (hl : L.length = n) {j : Nat} (hj : j < n) : ∃ x, w.cell? ⟨P, j, none⟩ = some (.int .i64 x) := by
  refine ⟨L[j]'(by omega), ?_⟩
  rw [World.ownsRow.cellAt h j (by omega), List.getElem?_map, List.getElem?_eq_getElem (by omega)]; rfl
theorem ow_made {n S P : Nat} {w : World} (hS : S ≤ P) (hn : n ≤ 1600) (h : w.heap[P]? = some (.cells (madeCells #[.int .i64 0] n) 3)) : ow n S P w (List.replicate n 0) := by
  refine ⟨by simp, .inr ⟨P, n, _, rfl, hS, h, Nat.le_refl _, by unfold maxLen; omega, by rw [size_madeCells]; omega, ?_⟩⟩
  rw [toList_madeCells_one]; simp [vi]

/-- Three stores into the result's box, and the loop's own block closed. -/
theorem tail3 {W' : World} {R D : Nat} {x y z x' y' z' : Value} {t : TypeId} (hR : W'.heap[R]? = some (.cells #[x, y, z] t)) (hK : W'.heap[D]? = some (.deferred (some []))) (V : World) (hV : V = ((W'.setCell ⟨R, 0, none⟩ x').setCell ⟨R, 1, none⟩ y').setCell ⟨R, 2, none⟩ z') :
    V.heap[D]? = some (.deferred (some [])) ∧ (V.putObj D (.deferred none)).cell? ⟨R, 0, none⟩ = some x' ∧ (V.putObj D (.deferred none)).cell? ⟨R, 1, none⟩ = some y' ∧ (V.putObj D (.deferred none)).cell? ⟨R, 2, none⟩ = some z' ∧ W'.grownBy V (some R) := by
  have hne : D ≠ R := fun e => by rw [e, hR] at hK; cases hK
  have hD : V.heap[D]? = some (.deferred (some [])) := by
    rw [hV, Below.heap_setCell _ _ _ _ hne, Below.heap_setCell _ _ _ _ hne, Below.heap_setCell _ _ _ _ hne]; exact hK
  have hb : But W'.heap.size R W' V := by rw [hV]; exact ((But.set _ _ _ _ _).trans (But.set _ _ _ _ _)).trans (But.set _ _ _ _ _)
  have hc : ∀ o, (V.putObj D (.deferred none)).cell? ⟨R, o, none⟩ = V.cell? ⟨R, o, none⟩ := fun o => by
    simp only [World.cell?]; rw [World.putObj_heap_other (by omega)]
  have hRV : V.heap[R]? = some (.cells #[x', y', z'] t) := by
    have h1 := heap_setCell_same W' R 0 _ t x' hR
    have h2 := heap_setCell_same _ R 1 _ t y' h1
    have h3 := heap_setCell_same _ R 2 _ t z' h2
    rw [hV, h3]; rfl
  refine ⟨hD, ?_, ?_, ?_, hb.grownBy⟩
  all_goals
    rw [hc]; simp [World.cell?, hRV]

set_option maxRecDepth 100000 in
set_option maxHeartbeats 4000000 in
theorem Turn_ok (W H : Nat) (a : Addr) (c : Nat) (l : List Int) (w : World) (hr : row vi w (some a) l) (hW : 1 ≤ W ∧ W ≤ 40) (hH : 1 ≤ H ∧ H ≤ 40) (hl : l.length = W * H) (hg : l.any bad = false) (hc : W * H ≤ c) :
    Calls Tryd.prog 9 #[.agg #[.int .i64 (W : Int), .int .i64 (H : Int), .slice (some a) (W * H) c]] w fun e w' => ∃ P : Nat, e = .returned (.tuple #[.agg #[.int .i64 (H : Int), .int .i64 (W : Int), .slice (some ⟨P, 0, none⟩) (W * H) (W * H)], .int .i64 0]) ∧ mine 3 vi w.heap.size w' (.slice (some ⟨P, 0, none⟩) (W * H) (W * H)) (tn W H l) ∧ Below w.heap.size w w' := by
  refine (callsIn_wide (n := 3)).1 ?_
  refine callsIn_of_wp_marks Tryd.func9 rfl trivial ?_ rfl
  simp only [Tryd.ntmps9, List.size_toArray, List.length_cons, List.length_nil, Nat.reduceAdd, Nat.reduceSub, Array.replicate_succ, Array.replicate_zero, List.push_toArray, List.append_toArray, List.nil_append, List.cons_append]
  have HR : Hid (row vi w (some a) l) := hr
  have HL : Hid (l.length = W * H) := hl
  have HG : Hid (l.any bad = false) := hg
  have HW : Hid (1 ≤ W ∧ W ≤ 40) := hW
  have HH : Hid (1 ≤ H ∧ H ≤ 40) := hH
  have HC : Hid (W * H ≤ c) := hc
  clear hr hl hg hW hH hc
  have hWH : W * H ≤ 1600 := by have := Nat.mul_le_mul HW.out.2 HH.out.2; omega
  gi_wp2_with fail
  obtain ⟨w0, hw0⟩ : ∃ w0, (w.alloc (.cells #[.int .i64 (W : Int), .int .i64 (H : Int), .slice (some a) (W * H) c] 24)).alloc (.cells #[.int .i64 0, .int .i64 0, .slice none 0 0] 24) = w0 := ⟨_, rfl⟩
  have hs0 : w0.heap.size = w.heap.size + 2 := by rw [← hw0]; simp
  have hB0 : Below w.heap.size w w0 := by rw [← hw0]; exact (alloc_below w _).alloc (by simp) _
  have hf0 : w0.heap[w.heap.size]? = some (.cells #[.int .i64 (W : Int), .int .i64 (H : Int), .slice (some a) (W * H) c] 24) := by
    rw [← hw0, Below.heap_alloc _ _ _ (by simp)]; exact World.alloc_heap_new w _
  have hr0 : w0.heap[w.heap.size + 1]? = some (.cells #[.int .i64 0, .int .i64 0, .slice none 0 0] 24) := by
    rw [← hw0]; have := World.alloc_heap_new (w.alloc (.cells #[.int .i64 (W : Int), .int .i64 (H : Int), .slice (some a) (W * H) c] 24)) (.cells #[.int .i64 0, .int .i64 0, .slice none 0 0] 24); rwa [World.size_alloc] at this
  rw [hw0]
  clear hw0
  refine ⟨trivial, ?_⟩
  refine (callsIn_wide.2 (Check_ok W H a c l _ (row_below HR.out hB0) HW.out HH.out HL.out HG.out)).mono ?_
  rintro e w1 ⟨rfl, hb⟩
  obtain ⟨S, hS⟩ : ∃ S, w1.heap.size = S := ⟨_, rfl⟩
  have hS1 : w.heap.size + 2 ≤ S := by have := hb.size; omega
  have hB1 : Below w.heap.size w w1 := hB0.trans (hb.mono (by omega))
  have hf1 : w1.heap[w.heap.size]? = some (.cells #[.int .i64 (W : Int), .int .i64 (H : Int), .slice (some a) (W * H) c] 24) := (hb.block _ (by omega)).trans hf0
  have hr1 : w1.heap[w.heap.size + 1]? = some (.cells #[.int .i64 0, .int .i64 0, .slice none 0 0] 24) := (hb.block _ (by omega)).trans hr0
  have cf : w1.cell? ⟨w.heap.size, 0, none⟩ = some (.int .i64 (W : Int)) ∧ w1.cell? ⟨w.heap.size, 1, none⟩ = some (.int .i64 (H : Int)) ∧ w1.cell? ⟨w.heap.size, 2, none⟩ = some (.slice (some a) (W * H) c) := by
    simp [World.cell?, hf1]
  have HF1 : Hid (w1.heap[w.heap.size]? = some (.cells #[.int .i64 (W : Int), .int .i64 (H : Int), .slice (some a) (W * H) c] 24)) := hf1
  have HR1 : Hid (w1.heap[w.heap.size + 1]? = some (.cells #[.int .i64 0, .int .i64 0, .slice none 0 0] 24)) := hr1
  obtain ⟨cf0, cf1, cf2⟩ := cf
  have hsz : w.heap.size < w1.heap.size := by omega
  have hmk := fun w' : World => run_make_row' (P := Tryd.prog) 22 3 (.int .i64 0) 8 Tryd.underlying22 ki.hi rfl .i64 .i64 (W * H) (by omega) (by omega) w'
  rw [Int.natCast_mul] at hmk
  clear hf0 hr0 hf1 hr1 hb
  gi_wp2_with fail
  refine cut_in (fun a' w' => ∃ T P : Nat, (T = S ∧ P = S + 1 ∨ T = S + 1 ∧ P = S) ∧ a' = { tmps := #[.agg #[.int .i64 (W : Int), .int .i64 (H : Int), .slice (some a) (W * H) c], .pointer (some ⟨w.heap.size, 0, none⟩), .pointer (some ⟨w.heap.size + 1, 0, none⟩), .int .i64 0, .int .i64 0, .pointer (some ⟨T, 0, none⟩), undef, undef, undef, undef, .agg #[.int .i64 (W : Int), .int .i64 (H : Int), .slice (some a) (W * H) c], .int .i64 0, .int .i64 0, .bool false, undef, undef, .pointer (some ⟨w.heap.size, 1, none⟩), .int .i64 (H : Int), .pointer (some ⟨w.heap.size, 0, none⟩), .int .i64 (W : Int), .pointer (some ⟨w.heap.size, 2, none⟩), .slice (some a) (W * H) c, .int .i64 ((W : Int) * (H : Int)), .slice (some ⟨P, 0, none⟩) (W * H) (W * H), .agg #[.int .i64 (H : Int), .int .i64 (W : Int), .slice (some ⟨P, 0, none⟩) (W * H) (W * H)], undef, undef, undef, undef, undef, undef, undef, undef, undef, undef, undef, undef, undef, undef, undef, undef, undef, undef, undef, undef, undef, undef, undef, undef, undef, undef, undef], defers := [] } ∧ w'.heap.size = S + 2 ∧ w'.heap[T]? = some (.cells #[.int .i64 (H : Int), .int .i64 (W : Int), .slice (some ⟨P, 0, none⟩) (W * H) (W * H)] 24) ∧ w'.heap[P]? = some (.cells (madeCells #[.int .i64 0] (W * H)) 3) ∧ Below S w1 w') ?first ?rest
  case first =>
    refine wpIn_wide.2 ?_
    go_region_held3 (fun w' => w'.cell? ⟨w.heap.size, 0, none⟩ = some (.int .i64 (W : Int)) ∧ w'.cell? ⟨w.heap.size, 1, none⟩ = some (.int .i64 (H : Int)) ∧ w'.cell? ⟨w.heap.size, 2, none⟩ = some (.slice (some a) (W * H) c)) (go_keep) (fail)
    · obtain ⟨n1, n2, n3, n4⟩ := new_two hS (.cells (madeCells #[.int .i64 0] (W * H)) 3) (.cells #[.int .i64 (H : Int), .int .i64 (W : Int), .slice (some ⟨S, 0, none⟩) (W * H) (W * H)] 24)
      exact ⟨S + 1, S, .inr ⟨rfl, rfl⟩, rfl, n1, n3, n2, n4⟩
    · obtain ⟨n1, n2, n3, n4⟩ := new_two hS (.cells #[.int .i64 (H : Int), .int .i64 (W : Int), .slice (some ⟨S + 1, 0, none⟩) (W * H) (W * H)] 24) (.cells (madeCells #[.int .i64 0] (W * H)) 3)
      exact ⟨S, S + 1, .inl ⟨rfl, rfl⟩, rfl, n1, n2, n3, n4⟩
  case rest =>
    rintro a' w2 ⟨T, P, hTP, rfl, hs2, hT2, hP2, hb2⟩
    have HF2 : Hid (w2.heap[w.heap.size]? = some (.cells #[.int .i64 (W : Int), .int .i64 (H : Int), .slice (some a) (W * H) c] 24)) := (hb2.block _ (by omega)).trans HF1.out
    have HR2 : Hid (w2.heap[w.heap.size + 1]? = some (.cells #[.int .i64 0, .int .i64 0, .slice none 0 0] 24)) := (hb2.block _ (by omega)).trans HR1.out
    have hcf : w2.cell? ⟨w.heap.size, 0, none⟩ = some (.int .i64 (W : Int)) ∧ w2.cell? ⟨w.heap.size, 1, none⟩ = some (.int .i64 (H : Int)) ∧ w2.cell? ⟨w.heap.size, 2, none⟩ = some (.slice (some a) (W * H) c) := by
      simp [World.cell?, HF2.out]
    obtain ⟨d0, d1, d2⟩ := hcf
    have HT2 : Hid _ := hT2
    have HP2 : Hid _ := hP2
    have hBw2 : Below w.heap.size w w2 := hB1.trans (hb2.mono (by omega))
    clear hT2 hP2 cf0 cf1 cf2 hsz hmk
    gi_wp2_with fail
    refine ⟨trivial, ?_⟩
    refine (rows_in Fence.wide 2 trivial rfl _ _ _ _ _ _).mono ?_
    rintro e w3 ⟨rfl, hw3⟩
    have HW3 : Hid (w3 = w2.alloc (.cells #[.int .i64 (W : Int), .int .i64 (H : Int), .slice (some a) (W * H) c] 24)) := hw3
    clear hw3
    gi_wp2_with fail
    have hw3 := HW3.out
    have hs3 : w3.heap.size = S + 3 := by rw [hw3]; simp [hs2]
    have hB23 : Below (S + 2) w2 w3 := by rw [hw3]; have := alloc_below w2 (.cells #[.int .i64 (W : Int), .int .i64 (H : Int), .slice (some a) (W * H) c] 24); rwa [hs2] at this
    have hg0 : w3.cell? ⟨S + 2, 0, none⟩ = some (.int .i64 (W : Int)) ∧ w3.cell? ⟨S + 2, 1, none⟩ = some (.int .i64 (H : Int)) ∧ w3.cell? ⟨S + 2, 2, none⟩ = some (.slice (some a) (W * H) c) := by
      have := box3 (w := w2) (w1 := w3) (a := .int .i64 (W : Int)) (b := .int .i64 (H : Int)) (c := .slice (some a) (W * H) c) (t := 24) (by rw [hw3]; exact Below.refl _ _)
      rwa [hs2] at this
    have HF3 : Hid (w3.heap[w.heap.size]? = some (.cells #[.int .i64 (W : Int), .int .i64 (H : Int), .slice (some a) (W * H) c] 24)) := (hB23.block _ (by omega)).trans HF2.out
    have HR3 : Hid (w3.heap[w.heap.size + 1]? = some (.cells #[.int .i64 0, .int .i64 0, .slice none 0 0] 24)) := (hB23.block _ (by omega)).trans HR2.out
    have HT3 : Hid (w3.heap[T]? = some (.cells #[.int .i64 (H : Int), .int .i64 (W : Int), .slice (some ⟨P, 0, none⟩) (W * H) (W * H)] 24)) := (hB23.block _ (by omega)).trans HT2.out
    have HP3 : Hid (w3.heap[P]? = some (.cells (madeCells #[.int .i64 0] (W * H)) 3)) := (hB23.block _ (by omega)).trans HP2.out
    have hBw3 : Below w.heap.size w w3 := hBw2.trans (hB23.mono (by omega))
    clear hw3 HW3 d0 d1 d2
    refine wpIn_rangeFunc_ownF rfl (by omega) (gf := 24) (lb := #[.pointer (some ⟨S + 2, 0, none⟩)]) rfl trivial (enters_of Tryd.func24 (by kernel_rfl) rfl)
      (rows_stops Fence.wide _ trivial rfl (by omega) (S + 2) W H c a HW.out HH.out HC.out w3 (by omega) hg0.1 hg0.2.1 hg0.2.2) kB_t (kB_b (by omega)) (Below.refl _ _) (fun _ => rfl)
      (fun pre W' => ow (W * H) S P W' (pl W H l (inn pre)) ∧ But (S + 3) P w3 W') (fun _ _ _ => False)
      (OwnFrom.and (Own.from (ow_own (W * H) S P (fun pre => pl W H l (inn pre))) _) (But.own (by omega) (by omega))) (fun _ _ _ _ _ hs _ _ => hs)
      ⟨by have := ow_made (n := W * H) (S := S) (P := P) (w := w3) (by omega) hWH HP3.out; rw [← pl_none W H l] at this; exact this, But.refl _ _ _⟩
      (fun x => { tmps := #[.agg #[.int .i64 (W : Int), .int .i64 (H : Int), .slice (some a) (W * H) c], .pointer (some ⟨w.heap.size, 0, none⟩), .pointer (some ⟨w.heap.size + 1, 0, none⟩), .int .i64 0, .int .i64 0, .pointer (some ⟨T, 0, none⟩), .int .i64 (x.1 : Int), .slice (some (a.add (x.1 * W))) W (c - x.1 * W), undef, undef, .agg #[.int .i64 (W : Int), .int .i64 (H : Int), .slice (some a) (W * H) c], .int .i64 0, .int .i64 0, .bool false, undef, undef, .pointer (some ⟨w.heap.size, 1, none⟩), .int .i64 (H : Int), .pointer (some ⟨w.heap.size, 0, none⟩), .int .i64 (W : Int), .pointer (some ⟨w.heap.size, 2, none⟩), .slice (some a) (W * H) c, .int .i64 ((W : Int) * (H : Int)), .slice (some ⟨P, 0, none⟩) (W * H) (W * H), .agg #[.int .i64 (H : Int), .int .i64 (W : Int), .slice (some ⟨P, 0, none⟩) (W * H) (W * H)], .agg #[.int .i64 (W : Int), .int .i64 (H : Int), .slice (some a) (W * H) c], .func (.func 24) #[] #[.pointer (some ⟨S + 2, 0, none⟩)], .int .i64 (x.1 : Int), .slice (some (a.add (x.1 * W))) W (c - x.1 * W), undef, undef, undef, undef, undef, undef, undef, undef, undef, undef, undef, undef, undef, undef, undef, undef, undef, undef, undef, undef, undef, undef, undef], defers := [] }) ?assign ?body ?done ?stop
    case assign =>
      intro l x W K hK
      unfold ya
      gi_wp2
      exact hK
    case body =>
      rintro lp pre x W1 ⟨how, hbut⟩ hlt
      have hx := x.2
      gi_wp2
      gi_loopw [31] (fun i wr => ∃ k : Nat, k ≤ W ∧ i = .int .i64 (k : Int) ∧ ow (W * H) S P wr (pl W H l (fun y' x' => inn pre y' x' || (decide (y' = x.1) && decide (x' < k)))) ∧ KeepsOthers W1 wr ∧ But (S + 3) P W1 wr)
        (fun i _ => W - (intOf i).toNat)
      case atStart => exact ⟨0, Nat.zero_le _, rfl, by simpa using how, KeepsOthers.refl _, But.refl _ _ _⟩
      case round =>
        obtain ⟨k, hk, rfl, hok, hko, hbk⟩ := hrel
        have hb3 : But (S + 3) P w3 wr := hbut.trans hbk
        by_cases hkW : k < W
        · obtain ⟨hkl, hkr, hrk⟩ := rl_at HL.out hx hkW
          obtain ⟨ad, had, hcl⟩ := row_at (row_below HR.out (hBw3.trans (hb3.below (by omega) (by omega)))) hkl
          cases had
          obtain ⟨X, hX⟩ : ∃ X, l[x.1 * W + k] = X := ⟨_, rfl⟩
          rw [hX] at hcl
          have HX : Hid (l.getD (x.1 * W + k) 0 = X) := by unfold Hid; rw [List.getD_eq_getElem?_getD, List.getElem?_eq_getElem hkl]; exact hX
          have hca : wr.cell? ((a.add (x.1 * W)).add k) = some (.int .i64 X) := by rw [add_add]; exact hcl
          have hbT : wr.heap[T]? = _ := (hb3.block T (by omega) (by omega)).trans HT3.out
          have hbF : wr.heap[w.heap.size]? = _ := (hb3.block _ (by omega) (by omega)).trans HF3.out
          have t0 : wr.cell? ⟨T, 0, none⟩ = some (.int .i64 (H : Int)) ∧ wr.cell? ⟨T, 2, none⟩ = some (.slice (some ⟨P, 0, none⟩) (W * H) (W * H)) := by simp [World.cell?, hbT]
          have t1 : wr.cell? ⟨w.heap.size, 1, none⟩ = some (.int .i64 (H : Int)) := by simp [World.cell?, hbF]
          obtain ⟨t0, t2⟩ := t0
          obtain ⟨D, hD⟩ : ∃ D : Nat, k * H = D := ⟨_, rfl⟩
          obtain ⟨J, hJ⟩ : ∃ J : Nat, D + (H - 1 - x.1) = J := ⟨_, rfl⟩
          have hJl : J < W * H := by rw [← hJ, ← hD]; exact ix_lt hx hkW
          have hDl : D ≤ W * H := by rw [← hD]; exact Nat.mul_le_mul_right _ hk
          have eD : IntKind.i64.wrap ((k : Int) * (H : Int)) = (D : Int) := by rw [← Int.natCast_mul, hD]; exact wrp (by omega) (by omega)
          obtain ⟨old, hold⟩ := ow_cell hok (pl_len _ _ _ _) hJl
          have hfr : wr.frozen? ⟨P, J, none⟩ = false := World.ownsRow.frozenAt hok J
          have hW40 := HW.out.2
          have hH40 := HH.out.2
          have f1 : ((D : Int) + H - 1 - x.1) = (J : Int) := by omega
          have f2 : IntKind.i64.wrap (J : Int) = J := wrp (by omega) (by omega)
          have HO : Hid (ow (W * H) S P (wr.setCell ⟨P, J, none⟩ (.int .i64 X)) (pl W H l (fun y' x' => inn pre y' x' || (decide (y' = x.1) && decide (x' < k + 1))))) := by
            have := ow_set hok J X
            rw [← hJ, ← hD, ← HX.out, pl_set hx hkW] at this
            rw [hD, hJ, HX.out] at this
            unfold Hid
            refine cast (congrArg _ (pl_congr _ _ _ _ _ (fun y' x' _ _ => ?_) HH.out.1)) this
            simp only [Bool.or_assoc]; congr 1
            rw [← Bool.and_or_distrib_left]; congr 1
            rw [← Bool.decide_or]; congr 1; apply propext; omega
          have HBB : Hid (But (S + 3) P W1 (wr.setCell ⟨P, J, none⟩ (.int .i64 X))) := hbk.trans (But.set _ _ _ _ _)
          have HKK : Hid (KeepsOthers W1 (wr.setCell ⟨P, J, none⟩ (.int .i64 X))) := hko.trans (KeepsOthers.setCell _ _ _)
          clear hX hcl hkl hkr hrk hbT hbF hD hJ hok
          gi_wp2
          go_roundw
          case rel => exact ⟨k + 1, by omega, by simp, HO.out, HKK.out, HBB.out⟩
          case measure => simp [intOf]; omega
        · obtain rfl : k = W := by omega
          have HO : Hid (ow (k * H) S P wr (pl k H l (inn (pre ++ [x])))) := by
            unfold Hid
            refine cast (congrArg _ (pl_congr _ _ _ _ _ (fun y' x' _ h => ?_) HH.out.1)) hok
            rw [inn_snoc]; simp [h]
          gi_wp2
          exact ⟨hko, hbk.kB (by omega) (by omega), HO.out, hb3⟩
    case done =>
      rintro D ys W' hD rfl ⟨how, hbut⟩ hK
      rw [pl_all W H l _ (fun y x h => inn_upto (Nat.le_refl _) h) HH.out.1] at how
      have hbT : W'.heap[T]? = _ := (hbut.block T (by omega) (by omega)).trans HT3.out
      have hbR : W'.heap[w.heap.size + 1]? = _ := (hbut.block _ (by omega) (by omega)).trans HR3.out
      have t0 : W'.cell? ⟨T, 0, none⟩ = some (.int .i64 (H : Int)) ∧ W'.cell? ⟨T, 1, none⟩ = some (.int .i64 (W : Int)) ∧ W'.cell? ⟨T, 2, none⟩ = some (.slice (some ⟨P, 0, none⟩) (W * H) (W * H)) := by simp [World.cell?, hbT]
      have r0 : W'.cell? ⟨w.heap.size + 1, 0, none⟩ = some (.int .i64 0) ∧ W'.cell? ⟨w.heap.size + 1, 1, none⟩ = some (.int .i64 0) ∧ W'.cell? ⟨w.heap.size + 1, 2, none⟩ = some (.slice none 0 0) ∧ W'.frozen? ⟨w.heap.size + 1, 0, none⟩ = false ∧ W'.frozen? ⟨w.heap.size + 1, 1, none⟩ = false ∧ W'.frozen? ⟨w.heap.size + 1, 2, none⟩ = false := by simp [World.cell?, World.frozen?, hbR]
      obtain ⟨t0, t1, t2⟩ := t0
      obtain ⟨r0, r1, r2, r3, r4, r5⟩ := r0
      have HBR : Hid (W'.heap[w.heap.size + 1]? = some (.cells #[.int .i64 0, .int .i64 0, .slice none 0 0] 24)) := hbR
      clear hbT hbR
      gi_wp2
      obtain ⟨V, hV⟩ : ∃ V, ((W'.setCell ⟨w.heap.size + 1, 0, none⟩ (.int .i64 (H : Int))).setCell ⟨w.heap.size + 1, 1, none⟩ (.int .i64 (W : Int))).setCell ⟨w.heap.size + 1, 2, none⟩ (.slice (some ⟨P, 0, none⟩) (W * H) (W * H)) = V := ⟨_, rfl⟩
      rw [hV]
      obtain ⟨k1, k2, k3, k4, k5⟩ := tail3 HBR.out hK V hV.symm
      refine ⟨by simp, .inl ⟨_, _, rfl, run_takeDeferred k1, ?_⟩⟩
      refine ⟨.tuple #[.agg #[.int .i64 (H : Int), .int .i64 (W : Int), .slice (some ⟨P, 0, none⟩) (W * H) (W * H)], .int .i64 0], ?_, P, rfl, ?_, ?_⟩
      · rw [results_cell_tmp rfl]
        simp [go_sem, k2, k3, k4]
      · have how2 : mine 3 vi w.heap.size W' (.slice (some ⟨P, 0, none⟩) (W * H) (W * H)) (tn W H l) := by
          have := mine_mono (B' := w.heap.size) (show mine 3 vi S W' (.slice (some ⟨P, 0, none⟩) (W * H) (W * H)) (tn W H l) by unfold mine; rw [tn_len]; exact how) (by omega)
          exact this
        have how3 := World.ownsRow.kept how2 k5 (.inr (by simp [Value.ownBlock]; omega))
        exact ownsRow_putObj how3 _ k1 rfl
      · have hb5 : Below w.heap.size W' V := ⟨k5.os, k5.tape, k5.output, k5.size, fun k hk => k5.block k (by have := hbut.size; omega) (by simp; omega)⟩
        exact ((hBw3.trans (hbut.below (by omega) (by omega))).trans hb5).trans (belowK_b (w := w) (Nat.le_refl _) V D _ _ (by omega) k1 rfl rfl)
    case stop =>
      rintro D c pre W _ _ h _
      exact h.elim
end Go.Proofs.YtccapbojhgemmaaDoor
