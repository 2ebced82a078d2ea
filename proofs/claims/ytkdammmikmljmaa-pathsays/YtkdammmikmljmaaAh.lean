/- What ahead returns. -/
import Derived.Test.YtkdammmikmljmaaWy
import Derived.Test.YtkdammmikmljmaaPa
namespace Go.Proofs.Ytkdammmikmljmaa
open Go.RowKit
set_option linter.unusedVariables false
set_option linter.unusedSimpArgs false

/-- What ahead answers: the cell, and whether there is one. -/
def aho (W H : Nat) (l far : List Int) (c d : Cel) (b : Bool) : Prop := (b = true ∧ ahd W H l far c d) ∨ (b = false ∧ nah W H l far c)
/-- Two stores into a box of two. -/
theorem set2 {W' : World} {R : Nat} {x y x' y' : Value} {t : TypeId} (hR : W'.heap[R]? = some (.cells #[x, y] t)) (V : World) (hV : V = (W'.setCell ⟨R, 0, none⟩ x').setCell ⟨R, 1, none⟩ y') :
    V.cell? ⟨R, 0, none⟩ = some x' ∧ V.cell? ⟨R, 1, none⟩ = some y' ∧ ∀ B, B ≤ R → Below B W' V := by
  have hRV : V.heap[R]? = some (.cells #[x', y'] t) := by
    have h1 := heap_setCell_same W' R 0 _ t x' hR
    have h2 := heap_setCell_same _ R 1 _ t y' h1
    rw [hV, h2]; rfl
  refine ⟨by simp [World.cell?, hRV], by simp [World.cell?, hRV], fun B hB => ?_⟩
  rw [hV]
  exact ((Below.refl B W').setCell (p := ⟨R, 0, none⟩) hB _).setCell (p := ⟨R, 1, none⟩) hB _
theorem free2 {W' : World} {R : Nat} {x y : Value} {t : TypeId} (hR : W'.heap[R]? = some (.cells #[x, y] t)) : W'.cell? ⟨R, 0, none⟩ = some x ∧ W'.cell? ⟨R, 1, none⟩ = some y ∧ W'.frozen? ⟨R, 0, none⟩ = false ∧ W'.frozen? ⟨R, 1, none⟩ = false := by simp [World.cell?, World.frozen?, hR]
theorem box422 {w w0 V : World} {a b c d e f g h : Value} {t t2 t3 : TypeId} {F : Nat} (hF : w.heap.size = F) (hw : ((w.alloc (.cells #[a, b, c, d] t)).alloc (.cells #[e, f] t2)).alloc (.cells #[g, h] t3) = w0) (hb : Below w0.heap.size w0 V) :
    (V.cell? ⟨F, 0, none⟩ = some a ∧ V.cell? ⟨F, 1, none⟩ = some b ∧ V.cell? ⟨F, 2, none⟩ = some c ∧ V.cell? ⟨F, 3, none⟩ = some d ∧ V.cell? ⟨F + 1, 0, none⟩ = some e ∧ V.cell? ⟨F + 1, 1, none⟩ = some f) ∧ V.heap[F + 2]? = some (.cells #[g, h] t3) ∧ F + 3 ≤ V.heap.size := by
  have hs : w0.heap.size = F + 3 := by rw [← hw, ← hF]; simp
  refine ⟨?_, ?_, by have := hb.size; omega⟩
  · subst hw hF
    refine ⟨?_, ?_, ?_, ?_, ?_, ?_⟩
    all_goals
      rw [hb.cell (by simp <;> omega)]
      simp [go_sem]
  · rw [hb.block (F + 2) (by omega), ← hw]
    have := World.alloc_heap_new ((w.alloc (.cells #[a, b, c, d] t)).alloc (.cells #[e, f] t2)) (.cells #[g, h] t3)
    rw [World.size_alloc, World.size_alloc, hF] at this
    exact this
set_option maxRecDepth 20000 in
set_option maxHeartbeats 1000000 in
theorem ahead_any (W H X Y : Nat) (a : Addr) (cp g : Nat) (l far : List Int) (w : World) (hr : row vi w (some a) l) (hf : row vi w (some ⟨g, 0, none⟩) far) (hW : 1 ≤ W ∧ W ≤ 40) (hH : 1 ≤ H ∧ H ≤ 40) (hl : l.length = W * H) (hg : l.any bad = false) (hfl : far.length = W * H)
    (hbd : ∀ i, i < W * H → -1 ≤ pa far i ∧ pa far i ≤ 4800) (hX : X < W) (hY : Y < H) (hrk : pa l (Y * W + X) ≠ 1) :
    Calls Try.prog 17 #[.agg #[.int .i64 (W : Int), .int .i64 (H : Int), .slice (some a) (W * H) cp, .slice (some ⟨g, 0, none⟩) (W * H) (W * H)], .agg #[.int .i64 (X : Int), .int .i64 (Y : Int)]] w fun e w' => (∃ d b, e = .returned (.tuple #[.agg #[.int .i64 d.x, .int .i64 d.y], .bool b]) ∧ aho W H l far ⟨X, Y⟩ d b) ∧ Below w.heap.size w w' := by
  obtain ⟨I, hI⟩ : ∃ I, Y * W + X = I := ⟨_, rfl⟩
  have hIl : I < W * H := by rw [← hI]; exact pl_lt hX hY
  have hN : W * H ≤ 1600 := by have := Nat.mul_le_mul hW.2 hH.2; omega
  rw [hI] at hrk
  obtain ⟨Z, hZ⟩ : ∃ Z, pa l I = Z := ⟨_, rfl⟩
  obtain ⟨K, hK⟩ : ∃ K, kc Z = K := ⟨_, rfl⟩
  obtain ⟨D, hD⟩ : ∃ D, pa far I = D := ⟨_, rfl⟩
  have hkb := kc_bd Z
  rw [hK] at hkb
  have hDb := hbd I hIl
  rw [hD] at hDb
  have hzb := sort_bd hg (j := I) (by rw [hl]; exact hIl)
  rw [hZ] at hzb hrk
  have hck := co_kc hzb.1 hzb.2 hrk
  have HC : Hid (co Z = K) := hck.1.trans hK
  have HE : Hid (ce Z = 0) := hck.2
  obtain ⟨F, hF⟩ : ∃ F, w.heap.size = F := ⟨_, rfl⟩
  obtain ⟨w0, hw0⟩ : ∃ w0, ((w.alloc (.cells #[.int .i64 (W : Int), .int .i64 (H : Int), .slice (some a) (W * H) cp, .slice (some ⟨g, 0, none⟩) (W * H) (W * H)] 43)).alloc (.cells #[.int .i64 (X : Int), .int .i64 (Y : Int)] 26)).alloc (.cells #[.int .i64 0, .int .i64 0] 26) = w0 := ⟨_, rfl⟩
  have hB0 : Below w.heap.size w w0 := by rw [← hw0]; exact ((alloc_below w _).alloc (by simp) _).alloc (by simp; omega) _
  have HBX : Hid (∀ V, Below w0.heap.size w0 V → (V.cell? ⟨F, 0, none⟩ = some (.int .i64 (W : Int)) ∧ V.cell? ⟨F, 1, none⟩ = some (.int .i64 (H : Int)) ∧ V.cell? ⟨F, 2, none⟩ = some (.slice (some a) (W * H) cp) ∧ V.cell? ⟨F, 3, none⟩ = some (.slice (some ⟨g, 0, none⟩) (W * H) (W * H)) ∧ V.cell? ⟨F + 1, 0, none⟩ = some (.int .i64 (X : Int)) ∧ V.cell? ⟨F + 1, 1, none⟩ = some (.int .i64 (Y : Int))) ∧ V.heap[F + 1 + 1]? = some (.cells #[.int .i64 0, .int .i64 0] 26) ∧ F + 3 ≤ V.heap.size) := fun V hV => box422 hF hw0 hV
  obtain ⟨⟨z0, z1, z2, z3, z4, z5⟩, -, -⟩ := HBX.out w0 (Below.refl _ _)
  have z6 : w0.cell? (a.add I) = some (.int .i64 Z) := by
    obtain ⟨b, hb, hc⟩ := row_at (row_below hr hB0) (j := I) (by rw [hl]; exact hIl)
    cases hb
    rw [← pa_get l, hZ] at hc; exact hc
  have HFR : Hid (∀ V, Below w0.heap.size w0 V → ∀ i, i < W * H → V.cell? ⟨g, i, none⟩ = some (.int .i64 (pa far i))) := by
    intro V hV i hi
    obtain ⟨b, hb, hc⟩ := row_at (row_below (row_below hf hB0) hV) (j := i) (by rw [hfl]; exact hi)
    cases hb
    rw [← pa_get far, add_zero_at] at hc; exact hc
  have HB0 : Hid (Below w.heap.size w w0) := hB0
  have HIX : Hid (Y * W + X = I) := hI
  have HKD : Hid (kc (pa l I) = K ∧ pa far I = D) := ⟨by rw [hZ]; exact hK, hD⟩
  have HBD : Hid (∀ i, i < W * H → -1 ≤ pa far i ∧ pa far i ≤ 4800) := hbd
  have i1 : (I : Int) < W * H := by omega
  have i2 : (0 : Int) ≤ I := by omega
  have HF : Hid (w.heap.size = F) := hF
  have hI6 : I ≤ 1000000 := by omega
  have hX6 : X ≤ 1000000 := by omega
  have hY6 : Y ≤ 1000000 := by omega
  clear hB0 hr hf hbd hg hl hfl hI hK hD hZ hzb hrk hck hW hH
  go_enter Try.func17, Try.ntmps17
  go_wp2_with fail
  clear hw0
  go_region_held3 (fun V => Below w0.heap.size w0 V ∧ V.cell? ⟨F, 0, none⟩ = some (.int .i64 (W : Int)) ∧ V.cell? ⟨F, 1, none⟩ = some (.int .i64 (H : Int)) ∧ V.cell? ⟨F, 2, none⟩ = some (.slice (some a) (W * H) cp) ∧ V.cell? ⟨F, 3, none⟩ = some (.slice (some ⟨g, 0, none⟩) (W * H) (W * H)) ∧ V.cell? ⟨F + 1, 0, none⟩ = some (.int .i64 (X : Int)) ∧ V.cell? ⟨F + 1, 1, none⟩ = some (.int .i64 (Y : Int)) ∧ V.cell? (a.add I) = some (.int .i64 Z)) (first | assumption | exact k7_drew (by assumption) | exact k7_drewN (by assumption) _ | exact k7_call (by assumption) (by assumption) | exact ⟨Below.drew (Below.refl _ _), z0, z1, z2, z3, z4, z5, z6⟩ | exact ⟨Below.refl _ _, z0, z1, z2, z3, z4, z5, z6⟩) (first
    | (go_at_call 38; refine (rindex_any W X Y I _ _ _ _ HIX hI6).mono ?_; rintro e w1 ⟨rfl, hb1⟩)
    | (go_at_call 14; refine (Cost_at Z K 0 _ HC HE).mono ?_; rintro e w' ⟨rfl, hw⟩; subst w'))
  have hB1 : Below w0.heap.size w0 w1 := (Below.refl _ _).drew.trans hb1
  obtain ⟨⟨y0, y1, y2, y3, y4, y5⟩, -, -⟩ := HBX.out w1 hB1
  have HB1 : Hid (Below w0.heap.size w0 w1) := hB1
  clear hB1 hb1 z0 z1 z2 z3 z4 z5 z6
  go_wp2_with fail
  refine (pbeside_any X Y w1 hX6 hY6).mono ?_
  rintro e w2 ⟨rfl, hb2⟩
  have HB2 : Hid (Below w0.heap.size w0 w2) := HB1.out.trans (hb2.mono HB1.out.size)
  clear hb2 y0 y1 y2 y3 y4 y5 HB1
  go_wp2_with fail
  go_loopw [27] (fun i wr => ∃ (k : Nat), i = .int .i64 k ∧ k ≤ 4 ∧ Hid (Below w0.heap.size w0 wr ∧ ∀ j, j < k → hit W H l far ⟨X, Y⟩ j = false)) (fun i _ => 4 - (intOf i).toNat)
  case atStart => exact ⟨0, rfl, by omega, HB2.out, fun j hj => by omega⟩
  case round =>
    obtain ⟨k, rfl, hk, HS⟩ := hrel
    by_cases hlt : k < 4
    · have hix := fun V => bes_at (X : Int) (Y : Int) k hlt V
      obtain ⟨x, hx⟩ : ∃ x, bX (X : Int) k = x := ⟨_, rfl⟩
      obtain ⟨y, hy⟩ : ∃ y, bY (Y : Int) k = y := ⟨_, rfl⟩
      simp only [hx, hy] at hix
      have HX : Hid (bc ⟨X, Y⟩ k = ⟨x, y⟩) := by unfold Hid bc; rw [hx, hy]
      clear hx hy
      have hki : (k : Int) < 4 := by omega
      obtain ⟨w4, hw4⟩ : ∃ w4, wr.alloc (.cells #[.int .i64 x, .int .i64 y] 26) = w4 := ⟨_, rfl⟩
      obtain ⟨G, hG⟩ : ∃ G, wr.heap.size = G := ⟨_, rfl⟩
      have hB4 : Below w0.heap.size w0 w4 := HS.out.1.trans (by rw [← hw4]; exact (alloc_below _ _).mono HS.out.1.size)
      have HB4 : Hid (Below w0.heap.size w0 w4) := hB4
      have g0 : w4.cell? ⟨G, 0, none⟩ = some (.int .i64 x) ∧ w4.cell? ⟨G, 1, none⟩ = some (.int .i64 y) := by rw [← hw4, ← hG]; constructor <;> simp [go_sem]
      obtain ⟨g0, g1⟩ := g0
      obtain ⟨⟨t0, t1, t2, t3, t4, t5⟩, -, -⟩ := HBX.out w4 hB4
      clear hB4
      cases hin : inb W H x y with
      | false =>
        have HIN : Hid (inb W H x y = false) := hin
        clear hin
        go_wp2_with fail
        refine wp_region_noPanic ?_
        refine wp_region_held_drew (S := (fun V => Below w4.heap.size w4 V ∧ V.cell? ⟨F, 0, none⟩ = some (.int .i64 (W : Int)) ∧ V.cell? ⟨F, 1, none⟩ = some (.int .i64 (H : Int)) ∧ V.cell? ⟨F, 2, none⟩ = some (.slice (some a) (W * H) cp) ∧ V.cell? ⟨F, 3, none⟩ = some (.slice (some ⟨g, 0, none⟩) (W * H) (W * H)) ∧ V.cell? ⟨F + 1, 0, none⟩ = some (.int .i64 (X : Int)) ∧ V.cell? ⟨F + 1, 1, none⟩ = some (.int .i64 (Y : Int)) ∧ V.cell? ⟨G, 0, none⟩ = some (.int .i64 x) ∧ V.cell? ⟨G, 1, none⟩ = some (.int .i64 y))) (by kernel_rfl) ⟨Below.drew (Below.refl _ _), t0, t1, t2, t3, t4, t5, g0, g1⟩ (fun hHeld => ?_)
        refine wpAnyH_take (i := 0) (oi := ?o0) (v := .agg #[.int .i64 (W : Int), .int .i64 (H : Int), .slice (some a) (W * H) cp, .slice (some ⟨g, 0, none⟩) (W * H) (W * H)]) ?hi0 (by kernel_rfl) (by kernel_rfl) (by kernel_rfl) (fun _ _ _ h => h) ?hy0 hHeld ?rest0
        case hi0 => simp only [List.getElem?_toArray, List.getElem?_cons_zero, List.getElem?_cons_succ]; first | done | rfl
        case hy0 => exact Or.inl ⟨by rfl, by intro V hV; obtain ⟨s0, s1, s2, s3, s4, s5, s6, s7, s8⟩ := hV; go_simp⟩
        try simp only [Act.put, List.setIfInBounds_toArray, List.set_cons_zero, List.set_cons_succ]
        refine wpAnyH_take (i := 1) (oi := ?o1) (v := .agg #[.int .i64 x, .int .i64 y]) ?hi1 (by kernel_rfl) (by kernel_rfl) (by kernel_rfl) (fun _ _ _ h => h) ?hy1 hHeld ?rest1
        case hi1 => simp only [List.getElem?_toArray, List.getElem?_cons_zero, List.getElem?_cons_succ]; first | done | rfl
        case hy1 => exact Or.inl ⟨by rfl, by intro V hV; obtain ⟨s0, s1, s2, s3, s4, s5, s6, s7, s8⟩ := hV; go_simp⟩
        try simp only [Act.put, List.setIfInBounds_toArray, List.set_cons_zero, List.set_cons_succ]
        refine wpAnyH_ready (rs := [2]) (by kernel_rfl) (by simp) ?_
        refine AllReadyH.cons (o := ?o2) ?hi2 (fun K hK => ?step) AllReadyH.nil
        case hi2 => simp only [List.getElem?_toArray, List.getElem?_cons_zero, List.getElem?_cons_succ]; first | done | rfl
        go_simp
        go_at_call 40
        refine (holds_at (W : Int) (H : Int) x y _ _ false _ HIN).mono ?_
        rintro e w5 ⟨rfl, hb5⟩
        go_wp2_with fail
        refine hK.out _ _ (k8_call hHeld hb5) (fun hHeld5 => ?_)
        clear hK K
        try simp only [Act.put, List.setIfInBounds_toArray, List.set_cons_zero, List.set_cons_succ]
        refine wpAnyH_take (i := 3) (oi := ?o3) (v := .bool false) ?hi3 (by kernel_rfl) (by kernel_rfl) (by kernel_rfl) (fun _ _ _ h => h) ?hy3 hHeld5 ?rest3
        case hi3 => simp only [List.getElem?_toArray, List.getElem?_cons_zero, List.getElem?_cons_succ]; first | done | rfl
        case hy3 => exact Or.inl ⟨by rfl, by intro V hV; obtain ⟨s0, s1, s2, s3, s4, s5, s6, s7, s8⟩ := hV; go_simp⟩
        try simp only [Act.put, List.setIfInBounds_toArray, List.set_cons_zero, List.set_cons_succ]
        refine wpAnyH_take (i := 4) (oi := ?o4) (v := undef) ?hi4 (by kernel_rfl) (by kernel_rfl) (by kernel_rfl) (fun _ _ _ h => h) ?hy4 hHeld5 ?rest4
        case hi4 => simp only [List.getElem?_toArray, List.getElem?_cons_zero, List.getElem?_cons_succ]; first | done | rfl
        case hy4 => exact Or.inr ⟨by rfl, rfl⟩
        try simp only [Act.put, List.setIfInBounds_toArray, List.set_cons_zero, List.set_cons_succ]
        refine wpAnyH_take (i := 5) (oi := ?o5) (v := undef) ?hi5 (by kernel_rfl) (by kernel_rfl) (by kernel_rfl) (fun _ _ _ h => h) ?hy5 hHeld5 ?rest5
        case hi5 => simp only [List.getElem?_toArray, List.getElem?_cons_zero, List.getElem?_cons_succ]; first | done | rfl
        case hy5 => exact Or.inr ⟨by rfl, rfl⟩
        try simp only [Act.put, List.setIfInBounds_toArray, List.set_cons_zero, List.set_cons_succ]
        refine wpAnyH_take (i := 6) (oi := ?o6) (v := undef) ?hi6 (by kernel_rfl) (by kernel_rfl) (by kernel_rfl) (fun _ _ _ h => h) ?hy6 hHeld5 ?rest6
        case hi6 => simp only [List.getElem?_toArray, List.getElem?_cons_zero, List.getElem?_cons_succ]; first | done | rfl
        case hy6 => exact Or.inr ⟨by rfl, rfl⟩
        try simp only [Act.put, List.setIfInBounds_toArray, List.set_cons_zero, List.set_cons_succ]
        refine wpAnyH_take (i := 7) (oi := ?o7) (v := undef) ?hi7 (by kernel_rfl) (by kernel_rfl) (by kernel_rfl) (fun _ _ _ h => h) ?hy7 hHeld5 ?rest7
        case hi7 => simp only [List.getElem?_toArray, List.getElem?_cons_zero, List.getElem?_cons_succ]; first | done | rfl
        case hy7 => exact Or.inr ⟨by rfl, rfl⟩
        try simp only [Act.put, List.setIfInBounds_toArray, List.set_cons_zero, List.set_cons_succ]
        refine wpAnyH_take (i := 8) (oi := ?o8) (v := undef) ?hi8 (by kernel_rfl) (by kernel_rfl) (by kernel_rfl) (fun _ _ _ h => h) ?hy8 hHeld5 ?rest8
        case hi8 => simp only [List.getElem?_toArray, List.getElem?_cons_zero, List.getElem?_cons_succ]; first | done | rfl
        case hy8 => exact Or.inr ⟨by rfl, rfl⟩
        try simp only [Act.put, List.setIfInBounds_toArray, List.set_cons_zero, List.set_cons_succ]
        refine wpAnyH_take (i := 9) (oi := ?o9) (v := undef) ?hi9 (by kernel_rfl) (by kernel_rfl) (by kernel_rfl) (fun _ _ _ h => h) ?hy9 hHeld5 ?rest9
        case hi9 => simp only [List.getElem?_toArray, List.getElem?_cons_zero, List.getElem?_cons_succ]; first | done | rfl
        case hy9 => exact Or.inr ⟨by rfl, rfl⟩
        try simp only [Act.put, List.setIfInBounds_toArray, List.set_cons_zero, List.set_cons_succ]
        refine wpAnyH_take (i := 10) (oi := ?o10) (v := undef) ?hi10 (by kernel_rfl) (by kernel_rfl) (by kernel_rfl) (fun _ _ _ h => h) ?hy10 hHeld5 ?rest10
        case hi10 => simp only [List.getElem?_toArray, List.getElem?_cons_zero, List.getElem?_cons_succ]; first | done | rfl
        case hy10 => exact Or.inr ⟨by rfl, rfl⟩
        try simp only [Act.put, List.setIfInBounds_toArray, List.set_cons_zero, List.set_cons_succ]
        refine wpAnyH_take (i := 11) (oi := ?o11) (v := undef) ?hi11 (by kernel_rfl) (by kernel_rfl) (by kernel_rfl) (fun _ _ _ h => h) ?hy11 hHeld5 ?rest11
        case hi11 => simp only [List.getElem?_toArray, List.getElem?_cons_zero, List.getElem?_cons_succ]; first | done | rfl
        case hy11 => exact Or.inr ⟨by rfl, rfl⟩
        try simp only [Act.put, List.setIfInBounds_toArray, List.set_cons_zero, List.set_cons_succ]
        refine wpAnyH_take (i := 12) (oi := ?o12) (v := undef) ?hi12 (by kernel_rfl) (by kernel_rfl) (by kernel_rfl) (fun _ _ _ h => h) ?hy12 hHeld5 ?rest12
        case hi12 => simp only [List.getElem?_toArray, List.getElem?_cons_zero, List.getElem?_cons_succ]; first | done | rfl
        case hy12 => exact Or.inr ⟨by rfl, rfl⟩
        try simp only [Act.put, List.setIfInBounds_toArray, List.set_cons_zero, List.set_cons_succ]
        refine wpAnyH_take (i := 13) (oi := ?o13) (v := .bool false) ?hi13 (by kernel_rfl) (by kernel_rfl) (by kernel_rfl) (fun _ _ _ h => h) ?hy13 hHeld5 ?rest13
        case hi13 => simp only [List.getElem?_toArray, List.getElem?_cons_zero, List.getElem?_cons_succ]; first | done | rfl
        case hy13 => exact Or.inl ⟨by rfl, by intro V hV; obtain ⟨s0, s1, s2, s3, s4, s5, s6, s7, s8⟩ := hV; go_simp⟩
        try simp only [Act.put, List.setIfInBounds_toArray, List.set_cons_zero, List.set_cons_succ]
        refine wpAnyH_done (by kernel_rfl) ?_ _
        refine NoPanic.normal ?_
        have HB5 : Hid (Below w0.heap.size w0 w5 ∧ ∀ j, j < k + 1 → hit W H l far ⟨X, Y⟩ j = false) := by
          refine ⟨HB4.out.trans (((Below.refl _ _).drew.trans hb5).mono HB4.out.size), fun j hj => ?_⟩
          rcases Nat.lt_or_ge j k with h | h
          · exact HS.out.2 j h
          · obtain rfl : j = k := by omega
            unfold hit; rw [HX.out, HIN.out]; rfl
        clear hb5 hHeld hHeld5 t0 t1 t2 t3 t4 t5 g0 g1
        go_wp2_with fail
        go_roundw
        case rel => exact ⟨k + 1, by go_num, by omega, HB5⟩
        case measure => simp [intOf]; omega
      | true =>
        obtain ⟨x', y', rfl, rfl, hx', hy'⟩ := inb_nat hin
        have HIN : Hid (inb W H x' y' = true) := hin
        clear hin
        obtain ⟨j, hj⟩ : ∃ j, y' * W + x' = j := ⟨_, rfl⟩
        have hjl : j < W * H := by rw [← hj]; exact pl_lt hx' hy'
        have HJ : Hid (y' * W + x' = j) := hj
        obtain ⟨E, hE⟩ : ∃ E, pa far j = E := ⟨_, rfl⟩
        have hEb := HBD.out j hjl
        rw [hE] at hEb
        have hj6 : j ≤ 1000000 := by omega
        have HC1 : Hid (∀ V, Below w4.heap.size w4 V → Calls Try.prog 19 #[.agg #[.int .i64 (W : Int), .int .i64 (H : Int), .slice (some a) (W * H) cp, .slice (some ⟨g, 0, none⟩) (W * H) (W * H)], .agg #[.int .i64 (x' : Int), .int .i64 (y' : Int)]] V fun e w' => e = .returned (.int .i64 E) ∧ Below V.heap.size V w') :=
          fun V hV => cost_any W H x' y' j _ g E V HJ hj6 hjl (by rw [← hE]; exact HFR.out V (HB4.out.trans (hV.mono HB4.out.size)) j hjl)
        have HC2 : Hid (∀ V, Below w4.heap.size w4 V → Calls Try.prog 19 #[.agg #[.int .i64 (W : Int), .int .i64 (H : Int), .slice (some a) (W * H) cp, .slice (some ⟨g, 0, none⟩) (W * H) (W * H)], .agg #[.int .i64 (X : Int), .int .i64 (Y : Int)]] V fun e w' => e = .returned (.int .i64 D) ∧ Below V.heap.size V w') :=
          fun V hV => cost_any W H X Y I _ g D V HIX hI6 hIl (by rw [← HKD.out.2]; exact HFR.out V (HB4.out.trans (hV.mono HB4.out.size)) I hIl)
        have HHIT : Hid (hit W H l far ⟨X, Y⟩ k = decide (E = D - K)) := by
          unfold Hid hit
          rw [HX.out, HIN.out, ixc_nat, ixc_nat, HIX.out, HKD.out.1, HKD.out.2, HJ.out, hE]; rfl
        have u1 : IntKind.i64.wrap (D - K) = D - K := wrp (by omega) (by omega)
        clear hj hE hEb
        by_cases heq : E = D - K
        · have u2 : (E == D - K) = true := by simp [heq]
          have HK2 : Hid (E = D - K) := heq
          clear heq
          go_wp2_with fail
          go_region_held3 (fun V => Below w4.heap.size w4 V ∧ V.cell? ⟨F, 0, none⟩ = some (.int .i64 (W : Int)) ∧ V.cell? ⟨F, 1, none⟩ = some (.int .i64 (H : Int)) ∧ V.cell? ⟨F, 2, none⟩ = some (.slice (some a) (W * H) cp) ∧ V.cell? ⟨F, 3, none⟩ = some (.slice (some ⟨g, 0, none⟩) (W * H) (W * H)) ∧ V.cell? ⟨F + 1, 0, none⟩ = some (.int .i64 (X : Int)) ∧ V.cell? ⟨F + 1, 1, none⟩ = some (.int .i64 (Y : Int)) ∧ V.cell? ⟨G, 0, none⟩ = some (.int .i64 (x' : Int)) ∧ V.cell? ⟨G, 1, none⟩ = some (.int .i64 (y' : Int))) (first | with_reducible assumption | with_reducible exact k8_drew (by assumption) | with_reducible exact k8_drewN (by assumption) _ | with_reducible exact k8_call (by assumption) (by assumption) | exact ⟨Below.drew (Below.refl _ _), t0, t1, t2, t3, t4, t5, g0, g1⟩) (first
          | (go_at_call 40; with_reducible refine (holds_at (W : Int) (H : Int) x' y' _ _ true _ HIN).mono ?_; rintro e w5 ⟨rfl, hb5⟩)
          | (go_at_call 19; with_reducible refine (HC1.out _ (And.left (by assumption))).mono ?_; rintro e w6 ⟨rfl, hb6⟩)
          | (go_at_call 19; with_reducible refine (HC2.out _ (And.left (by assumption))).mono ?_; rintro e w7 ⟨rfl, hb7⟩))
          have hb47 : Below w4.heap.size w4 w7 := (((Below.refl _ _).drew.trans hb5).trans (hb6.mono ((Below.refl _ _).drew.trans hb5).size)).trans (hb7.mono (((Below.refl _ _).drew.trans hb5).trans (hb6.mono ((Below.refl _ _).drew.trans hb5).size)).size)
          have hB7 : Below w0.heap.size w0 w7 := HB4.out.trans (hb47.mono HB4.out.size)
          have HB7 : Hid (Below w0.heap.size w0 w7) := hB7
          have q0 : w7.cell? ⟨G, 0, none⟩ = some (.int .i64 (x' : Int)) := (hb47.cell (p := ⟨G, 0, none⟩) (cell_lt g0)).trans g0
          have q1 : w7.cell? ⟨G, 1, none⟩ = some (.int .i64 (y' : Int)) := (hb47.cell (p := ⟨G, 1, none⟩) (cell_lt g1)).trans g1
          obtain ⟨-, hR7, hsz⟩ := HBX.out w7 hB7
          have HR7 : Hid (w7.heap[F + 1 + 1]? = some (.cells #[.int .i64 0, .int .i64 0] 26)) := hR7
          obtain ⟨r0, r1, r2, r3⟩ := free2 hR7
          clear hb5 hb6 hb7 hb47 hB7 hR7 t0 t1 t2 t3 t4 t5 g0 g1 hw4 hix
          go_wp2_with fail
          obtain ⟨V, hV⟩ : ∃ V, (w7.setCell ⟨F + 1 + 1, 0, none⟩ (.int .i64 (x' : Int))).setCell ⟨F + 1 + 1, 1, none⟩ (.int .i64 (y' : Int)) = V := ⟨_, rfl⟩
          rw [hV]
          have k2 := set2 HR7.out V hV.symm
          refine ⟨by simp, .tuple #[.agg #[.int .i64 (x' : Int), .int .i64 (y' : Int)], .bool true], ?_, ⟨⟨x', y'⟩, true, rfl, .inl ⟨rfl, k, hlt, HS.out.2, ?_, HX.out.symm⟩⟩, ?_⟩
          · rw [results_cell_tmp rfl]
            simp [go_sem, k2.1, k2.2.1]
          · rw [HHIT.out]; simpa using HK2.out
          · exact HB0.out.trans ((HB7.out.mono HB0.out.size).trans (k2.2.2 w.heap.size (by have := HF.out; omega)))
        · have u2 : (E == D - K) = false := by simp [heq]
          have HK2 : Hid (¬ E = D - K) := heq
          clear heq
          go_wp2_with fail
          go_region_held3 (fun V => Below w4.heap.size w4 V ∧ V.cell? ⟨F, 0, none⟩ = some (.int .i64 (W : Int)) ∧ V.cell? ⟨F, 1, none⟩ = some (.int .i64 (H : Int)) ∧ V.cell? ⟨F, 2, none⟩ = some (.slice (some a) (W * H) cp) ∧ V.cell? ⟨F, 3, none⟩ = some (.slice (some ⟨g, 0, none⟩) (W * H) (W * H)) ∧ V.cell? ⟨F + 1, 0, none⟩ = some (.int .i64 (X : Int)) ∧ V.cell? ⟨F + 1, 1, none⟩ = some (.int .i64 (Y : Int)) ∧ V.cell? ⟨G, 0, none⟩ = some (.int .i64 (x' : Int)) ∧ V.cell? ⟨G, 1, none⟩ = some (.int .i64 (y' : Int))) (first | with_reducible assumption | with_reducible exact k8_drew (by assumption) | with_reducible exact k8_drewN (by assumption) _ | with_reducible exact k8_call (by assumption) (by assumption) | exact ⟨Below.drew (Below.refl _ _), t0, t1, t2, t3, t4, t5, g0, g1⟩) (first
          | (go_at_call 40; with_reducible refine (holds_at (W : Int) (H : Int) x' y' _ _ true _ HIN).mono ?_; rintro e w5 ⟨rfl, hb5⟩)
          | (go_at_call 19; with_reducible refine (HC1.out _ (And.left (by assumption))).mono ?_; rintro e w6 ⟨rfl, hb6⟩)
          | (go_at_call 19; with_reducible refine (HC2.out _ (And.left (by assumption))).mono ?_; rintro e w7 ⟨rfl, hb7⟩))
          have hb47 : Below w4.heap.size w4 w7 := (((Below.refl _ _).drew.trans hb5).trans (hb6.mono ((Below.refl _ _).drew.trans hb5).size)).trans (hb7.mono (((Below.refl _ _).drew.trans hb5).trans (hb6.mono ((Below.refl _ _).drew.trans hb5).size)).size)
          have hB7 : Below w0.heap.size w0 w7 := HB4.out.trans (hb47.mono HB4.out.size)
          have HB7 : Hid (Below w0.heap.size w0 w7) := hB7
          have HS7 : Hid (Below w0.heap.size w0 w7 ∧ ∀ j, j < k + 1 → hit W H l far ⟨X, Y⟩ j = false) := by
            refine ⟨hB7, fun j' hj' => ?_⟩
            rcases Nat.lt_or_ge j' k with h | h
            · exact HS.out.2 j' h
            · obtain rfl : j' = k := by omega
              rw [HHIT.out]; simpa using HK2.out
          clear hb5 hb6 hb7 hb47 hB7 t0 t1 t2 t3 t4 t5 g0 g1 hw4 hix
          go_wp2_with fail
          go_roundw
          case rel => exact ⟨k + 1, by go_num, by omega, HS7⟩
          case measure => simp [intOf]; omega
    · obtain rfl : k = 4 := by omega
      obtain ⟨-, hR7, hsz⟩ := HBX.out wr HS.out.1
      have HR7 : Hid (wr.heap[F + 1 + 1]? = some (.cells #[.int .i64 0, .int .i64 0] 26)) := hR7
      obtain ⟨r0, r1, r2, r3⟩ := free2 hR7
      clear hR7
      go_wp2_with fail
      obtain ⟨V, hV⟩ : ∃ V, (wr.setCell ⟨F + 1 + 1, 0, none⟩ (.int .i64 0)).setCell ⟨F + 1 + 1, 1, none⟩ (.int .i64 0) = V := ⟨_, rfl⟩
      rw [hV]
      have k2 := set2 HR7.out V hV.symm
      refine ⟨by simp, .tuple #[.agg #[.int .i64 0, .int .i64 0], .bool false], ?_, ⟨⟨0, 0⟩, false, rfl, .inr ⟨rfl, HS.out.2⟩⟩, ?_⟩
      · rw [results_cell_tmp rfl]
        simp [go_sem, k2.1, k2.2.1]
      · exact HB0.out.trans ((HS.out.1.mono HB0.out.size).trans (k2.2.2 w.heap.size (by have := HF.out; omega)))
end Go.Proofs.Ytkdammmikmljmaa
