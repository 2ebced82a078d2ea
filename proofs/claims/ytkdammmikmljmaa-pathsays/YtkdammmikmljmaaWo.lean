/- What the functions within the document's own answer return. -/
import Derived.Test.YtkdammmikmljmaaPg
import Derived.Test.YtkdammmikmljmaaRf
namespace Go.Proofs.Ytkdammmikmljmaa
open Go.RowKit
set_option linter.unusedVariables false
set_option linter.unusedSimpArgs false

set_option maxRecDepth 20000 in
set_option maxHeartbeats 1000000 in
theorem wat_any (W H X Y i P10 F g : Nat) (D : Int) (w : World) (hi : Hid (Y * W + X = i)) (hb : i ≤ 1000000) (hil : i < W * H) (h0 : w.cell? ⟨P10, 0, none⟩ = some (.slice (some ⟨g, 0, none⟩) (W * H) (W * H))) (h1 : w.cell? ⟨F, 0, none⟩ = some (.int .i64 (W : Int))) (hc : w.cell? ⟨g, i, none⟩ = some (.int .i64 D)) :
    Calls Try.prog 24 #[.agg #[.int .i64 (X : Int), .int .i64 (Y : Int)], .pointer (some ⟨P10, 0, none⟩), .pointer (some ⟨F, 0, none⟩)] w fun e w' => e = .returned (.int .i64 D) ∧ Below w.heap.size w w' := by
  obtain ⟨G, hG⟩ : ∃ G, w.heap.size = G := ⟨_, rfl⟩
  obtain ⟨w0, hw0⟩ : ∃ w0, w.alloc (.cells #[.int .i64 (X : Int), .int .i64 (Y : Int)] 26) = w0 := ⟨_, rfl⟩
  have hb0 : Below w.heap.size w w0 := by rw [← hw0]; exact alloc_below _ _
  obtain ⟨z0, z1⟩ : w0.cell? ⟨G, 0, none⟩ = some (.int .i64 (X : Int)) ∧ w0.cell? ⟨G, 1, none⟩ = some (.int .i64 (Y : Int)) := by rw [← hw0, ← hG]; constructor <;> simp [go_sem]
  have z2 : w0.cell? ⟨P10, 0, none⟩ = some (.slice (some ⟨g, 0, none⟩) (W * H) (W * H)) := (hb0.cell (p := ⟨P10, 0, none⟩) (cell_lt h0)).trans h0
  have z3 : w0.cell? ⟨F, 0, none⟩ = some (.int .i64 (W : Int)) := (hb0.cell (p := ⟨F, 0, none⟩) (cell_lt h1)).trans h1
  have z4 : w0.cell? ⟨g, i, none⟩ = some (.int .i64 D) := (hb0.cell (p := ⟨g, i, none⟩) (cell_lt hc)).trans hc
  have HB0 : Hid (Below w.heap.size w w0) := hb0
  obtain ⟨P, hP⟩ : ∃ P : Nat, Y * W = P := ⟨_, rfl⟩
  have hPi : P + X = i := by rw [← hP]; exact hi.out
  have eP : IntKind.i64.wrap ((Y : Int) * (W : Int)) = (P : Int) := by rw [← Int.natCast_mul, hP]; exact wrp (by omega) (by omega)
  have eJ : (P : Int) + X = i := by omega
  have eJ2 : IntKind.i64.wrap (i : Int) = i := wrp (by omega) (by omega)
  have i1 : (i : Int) < W * H := by omega
  have i2 : (0 : Int) ≤ i := by omega
  clear hi hPi hP h0 h1 hc hb0
  go_enter Try.func24, Try.ntmps24
  go_wp2_with fail
  go_ret
  exact ⟨rfl, HB0.out⟩
/-- What IndexFunc does with whatever is asked of a cell. -/
theorem IndexFuncc_any (p : Option Addr) (n c f : Nat) (cap : Array Value) (L : List Cel) (b : Nat → Bool) (J : Nat) (w : World) (hn : L.length = n) (hm : n ≤ 4000000) (h1 : crow w p L) (hJ : J < n) (hb : b J = true) (hbi : ∀ i, i < J → b i = false)
    (hf : Hid (∀ i x y, L[i]? = some ⟨x, y⟩ → ∀ V, Below w.heap.size w V → Calls Try.prog 27 #[.agg #[.int .i64 x, .int .i64 y], cap[0]!, cap[1]!, cap[2]!] V fun e w' => e = .returned (.bool (b i)) ∧ Below V.heap.size V w')) :
    Calls Try.prog 26 #[.slice p n c, .func (.func 27) #[] #[cap[0]!, cap[1]!, cap[2]!]] w fun e w' => e = .returned (.int .i64 (J : Int)) ∧ Below w.heap.size w w' := by
  obtain ⟨k0, hk0⟩ : ∃ k, cap[0]! = k := ⟨_, rfl⟩
  obtain ⟨k1, hk1⟩ : ∃ k, cap[1]! = k := ⟨_, rfl⟩
  obtain ⟨k2, hk2⟩ : ∃ k, cap[2]! = k := ⟨_, rfl⟩
  rw [hk0, hk1, hk2] at hf ⊢
  have H1 : Hid (crow w p L) := h1
  have HN : Hid (L.length = n) := hn
  have HBI : Hid (b J = true ∧ ∀ i, i < J → b i = false) := ⟨hb, hbi⟩
  clear h1 hn hk0 hk1 hk2 hb hbi
  go_enter Try.func26, Try.ntmps26
  go_wp2_with fail
  go_loopw [8] (fun i wr => ∃ k : Nat, i = .int .i64 k ∧ k ≤ J ∧ Hid (Below w.heap.size w wr)) (fun i _ => n - (intOf i).toNat)
  case atStart => exact ⟨0, rfl, by omega, Below.refl _ _⟩
  case round =>
    obtain ⟨k, rfl, hk, HS⟩ := hrel
    have hkl : k < L.length := by rw [HN.out]; omega
    obtain ⟨⟨x, y⟩, hxy⟩ : ∃ q, L[k]? = some q := ⟨_, List.getElem?_eq_getElem hkl⟩
    obtain ⟨ad, rfl, ha, hay⟩ := crow_below H1.out HS.out k _ hxy
    have hay' : wr.cell? ⟨(ad.add (k * 2)).block, (ad.add (k * 2)).off + 1, none⟩ = some (.int .i64 y) := cell_two hay
    have HXY : Hid (L[k]? = some ⟨x, y⟩) := hxy
    have l1 : (k : Int) < n := by omega
    have l2 : (0 : Int) ≤ k := by omega
    clear hxy hay
    by_cases hlt : k = J
    · subst hlt
      go_wp2_with fail
      refine (hf.out k x y HXY.out wr HS.out).mono ?_
      rintro e w1 ⟨rfl, hb1⟩
      have HB1 : Hid (Below w.heap.size w w1) := HS.out.trans (hb1.mono HS.out.size)
      have hbk := HBI.out.1
      rw [hbk]
      clear hb1 ha hay' hbk
      go_wp2_with fail
      go_ret
      exact ⟨rfl, HB1.out⟩
    · go_wp2_with fail
      refine (hf.out k x y HXY.out wr HS.out).mono ?_
      rintro e w1 ⟨rfl, hb1⟩
      have HB1 : Hid (Below w.heap.size w w1) := HS.out.trans (hb1.mono HS.out.size)
      have hbk := HBI.out.2 k (by omega)
      rw [hbk]
      clear hb1 ha hay' hbk
      go_wp2_with fail
      go_roundw
      case rel => exact ⟨k + 1, by go_num, by omega, HB1⟩
      case measure => simp [intOf]; omega
set_option maxRecDepth 20000 in
set_option maxHeartbeats 2000000 in
theorem wtest_any (W H X Y x y I j P10 F B12 C g : Nat) (a : Addr) (cp : Nat) (l : List Int) (Z K D E : Int) (w : World) (hI : Hid (Y * W + X = I)) (hj : Hid (y * W + x = j)) (hIl : I < W * H) (hjl : j < W * H) (hN : W * H ≤ 1600) (hX : X < W) (hY : Y < H) (hW : 1 ≤ W ∧ W ≤ 40) (hH : 1 ≤ H ∧ H ≤ 40)
    (hZ : Hid (l.getD (Y * W + X) 0 = Z)) (hzb : 0 ≤ Z ∧ Z ≤ 3) (hz1 : Z ≠ 1) (hK : Hid (kc Z = K)) (hDb : -1 ≤ D ∧ D ≤ 4800) (hEb : -1 ≤ E ∧ E ≤ 4800)
    (hr : row vi w (some a) l) (hl : l.length = W * H) (h0 : w.cell? ⟨P10, 0, none⟩ = some (.slice (some ⟨g, 0, none⟩) (W * H) (W * H))) (h1 : w.cell? ⟨F, 0, none⟩ = some (.int .i64 (W : Int))) (h2 : w.cell? ⟨F, 1, none⟩ = some (.int .i64 (H : Int))) (h3 : w.cell? ⟨F, 2, none⟩ = some (.slice (some a) (W * H) cp))
    (h4 : w.cell? ⟨B12, 0, none⟩ = some (.func (.func 24) #[] #[.pointer (some ⟨P10, 0, none⟩), .pointer (some ⟨F, 0, none⟩)])) (h5 : w.cell? ⟨C, 0, none⟩ = some (.int .i64 (X : Int))) (h6 : w.cell? ⟨C, 1, none⟩ = some (.int .i64 (Y : Int))) (h7 : w.cell? ⟨g, I, none⟩ = some (.int .i64 D)) (h8 : w.cell? ⟨g, j, none⟩ = some (.int .i64 E)) :
    Calls Try.prog 27 #[.agg #[.int .i64 (x : Int), .int .i64 (y : Int)], .pointer (some ⟨B12, 0, none⟩), .pointer (some ⟨F, 0, none⟩), .pointer (some ⟨C, 0, none⟩)] w fun e w' => e = .returned (.bool (decide (0 ≤ E) && decide (E + K = D))) ∧ Below w.heap.size w w' := by
  obtain ⟨G, hG⟩ : ∃ G, w.heap.size = G := ⟨_, rfl⟩
  obtain ⟨w0, hw0⟩ : ∃ w0, w.alloc (.cells #[.int .i64 (x : Int), .int .i64 (y : Int)] 26) = w0 := ⟨_, rfl⟩
  have hb0 : Below w.heap.size w w0 := by rw [← hw0]; exact alloc_below _ _
  obtain ⟨g0, g1⟩ : w0.cell? ⟨G, 0, none⟩ = some (.int .i64 (x : Int)) ∧ w0.cell? ⟨G, 1, none⟩ = some (.int .i64 (y : Int)) := by rw [← hw0, ← hG]; constructor <;> simp [go_sem]
  have k0 : ∀ {q : Addr} {u : Value}, w.cell? q = some u → w0.cell? q = some u := fun h => (hb0.cell (cell_lt h)).trans h
  have t0 := k0 h4
  have t1 := k0 h1
  have t2 := k0 h2
  have t3 := k0 h3
  have t4 := k0 h5
  have t5 := k0 h6
  have HC1 : Hid (∀ V, Below w0.heap.size w0 V → Calls Try.prog 24 #[.agg #[.int .i64 (x : Int), .int .i64 (y : Int)], .pointer (some ⟨P10, 0, none⟩), .pointer (some ⟨F, 0, none⟩)] V fun e w' => e = .returned (.int .i64 E) ∧ Below V.heap.size V w') := by
    intro V hV
    have k1 : ∀ {q : Addr} {u : Value}, w.cell? q = some u → V.cell? q = some u := fun h => (hV.cell (cell_lt (k0 h))).trans (k0 h)
    exact wat_any W H x y j P10 F g E V hj (by omega) hjl (k1 h0) (k1 h1) (k1 h8)
  have HC2 : Hid (∀ V, Below w0.heap.size w0 V → Calls Try.prog 24 #[.agg #[.int .i64 (X : Int), .int .i64 (Y : Int)], .pointer (some ⟨P10, 0, none⟩), .pointer (some ⟨F, 0, none⟩)] V fun e w' => e = .returned (.int .i64 D) ∧ Below V.heap.size V w') := by
    intro V hV
    have k1 : ∀ {q : Addr} {u : Value}, w.cell? q = some u → V.cell? q = some u := fun h => (hV.cell (cell_lt (k0 h))).trans (k0 h)
    exact wat_any W H X Y I P10 F g D V hI (by omega) hIl (k1 h0) (k1 h1) (k1 h7)
  have HPO : Hid (∀ V, Below w0.heap.size w0 V → Calls Try.prog 22 #[.agg #[.int .i64 (W : Int), .int .i64 (H : Int), .slice (some a) (W * H) cp], .agg #[.int .i64 (X : Int), .int .i64 (Y : Int)]] V fun e w' => e = .returned (.int .i64 Z) ∧ Below V.heap.size V w') :=
    fun V hV => PlaceOf_in W H a cp l X Y Z V (row_below (row_below hr hb0) hV) hW hH hl hX hY hZ
  have HCO : Hid (∀ V, Below w0.heap.size w0 V → Calls Try.prog 28 #[.int .i64 Z] V fun e w' => e = .returned (.int .i64 K) ∧ Below V.heap.size V w') :=
    fun V hV => CostOf_at Z K V hzb.1 hzb.2 (by unfold Hid cof; rw [if_neg hz1]; exact hK.out)
  have hkb := kc_bd Z
  rw [hK.out] at hkb
  have HB0 : Hid (Below w.heap.size w w0) := hb0
  clear h0 h1 h2 h3 h4 h5 h6 h7 h8 hr hl hb0 hZ hK k0 hzb hz1 hW hH hX hY hI hj
  go_enter Try.func27, Try.ntmps27
  by_cases hpos : 0 ≤ E
  · have d1 : decide (0 ≤ E) = true := by simp [hpos]
    have d3 : IntKind.i64.wrap (E + K) = E + K := wrp (by omega) (by omega)
    by_cases heq : E + K = D
    · have d2 : (E + K == D) = true := by simp [heq]
      have HQ : Hid ((decide (0 ≤ E) && decide (E + K = D)) = true) := by unfold Hid; simp [hpos, heq]
      rw [HQ.out]
      clear heq
      go_wp2_with fail
      clear hw0
      go_region_held3 (fun V => Below w0.heap.size w0 V ∧ V.cell? ⟨B12, 0, none⟩ = some (.func (.func 24) #[] #[.pointer (some ⟨P10, 0, none⟩), .pointer (some ⟨F, 0, none⟩)]) ∧ V.cell? ⟨G, 0, none⟩ = some (.int .i64 (x : Int)) ∧ V.cell? ⟨G, 1, none⟩ = some (.int .i64 (y : Int)) ∧ V.cell? ⟨F, 0, none⟩ = some (.int .i64 (W : Int)) ∧ V.cell? ⟨F, 1, none⟩ = some (.int .i64 (H : Int)) ∧ V.cell? ⟨F, 2, none⟩ = some (.slice (some a) (W * H) cp) ∧ V.cell? ⟨C, 0, none⟩ = some (.int .i64 (X : Int)) ∧ V.cell? ⟨C, 1, none⟩ = some (.int .i64 (Y : Int))) (first | with_reducible assumption | with_reducible exact k8_drew (by assumption) | with_reducible exact k8_drewN (by assumption) _ | with_reducible exact k8_call (by assumption) (by assumption) | exact ⟨Below.drew (Below.refl _ _), t0, g0, g1, t1, t2, t3, t4, t5⟩) (first
        | (go_at_call 24; with_reducible refine (HC1.out _ (And.left (by assumption))).mono ?_; rintro e w5 ⟨rfl, hb5⟩)
        | (go_at_call 24; with_reducible refine (HC2.out _ (And.left (by assumption))).mono ?_; rintro e w9 ⟨rfl, hb9⟩)
        | (go_at_call 22; with_reducible refine (HPO.out _ (And.left (by assumption))).mono ?_; rintro e w6 ⟨rfl, hb6⟩)
        | (go_at_call 28; with_reducible refine (HCO.out _ (And.left (by assumption))).mono ?_; rintro e w7 ⟨rfl, hb7⟩))
      have HBV : Hid (Below w0.heap.size w0 w9) := And.left (by assumption)
      go_wp2_with fail
      go_ret
      exact ⟨rfl, HB0.out.trans (HBV.out.mono HB0.out.size)⟩
    · have d2 : (E + K == D) = false := by simp [heq]
      have HQ : Hid ((decide (0 ≤ E) && decide (E + K = D)) = false) := by unfold Hid; simp [heq]
      rw [HQ.out]
      clear heq
      go_wp2_with fail
      clear hw0
      go_region_held3 (fun V => Below w0.heap.size w0 V ∧ V.cell? ⟨B12, 0, none⟩ = some (.func (.func 24) #[] #[.pointer (some ⟨P10, 0, none⟩), .pointer (some ⟨F, 0, none⟩)]) ∧ V.cell? ⟨G, 0, none⟩ = some (.int .i64 (x : Int)) ∧ V.cell? ⟨G, 1, none⟩ = some (.int .i64 (y : Int)) ∧ V.cell? ⟨F, 0, none⟩ = some (.int .i64 (W : Int)) ∧ V.cell? ⟨F, 1, none⟩ = some (.int .i64 (H : Int)) ∧ V.cell? ⟨F, 2, none⟩ = some (.slice (some a) (W * H) cp) ∧ V.cell? ⟨C, 0, none⟩ = some (.int .i64 (X : Int)) ∧ V.cell? ⟨C, 1, none⟩ = some (.int .i64 (Y : Int))) (first | with_reducible assumption | with_reducible exact k8_drew (by assumption) | with_reducible exact k8_drewN (by assumption) _ | with_reducible exact k8_call (by assumption) (by assumption) | exact ⟨Below.drew (Below.refl _ _), t0, g0, g1, t1, t2, t3, t4, t5⟩) (first
        | (go_at_call 24; with_reducible refine (HC1.out _ (And.left (by assumption))).mono ?_; rintro e w5 ⟨rfl, hb5⟩)
        | (go_at_call 24; with_reducible refine (HC2.out _ (And.left (by assumption))).mono ?_; rintro e w9 ⟨rfl, hb9⟩)
        | (go_at_call 22; with_reducible refine (HPO.out _ (And.left (by assumption))).mono ?_; rintro e w6 ⟨rfl, hb6⟩)
        | (go_at_call 28; with_reducible refine (HCO.out _ (And.left (by assumption))).mono ?_; rintro e w7 ⟨rfl, hb7⟩))
      have HBV : Hid (Below w0.heap.size w0 w9) := And.left (by assumption)
      go_wp2_with fail
      go_ret
      exact ⟨rfl, HB0.out.trans (HBV.out.mono HB0.out.size)⟩
  · have d1 : decide (0 ≤ E) = false := by simp; omega
    have HQ : Hid ((decide (0 ≤ E) && decide (E + K = D)) = false) := by unfold Hid; simp [hpos]
    rw [HQ.out]
    clear hpos
    go_wp2_with fail
    clear hw0
    refine wp_region_noPanic ?_
    refine wp_region_held_drew (S := (fun V => Below w0.heap.size w0 V ∧ V.cell? ⟨B12, 0, none⟩ = some (.func (.func 24) #[] #[.pointer (some ⟨P10, 0, none⟩), .pointer (some ⟨F, 0, none⟩)]) ∧ V.cell? ⟨G, 0, none⟩ = some (.int .i64 (x : Int)) ∧ V.cell? ⟨G, 1, none⟩ = some (.int .i64 (y : Int)) ∧ V.cell? ⟨F, 0, none⟩ = some (.int .i64 (W : Int)) ∧ V.cell? ⟨F, 1, none⟩ = some (.int .i64 (H : Int)) ∧ V.cell? ⟨F, 2, none⟩ = some (.slice (some a) (W * H) cp) ∧ V.cell? ⟨C, 0, none⟩ = some (.int .i64 (X : Int)) ∧ V.cell? ⟨C, 1, none⟩ = some (.int .i64 (Y : Int)))) (by kernel_rfl) ⟨Below.drew (Below.refl _ _), t0, g0, g1, t1, t2, t3, t4, t5⟩ (fun hHeld => ?_)
    refine wpAnyH_take (i := 0) (oi := ?o0) (v := .func (.func 24) #[] #[.pointer (some ⟨P10, 0, none⟩), .pointer (some ⟨F, 0, none⟩)]) ?hi0 (by kernel_rfl) (by kernel_rfl) (by kernel_rfl) (fun _ _ _ h => h) ?hy0 hHeld ?rest0
    case hi0 => simp only [List.getElem?_toArray, List.getElem?_cons_zero, List.getElem?_cons_succ]; first | done | rfl
    case hy0 => exact Or.inl ⟨by rfl, by intro V hV; obtain ⟨s0, s1, s2, s3, s4, s5, s6, s7, s8⟩ := hV; go_simp⟩
    try simp only [Act.put, List.setIfInBounds_toArray, List.set_cons_zero, List.set_cons_succ]
    refine wpAnyH_take (i := 1) (oi := ?o1) (v := .agg #[.int .i64 (x : Int), .int .i64 (y : Int)]) ?hi1 (by kernel_rfl) (by kernel_rfl) (by kernel_rfl) (fun _ _ _ h => h) ?hy1 hHeld ?rest1
    case hi1 => simp only [List.getElem?_toArray, List.getElem?_cons_zero, List.getElem?_cons_succ]; first | done | rfl
    case hy1 => exact Or.inl ⟨by rfl, by intro V hV; obtain ⟨s0, s1, s2, s3, s4, s5, s6, s7, s8⟩ := hV; go_simp⟩
    try simp only [Act.put, List.setIfInBounds_toArray, List.set_cons_zero, List.set_cons_succ]
    refine wpAnyH_ready (rs := [2]) (by kernel_rfl) (by simp) ?_
    refine AllReadyH.cons (o := ?o2) ?hi2 (fun K hK => ?step) AllReadyH.nil
    case hi2 => simp only [List.getElem?_toArray, List.getElem?_cons_zero, List.getElem?_cons_succ]; first | done | rfl
    go_simp
    go_at_call 24
    refine (HC1.out _ hHeld.1).mono ?_
    rintro e w5 ⟨rfl, hb5⟩
    go_wp2_with fail
    refine hK.out _ _ (k8_call hHeld hb5) (fun hHeld5 => ?_)
    clear hK K
    try simp only [Act.put, List.setIfInBounds_toArray, List.set_cons_zero, List.set_cons_succ]
    refine wpAnyH_take (i := 3) (oi := ?o3) (v := .bool false) ?hi3 (by kernel_rfl) (by kernel_rfl) (by kernel_rfl) (fun _ _ _ h => h) ?hy3 hHeld5 ?rest3
    case hi3 => simp only [List.getElem?_toArray, List.getElem?_cons_zero, List.getElem?_cons_succ]; first | done | rfl
    case hy3 => exact Or.inl ⟨by rfl, by intro V hV; obtain ⟨s0, s1, s2, s3, s4, s5, s6, s7, s8⟩ := hV; go_simp⟩
    try simp only [Act.put, List.setIfInBounds_toArray, List.set_cons_zero, List.set_cons_succ]
    refine wpAnyH_take (i := 4) (oi := ?o4) (v := .bool false) ?hi4 (by kernel_rfl) (by kernel_rfl) (by kernel_rfl) (fun _ _ _ h => h) ?hy4 hHeld5 ?rest4
    case hi4 => simp only [List.getElem?_toArray, List.getElem?_cons_zero, List.getElem?_cons_succ]; first | done | rfl
    case hy4 => exact Or.inl ⟨by rfl, by intro V hV; obtain ⟨s0, s1, s2, s3, s4, s5, s6, s7, s8⟩ := hV; go_simp⟩
    try simp only [Act.put, List.setIfInBounds_toArray, List.set_cons_zero, List.set_cons_succ]
    refine wpAnyH_take (i := 5) (oi := ?o5) (v := undef) ?hi5 (by kernel_rfl) (by kernel_rfl) (by kernel_rfl) (fun _ _ _ h => h) ?hy5 hHeld5 ?rest5
    case hi5 => simp only [List.getElem?_toArray, List.getElem?_cons_zero, List.getElem?_cons_succ]; first | done | rfl
    case hy5 => exact Or.inr ⟨by rfl, rfl⟩
    try simp only [Act.put, List.setIfInBounds_toArray, List.set_cons_zero, List.set_cons_succ]
    refine wpAnyH_take (i := 6) (oi := ?o6) (v := undef) ?hi6 (by kernel_rfl) (by kernel_rfl) (by kernel_rfl) (fun _ _ _ h => h) ?hy6 hHeld5 ?rest6
    case hi6 => simp only [List.getElem?_toArray, List.getElem?_cons_zero, List.getElem?_cons_succ]; first | done | rfl
    case hy6 => exact Or.inr ⟨by rfl, rfl⟩
    try simp only [Act.put, List.setIfInBounds_toArray, List.set_cons_zero, List.set_cons_succ]
    refine wpAnyH_take (i := 7) (oi := ?o7) (v := undef) ?hi7 (by kernel_rfl) (by kernel_rfl) (by kernel_rfl) (fun _ _ _ h => h) ?hy7 hHeld5 ?rest7
    case hi7 => simp only [List.getElem?_toArray, List.getElem?_cons_zero, List.getElem?_cons_succ]; first | done | rfl
    case hy7 => exact Or.inr ⟨by rfl, rfl⟩
    try simp only [Act.put, List.setIfInBounds_toArray, List.set_cons_zero, List.set_cons_succ]
    refine wpAnyH_take (i := 8) (oi := ?o8) (v := undef) ?hi8 (by kernel_rfl) (by kernel_rfl) (by kernel_rfl) (fun _ _ _ h => h) ?hy8 hHeld5 ?rest8
    case hi8 => simp only [List.getElem?_toArray, List.getElem?_cons_zero, List.getElem?_cons_succ]; first | done | rfl
    case hy8 => exact Or.inr ⟨by rfl, rfl⟩
    try simp only [Act.put, List.setIfInBounds_toArray, List.set_cons_zero, List.set_cons_succ]
    refine wpAnyH_take (i := 9) (oi := ?o9) (v := undef) ?hi9 (by kernel_rfl) (by kernel_rfl) (by kernel_rfl) (fun _ _ _ h => h) ?hy9 hHeld5 ?rest9
    case hi9 => simp only [List.getElem?_toArray, List.getElem?_cons_zero, List.getElem?_cons_succ]; first | done | rfl
    case hy9 => exact Or.inr ⟨by rfl, rfl⟩
    try simp only [Act.put, List.setIfInBounds_toArray, List.set_cons_zero, List.set_cons_succ]
    refine wpAnyH_take (i := 10) (oi := ?o10) (v := undef) ?hi10 (by kernel_rfl) (by kernel_rfl) (by kernel_rfl) (fun _ _ _ h => h) ?hy10 hHeld5 ?rest10
    case hi10 => simp only [List.getElem?_toArray, List.getElem?_cons_zero, List.getElem?_cons_succ]; first | done | rfl
    case hy10 => exact Or.inr ⟨by rfl, rfl⟩
    try simp only [Act.put, List.setIfInBounds_toArray, List.set_cons_zero, List.set_cons_succ]
    refine wpAnyH_take (i := 11) (oi := ?o11) (v := undef) ?hi11 (by kernel_rfl) (by kernel_rfl) (by kernel_rfl) (fun _ _ _ h => h) ?hy11 hHeld5 ?rest11
    case hi11 => simp only [List.getElem?_toArray, List.getElem?_cons_zero, List.getElem?_cons_succ]; first | done | rfl
    case hy11 => exact Or.inr ⟨by rfl, rfl⟩
    try simp only [Act.put, List.setIfInBounds_toArray, List.set_cons_zero, List.set_cons_succ]
    refine wpAnyH_take (i := 12) (oi := ?o12) (v := undef) ?hi12 (by kernel_rfl) (by kernel_rfl) (by kernel_rfl) (fun _ _ _ h => h) ?hy12 hHeld5 ?rest12
    case hi12 => simp only [List.getElem?_toArray, List.getElem?_cons_zero, List.getElem?_cons_succ]; first | done | rfl
    case hy12 => exact Or.inr ⟨by rfl, rfl⟩
    try simp only [Act.put, List.setIfInBounds_toArray, List.set_cons_zero, List.set_cons_succ]
    refine wpAnyH_take (i := 13) (oi := ?o13) (v := undef) ?hi13 (by kernel_rfl) (by kernel_rfl) (by kernel_rfl) (fun _ _ _ h => h) ?hy13 hHeld5 ?rest13
    case hi13 => simp only [List.getElem?_toArray, List.getElem?_cons_zero, List.getElem?_cons_succ]; first | done | rfl
    case hy13 => exact Or.inr ⟨by rfl, rfl⟩
    try simp only [Act.put, List.setIfInBounds_toArray, List.set_cons_zero, List.set_cons_succ]
    refine wpAnyH_take (i := 14) (oi := ?o14) (v := undef) ?hi14 (by kernel_rfl) (by kernel_rfl) (by kernel_rfl) (fun _ _ _ h => h) ?hy14 hHeld5 ?rest14
    case hi14 => simp only [List.getElem?_toArray, List.getElem?_cons_zero, List.getElem?_cons_succ]; first | done | rfl
    case hy14 => exact Or.inr ⟨by rfl, rfl⟩
    try simp only [Act.put, List.setIfInBounds_toArray, List.set_cons_zero, List.set_cons_succ]
    refine wpAnyH_take (i := 15) (oi := ?o15) (v := undef) ?hi15 (by kernel_rfl) (by kernel_rfl) (by kernel_rfl) (fun _ _ _ h => h) ?hy15 hHeld5 ?rest15
    case hi15 => simp only [List.getElem?_toArray, List.getElem?_cons_zero, List.getElem?_cons_succ]; first | done | rfl
    case hy15 => exact Or.inr ⟨by rfl, rfl⟩
    try simp only [Act.put, List.setIfInBounds_toArray, List.set_cons_zero, List.set_cons_succ]
    refine wpAnyH_take (i := 16) (oi := ?o16) (v := undef) ?hi16 (by kernel_rfl) (by kernel_rfl) (by kernel_rfl) (fun _ _ _ h => h) ?hy16 hHeld5 ?rest16
    case hi16 => simp only [List.getElem?_toArray, List.getElem?_cons_zero, List.getElem?_cons_succ]; first | done | rfl
    case hy16 => exact Or.inr ⟨by rfl, rfl⟩
    try simp only [Act.put, List.setIfInBounds_toArray, List.set_cons_zero, List.set_cons_succ]
    refine wpAnyH_take (i := 17) (oi := ?o17) (v := .bool false) ?hi17 (by kernel_rfl) (by kernel_rfl) (by kernel_rfl) (fun _ _ _ h => h) ?hy17 hHeld5 ?rest17
    case hi17 => simp only [List.getElem?_toArray, List.getElem?_cons_zero, List.getElem?_cons_succ]; first | done | rfl
    case hy17 => exact Or.inl ⟨by rfl, by intro V hV; obtain ⟨s0, s1, s2, s3, s4, s5, s6, s7, s8⟩ := hV; go_simp⟩
    try simp only [Act.put, List.setIfInBounds_toArray, List.set_cons_zero, List.set_cons_succ]
    refine wpAnyH_take (i := 18) (oi := ?o18) (v := .bool false) ?hi18 (by kernel_rfl) (by kernel_rfl) (by kernel_rfl) (fun _ _ _ h => h) ?hy18 hHeld5 ?rest18
    case hi18 => simp only [List.getElem?_toArray, List.getElem?_cons_zero, List.getElem?_cons_succ]; first | done | rfl
    case hy18 => exact Or.inl ⟨by rfl, by intro V hV; obtain ⟨s0, s1, s2, s3, s4, s5, s6, s7, s8⟩ := hV; go_simp⟩
    try simp only [Act.put, List.setIfInBounds_toArray, List.set_cons_zero, List.set_cons_succ]
    refine wpAnyH_done (by kernel_rfl) ?_ _
    refine NoPanic.normal ?_
    have HBV : Hid (Below w0.heap.size w0 w5) := hHeld5.1
    clear hHeld hHeld5
    go_wp2_with fail
    go_ret
    exact ⟨rfl, HB0.out.trans (HBV.out.mono HB0.out.size)⟩
end Go.Proofs.Ytkdammmikmljmaa
