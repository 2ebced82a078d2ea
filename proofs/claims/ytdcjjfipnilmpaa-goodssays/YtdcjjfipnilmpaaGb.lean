/- What goods.freeBeside returns. -/
import Derived.Test.YtdcjjfipnilmpaaPf
import Derived.Laws.ResultCell
namespace Go.Proofs.Ytdcjjfipnilmpaa
open Go.RowKit
set_option linter.unusedVariables false

def celv (o : Option Cel) : Value := match o with | some c => .agg #[.int .i64 c.x, .int .i64 c.y] | none => .agg #[.int .i64 0, .int .i64 0]
/-- The k-th cell about a base. -/
def nc (b : Cel) (k : Nat) : Cel := ⟨b.x - 1 + (k % 3 : Nat), b.y - 1 + (k / 3 : Nat)⟩
theorem nine_len (b : Cel) : (nineN b).length = 9 := by unfold nineN; simp
theorem nine_at (b : Cel) (k : Nat) (h : k < (nineN b).length) : (nineN b)[k] = nc b k := by unfold nineN nc; simp
theorem nine_some {P : Cel → Bool} {b : Cel} (h0 : P b = false) {k : Nat} (hk : k < 9) (hn : ∀ j, j < k → P (nc b j) = false) (hp : P (nc b k) = true) : (b :: nineN b).find? P = some (nc b k) := by
  rw [List.find?_cons, h0]
  simp only
  rw [List.find?_eq_some_iff_getElem]
  refine ⟨hp, k, by rw [nine_len]; exact hk, nine_at b k _, fun j hj => ?_⟩
  rw [nine_at b j _, hn j hj]; rfl
theorem nine_none {P : Cel → Bool} {b : Cel} (h0 : P b = false) (hn : ∀ j, j < 9 → P (nc b j) = false) : (b :: nineN b).find? P = none := by
  rw [List.find?_eq_none]
  intro c hc
  rcases List.mem_cons.1 hc with rfl | hc
  · rw [h0]; simp
  · obtain ⟨j, hj, rfl⟩ := List.getElem_of_mem hc
    rw [nine_len] at hj
    rw [nine_at b j _, hn j hj]; simp
theorem free2 {W' : World} {R : Nat} {x y : Value} {t : TypeId} (hR : W'.heap[R]? = some (.cells #[x, y] t)) : W'.cell? ⟨R, 0, none⟩ = some x ∧ W'.cell? ⟨R, 1, none⟩ = some y ∧ W'.frozen? ⟨R, 0, none⟩ = false ∧ W'.frozen? ⟨R, 1, none⟩ = false := by simp [World.cell?, World.frozen?, hR]
/-- A cell written into a box. -/
theorem set2 {W' V : World} {R : Nat} {x0 x1 a b : Value} {t : TypeId} (hR : W'.heap[R]? = some (.cells #[x0, x1] t)) (hV : V = (W'.setCell ⟨R, 0, none⟩ a).setCell ⟨R, 1, none⟩ b) : (V.cell? ⟨R, 0, none⟩ = some a ∧ V.cell? ⟨R, 1, none⟩ = some b) ∧ Ex (fun g => g = R) W' V := by
  have h1 := heap_setCell_same W' R 0 _ t a hR
  have h2 := heap_setCell_same _ R 1 _ t b h1
  have hRV : V.heap[R]? = some (.cells #[a, b] t) := by rw [hV, h2]; rfl
  refine ⟨by simp [World.cell?, hRV], ?_⟩
  subst hV
  exact ex_set (ex_set (Ex.refl (fun g => g = R) _) ⟨R, 0, none⟩ rfl _) ⟨R, 1, none⟩ rfl _
/-- What is known of a shop that is only looked at. -/
structure look (J W H : Nat) (l : List Int) (lt : List Trp) (V : World) : Prop where
  f : okf W H l
  h : lt.length ≤ 100
  m : ∃ (p : Option Addr) (c : Nat) (pt : Option Addr) (ct : Nat), V.cell? ⟨J, 0, none⟩ = some (.int .i64 (W : Int)) ∧ V.cell? ⟨J, 1, none⟩ = some (.int .i64 (H : Int)) ∧ V.cell? ⟨J, 2, none⟩ = some (.slice p l.length c) ∧ V.cell? ⟨J, 6, none⟩ = some (.slice pt lt.length ct) ∧ row vi V p l ∧ trow V pt lt
theorem look_below {J W H : Nat} {l : List Int} {lt : List Trp} {V U : World} (h : look J W H l lt V) (hU : Below V.heap.size V U) : look J W H l lt U := by
  obtain ⟨p, c, pt, ct, h0, h1, h2, h6, hr, ht⟩ := h.m
  exact ⟨h.f, h.h, p, c, pt, ct, cell_call2 h0 hU, cell_call2 h1 hU, cell_call2 h2 hU, cell_call2 h6 hU, row_below hr hU, trow_below ht hU⟩
theorem isFree_look {J W H : Nat} {l : List Int} {lt : List Trp} {V : World} (h : look J W H l lt V) (x y : Int) (b : Bool) (hb : Hid (freq W H l lt ⟨x, y⟩ = b)) :
    Calls Try.prog 70 #[.pointer (some ⟨J, 0, none⟩), .agg #[.int .i64 x, .int .i64 y]] V fun e w' => e = .returned (.bool b) ∧ Below V.heap.size V w' := by
  obtain ⟨p, c, pt, ct, h0, h1, h2, h6, hr, ht⟩ := h.m
  exact isFree_at J W H p _ c l pt _ ct lt x y b V h0 h1 h2 h6 hr rfl h.f ht rfl h.h hb
set_option maxRecDepth 20000 in
set_option maxHeartbeats 4000000 in
theorem freeBeside_at (J W H X Y : Nat) (l : List Int) (lt : List Trp) (o : Option Cel) (V : World) (h : look J W H l lt V) (hX : X < 40) (hY : Y < 40) (ho : Hid (((⟨X, Y⟩ : Cel) :: nineN ⟨X, Y⟩).find? (freq W H l lt) = o)) :
    Calls Try.prog 65 #[.pointer (some ⟨J, 0, none⟩), .agg #[.int .i64 (X : Int), .int .i64 (Y : Int)]] V fun e w' => e = .returned (.tuple #[celv o, .bool o.isSome]) ∧ Below V.heap.size V w' := by
  obtain ⟨F, hF⟩ : ∃ F, V.heap.size = F := ⟨_, rfl⟩
  obtain ⟨w0, hw0⟩ : ∃ w0, (V.alloc (.cells #[.int .i64 (X : Int), .int .i64 (Y : Int)] 45)).alloc (.cells #[.int .i64 0, .int .i64 0] 45) = w0 := ⟨_, rfl⟩
  have hb0 : Below V.heap.size V w0 := by rw [← hw0]; exact (alloc_below V _).alloc (by simp) _
  have HB0 : Hid (Below V.heap.size V w0) := hb0
  have hs0 : w0.heap.size = F + 2 := by rw [← hw0, World.size_alloc, World.size_alloc, hF]
  have hx0 : w0.heap[F]? = some (.cells #[.int .i64 (X : Int), .int .i64 (Y : Int)] 45) := by
    rw [← hw0, ← hF]
    exact (((alloc_below (V.alloc (.cells #[.int .i64 (X : Int), .int .i64 (Y : Int)] 45)) _).block V.heap.size (by simp)).trans (World.alloc_heap_new V _))
  have hr0 : w0.heap[F + 1]? = some (.cells #[.int .i64 0, .int .i64 0] 45) := by
    have := World.alloc_heap_new (V.alloc (.cells #[.int .i64 (X : Int), .int .i64 (Y : Int)] 45)) (.cells #[.int .i64 0, .int .i64 0] 45)
    rw [World.size_alloc, hF, hw0] at this; exact this
  have HX : Hid (∀ U, Below w0.heap.size w0 U → U.heap[F]? = some (.cells #[.int .i64 (X : Int), .int .i64 (Y : Int)] 45) ∧ U.heap[F + 1]? = some (.cells #[.int .i64 0, .int .i64 0] 45)) := fun U hU => ⟨(hU.block F (by omega)).trans hx0, (hU.block (F + 1) (by omega)).trans hr0⟩
  have HF : Hid (V.heap.size = F ∧ w0.heap.size = F + 2) := ⟨hF, hs0⟩
  have HFR : Hid (∀ x y b U, freq W H l lt ⟨x, y⟩ = b → Below w0.heap.size w0 U → Calls Try.prog 70 #[.pointer (some ⟨J, 0, none⟩), .agg #[.int .i64 x, .int .i64 y]] U fun e w' => e = .returned (.bool b) ∧ Below U.heap.size U w') := fun x y b U hb hU => isFree_look (look_below h (below_step hb0 hb0.size hU)) x y b hb
  obtain ⟨e0, e1, -, -⟩ := free2 hx0
  clear h hb0 hx0 hr0 hs0
  cases hb : freq W H l lt ⟨(X : Int), (Y : Int)⟩ with
  | true =>
    have HC : Hid (Calls Try.prog 70 #[.pointer (some ⟨J, 0, none⟩), .agg #[.int .i64 (X : Int), .int .i64 (Y : Int)]] w0 fun e w' => e = .returned (.bool true) ∧ Below w0.heap.size w0 w') := HFR.out _ _ _ w0 hb (Below.refl _ _)
    have hoo : o = some ⟨X, Y⟩ := by rw [← ho.out, List.find?_cons, hb]
    subst hoo
    clear ho hb
    go_enter Try.func65, Try.ntmps65
    go_wp2_with fail
    refine Calls.mono HC.out ?_
    rintro e w1 ⟨rfl, hb1⟩
    have HB1 : Hid (Below w0.heap.size w0 w1) := hb1
    obtain ⟨x1, r1⟩ := HX.out w1 hb1
    have HR1 : Hid (w1.heap[F + 1]? = some (.cells #[.int .i64 0, .int .i64 0] 45)) := r1
    clear e0 e1 hb1
    obtain ⟨e0, e1, -, -⟩ := free2 x1
    obtain ⟨r0_, r1_, f0, f1⟩ := free2 r1
    clear x1 r1 hw0
    go_wp2_with fail
    obtain ⟨U, hU⟩ : ∃ U, (w1.setCell ⟨F + 1, 0, none⟩ (.int .i64 (X : Int))).setCell ⟨F + 1, 1, none⟩ (.int .i64 (Y : Int)) = U := ⟨_, rfl⟩
    first | rw [hU] | skip
    obtain ⟨⟨t0, t1⟩, kx⟩ := set2 HR1.out hU.symm
    refine ⟨by simp, .tuple #[.agg #[.int .i64 (X : Int), .int .i64 (Y : Int)], .bool true], ?_, rfl, ?_⟩
    · simp [results, Try.results65, go_sem, t0, t1]
    · have h9 : Below V.heap.size V U := (below_step HB0.out HB0.out.size HB1.out).trans (kx.below (B := V.heap.size) (by have := HF.out; have := HB1.out.size; omega) (fun k hk e => by have := HF.out; omega))
      first | exact h9 | (rw [← HF.out.1]; exact h9)
  | false =>
    have HC : Hid (Calls Try.prog 70 #[.pointer (some ⟨J, 0, none⟩), .agg #[.int .i64 (X : Int), .int .i64 (Y : Int)]] w0 fun e w' => e = .returned (.bool false) ∧ Below w0.heap.size w0 w') := HFR.out _ _ _ w0 hb (Below.refl _ _)
    have HB_ : Hid (freq W H l lt ⟨(X : Int), (Y : Int)⟩ = false) := hb
    clear hb
    go_enter Try.func65, Try.ntmps65
    go_wp2_with fail
    refine Calls.mono HC.out ?_
    rintro e w1 ⟨rfl, hb1⟩
    have HB1 : Hid (Below w0.heap.size w0 w1) := hb1
    obtain ⟨x1, r1⟩ := HX.out w1 hb1
    clear e0 e1 hb1
    obtain ⟨e0, e1, -, -⟩ := free2 x1
    clear x1 r1 hw0
    go_wp2_with fail
    clear e0 e1
    go_loopw [6] (fun v wr => ∃ (i : Nat) (y : Int), v = .int .i64 y ∧ i ≤ 3 ∧ Hid (y = (Y : Int) - 1 + (i : Int) ∧ Below w0.heap.size w0 wr ∧ ∀ j, j < 3 * i → freq W H l lt (nc ⟨X, Y⟩ j) = false)) (fun v _ => (Y + 2 - intOf v).toNat)
    case atStart => exact ⟨0, _, rfl, by omega, by simp, HB1.out, fun j hj => by omega⟩
    case round =>
      obtain ⟨i, y, rfl, hi, HS⟩ := hrel
      have hy := HS.out.1
      have y0 : -1 ≤ y := by omega
      have y2 : y ≤ 42 := by omega
      obtain ⟨x1, r1⟩ := HX.out wr HS.out.2.1
      obtain ⟨e0, e1, -, -⟩ := free2 x1
      by_cases hi3 : i < 3
      · have hle : y ≤ (Y : Int) + 1 := by omega
        clear x1 r1 hy
        go_wp2_with fail
        clear e0 e1
        obtain ⟨w2, hw2⟩ : ∃ w2 : World, w2 = wr := ⟨_, rfl⟩
        subst hw2
        go_loopw [7] (fun v wr => ∃ (k : Nat) (x : Int), v = .int .i64 x ∧ k ≤ 3 ∧ Hid (x = (X : Int) - 1 + (k : Int) ∧ Below w0.heap.size w0 wr ∧ ∀ j, j < 3 * i + k → freq W H l lt (nc ⟨X, Y⟩ j) = false)) (fun v _ => (X + 2 - intOf v).toNat)
        case atStart => exact ⟨0, _, rfl, by omega, by simp, HS.out.2.1, HS.out.2.2⟩
        case round =>
          obtain ⟨k, x, rfl, hk, HT⟩ := hrel
          have hx := HT.out.1
          have x0 : -1 ≤ x := by omega
          have x2 : x ≤ 42 := by omega
          obtain ⟨x1, r1⟩ := HX.out wr HT.out.2.1
          obtain ⟨e0, e1, -, -⟩ := free2 x1
          by_cases hk3 : k < 3
          · have hlx : x ≤ (X : Int) + 1 := by omega
            have HNC : Hid (nc ⟨X, Y⟩ (3 * i + k) = ⟨x, y⟩) := by
              have h1 : (3 * i + k) % 3 = k := by omega
              have h2 : (3 * i + k) / 3 = i := by omega
              have h3 := HS.out.1
              unfold Hid nc
              simp only [h1, h2]
              rw [hx, h3]
            obtain ⟨w3, hw3⟩ : ∃ w3, wr.alloc (.cells #[.int .i64 x, .int .i64 y] 45) = w3 := ⟨_, rfl⟩
            have hb3 : Below w0.heap.size w0 w3 := by rw [← hw3]; exact HT.out.2.1.alloc HT.out.2.1.size _
            obtain ⟨G, hG⟩ : ∃ G, wr.heap.size = G := ⟨_, rfl⟩
            have hk3 : w3.heap[G]? = some (.cells #[.int .i64 x, .int .i64 y] 45) := by rw [← hw3, ← hG]; exact World.alloc_heap_new wr _
            obtain ⟨g0, g1, -, -⟩ := free2 hk3
            cases hfr : freq W H l lt ⟨x, y⟩ with
            | true =>
              have HC3 : Hid (Calls Try.prog 70 #[.pointer (some ⟨J, 0, none⟩), .agg #[.int .i64 x, .int .i64 y]] w3 fun e w' => e = .returned (.bool true) ∧ Below w3.heap.size w3 w') := HFR.out _ _ _ w3 hfr hb3
              have HO : Hid (o = some ⟨x, y⟩) := by
                unfold Hid
                rw [← ho.out, ← HNC.out]
                exact nine_some HB_.out (by omega) HT.out.2.2 (by rw [HNC.out]; exact hfr)
              have HK3 : Hid (w3.heap[G]? = some (.cells #[.int .i64 x, .int .i64 y] 45)) := hk3
              have HB3 : Hid (Below w0.heap.size w0 w3) := hb3
              clear hfr hx r1 x1 hb3 hk3
              go_wp2_with fail
              refine Calls.mono HC3.out ?_
              rintro e w4 ⟨rfl, hb4⟩
              have hb04 : Below w0.heap.size w0 w4 := below_step HB3.out HB3.out.size hb4
              obtain ⟨x1, r1⟩ := HX.out w4 hb04
              have HR1 : Hid (w4.heap[F + 1]? = some (.cells #[.int .i64 0, .int .i64 0] 45)) := r1
              have HB4 : Hid (Below w0.heap.size w0 w4) := hb04
              have hk4 : w4.heap[G]? = some (.cells #[.int .i64 x, .int .i64 y] 45) := (hb4.block G (heap_lt HK3.out)).trans HK3.out
              clear e0 e1 g0 g1 hw3 hb4 hb04
              obtain ⟨g0, g1, -, -⟩ := free2 hk4
              obtain ⟨r0_, r1_, f0, f1⟩ := free2 r1
              clear x1 r1 hk4
              go_wp2_with fail
              obtain ⟨U, hU⟩ : ∃ U, (w4.setCell ⟨F + 1, 0, none⟩ (.int .i64 x)).setCell ⟨F + 1, 1, none⟩ (.int .i64 y) = U := ⟨_, rfl⟩
              first | rw [hU] | skip
              obtain ⟨⟨t0, t1⟩, kx⟩ := set2 HR1.out hU.symm
              refine ⟨by simp, .tuple #[.agg #[.int .i64 x, .int .i64 y], .bool true], ?_, by rw [HO.out]; rfl, ?_⟩
              · simp [results, Try.results65, go_sem, t0, t1]
              · have h9 : Below V.heap.size V U := (below_step HB0.out HB0.out.size HB4.out).trans (kx.below (B := V.heap.size) (by have := HF.out; have := HB4.out.size; omega) (fun k hk e => by have := HF.out; omega))
                first | exact h9 | (rw [← HF.out.1]; exact h9)
            | false =>
              have HC3 : Hid (Calls Try.prog 70 #[.pointer (some ⟨J, 0, none⟩), .agg #[.int .i64 x, .int .i64 y]] w3 fun e w' => e = .returned (.bool false) ∧ Below w3.heap.size w3 w') := HFR.out _ _ _ w3 hfr hb3
              have HN : Hid (∀ j, j < 3 * i + (k + 1) → freq W H l lt (nc ⟨X, Y⟩ j) = false) := fun j hj => by
                by_cases e : j = 3 * i + k
                · rw [e, HNC.out]; exact hfr
                · exact HT.out.2.2 j (by omega)
              have HB3 : Hid (Below w0.heap.size w0 w3) := hb3
              have HXX : Hid (x + 1 = (X : Int) - 1 + ((k + 1 : Nat) : Int)) := by unfold Hid; omega
              clear hfr hx r1 x1 hb3 hk3
              go_wp2_with fail
              refine Calls.mono HC3.out ?_
              rintro e w4 ⟨rfl, hb4⟩
              have HB4 : Hid (Below w0.heap.size w0 w4) := below_step HB3.out HB3.out.size hb4
              clear e0 e1 g0 g1 hw3 hb4
              go_wp2_with fail
              go_roundw
              case rel => exact ⟨k + 1, _, rfl, by omega, HXX.out, HB4.out, HN.out⟩
              case measure => simp [intOf]; omega
          · have hgx : ¬ x ≤ (X : Int) + 1 := by omega
            have HN : Hid (∀ j, j < 3 * (i + 1) → freq W H l lt (nc ⟨X, Y⟩ j) = false) := fun j hj => HT.out.2.2 j (by omega)
            have HB4 : Hid (Below w0.heap.size w0 wr) := HT.out.2.1
            have HYY : Hid (y + 1 = (Y : Int) - 1 + ((i + 1 : Nat) : Int)) := by have := HS.out.1; unfold Hid; omega
            clear hx r1 x1
            go_wp2_with fail
            go_roundw
            case rel => exact ⟨i + 1, _, rfl, by omega, HYY.out, HB4.out, HN.out⟩
            case measure => simp [intOf]; omega
      · have hgy : ¬ y ≤ (Y : Int) + 1 := by omega
        have HO : Hid (o = none) := by
          unfold Hid
          rw [← ho.out]
          exact nine_none HB_.out (fun j hj => HS.out.2.2 j (by omega))
        have HR1 : Hid (wr.heap[F + 1]? = some (.cells #[.int .i64 0, .int .i64 0] 45)) := r1
        have HB4 : Hid (Below w0.heap.size w0 wr) := HS.out.2.1
        obtain ⟨r0_, r1_, f0, f1⟩ := free2 r1
        clear hy x1 r1
        go_wp2_with fail
        obtain ⟨U, hU⟩ : ∃ U, (wr.setCell ⟨F + 1, 0, none⟩ (.int .i64 0)).setCell ⟨F + 1, 1, none⟩ (.int .i64 0) = U := ⟨_, rfl⟩
        first | rw [hU] | skip
        obtain ⟨⟨t0, t1⟩, kx⟩ := set2 HR1.out hU.symm
        refine ⟨by simp, .tuple #[.agg #[.int .i64 0, .int .i64 0], .bool false], ?_, by rw [HO.out]; rfl, ?_⟩
        · simp [results, Try.results65, go_sem, t0, t1]
        · have h9 : Below V.heap.size V U := (below_step HB0.out HB0.out.size HB4.out).trans (kx.below (B := V.heap.size) (by have := HF.out; have := HB4.out.size; omega) (fun k hk e => by have := HF.out; omega))
          first | exact h9 | (rw [← HF.out.1]; exact h9)
end Go.Proofs.Ytdcjjfipnilmpaa
