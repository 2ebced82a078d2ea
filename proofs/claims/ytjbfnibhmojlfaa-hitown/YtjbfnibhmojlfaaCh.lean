/- What canHit returns of two troops of a right world. -/
import Derived.Test.YtjbfnibhmojlfaaHk
import Derived.Test.YtjbfnibhmojlfaaSe
namespace Go.Proofs.Ytjbfnibhmojlfaa
open Go.RowKit
set_option linter.unusedVariables false

/-- A troop's box. -/
def c7 (V : World) (F : Nat) (i o k x y f d : Int) : Prop :=
  V.cell? ⟨F, 0, none⟩ = some (.int .i64 i) ∧ V.cell? ⟨F, 1, none⟩ = some (.int .i64 o) ∧ V.cell? ⟨F, 2, none⟩ = some (.int .i64 k) ∧ V.cell? ⟨F, 3, none⟩ = some (.int .i64 x) ∧ V.cell? ⟨F, 4, none⟩ = some (.int .i64 y) ∧ V.cell? ⟨F, 5, none⟩ = some (.int .i64 f) ∧ V.cell? ⟨F, 6, none⟩ = some (.int .i64 d)
/-- The boxes of a field and of two troops at a call's head. -/
theorem boxftt {w w3 V : World} {F : Nat} {A B C : Value} {si so sk sx sy sf sd_ ti to_ tk tx ty tf td : Int} {t0 t1 : TypeId} (hF : w.heap.size = F)
    (hw : ((w.alloc (.cells #[A, B, C] t0)).alloc (.cells #[.int .i64 si, .int .i64 so, .int .i64 sk, .int .i64 sx, .int .i64 sy, .int .i64 sf, .int .i64 sd_] t1)).alloc (.cells #[.int .i64 ti, .int .i64 to_, .int .i64 tk, .int .i64 tx, .int .i64 ty, .int .i64 tf, .int .i64 td] t1) = w3) (hb : Below w3.heap.size w3 V) :
    (V.cell? ⟨F, 0, none⟩ = some A ∧ V.cell? ⟨F, 1, none⟩ = some B ∧ V.cell? ⟨F, 2, none⟩ = some C) ∧ c7 V (F + 1) si so sk sx sy sf sd_ ∧ c7 V (F + 2) ti to_ tk tx ty tf td ∧ Below w.heap.size w V := by
  obtain ⟨w1, hw1⟩ : ∃ w1, w.alloc (.cells #[A, B, C] t0) = w1 := ⟨_, rfl⟩
  rw [hw1] at hw
  obtain ⟨w2, hw2⟩ : ∃ w2, w1.alloc (.cells #[.int .i64 si, .int .i64 so, .int .i64 sk, .int .i64 sx, .int .i64 sy, .int .i64 sf, .int .i64 sd_] t1) = w2 := ⟨_, rfl⟩
  rw [hw2] at hw
  have s1 : w1.heap.size = F + 1 := by rw [← hw1, World.size_alloc, hF]
  have s2 : w2.heap.size = F + 2 := by rw [← hw2, World.size_alloc, s1]
  have b1 : Below w.heap.size w w1 := by rw [← hw1]; exact alloc_below _ _
  have b2 : Below w1.heap.size w1 w2 := by rw [← hw2]; exact alloc_below _ _
  have b3 : Below w2.heap.size w2 w3 := by rw [← hw]; exact alloc_below _ _
  have b3V : Below w2.heap.size w2 V := b3.trans (hb.mono b3.size)
  have b2V : Below w1.heap.size w1 V := b2.trans (b3V.mono b2.size)
  have h1 : w1.heap[F]? = some (.cells #[A, B, C] t0) := by rw [← hw1, ← hF]; exact World.alloc_heap_new w _
  have hV : V.heap[F]? = some (.cells #[A, B, C] t0) := by rw [b2V.block F (by omega)]; exact h1
  exact ⟨by simp [World.cell?, hV], boxt s1 hw2 b3V, boxt s2 hw hb, b1.trans (b2V.mono b1.size)⟩
theorem hit_no {W : Nat} {l : List Int} {s t : Trp} (h : s.o = t.o) : hit W l s t = false := by unfold hit; simp [h]
theorem hit_far {W : Nat} {l : List Int} {s t : Trp} (h : rch s.k < kg s.x s.y t.x t.y) : hit W l s t = false := by
  unfold hit
  rw [decide_eq_false (show ¬ kg s.x s.y t.x t.y ≤ rch s.k by omega)]; simp
theorem hit_near {W : Nat} {l : List Int} {s t : Trp} (h0 : ¬ s.o = t.o) (h : kg s.x s.y t.x t.y ≤ rch s.k) : hit W l s t = se W l s.x s.y t.x t.y := by
  unfold hit
  rw [decide_eq_true h]; simp [h0]

set_option maxRecDepth 20000 in
set_option maxHeartbeats 2000000 in
theorem canHit_any (W H : Nat) (a : Addr) (c : Nat) (l : List Int) (s t : Trp) (b : Bool) (w : World) (hr : row vi w (some a) l) (hf : okf W H l) (hs : inb W H s.x s.y = true) (ht : inb W H t.x t.y = true) (hk : s.k = 1 ∨ s.k = 2) (hb : Hid (hit W l s t = b)) :
    Calls Try.prog 34 #[.agg #[.int .i64 (W : Int), .int .i64 (H : Int), .slice (some a) (W * H) c], tv s, tv t] w fun e w' => e = .returned (.bool b) ∧ Below w.heap.size w w' := by
  obtain ⟨x, y, ex, ey, lx, ly⟩ := inb_nat hs
  obtain ⟨u, v, eu, ev, lu, lv⟩ := inb_nat ht
  have hfar := @hit_far W l s t
  have hnear := @hit_near W l s t
  have hno := @hit_no W l s t
  have HKO : Hid (∀ V, Calls Try.prog 35 #[tv s] V fun e w' => (∃ a d : Int, e = .returned (.agg #[.int .i64 a, .int .i64 (rch s.k), .int .i64 (hrk s.k), .int .i64 d])) ∧ Below V.heap.size V w') := fun V => kindOf_any s V hk
  obtain ⟨si, so, sk, sx, sy, sf, sd_⟩ := s
  obtain ⟨ti, to_, tk, tx, ty, tf, td⟩ := t
  unfold tv at *
  dsimp only at *
  subst ex ey eu ev
  have n1 : near x y = true := near_in (by have := hf.1; omega) (by have := hf.2.1; omega)
  have n2 : near u v = true := near_in (by have := hf.1; omega) (by have := hf.2.1; omega)
  obtain ⟨R, hR⟩ : ∃ R, rch sk = R := ⟨_, rfl⟩
  obtain ⟨M, hM⟩ : ∃ M, hrk sk = M := ⟨_, rfl⟩
  obtain ⟨K, hK⟩ : ∃ K, kg (x : Int) y u v = K := ⟨_, rfl⟩
  obtain ⟨D, hD⟩ : ∃ D, ds (x : Int) u + ds (y : Int) v = D := ⟨_, rfl⟩
  rw [hR, hM] at HKO
  rw [hR, hK] at hfar hnear
  rw [hb.out] at hno hfar hnear
  have HNO : Hid (so = to_ → b = false) := hno
  have HFAR : Hid (R < K → b = false) := hfar
  have HNEAR : Hid (¬ so = to_ → K ≤ R → se W l (x : Int) y u v = b) := fun h1 h2 => (hnear h1 h2).symm
  have HA : Hid (∀ V, Calls Try.prog 55 #[.agg #[.int .i64 (x : Int), .int .i64 (y : Int)], .agg #[.int .i64 (u : Int), .int .i64 (v : Int)]] V fun e w' => e = .returned (.tuple #[.int .i64 K, .int .i64 D, .int .i64 0]) ∧ Below V.heap.size V w') := fun V => by have := Apart_yes x y u v V n1 n2; rw [hK, hD] at this; exact this
  have HS : Hid (∀ V b, Below w.heap.size w V → se W l (x : Int) y u v = b → Calls Try.prog 56 #[.agg #[.int .i64 (W : Int), .int .i64 (H : Int), .slice (some a) (W * H) c], .agg #[.int .i64 (x : Int), .int .i64 (y : Int)], .agg #[.int .i64 (u : Int), .int .i64 (v : Int)]] V fun e w' => e = .returned (.tuple #[.bool b, .int .i64 0]) ∧ Below V.heap.size V w') := fun V b hV h => Sees_ok W H a c l x y u v b V (row_below hr hV) hf lx ly lu lv h
  clear hno hfar hnear hr hf hs ht hk hb n1 n2 hR hM hK hD lx ly lu lv
  obtain ⟨w3, hw3⟩ : ∃ w3, ((w.alloc (.cells #[.int .i64 (W : Int), .int .i64 (H : Int), .slice (some a) (W * H) c] 24)).alloc (.cells #[.int .i64 si, .int .i64 so, .int .i64 sk, .int .i64 (x : Int), .int .i64 (y : Int), .int .i64 sf, .int .i64 sd_] 42)).alloc (.cells #[.int .i64 ti, .int .i64 to_, .int .i64 tk, .int .i64 (u : Int), .int .i64 (v : Int), .int .i64 tf, .int .i64 td] 42) = w3 := ⟨_, rfl⟩
  obtain ⟨F, hF⟩ : ∃ F, w.heap.size = F := ⟨_, rfl⟩
  have HBX : Hid (∀ V, Below w3.heap.size w3 V → _) := fun V hV => boxftt hF hw3 hV
  obtain ⟨⟨z0, z1, z2⟩, ⟨p0, p1, p2, p3, p4, p5, p6⟩, ⟨q0, q1, q2, q3, q4, q5, q6⟩, hb3⟩ := HBX.out w3 (Below.refl _ _)
  have HB3 : Hid (Below w.heap.size w w3) := hb3
  clear hb3
  by_cases ho : so = to_
  · have e0 : (so == to_) = true := by simp [ho]
    obtain rfl := HNO.out ho
    clear ho
    go_enter Try.func34, Try.ntmps34
    go_wp2_with fail
    go_ret
    exact ⟨rfl, by first | exact HB3.out | (rw [← hF]; exact HB3.out)⟩
  have e0 : (so == to_) = false := by simp [ho]
  have kf1 := kfield1
  have HO : Hid (¬ so = to_) := ho
  clear ho
  go_enter Try.func34, Try.ntmps34
  go_wp2_with fail
  refine (HA.out w3).mono ?_
  rintro e w4 ⟨rfl, hb4⟩
  have HB4 : Hid (Below w3.heap.size w3 w4) := hb4
  clear z0 z1 z2 p0 p1 p2 p3 p4 p5 p6 q0 q1 q2 q3 q4 q5 q6 hb4 hw3 hF
  obtain ⟨⟨z0, z1, z2⟩, ⟨p0, p1, p2, p3, p4, p5, p6⟩, ⟨q0, q1, q2, q3, q4, q5, q6⟩, -⟩ := HBX.out w4 HB4.out
  go_wp2_with fail
  refine (HKO.out w4).mono ?_
  rintro e w5 ⟨⟨k0, k3, rfl⟩, hb5⟩
  have HB5 : Hid (Below w3.heap.size w3 w5) := HB4.out.trans (hb5.mono HB4.out.size)
  clear z0 z1 z2 p0 p1 p2 p3 p4 p5 p6 q0 q1 q2 q3 q4 q5 q6 hb5
  obtain ⟨⟨z0, z1, z2⟩, ⟨p0, p1, p2, p3, p4, p5, p6⟩, ⟨q0, q1, q2, q3, q4, q5, q6⟩, hb5⟩ := HBX.out w5 HB5.out
  have HB5w : Hid (Below w.heap.size w w5) := hb5
  clear hb5
  by_cases hKR : R < K
  · obtain rfl := HFAR.out hKR
    go_wp2_with fail
    go_ret
    exact ⟨rfl, HB5w.out⟩
  have HSE : Hid (se W l (x : Int) y u v = b) := HNEAR.out HO.out (by omega)
  go_wp2_with fail
  refine (HS.out w5 b HB5w.out HSE.out).mono ?_
  rintro e w6 ⟨rfl, hb6⟩
  have HB6 : Hid (Below w.heap.size w w6) := HB5w.out.trans (hb6.mono HB5w.out.size)
  clear hb6
  cases b with
  | true =>
    go_wp2_with fail
    go_ret
    exact ⟨rfl, HB6.out⟩
  | false =>
    go_wp2_with fail
    go_ret
    exact ⟨rfl, HB6.out⟩
end Go.Proofs.Ytjbfnibhmojlfaa
