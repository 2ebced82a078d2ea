/- What goods.isBeside and goods.isFree return. -/
import Derived.Test.YtdcjjfipnilmpaaPb
namespace Go.Proofs.Ytdcjjfipnilmpaa
open Go.RowKit
set_option linter.unusedVariables false

set_option maxRecDepth 20000 in
set_option maxHeartbeats 1000000 in
theorem isBeside_at (ax ay bx by_ : Int) (b : Bool) (V : World) (h1 : near ax ay = true) (h2 : near bx by_ = true) (hb : Hid (decide (kg ax ay bx by_ ≤ 1) = b)) :
    Calls Try.prog 64 #[.agg #[.int .i64 ax, .int .i64 ay], .agg #[.int .i64 bx, .int .i64 by_]] V fun e w' => e = .returned (.bool b) ∧ Below V.heap.size V w' := by
  obtain ⟨q, hq⟩ : ∃ q, kg ax ay bx by_ = q := ⟨_, rfl⟩
  obtain ⟨r, hr⟩ : ∃ r, ds ax bx + ds ay by_ = r := ⟨_, rfl⟩
  have HA : Hid (∀ V, Calls Try.prog 69 #[.agg #[.int .i64 ax, .int .i64 ay], .agg #[.int .i64 bx, .int .i64 by_]] V fun e w' => e = .returned (.tuple #[.int .i64 q, .int .i64 r, .int .i64 0]) ∧ Below V.heap.size V w') := fun V => by rw [← hq, ← hr]; exact Apart_yes ax ay bx by_ V h1 h2
  have HQ : Hid (decide (q ≤ 1) = b) := by rw [← hq]; exact hb
  clear h1 h2 hb hq hr
  obtain ⟨w0, hw0⟩ : ∃ w0, (V.alloc (.cells #[.int .i64 ax, .int .i64 ay] 45)).alloc (.cells #[.int .i64 bx, .int .i64 by_] 45) = w0 := ⟨_, rfl⟩
  have hb0 : Below V.heap.size V w0 := by rw [← hw0]; exact (alloc_below V _).alloc (by simp) _
  have HB0 : Hid (Below V.heap.size V w0) := hb0
  obtain ⟨F, hF⟩ : ∃ F, V.heap.size = F := ⟨_, rfl⟩
  have e0 : w0.cell? ⟨F, 0, none⟩ = some (.int .i64 ax) := by rw [← hw0, ← hF]; simp [go_sem]
  have e1 : w0.cell? ⟨F, 1, none⟩ = some (.int .i64 ay) := by rw [← hw0, ← hF]; simp [go_sem]
  have e2 : w0.cell? ⟨F + 1, 0, none⟩ = some (.int .i64 bx) := by rw [← hw0, ← hF]; simp [go_sem]
  have e3 : w0.cell? ⟨F + 1, 1, none⟩ = some (.int .i64 by_) := by rw [← hw0, ← hF]; simp [go_sem]
  clear hb0
  go_enter Try.func64, Try.ntmps64
  go_wp2_with fail
  refine (HA.out w0).mono ?_
  rintro e w1 ⟨rfl, hb1⟩
  have HB1 : Hid (Below V.heap.size V w1) := below_step HB0.out HB0.out.size hb1
  clear hb1
  go_wp2_with fail
  go_ret
  exact ⟨by rw [← HQ.out]; rfl, by first | exact HB1.out | (rw [← hF]; exact HB1.out)⟩
set_option maxRecDepth 20000 in
set_option maxHeartbeats 2000000 in
theorem isFree_at (J W H : Nat) (p : Option Addr) (n c : Nat) (l : List Int) (pt : Option Addr) (nt ct : Nat) (lt : List Trp) (x y : Int) (b : Bool) (V : World) (h0 : V.cell? ⟨J, 0, none⟩ = some (.int .i64 (W : Int))) (h1 : V.cell? ⟨J, 1, none⟩ = some (.int .i64 (H : Int)))
    (h2 : V.cell? ⟨J, 2, none⟩ = some (.slice p n c)) (h6 : V.cell? ⟨J, 6, none⟩ = some (.slice pt nt ct)) (hr : row vi V p l) (hl : l.length = n) (hf : okf W H l) (ht : trow V pt lt) (hn : lt.length = nt) (hm : nt ≤ 100) (hb : Hid (freq W H l lt ⟨x, y⟩ = b)) :
    Calls Try.prog 70 #[.pointer (some ⟨J, 0, none⟩), .agg #[.int .i64 x, .int .i64 y]] V fun e w' => e = .returned (.bool b) ∧ Below V.heap.size V w' := by
  obtain ⟨F, hF⟩ : ∃ F, V.heap.size = F := ⟨_, rfl⟩
  obtain ⟨w0, hw0⟩ : ∃ w0, V.alloc (.cells #[.int .i64 x, .int .i64 y] 45) = w0 := ⟨_, rfl⟩
  have hb0 : Below V.heap.size V w0 := by rw [← hw0]; exact alloc_below _ _
  have e0 : w0.cell? ⟨F, 0, none⟩ = some (.int .i64 x) := by rw [← hw0, ← hF]; simp [go_sem]
  have e1 : w0.cell? ⟨F, 1, none⟩ = some (.int .i64 y) := by rw [← hw0, ← hF]; simp [go_sem]
  obtain ⟨r, hr2⟩ : ∃ r, inb W H x y = r := ⟨_, rfl⟩
  have HP : Hid (Calls Try.prog 63 #[.pointer (some ⟨J, 0, none⟩), .agg #[.int .i64 x, .int .i64 y]] w0 fun e w' => e = .returned (.tuple #[.int .i64 (if r then (ixp W x y : Int) else 0), .bool r]) ∧ Below w0.heap.size w0 w') := placeOf_at J W H x y r w0 (cell_call2 h0 hb0) (cell_call2 h1 hb0) hf.1.2 hf.2.1.2 hr2
  have HB0 : Hid (Below V.heap.size V w0) := hb0
  have HJ : Hid (∀ U, Below V.heap.size V U → U.cell? ⟨J, 2, none⟩ = some (.slice p n c) ∧ U.cell? ⟨J, 6, none⟩ = some (.slice pt nt ct)) := fun U hU => ⟨cell_call2 h2 hU, cell_call2 h6 hU⟩
  have HR : Hid (row vi V p l) := hr
  have HL : Hid (l.length = n) := hl
  have HWH : Hid (l.length = W * H) := hf.2.2.1
  have HT : Hid (trow V pt lt) := ht
  have HNT : Hid (lt.length = nt) := hn
  have HE : Hid (∀ U, Below w0.heap.size w0 U → U.cell? ⟨F, 0, none⟩ = some (.int .i64 x) ∧ U.cell? ⟨F, 1, none⟩ = some (.int .i64 y)) := fun U hU => ⟨cell_call2 e0 hU, cell_call2 e1 hU⟩
  clear h0 h1 h2 h6 hr hl hf ht hn hb0
  cases r with
  | false =>
    have hbf : b = false := by rw [← hb.out]; unfold freq opn; simp only; rw [hr2]; rfl
    subst hbf
    clear hb hr2
    go_enter Try.func70, Try.ntmps70
    go_wp2_with fail
    refine Calls.mono HP.out ?_
    rintro e w1 ⟨rfl, hb1⟩
    have HB1 : Hid (Below V.heap.size V w1) := below_step HB0.out HB0.out.size hb1
    clear hb1
    go_wp2_with fail
    go_ret
    exact ⟨rfl, by first | exact HB1.out | (rw [← hF]; exact HB1.out)⟩
  | true =>
    obtain ⟨X, Y, rfl, rfl, hX, hY⟩ := inb_nat hr2
    have hix : ixp W (X : Int) (Y : Int) = Y * W + X := by unfold ixp; simp
    obtain ⟨I, hI⟩ : ∃ I, Y * W + X = I := ⟨_, rfl⟩
    have hIl : I < l.length := by rw [HWH.out, ← hI]; exact place_lt hX hY
    rw [hix, hI] at HP
    simp only [if_true] at HP
    obtain ⟨a, rfl, ha⟩ := row_at HR.out hIl
    obtain ⟨Z, hZ⟩ : ∃ Z, l[I] = Z := ⟨_, rfl⟩
    have hIn : (I : Int) < n := by have := HL.out; omega
    have hI0 : (0 : Int) ≤ I := by omega
    rw [hZ] at ha
    have HA : Hid (∀ U, Below V.heap.size V U → U.cell? (a.add I) = some (.int .i64 Z)) := fun U hU => cell_call2 ha hU
    have HO : Hid (opn W H l (X : Int) (Y : Int) = !(Z == 1)) := by
      unfold Hid
      rw [opn_in hX hY, hI, List.getD_eq_getElem?_getD, List.getElem?_eq_getElem hIl, hZ]; rfl
    have HFB : Hid ((!(Z == 1) && !onq lt ⟨(X : Int), (Y : Int)⟩) = b) := by
      have := hb.out; unfold freq at this; simp only at this; rw [HO.out] at this; exact this
    clear hb hr2 ha hZ hIl hix hI hX hY
    by_cases z1 : Z = 1
    · subst z1
      have hbf : b = false := by rw [← HFB.out]; simp
      subst hbf
      clear HFB HO
      go_enter Try.func70, Try.ntmps70
      go_wp2_with fail
      refine Calls.mono HP.out ?_
      rintro e w1 ⟨rfl, hb1⟩
      have HB1 : Hid (Below V.heap.size V w1) := below_step HB0.out HB0.out.size hb1
      obtain ⟨j2, j6⟩ := HJ.out w1 HB1.out
      have ja := HA.out w1 HB1.out
      clear hb1
      go_wp2_with fail
      go_ret
      exact ⟨rfl, by first | exact HB1.out | (rw [← hF]; exact HB1.out)⟩
    · have dz : (Z == 1) = false := by simp [z1]
      obtain ⟨o, ho⟩ : ∃ o, lt.any (onb (X : Int) (Y : Int)) = o := ⟨_, rfl⟩
      have hbo : b = !o := by rw [← HFB.out, dz, ← ho]; unfold onq; simp
      subst hbo
      have HCT : Hid (∀ U, Below w0.heap.size w0 U → Calls Try.prog 53 #[.slice pt nt ct, .func (.func 73) #[] #[.pointer (some ⟨F, 0, none⟩)]] U fun e w' => e = .returned (.bool o) ∧ Below U.heap.size U w') := fun U hU =>
        ContainsFunct_any Try.call73 _ pt nt ct lt (onb (X : Int) (Y : Int)) o U (trow_below HT.out (below_step HB0.out HB0.out.size hU)) HNT.out (by omega) ho (fun t V2 _ hV2 => Free1_at t X Y F V2 (cell_call2 (HE.out U hU).1 hV2) (cell_call2 (HE.out U hU).2 hV2))
      clear HFB HO ho
      go_enter Try.func70, Try.ntmps70
      go_wp2_with fail
      refine Calls.mono HP.out ?_
      rintro e w1 ⟨rfl, hb1⟩
      have HB1 : Hid (Below V.heap.size V w1) := below_step HB0.out HB0.out.size hb1
      have HC1 : Hid (Calls Try.prog 53 #[.slice pt nt ct, .func (.func 73) #[] #[.pointer (some ⟨F, 0, none⟩)]] w1 fun e w' => e = .returned (.bool o) ∧ Below w1.heap.size w1 w') := HCT.out w1 hb1
      obtain ⟨j2, j6⟩ := HJ.out w1 HB1.out
      have ja := HA.out w1 HB1.out
      clear hb1
      go_wp2_with fail
      refine Calls.mono HC1.out ?_
      rintro e w2 ⟨rfl, hb2⟩
      have HB2 : Hid (Below V.heap.size V w2) := below_step HB1.out HB1.out.size hb2
      clear hb2 j2 j6 ja
      go_wp2_with fail
      go_ret
      exact ⟨rfl, by first | exact HB2.out | (rw [← hF]; exact HB2.out)⟩
end Go.Proofs.Ytdcjjfipnilmpaa
