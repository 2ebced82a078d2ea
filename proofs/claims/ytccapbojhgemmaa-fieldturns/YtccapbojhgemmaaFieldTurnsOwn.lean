/- For every field: turned by four quarters it is as it was; of each sort it has as many places as before; what stood in a corner stands in the next one; and what is no field is told so. -/
import Derived.Test.YtccapbojhgemmaaRows
import Derived.Test.YtccapbojhgemmaaPost
import Derived.Test.YtccapbojhgemmaaOpen
import Derived.Test.YtccapbojhgemmaaUse
import Derived.Test.YtccapbojhgemmaaLives
import Derived.Test.YtccapbojhgemmaaCl
import Derived.Test.YtccapbojhgemmaaTn
import Derived.Test.YtccapbojhgemmaaNo
import Derived.Test.YtccapbojhgemmaaTu
import Derived.WalkKit
import Derived.ProofKit
import Derived.OpenShut
import Derived.SizedLaws
import Derived.ChangeMaps5
import Derived.JoinedCond
namespace Go.Proofs.Ytccapbojhgemmaa.fieldTurns
open Go.ChangeShapes Go.WideShapes Go.ChangeAt Go.RowKit
set_option linter.unusedVariables false

theorem own : ownKnob Try.prog.godebug = none := by kernel_rfl

theorem row_of {B g n c : Nat} {w : World} {L : List Int} (h : mine 3 vi B w (.slice (some ⟨g, 0, none⟩) n c) L) : row vi w (some ⟨g, 0, none⟩) L := by
  obtain ⟨p, c', hv, hr, _⟩ := mine_full h
  injection hv with h1 _ _
  rw [h1]; exact hr

set_option maxRecDepth 20000 in
set_option maxHeartbeats 4000000 in
theorem walk (s0 : Fld)  (w : World) (h0 : s0.fit w) (hs0 : s0.l.length * 8 ≤ 140737488351232) :
    Calls Try.prog 4 #[s0.val] w fun e w' => e = .returned (.bool true) ∧ Below w.heap.size w w' := by
  obtain ⟨A, B, p, c, l⟩ := s0
  unfold Fld.val
  dsimp only
  obtain ⟨_, _, hrow, hfl, hmax, hpn, hcap⟩ := h0
  dsimp only at hrow hfl hmax hpn hcap
  have HR : Hid (row vi w p l) := hrow
  obtain ⟨n, hn⟩ : ∃ n, l.length = n := ⟨_, rfl⟩
  have HN : Hid (l.length = n) := hn
  rw [hn] at hmax hcap ⊢
  have HC : Hid (n ≤ c) := hcap
  clear hs0 hrow hfl hpn hn hcap
  go_enter Try.func4, Try.ntmps4
  go_wp2_with fail
  obtain ⟨w0, hw0⟩ : ∃ w0, w.alloc (.cells #[.int .i64 A, .int .i64 B, .slice p n c] 24) = w0 := ⟨_, rfl⟩
  obtain ⟨F0, hF0⟩ : ∃ F0, w.heap.size = F0 := ⟨_, rfl⟩
  have HW0 : Hid (w.alloc (.cells #[.int .i64 A, .int .i64 B, .slice p n c] 24) = w0) := hw0
  have hb0 : Below w.heap.size w w0 := by rw [← hw0]; exact alloc_below w _
  rw [hw0]
  clear hw0
  by_cases hck : ck A B l = 0
  · obtain ⟨W, H, e1, e2, hW, hH, hl, hg⟩ := ck_yes hck
    subst e1 e2
    have hnl : W * H = n := by rw [← HN.out, hl]
    obtain ⟨a, ha⟩ := row_some HR.out (by rw [hl]; exact one_le hW hH)
    subst ha
    have hn16 : n ≤ 1600 := by rw [← hnl]; exact wh_le hW hH
    have hn1 : 1 ≤ n := by rw [← hnl]; exact one_le hW hH
    have hn1000 : n ≤ 1000000 := by omega
    have HX : Hid (rgt W H n l) := ⟨hW, hH, hnl, HN.out, hg⟩
    have hH40 : H ≤ 40 := hH.2
    have HL4 : Hid (tn H W (tn W H (tn H W (tn W H l))) = l) := tn_four hl
    obtain ⟨Z, hZ⟩ : ∃ Z, l.getD 0 0 = Z := ⟨_, rfl⟩
    have HZ : Hid (l.getD (0 * W + 0) 0 = Z) := by unfold Hid; simpa using hZ
    obtain ⟨X, hX⟩ : ∃ X : Nat, H - 1 = X := ⟨_, rfl⟩
    have HXH : Hid (X + 1 = H) := by unfold Hid; omega
    have hXi : (H : Int) - 1 = (X : Int) := by omega
    have HZ1 : Hid ((tn W H l).getD (0 * H + X) 0 = Z) := by unfold Hid; rw [← hX, ← hZ, ← tn_corner (W := W) (H := H) (l := l) hW.1 hH.1]; simp
    have HPM : Hid ((tn W H l).Perm l) := tn_perm hl
    clear hck hW hH hl hg hnl hZ hX
    refine (Turn_n W H n a c l w0 (row_below HR.out hb0) HX.out HC.out).mono ?_
    rintro e w1 ⟨P1, rfl, hr1, hb1⟩
    have HX1 := rgt_tn HX.out
    obtain ⟨l1, hl1⟩ : ∃ l1, tn W H l = l1 := ⟨_, rfl⟩
    rw [hl1] at hr1 HX1 HL4 HZ1 HPM
    have HX1 : Hid (rgt H W n l1) := HX1
    have HR1 : Hid (row vi w1 (some ⟨P1, 0, none⟩) l1) := hr1
    have HB1 : Hid (Below w0.heap.size w0 w1) := hb1
    clear hr1 hb1 hl1
    go_wp2_with fail
    obtain ⟨wa, hwa⟩ : ∃ wa, w1.alloc (.cells #[.int .i64 (H : Int), .int .i64 (W : Int), .slice (some ⟨P1, 0, none⟩) n n] 24) = wa := ⟨_, rfl⟩
    obtain ⟨Fa, hFa⟩ : ∃ Fa, w1.heap.size = Fa := ⟨_, rfl⟩
    have HWA : Hid (w1.alloc (.cells #[.int .i64 (H : Int), .int .i64 (W : Int), .slice (some ⟨P1, 0, none⟩) n n] 24) = wa) := hwa
    have hb1a : Below w1.heap.size w1 wa := by rw [← hwa]; exact alloc_below _ _
    have HB1a : Hid (Below w1.heap.size w1 wa) := hb1a
    rw [hwa]
    refine (Turn_n H W n ⟨P1, 0, none⟩ n l1 wa (row_below HR1.out hb1a) HX1.out (Nat.le_refl _)).mono ?_
    rintro e w2 ⟨P2, rfl, hr2, hb2⟩
    have HX2 := rgt_tn HX1.out
    obtain ⟨l2, hl2⟩ : ∃ l2, tn H W l1 = l2 := ⟨_, rfl⟩
    rw [hl2] at hr2 HX2 HL4
    have HX2 : Hid (rgt W H n l2) := HX2
    have HR2 : Hid (row vi w2 (some ⟨P2, 0, none⟩) l2) := hr2
    have HB2 : Hid (Below wa.heap.size wa w2) := hb2
    clear hr2 hb2 hl2 hwa hb1a
    go_wp2_with fail
    have hb2b := alloc_below w2 (.cells #[.int .i64 (W : Int), .int .i64 (H : Int), .slice (some ⟨P2, 0, none⟩) n n] 24)
    refine (Turn_n W H n ⟨P2, 0, none⟩ n l2 _ (row_below HR2.out hb2b) HX2.out (Nat.le_refl _)).mono ?_
    rintro e w3 ⟨P3, rfl, hr3, hb3⟩
    have HX3 := rgt_tn HX2.out
    obtain ⟨l3, hl3⟩ : ∃ l3, tn W H l2 = l3 := ⟨_, rfl⟩
    rw [hl3] at hr3 HX3 HL4
    have HX3 : Hid (rgt H W n l3) := HX3
    have HR3 : Hid (row vi w3 (some ⟨P3, 0, none⟩) l3) := hr3
    have HB3 : Hid (Below w2.heap.size w2 w3) := below_step hb2b (by simp) hb3
    clear hr3 hb3 hl3 hb2b
    go_wp2_with fail
    have hb3c := alloc_below w3 (.cells #[.int .i64 (H : Int), .int .i64 (W : Int), .slice (some ⟨P3, 0, none⟩) n n] 24)
    refine (Turn_n H W n ⟨P3, 0, none⟩ n l3 _ (row_below HR3.out hb3c) HX3.out (Nat.le_refl _)).mono ?_
    rintro e w4 ⟨P4, rfl, hr4, hb4⟩
    rw [HL4.out] at hr4
    have HR4 : Hid (row vi w4 (some ⟨P4, 0, none⟩) l) := hr4
    have HB4 : Hid (Below w3.heap.size w3 w4) := below_step hb3c (by simp) hb4
    clear hr4 hb4 hb3c
    go_wp2_with fail
    obtain ⟨wd, hwd⟩ : ∃ wd, w4.alloc (.cells #[.int .i64 (W : Int), .int .i64 (H : Int), .slice (some ⟨P4, 0, none⟩) n n] 24) = wd := ⟨_, rfl⟩
    obtain ⟨Fd, hFd⟩ : ∃ Fd, w4.heap.size = Fd := ⟨_, rfl⟩
    have hb4d : Below w4.heap.size w4 wd := by rw [← hwd]; exact alloc_below _ _
    rw [hwd]
    refine (lives_any _).mono ?_
    rintro e w6 ⟨rfl, hb6⟩
    have c34 : Below w2.heap.size w2 w4 := HB3.out.trans (HB4.out.mono HB3.out.size)
    have c46 : Below w4.heap.size w4 w6 := below_step hb4d (by have := hb4d.size; omega) hb6
    have c26 : Below w2.heap.size w2 w6 := c34.trans (c46.mono c34.size)
    have ca6 : Below wa.heap.size wa w6 := HB2.out.trans (c26.mono HB2.out.size)
    have c16 : Below w1.heap.size w1 w6 := HB1a.out.trans (ca6.mono HB1a.out.size)
    have c06 : Below w0.heap.size w0 w6 := HB1.out.trans (c16.mono HB1.out.size)
    have cw6 : Below w.heap.size w w6 := hb0.trans (c06.mono hb0.size)
    have HBX : Hid (∀ V, Below w6.heap.size w6 V → V.cell? ⟨F0, 0, none⟩ = some (.int .i64 (W : Int)) ∧ V.cell? ⟨F0, 1, none⟩ = some (.int .i64 (H : Int)) ∧ V.cell? ⟨F0, 2, none⟩ = some (.slice (some a) n c) ∧ F0 < V.heap.size ∧
        V.cell? ⟨Fa, 0, none⟩ = some (.int .i64 (H : Int)) ∧ V.cell? ⟨Fa, 1, none⟩ = some (.int .i64 (W : Int)) ∧ V.cell? ⟨Fa, 2, none⟩ = some (.slice (some ⟨P1, 0, none⟩) n n) ∧ Fa < V.heap.size ∧
        V.cell? ⟨Fd, 0, none⟩ = some (.int .i64 (W : Int)) ∧ V.cell? ⟨Fd, 1, none⟩ = some (.int .i64 (H : Int)) ∧ V.cell? ⟨Fd, 2, none⟩ = some (.slice (some ⟨P4, 0, none⟩) n n) ∧ Fd < V.heap.size) := fun V hV => by
      obtain ⟨x0, x1, x2, x3⟩ := box_at hF0 (w1 := V) (by rw [HW0.out]; exact c06.trans (hV.mono c06.size))
      obtain ⟨y0, y1, y2, y3⟩ := box_at hFa (w1 := V) (by rw [HWA.out]; exact ca6.trans (hV.mono ca6.size))
      obtain ⟨z0, z1, z2, z3⟩ := box_at hFd (w1 := V) (by rw [hwd]; exact hb6.trans (hV.mono hb6.size))
      exact ⟨x0, x1, x2, x3, y0, y1, y2, y3, z0, z1, z2, z3⟩
    have HRX : Hid (∀ V, Below w6.heap.size w6 V → row vi V (some a) l ∧ row vi V (some ⟨P1, 0, none⟩) l1 ∧ row vi V (some ⟨P4, 0, none⟩) l ∧ Below w.heap.size w V) := fun V hV =>
      ⟨row_below HR.out (cw6.trans (hV.mono cw6.size)), row_below HR1.out (c16.trans (hV.mono c16.size)), row_below HR4.out (c46.trans (hV.mono c46.size)), cw6.trans (hV.mono cw6.size)⟩
    clear hwd hb4d hb6 c34 c46 c26 ca6 c16 c06 cw6 hb0
    obtain ⟨f0, f1, f2, f3, a0, a1, a2, a3, d0, d1, d2, d3⟩ := HBX.out w6 (Below.refl _ _)
    go_wp2_with fail
    refine (Same_yes W H (some ⟨P4, 0, none⟩) (some a) n n c l w6 HN.out (by omega) (HRX.out w6 (Below.refl _ _)).2.2.1 (HRX.out w6 (Below.refl _ _)).1).mono ?_
    rintro e w7 ⟨rfl, hb7⟩
    have HB67 : Hid (Below w6.heap.size w6 w7) := hb7
    clear hb7 f0 f1 f2 f3 a0 a1 a2 a3 d0 d1 d2 d3
    obtain ⟨_, _, _, _, a0, a1, a2, a3, _⟩ := HBX.out w7 HB67.out
    go_wp2_with fail
    refine (Check_n H W n (some ⟨P1, 0, none⟩) n l1 w7 (HRX.out w7 HB67.out).2.1 HX1.out).mono ?_
    rintro e w8 ⟨rfl, hb8⟩
    have HB68 : Hid (Below w6.heap.size w6 w8) := HB67.out.trans (hb8.mono HB67.out.size)
    clear hb8 a0 a1 a2 a3
    obtain ⟨_, _, f2, f3, _, _, a2, a3, _⟩ := HBX.out w8 HB68.out
    have HCF : Hid (∀ V, Below w8.heap.size w8 V → Calls Try.prog 12 #[.slice (some a) n c] V fun e w' => ∃ g c', e = .returned (.slice (some ⟨g, 0, none⟩) n c') ∧ V.heap.size ≤ g ∧ g < w'.heap.size ∧ mine 3 vi V.heap.size w' (.slice (some ⟨g, 0, none⟩) n c') l ∧ Below V.heap.size V w') :=
      fun V hV => Clone_n a n c l V (HRX.out V (HB68.out.trans (hV.mono HB68.out.size))).1 HN.out hn1 hn16
    have HCX : Hid (∀ V, Below w8.heap.size w8 V → Calls Try.prog 12 #[.slice (some ⟨P1, 0, none⟩) n n] V fun e w' => ∃ g c', e = .returned (.slice (some ⟨g, 0, none⟩) n c') ∧ V.heap.size ≤ g ∧ g < w'.heap.size ∧ mine 3 vi V.heap.size w' (.slice (some ⟨g, 0, none⟩) n c') l1 ∧ Below V.heap.size V w') :=
      fun V hV => Clone_n ⟨P1, 0, none⟩ n n l1 V (HRX.out V (HB68.out.trans (hV.mono HB68.out.size))).2.1 HX1.out.2.2.2.1 hn1 hn16
    have HLn : Hid (l.length = n) := HN.out
    have HLn1 : Hid (l1.length = n) := HX1.out.2.2.2.1
    obtain ⟨L0, hL0⟩ : ∃ L0, l.mergeSort (fun x y => decide (x ≤ y)) = L0 := ⟨_, rfl⟩
    have HL0 : Hid (l.mergeSort (fun x y => decide (x ≤ y)) = L0) := hL0
    have HL1s : Hid (l1.mergeSort (fun x y => decide (x ≤ y)) = L0) := by unfold Hid; rw [sort_same HPM.out]; exact hL0
    have HL0n : Hid (L0.length = n) := by unfold Hid; rw [← hL0, List.length_mergeSort]; exact HN.out
    clear hL0
    go_wp2_with fail
    go_region_held3 (fun V => Below w8.heap.size w8 V ∧ V.cell? ⟨F0, 2, none⟩ = some (.slice (some a) n c) ∧ V.cell? ⟨Fa, 2, none⟩ = some (.slice (some ⟨P1, 0, none⟩) n n)) (first | exact kp_drew (by assumption) | exact kp_drewN (by assumption) _ | exact kp_call (by assumption) (by assumption) | exact ⟨Below.drew (Below.refl _ _), f2, a2⟩ | exact ⟨Below.refl _ _, f2, a2⟩) (first
      | (go_at_call 12; refine (HCF.out _ (And.left (by assumption))).mono ?_; rintro e wf ⟨gf, cf, rfl, hgf, hgf2, hmf, hbf⟩)
      | (go_at_call 12; refine (HCX.out _ (And.left (by assumption))).mono ?_; rintro e wx ⟨gx, cx, rfl, hgx, hgx2, hmx, hbx⟩))
    have hbf' : Below w8.heap.size w8 wf := (Below.refl _ _).drew.trans hbf
    have HB9 : Hid (Below w8.heap.size w8 wx) := hbf'.trans (hbx.mono hbf'.size)
    have HMF : Hid (mine 3 vi w8.heap.size wx (.slice (some ⟨gf, 0, none⟩) n cf) l) := mine_below hmf hbx
    have HMX : Hid (mine 3 vi w8.heap.size wx (.slice (some ⟨gx, 0, none⟩) n cx) l1) := mine_mono hmx hbf'.size
    have HNE : Hid (gf ≠ gx) := by unfold Hid; omega
    have HGF : Hid (w8.heap.size ≤ gf) := hgf
    have HGX : Hid (w8.heap.size ≤ gx) := Nat.le_trans hbf'.size hgx
    clear hgf hgf2 hmf hbf hgx hgx2 hmx hbx hbf' f2 f3 a2 a3 HCF HCX
    go_wp2_with fail
    refine (Sort_mine HLn.out hn1000 HMF.out).mono ?_
    rintro e w10 ⟨rfl, hs10, hg10⟩
    have HMX10 : Hid (mine 3 vi w8.heap.size w10 (.slice (some ⟨gx, 0, none⟩) n cx) l1) := World.ownsRow.kept HMX.out hg10 (.inr (by simp [Value.ownBlock]; exact fun h => HNE.out h.symm))
    have HMF10 : Hid (mine 3 vi w8.heap.size w10 (.slice (some ⟨gf, 0, none⟩) n cf) L0) := by have := HL0.out; unfold Hid; rw [← this]; exact hs10
    have HB10 : Hid (Below w8.heap.size w8 w10) := HB9.out.grown hg10 HB9.out.size (by intro k hk; cases hk; exact HGF.out)
    clear hs10 hg10
    go_wp2_with fail
    refine (Sort_mine HLn1.out hn1000 HMX10.out).mono ?_
    rintro e w11 ⟨rfl, hs11, hg11⟩
    have HMF11 : Hid (mine 3 vi w8.heap.size w11 (.slice (some ⟨gf, 0, none⟩) n cf) L0) := World.ownsRow.kept HMF10.out hg11 (.inr (by simp [Value.ownBlock]; exact HNE.out))
    have HMX11 : Hid (mine 3 vi w8.heap.size w11 (.slice (some ⟨gx, 0, none⟩) n cx) L0) := by have := HL1s.out; unfold Hid; rw [← this]; exact hs11
    have HB11 : Hid (Below w8.heap.size w8 w11) := HB10.out.grown hg11 HB10.out.size (by intro k hk; cases hk; exact HGX.out)
    clear hs11 hg11
    have HB611 : Hid (Below w6.heap.size w6 w11) := HB68.out.trans (HB11.out.mono HB68.out.size)
    obtain ⟨f0, f1, f2, f3, a0, a1, a2, a3, _⟩ := HBX.out w11 HB611.out
    go_wp2_with fail
    refine (At_n W H n a c l 0 0 Z w11 (HRX.out w11 HB611.out).1 HX.out (by have := HX.out.1; omega) (by have := HX.out.2.1; omega) HZ).mono ?_
    rintro e w12 ⟨rfl, hb12⟩
    have HB12 : Hid (Below w11.heap.size w11 w12) := hb12
    have HB612 : Hid (Below w6.heap.size w6 w12) := HB611.out.trans (hb12.mono HB611.out.size)
    clear hb12 f0 f1 f2 f3 a0 a1 a2 a3
    obtain ⟨_, _, _, _, a0, a1, a2, a3, _⟩ := HBX.out w12 HB612.out
    go_wp2_with fail
    refine (At_n H W n ⟨P1, 0, none⟩ n l1 X 0 Z w12 (HRX.out w12 HB612.out).2.1 HX1.out (by have := HXH.out; omega) (by have := HX.out.1; omega) HZ1).mono ?_
    rintro e w13 ⟨rfl, hb13⟩
    have HB13 : Hid (Below w11.heap.size w11 w13) := HB12.out.trans (hb13.mono HB12.out.size)
    have HB613 : Hid (Below w6.heap.size w6 w13) := HB612.out.trans (hb13.mono HB612.out.size)
    clear hb13 a0 a1 a2 a3
    go_wp2_with fail
    refine (Equal_b (some ⟨gf, 0, none⟩) (some ⟨gx, 0, none⟩) n cf cx L0 w13 HL0n.out (by omega) (row_below (row_of HMF11.out) HB13.out) (row_below (row_of HMX11.out) HB13.out)).mono ?_
    rintro e w14 ⟨rfl, hb14⟩
    have HB14 : Hid (Below w.heap.size w w14) := (HRX.out w13 HB613.out).2.2.2.trans (hb14.mono (HRX.out w13 HB613.out).2.2.2.size)
    clear hb14
    go_wp2_with fail
    go_ret
    exact ⟨rfl, HB14.out⟩
  · obtain ⟨E, hE⟩ : ∃ E, ck A B l = E := ⟨_, rfl⟩
    have hE0 : ¬ E = 0 := by rw [← hE]; exact hck
    have HE : Hid (ck A B l = E) := hE
    have e0 : (E == 0) = false := by simp [hE0]
    clear hck hE
    refine (Turn_no A B p n c l E w0 (row_below HR.out hb0) HN.out hmax HE hE0).mono ?_
    rintro e w1 ⟨rfl, hb1⟩
    have HB1 : Hid (Below w0.heap.size w0 w1) := hb1
    clear hb1
    go_wp2_with fail
    refine (Turn_zero _).mono ?_
    rintro e w2 ⟨rfl, hb2⟩
    have HB2 : Hid (Below w0.heap.size w0 w2) := HB1.out.trans ((below_step (alloc_below w1 _) (by simp) hb2).mono HB1.out.size)
    clear hb2
    go_wp2_with fail
    refine (Turn_zero _).mono ?_
    rintro e w3 ⟨rfl, hb3⟩
    have HB3 : Hid (Below w0.heap.size w0 w3) := HB2.out.trans ((below_step (alloc_below w2 _) (by simp) hb3).mono HB2.out.size)
    clear hb3
    go_wp2_with fail
    refine (Turn_zero _).mono ?_
    rintro e w4 ⟨rfl, hb4⟩
    have HB4 : Hid (Below w0.heap.size w0 w4) := HB3.out.trans ((below_step (alloc_below w3 _) (by simp) hb4).mono HB3.out.size)
    clear hb4
    go_wp2_with fail
    refine (lives_any _).mono ?_
    rintro e w5 ⟨rfl, hb5⟩
    have HB5 : Hid (Below w0.heap.size w0 w5) := HB4.out.trans ((below_step (alloc_below w4 _) (by simp) hb5).mono HB4.out.size)
    clear hb5
    go_wp2_with fail
    refine (lives_any _).mono ?_
    rintro e w6 ⟨rfl, hb6⟩
    have HB6 : Hid (Below w0.heap.size w0 w6) := HB5.out.trans (hb6.mono HB5.out.size)
    clear hb6
    obtain ⟨g0, g1, g2, g3⟩ := box_at hF0 (w1 := w6) (by rw [HW0.out]; exact HB6.out)
    have HBW : Hid (Below w.heap.size w w6) := hb0.trans (HB6.out.mono hb0.size)
    go_wp2_with fail
    refine (Check_at A B p n c l E w6 (row_below HR.out HBW.out) HN.out hmax HE).mono ?_
    rintro e w7 ⟨rfl, hb7⟩
    have HB7 : Hid (Below w.heap.size w w7) := HBW.out.trans (hb7.mono HBW.out.size)
    clear hb7
    go_wp2_with fail
    go_ret
    exact ⟨by simp, HB7.out⟩

set_option maxRecDepth 100000 in
theorem lifted (os : Os) (started : os.Started) (H : Type) (enc : TypeId × Value → H) :
    ReturnsInHanded {} Try.checked os 4 .any (Rows.fieldTurnsSpec.pre6 enc Try.prog Try.f4 Rows.fieldTurnsRow.domain false) (Rows.fieldTurnsSpec.post enc Try.prog Try.f4 false true false false) := by
  refine returnsInHanded_of_change_sized (C := Try.checked) own started (by kernel_rfl) Try.func4
    (ChangeSpec.witness6 (enc := enc) (C := Try.checked) false ⟨#[], #[.agg #[.int .i64 0, .int .i64 0, .slice none 0 0]], []⟩ 8 (by kernel_rfl) (by kernel_rfl) (by kernel_rfl) (by kernel_rfl)) ?_
  intro W base args ds gs before hval0 hW hcnd hsz _
  have hval : ∀ (j : Nat) t v, Try.f4.params[j]? = some t → args[j]? = some v → Value.okWide Try.prog W .any base t v := hval0
  have hW' := hW
  obtain ⟨p, q, hA0, hV, rfl, hfz, hnd⟩ := hW
  have hA : DataW.TrodAll enc Try.prog W 0 (fun _ => true) true Try.f4.params.toList args.toList ds p := hA0
  rw [Try.params4] at hA hval
  obtain ⟨v0, vs0, d0, ds0, p0, q0, hargs, rfl, rfl, h0, r0⟩ := trodAll_cons hA
  obtain ⟨rfl, rfl, rfl⟩ := trodAll_nil r0
  obtain rfl : args = #[v0] := by cases args; simp_all
  obtain ⟨rfl, rfl⟩ := trodVars_none hV
  obtain ⟨s0, rfl, k0, d20, rfl, t0⟩ := open_fld Try.underlying24 Try.underlying3 Try.underlying22 rfl rfl rfl rfl rfl rfl (by kernel_rfl) (by kernel_rfl) (by kernel_rfl) (hval 0 24 v0 rfl rfl) h0
  have hs0 : s0.l.length * 8 ≤ 140737488351232 := fld_sized hsz (j := 0) rfl rfl Try.underlying24 rfl Try.underlying22 (by kernel_rfl) t0
  clear hA0 hval0
  refine (walk s0  W k0 hs0).mono fun e W' ⟨he, hg⟩ => ?_
  subst he
  exact ⟨_, rfl, law_post (by kernel_rfl) (by kernel_rfl) rfl (by kernel_rfl) Try.underlying4 hW' rfl hg⟩

theorem over : Rows.fieldTurnsRow.holds Try.pinned (OpenSpec.ofChange Rows.fieldTurnsSpec) :=
  OpenClaim.holds_of_wide 4 Try.f4 rfl rfl rfl rfl rfl rfl rfl ⟨rfl, rfl, rfl, rfl, rfl⟩ rfl rfl rfl rfl rfl (by kernel_rfl) Try.func4 (by kernel_rfl)
    (of_decide_eq_true (by kernel_rfl)) (by unfold Func.isWrapper; first | (rw [if_pos (by decide +kernel)]; kernel_rfl) | (rw [if_neg (by decide +kernel)]; exact ⟨rfl, rfl⟩))
    (fun os started H enc _ => lifted os started H enc)

theorem proved : Rows.FieldTurnsSaid :=
  over
end Go.Proofs.Ytccapbojhgemmaa.fieldTurns

namespace Go.Proofs.Ytccapbojhgemmaa
/-- For every field: turned by four quarters it is as it was; of each sort it has as many places as before; what stood in a corner stands in the next one; and what is no field is told so. -/
theorem fieldTurns_holds : Rows.FieldTurnsSaid := fieldTurns.proved
#print axioms fieldTurns_holds
end Go.Proofs.Ytccapbojhgemmaa
