/- FloodBest: whatever is handed in, the law answers true: no step is better than what is told, each place but the first ones is come to by a step that is just as good; rocks, and what is behind them alone, are not come to. No conditions. -/
import Derived.Test.YtlekihmlifkjmaaRows
import Derived.Test.YtlekihmlifkjmaaPost
import Derived.Test.YtlekihmlifkjmaaSt
import Derived.WalkKit
import Derived.ProofKit
import Derived.OpenShut
import Derived.SizedLaws
import Derived.ChangeMaps5
import Derived.JoinedCond
namespace Go.Proofs.Ytlekihmlifkjmaa.floodBest
open Go.ChangeShapes Go.WideShapes Go.ChangeAt Go.RowKit
set_option linter.unusedVariables false

theorem own : ownKnob Try.prog.godebug = none := by kernel_rfl

/-- A row of truth values of one's own. -/
def frow (B g N : Nat) (w : World) (L : List Bool) : Prop := w.ownsRow B 4 1 (.slice (some ⟨g, 0, none⟩) N N) N (L.map Value.bool) ∧ L.length = N
theorem frow_below {B g N : Nat} {w w' : World} {L : List Bool} (h : frow B g N w L) (hb : Below w.heap.size w w') : frow B g N w' L := by
  obtain ⟨⟨h1, h2⟩, h3⟩ := h
  refine ⟨⟨h1, ?_⟩, h3⟩
  rcases h2 with h0 | ⟨g', cap, cur, hv, hB, hblk, hr⟩
  · exact .inl h0
  · refine .inr ⟨g', cap, cur, hv, hB, ?_, hr⟩
    have : g' < w.heap.size := by
      rcases Nat.lt_or_ge g' w.heap.size with hlt | hge
      · exact hlt
      · rw [Array.getElem?_eq_none hge] at hblk; cases hblk
    rw [hb.block g' this]; exact hblk
theorem frow_set {B g N : Nat} {w : World} {L : List Bool} (h : frow B g N w L) (i : Nat) (b : Bool) : frow B g N (w.setCell ⟨g, i, none⟩ (.bool b)) (L.set i b) := by
  refine ⟨?_, by simpa using h.2⟩
  have := (World.ownsRow.stored h.1 i (.bool b)).1
  rw [List.map_set]; exact this
theorem frow_at {B g N : Nat} {w : World} {L : List Bool} (h : frow B g N w L) {i : Nat} (hi : i < N) : w.cell? ⟨g, i, none⟩ = some (.bool (L.getD i false)) ∧ w.frozen? ⟨g, i, none⟩ = false := by
  refine ⟨?_, World.ownsRow.frozenAt h.1 i⟩
  rw [World.ownsRow.cellAt h.1 i (by omega), List.getElem?_map, List.getD_eq_getElem?_getD, List.getElem?_eq_getElem (by rw [h.2]; exact hi)]; rfl
theorem frow_lt {B g N : Nat} {w : World} {L : List Bool} (h : frow B g N w L) : B ≤ g ∧ g < w.heap.size := World.ownsRow.lt h.1 g rfl
/-- Which places are first ones, as far as the cells have been told. -/
def fl_ (W : Nat) (cs : List Cel) (L : List Bool) : Prop := ∀ i, i < L.length → (L.getD i false = true ↔ fst_ W cs i)
theorem fl_next {W H : Nat} {cs : List Cel} {L : List Bool} {k x y : Nat} (h : fl_ W (cs.take k) L) (hk : k < cs.length) (hc : cs[k] = ⟨x, y⟩) : fl_ W (cs.take (k + 1)) (L.set (y * W + x) true) := by
  intro i hi
  simp at hi
  rw [← fst_take hk hc, ← h i hi, List.getD_eq_getElem?_getD, List.getElem?_set]
  by_cases e : y * W + x = i
  · subst e; rw [if_pos rfl, if_pos hi]; simp
  · rw [if_neg e, ← List.getD_eq_getElem?_getD]
    exact ⟨fun q => .inl q, fun q => q.elim id (fun q => absurd q.symm e)⟩
/-- What has been found to be just, of the places beside one. -/
def jus (far : List Int) (d K : Int) (L : List Int) (k : Nat) (b : Bool) : Prop := (d ≤ 0 → b = true) ∧ (b = false → ∀ k', k' < k → ∀ J : Nat, L[k']? = some (J : Int) → ¬ (0 ≤ pa far J ∧ d = pa far J + K))
theorem jus_skip {far : List Int} {d K : Int} {L : List Int} {k : Nat} {b : Bool} {J : Nat} (h : jus far d K L k b) (hJ : L[k]? = some (J : Int)) (hn : ¬ (0 ≤ pa far J ∧ d = pa far J + K) ∨ d ≤ 0) : jus far d K L (k + 1) b := by
  refine ⟨h.1, fun hb k' hk' J' hJ' => ?_⟩
  by_cases e : k' = k
  · subst e
    rw [hJ] at hJ'
    have : J = J' := by simp at hJ'; omega
    subst this
    rcases hn with q | q
    · exact q
    · rw [h.1 q] at hb; cases hb
  · exact h.2 hb k' (by omega) J' hJ'
theorem jus_or {far : List Int} {d K : Int} {L : List Int} {k : Nat} {b : Bool} {J : Nat} (h : jus far d K L k b) (hJ : L[k]? = some (J : Int)) : jus far d K L (k + 1) (b || (d == pa far J + K)) := by
  refine ⟨fun q => by rw [h.1 q]; rfl, fun hb k' hk' J' hJ' => ?_⟩
  have hb1 : b = false := by cases b <;> simp_all
  have hb2 : (d == pa far J + K) = false := by cases b <;> simp_all
  by_cases e : k' = k
  · subst e
    rw [hJ] at hJ'
    have : J = J' := by simp at hJ'; omega
    subst this
    intro q
    rw [q.2] at hb2; simp at hb2
  · exact h.2 hb1 k' (by omega) J' hJ'
theorem jus_end {W H : Nat} {l : List Int} {S : Nat → Prop} {far : List Int} {i : Nat} {b : Bool} (hs : Sol W H l S far) (hi : i < W * H) (h : jus far (pa far i) (kc (pa l i)) (sts W H i) (sts W H i).length b) : b = true := by
  cases hb : b with
  | true => rfl
  | false =>
    by_cases h0 : 0 < pa far i
    · obtain ⟨n, h1, h2, h3⟩ := hs.just i hi h0
      obtain ⟨k, hk⟩ := List.getElem?_of_mem (adj_sts (adj_symm h1))
      exact absurd ⟨h2, h3⟩ (h.2 hb k (List.getElem?_eq_some_iff.1 hk).1 n hk)
    · exact absurd (h.1 (by omega)) (by rw [hb]; simp)
theorem jus_rock {far : List Int} {K : Int} {L : List Int} {k : Nat} {b : Bool} (h : jus far (-1) K L k b) : b = true := h.1 (by omega)
theorem sts_len (W H i : Nat) : (sts W H i).length ≤ 4 := by
  unfold sts
  simp only [List.length_append]
  split <;> split <;> split <;> split <;> simp

set_option maxRecDepth 20000 in
set_option maxHeartbeats 4000000 in
theorem walk (s0 : Fld) (s1 : Cst)  (w : World) (h0 : s0.fit w) (hs0 : s0.l.length * 8 ≤ 140737488351232) (h1 : s1.fit w) (hs1 : s1.l.length * 16 ≤ 140737488351232) :
    Calls Try.prog 4 #[s0.val, s1.val] w fun e w' => e = .returned (.bool true) ∧ Below w.heap.size w w' := by
  obtain ⟨A, B, p, c, l⟩ := s0
  obtain ⟨q, d, cs⟩ := s1
  obtain ⟨hA, hB, hrow, hfit, hlen, hpc, hlc⟩ := h0
  obtain ⟨hcrow, _, hclen, hqc, hqd⟩ := h1
  unfold Fld.val Cst.val
  simp only at hA hB hrow hfit hlen hpc hlc hs0 hcrow hclen hqc hqd hs1 ⊢
  obtain ⟨n, hn⟩ : ∃ n, l.length = n := ⟨_, rfl⟩
  obtain ⟨m, hm⟩ : ∃ m, cs.length = m := ⟨_, rfl⟩
  rw [hn] at hlen hlc ⊢
  rw [hm] at hclen hqd ⊢
  have HR : Hid (row vi w p l) := hrow
  have HN : Hid (l.length = n) := hn
  have HC : Hid (crow w q cs) := hcrow
  have HM : Hid (cs.length = m) := hm
  clear hrow hn hfit hs0 hcrow hm hs1 hA hB
  obtain ⟨F, hF⟩ : ∃ F, w.heap.size = F := ⟨_, rfl⟩
  obtain ⟨w0, hw0⟩ : ∃ w0, w.alloc (.cells #[.int .i64 A, .int .i64 B, .slice p n c] 24) = w0 := ⟨_, rfl⟩
  have HBX : Hid (∀ V, Below w0.heap.size w0 V → V.cell? ⟨F, 0, none⟩ = some (.int .i64 A) ∧ V.cell? ⟨F, 1, none⟩ = some (.int .i64 B) ∧ V.cell? ⟨F, 2, none⟩ = some (.slice p n c)) := by
    intro V hV; subst hw0; rw [← hF]; exact box3 hV
  have HB0 : Hid (Below w.heap.size w w0) := by rw [← hw0]; exact alloc_below _ _
  obtain ⟨z0, z1, z2⟩ := HBX.out w0 (Below.refl _ _)
  go_enter Try.func4, Try.ntmps4
  go_wp2_with fail
  refine (From_any A B p q n c m d l cs w0 (row_below HR.out HB0.out) HN.out hlen (crow_below HC.out HB0.out) HM.out).mono ?_
  rintro e w1 ⟨hcase, hb1⟩
  have HB1 : Hid (Below w0.heap.size w0 w1) := hb1
  clear hb1 z0 z1 z2
  rcases hcase with ⟨E, hE, _, rfl⟩ | ⟨W, H, g, far, hA', hB', hn', hok, hm100, hck, rfl, hmn, hsol⟩
  · have e1 : (E == 0) = false := by simp [hE]
    have e2 : (E != 0) = true := by simp [hE]
    go_wp2_with fail
    refine (lives_any w1).mono ?_
    rintro e w2 ⟨rfl, hb2⟩
    have HB2 : Hid (Below w0.heap.size w0 w2) := HB1.out.trans (hb2.mono HB1.out.size)
    clear hb2
    go_wp2_with fail
    refine (lives_any w2).mono ?_
    rintro e w3 ⟨rfl, hb3⟩
    have HB3 : Hid (Below w.heap.size w w3) := HB0.out.trans ((HB2.out.trans (hb3.mono HB2.out.size)).mono HB0.out.size)
    clear hb3
    go_wp2_with fail
    go_ret
    exact ⟨rfl, HB3.out⟩
  · subst hA' hB' hn'
    have hN1 : 1 ≤ W * H := one_le hok.1 hok.2.1
    have hN2 : W * H ≤ 1600 := wh_le hok.1 hok.2.1
    have HOK : Hid (okf W H l) := hok
    have HCK : Hid (cke W H l cs = 0) := hck
    have HFR : Hid (row vi w1 (some ⟨g, 0, none⟩) far) := mine_row hmn
    have HSOL : Hid (Sol W H l (fst_ W cs) far) := hsol
    clear hok hck hmn hsol
    go_wp2_with fail
    refine (lives_any w1).mono ?_
    rintro e w2 ⟨rfl, hb2⟩
    have HB2 : Hid (Below w0.heap.size w0 w2) := HB1.out.trans (hb2.mono HB1.out.size)
    have HFR2 : Hid (row vi w2 (some ⟨g, 0, none⟩) far) := row_below HFR.out hb2
    obtain ⟨z0, z1, z2⟩ := HBX.out w2 HB2.out
    clear hb2 HFR
    have u1 : ((W : Int) * (H : Int) == (W : Int) * (H : Int)) = true := by simp
    have u2 : ((W : Int) * (H : Int) != (W : Int) * (H : Int)) = false := by simp
    obtain ⟨i0, hi0, hz0, hz1, hz2⟩ := info_parts (P := Try.prog) (e := 4) (z := .bool false) (size := 1) (bytes := 1) (by kernel_rfl)
    go_wp2_with (at_make; refine wpList_make_full _ rfl (.tmp 48) (.tmp 48) 36 rfl w2.heap.size 4 i0 (.bool false) 1 Try.underlying36 hi0 hz0 hz1 .i64 .i64 ((W : Int) * (H : Int)) ((W : Int) * (H : Int)) (W * H) rfl rfl (by simp) (by simp) ?_ ?_ (Nat.le_refl _) ?_)
    · rw [hz2]; omega
    · unfold maxLen; omega
    intro w3 hown hgr
    have e1 : (madeCells #[Value.bool false] (W * H)).toList = (List.replicate (W * H) false).map Value.bool := by
      rw [toList_madeCells_one (.bool false) (W * H)]; simp
    rw [e1] at hown
    have HL3 : Hid (frow w2.heap.size w2.heap.size (W * H) w3 (List.replicate (W * H) false)) := ⟨hown, by simp⟩
    have HB3 : Hid (Below w2.heap.size w2 w3) := (Below.refl _ _).grown hgr (Nat.le_refl _) (by simp)
    clear hown hgr e1 z0 z1 z2 u1 u2
    go_wp2_with fail
    go_loopw [52] (fun i wr => ∃ (k : Nat), i = .int .i64 k ∧ k ≤ m ∧ ∃ L, Hid (frow w2.heap.size w2.heap.size (W * H) wr L ∧ fl_ W (cs.take k) L ∧ Below w2.heap.size w2 wr)) (fun i _ => m - (intOf i).toNat)
    case atStart =>
      refine ⟨0, rfl, by omega, _, HL3.out, fun i hi => ?_, HB3.out⟩
      simp at hi
      simp [List.getD_eq_getElem?_getD, hi]
      rintro ⟨x, y, h, _⟩
      simp at h
    case round =>
      obtain ⟨k, rfl, hk, L, HS⟩ := hrel
      have hB2r : Below w0.heap.size w0 wr := HB2.out.trans (HS.out.2.2.mono HB2.out.size)
      by_cases hlt : k < m
      · have hkl : k < cs.length := by rw [HM.out]; exact hlt
        obtain ⟨b, rfl, hx, hy⟩ := crow_at (crow_below HC.out (HB0.out.trans (hB2r.mono HB0.out.size))) hkl
        obtain ⟨x, y, hc, hxW, hyH, hr1⟩ := cke_zero HCK.out cs[k] (List.getElem_mem hkl)
        rw [hc] at hx hy
        have hx' : wr.cell? (b.add (k * 2)) = some (.int .i64 (x : Int)) := hx
        have hy' : wr.cell? ⟨(b.add (k * 2)).block, (b.add (k * 2)).off + 1, none⟩ = some (.int .i64 (y : Int)) := cell_two hy
        have HCk : Hid (cs[k] = ⟨x, y⟩) := hc
        have l1 : (k : Int) < m := by omega
        obtain ⟨J, hJ⟩ : ∃ J, y * W + x = J := ⟨_, rfl⟩
        have hJl : J < W * H := by rw [← hJ]; exact pl_lt hxW hyH
        have HJ : Hid (y * W + x = J) := hJ
        obtain ⟨T, hT⟩ : ∃ T : Nat, y * W = T := ⟨_, rfl⟩
        have d1 : IntKind.i64.wrap ((y : Int) * (W : Int)) = (T : Int) := by rw [← Int.natCast_mul, hT]; exact wrp (by omega) (by omega)
        have d3 : (T : Int) + x = J := by omega
        have d5 : IntKind.i64.wrap (J : Int) = J := wrp (by omega) (by omega)
        have j1 : (J : Int) < W * H := by omega
        have j2 : (0 : Int) ≤ J := by omega
        obtain ⟨w5, hw5⟩ : ∃ w5, wr.alloc (.cells #[.int .i64 (x : Int), .int .i64 (y : Int)] 38) = w5 := ⟨_, rfl⟩
        obtain ⟨G5, hG5⟩ : ∃ G5, wr.heap.size = G5 := ⟨_, rfl⟩
        have hb5 : Below wr.heap.size wr w5 := by rw [← hw5]; exact alloc_below _ _
        have g0 : w5.cell? ⟨G5, 0, none⟩ = some (.int .i64 (x : Int)) ∧ w5.cell? ⟨G5, 1, none⟩ = some (.int .i64 (y : Int)) := by rw [← hw5, ← hG5]; constructor <;> simp [go_sem]
        obtain ⟨g0, g1⟩ := g0
        obtain ⟨z0, z1, z2⟩ := HBX.out w5 (hB2r.trans (hb5.mono hB2r.size))
        obtain ⟨s1, s2, s3⟩ := HS.out
        have hf5 := frow_below s1 hb5
        obtain ⟨c5, f5⟩ := frow_at hf5 hJl
        have HF5 : Hid (frow w2.heap.size w2.heap.size (W * H) (w5.setCell ⟨w2.heap.size, J, none⟩ (.bool true)) (L.set J true)) := frow_set hf5 J true
        have HB5 : Hid (Below w2.heap.size w2 (w5.setCell ⟨w2.heap.size, J, none⟩ (.bool true))) := (s3.trans (hb5.mono s3.size)).setCell (Nat.le_refl _) _
        have HN5 : Hid (fl_ W (cs.take (k + 1)) (L.set J true)) := by rw [← HJ.out]; exact fl_next (H := H) s2 hkl HCk.out
        clear s1 s2 s3 hf5 hb5 hx hy hc hr1 hB2r hJ hT
        go_wp2_with fail
        go_roundw
        case rel => exact ⟨k + 1, by go_num, by omega, L.set J true, HF5.out, HN5.out, HB5.out⟩
        case measure => simp [intOf]; omega
      · obtain ⟨w7, hw7⟩ : ∃ w7 : World, w7 = wr := ⟨_, rfl⟩
        subst hw7
        have HB7 : Hid (Below w0.heap.size w0 w7) := hB2r
        have HL7 : Hid (frow w2.heap.size w2.heap.size (W * H) w7 L ∧ fl_ W cs L) := by
          obtain ⟨s1, s2, s3⟩ := HS.out
          rw [List.take_of_length_le (by rw [HM.out]; omega)] at s2
          exact ⟨s1, s2⟩
        have HF7 : Hid (row vi w7 (some ⟨g, 0, none⟩) far) := row_below HFR2.out HS.out.2.2
        have HR7 : Hid (row vi w7 p l) := row_below HR.out (HB0.out.trans (hB2r.mono HB0.out.size))
        clear hB2r HS HL3 HB3
        go_wp2_with fail
        go_loopw [69] (fun i wr => ∃ (k : Nat), i = .int .i64 k ∧ k ≤ W * H ∧ Hid (Below w7.heap.size w7 wr)) (fun i _ => W * H - (intOf i).toNat)
        case atStart => exact ⟨0, rfl, by omega, Below.refl _ _⟩
        case round =>
          obtain ⟨i, rfl, hi, HI⟩ := hrel
          by_cases hil : i < W * H
          · obtain ⟨a, rfl⟩ := row_some HR7.out (by rw [HN.out]; omega)
            obtain ⟨D, hD⟩ : ∃ D, pa far i = D := ⟨_, rfl⟩
            obtain ⟨Z, hZ⟩ : ∃ Z, pa l i = Z := ⟨_, rfl⟩
            have cd : wr.cell? ⟨g, i, none⟩ = some (.int .i64 D) := by
              obtain ⟨b, hb, hcl⟩ := row_at (row_below HF7.out HI.out) (j := i) (by rw [HSOL.out.len]; exact hil)
              cases hb
              rw [← pa_get far, hD, add_zero_at] at hcl; exact hcl
            have cz : wr.cell? (a.add i) = some (.int .i64 Z) := by
              obtain ⟨b, hb, hcl⟩ := row_at (row_below HR7.out HI.out) (j := i) (by rw [HN.out]; exact hil)
              cases hb
              rw [← pa_get l, hZ] at hcl; exact hcl
            obtain ⟨cf, _⟩ := frow_at (frow_below HL7.out.1 HI.out) hil
            have hfb : L.getD i false = (D == 0) := by
              have h1 := HL7.out.2 i (by rw [HL7.out.1.2]; exact hil)
              have h2 := HSOL.out.zero i hil
              rw [hD] at h2
              cases hb : L.getD i false with
              | true => have : D = 0 := h2.2 (h1.1 hb); simp [this]
              | false =>
                by_cases h0 : D = 0
                · rw [h1.2 (h2.1 h0)] at hb; cases hb
                · simp [h0]
            rw [hfb] at cf
            have HB9 : Hid (Below w0.heap.size w0 wr) := HB7.out.trans (HI.out.mono HB7.out.size)
            obtain ⟨z0, z1, z2⟩ := HBX.out wr HB9.out
            have l1 : (i : Int) < W * H := by omega
            have l2 : (0 : Int) ≤ i := by omega
            have hbd := sort_bd HOK.out.2.2.2 (j := i) (by rw [HN.out]; exact hil)
            rw [hZ] at hbd
            have HD : Hid (pa far i = D) := hD
            have HZ : Hid (pa l i = Z) := hZ
            have HZb : Hid (0 ≤ Z ∧ Z ≤ 3) := hbd
            have bD := sol_bd HSOL.out hN2 i hil
            rw [hD] at bD
            obtain ⟨b0, hb0⟩ : ∃ b0 : Bool, (D == 0) = b0 := ⟨_, rfl⟩
            have v1 : (b0 == b0) = true := by simp
            have v2 : (b0 != b0) = false := by simp
            rw [hb0] at cf
            clear hD hZ hbd hfb
            by_cases hr : Z = 1
            · have HC9 : Hid (co Z = 0) := by subst hr; unfold Hid; decide
              have HE9 : Hid (ce Z = 9) := by subst hr; unfold Hid; decide
              have hD1 : D = -1 := by rw [← HD.out]; exact HSOL.out.rock i hil (by rw [HZ.out]; exact hr)
              clear hr
              subst hD1
              go_wp2_with fail
              refine (Cost_at Z 0 9 wr HC9 HE9).mono ?_
              rintro e w' ⟨rfl, hw⟩; subst w'
              go_wp2_with fail
              refine (stepsOf_any W H a c i wr HOK.out.1 hN2 hil).mono ?_
              rintro e w8 ⟨v, rfl, hmv, hb8⟩
              obtain ⟨pv, cv, rfl, hrv, _, _⟩ := mine_full hmv
              obtain ⟨M, hM⟩ : ∃ M, (sts W H i).length = M := ⟨_, rfl⟩
              rw [hM]
              have HRV : Hid (row vi w8 pv (sts W H i)) := hrv
              have HMv : Hid ((sts W H i).length = M) := hM
              have HB8 : Hid (Below w7.heap.size w7 w8) := HI.out.trans (hb8.mono HI.out.size)
              have hM4 : M ≤ 4 := by rw [← hM]; exact sts_len W H i
              clear hmv hb8 hrv hM cd cz cf z0 z1 z2
              go_wp2_with fail
              go_loopw [14, 104] (fun jv kv wr => ∃ (k : Nat) (b : Bool), jv = .bool b ∧ kv = .int .i64 k ∧ k ≤ M ∧ Hid (jus far (-1) 0 (sts W H i) k b) ∧ Hid (Below w8.heap.size w8 wr)) (fun _ kv _ => M - (intOf kv).toNat)
              case atStart => exact ⟨0, _, rfl, rfl, by omega, ⟨fun q => by first | (simp; done) | (simp; omega), fun _ k' hk' => by omega⟩, Below.refl _ _⟩
              case round =>
                obtain ⟨k, b, rfl, rfl, hk, HJ, HI8⟩ := hrel
                by_cases hkM : k < M
                · obtain ⟨av, rfl, hcv⟩ := row_at (row_below HRV.out HI8.out) (j := k) (by rw [HMv.out]; exact hkM)
                  obtain ⟨J, eJ, hadj⟩ := sts_adj HOK.out.1.1 hil (List.getElem_mem (l := sts W H i) (n := k) (by rw [HMv.out]; exact hkM))
                  rw [eJ] at hcv
                  have hcv' : wr.cell? (av.add k) = some (.int .i64 (J : Int)) := hcv
                  have HLJ : Hid ((sts W H i)[k]? = some (J : Int)) := by unfold Hid; rw [List.getElem?_eq_getElem (by rw [HMv.out]; exact hkM), eJ]
                  have HADJ : Hid (adj W H i J) := hadj
                  have hJl := (adj_lt hadj).2
                  obtain ⟨Y, hY⟩ : ∃ Y, pa far J = Y := ⟨_, rfl⟩
                  have cy : wr.cell? ⟨g, J, none⟩ = some (.int .i64 Y) := by
                    obtain ⟨b', hb', hcl⟩ := row_at (row_below (row_below HF7.out HB8.out) HI8.out) (j := J) (by rw [HSOL.out.len]; exact hJl)
                    cases hb'
                    rw [← pa_get far, hY, add_zero_at] at hcl; exact hcl
                  have HY : Hid (pa far J = Y) := hY
                  have bY := sol_bd HSOL.out hN2 J hJl
                  rw [hY] at bY
                  have k1 : (k : Int) < M := by omega
                  have k2 : (0 : Int) ≤ k := by omega
                  have j1 : (J : Int) < W * H := by omega
                  have j2 : (0 : Int) ≤ J := by omega
                  clear hcv eJ hadj hY
                  have HJn : Hid (jus far (-1) 0 (sts W H i) (k + 1) b) := jus_skip HJ.out HLJ.out (.inr (by omega))
                  by_cases hY0 : 0 ≤ Y
                  · go_wp2_with fail
                    go_roundw
                    case rel => exact ⟨k + 1, b, rfl, by go_num, by omega, HJn, HI8⟩
                    case measure => simp [intOf]; omega
                  · go_wp2_with fail
                    go_roundw
                    case rel => exact ⟨k + 1, b, rfl, by go_num, by omega, HJn, HI8⟩
                    case measure => simp [intOf]; omega
                · obtain rfl : k = M := by omega
                  have hbt : b = true := jus_rock HJ.out
                  subst hbt
                  have HI9 : Hid (Below w7.heap.size w7 wr) := HB8.out.trans (HI8.out.mono HB8.out.size)
                  go_wp2_with fail
                  go_roundw
                  case rel => exact ⟨i + 1, by go_num, by omega, HI9⟩
                  case measure => simp [intOf]; omega
            · obtain ⟨K, hK⟩ : ∃ K, kc Z = K := ⟨_, rfl⟩
              have hkb := kc_bd Z
              rw [hK] at hkb
              have hck := co_kc HZb.out.1 HZb.out.2 hr
              have HC9 : Hid (co Z = K) := hck.1.trans hK
              have HE9 : Hid (ce Z = 0) := hck.2
              have HK : Hid (kc Z = K) := hK
              have HZ1 : Hid (Z ≠ 1) := hr
              clear hr hck hK
              go_wp2_with fail
              refine (Cost_at Z K 0 wr HC9 HE9).mono ?_
              rintro e w' ⟨rfl, hw⟩; subst w'
              go_wp2_with fail
              refine (stepsOf_any W H a c i wr HOK.out.1 hN2 hil).mono ?_
              rintro e w8 ⟨v, rfl, hmv, hb8⟩
              obtain ⟨pv, cv, rfl, hrv, _, _⟩ := mine_full hmv
              obtain ⟨M, hM⟩ : ∃ M, (sts W H i).length = M := ⟨_, rfl⟩
              rw [hM]
              have HRV : Hid (row vi w8 pv (sts W H i)) := hrv
              have HMv : Hid ((sts W H i).length = M) := hM
              have HB8 : Hid (Below w7.heap.size w7 w8) := HI.out.trans (hb8.mono HI.out.size)
              have hM4 : M ≤ 4 := by rw [← hM]; exact sts_len W H i
              clear hmv hb8 hrv hM cd cz cf z0 z1 z2
              go_wp2_with fail
              go_loopw [14, 104] (fun jv kv wr => ∃ (k : Nat) (b : Bool), jv = .bool b ∧ kv = .int .i64 k ∧ k ≤ M ∧ Hid (jus far D K (sts W H i) k b) ∧ Hid (Below w8.heap.size w8 wr)) (fun _ kv _ => M - (intOf kv).toNat)
              case atStart => exact ⟨0, _, rfl, rfl, by omega, ⟨fun q => by first | (simp; done) | (simp; omega), fun _ k' hk' => by omega⟩, Below.refl _ _⟩
              case round =>
                obtain ⟨k, b, rfl, rfl, hk, HJ, HI8⟩ := hrel
                by_cases hkM : k < M
                · obtain ⟨av, rfl, hcv⟩ := row_at (row_below HRV.out HI8.out) (j := k) (by rw [HMv.out]; exact hkM)
                  obtain ⟨J, eJ, hadj⟩ := sts_adj HOK.out.1.1 hil (List.getElem_mem (l := sts W H i) (n := k) (by rw [HMv.out]; exact hkM))
                  rw [eJ] at hcv
                  have hcv' : wr.cell? (av.add k) = some (.int .i64 (J : Int)) := hcv
                  have HLJ : Hid ((sts W H i)[k]? = some (J : Int)) := by unfold Hid; rw [List.getElem?_eq_getElem (by rw [HMv.out]; exact hkM), eJ]
                  have HADJ : Hid (adj W H i J) := hadj
                  have hJl := (adj_lt hadj).2
                  obtain ⟨Y, hY⟩ : ∃ Y, pa far J = Y := ⟨_, rfl⟩
                  have cy : wr.cell? ⟨g, J, none⟩ = some (.int .i64 Y) := by
                    obtain ⟨b', hb', hcl⟩ := row_at (row_below (row_below HF7.out HB8.out) HI8.out) (j := J) (by rw [HSOL.out.len]; exact hJl)
                    cases hb'
                    rw [← pa_get far, hY, add_zero_at] at hcl; exact hcl
                  have HY : Hid (pa far J = Y) := hY
                  have bY := sol_bd HSOL.out hN2 J hJl
                  rw [hY] at bY
                  have k1 : (k : Int) < M := by omega
                  have k2 : (0 : Int) ≤ k := by omega
                  have j1 : (J : Int) < W * H := by omega
                  have j2 : (0 : Int) ≤ J := by omega
                  clear hcv eJ hadj hY
                  by_cases hY0 : 0 ≤ Y
                  · have hbest := HSOL.out.best J i (adj_symm HADJ.out) (by rw [HY.out]; exact hY0) (by rw [HZ.out]; exact HZ1.out)
                    rw [HD.out, HY.out, HZ.out, HK.out] at hbest
                    have HJn : Hid (jus far D K (sts W H i) (k + 1) (b || (D == Y + K))) := by have := jus_or HJ.out HLJ.out; rwa [HY.out] at this
                    have t1 : ¬ D < 0 := by omega
                    have t2 : ¬ Y + K < D := by omega
                    have t3 : decide (D < 0) = false := by simp; omega
                    have t4 : decide (Y + K < D) = false := by simp; omega
                    cases b with
                    | true =>
                      go_wp2_with fail
                      go_roundw
                      case rel => exact ⟨k + 1, true, rfl, by go_num, by omega, (show jus far D K (sts W H i) (k + 1) true by simpa using HJn.out), HI8⟩
                      case measure => simp [intOf]; omega
                    | false =>
                      go_wp2_with fail
                      go_roundw
                      case rel => exact ⟨k + 1, (D == Y + K), rfl, by go_num, by omega, (show jus far D K (sts W H i) (k + 1) (D == Y + K) by simpa using HJn.out), HI8⟩
                      case measure => simp [intOf]; omega
                  · have HJn : Hid (jus far D K (sts W H i) (k + 1) b) := jus_skip HJ.out HLJ.out (.inl (by rw [HY.out]; omega))
                    go_wp2_with fail
                    go_roundw
                    case rel => exact ⟨k + 1, b, rfl, by go_num, by omega, HJn, HI8⟩
                    case measure => simp [intOf]; omega
                · obtain rfl : k = M := by omega
                  have hbt : b = true := jus_end HSOL.out hil (by rw [HD.out, HZ.out, HK.out]; have := HJ.out; rwa [← HMv.out] at this)
                  subst hbt
                  have HI9 : Hid (Below w7.heap.size w7 wr) := HB8.out.trans (HI8.out.mono HB8.out.size)
                  go_wp2_with fail
                  go_roundw
                  case rel => exact ⟨i + 1, by go_num, by omega, HI9⟩
                  case measure => simp [intOf]; omega
          · have HE9 : Hid (Below w.heap.size w wr) := HB0.out.trans ((HB7.out.trans (HI.out.mono HB7.out.size)).mono HB0.out.size)
            go_wp2_with fail
            go_ret
            exact ⟨rfl, HE9.out⟩

set_option maxRecDepth 100000 in
theorem lifted (os : Os) (started : os.Started) (H : Type) (enc : TypeId × Value → H) :
    ReturnsInHanded {} Try.checked os 4 .any (Rows.floodBestSpec.pre6 enc Try.prog Try.f4 Rows.floodBestRow.domain false) (Rows.floodBestSpec.post enc Try.prog Try.f4 false true false false) := by
  refine returnsInHanded_of_change_sized (C := Try.checked) own started (by kernel_rfl) Try.func4
    (ChangeSpec.witness6 (enc := enc) (C := Try.checked) false ⟨#[], #[.agg #[.int .i64 0, .int .i64 0, .slice none 0 0], .slice none 0 0], []⟩ 8 (by kernel_rfl) (by kernel_rfl) (by kernel_rfl) (by kernel_rfl)) ?_
  intro W base args ds gs before hval0 hW hcnd hsz _
  have hval : ∀ (j : Nat) t v, Try.f4.params[j]? = some t → args[j]? = some v → Value.okWide Try.prog W .any base t v := hval0
  have hW' := hW
  obtain ⟨p, q, hA0, hV, rfl, hfz, hnd⟩ := hW
  have hA : DataW.TrodAll enc Try.prog W 0 (fun _ => true) true Try.f4.params.toList args.toList ds p := hA0
  rw [Try.params4] at hA hval
  obtain ⟨v0, vs0, d0, ds0, p0, q0, hargs, rfl, rfl, h0, r0⟩ := trodAll_cons hA
  obtain ⟨v1, vs1, d1, ds1, p1, q1, rfl, rfl, rfl, h1, r1⟩ := trodAll_cons r0
  obtain ⟨rfl, rfl, rfl⟩ := trodAll_nil r1
  obtain rfl : args = #[v0, v1] := by cases args; simp_all
  obtain ⟨rfl, rfl⟩ := trodVars_none hV
  obtain ⟨s0, rfl, k0, d20, rfl, t0⟩ := open_fld Try.underlying24 Try.underlying3 Try.underlying22 rfl rfl rfl rfl rfl rfl (by kernel_rfl) (by kernel_rfl) (by kernel_rfl) (hval 0 24 v0 rfl rfl) h0
  obtain ⟨s1, rfl, k1, t1⟩ := open_cst Try.underlying25 Try.underlying38 Try.underlying3 Try.underlying3 rfl rfl (by kernel_rfl) (by kernel_rfl) (by kernel_rfl) (hval 1 25 v1 rfl rfl) h1
  have hs0 : s0.l.length * 8 ≤ 140737488351232 := fld_sized hsz (j := 0) rfl rfl Try.underlying24 rfl Try.underlying22 (by kernel_rfl) t0
  have hs1 : s1.l.length * 16 ≤ 140737488351232 := told_sized hsz (j := 1) rfl rfl Try.underlying25 (by kernel_rfl) t1
  clear hA0 hval0
  refine (walk s0 s1  W k0 hs0 k1 hs1).mono fun e W' ⟨he, hg⟩ => ?_
  subst he
  exact ⟨_, rfl, law_post (by kernel_rfl) (by kernel_rfl) rfl (by kernel_rfl) Try.underlying4 hW' rfl hg⟩

theorem over : Rows.floodBestRow.holds Try.pinned (OpenSpec.ofChange Rows.floodBestSpec) :=
  OpenClaim.holds_of_wide 4 Try.f4 rfl rfl rfl rfl rfl rfl rfl ⟨rfl, rfl, rfl, rfl, rfl⟩ rfl rfl rfl rfl rfl (by kernel_rfl) Try.func4 (by kernel_rfl)
    (of_decide_eq_true (by kernel_rfl)) (by unfold Func.isWrapper; first | (rw [if_pos (by decide +kernel)]; kernel_rfl) | (rw [if_neg (by decide +kernel)]; exact ⟨rfl, rfl⟩))
    (fun os started H enc _ => lifted os started H enc)

theorem proved : Rows.FloodBestSaid :=
  over
end Go.Proofs.Ytlekihmlifkjmaa.floodBest

namespace Go.Proofs.Ytlekihmlifkjmaa
/-- FloodBest: whatever is handed in, the law answers true: no step is better than what is told, each place but the first ones is come to by a step that is just as good; rocks, and what is behind them alone, are not come to. No conditions. -/
theorem floodBest_holds : Rows.FloodBestSaid := floodBest.proved
#print axioms floodBest_holds
end Go.Proofs.Ytlekihmlifkjmaa
