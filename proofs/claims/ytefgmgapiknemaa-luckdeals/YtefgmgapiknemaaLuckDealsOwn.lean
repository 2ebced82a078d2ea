/- For every number and every count the law LuckDeals returns true: each card is dealt once, and from the picks the deal can be undone. -/
import Derived.Test.YtefgmgapiknemaaRows
import Derived.Test.YtefgmgapiknemaaPost
import Derived.Test.YtefgmgapiknemaaMath
import Derived.Test.YtefgmgapiknemaaCon
import Derived.Test.YtefgmgapiknemaaDeal
import Derived.Test.YtefgmgapiknemaaDealt
import Derived.Test.YtefgmgapiknemaaShelf
import Derived.Test.YtefgmgapiknemaaDealBack
import Derived.WalkKit
import Derived.ProofKit
import Derived.OpenShut
namespace Go.Proofs.Ytefgmgapiknemaa.luckDeals
open Go.ChangeShapes Go.WideShapes Go.ChangeAt Go.RowKit
set_option linter.unusedVariables false      -- a walk need not use every 'w<i>' (that an integer argument fits its kind)

theorem own : ownKnob Try.prog.godebug = none := by kernel_rfl

theorem u32_nat {a : Int} (h : (Lit.int .u32 a).wf = true) : ∃ s : Nat, a = s ∧ s < 4294967296 := by
  have := bounds_u32 h
  exact ⟨a.toNat, by omega, by omega⟩

theorem Clone_zero (a : Addr) (c : Nat) (w : World) :
    Calls Try.prog 21 #[.slice (some a) 0 c] w fun e w' => ∃ g' c', e = .returned (.slice (some ⟨g', 0, none⟩) 0 c') ∧ Below w.heap.size w w' := by
  refine (Try.slices_Clone_int_zero a c w).mono ?_
  rintro e w' ⟨v, rfl, ho, hne, hb⟩
  rcases ho.2 with ⟨h0, _⟩ | ⟨g', cap, cur, rfl, _⟩
  · exact absurd h0 hne
  · exact ⟨g', cap, rfl, hb⟩

theorem ints_at (f : Nat → Nat) {m i : Nat} (h : i < m) : (ints ((List.range m).map f))[i]? = some (.int .i64 ((f i : Nat) : Int)) := by
  unfold ints
  rw [List.getElem?_map, List.getElem?_map, List.getElem?_range h]; rfl
/-- The picks' loop. -/
def pcs (w3 : World) (s n kk X : Nat) (v : Value) (wr : World) : Prop :=
  X = sk s (n - 1 - kk) ∧ Below w3.heap.size w3 wr ∧ w3.heap.size ≤ wr.heap.size ∧ wr.ownsRow w3.heap.size 3 1 v (n - 1 - kk) (ints ((List.range (n - 1 - kk)).map fun i => pk (sk s i) (n - i)))

theorem pcs_next {w3 wr w1 : World} {s n kk X P : Nat} {v v' : Value} {o : Obj} (h0 : 0 < kk) (hk : kk ≤ n - 1) (h : pcs w3 s n kk X v wr) (hP : pk X (kk + 1) = P)
    (ho : w1.ownsRow w3.heap.size 3 1 v' (n - 1 - kk + 1) (ints ((List.range (n - 1 - kk)).map fun i => pk (sk s i) (n - i)) ++ [.int .i64 (P : Int)])) (hg : (wr.alloc o).grownBy w1 v.ownBlock) :
    pcs w3 s n (kk - 1) (nx X) v' w1 := by
  obtain ⟨rfl, hb, hB, hv⟩ := h
  have hs : (wr.alloc o).heap.size = wr.heap.size + 1 := by simp
  have e : n - 1 - (kk - 1) = n - 1 - kk + 1 := by omega
  refine ⟨by rw [e]; rfl, (hb.alloc hB o).grown hg (by omega) (fun j hj => (World.ownsRow.lt hv j hj).1), by have := hg.size; omega, ?_⟩
  rw [e, List.range_succ, List.map_append]
  unfold ints at ho ⊢
  rw [List.map_append]
  simp only [List.map_cons, List.map_nil]
  rw [show n - (n - 1 - kk) = kk + 1 by omega, hP]
  exact ho

theorem pcs_end {w3 wr : World} {s n X : Nat} {v : Value} (h : pcs w3 s n 0 X v wr) :
    X = sk s (n - 1) ∧ ∃ po c, v = .slice po (n - 1) c ∧ (0 < n - 1 → ∃ g3, po = some ⟨g3, 0, none⟩ ∧ g3 < wr.heap.size ∧ n - 1 ≤ c ∧ ∀ i, i < n - 1 → wr.cell? ⟨g3, i, none⟩ = some (.int .i64 ((pk (sk s i) (n - i) : Nat) : Int))) := by
  obtain ⟨rfl, hb, hB, hv⟩ := h
  rw [Nat.sub_zero] at hv ⊢
  refine ⟨rfl, ?_⟩
  rcases hv.2 with ⟨rfl, h0⟩ | ⟨g, cap, cur, rfl, hg, hh, hcap, _⟩
  · exact ⟨none, 0, by rw [h0], fun h => by omega⟩
  · refine ⟨_, cap, rfl, fun h => ⟨g, rfl, (Array.getElem?_eq_some_iff.1 hh).1, hcap, fun i hi => ?_⟩⟩
    rw [World.ownsRow.cellAt hv i (by omega)]
    exact ints_at (fun i => pk (sk s i) (n - i)) hi

/-- The way back's loop. -/
def bks (w4 : World) (s n g c k : Nat) (wr : World) : Prop := Below w4.heap.size w4 wr ∧ w4.heap.size ≤ g ∧ owns w4.heap.size wr g n c (dd s n (n - k))

theorem bks_next {w4 wr : World} {s n g c k P : Nat} (h1 : 1 ≤ k) (h2 : k < n) (hP : pk (sk s (n - 1 - k)) (k + 1) = P) (h : bks w4 s n g c k wr) (m : Nat) :
    bks w4 s n g c (k + 1) (((wr.setCell ⟨g, k, none⟩ (.int .i64 (((dd s n (n - k)).getD P 0 : Nat) : Int))).setCell ⟨g, P, none⟩ (.int .i64 (((dd s n (n - k)).getD k 0 : Nat) : Int))).drewN m) := by
  obtain ⟨hb, hg, ho⟩ := h
  refine ⟨below_drewN ((hb.setCell hg _).setCell hg _) m, hg, ?_⟩
  rw [← dd_back h1 h2, hP]
  exact owns_put (owns_put ho k _) P _

theorem row_stays {B : Nat} {w w' : World} {g n c : Nat} {L : List Nat} (ho : owns B w g n c L) (hb : Below w.heap.size w w') (k : Nat) (hk : k < n) :
    w'.cell? ⟨g, k, none⟩ = some (.int .i64 ((L.getD k 0 : Nat) : Int)) := by
  rw [hb.cell (p := ⟨g, k, none⟩) (World.ownsRow.lt ho g rfl).2]; exact owns_cell ho hk
theorem range_at {n j : Nat} (h : j < n) : (List.range n).getD j 0 = j := by
  simp [List.getD_eq_getElem?_getD, List.getElem?_range h]
/-! ### STEP 1: THE WALK: the Go text returns true. 'Grown w w'': the world has at most new blocks (Derived/RowKit3.lean). Part the cases AHEAD of 'go_enter' where a test parts the walk; take each callee by a contract of your own. -/
set_option maxHeartbeats 2000000 in
theorem walk (a0 : Int) (a1 : Int) (w0 : (Lit.int .u32 a0).wf = true) (w1 : (Lit.int .i64 a1).wf = true) (w : World) :
    Calls Try.prog 8 #[.int .u32 a0, .int .i64 a1] w fun e w' => e = .returned (.bool true) ∧ Below w.heap.size w w' := by
  obtain ⟨s, rfl, hs⟩ := u32_nat w0
  clear w0 w1
  have HS : Hid (s < 4294967296) := hs
  clear hs
  by_cases hn : 0 ≤ a1 ∧ a1 ≤ 52
  · obtain ⟨n, rfl⟩ : ∃ n : Nat, a1 = n := ⟨a1.toNat, by omega⟩
    have hn52 : n ≤ 52 := by omega
    clear hn
    obtain ⟨T, C, hT⟩ : ∃ T C, dl s (n - 1) (List.range n) = (T, C) := ⟨_, _, rfl⟩
    have HT : Hid (dl s (n - 1) (List.range n) = (T, C)) := hT
    rw [dl_end] at hT
    injection hT with hT1 hT2
    by_cases hn0 : n = 0
    · subst hn0
      have hT3 : s = T := hT1
      subst hT3
      clear hT1 hT2
      go_enter Try.func8, Try.ntmps8
      go_wp2_with fail
      refine (Deal_any s 0 s C _ HS (by omega) HT).mono ?_
      rintro e wd ⟨rfl, hb, ho⟩
      have HB : Hid (Below w.heap.size w wd) := hb
      clear hb ho
      go_wp2_with fail
      refine (luckLives_any _).mono ?_
      rintro e w' ⟨rfl, hw⟩
      subst w'
      go_wp2_with fail
      refine (Clone_zero _ _ _).mono ?_
      rintro e w2 ⟨g1, c1, rfl, hb2⟩
      have HB2 : Hid (Below wd.heap.size wd w2) := hb2
      clear hb2
      go_wp2_with fail
      refine (Try.slices_Sort_int_none _ _ _).mono ?_
      rintro e w' ⟨rfl, hw⟩
      subst w'
      go_wp2_with fail
      refine wp_loop_rounds 1 ?_
      rw [rounds_succ]
      go_wp2_with fail
      refine (Clone_zero _ _ _).mono ?_
      rintro e w3 ⟨g2, c2, rfl, hb3⟩
      have HB3 : Hid (Below w2.heap.size w2 w3) := hb3
      clear hb3
      go_wp2_with fail
      refine wp_loop_rounds 1 ?_
      rw [rounds_succ]
      go_wp2_with fail
      refine wp_loop_rounds 1 ?_
      rw [rounds_succ]
      go_wp2_with fail
      go_ret
      exact ⟨rfl, HB.out.trans ((HB2.out.trans (HB3.out.mono HB2.out.size)).mono HB.out.size)⟩
    · obtain ⟨m, hm⟩ : ∃ m : Nat, n - 1 = m := ⟨_, rfl⟩
      have hmn : (n : Int) - 1 = (m : Int) := by omega
      have hml : m < n := by omega
      have hmn2 : m + 1 = n := by omega
      obtain ⟨i0, hi, hz0, hz1, hz2⟩ := info_parts info3
      have HP : Hid (C.Perm (List.range n)) := by show C.Perm _; rw [← hT2]; exact dd_perm s n _ (Nat.le_refl _)
      have HT1 : Hid (sk s m = T) := by show sk s m = T; rw [← hm]; exact hT1
      have HC : Hid (dd s n (n - 1) = C) := hT2
      have HM : Hid (n - 1 = m) := hm
      have HN : Hid (m + 1 = n) := hmn2
      clear hT1 hT2 hm hmn2 hn0
      go_enter Try.func8, Try.ntmps8
      go_wp2_with fail
      refine (Deal_any s n T C _ HS (by omega) HT).mono ?_
      rintro e wd ⟨rfl, hb, ho⟩
      have HB : Hid (Below w.heap.size w wd) := hb
      have HO : Hid (owns w.heap.size wd w.heap.size n n C) := ho
      clear hb ho HT
      go_wp2_with fail
      refine (luckLives_any _).mono ?_
      rintro e w' ⟨rfl, hw⟩
      subst w'
      go_wp2_with fail
      refine (Clone_any w.heap.size n n C wd (by omega) (owns_len HO.out) (fun j hj => owns_cell HO.out hj)).mono ?_
      rintro e w2 ⟨g1, c1, rfl, hc1, hg1, ho1, hb1⟩
      have HB1 : Hid (Below wd.heap.size wd w2) := hb1
      have HO1 : Hid (owns wd.heap.size w2 g1 n c1 C) := ho1
      have HG1 : Hid (wd.heap.size ≤ g1) := hg1
      clear hb1 ho1 hg1
      go_wp2_with fail
      refine (Sort_any wd.heap.size g1 n c1 C w2 (by omega) HO1.out HP.out).mono ?_
      rintro e w3 ⟨rfl, ho3, hg3⟩
      have HO3 : Hid (owns wd.heap.size w3 g1 n c1 (List.range n)) := ho3
      have HB3 : Hid (Below wd.heap.size wd w3) := HB1.out.grown hg3 HB1.out.size (fun k h => by cases h; exact HG1.out)
      have PS : Hid (pcs w3 s n m s (.slice none 0 0) w3) := ⟨by rw [HM.out, Nat.sub_self]; rfl, Below.refl _ _, Nat.le_refl _, by rw [HM.out, Nat.sub_self]; exact World.ownsRow_nil _ _ _ _⟩
      clear ho3 hg3 HO1 HB1 HG1
      go_wp2_with fail
      go_loopw [9, 10, 11] (fun v x k wr => ∃ kk X : Nat, kk ≤ m ∧ x = .int .u32 X ∧ k = .int .i64 kk ∧ pcs w3 s n kk X v wr) (fun _ _ k _ => (intOf k).toNat)
      case atStart => exact ⟨m, s, Nat.le_refl _, rfl, rfl, PS.out⟩
      case round =>
        obtain ⟨kk, X, hk, rfl, rfl, A⟩ := hrel
        clear PS
        have HA : Hid (pcs w3 s n kk X _ wr) := A
        by_cases hlt : 0 < kk
        · obtain ⟨P, hP⟩ : ∃ P, pk X (kk + 1) = P := ⟨_, rfl⟩
          obtain ⟨T', hT'⟩ : ∃ T', nx X = T' := ⟨_, rfl⟩
          have HPP : Hid (pk X (kk + 1) = P) := hP
          have HPI : Hid (pk X ((kk : Int) + 1).toNat = P) := by show pk X ((kk : Int) + 1).toNat = P; rw [show ((kk : Int) + 1).toNat = kk + 1 by omega]; exact hP
          have HT' : Hid (nx X = T') := hT'
          have hown := A.2.2.2
          have HL : Hid (w3.heap.size ≤ wr.heap.size) := A.2.2.1
          obtain ⟨q, hq⟩ : ∃ q, n - 1 - kk = q := ⟨_, rfl⟩
          have hq52 : q ≤ 52 := by omega
          have HQ : Hid (n - 1 - kk = q) := hq
          rw [hq] at hown
          clear A hP hT' hq
          go_wp2_with fail
          refine (Pick_is X P T' ((kk : Int) + 1) _ (by omega) (by omega) HPI HT').mono ?_
          rintro e w' ⟨rfl, hw⟩
          subst w'
          go_wp2_with (at_builtin; refine wpList_append_own _ rfl _ _ 28 rfl w3.heap.size 3 i0 (.int .i64 0) 1 8 Try.underlying28 hi hz0 hz1 hz2 rfl (by decide) _ _ _ rfl (hown.alloc _) ⟨wr.heap.size, 0, none⟩ 1 1 [.int .i64 (P : Int)] rfl rfl ?c1 ?c2 ?c3 ?c4 ?c5 ?_)
          case c1 =>
            intro j u hj
            match j, hj with
            | 0, hj => simp at hj; subst hj; simp [Addr.add]
          case c2 => intro u hu; simp at hu; subst hu; rfl
          case c3 => unfold maxLen; omega
          case c4 => omega
          case c5 => have := HL.out; simp; omega
          · intro v' w1 hown' hgrow _
            rw [← HQ.out] at hown'
            have AN := pcs_next hlt (by rw [HM.out]; exact hk) HA.out HPP.out hown' hgrow
            rw [HT'.out] at AN
            have HAN : Hid (pcs w3 s n (kk - 1) T' v' w1) := AN
            clear hown' hgrow hown AN
            go_wp2_with fail
            go_roundw
            case rel => exact ⟨kk - 1, T', by omega, rfl, val_int (by omega), HAN.out⟩
            case measure => simp [intOf]; omega
        · obtain rfl : kk = 0 := by omega
          obtain ⟨w4, hw4⟩ : ∃ w4 : World, w4 = wr := ⟨_, rfl⟩
          subst hw4
          obtain ⟨hX, po, cp, rfl, hpo⟩ := pcs_end A
          rw [HM.out] at hX hpo
          rw [HT1.out] at hX
          subst hX
          have HPO : Hid (0 < m → _) := hpo
          have HBW : Hid (Below w3.heap.size w3 w4) := A.2.1
          have HBD : Hid (Below wd.heap.size wd w4) := HB3.out.trans (A.2.1.mono HB3.out.size)
          clear A HA hpo hi hz0 hz1 hz2
          go_wp2_with fail
          refine (Clone_any w.heap.size n n C w4 (by omega) (owns_len HO.out) (fun j hj => row_stays HO.out HBD.out j hj)).mono ?_
          rintro e w5 ⟨g2, c2, rfl, hc2, hg2, ho5, hb5⟩
          have BS : Hid (bks w4 s n g2 c2 1 w5) := ⟨hb5, hg2, by rw [HC.out]; exact ho5⟩
          clear hb5 ho5 hg2
          go_wp2_with fail
          go_loopw [16] (fun k wr => ∃ kk : Nat, 1 ≤ kk ∧ kk ≤ n ∧ k = .int .i64 kk ∧ bks w4 s n g2 c2 kk wr) (fun k _ => n - (intOf k).toNat)
          case atStart => exact ⟨1, by omega, by omega, rfl, BS.out⟩
          case round =>
            obtain ⟨k, hk1, hk2, rfl, R⟩ := hrel
            clear BS
            have HR : Hid (bks w4 s n g2 c2 k wr) := R
            by_cases hkn : k < n
            · obtain ⟨g3, rfl, hg3l, hcp, hpc⟩ := HPO.out (by omega)
              obtain ⟨q, hq⟩ : ∃ q, m - k = q := ⟨_, rfl⟩
              have hqi : (m : Int) - (k : Int) = (q : Int) := by omega
              have hqm : q < m := by omega
              obtain ⟨P, hP⟩ : ∃ P, pk (sk s q) (k + 1) = P := ⟨_, rfl⟩
              have hPl : P < k + 1 := by rw [← hP]; exact pk_lt (by omega)
              have hP2 : pk (sk s (n - 1 - k)) (k + 1) = P := by rw [HM.out, hq]; exact hP
              have c0 : wr.cell? ⟨g3, q, none⟩ = some (.int .i64 (P : Int)) := by
                rw [R.1.cell (p := ⟨g3, q, none⟩) hg3l, hpc q hqm, show n - q = k + 1 by omega, hP]
              have NX := fun mm => bks_next hk1 hkn hP2 R mm
              have ho := R.2.2
              generalize dd s n (n - k) = L at *
              have c1 := owns_cell ho (j := k) (by omega)
              have c2 := owns_cell ho (j := P) (by omega)
              have f1 := owns_free ho k
              have f2 := owns_free ho P
              have ho1 := owns_put ho k (L.getD P 0)
              have c3 := owns_cell ho1 (j := P) (by omega)
              have f3 := owns_free ho1 P
              generalize hx : L.getD k 0 = x at *
              generalize hy : L.getD P 0 = y at *
              generalize (L.set k y).getD P 0 = z at *
              have HNX : Hid (∀ mm : Nat, _) := NX
              have HKN : Hid (k < n) := hkn
              clear ho ho1 hpc hP hP2 hq R NX hx hy HR HPO
              go_wp2_with fail
              go_region
              go_wp2_with fail
              go_roundw
              case rel => exact ⟨k + 1, by omega, by omega, by go_num, HNX.out _⟩
              case measure => simp [intOf]; omega
            · obtain rfl : k = n := by omega
              have e0 : dd s k (k - k) = List.range k := by rw [Nat.sub_self]; rfl
              have ho := R.2.2
              rw [e0] at ho
              have HCB : Hid (∀ j, j < k → wr.cell? ⟨g2, j, none⟩ = some (.int .i64 (j : Int))) := fun j hj => by rw [owns_cell ho hj, range_at hj]
              have HCS : Hid (∀ j, j < k → wr.cell? ⟨g1, j, none⟩ = some (.int .i64 (j : Int))) := fun j hj => by
                have hb := HBW.out.trans (R.1.mono HBW.out.size)
                rw [row_stays HO3.out hb j hj, range_at hj]
              have HBE : Hid (Below w.heap.size w wr) := HB.out.trans ((HBD.out.trans (R.1.mono HBD.out.size)).mono HB.out.size)
              clear R HR ho e0
              go_wp2_with fail
              go_loop [102] (fun i => ∃ j : Nat, j ≤ k ∧ i = .int .i64 j) (fun i => k - (intOf i).toNat)
              case atStart => exact ⟨0, by omega, rfl⟩
              case round =>
                obtain ⟨j, hj, rfl⟩ := hrel
                by_cases hjk : j < k
                · have b1 := HCB.out j hjk
                  have b2 := HCS.out j hjk
                  go_wp2_with fail
                  go_round
                  case rel => exact ⟨j + 1, by omega, by go_num⟩
                  case measure => simp [intOf]; omega
                · go_wp2_with fail
                  go_ret
                  exact ⟨rfl, HBE.out⟩
  · have hn' : a1 < 0 ∨ 52 < a1 := by omega
    clear hn
    go_enter Try.func8, Try.ntmps8
    go_wp2_with fail
    refine (Deal_no s a1 _ hn').mono ?_
    rintro e w' ⟨rfl, hw⟩
    subst w'
    go_wp2_with fail
    refine (luckLives_any _).mono ?_
    rintro e w' ⟨rfl, hw⟩
    subst w'
    go_wp2_with fail
    refine (luckLives_any _).mono ?_
    rintro e w' ⟨rfl, hw⟩
    subst w'
    go_wp2_with fail
    go_ret
    exact ⟨rfl, Below.refl _ _⟩

/-! ### THE ROW's STEP: WRITTEN OUT: LEAVE IT -/
set_option maxRecDepth 100000 in
theorem lifted (os : Os) (started : os.Started) (H : Type) (enc : TypeId × Value → H) :
    ReturnsInHanded {} Try.checked os 8 .any (Rows.luckDealsSpec.pre6 enc Try.prog Try.f8 Rows.luckDealsRow.domain false) (Rows.luckDealsSpec.post enc Try.prog Try.f8 false true false false) := by
  refine returnsInHanded_of_change (C := Try.checked) own started (by kernel_rfl) Try.func8
    (ChangeSpec.witness6 (enc := enc) (C := Try.checked) false ⟨#[], #[.int .u32 0, .int .i64 0], []⟩ 8 (by kernel_rfl) (by kernel_rfl) (by kernel_rfl) (by kernel_rfl)) ?_
  intro W base args ds gs before hval0 hW hcnd _
  have hval : ∀ (j : Nat) t v, Try.f8.params[j]? = some t → args[j]? = some v → Value.okWide Try.prog W .any base t v := hval0
  have hW' := hW
  obtain ⟨p, q, hA0, hV, rfl, hfz, hnd⟩ := hW
  have hA : DataW.TrodAll enc Try.prog W 0 (fun _ => true) true Try.f8.params.toList args.toList ds p := hA0
  rw [Try.params8] at hA hval
  obtain ⟨v0, vs0, d0, ds0, p0, q0, hargs, rfl, rfl, h0, r0⟩ := trodAll_cons hA
  obtain ⟨v1, vs1, d1, ds1, p1, q1, rfl, rfl, rfl, h1, r1⟩ := trodAll_cons r0
  obtain ⟨rfl, rfl, rfl⟩ := trodAll_nil r1
  obtain rfl : args = #[v0, v1] := by cases args; simp_all
  obtain ⟨rfl, rfl⟩ := trodVars_none hV
  obtain ⟨a0, rfl, rfl, rfl, w0⟩ := open_int Try.underlying22 (hval 0 22 v0 rfl rfl) h0
  obtain ⟨a1, rfl, rfl, rfl, w1⟩ := open_int Try.underlying3 (hval 1 3 v1 rfl rfl) h1
  clear hA0 hval0
  simp only [List.append_nil] at hW'
  refine (walk a0 a1 w0 w1 W).mono fun e W' ⟨he, hg⟩ => ?_
  subst he
  exact ⟨_, rfl, post_of_kept (pa := []) (pv := []) hW' (fun _ _ _ => (trodAll_cons_mk (shut_bool Try.underlying4 _) trodAll_mk0)) (fun sp _ => (trodAll_cons_mk (shut_int Try.underlying22 w0) (trodAll_cons_mk (shut_int Try.underlying3 w1) trodAll_mk0))) (fun _ _ => rfl) rfl (hg.frame _)⟩

theorem over : Rows.luckDealsRow.holds Try.pinned (OpenSpec.ofChange Rows.luckDealsSpec) :=
  OpenClaim.holds_of_wide 8 Try.f8 rfl rfl rfl rfl rfl rfl rfl ⟨rfl, rfl, rfl, rfl, rfl⟩ rfl rfl rfl rfl rfl (by kernel_rfl) Try.func8 (by kernel_rfl)
    (of_decide_eq_true (by kernel_rfl)) (by unfold Func.isWrapper; first | (rw [if_pos (by decide +kernel)]; kernel_rfl) | (rw [if_neg (by decide +kernel)]; exact ⟨rfl, rfl⟩))
    (fun os started H enc _ => lifted os started H enc)

/-- ████ THE STATEMENT ████ -/
theorem proved : Rows.LuckDealsSaid :=
  over
end Go.Proofs.Ytefgmgapiknemaa.luckDeals

namespace Go.Proofs.Ytefgmgapiknemaa
/-- For every number and every count the law LuckDeals returns true: each card is dealt once, and from the picks the deal can be undone. -/
theorem luckDeals_holds : Rows.LuckDealsSaid := luckDeals.proved
#print axioms luckDeals_holds
end Go.Proofs.Ytefgmgapiknemaa
