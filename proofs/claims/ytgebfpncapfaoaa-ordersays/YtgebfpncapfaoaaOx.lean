/- What the document's own OrdersText returns: what order.Write does. -/
import Derived.Test.YtgebfpncapfaoaaOw
namespace Go.Proofs.Ytgebfpncapfaoaa
open Go.RowKit
set_option linter.unusedVariables false
attribute [local go_sem ↓] Go.wp_at_zero Go.wp_at_succ

/-- A count, and so many numbers behind it, as a text. -/
def frt (L : Nat) (q : List Int) : ByteArray := ⟨(pk.pk L ++ pk.fs q).toArray⟩
theorem frt_zero (L : Nat) : frt L [] = pk.ps L := by unfold frt pk.ps; simp [pk.fs]
theorem frt_next (L : Nat) (q : List Int) (x : Int) : frt L q ++ pk.ps (pk.fd x) = frt L (q ++ [x]) := by
  apply pk.of_bs
  have e : pk.bs (frt L q ++ pk.ps (pk.fd x)) = (pk.pk L ++ pk.fs q) ++ pk.pk (pk.fd x) := by simp [pk.bs, frt, pk.ps]
  have e2 : pk.bs (frt L (q ++ [x])) = pk.pk L ++ pk.fs (q ++ [x]) := by simp [pk.bs, frt]
  rw [e, e2, pk.fs_snoc, List.append_assoc]
theorem frt_size {L : Nat} {q : List Int} (hL : L < 18446744073709551616) (hf : ∀ x ∈ q, fits x) (hq : q.length ≤ 10000) : (frt L q).size ≤ 1000000 := by
  have e : (frt L q).size = (pk.pk L ++ pk.fs q).length := by rw [← pk.bs_len]; simp [pk.bs, frt]
  have h1 := pk.pk_ten hL
  have h2 := pk.fs_len q hf
  rw [e, List.length_append]; omega
theorem frt_all {l : List Ord} (h : l.length ≤ 100) : frt (6 * l.length) (nums l) = pk.qa (nums l) := by
  unfold pk.qa frt pk.pa; rw [if_pos (by rw [nums_len]; omega), nums_len]
/-- What is put so far: k orders, and j numbers of the next one. -/
def frk (l : List Ord) (k j : Nat) : ByteArray := frt (6 * l.length) (nums (l.take k) ++ ((l.drop k).head?.map Ord.nums |>.getD []).take j)
theorem frk_start (l : List Ord) (k : Nat) : frk l k 0 = frt (6 * l.length) (nums (l.take k)) := by unfold frk; simp
theorem frk_at {l : List Ord} {k : Nat} (h : k < l.length) (j : Nat) : frk l k j = frt (6 * l.length) (nums (l.take k) ++ (l[k].nums).take j) := by
  unfold frk; simp [List.getElem?_eq_getElem h]
theorem nums6 (o : Ord) : o.nums.length = 6 := rfl
/-- The j-th number. -/
def nu (xs : List Int) (j : Nat) : Int := xs.getD j 0
theorem nu_at {xs : List Int} {j : Nat} (h : j < xs.length) : nu xs j = xs[j] := by unfold nu; rw [List.getD_eq_getElem?_getD, List.getElem?_eq_getElem h]; rfl
theorem nu_mem (o : Ord) {j : Nat} (h : j < 6) : nu o.nums j ∈ o.nums := by rw [nu_at (by rw [nums6]; exact h)]; exact List.getElem_mem _
theorem row_nu {w : World} {p : Option Addr} {xs : List Int} (h : row vi w p xs) {j : Nat} (hj : j < xs.length) : ∃ a, p = some a ∧ w.cell? (a.add j) = some (.int .i64 (nu xs j)) := by rw [nu_at hj]; exact row_at h hj
theorem frk_next {l : List Ord} {k j : Nat} (h : k < l.length) (hj : j < 6) : frk l k j ++ pk.ps (pk.fd (nu l[k].nums j)) = frk l k (j + 1) := by
  rw [nu_at (xs := l[k].nums) (by rw [nums6]; exact hj), frk_at h, frk_at h, frt_next, List.append_assoc]
  congr 2
  rw [List.take_succ_eq_append_getElem (by rw [nums6]; exact hj)]
theorem frk_end {l : List Ord} {k : Nat} (h : k < l.length) : frk l k 6 = frk l (k + 1) 0 := by
  rw [frk_at h, frk_start, nums_next h, List.take_of_length_le (l := l[k].nums) (by rw [nums6]; omega)]
theorem frk_size {l : List Ord} (hf : ∀ o ∈ l, fito o) (hl : l.length ≤ 100) {k j : Nat} (h : k < l.length) : (frk l k j).size ≤ 1000000 := by
  rw [frk_at h]
  have h3 : (l.take k).length ≤ l.length := List.length_take_le' _ _
  refine frt_size (by omega) (fun x hx => ?_) ?_
  · rcases List.mem_append.1 hx with h1 | h1
    · exact nums_fits hf x (List.mem_flatMap.2 (by
        obtain ⟨o, ho, hx⟩ := List.mem_flatMap.1 h1
        exact ⟨o, List.mem_of_mem_take ho, hx⟩))
    · exact nums_fits hf x (List.mem_flatMap.2 ⟨l[k], List.getElem_mem h, List.mem_of_mem_take h1⟩)
  · have h4 : ((l[k].nums).take j).length ≤ (l[k].nums).length := List.length_take_le' _ _
    rw [nums6] at h4
    rw [List.length_append, nums_len]; omega
theorem frk_all {l : List Ord} {n : Nat} (hn : l.length = n) (h : n ≤ 100) : frk l n 0 = pk.qa (nums l) := by
  rw [frk_start, List.take_of_length_le (by omega), frt_all (by omega)]

set_option maxRecDepth 20000 in
set_option maxHeartbeats 4000000 in
theorem OrdersText_any (p : Option Addr) (n c : Nat) (l : List Ord) (w : World) (hr : rowf to6 w p l) (hn : l.length = n) (hm : n ≤ 9223372036854775807) (hf : ∀ o ∈ l, fito o) :
    Calls Try.prog 10 #[.slice p n c] w fun e w' => e = .returned (.tuple #[.string (wt l), .int .i64 (oes l)]) ∧ Below w.heap.size w w' := by
  have HC : Hid (Calls Try.prog 17 #[.slice p n c] w fun e w' => e = .returned (.int .i64 (oes l)) ∧ Below w.heap.size w w') := OrdersRight_any p n c l w hr hn hm
  obtain ⟨T, hT⟩ : ∃ T, wt l = T := ⟨_, rfl⟩
  by_cases hz : oes l = 0
  · have hl := (oes_zero hz).1
    have hln : n ≤ 100 := by omega
    have HT : Hid (T = cr.sl (pk.qa (nums l))) := by unfold Hid; rw [← hT]; unfold wt; rw [if_pos hz]
    rw [hz] at HC ⊢
    rw [hT]
    have HP : Hid (∀ V, Calls Try.prog 37 #[.int .u64 (6 * (n : Int))] V fun e w' => e = .returned (.string (frk l 0 0)) ∧ Below V.heap.size V w') := fun V => by
      have := pk.Packed_any (6 * n) V (by omega)
      rw [frk_start, List.take_zero, hn]
      have e : frt (6 * n) (nums []) = pk.ps (6 * n) := frt_zero _
      rw [e]
      have e2 : ((6 * n : Nat) : Int) = 6 * (n : Int) := by omega
      rwa [e2] at this
    have HS : Hid (∀ V, Calls Try.prog 39 #[.string (frk l n 0)] V fun e w' => e = .returned (.string T) ∧ Below V.heap.size V w') := fun V => by
      rw [frk_all hn hln, HT.out]; exact cr.Sealed_any _ V (wt_size hf hl)
    have HR : Hid (rowf to6 w p l) := hr
    have HN : Hid (l.length = n) := hn
    have HF : Hid (∀ k (h : k < l.length) j (hj : j < 6) (V : World), Calls Try.prog 38 #[.int .i64 (nu l[k].nums j)] V fun e w' => e = .returned (.int .u64 (pk.fd (nu l[k].nums j))) ∧ w' = V) := fun k h j hj V => pk.Folded_any _ V (nums_fits hf _ (List.mem_flatMap.2 ⟨l[k], List.getElem_mem h, nu_mem _ hj⟩))
    have HK : Hid (∀ k (h : k < l.length) j (hj : j < 6) (V : World), Calls Try.prog 37 #[.int .u64 (pk.fd (nu l[k].nums j))] V fun e w' => e = .returned (.string (pk.ps (pk.fd (nu l[k].nums j)))) ∧ Below V.heap.size V w') := fun k h j hj V => pk.Packed_any _ V (pk.fd_lt (nums_fits hf _ (List.mem_flatMap.2 ⟨l[k], List.getElem_mem h, nu_mem _ hj⟩)))
    have HZ : Hid (∀ k (h : k < l.length) j (hj : j < 6), (pk.ps (pk.fd (nu l[k].nums j))).size ≤ 10) := fun k h j hj => by rw [pk.ps_size]; exact pk.pk_ten (pk.fd_lt (nums_fits hf _ (List.mem_flatMap.2 ⟨l[k], List.getElem_mem h, nu_mem _ hj⟩)))
    have HY : Hid (∀ k (h : k < l.length) j, (frk l k j).size ≤ 1000000) := fun k h j => frk_size hf hl h
    have HX : Hid (∀ k (h : k < l.length) j (hj : j < 6), frk l k j ++ pk.ps (pk.fd (nu l[k].nums j)) = frk l k (j + 1)) := fun k h j hj => frk_next h hj
    have HE : Hid (∀ k (h : k < l.length), frk l k 6 = frk l (k + 1) 0) := fun k h => frk_end h
    have wq : IntKind.i64.wrap (6 * (n : Int)) = 6 * (n : Int) := by rw [IntKind.wrap_i64]; omega
    have wu : IntKind.u64.wrap (6 * (n : Int)) = 6 * (n : Int) := by rw [IntKind.wrap_u64]; omega
    obtain ⟨S0, hS0⟩ : ∃ S0, frk l 0 0 = S0 := ⟨_, rfl⟩
    rw [hS0] at HP
    have HS0 : Hid (S0 = frk l 0 0) := hS0.symm
    clear hr hn hf hz hT hl HT hS0
    go_enter Try.func10, Try.ntmps10
    go_wp2_with fail
    refine HC.out.mono ?_
    rintro e w1 ⟨rfl, hb1⟩
    have HB1 : Hid (Below w.heap.size w w1) := hb1
    clear hb1 HC
    go_wp2_with fail
    refine (HP.out _).mono ?_
    rintro e w2 ⟨rfl, hb2⟩
    have HB2 : Hid (Below w.heap.size w w2) := below_step HB1.out HB1.out.size hb2
    clear hb2 HP
    go_wp2_with fail
    go_loopw [5, 22] (fun v i wr => ∃ k : Nat, i = .int .i64 k ∧ k ≤ n ∧ v = .string (frk l k 0) ∧ Below w.heap.size w wr) (fun _ i _ => n - (intOf i).toNat)
    case atStart => exact ⟨0, rfl, by omega, by rw [HS0.out], HB2.out⟩
    case round =>
      obtain ⟨k, rfl, hk, rfl, hb⟩ := hrel
      have HB : Hid (Below w.heap.size w wr) := hb
      clear hb HB2 HS0
      by_cases hlt : k < n
      · have hkl : k < l.length := by rw [HN.out]; exact hlt
        obtain ⟨a, rfl, ha⟩ := oat (rowf_below HR.out HB.out) hkl
        have HF := HF.out k hkl
        have HK := HK.out k hkl
        have HZ := HZ.out k hkl
        have HY := HY.out k hkl
        have HX := HX.out k hkl
        have HE := HE.out k hkl
        obtain ⟨X, hX⟩ : ∃ X, l[k] = X := ⟨_, rfl⟩
        rw [hX] at ha
        simp only [hX] at HF HK HZ HX
        have HF1 : Hid (∀ j (hj : j < 6) (V : World), Calls Try.prog 38 #[.int .i64 (nu X.nums j)] V fun e w' => e = .returned (.int .u64 (pk.fd (nu X.nums j))) ∧ w' = V) := HF
        have HK1 : Hid (∀ j (hj : j < 6) (V : World), Calls Try.prog 37 #[.int .u64 (pk.fd (nu X.nums j))] V fun e w' => e = .returned (.string (pk.ps (pk.fd (nu X.nums j)))) ∧ Below V.heap.size V w') := HK
        have HZ1 : Hid (∀ j (hj : j < 6), (pk.ps (pk.fd (nu X.nums j))).size ≤ 10) := HZ
        have HY1 : Hid (∀ j, (frk l k j).size ≤ 1000000) := HY
        have HX1 : Hid (∀ j (hj : j < 6), frk l k j ++ pk.ps (pk.fd (nu X.nums j)) = frk l k (j + 1)) := HX
        have HE1 : Hid (frk l k 6 = frk l (k + 1) 0) := HE
        clear HF HK HZ HY HX HE hX
        have HA2 := two_below wr (.cells #[.int .i64 X.b, .int .i64 X.k, .int .i64 X.w, .int .i64 X.x, .int .i64 X.y, .int .i64 X.a] 25) (.cells #[.int .i64 X.b, .int .i64 X.k, .int .i64 X.w, .int .i64 X.x, .int .i64 X.y, .int .i64 X.a] 3)
        have HRW : Hid (row vi ((wr.alloc (.cells #[.int .i64 X.b, .int .i64 X.k, .int .i64 X.w, .int .i64 X.x, .int .i64 X.y, .int .i64 X.a] 25)).alloc (.cells #[.int .i64 X.b, .int .i64 X.k, .int .i64 X.w, .int .i64 X.x, .int .i64 X.y, .int .i64 X.a] 3)) (some ⟨wr.heap.size + 1, 0, none⟩) X.nums) := six_new2 _ _ _ _
        have HBW : Hid (Below w.heap.size w ((wr.alloc (.cells #[.int .i64 X.b, .int .i64 X.k, .int .i64 X.w, .int .i64 X.x, .int .i64 X.y, .int .i64 X.a] 25)).alloc (.cells #[.int .i64 X.b, .int .i64 X.k, .int .i64 X.w, .int .i64 X.x, .int .i64 X.y, .int .i64 X.a] 3))) := below_step HB.out HB.out.size HA2
        clear HA2
        obtain ⟨xs, hxs⟩ : ∃ xs, X.nums = xs := ⟨_, rfl⟩
        have HXL : Hid (xs.length = 6) := by rw [← hxs]; exact nums6 X
        rw [hxs] at HRW
        simp only [hxs] at HF1 HK1 HZ1 HX1
        have l1 : (k : Int) < n := by omega
        have l2 : (0 : Int) ≤ k := by omega
        obtain ⟨b, kk, wh, x, y, aa⟩ := X
        obtain ⟨z0, z1, z2, z3, z4, z5⟩ := ha
        dsimp only at z0 z1 z2 z3 z4 z5 HRW HBW
        clear hxs
        obtain ⟨W6, hW6⟩ : ∃ W6, (wr.alloc (.cells #[.int .i64 b, .int .i64 kk, .int .i64 wh, .int .i64 x, .int .i64 y, .int .i64 aa] 25)).alloc (.cells #[.int .i64 b, .int .i64 kk, .int .i64 wh, .int .i64 x, .int .i64 y, .int .i64 aa] 3) = W6 := ⟨_, rfl⟩
        rw [hW6] at HRW HBW
        go_wp2_with fail
        clear z0 z1 z2 z3 z4 z5 hW6
        obtain ⟨wo, hwo⟩ : ∃ wo : World, wo = wr := ⟨_, rfl⟩
        subst hwo
        go_loopw [5, 42] (fun v i wv => ∃ j : Nat, i = .int .i64 j ∧ j ≤ 6 ∧ v = .string (frk l k j) ∧ Below w.heap.size w wv ∧ row vi wv (some ⟨wo.heap.size + 1, 0, none⟩) xs) (fun _ i _ => 6 - (intOf i).toNat)
        case atStart => exact ⟨0, rfl, by omega, rfl, HBW.out, HRW.out⟩
        case round =>
          obtain ⟨j, rfl, hj, rfl, hbv, hrv⟩ := hrel
          have HBV : Hid (Below w.heap.size w wr) := hbv
          have HRV : Hid (row vi wr (some ⟨wo.heap.size + 1, 0, none⟩) xs) := hrv
          clear hbv hrv HRW HBW
          by_cases hjt : j < 6
          · obtain ⟨a', ea, hc⟩ := row_nu HRV.out (j := j) (by rw [HXL.out]; exact hjt)
            cases ea
            rw [add_zero_at] at hc
            have HF2 := HF1.out j hjt
            have HK2 := HK1.out j hjt
            have HZ2 := HZ1.out j hjt
            have HX2 := HX1.out j hjt
            have HY2 := HY1.out j
            obtain ⟨N, hN⟩ : ∃ N, nu xs j = N := ⟨_, rfl⟩
            rw [hN] at hc
            simp only [hN] at HF2 HK2 HZ2 HX2
            obtain ⟨t, ht⟩ : ∃ t, pk.ps (pk.fd N) = t := ⟨_, rfl⟩
            simp only [ht] at HK2 HZ2 HX2
            obtain ⟨F, hF⟩ : ∃ F, pk.fd N = F := ⟨_, rfl⟩
            simp only [hF] at HF2 HK2
            have HF3 : Hid (∀ (V : World), Calls Try.prog 38 #[.int .i64 N] V fun e w' => e = .returned (.int .u64 F) ∧ w' = V) := HF2
            have HK3 : Hid (∀ (V : World), Calls Try.prog 37 #[.int .u64 F] V fun e w' => e = .returned (.string t) ∧ Below V.heap.size V w') := HK2
            obtain ⟨g, hg⟩ : ∃ g, frk l k j = g := ⟨_, rfl⟩
            rw [hg] at HX2 HY2 ⊢
            have HX3 : Hid (g ++ t = frk l k (j + 1)) := HX2
            clear HF2 HK2 HX2 hN ht hF hg HF1 HK1 HZ1 HX1 HY1
            have j1 : (j : Int) < 6 := by omega
            have j2 : (0 : Int) ≤ j := by omega
            go_wp2_with fail
            refine (HF3.out _).mono ?_
            rintro e w' ⟨rfl, hw⟩; subst w'
            go_wp2_with fail
            refine (HK3.out _).mono ?_
            rintro e w3 ⟨rfl, b3⟩
            have H3 : Hid (Below w.heap.size w w3 ∧ row vi w3 (some ⟨wo.heap.size + 1, 0, none⟩) xs) := ⟨below_step HBV.out HBV.out.size b3, row_below HRV.out b3⟩
            clear b3
            go_wp2_with fail
            go_roundw
            case rel => exact ⟨j + 1, by go_num, by omega, by rw [HX3.out], H3.out.1, H3.out.2⟩
            case measure => simp [intOf]; omega
          · obtain rfl : j = 6 := by omega
            have HE2 : Hid (frk l k 6 = frk l (k + 1) 0) := HE1
            go_wp2_with fail
            go_roundw
            case rel => exact ⟨k + 1, by go_num, by omega, by rw [HE2.out], HBV.out⟩
            case measure => simp [intOf]; omega
      · obtain rfl : k = n := by omega
        go_wp2_with fail
        refine (HS.out _).mono ?_
        rintro e w3 ⟨rfl, hb3⟩
        have HB3 : Hid (Below w.heap.size w w3) := below_step HB.out HB.out.size hb3
        clear hb3
        go_wp2_with fail
        go_ret2
        exact ⟨rfl, HB3.out⟩
  · have HT : Hid (T = ⟨#[]⟩) := by unfold Hid; rw [← hT]; unfold wt; rw [if_neg hz]
    rw [hT, HT.out]
    obtain ⟨E, hE⟩ : ∃ E, oes l = E := ⟨_, rfl⟩
    rw [hE] at hz HC ⊢
    clear hT hE hr hn
    go_enter Try.func10, Try.ntmps10
    go_wp2_with fail
    refine HC.out.mono ?_
    rintro e w1 ⟨rfl, hb1⟩
    go_wp2_with fail
    go_ret2
    exact ⟨rfl, hb1⟩
end Go.Proofs.Ytgebfpncapfaoaa
