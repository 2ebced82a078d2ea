/- What PutAll and GetAll return. -/
import Derived.Test.YtgebfpncapfaoaaKGet
namespace Go.Proofs.Ytgebfpncapfaoaa.pk
open Go.RowKit
set_option linter.unusedVariables false
attribute [local go_sem ↓] Go.wp_at_zero Go.wp_at_succ

theorem take_next {l : List Int} {k : Nat} (h : k < l.length) : l.take (k + 1) = l.take k ++ [l[k]] := List.take_succ_eq_append_getElem h
/-- What PutAll tells: the text, the error. -/
def qa (l : List Int) : ByteArray := if l.length ≤ 1000 then ⟨(pa l).toArray⟩ else ⟨#[]⟩
def qe (l : List Int) : Nat := if l.length ≤ 1000 then 0 else 2
theorem bs_qa {l : List Int} (h : l.length ≤ 1000) : bs (qa l) = pa l := by unfold qa; rw [if_pos h]; simp [bs]
theorem ret_two {b b' : ByteArray} {c c' : Nat} (h2 : b = b') (h3 : c = c') : Ending.returned (.tuple #[.string b, .int .i64 c]) = .returned (.tuple #[.string b', .int .i64 c']) := by rw [h2, h3]
/-- What a round of PutAll keeps. -/
def ainv (w : World) (p : Option Addr) (l : List Int) (k : Nat) (v : Value) (wr : World) : Prop := mine 5 vb w.heap.size wr v (pk l.length ++ fs (l.take k)) ∧ Below w.heap.size w wr ∧ row vi wr p l
theorem ainv_len {w wr : World} {p : Option Addr} {l : List Int} {k : Nat} {v : Value} (h : ainv w p l k v wr) (hf : ∀ x ∈ l, fits x) (hl : l.length ≤ 1000) : (pk l.length ++ fs (l.take k)).length ≤ 900000 := by
  have h1 := pk_ten (n := l.length) (by omega)
  have h2 := fs_len (l.take k) (fun x hx => hf x (List.mem_of_mem_take hx))
  have h3 : (l.take k).length ≤ l.length := List.length_take_le' _ _
  rw [List.length_append]; omega

set_option maxRecDepth 20000 in
set_option maxHeartbeats 1000000 in
theorem PutAll_ok (p : Option Addr) (l : List Int) (n c : Nat) (w : World) (hn : l.length = n) (hl : n ≤ 1000) (hr : row vi w p l) (hf : ∀ x ∈ l, fits x) :
    Calls Try.prog 35 #[.slice p n c] w fun e w' => e = .returned (.tuple #[.string (qa l), .int .i64 (qe l)]) ∧ Below w.heap.size w w' := by
  have HQ : Hid (qa l = ⟨(pk l.length ++ fs l).toArray⟩ ∧ qe l = 0) := by unfold Hid qa qe; rw [if_pos (by omega), if_pos (by omega)]; exact ⟨rfl, rfl⟩
  have HP : Hid (Calls Try.prog 55 #[.slice none 0 0, .int .u64 n] w fun e w' => ∃ v', e = .returned v' ∧ mine 5 vb w.heap.size w' v' ([] ++ pk n) ∧ Below w.heap.size w w') := putBehind_any n w.heap.size _ [] w (by omega) (mine_nil _ _ _ _) (Nat.le_refl _) (by simp)
  have HF : Hid (∀ k (h : k < l.length) (w : World), Calls Try.prog 56 #[.int .i64 l[k]] w fun e w' => e = .returned (.int .u64 (fd l[k])) ∧ w' = w) := fun k h w => Fold_any _ w (hf _ (List.getElem_mem h))
  have HB : Hid (∀ k (h : k < l.length) (v : Value) (wr : World), ainv w p l k v wr → Calls Try.prog 55 #[v, .int .u64 (fd l[k])] wr fun e w' => ∃ v', e = .returned v' ∧ ainv w p l (k + 1) v' w') := by
    intro k h v wr hi
    refine (putBehind_any _ w.heap.size v _ wr (fd_lt (hf _ (List.getElem_mem h))) hi.1 hi.2.1.size (ainv_len hi hf (by omega))).mono ?_
    rintro e w' ⟨v', rfl, h1, h2⟩
    refine ⟨v', rfl, ?_, hi.2.1.trans h2, ?_⟩
    · rw [take_next h, fs_snoc, ← List.append_assoc]; exact h1
    · exact row_below hr (hi.2.1.trans h2)
  have HR : Hid (row vi w p l) := hr
  have HN : Hid (l.length = n) := hn
  have HX : Hid (0 < (pk l.length ++ fs l).length) := by have := pk_pos l.length; unfold Hid; rw [List.length_append]; omega
  have e1 : ¬ (1000 : Int) < n := by omega
  clear hn hr hf
  go_enter Try.func35, Try.ntmps35
  go_wp2_with fail
  refine HP.out.mono ?_
  rintro e w1 ⟨v, rfl, hv, hb⟩
  have H1 : Hid (ainv w p l 0 v w1) := ⟨by rw [HN.out]; simpa [fs] using hv, hb, row_below HR.out hb⟩
  clear hv hb HP
  go_wp2_with fail
  go_loopw [4, 16] (fun a i wr => ∃ k : Nat, k ≤ n ∧ i = .int .i64 k ∧ ainv w p l k a wr) (fun _ i _ => n - (intOf i).toNat)
  case atStart => exact ⟨0, Nat.zero_le _, rfl, H1.out⟩
  case round =>
    obtain ⟨k, hk, rfl, hi⟩ := hrel
    have HI : Hid (ainv w p l k u4 wr) := hi
    clear H1
    by_cases hlt : k < n
    · obtain ⟨a, rfl, hc⟩ := row_at hi.2.2 (j := k) (by rw [HN.out]; exact hlt)
      have HF' := HF.out k (by rw [HN.out]; exact hlt)
      have HB' := HB.out k (by rw [HN.out]; exact hlt) u4 wr hi
      obtain ⟨X, hX⟩ : ∃ X, l[k]'(by rw [HN.out]; exact hlt) = X := ⟨_, rfl⟩
      rw [hX] at HF' HB' hc
      obtain ⟨F, hF⟩ : ∃ F, fd X = F := ⟨_, rfl⟩
      rw [hF] at HF' HB'
      have HF' : Hid (∀ (w : World), Calls Try.prog 56 #[.int .i64 X] w fun e w' => e = .returned (.int .u64 F) ∧ w' = w) := HF'
      have HB' : Hid (Calls Try.prog 55 #[u4, .int .u64 F] wr fun e w' => ∃ v', e = .returned v' ∧ ainv w (some a) l (k + 1) v' w') := HB'
      have hc : wr.cell? (a.add k) = some (.int .i64 X) := hc
      clear hX hF hi
      have l1 : (k : Int) < n := by omega
      have l2 : (0 : Int) ≤ k := by omega
      go_wp2_with fail
      refine (HF'.out _).mono ?_
      rintro e w' ⟨rfl, hw⟩; subst w'
      go_wp2_with fail
      refine HB'.out.mono ?_
      rintro e w3 ⟨v3, rfl, h3⟩
      have H3 : Hid (ainv w (some a) l (k + 1) v3 w3) := h3
      clear h3
      go_wp2_with fail
      go_roundw
      case rel => exact ⟨k + 1, by omega, by go_num, H3.out⟩
      case measure => simp [intOf]; omega
    · have hm : mine 5 vb w.heap.size wr u4 (pk l.length ++ fs l) := by have := hi.1; rw [List.take_of_length_le (by rw [HN.out]; omega)] at this; exact this
      have hcv := mine_string hm HX.out
      clear hm hi
      go_wp2_with fail
      go_ret2
      exact ⟨ret_two HQ.out.1.symm HQ.out.2.symm, HI.out.2.1⟩
set_option maxRecDepth 20000 in
theorem PutAll_large (p : Option Addr) (l : List Int) (n c : Nat) (w : World) (hn : l.length = n) (hl : ¬ n ≤ 1000) :
    Calls Try.prog 35 #[.slice p n c] w fun e w' => e = .returned (.tuple #[.string (qa l), .int .i64 (qe l)]) ∧ Below w.heap.size w w' := by
  have HQ : Hid (qa l = ⟨#[]⟩ ∧ qe l = 2) := by unfold Hid qa qe; rw [if_neg (by omega), if_neg (by omega)]; exact ⟨rfl, rfl⟩
  have e1 : (1000 : Int) < n := by omega
  clear hn hl
  go_enter Try.func35, Try.ntmps35
  go_wp2_with fail
  go_ret2
  exact ⟨ret_two HQ.out.1.symm HQ.out.2.symm, Below.refl _ _⟩
theorem PutAll_any (p : Option Addr) (l : List Int) (c : Nat) (w : World) (hr : row vi w p l) (hf : ∀ x ∈ l, fits x) :
    Calls Try.prog 35 #[.slice p l.length c] w fun e w' => e = .returned (.tuple #[.string (qa l), .int .i64 (qe l)]) ∧ Below w.heap.size w w' := by
  by_cases h : l.length ≤ 1000
  · exact PutAll_ok p l _ c w rfl h hr hf
  · exact PutAll_large p l _ c w rfl h

/-- What a round of GetAll keeps: of what is left, with what there is, comes what comes of all. -/
def ginv (w : World) (R : List Int × Nat) (c : Nat) (r : ByteArray) (v : Value) (wr : World) : Prop := ∃ acc : List Int, mine 3 vi w.heap.size wr v acc ∧ Below w.heap.size w wr ∧ gs c (bs r) acc = R ∧ acc.length + c ≤ 1000 ∧ r.size ≤ 9223372036854775807
theorem ret_all {v : Value} {c c' : Nat} (h3 : c = c') : Ending.returned (.tuple #[v, .int .i64 c]) = .returned (.tuple #[v, .int .i64 c']) := by rw [h3]

theorem ginv_next {w wr w1 w2 : World} {R : List Int × Nat} {c : Nat} {r : ByteArray} {v v2 : Value} {acc : List Int} (hv : mine 3 vi w.heap.size wr v acc) (hR : gs (c + 1) (bs r) acc = R) (hl : acc.length + (c + 1) ≤ 1000) (hr : r.size ≤ 9223372036854775807) (h0 : ge r = 0)
    (h1 : mine 3 vi w.heap.size w1 v acc) (hb1 : Below w.heap.size w w1) (hg : w1.grownBy w2 v.ownBlock) (h2 : mine 3 vi w.heap.size w2 v2 (acc ++ [uf (gn r)])) : ginv w R c (gr r) v2 w2 :=
  ⟨acc ++ [uf (gn r)], h2, mine_grown h1 hb1 hb1.size hg, by rw [bs_gr, ← hR, gs_next h0]; rfl, by rw [List.length_append]; simp; omega, Nat.le_trans (gr_size r) hr⟩
theorem ginv_err {R : List Int × Nat} {c : Nat} {r : ByteArray} {acc : List Int} (hR : gs (c + 1) (bs r) acc = R) (h0 : ge r ≠ 0) : R = ([], ge r) := by rw [← hR, gs_err h0]; rfl
theorem ginv_left {R : List Int × Nat} {r : ByteArray} {acc : List Int} (hR : gs 0 (bs r) acc = R) (h0 : ¬ r = ⟨#[]⟩) : R = ([], 4) := by
  rw [← hR, gs_left]
  intro h
  exact h0 (of_bs (by rw [h]; rfl))
theorem ginv_end {R : List Int × Nat} {acc : List Int} (hR : gs 0 (bs ⟨#[]⟩) acc = R) : R = (acc, 0) := by rw [← hR]; rfl
theorem str_full {r : ByteArray} (h : ¬ r = ⟨#[]⟩) : r.toList.isEmpty = false := by
  rw [ByteArray.toList_eq]
  rcases hl : r.data.toList with _ | ⟨b, l⟩
  · exact absurd (str_eq (by rw [hl])) h
  · rfl
theorem nil_err {w wr : World} {R : List Int × Nat} {x : Nat} (h : R = ([], x)) (hb : Below w.heap.size w wr) : ∃ v, Ending.returned (.tuple #[.slice none 0 0, .int .i64 x]) = .returned (.tuple #[v, .int .i64 R.2]) ∧ mine 3 vi w.heap.size wr v R.1 ∧ Below w.heap.size w wr := by
  subst h; exact ⟨_, rfl, mine_nil _ _ _ _, hb⟩

set_option maxRecDepth 20000 in
set_option maxHeartbeats 1000000 in
theorem GetAll_any (s : ByteArray) (w : World) (hs : s.size ≤ 9223372036854775807) :
    Calls Try.prog 41 #[.string s] w fun e w' => ∃ v, e = .returned (.tuple #[v, .int .i64 (ga (bs s)).2]) ∧ mine 3 vi w.heap.size w' v (ga (bs s)).1 ∧ Below w.heap.size w w' := by
  have HG : Hid (∀ (t : ByteArray) (w : World), t.size ≤ 9223372036854775807 → Calls Try.prog 60 #[.string t] w fun e w' => e = .returned (.tuple #[.int .u64 (gn t), .string (gr t), .int .i64 (ge t)]) ∧ Below w.heap.size w w') := fun t w h => Get_any t w h
  have HU : Hid (∀ (n : Nat) (w : World), n < 18446744073709551616 → Calls Try.prog 61 #[.int .u64 n] w fun e w' => e = .returned (.int .i64 (uf n)) ∧ w' = w) := fun n w h => Unfold_any n w h
  have A1 : Hid (ge s ≠ 0 → ga (bs s) = ([], ge s)) := fun h => ga_err h
  have A2 : Hid (ge s = 0 → ¬ gn s ≤ 1000 → ga (bs s) = ([], 2)) := fun h h2 => ga_large h h2
  have A3 : Hid (ge s = 0 → gn s ≤ 1000 → gs (gn s) (bs (gr s)) [] = ga (bs s)) := fun h h2 => by rw [bs_gr]; exact (ga_go h h2).symm
  have HS : Hid ((gr s).size ≤ s.size) := gr_size s
  obtain ⟨R, hR⟩ : ∃ R, ga (bs s) = R := ⟨_, rfl⟩
  rw [hR] at A1 A2 A3 ⊢
  clear hR
  go_enter Try.func41, Try.ntmps41
  go_wp2_with fail
  refine (HG.out s _ hs).mono ?_
  rintro e w1 ⟨rfl, hb1⟩
  obtain ⟨C, hC⟩ : ∃ C, gn s = C := ⟨_, rfl⟩
  obtain ⟨T, hT⟩ : ∃ T, gr s = T := ⟨_, rfl⟩
  obtain ⟨E, hE⟩ : ∃ E, ge s = E := ⟨_, rfl⟩
  rw [hE] at A1
  rw [hE, hC] at A2
  rw [hE, hC, hT] at A3
  rw [hT] at HS
  rw [hE, hC, hT]
  clear hC hT hE
  by_cases h0 : E = 0
  · subst h0
    by_cases h1 : C ≤ 1000
    · have HGI : Hid (ginv w R C T (.slice none 0 0) w1) := ⟨[], mine_nil _ _ _ _, hb1, A3.out rfl h1, by simpa using h1, by have := HS.out; omega⟩
      clear A1 A2 A3 HS
      go_wp2_with fail
      go_loopw [5, 7, 21] (fun r a i wr => ∃ (k : Nat) (r' : ByteArray), r = .string r' ∧ k ≤ C ∧ i = .int .u64 k ∧ ginv w R (C - k) r' a wr) (fun _ _ i _ => C - (intOf i).toNat)
      case atStart => exact ⟨0, T, rfl, Nat.zero_le _, rfl, HGI.out⟩
      case round =>
        obtain ⟨k, r, rfl, hk, rfl, acc, hv, hb, hgs, hlen, hrs⟩ := hrel
        clear HGI
        have HV : Hid (mine 3 vi w.heap.size wr u7 acc) := hv
        have HB : Hid (Below w.heap.size w wr) := hb
        have HR : Hid (gs (C - k) (bs r) acc = R) := hgs
        have HL : Hid (acc.length + (C - k) ≤ 1000) := hlen
        have HT : Hid (r.size ≤ 9223372036854775807) := hrs
        clear hv hb hgs hlen hb1 hrs
        by_cases hlt : k < C
        · have l1 : (k : Int) < C := by omega
          have HD : Hid (C - k = (C - (k + 1)) + 1) := by show _ = _; omega
          rw [HD.out] at HR HL
          go_wp2_with fail
          refine (HG.out r _ HT.out).mono ?_
          rintro e w2 ⟨rfl, hb2⟩
          have HB2 : Hid (Below wr.heap.size wr w2) := hb2
          clear hb2
          by_cases h0 : ge r = 0
          · have HN : Hid (∀ (wr w1 w2 : World) (v v2 : Value), mine 3 vi w.heap.size wr v acc → mine 3 vi w.heap.size w1 v acc → Below w.heap.size w w1 → w1.grownBy w2 v.ownBlock → mine 3 vi w.heap.size w2 v2 (acc ++ [uf (gn r)]) → ginv w R (C - (k + 1)) (gr r) v2 w2) := fun wr w1 w2 v v2 a1 a2 a3 a4 a5 => ginv_next a1 HR.out HL.out HT.out h0 a2 a3 a4 a5
            have HU' : Hid (∀ w : World, Calls Try.prog 61 #[.int .u64 (gn r)] w fun e w' => e = .returned (.int .i64 (uf (gn r))) ∧ w' = w) := fun w => HU.out _ w (gn_lt r)
            rw [h0]
            obtain ⟨U, hU⟩ : ∃ U, uf (gn r) = U := ⟨_, rfl⟩
            rw [hU] at HN HU'
            obtain ⟨X, hX⟩ : ∃ X, gn r = X := ⟨_, rfl⟩
            rw [hX] at HU' ⊢
            obtain ⟨Y, hY⟩ : ∃ Y, gr r = Y := ⟨_, rfl⟩
            rw [hY] at HN ⊢
            clear hU hX hY h0
            go_wp2_with fail
            refine (HU'.out _).mono ?_
            rintro e w' ⟨rfl, hw⟩; subst w'
            have HV2 : Hid (mine 3 vi w.heap.size (w2.alloc (.cells #[.int .i64 U] 3)) u7 acc) := mine_below (mine_below HV.out HB2.out) (alloc_below _ _)
            have HBe : Hid (Below w.heap.size w (w2.alloc (.cells #[.int .i64 U] 3))) := below_step (below_step HB.out HB.out.size HB2.out) (Nat.le_trans HB.out.size HB2.out.size) (alloc_below _ _)
            go_wp2_with (at_builtin; refine list_one ki _ rfl _ _ rfl w.heap.size u7 acc rfl HV2.out ⟨_, 0, none⟩ 1 U rfl (new_one _ _ _) (by have := HL.out; omega) HBe.out.size ?_)
            intro g cap w3 m1 m2
            have HI3 : Hid (ginv w R (C - (k + 1)) Y (.slice (some ⟨g, 0, none⟩) (acc.length + 1) cap) w3) := HN.out wr _ w3 u7 _ HV.out HV2.out HBe.out m2 m1
            clear m1 m2
            go_wp2_with fail
            go_roundw
            case rel => exact ⟨k + 1, Y, rfl, by omega, by go_num, HI3.out⟩
            case measure => simp [intOf]; omega
          · have HE : Hid (R = ([], ge r)) := ginv_err HR.out h0
            obtain ⟨E, hE⟩ : ∃ E, ge r = E := ⟨_, rfl⟩
            rw [hE] at HE h0 ⊢
            clear hE
            have h0' : ¬ (E : Int) = 0 := by omega
            go_wp2_with fail
            go_ret2
            exact nil_err HE.out (below_step HB.out HB.out.size HB2.out)
        · obtain rfl : k = C := by omega
          rw [Nat.sub_self] at HR
          by_cases hr0 : r = ⟨#[]⟩
          · subst hr0
            have HE : Hid (R = (acc, 0)) := ginv_end HR.out
            go_wp2_with fail
            go_ret2
            exact ⟨_, by rw [HE.out]; rfl, by rw [HE.out]; exact HV.out, HB.out⟩
          · have HE : Hid (R = ([], 4)) := ginv_left HR.out hr0
            have hne := str_full hr0
            clear hr0
            go_wp2_with fail
            go_ret2
            exact nil_err HE.out HB.out
    · have HE : Hid (R = ([], 2)) := A2.out rfl h1
      clear A1 A2 A3 HS
      go_wp2_with fail
      go_ret2
      exact nil_err HE.out hb1
  · have HE : Hid (R = ([], E)) := A1.out h0
    clear A1 A2 A3 HS
    have h0' : ¬ (E : Int) = 0 := by omega
    go_wp2_with fail
    go_ret2
    exact nil_err HE.out hb1
end Go.Proofs.Ytgebfpncapfaoaa.pk
