/- What order.Write returns: the sealed text of the numbers of orders, or the first error. -/
import Derived.Test.YtgebfpncapfaoaaOc
import Derived.Test.YtgebfpncapfaoaaKUna
import Derived.Test.YtgebfpncapfaoaaJRef
namespace Go.Proofs.Ytgebfpncapfaoaa
open Go.RowKit
set_option linter.unusedVariables false

/-- The numbers of orders, in order. -/
def nums (l : List Ord) : List Int := l.flatMap Ord.nums
theorem nums_cons (o : Ord) (l : List Ord) : nums (o :: l) = o.nums ++ nums l := rfl
theorem nums_app (l m : List Ord) : nums (l ++ m) = nums l ++ nums m := by unfold nums; rw [List.flatMap_append]
theorem nums_one (o : Ord) : nums [o] = o.nums := by simp [nums]
theorem nums_len (l : List Ord) : (nums l).length = 6 * l.length := by
  induction l with
  | nil => rfl
  | cons o l ih => rw [nums_cons, List.length_append, ih]; simp [Ord.nums]; omega
theorem nums_next {l : List Ord} {k : Nat} (h : k < l.length) : nums (l.take (k + 1)) = nums (l.take k) ++ l[k].nums := by
  rw [List.take_succ_eq_append_getElem h, nums_app, nums_one]
theorem nums_fits {l : List Ord} (h : ∀ o ∈ l, fito o) : ∀ x ∈ nums l, fits x := by
  intro x hx
  obtain ⟨o, ho, hx⟩ := List.mem_flatMap.1 hx
  have := h o ho
  unfold fito at this
  simp [Ord.nums] at hx
  rcases hx with rfl | rfl | rfl | rfl | rfl | rfl
  · exact this.1
  · exact this.2.1
  · exact this.2.2.1
  · exact this.2.2.2.1
  · exact this.2.2.2.2.1
  · exact this.2.2.2.2.2
/-- The text of orders; of wrong ones none. -/
def wt (l : List Ord) : ByteArray := if oes l = 0 then cr.sl (pk.qa (nums l)) else ⟨#[]⟩
theorem qa_size {l : List Ord} (hf : ∀ o ∈ l, fito o) (hl : l.length ≤ 100) : (pk.qa (nums l)).size ≤ 10000 := by
  have e : (pk.qa (nums l)).size = (pk.pa (nums l)).length := by rw [← pk.bs_len, pk.bs_qa (by rw [nums_len]; omega)]
  have h1 := pk.pk_ten (n := (nums l).length) (by rw [nums_len]; omega)
  have h2 := pk.fs_len (nums l) (nums_fits hf)
  rw [nums_len] at h2
  rw [e]; unfold pk.pa; rw [List.length_append]; omega
theorem wt_size {l : List Ord} (hf : ∀ o ∈ l, fito o) (hl : l.length ≤ 100) : (pk.qa (nums l)).size + 4 ≤ maxLen := by
  have := qa_size hf hl; unfold maxLen; omega
/-- Six numbers are laid behind a row of one's own. -/
theorem list_six {ops : Array Oper} {rest : List Oper} {o : Oper} {a : Act} {Q : Exit → Act → World → Prop} (w : World) (hgd : o.guard = none) (s x : Operand)
    (ho : o.op = .call { callee := .builtin .append, args := #[s, x], argTypes := #[35, 35] })
    (B : Nat) (v : Value) (L : List Int) (hs : a.eval s = v) (hown : mine 3 vi B w v L) (ad : Addr) (c : Nat) (X : List Int) (h6 : X.length = 6) (hx : a.eval x = .slice (some ad) 6 c) (hcell : row vi w (some ad) X) (hl : L.length ≤ 1000000) (hB : B ≤ w.heap.size)
    (h : ∀ g cap w', mine 3 vi B w' (.slice (some ⟨g, 0, none⟩) (L.length + 6) cap) (L ++ X) → w.grownBy w' v.ownBlock → wpList Try.prog ops Q rest (a.put o.dst (.slice (some ⟨g, 0, none⟩) (L.length + 6) cap)) w') :
    wpList Try.prog ops Q (o :: rest) a w := by
  obtain ⟨i0, hi, hz0, hz1, hz2⟩ := info_parts ki.hi
  refine wpList_append_lies w hgd s x 35 ho B 3 i0 (.int .i64 0) 1 8 ki.ht hi hz0 hz1 hz2 rfl (by decide) v L.length (L.map vi) hs hown ad 6 c (X.map vi) hx (by rw [List.length_map, h6]) (fun j u hj => ?_) (by intro u hu; obtain ⟨y, _, rfl⟩ := List.mem_map.1 hu; rfl) (by decide) (by unfold maxLen; omega) (by omega) hB _ rfl ?_
  · rw [List.getElem?_map] at hj
    cases hl : X[j]? with
    | none => rw [hl] at hj; cases hj
    | some y =>
      rw [hl] at hj
      obtain ⟨b, hb, hc⟩ := hcell j y hl
      cases hb
      simp at hj; subst hj; exact hc
  intro g cap w' h1 h2 h3 h4
  refine h g cap w' ?_ h2
  unfold mine
  rw [List.map_append, List.length_append, h6]; exact h1
/-- The six numbers of an order in a new block. -/
theorem six_new (w : World) (o : Ord) (t : TypeId) : row vi (w.alloc (.cells #[.int .i64 o.b, .int .i64 o.k, .int .i64 o.w, .int .i64 o.x, .int .i64 o.y, .int .i64 o.a] t)) (some ⟨w.heap.size, 0, none⟩) o.nums := by
  intro j x hj
  refine ⟨_, rfl, ?_⟩
  rw [add_zero_at, World.cell?_alloc_mark]
  unfold Ord.nums at hj
  match j, hj with
  | 0, hj => simp at hj; subst hj; rfl
  | 1, hj => simp at hj; subst hj; rfl
  | 2, hj => simp at hj; subst hj; rfl
  | 3, hj => simp at hj; subst hj; rfl
  | 4, hj => simp at hj; subst hj; rfl
  | 5, hj => simp at hj; subst hj; rfl
  | j + 6, hj => simp at hj
theorem alloc_size (w : World) (o : Obj) : (w.alloc o).heap.size = w.heap.size + 1 := by simp
theorem six_new2 (w : World) (p : Obj) (o : Ord) (t : TypeId) : row vi ((w.alloc p).alloc (.cells #[.int .i64 o.b, .int .i64 o.k, .int .i64 o.w, .int .i64 o.x, .int .i64 o.y, .int .i64 o.a] t)) (some ⟨w.heap.size + 1, 0, none⟩) o.nums := by
  have := six_new (w.alloc p) o t
  rwa [alloc_size] at this
/-- What a round of Write keeps. -/
def winv (w : World) (l : List Ord) (k : Nat) (v : Value) (wr : World) : Prop := mine 3 vi w.heap.size wr v (nums (l.take k)) ∧ Below w.heap.size w wr
theorem winv_next {w wr w1 : World} {l : List Ord} {k : Nat} {v v' : Value} {X : List Int} (h : winv w l k v wr) (hx : nums (l.take (k + 1)) = nums (l.take k) ++ X) (hm : mine 3 vi w.heap.size w1 v' (nums (l.take k) ++ X)) (hg : wr.grownBy w1 v.ownBlock) : winv w l (k + 1) v' w1 :=
  ⟨by rw [hx]; exact hm, mine_grown h.1 h.2 h.2.size hg⟩

set_option maxRecDepth 20000 in
set_option maxHeartbeats 4000000 in
theorem Write_any (p : Option Addr) (n c : Nat) (l : List Ord) (w : World) (hr : rowf to6 w p l) (hn : l.length = n) (hm : n ≤ 9223372036854775807) (hf : ∀ o ∈ l, fito o) :
    Calls Try.prog 9 #[.slice p n c] w fun e w' => e = .returned (.tuple #[.string (wt l), .int .i64 (oes l)]) ∧ Below w.heap.size w w' := by
  have HC : Hid (Calls Try.prog 34 #[.slice p n c] w fun e w' => e = .returned (.int .i64 (oes l)) ∧ Below w.heap.size w w') := checkAll_any p n c l w hr hn hm
  obtain ⟨T, hT⟩ : ∃ T, wt l = T := ⟨_, rfl⟩
  by_cases hz : oes l = 0
  · have hl := (oes_zero hz).1
    have HT : Hid (T = cr.sl (pk.qa (nums l))) := by unfold Hid; rw [← hT]; unfold wt; rw [if_pos hz]
    rw [hz] at HC ⊢
    rw [hT]
    have HP : Hid (∀ (V : World) (q : Option Addr) (d : Nat), row vi V q (nums l) → Calls Try.prog 35 #[.slice q (6 * n) d] V fun e w' => e = .returned (.tuple #[.string (pk.qa (nums l)), .int .i64 (pk.qe (nums l))]) ∧ Below V.heap.size V w') := fun V q d h => by
      have := pk.PutAll_any q (nums l) d V h (nums_fits hf)
      rwa [nums_len, hn] at this
    have HS : Hid (∀ V, Calls Try.prog 36 #[.string (pk.qa (nums l))] V fun e w' => e = .returned (.string T) ∧ Below V.heap.size V w') := fun V => by
      rw [HT.out]; exact cr.Seal_any _ V (wt_size hf hl)
    have HR : Hid (rowf to6 w p l) := hr
    have HN : Hid (l.length = n) := hn
    have HLN : Hid (∀ k, (nums (l.take k)).length ≤ 1000000) := fun k => by
      have h3 : (l.take k).length ≤ l.length := List.length_take_le' _ _
      rw [nums_len]; omega
    have HNX : Hid (∀ k (h : k < l.length), nums (l.take (k + 1)) = nums (l.take k) ++ l[k].nums) := fun k h => nums_next h
    obtain ⟨PT, hPT⟩ : ∃ PT, pk.qa (nums l) = PT := ⟨_, rfl⟩
    obtain ⟨PE, hPE⟩ : ∃ PE, pk.qe (nums l) = PE := ⟨_, rfl⟩
    rw [hPT, hPE] at HP
    rw [hPT] at HS
    have hln : n ≤ 100 := by omega
    clear hr hn hf hz hT hl hPT hPE HT
    obtain ⟨i0, hi, hz0, hz1, hz2⟩ := info_parts ki.hi
    have HI : Hid (Try.prog.info? 3 = some i0 ∧ i0.zero = some (.int .i64 0) ∧ i0.size = 1 ∧ i0.bytes = 8) := ⟨hi, hz0, hz1, hz2⟩
    clear hi hz0 hz1 hz2
    have wq : IntKind.i64.wrap (6 * (n : Int)) = 6 * (n : Int) := by rw [IntKind.wrap_i64]; omega
    go_enter Try.func9, Try.ntmps9
    go_wp2_with fail
    refine HC.out.mono ?_
    rintro e w1 ⟨rfl, hb1⟩
    have HB1 : Hid (Below w.heap.size w w1) := hb1
    clear hb1 HC
    go_wp2_with (at_make; refine wpList_make_own _ rfl _ _ 35 rfl w.heap.size 3 i0 (.int .i64 0) 1 ki.ht HI.out.1 HI.out.2.1 HI.out.2.2.1 .i64 .i64 _ (6 * n) rfl rfl (by omega) (by rw [HI.out.2.2.2]; omega) (by unfold maxLen; omega) HB1.out.size ?_)
    intro w2 ho2 hg2
    have H2 : Hid (winv w l 0 (.slice (some ⟨w1.heap.size, 0, none⟩) 0 (6 * n)) w2) := ⟨ho2, HB1.out.grown hg2 HB1.out.size (fun k hk => by cases hk)⟩
    clear ho2 hg2
    go_wp2_with fail
    go_loopw [5, 21] (fun v i wr => ∃ k : Nat, i = .int .i64 k ∧ k ≤ n ∧ winv w l k v wr) (fun _ i _ => n - (intOf i).toNat)
    case atStart => exact ⟨0, rfl, by omega, H2.out⟩
    case round =>
      obtain ⟨k, rfl, hk, hi⟩ := hrel
      have HV : Hid (winv w l k u5 wr) := hi
      clear hi H2
      by_cases hlt : k < n
      · have hkl : k < l.length := by rw [HN.out]; exact hlt
        obtain ⟨a, rfl, ha⟩ := oat (rowf_below HR.out HV.out.2) hkl
        have HX := HNX.out k hkl
        obtain ⟨X, hX⟩ : ∃ X, l[k] = X := ⟨_, rfl⟩
        rw [hX] at ha HX
        have HX2 : Hid (nums (l.take (k + 1)) = nums (l.take k) ++ X.nums) := HX
        clear HX hX
        have HA1 := alloc_below wr (.cells #[.int .i64 X.b, .int .i64 X.k, .int .i64 X.w, .int .i64 X.x, .int .i64 X.y, .int .i64 X.a] 25)
        have HA2 := two_below wr (.cells #[.int .i64 X.b, .int .i64 X.k, .int .i64 X.w, .int .i64 X.x, .int .i64 X.y, .int .i64 X.a] 25) (.cells #[.int .i64 X.b, .int .i64 X.k, .int .i64 X.w, .int .i64 X.x, .int .i64 X.y, .int .i64 X.a] 3)
        have HM2 : Hid (winv w l k u5 ((wr.alloc (.cells #[.int .i64 X.b, .int .i64 X.k, .int .i64 X.w, .int .i64 X.x, .int .i64 X.y, .int .i64 X.a] 25)).alloc (.cells #[.int .i64 X.b, .int .i64 X.k, .int .i64 X.w, .int .i64 X.x, .int .i64 X.y, .int .i64 X.a] 3))) := ⟨mine_below HV.out.1 HA2, below_step HV.out.2 HV.out.2.size HA2⟩
        have HRW : Hid (row vi ((wr.alloc (.cells #[.int .i64 X.b, .int .i64 X.k, .int .i64 X.w, .int .i64 X.x, .int .i64 X.y, .int .i64 X.a] 25)).alloc (.cells #[.int .i64 X.b, .int .i64 X.k, .int .i64 X.w, .int .i64 X.x, .int .i64 X.y, .int .i64 X.a] 3)) (some ⟨wr.heap.size + 1, 0, none⟩) X.nums) := six_new2 _ _ _ _
        clear HA1 HA2
        obtain ⟨b, kk, wh, x, y, aa⟩ := X
        obtain ⟨z0, z1, z2, z3, z4, z5⟩ := ha
        dsimp only at z0 z1 z2 z3 z4 z5 HM2 HRW
        have l1 : (k : Int) < n := by omega
        have l2 : (0 : Int) ≤ k := by omega
        go_wp2_with (at_builtin; refine list_six _ rfl _ _ rfl w.heap.size u5 (nums (l.take k)) rfl HM2.out.1 ⟨_, 0, none⟩ 6 _ rfl rfl HRW.out (HLN.out k) HM2.out.2.size ?_)
        intro g cap w3 m1 m2
        have HI3 : Hid (winv w l (k + 1) (.slice (some ⟨g, 0, none⟩) ((nums (l.take k)).length + 6) cap) w3) := winv_next HM2.out HX2.out m1 m2
        clear m1 m2 z0 z1 z2 z3 z4 z5
        go_wp2_with fail
        go_roundw
        case rel => exact ⟨k + 1, by go_num, by omega, HI3.out⟩
        case measure => simp [intOf]; omega
      · obtain ⟨q, d, rfl, hq, _, _⟩ := mine_full HV.out.1
        have HQ : Hid (row vi wr q (nums l)) := by have := hq; rw [List.take_of_length_le (by have := HN.out; omega)] at this; exact this
        have hln2 : (nums (l.take k)).length = 6 * n := by rw [List.take_of_length_le (by have := HN.out; omega), nums_len, HN.out]
        rw [hln2]
        clear hq hln2
        have HPP := HP.out wr q d HQ.out
        have HPP : Hid (Calls Try.prog 35 #[.slice q (6 * n) d] wr fun e w' => e = .returned (.tuple #[.string PT, .int .i64 PE]) ∧ Below wr.heap.size wr w') := HPP
        go_wp2_with fail
        refine HPP.out.mono ?_
        rintro e w3 ⟨rfl, hb3⟩
        have HB3 : Hid (Below w.heap.size w w3) := below_step HV.out.2 HV.out.2.size hb3
        clear hb3
        go_wp2_with fail
        refine (HS.out _).mono ?_
        rintro e w4 ⟨rfl, hb4⟩
        have HB4 : Hid (Below w.heap.size w w4) := below_step HB3.out HB3.out.size hb4
        clear hb4
        go_wp2_with fail
        go_ret2
        exact ⟨rfl, HB4.out⟩
  · have HT : Hid (T = ⟨#[]⟩) := by unfold Hid; rw [← hT]; unfold wt; rw [if_neg hz]
    rw [hT, HT.out]
    obtain ⟨E, hE⟩ : ∃ E, oes l = E := ⟨_, rfl⟩
    rw [hE] at hz HC ⊢
    clear hT hE hr hn
    go_enter Try.func9, Try.ntmps9
    go_wp2_with fail
    refine HC.out.mono ?_
    rintro e w1 ⟨rfl, hb1⟩
    go_wp2_with fail
    go_ret2
    exact ⟨rfl, hb1⟩
end Go.Proofs.Ytgebfpncapfaoaa
