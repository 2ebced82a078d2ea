/- What HarmOf's closure returns, and HarmOf. -/
import Derived.Test.YtjbfnibhmojlfaaBc
import Derived.Test.YtjbfnibhmojlfaaFb
import Derived.Test.YtjbfnibhmojlfaaBm
namespace Go.Proofs.Ytjbfnibhmojlfaa
open Go.RowKit
set_option linter.unusedVariables false

set_option maxRecDepth 40000 in
set_option maxHeartbeats 4000000 in
theorem Harm1_any (s : Wld) (W H : Nat) (x y ti : Int) (Gt Gw : Nat) (w : World) (h : s.fit w) (hk : okw s W H) (h1 : w.cell? ⟨Gt, 0, none⟩ = some (.int .i64 ti)) (h2 : bx9 w Gw (.int .i64 s.A) (.int .i64 s.B) (.slice s.p s.n s.c) (.slice s.pb s.nb s.cb) (.slice s.ps s.ns s.cs) (.slice s.pm s.nm s.cm) (.slice s.pt s.nt s.ct) (.int .i64 s.N) (.int .i64 s.T)) :
    Calls Try.prog 45 #[.agg #[.int .i64 x, .int .i64 y], .pointer (some ⟨Gt, 0, none⟩), .pointer (some ⟨Gw, 0, none⟩)] w fun e w' => e = .returned (.bool (x == ti && cnt W s.l s.lt ⟨x, y⟩)) ∧ Below w.heap.size w w' := by
  obtain ⟨w0, hw0⟩ : ∃ w0, w.alloc (.cells #[.int .i64 x, .int .i64 y] 48) = w0 := ⟨_, rfl⟩
  obtain ⟨G, hG⟩ : ∃ G, w.heap.size = G := ⟨_, rfl⟩
  have hb : Below w.heap.size w w0 := by rw [← hw0]; exact alloc_below _ _
  have g01 : w0.cell? ⟨G, 0, none⟩ = some (.int .i64 x) ∧ w0.cell? ⟨G, 1, none⟩ = some (.int .i64 y) := by rw [← hw0, ← hG]; constructor <;> simp [go_sem]
  have HBC : Hid (∀ b, cnt W s.l s.lt ⟨x, y⟩ = b → Calls Try.prog 46 #[s.val, .agg #[.int .i64 x, .int .i64 y]] w0 fun e w' => e = .returned (.bool b) ∧ Below w0.heap.size w0 w') := fun b hb' => BlowCounts_any s W H x y b w0 (Wld.fit_below h hb) hk hb'
  have a1 := (hb.cell (cell_lt h1)).trans h1
  have a2 := bx9_below h2 hb
  obtain ⟨q, hq⟩ : ∃ q, cnt W s.l s.lt ⟨x, y⟩ = q := ⟨_, rfl⟩
  have HBQ := HBC.out q hq
  rw [hq]
  have HBL : Hid (Calls Try.prog 46 #[s.val, .agg #[.int .i64 x, .int .i64 y]] w0 fun e w' => e = .returned (.bool q) ∧ Below w0.heap.size w0 w') := HBQ
  clear HBC HBQ hq
  obtain ⟨A, B, p, n, c, l, pb, nb, cb, lb, ps, ns, cs, ls, pm, nm, cm, lm, pt, nt, ct, lt, N, T⟩ := s
  unfold Wld.val at *
  dsimp only at *
  obtain ⟨z0, z1, z2, z3, z4, z5, z6, z7, z8⟩ := bx9_c9 a2
  obtain ⟨g0, g1⟩ := g01
  have HB : Hid (Below w.heap.size w w0) := hb
  clear hb h h1 h2 hk a2
  by_cases e1 : x = ti
  · have d1 : (x == ti) = true := by simp [e1]
    clear e1
    go_enter Try.func45, Try.ntmps45
    go_wp2_with fail
    refine Calls.mono HBL.out ?_
    rintro e w1 ⟨rfl, hb1⟩
    have HB1 : Hid (Below w.heap.size w w1) := below_call HB.out HB.out.size hb1
    clear hb1
    go_wp2_with fail
    go_ret
    exact ⟨by rw [d1]; simp, HB1.out⟩
  · have d1 : (x == ti) = false := by simp [e1]
    clear e1
    go_enter Try.func45, Try.ntmps45
    go_wp2_with fail
    go_ret
    exact ⟨by rw [d1]; simp, by first | exact HB.out | (rw [← hG]; exact HB.out)⟩
set_option maxRecDepth 40000 in
set_option maxHeartbeats 8000000 in
theorem HarmOf_any (s : Wld) (W H : Nat) (pl : Option Addr) (nl cl : Nat) (bl : List Cel) (id : Int) (w : World) (h : s.fit w) (hk : okw s W H) (hb : crow w pl bl) (hn : bl.length = nl) (hmx : nl ≤ 9223372036854775807) :
    Calls Try.prog 13 #[s.val, .slice pl nl cl, .int .i64 id] w fun e w' => e = .returned (.int .i64 (hm (cnt W s.l s.lt) s.lt bl id)) ∧ Below w.heap.size w w' := by
  have HKI : Hid (∀ i (hi : i < s.lt.length), ∃ a d : Int, ∀ V : World, Calls Try.prog 42 #[.int .i64 s.lt[i].k] V fun e w' => e = .returned (.agg #[.int .i64 a, .int .i64 (rch s.lt[i].k), .int .i64 (hrk s.lt[i].k), .int .i64 d]) ∧ Below V.heap.size V w') := fun i hi => KindOf_rh _ (hk.tr.1 i hi).2.2.1
  have HCL : Hid (∀ V x y ti Gt Gw, Below w.heap.size w V → V.cell? ⟨Gt, 0, none⟩ = some (.int .i64 ti) → bx9 V Gw (.int .i64 s.A) (.int .i64 s.B) (.slice s.p s.n s.c) (.slice s.pb s.nb s.cb) (.slice s.ps s.ns s.cs) (.slice s.pm s.nm s.cm) (.slice s.pt s.nt s.ct) (.int .i64 s.N) (.int .i64 s.T) → Calls Try.prog 45 #[.agg #[.int .i64 x, .int .i64 y], .pointer (some ⟨Gt, 0, none⟩), .pointer (some ⟨Gw, 0, none⟩)] V fun e w' => e = .returned (.bool (x == ti && cnt W s.l s.lt ⟨x, y⟩)) ∧ Below V.heap.size V w') := fun V x y ti Gt Gw hV h1 h2 => Harm1_any s W H x y ti Gt Gw V (Wld.fit_below h hV) hk h1 h2
  have HRT : Hid (trow w s.pt s.lt) := h.rt
  have HLT : Hid (s.lt.length = s.nt) := h.ht
  have hnt : s.nt ≤ 100 := hk.nt
  have HCR : Hid (crow w pl bl) := hb
  have HNL : Hid (bl.length = nl) := hn
  have HMX : Hid (nl ≤ 9223372036854775807) := hmx
  obtain ⟨cn, hcn⟩ : ∃ cn, cnt W s.l s.lt = cn := ⟨_, rfl⟩
  rw [hcn] at HCL ⊢
  obtain ⟨A, B, p, n, c, l, pb, nb, cb, lb, ps, ns, cs, ls, pm, nm, cm, lm, pt, nt, ct, lt, N, T⟩ := s
  unfold Wld.val at *
  dsimp only at *
  obtain ⟨F, hF⟩ : ∃ F, w.heap.size = F := ⟨_, rfl⟩
  obtain ⟨w0, hw0⟩ : ∃ w0, w.alloc (.cells #[.int .i64 A, .int .i64 B, .slice p n c, .slice pb nb cb, .slice ps ns cs, .slice pm nm cm, .slice pt nt ct, .int .i64 N, .int .i64 T] 28) = w0 := ⟨_, rfl⟩
  have hB0 : Below w.heap.size w w0 := by rw [← hw0]; exact alloc_below _ _
  have HB0 : Hid (Below w.heap.size w w0) := hB0
  have hx0 : bx9 w0 F (.int .i64 A) (.int .i64 B) (.slice p n c) (.slice pb nb cb) (.slice ps ns cs) (.slice pm nm cm) (.slice pt nt ct) (.int .i64 N) (.int .i64 T) := by unfold bx9; rw [← hw0, ← hF]; exact World.alloc_heap_new w _
  have HBX : Hid (∀ V, Below w0.heap.size w0 V → bx9 V F (.int .i64 A) (.int .i64 B) (.slice p n c) (.slice pb nb cb) (.slice ps ns cs) (.slice pm nm cm) (.slice pt nt ct) (.int .i64 N) (.int .i64 T)) := fun V hV => bx9_below hx0 hV
  have HUP : Hid (∀ V, Below w0.heap.size w0 V → Below w.heap.size w V) := fun V hV => below_call HB0.out HB0.out.size hV
  obtain ⟨z0, z1, z2, z3, z4, z5, z6, z7, z8⟩ := bx9_c9 hx0
  clear h hk hb hn hmx hB0 hcn hx0
  go_enter Try.func13, Try.ntmps13
  go_wp2_with fail
  clear z0 z1 z2 z3 z4 z5 z6 z7 z8 hw0 hF
  go_loopw [7, 14] (fun v i wr => ∃ k : Nat, i = .int .i64 k ∧ v = .int .i64 (sumh (oneh cn bl id) (lt.take k)) ∧ k ≤ nt ∧ Hid (Below w0.heap.size w0 wr)) (fun _ i _ => nt - (intOf i).toNat)
  case atStart => exact ⟨0, rfl, rfl, by omega, Below.refl _ _⟩
  case round =>
    obtain ⟨k, rfl, rfl, hk, HS⟩ := hrel
    by_cases hlt : k < nt
    · have hkl : k < lt.length := by rw [HLT.out]; exact hlt
      have hst := sumh_take (oneh cn bl id) hkl
      have hbd := sumh_bd (f := oneh cn bl id) (ts := lt.take k) (fun t _ => oneh_bd (cn := cn) bl id t)
      have hln : (lt.take k).length ≤ 100 := by rw [List.length_take]; omega
      obtain ⟨S, hS⟩ : ∃ S, sumh (oneh cn bl id) (lt.take k) = S := ⟨_, rfl⟩
      rw [hS] at hst hbd ⊢
      have hS1 : S ≤ 400 := by omega
      have hS0 := hbd.1
      have HNXT : Hid (∀ v, oneh cn bl id lt[k] = v → sumh (oneh cn bl id) (lt.take (k + 1)) = S + v) := fun v hv => by rw [hst, hv]
      obtain ⟨a, rfl, c0, c1, c2, c3, c4, c5, c6⟩ := trow_at (trow_below HRT.out (HUP.out wr HS.out)) hkl
      obtain ⟨ka, kd, hki⟩ := HKI.out k hkl
      obtain ⟨t, ht⟩ : ∃ t, lt[k] = t := ⟨_, rfl⟩
      rw [ht] at c0 c1 c2 c3 c4 c5 c6 hki HNXT
      obtain ⟨ti, to_, tk, tx, ty, tf, td⟩ := t
      simp only at c0 c1 c2 c3 c4 c5 c6 hki
      have hmb := hrk_bd tk
      have hof : (fsb cn ti bl = none → oneh cn bl id ⟨ti, to_, tk, tx, ty, tf, td⟩ = 0) ∧ (∀ b, fsb cn ti bl = some b → oneh cn bl id ⟨ti, to_, tk, tx, ty, tf, td⟩ = if b.y = id then hrk tk else 0) := by
        unfold oneh
        exact ⟨fun h => by simp only [h], fun b h => by simp only [h]⟩
      obtain ⟨M, hM⟩ : ∃ M, hrk tk = M := ⟨_, rfl⟩
      obtain ⟨R, hR⟩ : ∃ R, rch tk = R := ⟨_, rfl⟩
      rw [hM] at hki hmb hof
      rw [hR] at hki
      have HKO : Hid (∀ V : World, Calls Try.prog 42 #[.int .i64 tk] V fun e w' => e = .returned (.agg #[.int .i64 ka, .int .i64 R, .int .i64 M, .int .i64 kd]) ∧ Below V.heap.size V w') := hki
      have HOF : Hid _ := hof
      obtain ⟨w6, hw6⟩ : ∃ w6, wr.alloc (.cells #[.int .i64 ti, .int .i64 to_, .int .i64 tk, .int .i64 tx, .int .i64 ty, .int .i64 tf, .int .i64 td] 42) = w6 := ⟨_, rfl⟩
      obtain ⟨G, hG⟩ : ∃ G, wr.heap.size = G := ⟨_, rfl⟩
      have hb6 : Below wr.heap.size wr w6 := by rw [← hw6]; exact alloc_below _ _
      have HBT : Hid (∀ V, Below w6.heap.size w6 V → c7 V G ti to_ tk tx ty tf td) := fun V hV => boxt hG hw6 hV
      have HB06 : Hid (Below w0.heap.size w0 w6) := below_call HS.out HS.out.size hb6
      have HIF : Hid (Calls Try.prog 44 #[.slice pl nl cl, .func (.func 45) #[] #[.pointer (some ⟨G, 0, none⟩), .pointer (some ⟨F, 0, none⟩)]] w6 fun e w' => (∃ r : Int, e = .returned (.int .i64 r) ∧ bfirst (fun b => b.x == ti && cn b) bl r) ∧ Below w6.heap.size w6 w') :=
        IndexFuncb2 Try.call45 _ _ (fun b => b.x == ti && cn b) pl nl cl bl w6 (crow_below HCR.out (HUP.out w6 HB06.out)) HNL.out HMX.out (fun V x y hV _ => HCL.out V x y ti G F (HUP.out V (below_call HB06.out HB06.out.size hV)) (HBT.out V hV).1 (HBX.out V (below_call HB06.out HB06.out.size hV)))
      have l1 : (k : Int) < nt := by omega
      have l2 : (0 : Int) ≤ k := by omega
      obtain ⟨z0, z1, z2, z3, z4, z5, z6, z7, z8⟩ := bx9_c9 (HBX.out wr HS.out)
      clear hst hbd hln hS ht hM hR hki hof hb6
      go_wp2_with fail
      refine Calls.mono HIF.out ?_
      rintro e w7 ⟨⟨r, rfl, hr⟩, hb7⟩
      have HB67 : Hid (Below w6.heap.size w6 w7) := hb7
      have HB07 : Hid (Below w0.heap.size w0 w7) := below_call HB06.out HB06.out.size hb7
      have HR : Hid _ := bfirst_find hr
      clear c0 c1 c2 c3 c4 c5 c6 z0 z1 z2 z3 z4 z5 z6 z7 z8 hb7 hr hw6 hG HIF
      rcases HR.out with ⟨rfl, h1⟩ | ⟨i, hi, rfl, h1⟩
      · have HE := HNXT.out 0 (HOF.out.1 h1)
        rw [Int.add_zero] at HE
        clear h1 hkl HR
        go_wp2_with fail
        go_roundw
        case rel => exact ⟨k + 1, by go_num, by rw [HE], by omega, HB07.out⟩
        case measure => simp [intOf]; omega
      · obtain ⟨q, x, y, rfl, hbi, b0, b1⟩ := crow_cl (crow_below HCR.out (HUP.out w7 HB07.out)) hi
        have HE := HNXT.out _ (HOF.out.2 _ h1)
        rw [hbi] at HE
        dsimp only at HE
        obtain ⟨u0, u1, u2, u3, u4, u5, u6⟩ := HBT.out w7 HB67.out
        have j1 : (i : Int) < nl := by have := HNL.out; omega
        have j2 : (0 : Int) ≤ i := by omega
        have kf2 := kfield2
        clear h1 hkl HR hbi hi
        by_cases hy : y = id
        · have e1 : (y == id) = true := by simp [hy]
          rw [if_pos hy] at HE
          clear hy
          go_wp2_with fail
          refine (HKO.out w7).mono ?_
          rintro e w8 ⟨rfl, hb8⟩
          have HB08 : Hid (Below w0.heap.size w0 w8) := below_call HB07.out HB07.out.size hb8
          clear hb8 b0 b1 u0 u1 u2 u3 u4 u5 u6
          go_wp2_with fail
          go_roundw
          case rel => exact ⟨k + 1, by go_num, by rw [HE], by omega, HB08.out⟩
          case measure => simp [intOf]; omega
        · have e1 : (y == id) = false := by simp [hy]
          rw [if_neg hy, Int.add_zero] at HE
          clear hy
          go_wp2_with fail
          go_roundw
          case rel => exact ⟨k + 1, by go_num, by rw [HE], by omega, HB07.out⟩
          case measure => simp [intOf]; omega
    · have hkn : k = nt := by omega
      subst hkn
      have HBE : Hid (Below w.heap.size w wr) := HUP.out wr HS.out
      have e1 : lt.take k = lt := List.take_of_length_le (by rw [HLT.out]; exact Nat.le_refl _)
      have e2 : sumh (oneh cn bl id) (lt.take k) = hm cn lt bl id := by rw [e1]; rfl
      rw [e2]
      clear e1 e2
      go_wp2_with fail
      go_ret
      exact ⟨rfl, HBE.out⟩
end Go.Proofs.Ytjbfnibhmojlfaa
