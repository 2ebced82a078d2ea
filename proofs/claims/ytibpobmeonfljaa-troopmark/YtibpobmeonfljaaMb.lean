/- What Mark returns of a right world. -/
import Derived.Test.YtibpobmeonfljaaMa
import Derived.Test.YtibpobmeonfljaaKx
namespace Go.Proofs.Ytibpobmeonfljaa
open Go.RowKit
set_option linter.unusedVariables false
set_option linter.unusedSimpArgs false

/-- The leaves of the first k players, of the first k mines, of a troop; all of a world's. -/
def pll (lb : List Cel) (ls : List Int) : Nat → List Nat
  | 0 => []
  | k + 1 => pll lb ls k ++ [lnum [2, (k : Int), ((lb[k]?).map Cel.x).getD 0, ((lb[k]?).map Cel.y).getD 0, ls.getD k 0]]
def mnl (lm : List Int) : Nat → List Nat
  | 0 => []
  | k + 1 => mnl lm k ++ if lm.getD k 0 = 0 then [] else [lnum [3, (k : Int), lm.getD k 0]]
def tnum (t : Trp) : Nat := lnum [4, t.i, t.o, t.k, t.x, t.y, t.f, t.d]
def wlv (s : Wld) : List Nat := lnum ([1, s.A, s.B, s.N, s.T] ++ s.l) :: (pll s.lb s.ls s.nb ++ mnl s.lm s.nm) ++ s.lt.map tnum
theorem pll_len (lb : List Cel) (ls : List Int) : ∀ k, (pll lb ls k).length = k
  | 0 => rfl
  | k + 1 => by show (pll lb ls k ++ _).length = k + 1; rw [List.length_append, pll_len lb ls k]; rfl
theorem mnl_len (lm : List Int) : ∀ k, (mnl lm k).length ≤ k
  | 0 => Nat.le_refl _
  | k + 1 => by
    have := mnl_len lm k
    show (mnl lm k ++ if lm.getD k 0 = 0 then [] else [lnum [3, (k : Int), lm.getD k 0]]).length ≤ k + 1
    rw [List.length_append]
    split <;> simp <;> omega
theorem pll_small (lb : List Cel) (ls : List Int) : ∀ k, ∀ x ∈ pll lb ls k, x < 18446744073709551616
  | 0, x, h => by cases h
  | k + 1, x, h => by
    rcases List.mem_append.1 h with h | h
    · exact pll_small lb ls k x h
    · simp at h; rw [h]; exact lnum_lt _
theorem mnl_small (lm : List Int) : ∀ k, ∀ x ∈ mnl lm k, x < 18446744073709551616
  | 0, x, h => by cases h
  | k + 1, x, h => by
    rcases List.mem_append.1 h with h | h
    · exact mnl_small lm k x h
    · split at h
      · cases h
      · simp at h; rw [h]; exact lnum_lt _
theorem wlv_small (s : Wld) : small (wlv s) := by
  intro x h
  rcases List.mem_append.1 h with h | h
  · rcases List.mem_cons.1 h with h | h
    · rw [h]; exact lnum_lt _
    · rcases List.mem_append.1 h with h | h
      · exact pll_small _ _ _ x h
      · exact mnl_small _ _ x h
  · obtain ⟨t, _, rfl⟩ := List.mem_map.1 h
    exact lnum_lt _
/-- A list of one's own that has just been made of one number of 64 bits. -/
theorem mine_made1 {B : Nat} {w : World} (X : Nat) (hB : B ≤ w.heap.size) : mine 36 vu B (w.alloc (.cells #[.int .u64 (X : Int)] 36)) (.slice (some ⟨w.heap.size, 0, none⟩) 1 1) [X] :=
  ⟨rfl, .inr ⟨w.heap.size, 1, #[.int .u64 (X : Int)], rfl, hB, World.alloc_heap_new w _, Nat.le_refl _, by unfold maxLen; omega, rfl, rfl⟩⟩
variable {α : Type}
theorem step_one {T E : TypeId} {f : α → Value} {z : Value} {by_ : Nat} (hk : Kd T E f z by_) {ops : Array Oper} {o : Oper} {a : Act} {K : Act → World → Prop} {Q : Exit → Act → World → Prop} {Z : Prop} (w : World) (hgd : o.guard = none) (s x : Operand)
    (ho : o.op = .call { callee := .builtin .append, args := #[s, x], argTypes := #[T, T] })
    (B : Nat) (v : Value) (L : List α) (hs : a.eval s = v) (hown : mine E f B w v L) (ad : Addr) (c : Nat) (X : α) (hx : a.eval x = .slice (some ad) 1 c) (hcell : w.cell? ad = some (f X)) (hl : L.length ≤ 1000000) (hB : B ≤ w.heap.size)
    (h : ∀ g cap w', mine E f B w' (.slice (some ⟨g, 0, none⟩) (L.length + 1) cap) (L ++ [X]) → w.grownBy w' v.ownBlock → K (a.put o.dst (.slice (some ⟨g, 0, none⟩) (L.length + 1) cap)) w') :
    if Region.wanted o (yielded ops a.tmps) = true then Oper.wp Try.prog o a w K Q else Z := by
  obtain ⟨i0, hi, hz0, hz1, hz2⟩ := info_parts hk.hi
  have hby := hk.hb
  refine step_append_lies w hgd s x T ho B E i0 z 1 by_ hk.ht hi hz0 hz1 hz2 hk.hz (by decide) v L.length (L.map f) hs hown ad 1 c ([X].map f) hx rfl (one_at hcell) (by intro u hu; obtain ⟨y, _, rfl⟩ := List.mem_map.1 hu; exact hk.hf y) (by decide) (by unfold maxLen; omega) ?_ hB _ rfl ?_
  · have : (L.length + 1) * by_ ≤ (L.length + 1) * 16 := Nat.mul_le_mul_left _ hby
    omega
  intro g cap w' h1 h2 h3 h4
  refine h g cap w' ?_ h2
  unfold mine
  rw [List.map_append, List.length_append]; exact h1
theorem crow_cel0 {w : World} {p : Option Addr} {cs : List Cel} (h : crow w p cs) {k : Nat} (hk : k < cs.length) : ∃ a x y, p = some a ∧ cs[k] = ⟨x, y⟩ ∧ w.cell? (a.add (k * 2)) = some (.int .i64 x) ∧ w.cell? ⟨(a.add (k * 2)).block, (a.add (k * 2)).off + 1, none⟩ = some (.int .i64 y) := by
  obtain ⟨a, ha, h1, h2⟩ := crow_at h hk
  exact ⟨a, cs[k].x, cs[k].y, ha, rfl, h1, cell_two h2⟩
set_option maxRecDepth 20000 in
set_option maxHeartbeats 8000000 in
theorem Mark_ok (s : Wld) (W H : Nat) (w : World) (h : s.fit w) (hk : okw s W H) :
    Calls Try.prog 11 #[s.val] w fun e w' => e = .returned (.tuple #[.int .u64 (tn 0 (wlv s) : Int), .int .i64 0]) ∧ Below w.heap.size w w' := by
  have hwl := wlv_small s
  obtain ⟨MK, hMK⟩ : ∃ MK, tn 0 (wlv s) = MK := ⟨_, rfl⟩
  have HMK : Hid (∀ FL, lnum ([1, s.A, s.B, s.N, s.T] ++ s.l) = FL → tn 0 (FL :: (pll s.lb s.ls s.nb ++ mnl s.lm s.nm) ++ s.lt.map tnum) = MK) := fun FL h => by rw [← h]; exact hMK
  rw [hMK]
  clear hMK
  have HCH : Hid (∀ V, Below w.heap.size w V → Calls Try.prog 14 #[s.val] V fun e w' => e = .returned (.int .i64 0) ∧ Below V.heap.size V w') := fun V hV => Check_world s 0 V (Wld.fit_below h hV) (wre_of hk)
  have HFLF : Hid (∀ V, Below w.heap.size w V → s.n ≤ 1600 → Calls Try.prog 30 #[s.val] V fun e w' => e = .returned (.int .u64 (lnum ([1, s.A, s.B, s.N, s.T] ++ s.l))) ∧ Below V.heap.size V w') := fun V hV hn => fieldLeaf_any s V (Wld.fit_below h hV) hn
  obtain ⟨A, B, p, n, c, l, pb, nb, cb, lb, ps, ns, cs, ls, pm, nm, cm, lm, pt, nt, ct, lt, N, T⟩ := s
  have hr := h.r
  have hn := h.h
  have hz := h.z
  have rb := h.rb
  have xb := h.xb
  have hlb := h.hb
  have rs := h.rs
  have xs := h.xs
  have hls := h.hs
  have rm := h.rm
  have xm := h.xm
  have hlm := h.hm
  have rt := h.rt
  have xt := h.xt
  have hlt := h.ht
  have hfA := h.fA
  have hfB := h.fB
  have hfN := h.fN
  have hfT := h.fT
  have hfx := h.x
  obtain ⟨kA, kB, kf, knb, knt, kc, kpl, kmn, ktr⟩ := hk
  clear h
  unfold wlv at *
  unfold Wld.val at *
  dsimp only at *
  subst kA kB
  have e1 : ns = nb := by have := kpl.1; omega
  subst e1
  have e2 : nm = n := by have := kmn.1; omega
  subst e2
  have hn16 : nm ≤ 1600 := by have := kf.2.2.1; have := wh_le kf.1 kf.2.1; omega
  have HN : Hid (l.length = nm) := hn
  have HLB : Hid (lb.length = ns) := hlb
  have HLS : Hid (ls.length = ns) := hls
  have HLM : Hid (lm.length = nm) := hlm
  have HLT : Hid (lt.length = nt) := hlt
  have HXB : Hid (∀ c ∈ lb, fits c.x ∧ fits c.y) := xb
  have HXS : Hid (∀ x ∈ ls, fits x) := xs
  have HXM : Hid (∀ x ∈ lm, fits x) := xm
  have HXT : Hid (∀ t ∈ lt, fitt t) := xt
  have HAM : Hid (∀ i (h : i < lm.length), 0 ≤ lm[i]) := fun i hi => by
    have := List.any_eq_false.1 kmn.2.1 _ (List.getElem_mem hi)
    unfold am at this
    simp at this
    omega
  obtain ⟨FL, hFL⟩ : ∃ FL, lnum ([1, (W : Int), (H : Int), N, T] ++ l) = FL := ⟨_, rfl⟩
  have HFL : Hid (lnum ([1, (W : Int), (H : Int), N, T] ++ l) = FL) := hFL
  rw [hFL] at hwl
  have HWL : Hid (small (FL :: (pll lb ls ns ++ mnl lm nm) ++ lt.map tnum)) := hwl
  obtain ⟨F, hF⟩ : ∃ F, w.heap.size = F := ⟨_, rfl⟩
  obtain ⟨w0, hw0⟩ : ∃ w0, w.alloc (.cells #[.int .i64 (W : Int), .int .i64 (H : Int), .slice p nm c, .slice pb ns cb, .slice ps ns cs, .slice pm nm cm, .slice pt nt ct, .int .i64 N, .int .i64 T] 28) = w0 := ⟨_, rfl⟩
  have HBX : Hid (∀ V, Below w0.heap.size w0 V → c9 V F (.int .i64 (W : Int)) (.int .i64 (H : Int)) (.slice p nm c) (.slice pb ns cb) (.slice ps ns cs) (.slice pm nm cm) (.slice pt nt ct) (.int .i64 N) (.int .i64 T)) := fun V hV => boxw hF hw0 hV
  have hB0 : Below w.heap.size w w0 := by rw [← hw0]; exact alloc_below _ _
  have HB0 : Hid (Below w.heap.size w w0) := hB0
  have HUP : Hid (∀ V, Below w0.heap.size w0 V → Below w.heap.size w V) := fun V hV => HB0.out.trans (hV.mono HB0.out.size)
  have HRB : Hid (crow w0 pb lb) := crow_below rb hB0
  have HRS : Hid (row vi w0 ps ls) := row_below rs hB0
  have HRM : Hid (row vi w0 pm lm) := row_below rm hB0
  have HRT : Hid (trow w0 pt lt) := trow_below rt hB0
  obtain ⟨z0, z1, z2, z3, z4, z5, z6, z7, z8⟩ := HBX.out w0 (Below.refl _ _)
  have HFLV : Hid (∀ V, Below w.heap.size w V → Calls Try.prog 30 #[.agg #[.int .i64 (W : Int), .int .i64 (H : Int), .slice p nm c, .slice pb ns cb, .slice ps ns cs, .slice pm nm cm, .slice pt nt ct, .int .i64 N, .int .i64 T]] V fun e w' => e = .returned (.int .u64 (FL : Int)) ∧ Below V.heap.size V w') := fun V hV => by
    have := HFLF.out V hV hn16
    rw [hFL] at this; exact this
  clear hFL hB0 hr hn hz rb xb hlb rs xs hls rm xm hlm rt xt hlt hfA hfB hfN hfT hfx kf kc kpl kmn ktr hwl
  go_enter Try.func11, Try.ntmps11
  go_wp2_with fail
  refine (HCH.out w0 HB0.out).mono ?_
  rintro e w1 ⟨rfl, hb1⟩
  have HB1 : Hid (Below w0.heap.size w0 w1) := hb1
  clear z0 z1 z2 z3 z4 z5 z6 z7 z8 hb1 hw0 hF HCH
  obtain ⟨z0, z1, z2, z3, z4, z5, z6, z7, z8⟩ := HBX.out w1 HB1.out
  go_wp2_with fail
  refine (HFLV.out w1 (HUP.out w1 HB1.out)).mono ?_
  rintro e w2 ⟨rfl, hb2⟩
  have HB2 : Hid (Below w0.heap.size w0 w2) := below_upF HB1.out hb2
  clear z0 z1 z2 z3 z4 z5 z6 z7 z8 hb2 HFLV HFLF
  obtain ⟨w3, hw3⟩ : ∃ w3, w2.alloc (.cells #[.int .u64 (FL : Int)] 36) = w3 := ⟨_, rfl⟩
  have HB3 : Hid (Below w0.heap.size w0 w3) := by rw [← hw3]; exact HB2.out.alloc HB2.out.size _
  have HM3 : Hid (mine 36 vu w0.heap.size w3 (.slice (some ⟨w2.heap.size, 0, none⟩) 1 1) (FL :: pll lb ls 0)) := by rw [← hw3]; exact mine_made1 FL HB2.out.size
  obtain ⟨z0, z1, z2, z3, z4, z5, z6, z7, z8⟩ := HBX.out w3 HB3.out
  go_wp2_with fail
  clear z0 z1 z2 z3 z4 z5 z6 z7 z8 hw3
  go_loopw [5, 23] (fun v i wr => ∃ k : Nat, i = .int .i64 (k : Int) ∧ k ≤ ns ∧ Hid (Below w0.heap.size w0 wr ∧ mine 36 vu w0.heap.size wr v (FL :: pll lb ls k))) (fun _ i _ => ns - (intOf i).toNat)
  case atStart => exact ⟨0, rfl, by omega, HB3.out, HM3.out⟩
  case round =>
    obtain ⟨k, rfl, hk, HS⟩ := hrel
    by_cases hlt : k < ns
    · have hkl : k < lb.length := by rw [HLB.out]; exact hlt
      have hkl2 : k < ls.length := by rw [HLS.out]; exact hlt
      obtain ⟨a, x, y, rfl, hcx, ha', hay'⟩ := crow_cel0 (crow_below HRB.out HS.out.1) hkl
      obtain ⟨q, rfl, hz⟩ := row_at (row_below HRS.out HS.out.1) hkl2
      obtain ⟨Z, hZ⟩ : ∃ Z, ls[k] = Z := ⟨_, rfl⟩
      rw [hZ] at hz
      have HZC : Hid (∀ V, Below w0.heap.size w0 V → V.cell? (q.add k) = some (.int .i64 Z)) := fun V hV => by
        obtain ⟨q', e, h'⟩ := row_at (row_below HRS.out hV) hkl2
        cases e
        rw [hZ] at h'; exact h'
      obtain ⟨X, hX⟩ : ∃ X, lnum [2, (k : Int), x, y, Z] = X := ⟨_, rfl⟩
      obtain ⟨LK, hLK⟩ : ∃ LK, FL :: pll lb ls k = LK := ⟨_, rfl⟩
      have HNX : Hid (FL :: pll lb ls (k + 1) = LK ++ [X]) := by
        unfold Hid
        rw [← hLK]
        show FL :: (pll lb ls k ++ [lnum [2, (k : Int), ((lb[k]?).map Cel.x).getD 0, ((lb[k]?).map Cel.y).getD 0, ls.getD k 0]]) = _
        rw [List.getElem?_eq_getElem hkl, hcx, List.getD_eq_getElem?_getD, List.getElem?_eq_getElem hkl2, hZ, ← hX]
        rfl
      have hfx2 := HXB.out _ (List.getElem_mem hkl)
      have hfz2 := HXS.out _ (List.getElem_mem hkl2)
      rw [hcx] at hfx2
      rw [hZ] at hfz2
      have HLF : Hid (∀ V p, row vi V p [2, (k : Int), x, y, Z] → Calls Try.prog 31 #[.slice p 5 5] V fun e w' => e = .returned (.int .u64 (X : Int)) ∧ Below V.heap.size V w') := fun V p hp => by
        have := leaf_any p 5 5 [2, (k : Int), x, y, Z] V hp rfl (fun u hu => by
          simp at hu
          rcases hu with rfl | rfl | rfl | rfl | rfl
          · unfold fits; omega
          · unfold fits; omega
          · exact hfx2.1
          · exact hfx2.2
          · exact hfz2)
        rw [hX] at this; exact this
      obtain ⟨w4, hw4⟩ : ∃ w4, wr.alloc (.cells #[.int .i64 x, .int .i64 y] 43) = w4 := ⟨_, rfl⟩
      obtain ⟨G, hG⟩ : ∃ G, wr.heap.size = G := ⟨_, rfl⟩
      have hb4 : Below wr.heap.size wr w4 := by rw [← hw4]; exact alloc_below _ _
      have HB4 : Hid (Below w0.heap.size w0 w4) := below_step HS.out.1 HS.out.1.size hb4
      have HM4 : Hid (mine 36 vu w0.heap.size w4 u5 LK) := by have := mine_below HS.out.2 hb4; rw [hLK] at this; exact this
      obtain ⟨t0, t1, t2, t3, t4, t5, t6, t7, t8⟩ := HBX.out w4 HB4.out
      have hz4 := HZC.out w4 HB4.out
      have g0 : w4.cell? ⟨G, 0, none⟩ = some (.int .i64 x) := by rw [← hw4, ← hG]; simp [go_sem]
      have g1 : w4.cell? ⟨G, 1, none⟩ = some (.int .i64 y) := by rw [← hw4, ← hG]; simp [go_sem]
      have hle : LK.length ≤ 1000000 := by rw [← hLK, List.length_cons, pll_len]; omega
      have l1 : (k : Int) < ns := by omega
      have l2 : (0 : Int) ≤ k := by omega
      clear hcx hz hZ hX hfx2 hfz2 hb4 hLK
      go_wp2_with fail
      clear hw4 ha' hay'
      refine wp_region_noPanic ?_
      refine wp_region_held_drew (S := (fun V => Below w0.heap.size w0 V ∧ V.cell? ⟨G, 0, none⟩ = some (.int .i64 x) ∧ V.cell? ⟨G, 1, none⟩ = some (.int .i64 y) ∧ V.cell? ⟨F, 4, none⟩ = some (.slice (some q) ns cs) ∧ V.cell? (q.add k) = some (.int .i64 Z))) (by kernel_rfl) ⟨HB4.out.drew, g0, g1, t4, hz4⟩ (fun hHeld => ?_)
      refine wpAnyH_take (i := 0) (oi := ?o0) (v := u5) ?hi0 (by kernel_rfl) (by kernel_rfl) (by kernel_rfl) (fun _ _ _ h => h) ?hy0 hHeld ?rest0
      case hi0 => simp only [List.getElem?_toArray, List.getElem?_cons_zero, List.getElem?_cons_succ]; first | done | rfl
      case hy0 => exact Or.inl ⟨by rfl, by intro V hV; obtain ⟨s0, s1, s2, s3, s4⟩ := hV; go_simp⟩
      try simp only [Act.put, List.setIfInBounds_toArray, List.set_cons_zero, List.set_cons_succ]
      refine wpAnyH_take (i := 1) (oi := ?o1) (v := .int .i64 (k : Int)) ?hi1 (by kernel_rfl) (by kernel_rfl) (by kernel_rfl) (fun _ _ _ h => h) ?hy1 hHeld ?rest1
      case hi1 => simp only [List.getElem?_toArray, List.getElem?_cons_zero, List.getElem?_cons_succ]; first | done | rfl
      case hy1 => exact Or.inl ⟨by rfl, by intro V hV; obtain ⟨s0, s1, s2, s3, s4⟩ := hV; go_simp⟩
      try simp only [Act.put, List.setIfInBounds_toArray, List.set_cons_zero, List.set_cons_succ]
      refine wpAnyH_take (i := 2) (oi := ?o2) (v := .pointer (some ⟨G, 0, none⟩)) ?hi2 (by kernel_rfl) (by kernel_rfl) (by kernel_rfl) (fun _ _ _ h => h) ?hy2 hHeld ?rest2
      case hi2 => simp only [List.getElem?_toArray, List.getElem?_cons_zero, List.getElem?_cons_succ]; first | done | rfl
      case hy2 => exact Or.inl ⟨by rfl, by intro V hV; obtain ⟨s0, s1, s2, s3, s4⟩ := hV; go_simp⟩
      try simp only [Act.put, List.setIfInBounds_toArray, List.set_cons_zero, List.set_cons_succ]
      refine wpAnyH_take (i := 3) (oi := ?o3) (v := .int .i64 x) ?hi3 (by kernel_rfl) (by kernel_rfl) (by kernel_rfl) (fun _ _ _ h => h) ?hy3 hHeld ?rest3
      case hi3 => simp only [List.getElem?_toArray, List.getElem?_cons_zero, List.getElem?_cons_succ]; first | done | rfl
      case hy3 => exact Or.inl ⟨by rfl, by intro V hV; obtain ⟨s0, s1, s2, s3, s4⟩ := hV; go_simp⟩
      try simp only [Act.put, List.setIfInBounds_toArray, List.set_cons_zero, List.set_cons_succ]
      refine wpAnyH_take (i := 4) (oi := ?o4) (v := .pointer (some ⟨G, 1, none⟩)) ?hi4 (by kernel_rfl) (by kernel_rfl) (by kernel_rfl) (fun _ _ _ h => h) ?hy4 hHeld ?rest4
      case hi4 => simp only [List.getElem?_toArray, List.getElem?_cons_zero, List.getElem?_cons_succ]; first | done | rfl
      case hy4 => exact Or.inl ⟨by rfl, by intro V hV; obtain ⟨s0, s1, s2, s3, s4⟩ := hV; go_simp⟩
      try simp only [Act.put, List.setIfInBounds_toArray, List.set_cons_zero, List.set_cons_succ]
      refine wpAnyH_take (i := 5) (oi := ?o5) (v := .int .i64 y) ?hi5 (by kernel_rfl) (by kernel_rfl) (by kernel_rfl) (fun _ _ _ h => h) ?hy5 hHeld ?rest5
      case hi5 => simp only [List.getElem?_toArray, List.getElem?_cons_zero, List.getElem?_cons_succ]; first | done | rfl
      case hy5 => exact Or.inl ⟨by rfl, by intro V hV; obtain ⟨s0, s1, s2, s3, s4⟩ := hV; go_simp⟩
      try simp only [Act.put, List.setIfInBounds_toArray, List.set_cons_zero, List.set_cons_succ]
      refine wpAnyH_take (i := 6) (oi := ?o6) (v := .pointer (some ⟨F, 4, none⟩)) ?hi6 (by kernel_rfl) (by kernel_rfl) (by kernel_rfl) (fun _ _ _ h => h) ?hy6 hHeld ?rest6
      case hi6 => simp only [List.getElem?_toArray, List.getElem?_cons_zero, List.getElem?_cons_succ]; first | done | rfl
      case hy6 => exact Or.inl ⟨by rfl, by intro V hV; obtain ⟨s0, s1, s2, s3, s4⟩ := hV; go_simp⟩
      try simp only [Act.put, List.setIfInBounds_toArray, List.set_cons_zero, List.set_cons_succ]
      refine wpAnyH_take (i := 7) (oi := ?o7) (v := .slice (some q) ns cs) ?hi7 (by kernel_rfl) (by kernel_rfl) (by kernel_rfl) (fun _ _ _ h => h) ?hy7 hHeld ?rest7
      case hi7 => simp only [List.getElem?_toArray, List.getElem?_cons_zero, List.getElem?_cons_succ]; first | done | rfl
      case hy7 => exact Or.inl ⟨by rfl, by intro V hV; obtain ⟨s0, s1, s2, s3, s4⟩ := hV; go_simp⟩
      try simp only [Act.put, List.setIfInBounds_toArray, List.set_cons_zero, List.set_cons_succ]
      refine wpAnyH_take (i := 8) (oi := ?o8) (v := .int .i64 (k : Int)) ?hi8 (by kernel_rfl) (by kernel_rfl) (by kernel_rfl) (fun _ _ _ h => h) ?hy8 hHeld ?rest8
      case hi8 => simp only [List.getElem?_toArray, List.getElem?_cons_zero, List.getElem?_cons_succ]; first | done | rfl
      case hy8 => exact Or.inl ⟨by rfl, by intro V hV; obtain ⟨s0, s1, s2, s3, s4⟩ := hV; go_simp⟩
      try simp only [Act.put, List.setIfInBounds_toArray, List.set_cons_zero, List.set_cons_succ]
      refine wpAnyH_take (i := 9) (oi := ?o9) (v := .pointer (some (q.add k))) ?hi9 (by kernel_rfl) (by kernel_rfl) (by kernel_rfl) (fun _ _ _ h => h) ?hy9 hHeld ?rest9
      case hi9 => simp only [List.getElem?_toArray, List.getElem?_cons_zero, List.getElem?_cons_succ]; first | done | rfl
      case hy9 => exact Or.inl ⟨by rfl, by intro V hV; obtain ⟨s0, s1, s2, s3, s4⟩ := hV; go_simp⟩
      try simp only [Act.put, List.setIfInBounds_toArray, List.set_cons_zero, List.set_cons_succ]
      refine wpAnyH_take (i := 10) (oi := ?o10) (v := .int .i64 Z) ?hi10 (by kernel_rfl) (by kernel_rfl) (by kernel_rfl) (fun _ _ _ h => h) ?hy10 hHeld ?rest10
      case hi10 => simp only [List.getElem?_toArray, List.getElem?_cons_zero, List.getElem?_cons_succ]; first | done | rfl
      case hy10 => exact Or.inl ⟨by rfl, by intro V hV; obtain ⟨s0, s1, s2, s3, s4⟩ := hV; go_simp⟩
      try simp only [Act.put, List.setIfInBounds_toArray, List.set_cons_zero, List.set_cons_succ]
      refine wpAnyH_ready (rs := [11]) (by kernel_rfl) (by simp) ?_
      refine AllReadyH.cons (o := ?o11) ?hi11 (fun K hK => ?step11) AllReadyH.nil
      case hi11 => simp only [List.getElem?_toArray, List.getElem?_cons_zero, List.getElem?_cons_succ]; first | done | rfl
      go_simp
      refine hK.out _ _ (k4_call hHeld (alloc_below _ _)) (fun hHeld1 => ?_)
      clear hK K
      try simp only [Act.put, List.setIfInBounds_toArray, List.set_cons_zero, List.set_cons_succ]
      refine wpAnyH_ready (rs := [12]) (by kernel_rfl) (by simp) ?_
      refine AllReadyH.cons (o := ?o12) ?hi12 (fun K hK => ?step12) AllReadyH.nil
      case hi12 => simp only [List.getElem?_toArray, List.getElem?_cons_zero, List.getElem?_cons_succ]; first | done | rfl
      go_simp
      go_at_call 31
      refine (HLF.out (w4.alloc (.cells #[.int .i64 2, .int .i64 (k : Int), .int .i64 x, .int .i64 y, .int .i64 Z] 3)).drew (some ⟨w4.heap.size, 0, none⟩) (row_made (w := w4) [2, (k : Int), x, y, Z])).mono ?_
      rintro e w5 ⟨rfl, hb5⟩
      go_wp2_with fail
      refine hK.out _ _ (k4_call hHeld1 hb5) (fun hHeld2 => ?_)
      clear hK K
      try simp only [Act.put, List.setIfInBounds_toArray, List.set_cons_zero, List.set_cons_succ]
      refine wpAnyH_ready (rs := [13]) (by kernel_rfl) (by simp) ?_
      refine AllReadyH.cons (o := ?o13) ?hi13 (fun K hK => ?step13) AllReadyH.nil
      case hi13 => simp only [List.getElem?_toArray, List.getElem?_cons_zero, List.getElem?_cons_succ]; first | done | rfl
      go_simp
      refine hK.out _ _ (k4_call hHeld2 (alloc_below _ _)) (fun hHeld3 => ?_)
      clear hK K
      try simp only [Act.put, List.setIfInBounds_toArray, List.set_cons_zero, List.set_cons_succ]
      have HM5 : Hid (mine 36 vu w0.heap.size w5 u5 LK) := mine_below (mine_below (mine_below HM4.out (alloc_below _ _)) (Below.refl _ _).drew) hb5
      refine wpAnyH_ready (rs := [14]) (by kernel_rfl) (by simp) ?_
      refine AllReadyH.cons (o := ?o14) ?hi14 (fun K hK => ?step14) AllReadyH.nil
      case hi14 => simp only [List.getElem?_toArray, List.getElem?_cons_zero, List.getElem?_cons_succ]; first | done | rfl
      refine step_one ku _ (by rfl) _ _ (by rfl) w0.heap.size u5 LK (by rfl) (mine_below HM5.out (alloc_below _ _)) ⟨w5.heap.size, 0, none⟩ 1 X (by rfl) (new_one _ _ _) hle (by rw [World.size_alloc]; exact Nat.le_succ_of_le hHeld2.1.size) ?_
      intro g cap w6 hm6 hg6
      have HB6 : Hid (Below w0.heap.size w0 w6) := mine_grown (mine_below HM5.out (alloc_below _ _)) hHeld3.1 (by rw [World.size_alloc]; exact Nat.le_succ_of_le hHeld2.1.size) hg6
      have HFAR : Hid (∀ o, w6.cell? ⟨G, o, none⟩ = (w5.alloc (.cells #[.int .u64 (X : Int)] 36)).cell? ⟨G, o, none⟩) := fun o => by
        refine hg6.cell_far ⟨G, o, none⟩ (by have := cell_lt hHeld3.2.1; exact this) (fun e => ?_)
        have := World.ownsRow.lt HS.out.2 G e.symm
        omega
      obtain ⟨t0', t1', t2', t3', t4', t5', t6', t7', t8'⟩ := HBX.out w6 HB6.out
      have hq6 : w6.cell? (q.add k) = some (.int .i64 Z) := HZC.out w6 HB6.out
      refine hK.out _ _ ⟨HB6.out, (HFAR.out 0).trans hHeld3.2.1, (HFAR.out 1).trans hHeld3.2.2.1, t4', hq6⟩ (fun hHeld4 => ?_)
      clear hK K
      try simp only [Act.put, List.setIfInBounds_toArray, List.set_cons_zero, List.set_cons_succ]
      refine wpAnyH_take (i := 15) (oi := ?o15) (v := .slice (some ⟨g, 0, none⟩) (LK.length + 1) cap) ?hi15 (by kernel_rfl) (by kernel_rfl) (by kernel_rfl) (fun _ _ _ h => h) ?hy15 hHeld4 ?rest15
      case hi15 => simp only [List.getElem?_toArray, List.getElem?_cons_zero, List.getElem?_cons_succ]; first | done | rfl
      case hy15 => exact Or.inl ⟨by rfl, by intro V hV; obtain ⟨s0, s1, s2, s3, s4⟩ := hV; go_simp⟩
      try simp only [Act.put, List.setIfInBounds_toArray, List.set_cons_zero, List.set_cons_succ]
      refine wpAnyH_done (by kernel_rfl) ?_ _
      refine NoPanic.normal ?_
      have HB7 : Hid (Below w0.heap.size w0 w6) := HB6.out
      have HM7 : Hid (mine 36 vu w0.heap.size w6 (.slice (some ⟨g, 0, none⟩) (LK.length + 1) cap) (FL :: pll lb ls (k + 1))) := by unfold Hid; rw [HNX.out]; exact hm6
      clear hm6 hg6 hle hHeld hHeld1 hHeld2 hHeld3 hHeld4 HM5 HFAR hq6 hb5 t0 t1 t2 t3 t4 t5 t6 t7 t8 t0' t1' t2' t3' t4' t5' t6' t7' t8' g0 g1 hz4
      go_wp2_with fail
      go_roundw
      case rel => exact ⟨k + 1, by go_num, by omega, HB7.out, HM7.out⟩
      case measure => simp [intOf]; omega
    · obtain rfl : ns = k := by omega
      obtain ⟨L0, hL0⟩ : ∃ L0, FL :: pll lb ls ns = L0 := ⟨_, rfl⟩
      have HL0 : Hid (FL :: pll lb ls ns = L0) := hL0
      have hlen0 : L0.length ≤ 9 := by rw [← hL0, List.length_cons, pll_len]; omega
      have HS1 : Hid (Below w0.heap.size w0 wr ∧ mine 36 vu w0.heap.size wr u5 L0) := by have := HS.out; rw [hL0] at this; exact this
      obtain ⟨t0, t1, t2, t3, t4, t5, t6, t7, t8⟩ := HBX.out wr HS.out.1
      clear hL0
      go_wp2_with fail
      clear t0 t1 t2 t3 t4 t5 t6 t7 t8
      go_loopw [5, 47] (fun v i wr => ∃ k : Nat, i = .int .i64 (k : Int) ∧ k ≤ nm ∧ Hid (Below w0.heap.size w0 wr ∧ mine 36 vu w0.heap.size wr v (L0 ++ mnl lm k))) (fun _ i _ => nm - (intOf i).toNat)
      case atStart => exact ⟨0, rfl, by omega, HS1.out.1, by have := HS1.out.2; rw [show L0 ++ mnl lm 0 = L0 from List.append_nil _]; exact this⟩
      case round =>
        obtain ⟨k, rfl, hk, HS⟩ := hrel
        by_cases hlt : k < nm
        · have hkl : k < lm.length := by rw [HLM.out]; exact hlt
          obtain ⟨q, rfl, hz⟩ := row_at (row_below HRM.out HS.out.1) hkl
          obtain ⟨Z, hZ⟩ : ∃ Z, lm[k] = Z := ⟨_, rfl⟩
          rw [hZ] at hz
          have hz' : wr.cell? (q.add k) = some (.int .i64 Z) := hz
          have hZ0 : lm.getD k 0 = Z := by rw [List.getD_eq_getElem?_getD, List.getElem?_eq_getElem hkl, ← hZ]; rfl
          have hZp := HAM.out k hkl
          have hfz := HXM.out _ (List.getElem_mem hkl)
          rw [hZ] at hZp hfz
          have l1 : (k : Int) < nm := by omega
          have l2 : (0 : Int) ≤ k := by omega
          by_cases hz0 : Z = 0
          · subst hz0
            have HNX : Hid (L0 ++ mnl lm (k + 1) = L0 ++ mnl lm k) := by
              unfold Hid
              show L0 ++ (mnl lm k ++ if lm.getD k 0 = 0 then [] else [lnum [3, (k : Int), lm.getD k 0]]) = _
              rw [if_pos hZ0, List.append_nil]
            clear hZ hz hZ0 hZp hfz
            go_wp2_with fail
            go_roundw
            case rel => exact ⟨k + 1, by go_num, by omega, HS.out.1, by rw [HNX.out]; exact HS.out.2⟩
            case measure => simp [intOf]; omega
          · have hzp : 0 < Z := by omega
            have m1 : (Z != 0) = true := by simp [hz0]
            obtain ⟨X, hX⟩ : ∃ X, lnum [3, (k : Int), Z] = X := ⟨_, rfl⟩
            obtain ⟨LK, hLK⟩ : ∃ LK, L0 ++ mnl lm k = LK := ⟨_, rfl⟩
            have HNX : Hid (L0 ++ mnl lm (k + 1) = LK ++ [X]) := by
              unfold Hid
              rw [← hLK]
              show L0 ++ (mnl lm k ++ if lm.getD k 0 = 0 then [] else [lnum [3, (k : Int), lm.getD k 0]]) = _
              rw [hZ0, if_neg hz0, hX, List.append_assoc]
            have HLF : Hid (∀ V p, row vi V p [3, (k : Int), Z] → Calls Try.prog 31 #[.slice p 3 3] V fun e w' => e = .returned (.int .u64 (X : Int)) ∧ Below V.heap.size V w') := fun V p hp => by
              have := leaf_any p 3 3 [3, (k : Int), Z] V hp rfl (fun u hu => by
                simp at hu
                rcases hu with rfl | rfl | rfl
                · unfold fits; omega
                · unfold fits; omega
                · exact hfz)
              rw [hX] at this; exact this
            have hle : LK.length ≤ 1000000 := by rw [← hLK, List.length_append]; have := mnl_len lm k; omega
            have HMK_ : Hid (mine 36 vu w0.heap.size wr u5 LK) := by have := HS.out.2; rw [hLK] at this; exact this
            clear hZ hz hZ0 hZp hfz hX hLK
            go_wp2_with fail
            refine (HLF.out _ _ (row_made [3, (k : Int), Z])).mono ?_
            rintro e w5 ⟨rfl, hb5⟩
            have HB5 : Hid (Below w0.heap.size w0 w5) := below_step (HS.out.1.alloc HS.out.1.size _) (by rw [World.size_alloc]; exact Nat.le_succ_of_le HS.out.1.size) hb5
            have HM5 : Hid (mine 36 vu w0.heap.size w5 u5 LK) := mine_below (mine_below HMK_.out (alloc_below _ _)) hb5
            clear hb5 hz'
            go_wp2_with (at_builtin; refine list_one ku _ rfl _ _ rfl w0.heap.size u5 (LK) rfl (mine_below HM5.out (alloc_below _ _)) ⟨w5.heap.size, 0, none⟩ 1 X rfl (new_one _ _ _) hle (by rw [World.size_alloc]; exact Nat.le_succ_of_le HB5.out.size) ?_)
            intro g cap w6 hm6 hg6
            have HB6 : Hid (Below w0.heap.size w0 w6) := mine_grown (mine_below HM5.out (alloc_below _ _)) (HB5.out.alloc HB5.out.size _) (by rw [World.size_alloc]; exact Nat.le_succ_of_le HB5.out.size) hg6
            have HM6 : Hid (mine 36 vu w0.heap.size w6 (.slice (some ⟨g, 0, none⟩) ((LK).length + 1) cap) (L0 ++ mnl lm (k + 1))) := by unfold Hid; rw [HNX.out]; exact hm6
            clear hm6 hg6 hle HM5
            go_wp2_with fail
            go_roundw
            case rel => exact ⟨k + 1, by go_num, by omega, HB6.out, HM6.out⟩
            case measure => simp [intOf]; omega
        · obtain rfl : nm = k := by omega
          obtain ⟨L1, hL1⟩ : ∃ L1, L0 ++ mnl lm nm = L1 := ⟨_, rfl⟩
          have HL1 : Hid (L0 ++ mnl lm nm = L1) := hL1
          have hlen1 : L1.length ≤ 1700 := by rw [← hL1, List.length_append]; have := mnl_len lm nm; omega
          have HS2 : Hid (Below w0.heap.size w0 wr ∧ mine 36 vu w0.heap.size wr u5 L1) := by have := HS.out; rw [hL1] at this; exact this
          obtain ⟨t0, t1, t2, t3, t4, t5, t6, t7, t8⟩ := HBX.out wr HS.out.1
          clear hL1
          go_wp2_with fail
          clear t0 t1 t2 t3 t4 t5 t6 t7 t8
          go_loopw [5, 65] (fun v i wr => ∃ k : Nat, i = .int .i64 (k : Int) ∧ k ≤ nt ∧ Hid (Below w0.heap.size w0 wr ∧ mine 36 vu w0.heap.size wr v (L1 ++ (lt.take k).map tnum))) (fun _ i _ => nt - (intOf i).toNat)
          case atStart => exact ⟨0, rfl, by omega, HS2.out.1, by simpa using HS2.out.2⟩
          case round =>
            obtain ⟨k, rfl, hk, HS⟩ := hrel
            by_cases hlt : k < nt
            · have hkl : k < lt.length := by rw [HLT.out]; exact hlt
              obtain ⟨a, rfl, hc⟩ := trow_at (trow_below HRT.out HS.out.1) hkl
              have hft := HXT.out _ (List.getElem_mem hkl)
              have hsn : L1 ++ (lt.take (k + 1)).map tnum = (L1 ++ (lt.take k).map tnum) ++ [tnum lt[k]] := by rw [List.take_succ_eq_append_getElem hkl, List.map_append, List.append_assoc]; rfl
              obtain ⟨t, ht⟩ : ∃ t, lt[k] = t := ⟨_, rfl⟩
              rw [ht] at hc hft hsn
              obtain ⟨ti, to_, tk, tx, ty, tf, td⟩ := t
              obtain ⟨c0, c1, c2, c3, c4, c5, c6⟩ := hc
              simp only at c0 c1 c2 c3 c4 c5 c6
              obtain ⟨X, hX⟩ : ∃ X, tnum ⟨ti, to_, tk, tx, ty, tf, td⟩ = X := ⟨_, rfl⟩
              rw [hX] at hsn
              obtain ⟨LK, hLK⟩ : ∃ LK, L1 ++ (lt.take k).map tnum = LK := ⟨_, rfl⟩
              have HNX : Hid (L1 ++ (lt.take (k + 1)).map tnum = LK ++ [X]) := by rw [← hLK]; exact hsn
              have HLF : Hid (∀ V p, row vi V p [4, ti, to_, tk, tx, ty, tf, td] → Calls Try.prog 31 #[.slice p 8 8] V fun e w' => e = .returned (.int .u64 (X : Int)) ∧ Below V.heap.size V w') := fun V p hp => by
                have := leaf_any p 8 8 [4, ti, to_, tk, tx, ty, tf, td] V hp rfl (fun u hu => by
                  simp at hu
                  rcases hu with rfl | rfl | rfl | rfl | rfl | rfl | rfl | rfl
                  · unfold fits; omega
                  · exact hft.1
                  · exact hft.2.1
                  · exact hft.2.2.1
                  · exact hft.2.2.2.1
                  · exact hft.2.2.2.2.1
                  · exact hft.2.2.2.2.2.1
                  · exact hft.2.2.2.2.2.2)
                have e : lnum [4, ti, to_, tk, tx, ty, tf, td] = X := hX
                rw [e] at this; exact this
              obtain ⟨w4, hw4⟩ : ∃ w4, wr.alloc (.cells #[.int .i64 ti, .int .i64 to_, .int .i64 tk, .int .i64 tx, .int .i64 ty, .int .i64 tf, .int .i64 td] 47) = w4 := ⟨_, rfl⟩
              obtain ⟨G, hG⟩ : ∃ G, wr.heap.size = G := ⟨_, rfl⟩
              obtain ⟨g0, g1, g2, g3, g4, g5, g6⟩ := boxt hG hw4 (Below.refl _ _)
              have hb4 : Below wr.heap.size wr w4 := by rw [← hw4]; exact alloc_below _ _
              have HB4 : Hid (Below w0.heap.size w0 w4) := below_step HS.out.1 HS.out.1.size hb4
              have HM4 : Hid (mine 36 vu w0.heap.size w4 u5 LK) := by have := mine_below HS.out.2 hb4; rw [hLK] at this; exact this
              have hle : LK.length ≤ 1000000 := by rw [← hLK, List.length_append, List.length_map, List.length_take]; omega
              have l1 : (k : Int) < nt := by omega
              have l2 : (0 : Int) ≤ k := by omega
              clear hft hsn ht hX hb4 hLK
              go_wp2_with fail
              clear hw4 c0 c1 c2 c3 c4 c5 c6
              refine (HLF.out _ _ (row_made [4, ti, to_, tk, tx, ty, tf, td])).mono ?_
              rintro e w5 ⟨rfl, hb5⟩
              have HB5 : Hid (Below w0.heap.size w0 w5) := below_step (HB4.out.alloc HB4.out.size _) (by rw [World.size_alloc]; exact Nat.le_succ_of_le HB4.out.size) hb5
              have HM5 : Hid (mine 36 vu w0.heap.size w5 u5 LK) := mine_below (mine_below HM4.out (alloc_below _ _)) hb5
              clear hb5 g0 g1 g2 g3 g4 g5 g6
              go_wp2_with (at_builtin; refine list_one ku _ rfl _ _ rfl w0.heap.size u5 (LK) rfl (mine_below HM5.out (alloc_below _ _)) ⟨w5.heap.size, 0, none⟩ 1 X rfl (new_one _ _ _) hle (by rw [World.size_alloc]; exact Nat.le_succ_of_le HB5.out.size) ?_)
              intro g cap w6 hm6 hg6
              have HB6 : Hid (Below w0.heap.size w0 w6) := mine_grown (mine_below HM5.out (alloc_below _ _)) (HB5.out.alloc HB5.out.size _) (by rw [World.size_alloc]; exact Nat.le_succ_of_le HB5.out.size) hg6
              have HM6 : Hid (mine 36 vu w0.heap.size w6 (.slice (some ⟨g, 0, none⟩) ((LK).length + 1) cap) (L1 ++ (lt.take (k + 1)).map tnum)) := by unfold Hid; rw [HNX.out]; exact hm6
              clear hm6 hg6 hle HM5
              go_wp2_with fail
              go_roundw
              case rel => exact ⟨k + 1, by go_num, by omega, HB6.out, HM6.out⟩
              case measure => simp [intOf]; omega
            · obtain rfl : nt = k := by omega
              have HLA : Hid (L1 ++ (lt.take nt).map tnum = FL :: (pll lb ls ns ++ mnl lm nm) ++ lt.map tnum) := by
                unfold Hid
                rw [List.take_of_length_le (by rw [HLT.out]; exact Nat.le_refl _), ← HL1.out, ← HL0.out]
                simp
              obtain ⟨LA, hLA⟩ : ∃ LA, FL :: (pll lb ls ns ++ mnl lm nm) ++ lt.map tnum = LA := ⟨_, rfl⟩
              have HSM : Hid (small LA ∧ LA.length ≤ 2000) := by
                refine ⟨by rw [← hLA]; exact HWL.out, ?_⟩
                rw [← hLA, ← HLA.out, List.length_append, List.length_map, List.length_take]
                omega
              have hm := HS.out.2
              rw [HLA.out, hLA] at hm
              obtain ⟨q, d, rfl, hq, -, -⟩ := mine_full hm
              have HRU : Hid ((⟨q, d, LA⟩ : Lst).ok wr) := ⟨rowu_of hq, HSM.out.1, by show LA.length ≤ _; have := HSM.out.2; omega⟩
              have HBr : Hid (Below w0.heap.size w0 wr) := HS.out.1
              have HEN : Hid (tn 0 LA = MK) := by have := HMK.out FL HFL.out; rw [hLA] at this; exact this
              clear hm hq hLA
              have HOF : Hid (Calls Try.prog 32 #[.slice q LA.length d] wr fun e w' => e = .returned (.int .u64 (MK : Int)) ∧ Below wr.heap.size wr w') := by
                have := Of_any ⟨q, d, LA⟩ wr HRU.out
                rw [HEN.out] at this; exact this
              go_wp2_with fail
              refine Calls.mono HOF.out ?_
              rintro e w9 ⟨rfl, hb9⟩
              have HB9 : Hid (Below w0.heap.size w0 w9) := below_upF HBr.out hb9
              clear hb9
              go_wp2_with fail
              go_ret2
              exact ⟨rfl, HUP.out w9 HB9.out⟩
end Go.Proofs.Ytibpobmeonfljaa
