/- What the document's own KindOf returns of a right kind, and whether a blow counts. -/
import Derived.Test.YtjbfnibhmojlfaaHr
import Derived.Test.YtjbfnibhmojlfaaSd
import Derived.Test.YtjbfnibhmojlfaaWr
namespace Go.Proofs.Ytjbfnibhmojlfaa
open Go.RowKit
set_option linter.unusedVariables false

theorem KindOf_rh (k : Int) (h : k = 1 ∨ k = 2) : ∃ a d : Int, ∀ (w : World), Calls Try.prog 42 #[.int .i64 k] w fun e w' => e = .returned (.agg #[.int .i64 a, .int .i64 (rch k), .int .i64 (hrk k), .int .i64 d]) ∧ Below w.heap.size w w' := by
  rcases h with rfl | rfl
  · exact ⟨10, 5, KindOf_1⟩
  · exact ⟨20, 12, KindOf_2⟩
theorem run_max2 {P : Program} (w : World) (ts : Array TypeId) (t : TypeId) (k k1 : IntKind) (x y : Int) : (Builtin.max_ ts t #[.int k x, .int k1 y]).run P w = .ok (.int k (mx x y)) w := by
  have e : ∀ a b : Int, (if b > a then b else a) = mx a b := fun a b => by unfold mx; omega
  simp [Builtin.max_, Builtin.max2]
  simp only [← e]
theorem tof_none {lt : List Trp} {i : Int} (h : (trf lt i).isSome = false) : trf lt i = none := by
  cases e : trf lt i with
  | none => rfl
  | some t => rw [e] at h; cases h
theorem tof_some {lt : List Trp} {i : Int} (h : (trf lt i).isSome = true) : trf lt i = some (tof lt i) := by
  cases e : trf lt i with
  | none => rw [e] at h; cases h
  | some t => unfold tof; rw [e]; rfl
theorem cnt_way {W : Nat} {l : List Int} {lt : List Trp} {x y : Int} :
    ((trf lt x).isSome = false → cnt W l lt ⟨x, y⟩ = false) ∧ ((trf lt y).isSome = false → cnt W l lt ⟨x, y⟩ = false) ∧ ((trf lt x).isSome = true → (trf lt y).isSome = true → cnt W l lt ⟨x, y⟩ = hit W l (tof lt x) (tof lt y)) := by
  unfold cnt
  refine ⟨fun h => ?_, fun h => ?_, fun h h2 => ?_⟩
  · rw [tof_none h]
  · rw [tof_none h]; cases trf lt x <;> rfl
  · rw [tof_some h, tof_some h2]
set_option maxRecDepth 40000 in
set_option maxHeartbeats 8000000 in
theorem BlowCounts_any (s : Wld) (W H : Nat) (x y : Int) (b : Bool) (w : World) (h : s.fit w) (hk : okw s W H) (hb : Hid (cnt W s.l s.lt ⟨x, y⟩ = b)) :
    Calls Try.prog 46 #[s.val, .agg #[.int .i64 x, .int .i64 y]] w fun e w' => e = .returned (.bool b) ∧ Below w.heap.size w w' := by
  have HTX : Hid (∀ V, Below w.heap.size w V → Calls Try.prog 22 #[s.val, .int .i64 x] V fun e w' => e = .returned (.tuple #[tv (tof s.lt x), .bool (trf s.lt x).isSome]) ∧ Below V.heap.size V w') := fun V hV => TroopOf_any s x V (Wld.fit_below h hV)
  have HTY : Hid (∀ V, Below w.heap.size w V → Calls Try.prog 22 #[s.val, .int .i64 y] V fun e w' => e = .returned (.tuple #[tv (tof s.lt y), .bool (trf s.lt y).isSome]) ∧ Below V.heap.size V w') := fun V hV => TroopOf_any s y V (Wld.fit_below h hV)
  obtain ⟨A, B, p, n, c, l, pb, nb, cb, lb, ps, ns, cs, ls, pm, nm, cm, lm, pt, nt, ct, lt, N, T⟩ := s
  obtain ⟨a, ha⟩ : ∃ a, p = some a := row_some h.r (by have := hk.f.2.2.1; dsimp only at this; rw [this]; exact one_le hk.f.1 hk.f.2.1)
  obtain rfl : n = W * H := by have h1 := h.h; have h2 := hk.f.2.2.1; dsimp only at h1 h2; omega
  have hA : A = W := hk.a
  have hB : B = H := hk.b
  subst ha hA hB
  have hr : row vi w (some a) l := h.r
  have hf : okf W H l := hk.f
  have htr := hk.tr
  unfold Wld.val at *
  dsimp only at htr HTX HTY hb ⊢
  have HLK : Hid (∀ V (x y u v : Nat) b, Below w.heap.size w V → x < W → y < H → u < W → v < H → se W l x y u v = b → Calls Try.prog 61 #[.agg #[.int .i64 (W : Int), .int .i64 (H : Int), .slice (some a) (W * H) c], .agg #[.int .i64 (x : Int), .int .i64 (y : Int)], .agg #[.int .i64 (u : Int), .int .i64 (v : Int)]] V fun e w' => e = .returned (.bool b) ∧ Below V.heap.size V w') := fun V x y u v b hV h1 h2 h3 h4 h5 => Looks_any W H a c l x y u v b V (row_below hr hV) hf h1 h2 h3 h4 h5
  obtain ⟨c1, c2, c3⟩ := @cnt_way W l lt x y
  have hwx : (trf lt x).isSome = true → tof lt x ∈ lt := fun h => (trf_some (tof_some h)).1
  have hwy : (trf lt y).isSome = true → tof lt y ∈ lt := fun h => (trf_some (tof_some h)).1
  obtain ⟨u, hu⟩ : ∃ u, tof lt x = u := ⟨_, rfl⟩
  obtain ⟨v, hv⟩ : ∃ v, tof lt y = v := ⟨_, rfl⟩
  obtain ⟨bx, hbx⟩ : ∃ b, (trf lt x).isSome = b := ⟨_, rfl⟩
  obtain ⟨by_, hby⟩ : ∃ b, (trf lt y).isSome = b := ⟨_, rfl⟩
  rw [hu, hbx] at HTX
  rw [hv, hby] at HTY
  rw [hu, hv, hbx, hby, hb.out] at c3
  rw [hbx, hb.out] at c1
  rw [hby, hb.out] at c2
  rw [hu, hbx] at hwx
  rw [hv, hby] at hwy
  have hok : ∀ t ∈ lt, (t.k = 1 ∨ t.k = 2) ∧ inb W H t.x t.y = true := fun t ht => by
    obtain ⟨j, hj, rfl⟩ := List.getElem_of_mem ht
    exact ⟨(htr.1 j hj).2.2.1, opn_inb (htr.1 j hj).2.2.2.2.2.1⟩
  have HC1 : Hid (bx = false → b = false) := c1
  have HC2 : Hid (by_ = false → b = false) := c2
  have HC3 : Hid (bx = true → by_ = true → b = hit W l u v) := c3
  have HU : Hid (bx = true → (u.k = 1 ∨ u.k = 2) ∧ inb W H u.x u.y = true) := fun h => hok u (hwx h)
  have HV : Hid (by_ = true → (v.k = 1 ∨ v.k = 2) ∧ inb W H v.x v.y = true) := fun h => hok v (hwy h)
  have HF16 : Hid (W ≤ 40 ∧ H ≤ 40) := ⟨hf.1.2, hf.2.1.2⟩
  clear c1 c2 c3 hwx hwy hok htr hf hr hb h hk hu hv hbx hby
  obtain ⟨si, so, sk, sx, sy, sf, sq⟩ := u
  obtain ⟨ti, to_, tk, tx, ty, tf, tq⟩ := v
  unfold tv at *
  dsimp only at *
  obtain ⟨F, hF⟩ : ∃ F, w.heap.size = F := ⟨_, rfl⟩
  obtain ⟨wa, hwa⟩ : ∃ wa, w.alloc (.cells #[.int .i64 (W : Int), .int .i64 (H : Int), .slice (some a) (W * H) c, .slice pb nb cb, .slice ps ns cs, .slice pm nm cm, .slice pt nt ct, .int .i64 N, .int .i64 T] 28) = wa := ⟨_, rfl⟩
  obtain ⟨w0, hw0⟩ : ∃ w0, wa.alloc (.cells #[.int .i64 x, .int .i64 y] 48) = w0 := ⟨_, rfl⟩
  have sa : wa.heap.size = F + 1 := by rw [← hwa, World.size_alloc, hF]
  have ba : Below w.heap.size w wa := by rw [← hwa]; exact alloc_below _ _
  have b0 : Below wa.heap.size wa w0 := by rw [← hw0]; exact alloc_below _ _
  have HB0 : Hid (Below w.heap.size w w0) := below_call ba ba.size b0
  have HBX : Hid (∀ V, Below w0.heap.size w0 V → c9 V F (.int .i64 (W : Int)) (.int .i64 (H : Int)) (.slice (some a) (W * H) c) (.slice pb nb cb) (.slice ps ns cs) (.slice pm nm cm) (.slice pt nt ct) (.int .i64 N) (.int .i64 T)) := fun V hV => boxw hF hwa (below_call b0 b0.size hV)
  have hbl : w0.cell? ⟨F + 1, 0, none⟩ = some (.int .i64 x) ∧ w0.cell? ⟨F + 1, 1, none⟩ = some (.int .i64 y) := by
    have h0 : w0.heap[F + 1]? = some (.cells #[.int .i64 x, .int .i64 y] 48) := by rw [← hw0, ← sa]; exact World.alloc_heap_new wa _
    simp [World.cell?, h0]
  have HBB : Hid (∀ V, Below w0.heap.size w0 V → V.cell? ⟨F + 1, 0, none⟩ = some (.int .i64 x) ∧ V.cell? ⟨F + 1, 1, none⟩ = some (.int .i64 y)) := fun V hV => ⟨cell_call hV hbl.1, cell_call hV hbl.2⟩
  obtain ⟨z0, z1, z2, z3, z4, z5, z6, z7, z8⟩ := HBX.out w0 (Below.refl _ _)
  obtain ⟨g0, g1⟩ := HBB.out w0 (Below.refl _ _)
  clear ba b0 hbl
  go_enter Try.func46, Try.ntmps46
  go_wp2_with fail
  refine (HTX.out w0 HB0.out).mono ?_
  rintro e w1 ⟨rfl, hb1⟩
  have HB1 : Hid (Below w0.heap.size w0 w1) := hb1
  clear z0 z1 z2 z3 z4 z5 z6 z7 z8 g0 g1 hb1 hw0 hwa sa hF HTX
  obtain ⟨w2, hw2⟩ : ∃ w2, w1.alloc (.cells #[.int .i64 si, .int .i64 so, .int .i64 sk, .int .i64 sx, .int .i64 sy, .int .i64 sf, .int .i64 sq] 42) = w2 := ⟨_, rfl⟩
  obtain ⟨G, hG⟩ : ∃ G, w1.heap.size = G := ⟨_, rfl⟩
  have HP : Hid (∀ V, Below w2.heap.size w2 V → c7 V G si so sk sx sy sf sq) := fun V hV => boxt hG hw2 hV
  have b2 : Below w1.heap.size w1 w2 := by rw [← hw2]; exact alloc_below _ _
  have HB2 : Hid (Below w0.heap.size w0 w2) := below_call HB1.out HB1.out.size b2
  obtain ⟨z0, z1, z2, z3, z4, z5, z6, z7, z8⟩ := HBX.out w2 HB2.out
  obtain ⟨g0, g1⟩ := HBB.out w2 HB2.out
  clear b2
  go_wp2_with fail
  refine (HTY.out w2 (below_call HB0.out HB0.out.size HB2.out)).mono ?_
  rintro e w3 ⟨rfl, hb3⟩
  have HB3 : Hid (Below w2.heap.size w2 w3) := hb3
  clear z0 z1 z2 z3 z4 z5 z6 z7 z8 g0 g1 hb3 hw2 hG HTY
  obtain ⟨w4, hw4⟩ : ∃ w4, w3.alloc (.cells #[.int .i64 ti, .int .i64 to_, .int .i64 tk, .int .i64 tx, .int .i64 ty, .int .i64 tf, .int .i64 tq] 42) = w4 := ⟨_, rfl⟩
  obtain ⟨J, hJ⟩ : ∃ J, w3.heap.size = J := ⟨_, rfl⟩
  have b4 : Below w3.heap.size w3 w4 := by rw [← hw4]; exact alloc_below _ _
  have b24 : Below w2.heap.size w2 w4 := below_call HB3.out HB3.out.size b4
  have HB4 : Hid (Below w0.heap.size w0 w4) := below_call HB2.out HB2.out.size b24
  obtain ⟨q0, q1, q2, q3, q4, q5, q6⟩ := boxt hJ hw4 (Below.refl _ _)
  obtain ⟨p0, p1, p2, p3, p4, p5, p6⟩ := HP.out w4 b24
  obtain ⟨z0, z1, z2, z3, z4, z5, z6, z7, z8⟩ := HBX.out w4 HB4.out
  have HBW : Hid (Below w.heap.size w w4) := below_call HB0.out HB0.out.size HB4.out
  clear b4 b24 HBX HBB HP
  cases bx with
  | false =>
    obtain rfl := HC1.out rfl
    go_wp2_with fail
    clear hw4 hJ
    go_quiet (fail)
    go_wp2_with fail
    go_ret
    exact ⟨rfl, below_drewN HBW.out _⟩
  | true =>
  cases by_ with
  | false =>
    obtain rfl := HC2.out rfl
    go_wp2_with fail
    clear hw4 hJ
    go_quiet (fail)
    go_wp2_with fail
    go_ret
    exact ⟨rfl, below_drewN HBW.out _⟩
  | true =>
  have hbh := HC3.out rfl rfl
  obtain ⟨hku, hiu⟩ := HU.out rfl
  obtain ⟨-, hiv⟩ := HV.out rfl
  obtain ⟨m, n', rfl, rfl, lm_, ln_⟩ := inb_nat hiu
  obtain ⟨m', o', rfl, rfl, lm', lo'⟩ := inb_nat hiv
  obtain ⟨ka, kd, HKO⟩ := KindOf_rh sk hku
  have hfar := @hit_far W l ⟨si, so, sk, (m : Int), (n' : Int), sf, sq⟩ ⟨ti, to_, tk, (m' : Int), (o' : Int), tf, tq⟩
  have hnear := @hit_near W l ⟨si, so, sk, (m : Int), (n' : Int), sf, sq⟩ ⟨ti, to_, tk, (m' : Int), (o' : Int), tf, tq⟩
  have hno := @hit_no W l ⟨si, so, sk, (m : Int), (n' : Int), sf, sq⟩ ⟨ti, to_, tk, (m' : Int), (o' : Int), tf, tq⟩
  rw [← hbh] at hfar hnear hno
  dsimp only at hfar hnear hno
  by_cases ho : so = to_
  · obtain rfl := hno ho
    have e0 : (so != to_) = false := by simp [ho]
    clear hno hfar hnear hbh ho
    go_wp2_with fail
    clear hw4 hJ
    go_quiet (fail)
    go_wp2_with fail
    go_ret
    exact ⟨rfl, below_drewN HBW.out _⟩
  have e0 : (so != to_) = true := by simp [ho]
  have HSE := hnear ho
  obtain ⟨R, hR⟩ : ∃ R, rch sk = R := ⟨_, rfl⟩
  obtain ⟨D1, hD1⟩ : ∃ D, ds (m : Int) m' = D := ⟨_, rfl⟩
  obtain ⟨D2, hD2⟩ : ∃ D, ds (n' : Int) o' = D := ⟨_, rfl⟩
  obtain ⟨K, hK⟩ : ∃ K, mx D1 D2 = K := ⟨_, rfl⟩
  have hkk : kg (m : Int) n' m' o' = K := by unfold kg; rw [hD1, hD2, hK]
  rw [hR, hkk] at hfar HSE
  rw [hR] at HKO
  have HFA : Hid (∀ V, Calls Try.prog 60 #[.int .i64 (m : Int), .int .i64 (m' : Int)] V fun e w' => e = .returned (.int .i64 D1) ∧ w' = V) := fun V => by
    have h1 := HF16.out
    rw [← hD1]; exact Far_any _ _ V (by omega) (by omega) (by omega) (by omega)
  have HFB : Hid (∀ V, Calls Try.prog 60 #[.int .i64 (n' : Int), .int .i64 (o' : Int)] V fun e w' => e = .returned (.int .i64 D2) ∧ w' = V) := fun V => by
    have h1 := HF16.out
    rw [← hD2]; exact Far_any _ _ V (by omega) (by omega) (by omega) (by omega)
  have HKF : Hid (∀ V, Calls Try.prog 42 #[.int .i64 sk] V fun e w' => e = .returned (.agg #[.int .i64 ka, .int .i64 R, .int .i64 (hrk sk), .int .i64 kd]) ∧ Below V.heap.size V w') := HKO
  obtain ⟨M, hM⟩ : ∃ M, hrk sk = M := ⟨_, rfl⟩
  rw [hM] at HKF
  have HLO : Hid (∀ V b, Below w4.heap.size w4 V → se W l (m : Int) n' m' o' = b → Calls Try.prog 61 #[.agg #[.int .i64 (W : Int), .int .i64 (H : Int), .slice (some a) (W * H) c], .agg #[.int .i64 (m : Int), .int .i64 (n' : Int)], .agg #[.int .i64 (m' : Int), .int .i64 (o' : Int)]] V fun e w' => e = .returned (.bool b) ∧ Below V.heap.size V w') := fun V b hV hb => HLK.out V m n' m' o' b (below_call HBW.out HBW.out.size hV) lm_ ln_ lm' lo' hb
  have HD12 : Hid (Hid (ds (m : Int) m' = D1) ∧ ds (n' : Int) o' = D2) := ⟨hD1, hD2⟩
  have m2 := @run_max2 Try.prog
  have kf1 := kfield1
  clear hno hnear hbh ho HLK HKO hkk hD1 hD2 hR hM hku hiu hiv HU HV HC1 HC2 HC3
  by_cases hfr : R < K
  · obtain rfl := hfar hfr
    have dk : decide (K ≤ R) = false := by simp; omega
    clear hfar HSE hfr
    go_wp2_with fail
    clear hw4 hJ
    refine wp_region_noPanic ?_
    refine wp_region_held_drew (S := fun V => Below w4.heap.size w4 V ∧ V.cell? ⟨F, 0, none⟩ = some (.int .i64 (W : Int)) ∧ V.cell? ⟨F, 1, none⟩ = some (.int .i64 (H : Int)) ∧ V.cell? ⟨F, 2, none⟩ = some (.slice (some a) (W * H) c) ∧ V.cell? ⟨G, 1, none⟩ = some (.int .i64 so) ∧ V.cell? ⟨G, 2, none⟩ = some (.int .i64 sk) ∧ V.cell? ⟨G, 3, none⟩ = some (.int .i64 (m : Int)) ∧ V.cell? ⟨G, 4, none⟩ = some (.int .i64 (n' : Int)) ∧ V.cell? ⟨J, 1, none⟩ = some (.int .i64 to_) ∧ V.cell? ⟨J, 3, none⟩ = some (.int .i64 (m' : Int)) ∧ V.cell? ⟨J, 4, none⟩ = some (.int .i64 (o' : Int))) (by kernel_rfl) ⟨Below.drew (Below.refl _ _), z0, z1, z2, p1, p2, p3, p4, q1, q3, q4⟩ (fun hHeld => ?_)
    refine wpAnyH_take (i := 0) (oi := ?oa0) (v := .bool true) ?hia0 (by kernel_rfl) (by kernel_rfl) (by kernel_rfl) (fun _ _ _ h => h) ?hya0 hHeld ?resta0
    case hia0 => simp only [List.getElem?_toArray, List.getElem?_cons_zero]; first | done | rfl
    case hya0 => exact Or.inl ⟨by rfl, by intro V hV; obtain ⟨s0, s1, s2, s3, s4, s5, s6, s7, s8, s9, s10⟩ := hV; go_simp⟩
    try simp only [Act.put, List.setIfInBounds_toArray, List.set_cons_zero, List.set_cons_succ]
    refine wpAnyH_take (i := 1) (oi := ?oa1) (v := .bool true) ?hia1 (by kernel_rfl) (by kernel_rfl) (by kernel_rfl) (fun _ _ _ h => h) ?hya1 hHeld ?resta1
    case hia1 => simp only [List.getElem?_toArray, List.getElem?_cons_zero, List.getElem?_cons_succ]; first | done | rfl
    case hya1 => exact Or.inl ⟨by rfl, by intro V hV; obtain ⟨s0, s1, s2, s3, s4, s5, s6, s7, s8, s9, s10⟩ := hV; go_simp⟩
    try simp only [Act.put, List.setIfInBounds_toArray, List.set_cons_zero, List.set_cons_succ]
    refine wpAnyH_take (i := 2) (oi := ?oa2) (v := .bool true) ?hia2 (by kernel_rfl) (by kernel_rfl) (by kernel_rfl) (fun _ _ _ h => h) ?hya2 hHeld ?resta2
    case hia2 => simp only [List.getElem?_toArray, List.getElem?_cons_zero, List.getElem?_cons_succ]; first | done | rfl
    case hya2 => exact Or.inl ⟨by rfl, by intro V hV; obtain ⟨s0, s1, s2, s3, s4, s5, s6, s7, s8, s9, s10⟩ := hV; go_simp⟩
    try simp only [Act.put, List.setIfInBounds_toArray, List.set_cons_zero, List.set_cons_succ]
    refine wpAnyH_take (i := 3) (oi := ?oa3) (v := .bool true) ?hia3 (by kernel_rfl) (by kernel_rfl) (by kernel_rfl) (fun _ _ _ h => h) ?hya3 hHeld ?resta3
    case hia3 => simp only [List.getElem?_toArray, List.getElem?_cons_zero, List.getElem?_cons_succ]; first | done | rfl
    case hya3 => exact Or.inl ⟨by rfl, by intro V hV; obtain ⟨s0, s1, s2, s3, s4, s5, s6, s7, s8, s9, s10⟩ := hV; go_simp⟩
    try simp only [Act.put, List.setIfInBounds_toArray, List.set_cons_zero, List.set_cons_succ]
    refine wpAnyH_take (i := 4) (oi := ?oa4) (v := .bool true) ?hia4 (by kernel_rfl) (by kernel_rfl) (by kernel_rfl) (fun _ _ _ h => h) ?hya4 hHeld ?resta4
    case hia4 => simp only [List.getElem?_toArray, List.getElem?_cons_zero, List.getElem?_cons_succ]; first | done | rfl
    case hya4 => exact Or.inl ⟨by rfl, by intro V hV; obtain ⟨s0, s1, s2, s3, s4, s5, s6, s7, s8, s9, s10⟩ := hV; go_simp⟩
    try simp only [Act.put, List.setIfInBounds_toArray, List.set_cons_zero, List.set_cons_succ]
    refine wpAnyH_take (i := 5) (oi := ?oa5) (v := .pointer (some ⟨G, 1, none⟩)) ?hia5 (by kernel_rfl) (by kernel_rfl) (by kernel_rfl) (fun _ _ _ h => h) ?hya5 hHeld ?resta5
    case hia5 => simp only [List.getElem?_toArray, List.getElem?_cons_zero, List.getElem?_cons_succ]; first | done | rfl
    case hya5 => exact Or.inl ⟨by rfl, by intro V hV; obtain ⟨s0, s1, s2, s3, s4, s5, s6, s7, s8, s9, s10⟩ := hV; go_simp⟩
    try simp only [Act.put, List.setIfInBounds_toArray, List.set_cons_zero, List.set_cons_succ]
    refine wpAnyH_take (i := 6) (oi := ?oa6) (v := .int .i64 so) ?hia6 (by kernel_rfl) (by kernel_rfl) (by kernel_rfl) (fun _ _ _ h => h) ?hya6 hHeld ?resta6
    case hia6 => simp only [List.getElem?_toArray, List.getElem?_cons_zero, List.getElem?_cons_succ]; first | done | rfl
    case hya6 => exact Or.inl ⟨by rfl, by intro V hV; obtain ⟨s0, s1, s2, s3, s4, s5, s6, s7, s8, s9, s10⟩ := hV; go_simp⟩
    try simp only [Act.put, List.setIfInBounds_toArray, List.set_cons_zero, List.set_cons_succ]
    refine wpAnyH_take (i := 7) (oi := ?oa7) (v := .pointer (some ⟨J, 1, none⟩)) ?hia7 (by kernel_rfl) (by kernel_rfl) (by kernel_rfl) (fun _ _ _ h => h) ?hya7 hHeld ?resta7
    case hia7 => simp only [List.getElem?_toArray, List.getElem?_cons_zero, List.getElem?_cons_succ]; first | done | rfl
    case hya7 => exact Or.inl ⟨by rfl, by intro V hV; obtain ⟨s0, s1, s2, s3, s4, s5, s6, s7, s8, s9, s10⟩ := hV; go_simp⟩
    try simp only [Act.put, List.setIfInBounds_toArray, List.set_cons_zero, List.set_cons_succ]
    refine wpAnyH_take (i := 8) (oi := ?oa8) (v := .int .i64 to_) ?hia8 (by kernel_rfl) (by kernel_rfl) (by kernel_rfl) (fun _ _ _ h => h) ?hya8 hHeld ?resta8
    case hia8 => simp only [List.getElem?_toArray, List.getElem?_cons_zero, List.getElem?_cons_succ]; first | done | rfl
    case hya8 => exact Or.inl ⟨by rfl, by intro V hV; obtain ⟨s0, s1, s2, s3, s4, s5, s6, s7, s8, s9, s10⟩ := hV; go_simp⟩
    try simp only [Act.put, List.setIfInBounds_toArray, List.set_cons_zero, List.set_cons_succ]
    refine wpAnyH_take (i := 9) (oi := ?oa9) (v := .bool true) ?hia9 (by kernel_rfl) (by kernel_rfl) (by kernel_rfl) (fun _ _ _ h => h) ?hya9 hHeld ?resta9
    case hia9 => simp only [List.getElem?_toArray, List.getElem?_cons_zero, List.getElem?_cons_succ]; first | done | rfl
    case hya9 => exact Or.inl ⟨by rfl, by intro V hV; obtain ⟨s0, s1, s2, s3, s4, s5, s6, s7, s8, s9, s10⟩ := hV; go_simp⟩
    try simp only [Act.put, List.setIfInBounds_toArray, List.set_cons_zero, List.set_cons_succ]
    refine wpAnyH_take (i := 10) (oi := ?oa10) (v := .bool true) ?hia10 (by kernel_rfl) (by kernel_rfl) (by kernel_rfl) (fun _ _ _ h => h) ?hya10 hHeld ?resta10
    case hia10 => simp only [List.getElem?_toArray, List.getElem?_cons_zero, List.getElem?_cons_succ]; first | done | rfl
    case hya10 => exact Or.inl ⟨by rfl, by intro V hV; obtain ⟨s0, s1, s2, s3, s4, s5, s6, s7, s8, s9, s10⟩ := hV; go_simp⟩
    try simp only [Act.put, List.setIfInBounds_toArray, List.set_cons_zero, List.set_cons_succ]
    refine wpAnyH_take (i := 11) (oi := ?oa11) (v := .bool true) ?hia11 (by kernel_rfl) (by kernel_rfl) (by kernel_rfl) (fun _ _ _ h => h) ?hya11 hHeld ?resta11
    case hia11 => simp only [List.getElem?_toArray, List.getElem?_cons_zero, List.getElem?_cons_succ]; first | done | rfl
    case hya11 => exact Or.inl ⟨by rfl, by intro V hV; obtain ⟨s0, s1, s2, s3, s4, s5, s6, s7, s8, s9, s10⟩ := hV; go_simp⟩
    try simp only [Act.put, List.setIfInBounds_toArray, List.set_cons_zero, List.set_cons_succ]
    refine wpAnyH_take (i := 12) (oi := ?oa12) (v := .pointer (some ⟨G, 3, none⟩)) ?hia12 (by kernel_rfl) (by kernel_rfl) (by kernel_rfl) (fun _ _ _ h => h) ?hya12 hHeld ?resta12
    case hia12 => simp only [List.getElem?_toArray, List.getElem?_cons_zero, List.getElem?_cons_succ]; first | done | rfl
    case hya12 => exact Or.inl ⟨by rfl, by intro V hV; obtain ⟨s0, s1, s2, s3, s4, s5, s6, s7, s8, s9, s10⟩ := hV; go_simp⟩
    try simp only [Act.put, List.setIfInBounds_toArray, List.set_cons_zero, List.set_cons_succ]
    refine wpAnyH_take (i := 13) (oi := ?oa13) (v := .pointer (some ⟨G, 3, none⟩)) ?hia13 (by kernel_rfl) (by kernel_rfl) (by kernel_rfl) (fun _ _ _ h => h) ?hya13 hHeld ?resta13
    case hia13 => simp only [List.getElem?_toArray, List.getElem?_cons_zero, List.getElem?_cons_succ]; first | done | rfl
    case hya13 => exact Or.inl ⟨by rfl, by intro V hV; obtain ⟨s0, s1, s2, s3, s4, s5, s6, s7, s8, s9, s10⟩ := hV; go_simp⟩
    try simp only [Act.put, List.setIfInBounds_toArray, List.set_cons_zero, List.set_cons_succ]
    refine wpAnyH_take (i := 14) (oi := ?oa14) (v := .int .i64 (m : Int)) ?hia14 (by kernel_rfl) (by kernel_rfl) (by kernel_rfl) (fun _ _ _ h => h) ?hya14 hHeld ?resta14
    case hia14 => simp only [List.getElem?_toArray, List.getElem?_cons_zero, List.getElem?_cons_succ]; first | done | rfl
    case hya14 => exact Or.inl ⟨by rfl, by intro V hV; obtain ⟨s0, s1, s2, s3, s4, s5, s6, s7, s8, s9, s10⟩ := hV; go_simp⟩
    try simp only [Act.put, List.setIfInBounds_toArray, List.set_cons_zero, List.set_cons_succ]
    refine wpAnyH_take (i := 15) (oi := ?oa15) (v := .pointer (some ⟨J, 3, none⟩)) ?hia15 (by kernel_rfl) (by kernel_rfl) (by kernel_rfl) (fun _ _ _ h => h) ?hya15 hHeld ?resta15
    case hia15 => simp only [List.getElem?_toArray, List.getElem?_cons_zero, List.getElem?_cons_succ]; first | done | rfl
    case hya15 => exact Or.inl ⟨by rfl, by intro V hV; obtain ⟨s0, s1, s2, s3, s4, s5, s6, s7, s8, s9, s10⟩ := hV; go_simp⟩
    try simp only [Act.put, List.setIfInBounds_toArray, List.set_cons_zero, List.set_cons_succ]
    refine wpAnyH_take (i := 16) (oi := ?oa16) (v := .pointer (some ⟨J, 3, none⟩)) ?hia16 (by kernel_rfl) (by kernel_rfl) (by kernel_rfl) (fun _ _ _ h => h) ?hya16 hHeld ?resta16
    case hia16 => simp only [List.getElem?_toArray, List.getElem?_cons_zero, List.getElem?_cons_succ]; first | done | rfl
    case hya16 => exact Or.inl ⟨by rfl, by intro V hV; obtain ⟨s0, s1, s2, s3, s4, s5, s6, s7, s8, s9, s10⟩ := hV; go_simp⟩
    try simp only [Act.put, List.setIfInBounds_toArray, List.set_cons_zero, List.set_cons_succ]
    refine wpAnyH_take (i := 17) (oi := ?oa17) (v := .int .i64 (m' : Int)) ?hia17 (by kernel_rfl) (by kernel_rfl) (by kernel_rfl) (fun _ _ _ h => h) ?hya17 hHeld ?resta17
    case hia17 => simp only [List.getElem?_toArray, List.getElem?_cons_zero, List.getElem?_cons_succ]; first | done | rfl
    case hya17 => exact Or.inl ⟨by rfl, by intro V hV; obtain ⟨s0, s1, s2, s3, s4, s5, s6, s7, s8, s9, s10⟩ := hV; go_simp⟩
    try simp only [Act.put, List.setIfInBounds_toArray, List.set_cons_zero, List.set_cons_succ]
    refine wpAnyH_take (i := 19) (oi := ?oa19) (v := .pointer (some ⟨G, 3, none⟩)) ?hia19 (by kernel_rfl) (by kernel_rfl) (by kernel_rfl) (fun _ _ _ h => h) ?hya19 hHeld ?resta19
    case hia19 => simp only [List.getElem?_toArray, List.getElem?_cons_zero, List.getElem?_cons_succ]; first | done | rfl
    case hya19 => exact Or.inl ⟨by rfl, by intro V hV; obtain ⟨s0, s1, s2, s3, s4, s5, s6, s7, s8, s9, s10⟩ := hV; go_simp⟩
    try simp only [Act.put, List.setIfInBounds_toArray, List.set_cons_zero, List.set_cons_succ]
    refine wpAnyH_take (i := 20) (oi := ?oa20) (v := .pointer (some ⟨G, 4, none⟩)) ?hia20 (by kernel_rfl) (by kernel_rfl) (by kernel_rfl) (fun _ _ _ h => h) ?hya20 hHeld ?resta20
    case hia20 => simp only [List.getElem?_toArray, List.getElem?_cons_zero, List.getElem?_cons_succ]; first | done | rfl
    case hya20 => exact Or.inl ⟨by rfl, by intro V hV; obtain ⟨s0, s1, s2, s3, s4, s5, s6, s7, s8, s9, s10⟩ := hV; go_simp⟩
    try simp only [Act.put, List.setIfInBounds_toArray, List.set_cons_zero, List.set_cons_succ]
    refine wpAnyH_take (i := 21) (oi := ?oa21) (v := .int .i64 (n' : Int)) ?hia21 (by kernel_rfl) (by kernel_rfl) (by kernel_rfl) (fun _ _ _ h => h) ?hya21 hHeld ?resta21
    case hia21 => simp only [List.getElem?_toArray, List.getElem?_cons_zero, List.getElem?_cons_succ]; first | done | rfl
    case hya21 => exact Or.inl ⟨by rfl, by intro V hV; obtain ⟨s0, s1, s2, s3, s4, s5, s6, s7, s8, s9, s10⟩ := hV; go_simp⟩
    try simp only [Act.put, List.setIfInBounds_toArray, List.set_cons_zero, List.set_cons_succ]
    refine wpAnyH_take (i := 22) (oi := ?oa22) (v := .pointer (some ⟨J, 3, none⟩)) ?hia22 (by kernel_rfl) (by kernel_rfl) (by kernel_rfl) (fun _ _ _ h => h) ?hya22 hHeld ?resta22
    case hia22 => simp only [List.getElem?_toArray, List.getElem?_cons_zero, List.getElem?_cons_succ]; first | done | rfl
    case hya22 => exact Or.inl ⟨by rfl, by intro V hV; obtain ⟨s0, s1, s2, s3, s4, s5, s6, s7, s8, s9, s10⟩ := hV; go_simp⟩
    try simp only [Act.put, List.setIfInBounds_toArray, List.set_cons_zero, List.set_cons_succ]
    refine wpAnyH_take (i := 23) (oi := ?oa23) (v := .pointer (some ⟨J, 4, none⟩)) ?hia23 (by kernel_rfl) (by kernel_rfl) (by kernel_rfl) (fun _ _ _ h => h) ?hya23 hHeld ?resta23
    case hia23 => simp only [List.getElem?_toArray, List.getElem?_cons_zero, List.getElem?_cons_succ]; first | done | rfl
    case hya23 => exact Or.inl ⟨by rfl, by intro V hV; obtain ⟨s0, s1, s2, s3, s4, s5, s6, s7, s8, s9, s10⟩ := hV; go_simp⟩
    try simp only [Act.put, List.setIfInBounds_toArray, List.set_cons_zero, List.set_cons_succ]
    refine wpAnyH_take (i := 24) (oi := ?oa24) (v := .int .i64 (o' : Int)) ?hia24 (by kernel_rfl) (by kernel_rfl) (by kernel_rfl) (fun _ _ _ h => h) ?hya24 hHeld ?resta24
    case hia24 => simp only [List.getElem?_toArray, List.getElem?_cons_zero, List.getElem?_cons_succ]; first | done | rfl
    case hya24 => exact Or.inl ⟨by rfl, by intro V hV; obtain ⟨s0, s1, s2, s3, s4, s5, s6, s7, s8, s9, s10⟩ := hV; go_simp⟩
    try simp only [Act.put, List.setIfInBounds_toArray, List.set_cons_zero, List.set_cons_succ]
    refine wpAnyH_take (i := 27) (oi := ?oa27) (v := .pointer (some ⟨G, 2, none⟩)) ?hia27 (by kernel_rfl) (by kernel_rfl) (by kernel_rfl) (fun _ _ _ h => h) ?hya27 hHeld ?resta27
    case hia27 => simp only [List.getElem?_toArray, List.getElem?_cons_zero, List.getElem?_cons_succ]; first | done | rfl
    case hya27 => exact Or.inl ⟨by rfl, by intro V hV; obtain ⟨s0, s1, s2, s3, s4, s5, s6, s7, s8, s9, s10⟩ := hV; go_simp⟩
    try simp only [Act.put, List.setIfInBounds_toArray, List.set_cons_zero, List.set_cons_succ]
    refine wpAnyH_take (i := 28) (oi := ?oa28) (v := .int .i64 sk) ?hia28 (by kernel_rfl) (by kernel_rfl) (by kernel_rfl) (fun _ _ _ h => h) ?hya28 hHeld ?resta28
    case hia28 => simp only [List.getElem?_toArray, List.getElem?_cons_zero, List.getElem?_cons_succ]; first | done | rfl
    case hya28 => exact Or.inl ⟨by rfl, by intro V hV; obtain ⟨s0, s1, s2, s3, s4, s5, s6, s7, s8, s9, s10⟩ := hV; go_simp⟩
    try simp only [Act.put, List.setIfInBounds_toArray, List.set_cons_zero, List.set_cons_succ]
    refine wpAnyH_ready (rs := [18]) (by kernel_rfl) (by simp) ?_
    refine AllReadyH.cons (o := ?ob18) ?hib18 (fun K hK => ?stepb18) AllReadyH.nil
    case hib18 => simp only [List.getElem?_toArray, List.getElem?_cons_zero, List.getElem?_cons_succ]; first | done | rfl
    go_simp
    go_at_call 60
    with_reducible refine (HFA.out _).mono ?_
    rintro e w' ⟨rfl, hw⟩; subst w'
    go_wp2_with fail
    refine hK.out _ _ hHeld (fun hHeld1 => ?_)
    clear hK K
    try simp only [Act.put, List.setIfInBounds_toArray, List.set_cons_zero, List.set_cons_succ]
    refine wpAnyH_ready (rs := [25]) (by kernel_rfl) (by simp) ?_
    refine AllReadyH.cons (o := ?ob25) ?hib25 (fun K hK => ?stepb25) AllReadyH.nil
    case hib25 => simp only [List.getElem?_toArray, List.getElem?_cons_zero, List.getElem?_cons_succ]; first | done | rfl
    go_simp
    go_at_call 60
    with_reducible refine (HFB.out _).mono ?_
    rintro e w' ⟨rfl, hw⟩; subst w'
    go_wp2_with fail
    refine hK.out _ _ hHeld1 (fun hHeld2 => ?_)
    clear hK K
    try simp only [Act.put, List.setIfInBounds_toArray, List.set_cons_zero, List.set_cons_succ]
    refine wpAnyH_take (i := 26) (oi := ?ob26) (v := .int .i64 K) ?hib26 (by kernel_rfl) (by kernel_rfl) (by kernel_rfl) (fun _ _ _ h => h) ?hyb26 hHeld2 ?restb26
    case hib26 => simp only [List.getElem?_toArray, List.getElem?_cons_zero, List.getElem?_cons_succ]; first | done | rfl
    case hyb26 => exact Or.inl ⟨by rfl, by intro V hV; obtain ⟨s0, s1, s2, s3, s4, s5, s6, s7, s8, s9, s10⟩ := hV; go_simp⟩
    try simp only [Act.put, List.setIfInBounds_toArray, List.set_cons_zero, List.set_cons_succ]
    refine wpAnyH_ready (rs := [29]) (by kernel_rfl) (by simp) ?_
    refine AllReadyH.cons (o := ?ob29) ?hib29 (fun K hK => ?stepb29) AllReadyH.nil
    case hib29 => simp only [List.getElem?_toArray, List.getElem?_cons_zero, List.getElem?_cons_succ]; first | done | rfl
    go_simp
    go_at_call 42
    with_reducible refine (HKF.out _).mono ?_
    rintro e wk ⟨rfl, hbk⟩
    go_wp2_with fail
    refine hK.out _ _ (k10_call hHeld2 hbk) (fun hHeld3 => ?_)
    clear hK K
    try simp only [Act.put, List.setIfInBounds_toArray, List.set_cons_zero, List.set_cons_succ]
    refine wpAnyH_take (i := 30) (oi := ?ob30) (v := .int .i64 R) ?hib30 (by kernel_rfl) (by kernel_rfl) (by kernel_rfl) (fun _ _ _ h => h) ?hyb30 hHeld3 ?restb30
    case hib30 => simp only [List.getElem?_toArray, List.getElem?_cons_zero, List.getElem?_cons_succ]; first | done | rfl
    case hyb30 => exact Or.inl ⟨by rfl, by intro V hV; obtain ⟨s0, s1, s2, s3, s4, s5, s6, s7, s8, s9, s10⟩ := hV; go_simp⟩
    try simp only [Act.put, List.setIfInBounds_toArray, List.set_cons_zero, List.set_cons_succ]
    refine wpAnyH_take (i := 31) (oi := ?ob31) (v := .bool false) ?hib31 (by kernel_rfl) (by kernel_rfl) (by kernel_rfl) (fun _ _ _ h => h) ?hyb31 hHeld3 ?restb31
    case hib31 => simp only [List.getElem?_toArray, List.getElem?_cons_zero, List.getElem?_cons_succ]; first | done | rfl
    case hyb31 => exact Or.inl ⟨by rfl, by intro V hV; obtain ⟨s0, s1, s2, s3, s4, s5, s6, s7, s8, s9, s10⟩ := hV; go_simp⟩
    try simp only [Act.put, List.setIfInBounds_toArray, List.set_cons_zero, List.set_cons_succ]
    refine wpAnyH_take (i := 32) (oi := ?ob32) (v := .bool false) ?hib32 (by kernel_rfl) (by kernel_rfl) (by kernel_rfl) (fun _ _ _ h => h) ?hyb32 hHeld3 ?restb32
    case hib32 => simp only [List.getElem?_toArray, List.getElem?_cons_zero, List.getElem?_cons_succ]; first | done | rfl
    case hyb32 => exact Or.inl ⟨by rfl, by intro V hV; obtain ⟨s0, s1, s2, s3, s4, s5, s6, s7, s8, s9, s10⟩ := hV; go_simp⟩
    try simp only [Act.put, List.setIfInBounds_toArray, List.set_cons_zero, List.set_cons_succ]
    refine wpAnyH_take (i := 33) (oi := ?ob33) (v := .bool false) ?hib33 (by kernel_rfl) (by kernel_rfl) (by kernel_rfl) (fun _ _ _ h => h) ?hyb33 hHeld3 ?restb33
    case hib33 => simp only [List.getElem?_toArray, List.getElem?_cons_zero, List.getElem?_cons_succ]; first | done | rfl
    case hyb33 => exact Or.inl ⟨by rfl, by intro V hV; obtain ⟨s0, s1, s2, s3, s4, s5, s6, s7, s8, s9, s10⟩ := hV; go_simp⟩
    try simp only [Act.put, List.setIfInBounds_toArray, List.set_cons_zero, List.set_cons_succ]
    refine wpAnyH_take (i := 34) (oi := ?ob34) (v := undef) ?hib34 (by kernel_rfl) (by kernel_rfl) (by kernel_rfl) (fun _ _ _ h => h) ?hyb34 hHeld3 ?restb34
    case hib34 => simp only [List.getElem?_toArray, List.getElem?_cons_zero, List.getElem?_cons_succ]; first | done | rfl
    case hyb34 => exact Or.inr ⟨by rfl, rfl⟩
    try simp only [Act.put, List.setIfInBounds_toArray, List.set_cons_zero, List.set_cons_succ]
    refine wpAnyH_take (i := 35) (oi := ?ob35) (v := undef) ?hib35 (by kernel_rfl) (by kernel_rfl) (by kernel_rfl) (fun _ _ _ h => h) ?hyb35 hHeld3 ?restb35
    case hib35 => simp only [List.getElem?_toArray, List.getElem?_cons_zero, List.getElem?_cons_succ]; first | done | rfl
    case hyb35 => exact Or.inr ⟨by rfl, rfl⟩
    try simp only [Act.put, List.setIfInBounds_toArray, List.set_cons_zero, List.set_cons_succ]
    refine wpAnyH_take (i := 36) (oi := ?ob36) (v := undef) ?hib36 (by kernel_rfl) (by kernel_rfl) (by kernel_rfl) (fun _ _ _ h => h) ?hyb36 hHeld3 ?restb36
    case hib36 => simp only [List.getElem?_toArray, List.getElem?_cons_zero, List.getElem?_cons_succ]; first | done | rfl
    case hyb36 => exact Or.inr ⟨by rfl, rfl⟩
    try simp only [Act.put, List.setIfInBounds_toArray, List.set_cons_zero, List.set_cons_succ]
    refine wpAnyH_take (i := 37) (oi := ?ob37) (v := undef) ?hib37 (by kernel_rfl) (by kernel_rfl) (by kernel_rfl) (fun _ _ _ h => h) ?hyb37 hHeld3 ?restb37
    case hib37 => simp only [List.getElem?_toArray, List.getElem?_cons_zero, List.getElem?_cons_succ]; first | done | rfl
    case hyb37 => exact Or.inr ⟨by rfl, rfl⟩
    try simp only [Act.put, List.setIfInBounds_toArray, List.set_cons_zero, List.set_cons_succ]
    refine wpAnyH_take (i := 38) (oi := ?ob38) (v := undef) ?hib38 (by kernel_rfl) (by kernel_rfl) (by kernel_rfl) (fun _ _ _ h => h) ?hyb38 hHeld3 ?restb38
    case hib38 => simp only [List.getElem?_toArray, List.getElem?_cons_zero, List.getElem?_cons_succ]; first | done | rfl
    case hyb38 => exact Or.inr ⟨by rfl, rfl⟩
    try simp only [Act.put, List.setIfInBounds_toArray, List.set_cons_zero, List.set_cons_succ]
    refine wpAnyH_take (i := 39) (oi := ?ob39) (v := undef) ?hib39 (by kernel_rfl) (by kernel_rfl) (by kernel_rfl) (fun _ _ _ h => h) ?hyb39 hHeld3 ?restb39
    case hib39 => simp only [List.getElem?_toArray, List.getElem?_cons_zero, List.getElem?_cons_succ]; first | done | rfl
    case hyb39 => exact Or.inr ⟨by rfl, rfl⟩
    try simp only [Act.put, List.setIfInBounds_toArray, List.set_cons_zero, List.set_cons_succ]
    refine wpAnyH_take (i := 40) (oi := ?ob40) (v := undef) ?hib40 (by kernel_rfl) (by kernel_rfl) (by kernel_rfl) (fun _ _ _ h => h) ?hyb40 hHeld3 ?restb40
    case hib40 => simp only [List.getElem?_toArray, List.getElem?_cons_zero, List.getElem?_cons_succ]; first | done | rfl
    case hyb40 => exact Or.inr ⟨by rfl, rfl⟩
    try simp only [Act.put, List.setIfInBounds_toArray, List.set_cons_zero, List.set_cons_succ]
    refine wpAnyH_take (i := 41) (oi := ?ob41) (v := .bool false) ?hib41 (by kernel_rfl) (by kernel_rfl) (by kernel_rfl) (fun _ _ _ h => h) ?hyb41 hHeld3 ?restb41
    case hib41 => simp only [List.getElem?_toArray, List.getElem?_cons_zero, List.getElem?_cons_succ]; first | done | rfl
    case hyb41 => exact Or.inl ⟨by rfl, by intro V hV; obtain ⟨s0, s1, s2, s3, s4, s5, s6, s7, s8, s9, s10⟩ := hV; go_simp⟩
    try simp only [Act.put, List.setIfInBounds_toArray, List.set_cons_zero, List.set_cons_succ]
    refine wpAnyH_take (i := 42) (oi := ?ob42) (v := .bool false) ?hib42 (by kernel_rfl) (by kernel_rfl) (by kernel_rfl) (fun _ _ _ h => h) ?hyb42 hHeld3 ?restb42
    case hib42 => simp only [List.getElem?_toArray, List.getElem?_cons_zero, List.getElem?_cons_succ]; first | done | rfl
    case hyb42 => exact Or.inl ⟨by rfl, by intro V hV; obtain ⟨s0, s1, s2, s3, s4, s5, s6, s7, s8, s9, s10⟩ := hV; go_simp⟩
    try simp only [Act.put, List.setIfInBounds_toArray, List.set_cons_zero, List.set_cons_succ]
    refine wpAnyH_done (by kernel_rfl) ?_ _
    refine NoPanic.normal ?_
    go_wp2_with fail
    go_ret
    exact ⟨rfl, below_call HBW.out HBW.out.size (And.left hHeld3)⟩
  have dk : decide (K ≤ R) = true := by simp; omega
  have HSE2 : Hid (se W l (m : Int) n' m' o' = b) := (HSE (by omega)).symm
  clear hfar HSE
  go_wp2_with fail
  clear hw4 hJ
  go_region_held3 (fun V => Below w4.heap.size w4 V ∧ V.cell? ⟨F, 0, none⟩ = some (.int .i64 (W : Int)) ∧ V.cell? ⟨F, 1, none⟩ = some (.int .i64 (H : Int)) ∧ V.cell? ⟨F, 2, none⟩ = some (.slice (some a) (W * H) c) ∧ V.cell? ⟨G, 1, none⟩ = some (.int .i64 so) ∧ V.cell? ⟨G, 2, none⟩ = some (.int .i64 sk) ∧ V.cell? ⟨G, 3, none⟩ = some (.int .i64 (m : Int)) ∧ V.cell? ⟨G, 4, none⟩ = some (.int .i64 (n' : Int)) ∧ V.cell? ⟨J, 1, none⟩ = some (.int .i64 to_) ∧ V.cell? ⟨J, 3, none⟩ = some (.int .i64 (m' : Int)) ∧ V.cell? ⟨J, 4, none⟩ = some (.int .i64 (o' : Int)))
    (first | with_reducible assumption | with_reducible exact k10_drew (by assumption) | with_reducible exact k10_call (by assumption) (by assumption) | exact ⟨Below.drew (Below.refl _ _), z0, z1, z2, p1, p2, p3, p4, q1, q3, q4⟩) (first
      | (go_at_call 60; with_reducible refine (HFA.out _).mono ?_; rintro e w' ⟨rfl, hw⟩; subst w')
      | (go_at_call 60; with_reducible refine (HFB.out _).mono ?_; rintro e w' ⟨rfl, hw⟩; subst w')
      | (go_at_call 42; with_reducible refine (HKF.out _).mono ?_; rintro e w5 ⟨rfl, hb5⟩)
      | (go_at_call 61; with_reducible refine (HLO.out _ b (And.left (by assumption)) HSE2.out).mono ?_; rintro e w6 ⟨rfl, hb6⟩))
  all_goals
    have hbw : Below w4.heap.size w4 w6 := by
      first
        | exact (And.left (by assumption))
        | exact below_call (And.left (by assumption)) (And.left (by assumption)).size hb6
    go_wp2_with fail
    go_ret
    exact ⟨rfl, below_call HBW.out HBW.out.size hbw⟩
end Go.Proofs.Ytjbfnibhmojlfaa
