/- What order.Read returns. -/
import Derived.Test.YtgebfpncapfaoaaOr2
import Derived.Deep.RegionHeld3
import Derived.Deep.DrawnRows
namespace Go.Proofs.Ytgebfpncapfaoaa
open Go.RowKit
set_option linter.unusedVariables false
attribute [local go_sem ↓] Go.wp_at_zero Go.wp_at_succ

theorem fl_put (o : Ord) : ∀ (Q : List Ord) (k : Nat), fl to6 (Q.set k o) = ((((((fl to6 Q).set (k * 6) (.int .i64 o.b)).set (k * 6 + 1) (.int .i64 o.k)).set (k * 6 + 2) (.int .i64 o.w)).set (k * 6 + 3) (.int .i64 o.x)).set (k * 6 + 4) (.int .i64 o.y)).set (k * 6 + 5) (.int .i64 o.a)
  | [], k => by simp [fl]
  | s :: Q, 0 => by simp [fl_cons, to6]
  | s :: Q, k + 1 => by
    have e : (k + 1) * 6 = k * 6 + 6 := by omega
    rw [List.set_cons_succ, fl_cons, fl_cons, fl_put o Q k, e]
    simp [to6, Nat.add_assoc, List.set_cons_succ]
/-- An order is laid into a row of one's own. -/
theorem put6 {B : Nat} {w : World} {g n cap k : Nat} {Q : List Ord} (h : minef 25 6 to6 B w (.slice (some ⟨g, 0, none⟩) n cap) Q) (hn : Q.length = n) (o : Ord) :
    minef 25 6 to6 B ((((((w.setCell ⟨g, k * 6, none⟩ (.int .i64 o.b)).setCell ⟨g, k * 6 + 1, none⟩ (.int .i64 o.k)).setCell ⟨g, k * 6 + 2, none⟩ (.int .i64 o.w)).setCell ⟨g, k * 6 + 3, none⟩ (.int .i64 o.x)).setCell ⟨g, k * 6 + 4, none⟩ (.int .i64 o.y)).setCell ⟨g, k * 6 + 5, none⟩ (.int .i64 o.a)) (.slice (some ⟨g, 0, none⟩) n cap) (Q.set k o)
    ∧ w.grownBy ((((((w.setCell ⟨g, k * 6, none⟩ (.int .i64 o.b)).setCell ⟨g, k * 6 + 1, none⟩ (.int .i64 o.k)).setCell ⟨g, k * 6 + 2, none⟩ (.int .i64 o.w)).setCell ⟨g, k * 6 + 3, none⟩ (.int .i64 o.x)).setCell ⟨g, k * 6 + 4, none⟩ (.int .i64 o.y)).setCell ⟨g, k * 6 + 5, none⟩ (.int .i64 o.a)) (some g) := by
  unfold minef at h ⊢
  rw [List.length_set, fl_put]
  rw [hn] at h ⊢
  obtain ⟨h1, g1⟩ := World.ownsRow.stored h (k * 6) (.int .i64 o.b)
  obtain ⟨h2, g2⟩ := World.ownsRow.stored h1 (k * 6 + 1) (.int .i64 o.k)
  obtain ⟨h3, g3⟩ := World.ownsRow.stored h2 (k * 6 + 2) (.int .i64 o.w)
  obtain ⟨h4, g4⟩ := World.ownsRow.stored h3 (k * 6 + 3) (.int .i64 o.x)
  obtain ⟨h5, g5⟩ := World.ownsRow.stored h4 (k * 6 + 4) (.int .i64 o.y)
  obtain ⟨h6, g6⟩ := World.ownsRow.stored h5 (k * 6 + 5) (.int .i64 o.a)
  exact ⟨h6, g1.trans (g2.trans (g3.trans (g4.trans (g5.trans g6))))⟩
theorem made6 (m : Nat) : (madeCells #[.int .i64 0, .int .i64 0, .int .i64 0, .int .i64 0, .int .i64 0, .int .i64 0] (m * 6)).toList = fl to6 (List.replicate m zo) := by
  have h1 : (madeCells #[.int .i64 0, .int .i64 0, .int .i64 0, .int .i64 0, .int .i64 0, .int .i64 0] (m * 6)).toList = List.replicate (m * 6) (.int .i64 0) := by
    rw [List.eq_replicate_iff]
    refine ⟨by simp [madeCells], fun u hu => ?_⟩
    unfold madeCells at hu
    rw [Array.toList_map] at hu
    obtain ⟨i, _, rfl⟩ := List.mem_map.1 hu
    have h6 : i % 6 < 6 := Nat.mod_lt _ (by decide)
    show (#[Value.int .i64 0, .int .i64 0, .int .i64 0, .int .i64 0, .int .i64 0, .int .i64 0])[i % 6]! = _
    have : i % 6 = 0 ∨ i % 6 = 1 ∨ i % 6 = 2 ∨ i % 6 = 3 ∨ i % 6 = 4 ∨ i % 6 = 5 := by omega
    rcases this with e | e | e | e | e | e <;> rw [e] <;> rfl
  rw [h1]
  symm
  rw [List.eq_replicate_iff]
  refine ⟨by rw [fl_len flt6, List.length_replicate], fun u hu => ?_⟩
  unfold fl at hu
  obtain ⟨o, ho, hu⟩ := List.mem_flatMap.1 hu
  rw [(List.mem_replicate.1 ho).2] at hu
  simp [to6, zo] at hu
  exact hu
theorem ret_vi {v : Value} {c c' : Int} (h : c = c') : Ending.returned (.tuple #[v, .int .i64 c]) = .returned (.tuple #[v, .int .i64 c']) := by rw [h]
/-- What a round of Read keeps. -/
def rinv (w : World) (g m : Nat) (l : List Ord) (p : Option Addr) (q : List Int) (k : Nat) (wr : World) : Prop :=
  Below w.heap.size w wr ∧ w.heap.size ≤ g ∧ minef 25 6 to6 w.heap.size wr (.slice (some ⟨g, 0, none⟩) m m) (fill l k) ∧ row vi wr p q ∧ (q ≠ [] → ∀ a, p = some a → a.block < g)
theorem row_lt {w : World} {p : Option Addr} {q : List Int} (h : row vi w p q) (h0 : 0 < q.length) : ∀ a, p = some a → a.block < w.heap.size := by
  intro a ha
  obtain ⟨b, hb, hc⟩ := row_at h h0
  rw [ha] at hb
  cases hb
  exact (add_block a 0).symm ▸ cell_lt hc
theorem rinv_drew {w V : World} {g m k : Nat} {l : List Ord} {p : Option Addr} {q : List Int} (h : rinv w g m l p q k V) : rinv w g m l p q k V.drew := ⟨h.1.drew, h.2.1, h.2.2.1, h.2.2.2.1, h.2.2.2.2⟩
theorem rinv_next {w wr : World} {g m k : Nat} {l : List Ord} {p : Option Addr} {q : List Int} {o : Ord} (h : rinv w g m l p q k wr) (hm : l.length = m) (hk : k < m) (ho : l[k]? = some o) :
    rinv w g m l p q (k + 1) (World.drew ((((((wr.setCell ⟨g, k * 6, none⟩ (.int .i64 o.b)).setCell ⟨g, k * 6 + 1, none⟩ (.int .i64 o.k)).setCell ⟨g, k * 6 + 2, none⟩ (.int .i64 o.w)).setCell ⟨g, k * 6 + 3, none⟩ (.int .i64 o.x)).setCell ⟨g, k * 6 + 4, none⟩ (.int .i64 o.y)).setCell ⟨g, k * 6 + 5, none⟩ (.int .i64 o.a))) := by
  obtain ⟨h1, h2, h3, h4, h5⟩ := h
  have hfl : (fill l k).length = m := by rw [fill_length _ _ (by omega)]; exact hm
  obtain ⟨p1, p2⟩ := put6 (k := k) h3 hfl o
  have ho2 : l[k]'(by omega) = o := by have := List.getElem?_eq_getElem (l := l) (i := k) (by omega); rw [this] at ho; exact Option.some.inj ho
  have hset : (fill l k).set k o = fill l (k + 1) := by rw [← fill_next l k (by omega), ho2]
  rw [hset] at p1
  refine rinv_drew ⟨h1.grown p2 h1.size (fun j hj => by simp at hj; omega), h2, p1, ?_, h5⟩
  intro j x hj
  obtain ⟨a, ha, hc⟩ := h4 j x hj
  refine ⟨a, ha, ?_⟩
  have hlt := h5 (fun e => by rw [e] at hj; simp at hj) a ha
  have hb : (a.add j).block < g := by rw [add_block]; exact hlt
  have ne : ∀ i, ¬ (⟨g, i, none⟩ : Addr) = a.add j := fun i e => by rw [← e] at hb; exact Nat.lt_irrefl _ hb
  rw [World.cell?_setCell_other (h := ne _), World.cell?_setCell_other (h := ne _), World.cell?_setCell_other (h := ne _), World.cell?_setCell_other (h := ne _), World.cell?_setCell_other (h := ne _), World.cell?_setCell_other (h := ne _)]
  exact hc
theorem drew_cell (w : World) (B : Addr) : (World.drew w).cell? B = w.cell? B := rfl
/-- A store far off leaves six cells as they were. -/
theorem six_far {wr : World} {G k : Nat} {A : Addr} {ob ok ow ox oy oa : Int} (hAG : ¬ A.block = G) (y0 : wr.cell? A = some (.int .i64 ob)) (y1 : wr.cell? ⟨A.block, A.off + 1, none⟩ = some (.int .i64 ok)) (y2 : wr.cell? ⟨A.block, A.off + 2, none⟩ = some (.int .i64 ow)) (y3 : wr.cell? ⟨A.block, A.off + 3, none⟩ = some (.int .i64 ox)) (y4 : wr.cell? ⟨A.block, A.off + 4, none⟩ = some (.int .i64 oy)) (y5 : wr.cell? ⟨A.block, A.off + 5, none⟩ = some (.int .i64 oa)) :
    (World.drew ((((((wr.setCell ⟨G, k * 6, none⟩ (.int .i64 ob)).setCell ⟨G, k * 6 + 1, none⟩ (.int .i64 ok)).setCell ⟨G, k * 6 + 2, none⟩ (.int .i64 ow)).setCell ⟨G, k * 6 + 3, none⟩ (.int .i64 ox)).setCell ⟨G, k * 6 + 4, none⟩ (.int .i64 oy)).setCell ⟨G, k * 6 + 5, none⟩ (.int .i64 oa))).cell? A = some (.int .i64 ob) ∧ (World.drew ((((((wr.setCell ⟨G, k * 6, none⟩ (.int .i64 ob)).setCell ⟨G, k * 6 + 1, none⟩ (.int .i64 ok)).setCell ⟨G, k * 6 + 2, none⟩ (.int .i64 ow)).setCell ⟨G, k * 6 + 3, none⟩ (.int .i64 ox)).setCell ⟨G, k * 6 + 4, none⟩ (.int .i64 oy)).setCell ⟨G, k * 6 + 5, none⟩ (.int .i64 oa))).cell? ⟨A.block, A.off + 1, none⟩ = some (.int .i64 ok) ∧ (World.drew ((((((wr.setCell ⟨G, k * 6, none⟩ (.int .i64 ob)).setCell ⟨G, k * 6 + 1, none⟩ (.int .i64 ok)).setCell ⟨G, k * 6 + 2, none⟩ (.int .i64 ow)).setCell ⟨G, k * 6 + 3, none⟩ (.int .i64 ox)).setCell ⟨G, k * 6 + 4, none⟩ (.int .i64 oy)).setCell ⟨G, k * 6 + 5, none⟩ (.int .i64 oa))).cell? ⟨A.block, A.off + 2, none⟩ = some (.int .i64 ow) ∧ (World.drew ((((((wr.setCell ⟨G, k * 6, none⟩ (.int .i64 ob)).setCell ⟨G, k * 6 + 1, none⟩ (.int .i64 ok)).setCell ⟨G, k * 6 + 2, none⟩ (.int .i64 ow)).setCell ⟨G, k * 6 + 3, none⟩ (.int .i64 ox)).setCell ⟨G, k * 6 + 4, none⟩ (.int .i64 oy)).setCell ⟨G, k * 6 + 5, none⟩ (.int .i64 oa))).cell? ⟨A.block, A.off + 3, none⟩ = some (.int .i64 ox) ∧ (World.drew ((((((wr.setCell ⟨G, k * 6, none⟩ (.int .i64 ob)).setCell ⟨G, k * 6 + 1, none⟩ (.int .i64 ok)).setCell ⟨G, k * 6 + 2, none⟩ (.int .i64 ow)).setCell ⟨G, k * 6 + 3, none⟩ (.int .i64 ox)).setCell ⟨G, k * 6 + 4, none⟩ (.int .i64 oy)).setCell ⟨G, k * 6 + 5, none⟩ (.int .i64 oa))).cell? ⟨A.block, A.off + 4, none⟩ = some (.int .i64 oy) ∧ (World.drew ((((((wr.setCell ⟨G, k * 6, none⟩ (.int .i64 ob)).setCell ⟨G, k * 6 + 1, none⟩ (.int .i64 ok)).setCell ⟨G, k * 6 + 2, none⟩ (.int .i64 ow)).setCell ⟨G, k * 6 + 3, none⟩ (.int .i64 ox)).setCell ⟨G, k * 6 + 4, none⟩ (.int .i64 oy)).setCell ⟨G, k * 6 + 5, none⟩ (.int .i64 oa))).cell? ⟨A.block, A.off + 5, none⟩ = some (.int .i64 oa) := by
  have ne : ∀ (B : Addr) i, B.block = A.block → ¬ (⟨G, i, none⟩ : Addr) = B := fun B i hB e => by rw [← e] at hB; exact hAG hB.symm
  have one : ∀ (B : Addr) v, B.block = A.block → wr.cell? B = some v → (World.drew ((((((wr.setCell ⟨G, k * 6, none⟩ (.int .i64 ob)).setCell ⟨G, k * 6 + 1, none⟩ (.int .i64 ok)).setCell ⟨G, k * 6 + 2, none⟩ (.int .i64 ow)).setCell ⟨G, k * 6 + 3, none⟩ (.int .i64 ox)).setCell ⟨G, k * 6 + 4, none⟩ (.int .i64 oy)).setCell ⟨G, k * 6 + 5, none⟩ (.int .i64 oa))).cell? B = some v := fun B v hB h => by
    rw [drew_cell, World.cell?_setCell_other (h := ne _ _ hB), World.cell?_setCell_other (h := ne _ _ hB), World.cell?_setCell_other (h := ne _ _ hB), World.cell?_setCell_other (h := ne _ _ hB), World.cell?_setCell_other (h := ne _ _ hB), World.cell?_setCell_other (h := ne _ _ hB)]
    exact h
  exact ⟨one _ _ rfl y0, one _ _ rfl y1, one _ _ rfl y2, one _ _ rfl y3, one _ _ rfl y4, one _ _ rfl y5⟩
set_option maxRecDepth 20000 in
set_option maxHeartbeats 4000000 in
theorem Read_any (s : ByteArray) (w : World) (hs : s.size ≤ 140737488351236) :
    Calls Try.prog 11 #[.string s] w fun e w' => (∃ v, e = .returned (.tuple #[v, .int .i64 (rd s).2]) ∧ minef 25 6 to6 w.heap.size w' v (rd s).1) ∧ Below w.heap.size w w' := by
  by_cases h4 : s.size < 4
  · have HR : Hid (rd s = ([], 3)) := by unfold Hid rd; rw [if_pos h4]
    have HO : Hid (∀ V, Calls Try.prog 40 #[.string s] V fun e w' => e = .returned (.tuple #[.string ⟨#[]⟩, .int .i64 3]) ∧ Below V.heap.size V w') := fun V => cr.Open_short s V h4
    rw [HR.out]
    clear h4 hs HR
    dsimp only
    go_enter Try.func11, Try.ntmps11
    go_wp2_with fail
    refine (HO.out _).mono ?_
    rintro e w1 ⟨rfl, hb1⟩
    go_wp2_with fail
    go_ret2
    exact ⟨⟨_, rfl, minef_nil _ _ _ _ _⟩, hb1⟩
  by_cases ht : cr.tl (cr.body s) = cr.foot s
  · have hbs : (cr.body s).size ≤ 9223372036854775806 := Nat.le_trans (cr.body_le s) (by omega)
    have HR : Hid (rd s = rdn (pk.ga (pk.bs (cr.body s)))) := by unfold Hid rd; rw [if_neg h4, if_pos ht]
    have HO : Hid (∀ V, Calls Try.prog 40 #[.string s] V fun e w' => e = .returned (.tuple #[.string (cr.body s), .int .i64 0]) ∧ Below V.heap.size V w') := fun V => cr.Open_yes s V (by unfold maxLen; omega) (by omega) ht
    have HG : Hid (∀ V, Calls Try.prog 41 #[.string (cr.body s)] V fun e w' => ∃ v, e = .returned (.tuple #[v, .int .i64 (pk.ga (pk.bs (cr.body s))).2]) ∧ mine 3 vi V.heap.size w' v (pk.ga (pk.bs (cr.body s))).1 ∧ Below V.heap.size V w') := fun V => pk.GetAll_any _ V (by omega)
    have HL := pk.ga_len (pk.bs (cr.body s))
    rw [HR.out]
    obtain ⟨R, hR⟩ : ∃ R, pk.ga (pk.bs (cr.body s)) = R := ⟨_, rfl⟩
    rw [hR] at HL ⊢
    simp only [hR] at HG
    obtain ⟨b, hb⟩ : ∃ b, cr.body s = b := ⟨_, rfl⟩
    simp only [hb] at HG HO
    clear h4 hs HR ht hR hb hbs
    obtain ⟨q, E⟩ := R
    dsimp only at HL HG
    by_cases hE : E = 0
    · subst hE
      obtain ⟨n, hn⟩ : ∃ n, q.length = n := ⟨_, rfl⟩
      rw [hn] at HL
      have HN : Hid (q.length = n) := hn
      by_cases h6 : n % 6 = 0
      · have HR2 : Hid (rdn (q, 0) = if oes (sixes q) = 0 then (sixes q, 0) else ([], oes (sixes q))) := by unfold Hid rdn; simp only [if_true]; rw [if_pos (by rw [hn]; exact h6)]
        have HSL : Hid ((sixes q).length = n / 6) := by unfold Hid; rw [sixes_len, hn]
        have HSA : Hid (∀ (i : Nat), i < (sixes q).length → ∃ o, (sixes q)[i]? = some o ∧ q[6 * i]? = some o.b ∧ q[6 * i + 1]? = some o.k ∧ q[6 * i + 2]? = some o.w ∧ q[6 * i + 3]? = some o.x ∧ q[6 * i + 4]? = some o.y ∧ q[6 * i + 5]? = some o.a) := sixes_get q
        rw [HR2.out]
        obtain ⟨l, hl⟩ : ∃ l, sixes q = l := ⟨_, rfl⟩
        simp only [hl] at HSL HSA ⊢
        have HC : Hid (∀ V p c, rowf to6 V p l → Calls Try.prog 34 #[.slice p (n / 6) c] V fun e w' => e = .returned (.int .i64 (oes l)) ∧ Below V.heap.size V w') := fun V p c h => checkAll_any p (n / 6) c l V h HSL.out (by omega)
        have HRS : Hid ((oes l = 0 → (if oes l = 0 then (l, (0 : Int)) else ([], oes l)) = (l, 0)) ∧ (¬ oes l = 0 → (if oes l = 0 then (l, (0 : Int)) else ([], oes l)) = ([], oes l))) := ⟨fun h => if_pos h, fun h => if_neg h⟩
        obtain ⟨R, hR⟩ : ∃ R, (if oes l = 0 then (l, (0 : Int)) else ([], oes l)) = R := ⟨_, rfl⟩
        rw [hR] at HRS ⊢
        obtain ⟨E, hE⟩ : ∃ E, oes l = E := ⟨_, rfl⟩
        simp only [hE] at HRS HC
        clear hR hE
        obtain ⟨R1, R2⟩ := R
        dsimp only
        have hi6 := info_parts k6.hi
        obtain ⟨i0, hi, hz0, hz1, hz2⟩ := hi6
        have HI : Hid (Try.prog.info? 25 = some i0 ∧ i0.zero = some (.agg #[.int .i64 0, .int .i64 0, .int .i64 0, .int .i64 0, .int .i64 0, .int .i64 0]) ∧ i0.size = 6 ∧ i0.bytes = 48) := ⟨hi, hz0, hz1, hz2⟩
        have d1 : (n : Int) % 6 = 0 := by omega
        have d2 : (n : Int).tmod 6 = 0 := by rw [Int.tmod_eq_emod_of_nonneg (by omega)]; exact d1
        have d3 : (n : Int).tdiv 6 = ((n / 6 : Nat) : Int) := by rw [Int.tdiv_eq_ediv_of_nonneg (by omega)]; omega
        have d4 : IntKind.i64.wrap ((n / 6 : Nat) : Int) = ((n / 6 : Nat) : Int) := by rw [IntKind.wrap_i64]; omega
        have d5 : (n : Int) / 6 = ((n / 6 : Nat) : Int) := by omega
        obtain ⟨m, hm⟩ : ∃ m, n / 6 = m := ⟨_, rfl⟩
        have HM : Hid (n = 6 * m) := by show n = 6 * m; omega
        rw [hm] at HSL HC d3 d4 d5
        have hm1 : m ≤ 166 := by omega
        clear hi hz0 hz1 hz2 HR2 hl hn h6 hm
        go_enter Try.func11, Try.ntmps11
        go_wp2_with fail
        refine (HO.out _).mono ?_
        rintro e w1 ⟨rfl, hb1⟩
        have HB1 : Hid (Below w.heap.size w w1) := hb1
        clear hb1 HO
        go_wp2_with fail
        refine (HG.out _).mono ?_
        rintro e w2 ⟨v, rfl, hv, hb2⟩
        have HB2 : Hid (Below w.heap.size w w2) := below_step HB1.out HB1.out.size hb2
        obtain ⟨p, c, rfl, hr, hc, hpc⟩ := mine_full hv
        have HRW : Hid (row vi w2 p q) := hr
        rw [HN.out] at hc ⊢
        have hpc : Hid (p = none → c = 0) := hpc
        clear hb2 hv hr HG
        go_wp2_with (at_make; refine wpList_make_full _ rfl _ _ 26 rfl w.heap.size 25 i0 _ 6 k6.ht HI.out.1 HI.out.2.1 HI.out.2.2.1 .i64 .i64 (m : Int) (m : Int) m rfl rfl rfl rfl (by rw [HI.out.2.2.2]; omega) (by unfold maxLen; omega) HB2.out.size ?_)
        intro w3 ho3 hg3
        have H3 : Hid (rinv w w2.heap.size m l p q 0 w3) := by
          refine ⟨HB2.out.grown hg3 HB2.out.size (fun k hk => by cases hk), HB2.out.size, ?_, row_below HRW.out ((Below.refl _ _).grown hg3 (Nat.le_refl _) (fun k hk => by cases hk)), fun h0 => row_lt HRW.out (List.length_pos_iff.2 h0)⟩
          unfold minef
          rw [fill_zero, List.length_replicate, HSL.out, ← made6]; exact ho3
        clear ho3 hg3
        obtain ⟨G, hG⟩ : ∃ G, w2.heap.size = G := ⟨_, rfl⟩
        simp only [hG] at H3 ⊢
        clear hG HRW
        go_wp2_with fail
        go_loopw [37] (fun i wr => ∃ k : Nat, i = .int .i64 k ∧ k ≤ m ∧ rinv w G m l p q k wr) (fun i _ => m - (intOf i).toNat)
        case atStart => exact ⟨0, rfl, by omega, H3.out⟩
        case round =>
          obtain ⟨k, rfl, hk, hi⟩ := hrel
          have HI : Hid (rinv w G m l p q k wr) := hi
          clear H3 hi
          by_cases hlt : k < m
          · obtain ⟨o, ho, g0, g1, g2, g3, g4, g5⟩ := HSA.out k (by rw [HSL.out]; exact hlt)
            obtain ⟨hb, hG, hm3, hr, hlt5⟩ := HI.out
            obtain ⟨a, rfl, c0⟩ := hr _ _ g0
            have hag : a.block < G := hlt5 (fun e => by rw [e] at g0; simp at g0) a rfl
            have cc : ∀ j x, q[6 * k + j]? = some x → wr.cell? ((a.add (6 * k)).add j) = some (.int .i64 x) := fun j x hj => by
              obtain ⟨a', ea, hc⟩ := hr _ _ hj
              cases ea
              rw [add_add]; exact hc
            have y0 := c0
            have y1 : wr.cell? ⟨(a.add (6 * k)).block, (a.add (6 * k)).off + 1, none⟩ = some (.int .i64 o.k) := cc 1 _ g1
            have y2 : wr.cell? ⟨(a.add (6 * k)).block, (a.add (6 * k)).off + 2, none⟩ = some (.int .i64 o.w) := cc 2 _ g2
            have y3 : wr.cell? ⟨(a.add (6 * k)).block, (a.add (6 * k)).off + 3, none⟩ = some (.int .i64 o.x) := cc 3 _ g3
            have y4 : wr.cell? ⟨(a.add (6 * k)).block, (a.add (6 * k)).off + 4, none⟩ = some (.int .i64 o.y) := cc 4 _ g4
            have y5 : wr.cell? ⟨(a.add (6 * k)).block, (a.add (6 * k)).off + 5, none⟩ = some (.int .i64 o.a) := cc 5 _ g5
            have HNX : Hid (rinv w G m l (some a) q (k + 1) (World.drew ((((((wr.setCell ⟨G, k * 6, none⟩ (.int .i64 o.b)).setCell ⟨G, k * 6 + 1, none⟩ (.int .i64 o.k)).setCell ⟨G, k * 6 + 2, none⟩ (.int .i64 o.w)).setCell ⟨G, k * 6 + 3, none⟩ (.int .i64 o.x)).setCell ⟨G, k * 6 + 4, none⟩ (.int .i64 o.y)).setCell ⟨G, k * 6 + 5, none⟩ (.int .i64 o.a)))) := rinv_next HI.out HSL.out hlt ho
            have hfl : (fill l k).length = m := by rw [fill_length _ _ (by have := HSL.out; omega)]; exact HSL.out
            have fz : ∀ i, wr.frozen? ⟨G, i, none⟩ = false := fun i => by
              have hm4 := hm3
              unfold minef at hm4
              rw [hfl] at hm4
              exact World.ownsRow.frozenAt hm4 i
            have dz : ∀ i, i < 6 → ∃ v, wr.cell? ⟨G, k * 6 + i, none⟩ = some v := fun i hi => by
              have hm4 := hm3
              unfold minef at hm4
              rw [hfl] at hm4
              rw [World.ownsRow.cellAt hm4 _ (by omega)]
              exact ⟨_, List.getElem?_eq_getElem (by rw [fl_len flt6, hfl]; omega)⟩
            obtain ⟨v0, w0⟩ : ∃ v, wr.cell? ⟨G, k * 6, none⟩ = some v := dz 0 (by omega)
            obtain ⟨v1, w1'⟩ := dz 1 (by omega)
            obtain ⟨v2, w2'⟩ := dz 2 (by omega)
            obtain ⟨v3, w3'⟩ := dz 3 (by omega)
            obtain ⟨v4, w4'⟩ := dz 4 (by omega)
            obtain ⟨v5, w5'⟩ := dz 5 (by omega)
            have f0 := fz (k * 6)
            have f1 := fz (k * 6 + 1)
            have f2 := fz (k * 6 + 2)
            have f3 := fz (k * 6 + 3)
            have f4 := fz (k * 6 + 4)
            have f5 := fz (k * 6 + 5)
            obtain ⟨ob, ok, ow, ox, oy, oa⟩ := o
            dsimp only at y0 y1 y2 y3 y4 y5 HNX
            have l1 : (k : Int) < m := by omega
            have l2 : (0 : Int) ≤ k := by omega
            have m1 : 6 * (k : Int) < n := by have := HM.out; omega
            have m2 : (n : Int) ≤ c := by omega
            have m3 : IntKind.i64.wrap (6 * (k : Int)) = 6 * (k : Int) := by rw [IntKind.wrap_i64]; omega
            have m4 : (6 * (k : Int)).toNat = 6 * k := by omega
            have m5 : 6 * k < n := by omega
            have m6 : 0 < c - 6 * k := by omega
            clear hb hG hm3 hr hlt5 g0 g1 g2 g3 g4 g5 cc fz hfl dz ho c0 HI
            have b0 : (0 : Int) < ((n - 6 * k : Nat) : Int) := by have := HM.out; omega
            have b1 : (1 : Int) < ((n - 6 * k : Nat) : Int) := by have := HM.out; omega
            have b2 : (2 : Int) < ((n - 6 * k : Nat) : Int) := by have := HM.out; omega
            have b3 : (3 : Int) < ((n - 6 * k : Nat) : Int) := by have := HM.out; omega
            have b4 : (4 : Int) < ((n - 6 * k : Nat) : Int) := by have := HM.out; omega
            have b5 : (5 : Int) < ((n - 6 * k : Nat) : Int) := by have := HM.out; omega
            go_wp2_with fail
            have hAG : ¬ (a.add (6 * k)).block = G := by rw [add_block]; exact Nat.ne_of_lt hag
            generalize a.add (6 * k) = A at y0 y1 y2 y3 y4 y5 hAG ⊢
            generalize n - 6 * k = N at b0 b1 b2 b3 b4 b5 ⊢
            have b6 : 0 < N := by omega
            generalize c - 6 * k = C
            have HSF : (World.drew ((((((wr.setCell ⟨G, k * 6, none⟩ (.int .i64 ob)).setCell ⟨G, k * 6 + 1, none⟩ (.int .i64 ok)).setCell ⟨G, k * 6 + 2, none⟩ (.int .i64 ow)).setCell ⟨G, k * 6 + 3, none⟩ (.int .i64 ox)).setCell ⟨G, k * 6 + 4, none⟩ (.int .i64 oy)).setCell ⟨G, k * 6 + 5, none⟩ (.int .i64 oa))).cell? A = some (.int .i64 ob) ∧ (World.drew ((((((wr.setCell ⟨G, k * 6, none⟩ (.int .i64 ob)).setCell ⟨G, k * 6 + 1, none⟩ (.int .i64 ok)).setCell ⟨G, k * 6 + 2, none⟩ (.int .i64 ow)).setCell ⟨G, k * 6 + 3, none⟩ (.int .i64 ox)).setCell ⟨G, k * 6 + 4, none⟩ (.int .i64 oy)).setCell ⟨G, k * 6 + 5, none⟩ (.int .i64 oa))).cell? ⟨A.block, A.off + 1, none⟩ = some (.int .i64 ok) ∧ (World.drew ((((((wr.setCell ⟨G, k * 6, none⟩ (.int .i64 ob)).setCell ⟨G, k * 6 + 1, none⟩ (.int .i64 ok)).setCell ⟨G, k * 6 + 2, none⟩ (.int .i64 ow)).setCell ⟨G, k * 6 + 3, none⟩ (.int .i64 ox)).setCell ⟨G, k * 6 + 4, none⟩ (.int .i64 oy)).setCell ⟨G, k * 6 + 5, none⟩ (.int .i64 oa))).cell? ⟨A.block, A.off + 2, none⟩ = some (.int .i64 ow) ∧ (World.drew ((((((wr.setCell ⟨G, k * 6, none⟩ (.int .i64 ob)).setCell ⟨G, k * 6 + 1, none⟩ (.int .i64 ok)).setCell ⟨G, k * 6 + 2, none⟩ (.int .i64 ow)).setCell ⟨G, k * 6 + 3, none⟩ (.int .i64 ox)).setCell ⟨G, k * 6 + 4, none⟩ (.int .i64 oy)).setCell ⟨G, k * 6 + 5, none⟩ (.int .i64 oa))).cell? ⟨A.block, A.off + 3, none⟩ = some (.int .i64 ox) ∧ (World.drew ((((((wr.setCell ⟨G, k * 6, none⟩ (.int .i64 ob)).setCell ⟨G, k * 6 + 1, none⟩ (.int .i64 ok)).setCell ⟨G, k * 6 + 2, none⟩ (.int .i64 ow)).setCell ⟨G, k * 6 + 3, none⟩ (.int .i64 ox)).setCell ⟨G, k * 6 + 4, none⟩ (.int .i64 oy)).setCell ⟨G, k * 6 + 5, none⟩ (.int .i64 oa))).cell? ⟨A.block, A.off + 4, none⟩ = some (.int .i64 oy) ∧ (World.drew ((((((wr.setCell ⟨G, k * 6, none⟩ (.int .i64 ob)).setCell ⟨G, k * 6 + 1, none⟩ (.int .i64 ok)).setCell ⟨G, k * 6 + 2, none⟩ (.int .i64 ow)).setCell ⟨G, k * 6 + 3, none⟩ (.int .i64 ox)).setCell ⟨G, k * 6 + 4, none⟩ (.int .i64 oy)).setCell ⟨G, k * 6 + 5, none⟩ (.int .i64 oa))).cell? ⟨A.block, A.off + 5, none⟩ = some (.int .i64 oa) := six_far hAG y0 y1 y2 y3 y4 y5
            have HSD : (World.drew wr).cell? A = some (.int .i64 ob) ∧ (World.drew wr).cell? ⟨A.block, A.off + 1, none⟩ = some (.int .i64 ok) ∧ (World.drew wr).cell? ⟨A.block, A.off + 2, none⟩ = some (.int .i64 ow) ∧ (World.drew wr).cell? ⟨A.block, A.off + 3, none⟩ = some (.int .i64 ox) ∧ (World.drew wr).cell? ⟨A.block, A.off + 4, none⟩ = some (.int .i64 oy) ∧ (World.drew wr).cell? ⟨A.block, A.off + 5, none⟩ = some (.int .i64 oa) := ⟨y0, y1, y2, y3, y4, y5⟩
            go_region_held3 (fun V => V.cell? A = some (.int .i64 ob) ∧ V.cell? ⟨A.block, A.off + 1, none⟩ = some (.int .i64 ok) ∧ V.cell? ⟨A.block, A.off + 2, none⟩ = some (.int .i64 ow) ∧ V.cell? ⟨A.block, A.off + 3, none⟩ = some (.int .i64 ox) ∧ V.cell? ⟨A.block, A.off + 4, none⟩ = some (.int .i64 oy) ∧ V.cell? ⟨A.block, A.off + 5, none⟩ = some (.int .i64 oa)) (first | with_reducible assumption | with_reducible exact HSD | with_reducible exact HSF) (fail)
            clear HSF HSD y0 y1 y2 y3 y4 y5 w0 w1' w2' w3' w4' w5' f0 f1 f2 f3 f4 f5
            generalize World.drew ((((((wr.setCell ⟨G, k * 6, none⟩ (.int .i64 ob)).setCell ⟨G, k * 6 + 1, none⟩ (.int .i64 ok)).setCell ⟨G, k * 6 + 2, none⟩ (.int .i64 ow)).setCell ⟨G, k * 6 + 3, none⟩ (.int .i64 ox)).setCell ⟨G, k * 6 + 4, none⟩ (.int .i64 oy)).setCell ⟨G, k * 6 + 5, none⟩ (.int .i64 oa)) = w7 at HNX ⊢
            go_wp2_with fail
            go_roundw
            case rel => exact ⟨k + 1, by go_num, by omega, HNX.out⟩
            case measure => simp [intOf]; omega
          · obtain rfl : k = m := by omega
            have HFM : Hid (minef 25 6 to6 w.heap.size wr (.slice (some ⟨G, 0, none⟩) k k) l) := by
              have := HI.out.2.2.1
              have e : fill l k = l := by rw [← HSL.out]; exact fill_all l
              rw [e] at this; exact this
            have HRL : Hid (rowf to6 wr (some ⟨G, 0, none⟩) l) := by
              obtain ⟨p', c', e, h, _⟩ := minef_full flt6 HFM.out
              rw [HSL.out] at e
              injection e with e1 e2 e3
              rw [e1]; exact h
            have HBL : Hid (Below w.heap.size w wr) := HI.out.1
            clear HI
            go_wp2_with fail
            refine (HC.out _ _ _ HRL.out).mono ?_
            rintro e w4 ⟨rfl, hb4⟩
            have HB4 : Hid (Below w.heap.size w w4 ∧ minef 25 6 to6 w.heap.size w4 (.slice (some ⟨G, 0, none⟩) k k) l) := ⟨below_step HBL.out HBL.out.size hb4, minef_below HFM.out hb4⟩
            clear hb4 HFM HRL HBL
            by_cases hz : E = 0
            · have HE := HRS.out.1 hz
              have HE : Hid (R1 = l ∧ R2 = 0) := ⟨congrArg Prod.fst HE, congrArg Prod.snd HE⟩
              subst hz
              go_wp2_with fail
              go_ret2
              exact ⟨⟨_, ret_vi HE.out.2.symm, by rw [HE.out.1]; exact HB4.out.2⟩, HB4.out.1⟩
            · have HE := HRS.out.2 hz
              have HE : Hid (R1 = [] ∧ R2 = E) := ⟨congrArg Prod.fst HE, congrArg Prod.snd HE⟩
              go_wp2_with fail
              go_ret2
              exact ⟨⟨_, ret_vi HE.out.2.symm, by rw [HE.out.1]; exact minef_nil _ _ _ _ _⟩, HB4.out.1⟩
      · have HR2 : Hid (rdn (q, 0) = ([], 4)) := by unfold Hid rdn; simp only [if_true]; rw [if_neg (by rw [hn]; exact h6)]
        have d1 : ¬ (n : Int) % 6 = 0 := by omega
        have d2 : (n : Int).tmod 6 = (n : Int) % 6 := Int.tmod_eq_emod_of_nonneg (by omega)
        have d3 : IntKind.i64.wrap ((n : Int) % 6) = (n : Int) % 6 := by rw [IntKind.wrap_i64]; omega
        rw [HR2.out]
        clear hn h6
        dsimp only
        go_enter Try.func11, Try.ntmps11
        go_wp2_with fail
        refine (HO.out _).mono ?_
        rintro e w1 ⟨rfl, hb1⟩
        have HB1 : Hid (Below w.heap.size w w1) := hb1
        clear hb1 HO
        go_wp2_with fail
        refine (HG.out _).mono ?_
        rintro e w2 ⟨v, rfl, hv, hb2⟩
        have HB2 : Hid (Below w.heap.size w w2) := below_step HB1.out HB1.out.size hb2
        obtain ⟨p, c, rfl, _, _, _⟩ := mine_full hv
        rw [HN.out]
        clear hb2 hv HG
        go_wp2_with fail
        go_ret2
        exact ⟨⟨_, rfl, minef_nil _ _ _ _ _⟩, HB2.out⟩
    · have HR2 : Hid (rdn (q, E) = ([], (E : Int))) := by unfold Hid rdn; rw [if_neg (by simpa using hE)]
      have hE1 : ¬ (E : Int) = 0 := by omega
      rw [HR2.out]
      dsimp only
      clear hE
      go_enter Try.func11, Try.ntmps11
      go_wp2_with fail
      refine (HO.out _).mono ?_
      rintro e w1 ⟨rfl, hb1⟩
      have HB1 : Hid (Below w.heap.size w w1) := hb1
      clear hb1 HO
      go_wp2_with fail
      refine (HG.out _).mono ?_
      rintro e w2 ⟨v, rfl, hv, hb2⟩
      have HB2 : Hid (Below w.heap.size w w2) := below_step HB1.out HB1.out.size hb2
      clear hb2 hv HG
      go_wp2_with fail
      go_ret2
      exact ⟨⟨_, rfl, minef_nil _ _ _ _ _⟩, HB2.out⟩
  · have HR : Hid (rd s = ([], 5)) := by unfold Hid rd; rw [if_neg h4, if_neg ht]
    have HO : Hid (∀ V, Calls Try.prog 40 #[.string s] V fun e w' => e = .returned (.tuple #[.string ⟨#[]⟩, .int .i64 5]) ∧ Below V.heap.size V w') := fun V => cr.Open_no s V (by unfold maxLen; omega) (by omega) ht
    rw [HR.out]
    clear h4 hs HR ht
    dsimp only
    go_enter Try.func11, Try.ntmps11
    go_wp2_with fail
    refine (HO.out _).mono ?_
    rintro e w1 ⟨rfl, hb1⟩
    go_wp2_with fail
    go_ret2
    exact ⟨⟨_, rfl, minef_nil _ _ _ _ _⟩, hb1⟩
end Go.Proofs.Ytgebfpncapfaoaa
