/- What order.Check and checkAll return, and the document's own OrderRight and OrdersRight: which error orders are of. -/
import Derived.Test.YtgebfpncapfaoaaOr
import Derived.Test.YtgebfpncapfaoaaRef
import Derived.Test.YtgebfpncapfaoaaKx
import Derived.Laws.Rows
namespace Go.Proofs.Ytgebfpncapfaoaa
open Go.RowKit
set_option linter.unusedVariables false

def frm (lo n hi : Int) : Bool := decide (lo ≤ n) && decide (n ≤ hi)
/-- Whether an order's numbers are within their bounds. -/
def wn (o : Ord) : Bool := frm 0 o.b 7 && (frm 1 o.k 5 && (frm 0 o.w 1000000 && (frm (-1000) o.x 1000 && (frm (-1000) o.y 1000 && frm 0 o.a 1000000))))
/-- An order without what its Kind has no use for. -/
def nd (o : Ord) : Ord := if o.k = 1 then ⟨o.b, o.k, o.w, 0, 0, o.a⟩ else if o.k = 2 ∨ o.k = 3 then ⟨o.b, o.k, o.w, o.x, o.y, 0⟩ else if o.k = 4 then ⟨o.b, o.k, o.w, 0, 0, 0⟩ else ⟨o.b, o.k, 0, 0, 0, o.a⟩
/-- Which error an order is of. -/
def oe (o : Ord) : Int := if wn o = true then (if o.nums = (nd o).nums then 0 else 4) else 1
theorem oe_arg {o : Ord} (h : wn o = false) : oe o = 1 := by unfold oe; simp [h]
theorem oe_form {o : Ord} (h : wn o = true) (h2 : ¬ o = nd o) : oe o = 4 := by unfold oe; rw [if_pos h, if_neg (fun e => h2 (nums_inj e))]
theorem oe_ok {o : Ord} (h : wn o = true) (h2 : o = nd o) : oe o = 0 := by unfold oe; rw [if_pos h, if_pos (congrArg Ord.nums h2)]
theorem oe_zero {o : Ord} (h : oe o = 0) : wn o = true ∧ o = nd o := by
  unfold oe at h
  split at h
  · split at h
    · exact ⟨by assumption, nums_inj (by assumption)⟩
    · omega
  · omega
theorem oe_cases (o : Ord) : oe o = 0 ∨ oe o = 1 ∨ oe o = 4 := by unfold oe; split <;> (try split) <;> simp
theorem wn_nums {o : Ord} (h : wn o = true) : (0 ≤ o.b ∧ o.b ≤ 7) ∧ (1 ≤ o.k ∧ o.k ≤ 5) ∧ (0 ≤ o.w ∧ o.w ≤ 1000000) ∧ (-1000 ≤ o.x ∧ o.x ≤ 1000) ∧ (-1000 ≤ o.y ∧ o.y ≤ 1000) ∧ 0 ≤ o.a ∧ o.a ≤ 1000000 := by
  unfold wn frm at h; simp at h; omega
set_option maxHeartbeats 400000 in
theorem isFrom_any (lo n hi : Int) (w : World) : Calls Try.prog 64 #[.int .i64 lo, .int .i64 n, .int .i64 hi] w fun e w' => e = .returned (.bool (frm lo n hi)) ∧ w' = w := by
  unfold frm
  go_enter Try.func64, Try.ntmps64
  go_wp2
  all_goals
    go_ret
    exact ⟨by simp_all <;> omega, rfl⟩
theorem isFrom_at (lo n hi : Int) (b : Bool) (w : World) (h : Hid (frm lo n hi = b)) : Calls Try.prog 64 #[.int .i64 lo, .int .i64 n, .int .i64 hi] w fun e w' => e = .returned (.bool b) ∧ w' = w := by rw [← h.out]; exact isFrom_any lo n hi w
theorem Btw_at (lo n hi : Int) (b : Bool) (w : World) (h : Hid (frm lo n hi = b)) : Calls Try.prog 46 #[.int .i64 n, .int .i64 lo, .int .i64 hi] w fun e w' => e = .returned (.bool b) ∧ w' = w := Between_at n lo hi b w h
theorem ret_bool {a b : Bool} (h : a = b) : Ending.returned (.bool a) = .returned (.bool b) := by rw [h]
set_option maxRecDepth 20000 in
set_option maxHeartbeats 2000000 in
theorem isWithin_any (o : Ord) (w : World) : Calls Try.prog 44 #[ov o] w fun e w' => e = .returned (.bool (wn o)) ∧ Below w.heap.size w w' := by
  obtain ⟨b, k, wh, x, y, a⟩ := o
  unfold ov wn
  dsimp only
  cases h0 : frm 0 b 7 with
  | false =>
    have H0 : Hid (frm 0 b 7 = false) := h0
    clear h0
    go_enter Try.func44, Try.ntmps44
    go_wp2_with fail
    refine (isFrom_at 0 b 7 false _ H0).mono ?_
    rintro e w1 ⟨rfl, hw⟩; subst w1
    go_wp2_with fail
    go_ret
    exact ⟨ret_bool (by simp), alloc_below _ _⟩
  | true =>
    cases h1 : frm 1 k 5 with
    | false =>
      have H0 : Hid (frm 0 b 7 = true) := h0
      have H1 : Hid (frm 1 k 5 = false) := h1
      clear h0 h1
      go_enter Try.func44, Try.ntmps44
      go_wp2_with fail
      refine (isFrom_at 0 b 7 true _ H0).mono ?_
      rintro e w1 ⟨rfl, hw⟩; subst w1
      go_wp2_with fail
      refine (isFrom_at 1 k 5 false _ H1).mono ?_
      rintro e w1 ⟨rfl, hw⟩; subst w1
      go_wp2_with fail
      go_ret
      exact ⟨ret_bool (by simp), alloc_below _ _⟩
    | true =>
      cases h2 : frm 0 wh 1000000 with
      | false =>
        have H0 : Hid (frm 0 b 7 = true) := h0
        have H1 : Hid (frm 1 k 5 = true) := h1
        have H2 : Hid (frm 0 wh 1000000 = false) := h2
        clear h0 h1 h2
        go_enter Try.func44, Try.ntmps44
        go_wp2_with fail
        refine (isFrom_at 0 b 7 true _ H0).mono ?_
        rintro e w1 ⟨rfl, hw⟩; subst w1
        go_wp2_with fail
        refine (isFrom_at 1 k 5 true _ H1).mono ?_
        rintro e w1 ⟨rfl, hw⟩; subst w1
        go_wp2_with fail
        refine (isFrom_at 0 wh 1000000 false _ H2).mono ?_
        rintro e w1 ⟨rfl, hw⟩; subst w1
        go_wp2_with fail
        go_ret
        exact ⟨ret_bool (by simp), alloc_below _ _⟩
      | true =>
        cases h3 : frm (-1000) x 1000 with
        | false =>
          have H0 : Hid (frm 0 b 7 = true) := h0
          have H1 : Hid (frm 1 k 5 = true) := h1
          have H2 : Hid (frm 0 wh 1000000 = true) := h2
          have H3 : Hid (frm (-1000) x 1000 = false) := h3
          clear h0 h1 h2 h3
          go_enter Try.func44, Try.ntmps44
          go_wp2_with fail
          refine (isFrom_at 0 b 7 true _ H0).mono ?_
          rintro e w1 ⟨rfl, hw⟩; subst w1
          go_wp2_with fail
          refine (isFrom_at 1 k 5 true _ H1).mono ?_
          rintro e w1 ⟨rfl, hw⟩; subst w1
          go_wp2_with fail
          refine (isFrom_at 0 wh 1000000 true _ H2).mono ?_
          rintro e w1 ⟨rfl, hw⟩; subst w1
          go_wp2_with fail
          refine (isFrom_at (-1000) x 1000 false _ H3).mono ?_
          rintro e w1 ⟨rfl, hw⟩; subst w1
          go_wp2_with fail
          go_ret
          exact ⟨ret_bool (by simp), alloc_below _ _⟩
        | true =>
          cases h4 : frm (-1000) y 1000 with
          | false =>
            have H0 : Hid (frm 0 b 7 = true) := h0
            have H1 : Hid (frm 1 k 5 = true) := h1
            have H2 : Hid (frm 0 wh 1000000 = true) := h2
            have H3 : Hid (frm (-1000) x 1000 = true) := h3
            have H4 : Hid (frm (-1000) y 1000 = false) := h4
            clear h0 h1 h2 h3 h4
            go_enter Try.func44, Try.ntmps44
            go_wp2_with fail
            refine (isFrom_at 0 b 7 true _ H0).mono ?_
            rintro e w1 ⟨rfl, hw⟩; subst w1
            go_wp2_with fail
            refine (isFrom_at 1 k 5 true _ H1).mono ?_
            rintro e w1 ⟨rfl, hw⟩; subst w1
            go_wp2_with fail
            refine (isFrom_at 0 wh 1000000 true _ H2).mono ?_
            rintro e w1 ⟨rfl, hw⟩; subst w1
            go_wp2_with fail
            refine (isFrom_at (-1000) x 1000 true _ H3).mono ?_
            rintro e w1 ⟨rfl, hw⟩; subst w1
            go_wp2_with fail
            refine (isFrom_at (-1000) y 1000 false _ H4).mono ?_
            rintro e w1 ⟨rfl, hw⟩; subst w1
            go_wp2_with fail
            go_ret
            exact ⟨ret_bool (by simp), alloc_below _ _⟩
          | true =>
            cases h5 : frm 0 a 1000000 with
            | false =>
              have H0 : Hid (frm 0 b 7 = true) := h0
              have H1 : Hid (frm 1 k 5 = true) := h1
              have H2 : Hid (frm 0 wh 1000000 = true) := h2
              have H3 : Hid (frm (-1000) x 1000 = true) := h3
              have H4 : Hid (frm (-1000) y 1000 = true) := h4
              have H5 : Hid (frm 0 a 1000000 = false) := h5
              clear h0 h1 h2 h3 h4 h5
              go_enter Try.func44, Try.ntmps44
              go_wp2_with fail
              refine (isFrom_at 0 b 7 true _ H0).mono ?_
              rintro e w1 ⟨rfl, hw⟩; subst w1
              go_wp2_with fail
              refine (isFrom_at 1 k 5 true _ H1).mono ?_
              rintro e w1 ⟨rfl, hw⟩; subst w1
              go_wp2_with fail
              refine (isFrom_at 0 wh 1000000 true _ H2).mono ?_
              rintro e w1 ⟨rfl, hw⟩; subst w1
              go_wp2_with fail
              refine (isFrom_at (-1000) x 1000 true _ H3).mono ?_
              rintro e w1 ⟨rfl, hw⟩; subst w1
              go_wp2_with fail
              refine (isFrom_at (-1000) y 1000 true _ H4).mono ?_
              rintro e w1 ⟨rfl, hw⟩; subst w1
              go_wp2_with fail
              refine (isFrom_at 0 a 1000000 false _ H5).mono ?_
              rintro e w1 ⟨rfl, hw⟩; subst w1
              go_wp2_with fail
              go_ret
              exact ⟨ret_bool (by simp), alloc_below _ _⟩
            | true =>
              have H0 : Hid (frm 0 b 7 = true) := h0
              have H1 : Hid (frm 1 k 5 = true) := h1
              have H2 : Hid (frm 0 wh 1000000 = true) := h2
              have H3 : Hid (frm (-1000) x 1000 = true) := h3
              have H4 : Hid (frm (-1000) y 1000 = true) := h4
              have H5 : Hid (frm 0 a 1000000 = true) := h5
              clear h0 h1 h2 h3 h4 h5
              go_enter Try.func44, Try.ntmps44
              go_wp2_with fail
              refine (isFrom_at 0 b 7 true _ H0).mono ?_
              rintro e w1 ⟨rfl, hw⟩; subst w1
              go_wp2_with fail
              refine (isFrom_at 1 k 5 true _ H1).mono ?_
              rintro e w1 ⟨rfl, hw⟩; subst w1
              go_wp2_with fail
              refine (isFrom_at 0 wh 1000000 true _ H2).mono ?_
              rintro e w1 ⟨rfl, hw⟩; subst w1
              go_wp2_with fail
              refine (isFrom_at (-1000) x 1000 true _ H3).mono ?_
              rintro e w1 ⟨rfl, hw⟩; subst w1
              go_wp2_with fail
              refine (isFrom_at (-1000) y 1000 true _ H4).mono ?_
              rintro e w1 ⟨rfl, hw⟩; subst w1
              go_wp2_with fail
              refine (isFrom_at 0 a 1000000 true _ H5).mono ?_
              rintro e w1 ⟨rfl, hw⟩; subst w1
              go_wp2_with fail
              go_ret
              exact ⟨ret_bool (by simp), alloc_below _ _⟩
theorem isWithin_at (o : Ord) (b : Bool) (w : World) (h : Hid (wn o = b)) : Calls Try.prog 44 #[ov o] w fun e w' => e = .returned (.bool b) ∧ Below w.heap.size w w' := by rw [← h.out]; exact isWithin_any o w
theorem two_below (w : World) (o p : Obj) : Below w.heap.size w ((w.alloc o).alloc p) := below_step (alloc_below _ _) (alloc_below w o).size (alloc_below _ _)
theorem ret_agg {a b : Array Value} (h : a = b) : Ending.returned (.agg a) = .returned (.agg b) := by rw [h]
set_option maxRecDepth 20000 in
set_option maxHeartbeats 2000000 in
theorem needed_any (o : Ord) (w : World) (hk : 1 ≤ o.k ∧ o.k ≤ 5) : Calls Try.prog 45 #[ov o] w fun e w' => e = .returned (ov (nd o)) ∧ Below w.heap.size w w' := by
  obtain ⟨b, k, wh, x, y, a⟩ := o
  have hk' : 1 ≤ k ∧ k ≤ 5 := hk
  have hc : k = 1 ∨ k = 2 ∨ k = 3 ∨ k = 4 ∨ k = 5 := by omega
  clear hk hk'
  unfold ov nd
  rcases hc with rfl | rfl | rfl | rfl | rfl
  all_goals
    simp only [reduceIte, Int.reduceEq, or_true, true_or, or_self]
    go_enter Try.func45, Try.ntmps45
    go_wp2_with fail
    refine ⟨by simp, _, results_cell_row (by rfl) _ _ _ _ _ _ _ rfl (heap_alloc2_new _ _ _) Try.underlying25 rfl (by kernel_rfl), rfl, two_below _ _ _⟩
def cnr (x y : Int) : Bool := frm (-1000) x 1000 && frm (-1000) y 1000
set_option maxRecDepth 20000 in
set_option maxHeartbeats 2000000 in
theorem CellNear_at (x y : Int) (b : Bool) (w : World) (h : Hid (cnr x y = b)) : Calls Try.prog 47 #[.agg #[.int .i64 x, .int .i64 y]] w fun e w' => e = .returned (.bool b) ∧ Below w.heap.size w w' := by
  unfold cnr at h
  cases h0 : frm (-1000) x 1000 with
  | false =>
    have H0 : Hid (frm (-1000) x 1000 = false) := h0
    clear h0
    go_enter Try.func47, Try.ntmps47
    go_wp2_with fail
    refine (Btw_at (-1000) x 1000 false _ H0).mono ?_
    rintro e w1 ⟨rfl, hw⟩; subst w1
    go_wp2_with fail
    go_ret
    exact ⟨ret_bool (by rw [← h.out, H0.out]; rfl), alloc_below _ _⟩
  | true =>
    have H0 : Hid (frm (-1000) x 1000 = true) := h0
    have H1 : Hid (frm (-1000) y 1000 = b) := by have := h.out; rw [h0] at this; unfold Hid; simpa using this
    clear h0 h
    go_enter Try.func47, Try.ntmps47
    go_wp2_with fail
    refine (Btw_at (-1000) x 1000 true _ H0).mono ?_
    rintro e w1 ⟨rfl, hw⟩; subst w1
    go_wp2_with fail
    refine (Btw_at (-1000) y 1000 b _ H1).mono ?_
    rintro e w1 ⟨rfl, hw⟩; subst w1
    go_wp2_with fail
    go_ret
    exact ⟨ret_bool (by simp), alloc_below _ _⟩
/-- An order's box stays while nothing below turns. -/
theorem box6 {w V : World} {t : TypeId} {v0 v1 v2 v3 v4 v5 : Value} (hb : Below (w.alloc (.cells #[v0, v1, v2, v3, v4, v5] t)).heap.size (w.alloc (.cells #[v0, v1, v2, v3, v4, v5] t)) V) :
    V.cell? ⟨w.heap.size, 0, none⟩ = some v0 ∧ V.cell? ⟨w.heap.size, 1, none⟩ = some v1 ∧ V.cell? ⟨w.heap.size, 2, none⟩ = some v2 ∧ V.cell? ⟨w.heap.size, 3, none⟩ = some v3 ∧ V.cell? ⟨w.heap.size, 4, none⟩ = some v4 ∧ V.cell? ⟨w.heap.size, 5, none⟩ = some v5 := by
  refine ⟨?_, ?_, ?_, ?_, ?_, ?_⟩
  all_goals
    rw [hb.cell (by simp <;> omega)]
    simp [go_sem]
set_option maxRecDepth 20000 in
set_option maxHeartbeats 4000000 in
theorem OrderRight_any (o : Ord) (w : World) : Calls Try.prog 14 #[ov o] w fun e w' => e = .returned (.int .i64 (oe o)) ∧ Below w.heap.size w w' := by
  obtain ⟨b, k, wh, x, y, a⟩ := o
  unfold ov
  dsimp only
  cases h0 : frm 0 b 7 with
  | false =>
    have H0 : Hid (frm 0 b 7 = false) := h0
    have HE : Hid (oe ⟨b, k, wh, x, y, a⟩ = 1) := oe_arg (by unfold wn; simp [h0])
    clear h0
    go_enter Try.func14, Try.ntmps14
    go_wp2_with fail
    refine (Btw_at 0 b 7 false _ H0).mono ?_
    rintro e w1 ⟨rfl, hw⟩; subst w1
    go_wp2_with fail
    go_ret
    exact ⟨ret_int HE.out.symm, alloc_below _ _⟩
  | true =>
    cases h1 : frm 1 k 5 with
    | false =>
      have H0 : Hid (frm 0 b 7 = true) := h0
      have H1 : Hid (frm 1 k 5 = false) := h1
      have HE : Hid (oe ⟨b, k, wh, x, y, a⟩ = 1) := oe_arg (by unfold wn; simp [h0, h1])
      clear h0 h1
      go_enter Try.func14, Try.ntmps14
      go_wp2_with fail
      refine (Btw_at 0 b 7 true _ H0).mono ?_
      rintro e w1 ⟨rfl, hw⟩; subst w1
      go_wp2_with fail
      refine (Btw_at 1 k 5 false _ H1).mono ?_
      rintro e w1 ⟨rfl, hw⟩; subst w1
      go_wp2_with fail
      go_ret
      exact ⟨ret_int HE.out.symm, alloc_below _ _⟩
    | true =>
      cases h2 : frm 0 wh 1000000 with
      | false =>
        have H0 : Hid (frm 0 b 7 = true) := h0
        have H1 : Hid (frm 1 k 5 = true) := h1
        have H2 : Hid (frm 0 wh 1000000 = false) := h2
        have HE : Hid (oe ⟨b, k, wh, x, y, a⟩ = 1) := oe_arg (by unfold wn; simp [h0, h1, h2])
        clear h0 h1 h2
        go_enter Try.func14, Try.ntmps14
        go_wp2_with fail
        refine (Btw_at 0 b 7 true _ H0).mono ?_
        rintro e w1 ⟨rfl, hw⟩; subst w1
        go_wp2_with fail
        refine (Btw_at 1 k 5 true _ H1).mono ?_
        rintro e w1 ⟨rfl, hw⟩; subst w1
        go_wp2_with fail
        refine (Btw_at 0 wh 1000000 false _ H2).mono ?_
        rintro e w1 ⟨rfl, hw⟩; subst w1
        go_wp2_with fail
        go_ret
        exact ⟨ret_int HE.out.symm, alloc_below _ _⟩
      | true =>
        cases hc : cnr x y with
        | false =>
          have H0 : Hid (frm 0 b 7 = true) := h0
          have H1 : Hid (frm 1 k 5 = true) := h1
          have H2 : Hid (frm 0 wh 1000000 = true) := h2
          have HC : Hid (cnr x y = false) := hc
          have HE : Hid (oe ⟨b, k, wh, x, y, a⟩ = 1) := oe_arg (by unfold wn; unfold cnr at hc; rw [← Bool.and_assoc (frm (-1000) x 1000)]; simp [h0, h1, h2, hc])
          clear h0 h1 h2 hc
          go_enter Try.func14, Try.ntmps14
          go_wp2_with fail
          refine (Btw_at 0 b 7 true _ H0).mono ?_
          rintro e w1 ⟨rfl, hw⟩; subst w1
          go_wp2_with fail
          refine (Btw_at 1 k 5 true _ H1).mono ?_
          rintro e w1 ⟨rfl, hw⟩; subst w1
          go_wp2_with fail
          refine (Btw_at 0 wh 1000000 true _ H2).mono ?_
          rintro e w1 ⟨rfl, hw⟩; subst w1
          go_wp2_with fail
          refine (CellNear_at x y false _ HC).mono ?_
          rintro e w1 ⟨rfl, hb1⟩
          obtain ⟨z0, z1, z2, z3, z4, z5⟩ := box6 hb1
          have HB1 : Hid (Below w.heap.size w w1) := below_step (alloc_below _ _) (alloc_below w _).size hb1
          clear hb1
          go_wp2_with fail
          go_ret
          exact ⟨ret_int HE.out.symm, HB1.out⟩
        | true =>
          cases h5 : frm 0 a 1000000 with
          | false =>
            have H0 : Hid (frm 0 b 7 = true) := h0
            have H1 : Hid (frm 1 k 5 = true) := h1
            have H2 : Hid (frm 0 wh 1000000 = true) := h2
            have H5 : Hid (frm 0 a 1000000 = false) := h5
            have HC : Hid (cnr x y = true) := hc
            have HE : Hid (oe ⟨b, k, wh, x, y, a⟩ = 1) := oe_arg (by unfold wn; simp [h5])
            clear h0 h1 h2 h5 hc
            go_enter Try.func14, Try.ntmps14
            go_wp2_with fail
            refine (Btw_at 0 b 7 true _ H0).mono ?_
            rintro e w1 ⟨rfl, hw⟩; subst w1
            go_wp2_with fail
            refine (Btw_at 1 k 5 true _ H1).mono ?_
            rintro e w1 ⟨rfl, hw⟩; subst w1
            go_wp2_with fail
            refine (Btw_at 0 wh 1000000 true _ H2).mono ?_
            rintro e w1 ⟨rfl, hw⟩; subst w1
            go_wp2_with fail
            refine (CellNear_at x y true _ HC).mono ?_
            rintro e w1 ⟨rfl, hb1⟩
            obtain ⟨z0, z1, z2, z3, z4, z5⟩ := box6 hb1
            have HB1 : Hid (Below w.heap.size w w1) := below_step (alloc_below _ _) (alloc_below w _).size hb1
            clear hb1
            go_wp2_with fail
            refine (Btw_at 0 a 1000000 false _ H5).mono ?_
            rintro e w1 ⟨rfl, hw⟩; subst w1
            go_wp2_with fail
            go_ret
            exact ⟨ret_int HE.out.symm, HB1.out⟩
          | true =>
            have hw : wn ⟨b, k, wh, x, y, a⟩ = true := by unfold wn; unfold cnr at hc; rw [← Bool.and_assoc (frm (-1000) x 1000)]; simp [h0, h1, h2, hc, h5]
            have hkk : 1 ≤ k ∧ k ≤ 5 := (wn_nums hw).2.1
            have H0 : Hid (frm 0 b 7 = true) := h0
            have H2 : Hid (frm 0 wh 1000000 = true) := h2
            have H5 : Hid (frm 0 a 1000000 = true) := h5
            have HC : Hid (cnr x y = true) := hc
            have HK : k = 1 ∨ k = 2 ∨ k = 3 ∨ k = 4 ∨ k = 5 := by omega
            clear h0 h2 h5 hc hkk
            rcases HK with rfl | rfl | rfl | rfl | rfl
            · by_cases gx : x = 0
              · subst gx
                by_cases gy : y = 0
                · subst gy
                  have HE : Hid (oe ⟨b, 1, wh, 0, 0, a⟩ = 0) := oe_ok hw (by simp [nd])
                  have H1 : Hid (frm 1 1 5 = true) := h1
                  clear hw h1
                  go_enter Try.func14, Try.ntmps14
                  go_wp2_with fail
                  refine (Btw_at 0 b 7 true _ H0).mono ?_
                  rintro e w1 ⟨rfl, hw⟩; subst w1
                  go_wp2_with fail
                  refine (Btw_at 1 1 5 true _ H1).mono ?_
                  rintro e w1 ⟨rfl, hw⟩; subst w1
                  go_wp2_with fail
                  refine (Btw_at 0 wh 1000000 true _ H2).mono ?_
                  rintro e w1 ⟨rfl, hw⟩; subst w1
                  go_wp2_with fail
                  refine (CellNear_at 0 0 true _ HC).mono ?_
                  rintro e w1 ⟨rfl, hb1⟩
                  obtain ⟨z0, z1, z2, z3, z4, z5⟩ := box6 hb1
                  have HB1 : Hid (Below w.heap.size w w1) := below_step (alloc_below _ _) (alloc_below w _).size hb1
                  clear hb1
                  go_wp2_with fail
                  refine (Btw_at 0 a 1000000 true _ H5).mono ?_
                  rintro e w2 ⟨rfl, hw⟩; subst w2
                  go_wp2_with fail
                  go_ret
                  exact ⟨ret_int HE.out.symm, HB1.out⟩
                · have HE : Hid (oe ⟨b, 1, wh, 0, y, a⟩ = 4) := oe_form hw (by simp [nd, gy])
                  have H1 : Hid (frm 1 1 5 = true) := h1
                  clear hw h1
                  go_enter Try.func14, Try.ntmps14
                  go_wp2_with fail
                  refine (Btw_at 0 b 7 true _ H0).mono ?_
                  rintro e w1 ⟨rfl, hw⟩; subst w1
                  go_wp2_with fail
                  refine (Btw_at 1 1 5 true _ H1).mono ?_
                  rintro e w1 ⟨rfl, hw⟩; subst w1
                  go_wp2_with fail
                  refine (Btw_at 0 wh 1000000 true _ H2).mono ?_
                  rintro e w1 ⟨rfl, hw⟩; subst w1
                  go_wp2_with fail
                  refine (CellNear_at 0 y true _ HC).mono ?_
                  rintro e w1 ⟨rfl, hb1⟩
                  obtain ⟨z0, z1, z2, z3, z4, z5⟩ := box6 hb1
                  have HB1 : Hid (Below w.heap.size w w1) := below_step (alloc_below _ _) (alloc_below w _).size hb1
                  clear hb1
                  go_wp2_with fail
                  refine (Btw_at 0 a 1000000 true _ H5).mono ?_
                  rintro e w2 ⟨rfl, hw⟩; subst w2
                  go_wp2_with fail
                  go_ret
                  exact ⟨ret_int HE.out.symm, HB1.out⟩
              · have HE : Hid (oe ⟨b, 1, wh, x, y, a⟩ = 4) := oe_form hw (by simp [nd, gx])
                have H1 : Hid (frm 1 1 5 = true) := h1
                clear hw h1
                go_enter Try.func14, Try.ntmps14
                go_wp2_with fail
                refine (Btw_at 0 b 7 true _ H0).mono ?_
                rintro e w1 ⟨rfl, hw⟩; subst w1
                go_wp2_with fail
                refine (Btw_at 1 1 5 true _ H1).mono ?_
                rintro e w1 ⟨rfl, hw⟩; subst w1
                go_wp2_with fail
                refine (Btw_at 0 wh 1000000 true _ H2).mono ?_
                rintro e w1 ⟨rfl, hw⟩; subst w1
                go_wp2_with fail
                refine (CellNear_at x y true _ HC).mono ?_
                rintro e w1 ⟨rfl, hb1⟩
                obtain ⟨z0, z1, z2, z3, z4, z5⟩ := box6 hb1
                have HB1 : Hid (Below w.heap.size w w1) := below_step (alloc_below _ _) (alloc_below w _).size hb1
                clear hb1
                go_wp2_with fail
                refine (Btw_at 0 a 1000000 true _ H5).mono ?_
                rintro e w2 ⟨rfl, hw⟩; subst w2
                go_wp2_with fail
                go_ret
                exact ⟨ret_int HE.out.symm, HB1.out⟩
            · by_cases ga : a = 0
              · subst ga
                have HE : Hid (oe ⟨b, 2, wh, x, y, 0⟩ = 0) := oe_ok hw (by simp [nd])
                have H1 : Hid (frm 1 2 5 = true) := h1
                clear hw h1
                go_enter Try.func14, Try.ntmps14
                go_wp2_with fail
                refine (Btw_at 0 b 7 true _ H0).mono ?_
                rintro e w1 ⟨rfl, hw⟩; subst w1
                go_wp2_with fail
                refine (Btw_at 1 2 5 true _ H1).mono ?_
                rintro e w1 ⟨rfl, hw⟩; subst w1
                go_wp2_with fail
                refine (Btw_at 0 wh 1000000 true _ H2).mono ?_
                rintro e w1 ⟨rfl, hw⟩; subst w1
                go_wp2_with fail
                refine (CellNear_at x y true _ HC).mono ?_
                rintro e w1 ⟨rfl, hb1⟩
                obtain ⟨z0, z1, z2, z3, z4, z5⟩ := box6 hb1
                have HB1 : Hid (Below w.heap.size w w1) := below_step (alloc_below _ _) (alloc_below w _).size hb1
                clear hb1
                go_wp2_with fail
                refine (Btw_at 0 0 1000000 true _ H5).mono ?_
                rintro e w2 ⟨rfl, hw⟩; subst w2
                go_wp2_with fail
                go_ret
                exact ⟨ret_int HE.out.symm, HB1.out⟩
              · have HE : Hid (oe ⟨b, 2, wh, x, y, a⟩ = 4) := oe_form hw (by simp [nd, ga])
                have H1 : Hid (frm 1 2 5 = true) := h1
                clear hw h1
                go_enter Try.func14, Try.ntmps14
                go_wp2_with fail
                refine (Btw_at 0 b 7 true _ H0).mono ?_
                rintro e w1 ⟨rfl, hw⟩; subst w1
                go_wp2_with fail
                refine (Btw_at 1 2 5 true _ H1).mono ?_
                rintro e w1 ⟨rfl, hw⟩; subst w1
                go_wp2_with fail
                refine (Btw_at 0 wh 1000000 true _ H2).mono ?_
                rintro e w1 ⟨rfl, hw⟩; subst w1
                go_wp2_with fail
                refine (CellNear_at x y true _ HC).mono ?_
                rintro e w1 ⟨rfl, hb1⟩
                obtain ⟨z0, z1, z2, z3, z4, z5⟩ := box6 hb1
                have HB1 : Hid (Below w.heap.size w w1) := below_step (alloc_below _ _) (alloc_below w _).size hb1
                clear hb1
                go_wp2_with fail
                refine (Btw_at 0 a 1000000 true _ H5).mono ?_
                rintro e w2 ⟨rfl, hw⟩; subst w2
                go_wp2_with fail
                go_ret
                exact ⟨ret_int HE.out.symm, HB1.out⟩
            · by_cases ga : a = 0
              · subst ga
                have HE : Hid (oe ⟨b, 3, wh, x, y, 0⟩ = 0) := oe_ok hw (by simp [nd])
                have H1 : Hid (frm 1 3 5 = true) := h1
                clear hw h1
                go_enter Try.func14, Try.ntmps14
                go_wp2_with fail
                refine (Btw_at 0 b 7 true _ H0).mono ?_
                rintro e w1 ⟨rfl, hw⟩; subst w1
                go_wp2_with fail
                refine (Btw_at 1 3 5 true _ H1).mono ?_
                rintro e w1 ⟨rfl, hw⟩; subst w1
                go_wp2_with fail
                refine (Btw_at 0 wh 1000000 true _ H2).mono ?_
                rintro e w1 ⟨rfl, hw⟩; subst w1
                go_wp2_with fail
                refine (CellNear_at x y true _ HC).mono ?_
                rintro e w1 ⟨rfl, hb1⟩
                obtain ⟨z0, z1, z2, z3, z4, z5⟩ := box6 hb1
                have HB1 : Hid (Below w.heap.size w w1) := below_step (alloc_below _ _) (alloc_below w _).size hb1
                clear hb1
                go_wp2_with fail
                refine (Btw_at 0 0 1000000 true _ H5).mono ?_
                rintro e w2 ⟨rfl, hw⟩; subst w2
                go_wp2_with fail
                go_ret
                exact ⟨ret_int HE.out.symm, HB1.out⟩
              · have HE : Hid (oe ⟨b, 3, wh, x, y, a⟩ = 4) := oe_form hw (by simp [nd, ga])
                have H1 : Hid (frm 1 3 5 = true) := h1
                clear hw h1
                go_enter Try.func14, Try.ntmps14
                go_wp2_with fail
                refine (Btw_at 0 b 7 true _ H0).mono ?_
                rintro e w1 ⟨rfl, hw⟩; subst w1
                go_wp2_with fail
                refine (Btw_at 1 3 5 true _ H1).mono ?_
                rintro e w1 ⟨rfl, hw⟩; subst w1
                go_wp2_with fail
                refine (Btw_at 0 wh 1000000 true _ H2).mono ?_
                rintro e w1 ⟨rfl, hw⟩; subst w1
                go_wp2_with fail
                refine (CellNear_at x y true _ HC).mono ?_
                rintro e w1 ⟨rfl, hb1⟩
                obtain ⟨z0, z1, z2, z3, z4, z5⟩ := box6 hb1
                have HB1 : Hid (Below w.heap.size w w1) := below_step (alloc_below _ _) (alloc_below w _).size hb1
                clear hb1
                go_wp2_with fail
                refine (Btw_at 0 a 1000000 true _ H5).mono ?_
                rintro e w2 ⟨rfl, hw⟩; subst w2
                go_wp2_with fail
                go_ret
                exact ⟨ret_int HE.out.symm, HB1.out⟩
            · by_cases gx : x = 0
              · subst gx
                by_cases gy : y = 0
                · subst gy
                  by_cases ga : a = 0
                  · subst ga
                    have HE : Hid (oe ⟨b, 4, wh, 0, 0, 0⟩ = 0) := oe_ok hw (by simp [nd])
                    have H1 : Hid (frm 1 4 5 = true) := h1
                    clear hw h1
                    go_enter Try.func14, Try.ntmps14
                    go_wp2_with fail
                    refine (Btw_at 0 b 7 true _ H0).mono ?_
                    rintro e w1 ⟨rfl, hw⟩; subst w1
                    go_wp2_with fail
                    refine (Btw_at 1 4 5 true _ H1).mono ?_
                    rintro e w1 ⟨rfl, hw⟩; subst w1
                    go_wp2_with fail
                    refine (Btw_at 0 wh 1000000 true _ H2).mono ?_
                    rintro e w1 ⟨rfl, hw⟩; subst w1
                    go_wp2_with fail
                    refine (CellNear_at 0 0 true _ HC).mono ?_
                    rintro e w1 ⟨rfl, hb1⟩
                    obtain ⟨z0, z1, z2, z3, z4, z5⟩ := box6 hb1
                    have HB1 : Hid (Below w.heap.size w w1) := below_step (alloc_below _ _) (alloc_below w _).size hb1
                    clear hb1
                    go_wp2_with fail
                    refine (Btw_at 0 0 1000000 true _ H5).mono ?_
                    rintro e w2 ⟨rfl, hw⟩; subst w2
                    go_wp2_with fail
                    go_ret
                    exact ⟨ret_int HE.out.symm, HB1.out⟩
                  · have HE : Hid (oe ⟨b, 4, wh, 0, 0, a⟩ = 4) := oe_form hw (by simp [nd, ga])
                    have H1 : Hid (frm 1 4 5 = true) := h1
                    clear hw h1
                    go_enter Try.func14, Try.ntmps14
                    go_wp2_with fail
                    refine (Btw_at 0 b 7 true _ H0).mono ?_
                    rintro e w1 ⟨rfl, hw⟩; subst w1
                    go_wp2_with fail
                    refine (Btw_at 1 4 5 true _ H1).mono ?_
                    rintro e w1 ⟨rfl, hw⟩; subst w1
                    go_wp2_with fail
                    refine (Btw_at 0 wh 1000000 true _ H2).mono ?_
                    rintro e w1 ⟨rfl, hw⟩; subst w1
                    go_wp2_with fail
                    refine (CellNear_at 0 0 true _ HC).mono ?_
                    rintro e w1 ⟨rfl, hb1⟩
                    obtain ⟨z0, z1, z2, z3, z4, z5⟩ := box6 hb1
                    have HB1 : Hid (Below w.heap.size w w1) := below_step (alloc_below _ _) (alloc_below w _).size hb1
                    clear hb1
                    go_wp2_with fail
                    refine (Btw_at 0 a 1000000 true _ H5).mono ?_
                    rintro e w2 ⟨rfl, hw⟩; subst w2
                    go_wp2_with fail
                    go_ret
                    exact ⟨ret_int HE.out.symm, HB1.out⟩
                · have HE : Hid (oe ⟨b, 4, wh, 0, y, a⟩ = 4) := oe_form hw (by simp [nd, gy])
                  have H1 : Hid (frm 1 4 5 = true) := h1
                  clear hw h1
                  go_enter Try.func14, Try.ntmps14
                  go_wp2_with fail
                  refine (Btw_at 0 b 7 true _ H0).mono ?_
                  rintro e w1 ⟨rfl, hw⟩; subst w1
                  go_wp2_with fail
                  refine (Btw_at 1 4 5 true _ H1).mono ?_
                  rintro e w1 ⟨rfl, hw⟩; subst w1
                  go_wp2_with fail
                  refine (Btw_at 0 wh 1000000 true _ H2).mono ?_
                  rintro e w1 ⟨rfl, hw⟩; subst w1
                  go_wp2_with fail
                  refine (CellNear_at 0 y true _ HC).mono ?_
                  rintro e w1 ⟨rfl, hb1⟩
                  obtain ⟨z0, z1, z2, z3, z4, z5⟩ := box6 hb1
                  have HB1 : Hid (Below w.heap.size w w1) := below_step (alloc_below _ _) (alloc_below w _).size hb1
                  clear hb1
                  go_wp2_with fail
                  refine (Btw_at 0 a 1000000 true _ H5).mono ?_
                  rintro e w2 ⟨rfl, hw⟩; subst w2
                  go_wp2_with fail
                  go_ret
                  exact ⟨ret_int HE.out.symm, HB1.out⟩
              · have HE : Hid (oe ⟨b, 4, wh, x, y, a⟩ = 4) := oe_form hw (by simp [nd, gx])
                have H1 : Hid (frm 1 4 5 = true) := h1
                clear hw h1
                go_enter Try.func14, Try.ntmps14
                go_wp2_with fail
                refine (Btw_at 0 b 7 true _ H0).mono ?_
                rintro e w1 ⟨rfl, hw⟩; subst w1
                go_wp2_with fail
                refine (Btw_at 1 4 5 true _ H1).mono ?_
                rintro e w1 ⟨rfl, hw⟩; subst w1
                go_wp2_with fail
                refine (Btw_at 0 wh 1000000 true _ H2).mono ?_
                rintro e w1 ⟨rfl, hw⟩; subst w1
                go_wp2_with fail
                refine (CellNear_at x y true _ HC).mono ?_
                rintro e w1 ⟨rfl, hb1⟩
                obtain ⟨z0, z1, z2, z3, z4, z5⟩ := box6 hb1
                have HB1 : Hid (Below w.heap.size w w1) := below_step (alloc_below _ _) (alloc_below w _).size hb1
                clear hb1
                go_wp2_with fail
                refine (Btw_at 0 a 1000000 true _ H5).mono ?_
                rintro e w2 ⟨rfl, hw⟩; subst w2
                go_wp2_with fail
                go_ret
                exact ⟨ret_int HE.out.symm, HB1.out⟩
            · by_cases gwh : wh = 0
              · subst gwh
                by_cases gx : x = 0
                · subst gx
                  by_cases gy : y = 0
                  · subst gy
                    have HE : Hid (oe ⟨b, 5, 0, 0, 0, a⟩ = 0) := oe_ok hw (by simp [nd])
                    have H1 : Hid (frm 1 5 5 = true) := h1
                    clear hw h1
                    go_enter Try.func14, Try.ntmps14
                    go_wp2_with fail
                    refine (Btw_at 0 b 7 true _ H0).mono ?_
                    rintro e w1 ⟨rfl, hw⟩; subst w1
                    go_wp2_with fail
                    refine (Btw_at 1 5 5 true _ H1).mono ?_
                    rintro e w1 ⟨rfl, hw⟩; subst w1
                    go_wp2_with fail
                    refine (Btw_at 0 0 1000000 true _ H2).mono ?_
                    rintro e w1 ⟨rfl, hw⟩; subst w1
                    go_wp2_with fail
                    refine (CellNear_at 0 0 true _ HC).mono ?_
                    rintro e w1 ⟨rfl, hb1⟩
                    obtain ⟨z0, z1, z2, z3, z4, z5⟩ := box6 hb1
                    have HB1 : Hid (Below w.heap.size w w1) := below_step (alloc_below _ _) (alloc_below w _).size hb1
                    clear hb1
                    go_wp2_with fail
                    refine (Btw_at 0 a 1000000 true _ H5).mono ?_
                    rintro e w2 ⟨rfl, hw⟩; subst w2
                    go_wp2_with fail
                    go_ret
                    exact ⟨ret_int HE.out.symm, HB1.out⟩
                  · have HE : Hid (oe ⟨b, 5, 0, 0, y, a⟩ = 4) := oe_form hw (by simp [nd, gy])
                    have H1 : Hid (frm 1 5 5 = true) := h1
                    clear hw h1
                    go_enter Try.func14, Try.ntmps14
                    go_wp2_with fail
                    refine (Btw_at 0 b 7 true _ H0).mono ?_
                    rintro e w1 ⟨rfl, hw⟩; subst w1
                    go_wp2_with fail
                    refine (Btw_at 1 5 5 true _ H1).mono ?_
                    rintro e w1 ⟨rfl, hw⟩; subst w1
                    go_wp2_with fail
                    refine (Btw_at 0 0 1000000 true _ H2).mono ?_
                    rintro e w1 ⟨rfl, hw⟩; subst w1
                    go_wp2_with fail
                    refine (CellNear_at 0 y true _ HC).mono ?_
                    rintro e w1 ⟨rfl, hb1⟩
                    obtain ⟨z0, z1, z2, z3, z4, z5⟩ := box6 hb1
                    have HB1 : Hid (Below w.heap.size w w1) := below_step (alloc_below _ _) (alloc_below w _).size hb1
                    clear hb1
                    go_wp2_with fail
                    refine (Btw_at 0 a 1000000 true _ H5).mono ?_
                    rintro e w2 ⟨rfl, hw⟩; subst w2
                    go_wp2_with fail
                    go_ret
                    exact ⟨ret_int HE.out.symm, HB1.out⟩
                · have HE : Hid (oe ⟨b, 5, 0, x, y, a⟩ = 4) := oe_form hw (by simp [nd, gx])
                  have H1 : Hid (frm 1 5 5 = true) := h1
                  clear hw h1
                  go_enter Try.func14, Try.ntmps14
                  go_wp2_with fail
                  refine (Btw_at 0 b 7 true _ H0).mono ?_
                  rintro e w1 ⟨rfl, hw⟩; subst w1
                  go_wp2_with fail
                  refine (Btw_at 1 5 5 true _ H1).mono ?_
                  rintro e w1 ⟨rfl, hw⟩; subst w1
                  go_wp2_with fail
                  refine (Btw_at 0 0 1000000 true _ H2).mono ?_
                  rintro e w1 ⟨rfl, hw⟩; subst w1
                  go_wp2_with fail
                  refine (CellNear_at x y true _ HC).mono ?_
                  rintro e w1 ⟨rfl, hb1⟩
                  obtain ⟨z0, z1, z2, z3, z4, z5⟩ := box6 hb1
                  have HB1 : Hid (Below w.heap.size w w1) := below_step (alloc_below _ _) (alloc_below w _).size hb1
                  clear hb1
                  go_wp2_with fail
                  refine (Btw_at 0 a 1000000 true _ H5).mono ?_
                  rintro e w2 ⟨rfl, hw⟩; subst w2
                  go_wp2_with fail
                  go_ret
                  exact ⟨ret_int HE.out.symm, HB1.out⟩
              · have HE : Hid (oe ⟨b, 5, wh, x, y, a⟩ = 4) := oe_form hw (by simp [nd, gwh])
                have H1 : Hid (frm 1 5 5 = true) := h1
                clear hw h1
                go_enter Try.func14, Try.ntmps14
                go_wp2_with fail
                refine (Btw_at 0 b 7 true _ H0).mono ?_
                rintro e w1 ⟨rfl, hw⟩; subst w1
                go_wp2_with fail
                refine (Btw_at 1 5 5 true _ H1).mono ?_
                rintro e w1 ⟨rfl, hw⟩; subst w1
                go_wp2_with fail
                refine (Btw_at 0 wh 1000000 true _ H2).mono ?_
                rintro e w1 ⟨rfl, hw⟩; subst w1
                go_wp2_with fail
                refine (CellNear_at x y true _ HC).mono ?_
                rintro e w1 ⟨rfl, hb1⟩
                obtain ⟨z0, z1, z2, z3, z4, z5⟩ := box6 hb1
                have HB1 : Hid (Below w.heap.size w w1) := below_step (alloc_below _ _) (alloc_below w _).size hb1
                clear hb1
                go_wp2_with fail
                refine (Btw_at 0 a 1000000 true _ H5).mono ?_
                rintro e w2 ⟨rfl, hw⟩; subst w2
                go_wp2_with fail
                go_ret
                exact ⟨ret_int HE.out.symm, HB1.out⟩
theorem neq6 (b k x0 x1 x2 x3 y0 y1 y2 y3 : Int) (w : World) : (binOp .neq 25 (.agg #[.int .i64 b, .int .i64 k, .int .i64 x0, .int .i64 x1, .int .i64 x2, .int .i64 x3]) (.agg #[.int .i64 b, .int .i64 k, .int .i64 y0, .int .i64 y1, .int .i64 y2, .int .i64 y3])).run Try.prog w = .ok (.bool (!(decide (x0 = y0) && (decide (x1 = y1) && (decide (x2 = y2) && decide (x3 = y3)))))) w := by
  by_cases h0 : x0 = y0
  · subst h0
    by_cases h1 : x1 = y1
    · subst h1
      by_cases h2 : x2 = y2
      · subst h2
        by_cases h3 : x3 = y3
        · subst h3
          go_simp
        · have e3 : (x3 == y3) = false := by simpa using h3
          go_simp
      · have e2 : (x2 == y2) = false := by simpa using h2
        go_simp
    · have e1 : (x1 == y1) = false := by simpa using h1
      go_simp
  · have e0 : (x0 == y0) = false := by simpa using h0
    go_simp
end Go.Proofs.Ytgebfpncapfaoaa
