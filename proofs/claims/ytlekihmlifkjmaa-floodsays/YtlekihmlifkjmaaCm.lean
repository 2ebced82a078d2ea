/- Rows of cells of one's own: a copy, and a list laid behind it. Two floods in one. -/
import Derived.Test.YtlekihmlifkjmaaFw
import Derived.Laws.AppendOwnNone
namespace Go.Proofs.Ytlekihmlifkjmaa
open Go.RowKit
set_option linter.unusedVariables false

def cl2 (c : Cel) : List Value := [.int .i64 c.x, .int .i64 c.y]
def flat2 (cs : List Cel) : List Value := cs.flatMap cl2
theorem flat2_cons (s : Cel) (Q : List Cel) : flat2 (s :: Q) = .int .i64 s.x :: .int .i64 s.y :: flat2 Q := rfl
theorem flat2_len (Q : List Cel) : (flat2 Q).length = Q.length * 2 := by
  induction Q with
  | nil => rfl
  | cons s Q ih => rw [flat2_cons]; simp [ih]; omega
theorem flat2_app (Q R : List Cel) : flat2 (Q ++ R) = flat2 Q ++ flat2 R := by unfold flat2; rw [List.flatMap_append]
theorem flat2_at (Q : List Cel) : ∀ k, (h : k < Q.length) → (flat2 Q)[k * 2]? = some (.int .i64 Q[k].x) ∧ (flat2 Q)[k * 2 + 1]? = some (.int .i64 Q[k].y) := by
  induction Q with
  | nil => intro k h; simp at h
  | cons s Q ih =>
    intro k h
    rw [flat2_cons]
    cases k with
    | zero => exact ⟨rfl, rfl⟩
    | succ k =>
      have := ih k (by simpa using h)
      have e : (k + 1) * 2 = k * 2 + 2 := by omega
      rw [e]
      exact this
theorem flat2_one (Q : List Cel) : ∀ u ∈ flat2 Q, u.oneCell' = true := by
  intro u hu
  unfold flat2 at hu
  obtain ⟨c, _, h⟩ := List.mem_flatMap.1 hu
  simp [cl2] at h
  rcases h with rfl | rfl <;> rfl
theorem flat2_in {w : World} {a : Addr} {Q : List Cel} (h : crow w (some a) Q) : ∀ j u, (flat2 Q)[j]? = some u → w.cell? (a.add j) = some u := by
  intro j u hj
  have hjl : j < Q.length * 2 := by have := (List.getElem?_eq_some_iff.1 hj).1; rwa [flat2_len] at this
  obtain ⟨b, hb, h1, h2⟩ := crow_at h (j := j / 2) (by omega)
  cases hb
  have h3 := flat2_at Q (j / 2) (by omega)
  have : j = j / 2 * 2 ∨ j = j / 2 * 2 + 1 := by omega
  rcases this with e | e
  · rw [e, h3.1] at hj; rw [e, h1]; exact hj
  · rw [e, h3.2] at hj; rw [e, h2]; exact hj
/-- v is a row of cells of one's own, or nil. -/
def minec (B : Nat) (w : World) (v : Value) (Q : List Cel) : Prop := w.ownsRow B 38 2 v Q.length (flat2 Q)
theorem minec_nil (B : Nat) (w : World) : minec B w (.slice none 0 0) [] := World.ownsRow_nil _ _ _ _
theorem minec_full {B : Nat} {w : World} {v : Value} {Q : List Cel} (h : minec B w v Q) : ∃ p c, v = .slice p Q.length c ∧ crow w p Q ∧ Q.length ≤ c ∧ (p = none → c = 0) := by
  rcases h.2 with ⟨h0, hn⟩ | ⟨g, cap, cur, hv, hB, hblk, hr⟩
  · have : Q = [] := List.eq_nil_of_length_eq_zero hn
    subst this
    exact ⟨none, 0, h0, crow_nil _ _, Nat.le_refl _, fun _ => rfl⟩
  · subst hv
    refine ⟨_, _, rfl, fun j x hj => ⟨_, rfl, ?_⟩, hr.1, fun h => by cases h⟩
    have hjl : j < Q.length := (List.getElem?_eq_some_iff.1 hj).1
    have h3 := flat2_at Q j hjl
    have e : Q[j] = x := by have := List.getElem?_eq_getElem hjl; rw [this] at hj; cases hj; rfl
    rw [e] at h3
    rw [add_zero_at, add_zero_at, World.ownsRow.cellAt h _ (by omega), World.ownsRow.cellAt h _ (by omega)]
    exact h3
theorem minec_below {B : Nat} {w w' : World} {v : Value} {Q : List Cel} (h : minec B w v Q) (hb : Below w.heap.size w w') : minec B w' v Q := by
  refine ⟨h.1, ?_⟩
  rcases h.2 with h0 | ⟨g', cap, cur, hv, hB, hblk, hr⟩
  · exact .inl h0
  · refine .inr ⟨g', cap, cur, hv, hB, ?_, hr⟩
    have : g' < w.heap.size := by
      rcases Nat.lt_or_ge g' w.heap.size with hlt | hge
      · exact hlt
      · rw [Array.getElem?_eq_none hge] at hblk; cases hblk
    rw [hb.block g' this]; exact hblk
theorem kcell : (Try.prog.info? 38).map (fun i => (i.zero, i.size, i.bytes)) = some (some (.agg #[.int .i64 0, .int .i64 0]), 2, 16) := by kernel_rfl
/-- Whatever list of cells is laid behind a row of one's own. -/
theorem run_more {B : Nat} {w : World} {v : Value} {Q R : List Cel} {q : Option Addr} {d m : Nat} (ty : TypeId) (h : minec B w v Q) (hq : crow w q R) (hm : R.length = m) (hqd : q = none → d = 0) (hl : Q.length + m ≤ 4000000) (hB : B ≤ w.heap.size) :
    ∃ v' w', (Builtin.append_ #[25, 25] ty #[v, .slice q m d]).run Try.prog w = .ok v' w' ∧ minec B w' v' (Q ++ R) ∧ w.grownBy w' v.ownBlock := by
  obtain ⟨i0, hi, hz0, hz1, hz2⟩ := info_parts kcell
  cases q with
  | some a =>
    obtain ⟨v', w', h1, h2, h3, _⟩ := run_append_own (P := Try.prog) w B 25 ty 38 i0 _ 2 16 Try.underlying25 hi hz0 hz1 hz2 rfl (by decide) v Q.length (flat2 Q) h a m d (flat2 R) (by rw [flat2_len, hm]) (flat2_in hq) (flat2_one R) (by unfold maxLen; omega) (by omega) hB
    refine ⟨v', w', h1, ?_, h3⟩
    unfold minec
    rw [flat2_app, List.length_append, hm]; exact h2
  | none =>
    have hR : R = [] := by
      rcases Nat.eq_zero_or_pos R.length with h0 | h0
      · exact List.eq_nil_of_length_eq_zero h0
      · obtain ⟨b, hb, _⟩ := crow_at hq (j := 0) h0
        cases hb
    subst hR
    have hm0 : m = 0 := by simpa using hm.symm
    subst hm0
    obtain ⟨p, c, rfl, _, hc, _⟩ := minec_full h
    refine ⟨.slice p Q.length c, w, ?_, by simpa using h, ⟨rfl, rfl, rfl, Nat.le_refl _, fun _ _ _ => rfl⟩⟩
    have hu := Try.underlying25
    cases p with
    | none => simp [Builtin.append_, run_underlying hu, sizeOf, typeInfo, hi, Builtin.lenOf, Builtin.firstCells, hc]
    | some a => simp [Builtin.append_, run_underlying hu, sizeOf, typeInfo, hi, Builtin.lenOf, Builtin.firstCells, hc, storeCells]
theorem minec_form {B n : Nat} {w : World} {v : Value} {Q : List Cel} (h : minec B w v Q) (hn : Q.length = n) : ∃ p c, v = .slice p n c ∧ crow w p Q := by
  obtain ⟨p, c, e, hc, _⟩ := minec_full h
  exact ⟨p, c, by rw [e, hn], hc⟩
theorem step_append_run {P : Program} {ops : Array Oper} {o : Oper} {a : Act} {w : World} {K : Act → World → Prop} {Q : Exit → Act → World → Prop} {E : Prop} (hgd : o.guard = none) (s x : Operand) (t : TypeId)
    (ho : o.op = .call { callee := .builtin .append, args := #[s, x], argTypes := #[t, t] }) (v u : Value) (hs : a.eval s = v) (hx : a.eval x = u) {v' : Value} {w' : World} (hrun : (Builtin.append_ #[t, t] o.type #[v, u]).run P w = .ok v' w')
    (h : K (a.put o.dst v') w') : if Region.wanted o (yielded ops a.tmps) = true then Oper.wp P o a w K Q else E := by
  have hw : Region.wanted o (yielded ops a.tmps) = true := by simp [Region.wanted, hgd]
  rw [if_pos hw]
  unfold Oper.wp
  simp [execOp, ho, resolve, invoke, builtin, hs, hx, hrun, Result.andThen]
  exact h
theorem wpList_append_run {P : Program} {ops : Array Oper} {rest : List Oper} {o : Oper} {a : Act} {w : World} {Q : Exit → Act → World → Prop} (hgd : o.guard = none) (s x : Operand) (t : TypeId)
    (ho : o.op = .call { callee := .builtin .append, args := #[s, x], argTypes := #[t, t] }) (v u : Value) (hs : a.eval s = v) (hx : a.eval x = u) {v' : Value} {w' : World} (hrun : (Builtin.append_ #[t, t] o.type #[v, u]).run P w = .ok v' w')
    (h : wpList P ops Q rest (a.put o.dst v') w') : wpList P ops Q (o :: rest) a w := by
  refine wpList_plain hgd fun K hK => ?_
  unfold Oper.wp
  simp [execOp, ho, resolve, invoke, builtin, hs, hx, hrun, Result.andThen]
  exact hK _ _ h
set_option maxRecDepth 20000 in
set_option maxHeartbeats 1000000 in
theorem Clonec_any (p : Option Addr) (n c : Nat) (cs : List Cel) (w : World) (h : crow w p cs) (hn : cs.length = n) (hc : p = none → c = 0) (hl : n ≤ 2000000) :
    Calls Try.prog 15 #[.slice p n c] w fun e w' => ∃ v, e = .returned v ∧ minec w.heap.size w' v cs ∧ Below w.heap.size w w' := by
  have q25 : ∀ (w : World) (a : Option Addr) (n c n' c' : Nat), (binOp .eql 25 (.slice a n c) (.slice none n' c')).run Try.prog w = .ok (.bool a.isNone) w := fun w a n c n' c' => Lib.run_eql_slice_nil w _ _ a n c n' c' Try.underlying25
  cases p with
  | none =>
    have hl0 : cs = [] := by
      rcases Nat.eq_zero_or_pos cs.length with h0 | h0
      · exact List.eq_nil_of_length_eq_zero h0
      · obtain ⟨b, hb, _⟩ := crow_at h (j := 0) h0
        cases hb
    subst hl0
    have : c = 0 := hc rfl
    subst this
    clear h hc
    go_enter Try.func15, Try.ntmps15
    go_wp2_with fail
    go_ret
    exact ⟨_, rfl, minec_nil _ _, Below.refl _ _⟩
  | some a =>
    have hM : minec w.heap.size (w.alloc (.cells #[] 38)) (.slice (some ⟨w.heap.size, 0, none⟩) 0 0) [] := World.ownsRow_made w #[] 0 (Nat.le_refl _) (Nat.zero_le _) (by simp)
    obtain ⟨v', w', h1, h2, h3⟩ := run_more (d := c) 25 hM (crow_below h (alloc_below w _)) hn (fun h => by cases h) (by simp; omega) (by simp)
    have HO : Hid (minec w.heap.size w' v' cs) := by unfold Hid; simpa using h2
    have HB : Hid (Below w.heap.size w w') := (alloc_below w _).grown h3 (by simp) (by intro k hk; simp [Value.ownBlock] at hk; omega)
    have HRun : Hid ((Builtin.append_ #[25, 25] 25 #[.slice (some ⟨w.heap.size, 0, none⟩) 0 0, .slice (some a) n c]).run Try.prog (w.alloc (.cells #[] 38)) = .ok v' w') := h1
    clear h h1 h2 h3 hM hc
    go_enter Try.func15, Try.ntmps15
    go_wp2_with (at_builtin; refine wpList_append_run rfl _ _ 25 rfl (.slice (some ⟨w.heap.size, 0, none⟩) 0 0) (.slice (some a) n c) rfl rfl HRun.out ?_)
    go_wp2_with fail
    go_ret
    exact ⟨_, rfl, HO.out, HB.out⟩

/-- Of two distances the nearer one. -/
def cmb (x y : Int) : Int := if min x y < 0 then max x y else min x y
theorem cmb_low {x y : Int} (hx : -1 ≤ x) (hy : -1 ≤ y) : (cmb x y = x ∨ cmb x y = y) ∧ -1 ≤ cmb x y ∧ (0 ≤ x → 0 ≤ cmb x y ∧ cmb x y ≤ x) ∧ (0 ≤ y → 0 ≤ cmb x y ∧ cmb x y ≤ y) := by
  unfold cmb
  split <;> omega
theorem cke_app {W H : Nat} {l : List Int} : ∀ {cs ds : List Cel}, cke W H l cs = 0 → cke W H l ds = 0 → cke W H l (cs ++ ds) = 0 := by
  intro cs
  induction cs with
  | nil => intro ds _ h; exact h
  | cons c cs ih =>
    intro ds h1 h2
    rw [List.cons_append]
    unfold cke at h1 ⊢
    split
    · rw [if_pos (by assumption)] at h1; omega
    · rw [if_neg (by assumption)] at h1
      split
      · rw [if_pos (by assumption)] at h1; omega
      · rw [if_neg (by assumption)] at h1
        exact ih h1 h2
theorem fst_app {W : Nat} {cs ds : List Cel} (i : Nat) : fst_ W (cs ++ ds) i ↔ fst_ W cs i ∨ fst_ W ds i := by
  unfold fst_
  constructor
  · rintro ⟨x, y, h, e⟩
    rcases List.mem_append.1 h with h | h
    · exact .inl ⟨x, y, h, e⟩
    · exact .inr ⟨x, y, h, e⟩
  · rintro (⟨x, y, h, e⟩ | ⟨x, y, h, e⟩)
    · exact ⟨x, y, List.mem_append_left _ h, e⟩
    · exact ⟨x, y, List.mem_append_right _ h, e⟩
theorem sol_comb {W H : Nat} {l : List Int} {S T : Nat → Prop} {a b c : List Int} (ha : Sol W H l S a) (hb : Sol W H l T b) (hc : Sol W H l (fun i => T i ∨ S i) c) : ∀ i, i < W * H → pa c i = cmb (pa a i) (pa b i) := by
  have lo : ∀ i, i < W * H → -1 ≤ pa a i ∧ -1 ≤ pa b i := fun i hi => by
    rcases ha.low i hi with e | e <;> rcases hb.low i hi with e' | e' <;> omega
  have hp : ∀ i, i < W * H → pa ((List.range (W * H)).map fun i => cmb (pa a i) (pa b i)) i = cmb (pa a i) (pa b i) := by
    intro i hi
    rw [pa_get _ (by simpa using hi)]; simp
  have hs : Sol W H l (fun i => T i ∨ S i) ((List.range (W * H)).map fun i => cmb (pa a i) (pa b i)) := by
    have best : ∀ i j, adj W H i j → 0 ≤ cmb (pa a i) (pa b i) → pa l j ≠ 1 → 0 ≤ cmb (pa a j) (pa b j) ∧ cmb (pa a j) (pa b j) ≤ cmb (pa a i) (pa b i) + kc (pa l j) := by
      intro i j hij h0 hr
      have hi := lo i (adj_lt hij).1
      have hj := lo j (adj_lt hij).2
      have ci := cmb_low hi.1 hi.2
      have cj := cmb_low hj.1 hj.2
      rcases ci.1 with e | e
      · have := ha.best i j hij (by omega) hr
        have := cj.2.2.1 this.1
        omega
      · have := hb.best i j hij (by omega) hr
        have := cj.2.2.2 this.1
        omega
    refine ⟨by simp, fun i hi => ?_, fun i hi => ?_, fun i hi hr => ?_, fun i j hij h0 hr => ?_, fun i hi h0 => ?_, fun i hi => ?_⟩
    · rw [hp i hi]
      have h1 := ha.zero i hi
      have h2 := hb.zero i hi
      have h3 := lo i hi
      have ci := cmb_low h3.1 h3.2
      constructor
      · intro e
        rcases ci.1 with q | q
        · exact .inr (h1.1 (by omega))
        · exact .inl (h2.1 (by omega))
      · rintro (q | q)
        · have := h2.2 q; have := ci.2.2.2 (by omega); omega
        · have := h1.2 q; have := ci.2.2.1 (by omega); omega
    · rw [hp i hi]
      have h3 := lo i hi
      have ci := cmb_low h3.1 h3.2
      omega
    · rw [hp i hi, ha.rock i hi hr, hb.rock i hi hr]; decide
    · rw [hp i (adj_lt hij).1] at h0 ⊢
      rw [hp j (adj_lt hij).2]
      exact best i j hij h0 hr
    · rw [hp i hi] at h0 ⊢
      have h3 := lo i hi
      have ci := cmb_low h3.1 h3.2
      have hr : pa l i ≠ 1 := fun e => by rw [ha.rock i hi e, hb.rock i hi e] at h0; simp [cmb] at h0
      rcases ci.1 with q | q
      · obtain ⟨n, h1, h2, h4⟩ := ha.just i hi (by omega)
        have hn := lo n (adj_lt h1).1
        have cn := (cmb_low hn.1 hn.2).2.2.1 h2
        have := best n i h1 cn.1 hr
        exact ⟨n, h1, by rw [hp n (adj_lt h1).1]; exact cn.1, by rw [hp n (adj_lt h1).1]; omega⟩
      · obtain ⟨n, h1, h2, h4⟩ := hb.just i hi (by omega)
        have hn := lo n (adj_lt h1).1
        have cn := (cmb_low hn.1 hn.2).2.2.2 h2
        have := best n i h1 cn.1 hr
        exact ⟨n, h1, by rw [hp n (adj_lt h1).1]; exact cn.1, by rw [hp n (adj_lt h1).1]; omega⟩
    · rw [hp i hi]
      have h3 := lo i hi
      have ci := cmb_low h3.1 h3.2
      have := ha.top i hi
      have := hb.top i hi
      omega
  intro i hi
  rw [sol_one hc hs, hp i hi]
end Go.Proofs.Ytlekihmlifkjmaa
