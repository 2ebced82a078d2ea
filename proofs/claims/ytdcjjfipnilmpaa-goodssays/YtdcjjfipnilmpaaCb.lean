/- What slices.Clone returns of bools; rows of bools and of deeds that grow. -/
import Derived.Test.YtdcjjfipnilmpaaMG
import Derived.Test.YtdcjjfipnilmpaaEb
namespace Go.Proofs.Ytdcjjfipnilmpaa
open Go.RowKit
set_option linter.unusedVariables false

theorem rowb_raw {w : World} {p : Option Addr} {l : List Bool} (h : row vbl w p l) : row id w p (l.map vbl) := fun j u hj => by
  rw [List.getElem?_map] at hj
  cases hl : l[j]? with
  | none => rw [hl] at hj; cases hj
  | some x => rw [hl] at hj; simp at hj; subst hj; exact h j x hl
theorem rowb_lies {w : World} {a : Addr} {l : List Bool} (h : row vbl w (some a) l) : ∀ j u, (l.map vbl)[j]? = some u → w.cell? (a.add j) = some u := fun j u hj => by
  obtain ⟨b, hb, hc⟩ := rowb_raw h j u hj
  cases hb; exact hc
theorem deed_lies {w : World} {a : Addr} {l : List Ded} (h : dor w (some a) l) : ∀ j u, (flatd l)[j]? = some u → w.cell? (a.add j) = some u := fun j u hj => by
  obtain ⟨b, hb, hc⟩ := h j u hj
  cases hb; exact hc
theorem append_none {B : Nat} {w : World} (t ty e : TypeId) (i : TypeInfo) (size : Nat) (ht : Try.prog.underlying t = some (.slice e)) (hi : Try.prog.info? e = some i)
    (v : Value) (n : Nat) (xs : List Value) (hown : w.ownsRow B e size v n xs) (d : Nat) :
    (Builtin.append_ #[t, t] ty #[v, .slice none 0 d]).run Try.prog w = .ok v w := by
  rcases hown.2 with ⟨rfl, rfl⟩ | ⟨g, cap, cur, rfl, _, _, hnc, _⟩
  · simp [Builtin.append_, run_underlying ht, sizeOf, typeInfo, hi, Builtin.lenOf, Builtin.firstCells]
  · simp [Builtin.append_, run_underlying ht, sizeOf, typeInfo, hi, Builtin.lenOf, Builtin.firstCells, hnc, storeCells]
theorem grown_self (w : World) (r : Option Nat) : w.grownBy w r := ⟨rfl, rfl, rfl, Nat.le_refl _, fun _ _ _ => rfl⟩
/-- An append whose run is known, guarded or not. -/
theorem wpList_append_ran {P : Program} {ops : Array Oper} {rest : List Oper} {o : Oper} {a : Act} {w : World} {Q : Exit → Act → World → Prop} (s x : Operand) (t : TypeId) (ho : o.op = .call { callee := .builtin .append, args := #[s, x], argTypes := #[t, t] })
    (v y : Value) {v' : Value} {w' : World} (hs : a.eval s = v) (hx : a.eval x = y) (hr : (Builtin.append_ #[t, t] o.type #[v, y]).run P w = .ok v' w') (hw : Region.wanted o (yielded ops a.tmps) = true)
    (h : wpList P ops Q rest (a.put o.dst v') w') : wpList P ops Q (o :: rest) a w := by
  refine wpList_step fun K hK => ?_
  rw [if_pos hw]
  unfold Oper.wp execOp
  simp only [ho, resolve, invoke, builtin, Sem.run_bind, Sem.run_pure, Result.andThen_ok, List.map_toArray, List.map_cons, List.map_nil, hs, hx, hr]
  exact hK _ _ h
theorem run_cloneb (w : World) (a : Addr) (c : Nat) (L : List Bool) (h : row vbl w (some a) L) (hm : L.length ≤ 1000000) :
    ∃ v' w', (Builtin.append_ #[30, 30] 30 #[.slice (some ⟨w.heap.size, 0, none⟩) 0 0, .slice (some a) L.length c]).run Try.prog (w.alloc (.cells #[] 4)) = .ok v' w' ∧ mine 4 vbl w.heap.size w' v' L ∧ Below w.heap.size w w' := by
  obtain ⟨i0, hi, hz0, hz1, hz2⟩ := info_parts kbl
  have hM : (w.alloc (.cells #[] 4)).ownsRow w.heap.size 4 1 (.slice (some ⟨w.heap.size, 0, none⟩) 0 0) 0 [] := World.ownsRow_made w #[] 0 (Nat.le_refl _) (Nat.zero_le _) (by simp)
  have hnews2 : ∀ j u, (L.map vbl)[j]? = some u → (w.alloc (.cells #[] 4)).cell? (a.add j) = some u := fun j u hj => ((alloc_below w _).cell (cell_lt (rowb_lies h j u hj))).trans (rowb_lies h j u hj)
  obtain ⟨v', w', hrun, hown, hgr, _⟩ := run_append_own (P := Try.prog) (w.alloc (.cells #[] 4)) w.heap.size 30 30 4 i0 _ 1 1 Try.underlying30 hi hz0 hz1 hz2 rfl (by decide) _ 0 [] hM a L.length c (L.map vbl) (by simp) hnews2 (fun u hu => by obtain ⟨x, _, rfl⟩ := List.mem_map.1 hu; rfl) (by unfold maxLen; omega) (by omega) (by simp)
  simp only [Nat.zero_add, List.nil_append] at hown
  exact ⟨v', w', hrun, hown, (alloc_below w _).grown hgr (by simp) (by intro k hk; simp [Value.ownBlock] at hk; omega)⟩
set_option maxRecDepth 20000 in
set_option maxHeartbeats 1000000 in
theorem Cloneb_any (p : Option Addr) (n c : Nat) (L : List Bool) (w : World) (h : row vbl w p L) (hn : L.length = n) (hm : n ≤ 1000000) :
    Calls Try.prog 21 #[.slice p n c] w fun e w' => (∃ v, e = .returned v ∧ mine 4 vbl w.heap.size w' v L) ∧ Below w.heap.size w w' := by
  have q25 : ∀ (w : World) (a : Option Addr) (n c n' c' : Nat), (binOp .eql 30 (.slice a n c) (.slice none n' c')).run Try.prog w = .ok (.bool a.isNone) w := fun w a n c n' c' => Lib.run_eql_slice_nil w _ _ a n c n' c' Try.underlying30
  cases p with
  | none =>
    have h0 : n = 0 := by
      rcases Nat.eq_zero_or_pos n with h0 | h0
      · exact h0
      · obtain ⟨a, ha⟩ := row_some h (by omega)
        cases ha
    subst h0
    have hx0 : L = [] := List.eq_nil_of_length_eq_zero hn
    subst hx0
    clear h hn hm
    go_enter Try.func21, Try.ntmps21
    go_wp2_with fail
    go_ret
    exact ⟨⟨_, rfl, World.ownsRow_nil _ _ _ _⟩, Below.refl _ _⟩
  | some a =>
    obtain ⟨v', w', h1, h2, h4⟩ := run_cloneb w a c L h (by omega)
    rw [hn] at h1
    have HO : Hid (mine 4 vbl w.heap.size w' v' L) := h2
    have HB : Hid (Below w.heap.size w w') := h4
    have HRun : Hid ((Builtin.append_ #[30, 30] 30 #[.slice (some ⟨w.heap.size, 0, none⟩) 0 0, .slice (some a) n c]).run Try.prog (w.alloc (.cells #[] 4)) = .ok v' w') := h1
    clear h hn hm h1 h2 h4
    go_enter Try.func21, Try.ntmps21
    go_wp2_with (at_builtin; refine wpList_append_run rfl _ _ 30 rfl (.slice (some ⟨w.heap.size, 0, none⟩) 0 0) (.slice (some a) n c) rfl rfl HRun.out ?_)
    go_wp2_with fail
    go_ret
    exact ⟨⟨_, rfl, HO.out⟩, HB.out⟩
theorem run_moreb {B : Nat} {w : World} {v : Value} {Q R : List Bool} {p : Option Addr} {d m : Nat} (h : mine 4 vbl B w v Q) (hq : row vbl w p R) (hm : R.length = m) (hl : Q.length + m ≤ 2000000) (hB : B ≤ w.heap.size) :
    ∃ v' w', (Builtin.append_ #[30, 30] 30 #[v, .slice p m d]).run Try.prog w = .ok v' w' ∧ mine 4 vbl B w' v' (Q ++ R) ∧ w.grownBy w' v.ownBlock := by
  obtain ⟨i0, hi, hz0, hz1, hz2⟩ := info_parts kbl
  cases p with
  | none =>
    have h0 : R = [] := by
      rcases R with _ | ⟨x, R⟩
      · rfl
      · obtain ⟨a, ha, _⟩ := hq 0 x rfl
        cases ha
    subst h0
    obtain rfl : 0 = m := hm
    rw [List.append_nil]
    exact ⟨v, w, append_none 30 30 4 i0 1 Try.underlying30 hi v _ _ h d, h, grown_self w _⟩
  | some a =>
    obtain ⟨v', w', h1, h2, h3, _⟩ := run_append_own (P := Try.prog) w B 30 30 4 i0 _ 1 1 Try.underlying30 hi hz0 hz1 hz2 rfl (by decide) v Q.length (Q.map vbl) h a m d (R.map vbl) (by simpa using hm) (rowb_lies hq) (fun u hu => by obtain ⟨x, _, rfl⟩ := List.mem_map.1 hu; rfl) (by unfold maxLen; omega) (by omega) hB
    refine ⟨v', w', h1, ?_, h3⟩
    unfold mine
    rw [List.map_append, List.length_append, hm]; exact h2
theorem run_mored {B : Nat} {w : World} {v : Value} {Q R : List Ded} {p : Option Addr} {d m : Nat} (h : mined B w v Q) (hq : dor w p R) (hm : R.length = m) (hl : Q.length + m ≤ 2000000) (hB : B ≤ w.heap.size) :
    ∃ v' w', (Builtin.append_ #[29, 29] 29 #[v, .slice p m d]).run Try.prog w = .ok v' w' ∧ mined B w' v' (Q ++ R) ∧ w.grownBy w' v.ownBlock := by
  obtain ⟨i0, hi, hz0, hz1, hz2⟩ := info_parts kind_
  cases p with
  | none =>
    have h0 : R = [] := by
      rcases R with _ | ⟨x, R⟩
      · rfl
      · obtain ⟨a, ha, _⟩ := hq 0 (.int .i64 x.k) (by unfold flatd; simp [tl5])
        cases ha
    subst h0
    obtain rfl : 0 = m := hm
    rw [List.append_nil]
    exact ⟨v, w, append_none 29 29 52 i0 5 Try.underlying29 hi v _ _ h d, h, grown_self w _⟩
  | some a =>
    obtain ⟨v', w', h1, h2, h3, _⟩ := run_append_own (P := Try.prog) w B 29 29 52 i0 _ 5 40 Try.underlying29 hi hz0 hz1 hz2 rfl (by decide) v Q.length (flatd Q) h a m d (flatd R) (by rw [flatd_len, hm]) (deed_lies hq) (fun u hu => by obtain ⟨x, rfl⟩ := ints_flatd R u hu; rfl) (by unfold maxLen; omega) (by omega) hB
    refine ⟨v', w', h1, ?_, h3⟩
    unfold mined
    rw [flatd_app, List.length_append, hm]; exact h2
theorem mined_form {B : Nat} {w : World} {v : Value} {Q : List Ded} (h : mined B w v Q) : ∃ p c, v = .slice p Q.length c ∧ dor w p Q ∧ (p = none → c = 0) := by
  rcases h.2 with ⟨rfl, h0⟩ | ⟨g, cap, cur, rfl, _⟩
  · have e : Q = [] := by
      rcases Q with _ | ⟨x, R⟩
      · rfl
      · simp at h0
    subst e
    exact ⟨none, 0, rfl, fun j u hj => by simp [flatd] at hj, fun _ => rfl⟩
  · exact ⟨some ⟨g, 0, none⟩, cap, rfl, fun j u hj => ⟨_, rfl, World.ownsRow.cells (g := g) h rfl j u hj⟩, fun e => by cases e⟩
theorem mineb_form {B : Nat} {w : World} {v : Value} {Q : List Bool} (h : mine 4 vbl B w v Q) : ∃ p c, v = .slice p Q.length c ∧ row vbl w p Q ∧ (p = none → c = 0) := by
  rcases h.2 with ⟨rfl, h0⟩ | ⟨g, cap, cur, rfl, _⟩
  · have e : Q = [] := by
      rcases Q with _ | ⟨x, R⟩
      · rfl
      · simp at h0
    subst e
    exact ⟨none, 0, rfl, fun j u hj => by simp at hj, fun _ => rfl⟩
  · exact ⟨some ⟨g, 0, none⟩, cap, rfl, fun j u hj => ⟨_, rfl, World.ownsRow.cells (g := g) h rfl j (vbl u) (by rw [List.getElem?_map, hj]; rfl)⟩, fun e => by cases e⟩
end Go.Proofs.Ytdcjjfipnilmpaa
