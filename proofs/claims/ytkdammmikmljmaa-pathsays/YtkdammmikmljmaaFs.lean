/- What the document's own answer is: distances that are made better till nothing is. -/
import Derived.Test.YtkdammmikmljmaaRf
import Derived.Test.YtkdammmikmljmaaMl
import Derived.Deep.LoopGhost
namespace Go.Proofs.Ytkdammmikmljmaa
open Go.RowKit
set_option linter.unusedVariables false

set_option maxRecDepth 20000 in
set_option maxHeartbeats 1000000 in
theorem Floods_no (W H : Int) (p q : Option Addr) (n c m d : Nat) (l : List Int) (E : Int) (w : World) (hr : row vi w p l) (hn : l.length = n) (hm : n ≤ 9223372036854775807) (hE : Hid (ck W H l = E)) (h0 : E ≠ 0) :
    Calls Try.prog 23 #[.agg #[.int .i64 W, .int .i64 H, .slice p n c], .slice q m d] w fun e w' => e = .returned (.tuple #[.slice none 0 0, .int .i64 E]) ∧ Below w.heap.size w w' := by
  have HR : Hid (row vi w p l) := hr
  have HN : Hid (l.length = n) := hn
  clear hr hn
  have e0 : (E == 0) = false := by simp [h0]
  go_enter Try.func23, Try.ntmps23
  go_wp2_with fail
  refine (Right_any W H p n c l E _ (row_below HR.out (alloc_below _ _)) HN.out hm hE).mono ?_
  rintro e w1 ⟨rfl, hb⟩
  have HB : Hid (Below w.heap.size w w1) := below_step (alloc_below w _) (by simp) hb
  clear hb
  go_wp2_with fail
  go_ret2
  exact ⟨rfl, HB.out⟩
set_option maxRecDepth 20000 in
set_option maxHeartbeats 1000000 in
theorem Floods_many (W H : Int) (p q : Option Addr) (n c m d : Nat) (l : List Int) (w : World) (hr : row vi w p l) (hn : l.length = n) (hm : n ≤ 9223372036854775807) (hE : Hid (ck W H l = 0)) (h0 : 100 < m) :
    Calls Try.prog 23 #[.agg #[.int .i64 W, .int .i64 H, .slice p n c], .slice q m d] w fun e w' => e = .returned (.tuple #[.slice none 0 0, .int .i64 2]) ∧ Below w.heap.size w w' := by
  have HR : Hid (row vi w p l) := hr
  have HN : Hid (l.length = n) := hn
  clear hr hn
  have h1 : (100 : Int) < m := by omega
  go_enter Try.func23, Try.ntmps23
  go_wp2_with fail
  refine (Right_any W H p n c l 0 _ (row_below HR.out (alloc_below _ _)) HN.out hm hE).mono ?_
  rintro e w1 ⟨rfl, hb⟩
  have HB : Hid (Below w.heap.size w w1) := below_step (alloc_below w _) (by simp) hb
  clear hb
  go_wp2_with fail
  go_ret2
  exact ⟨rfl, HB.out⟩
/-- The distances lie in block g, all else is as it was. -/
def flm (g N : Nat) (w2 wr : World) (far : List Int) : Prop := mine 3 vi g wr (.slice (some ⟨g, 0, none⟩) N N) far ∧ far.length = N ∧ Ex (fun k => k = g) w2 wr
section
variable {g N : Nat} {w2 wr w' : World} {far : List Int}
theorem flm_below (h : flm g N w2 wr far) (hb : Below wr.heap.size wr w') : flm g N w2 w' far := ⟨mine_below h.1 hb, h.2.1, h.2.2.trans (Ex.of_below (S := fun _ => False) hb) (fun _ _ e => e.elim)⟩
theorem flm_set (h : flm g N w2 wr far) (i : Nat) (x : Int) : flm g N w2 (wr.setCell ⟨g, i, none⟩ (.int .i64 x)) (far.set i x) := by
  have h1 : wr.ownsRow g 3 1 (.slice (some ⟨g, 0, none⟩) N N) N (far.map vi) := by have := h.1; unfold mine at this; rwa [h.2.1] at this
  refine ⟨?_, by simpa using h.2.1, h.2.2.trans (Ex.set (S := fun k => k = g) wr ⟨g, i, none⟩ rfl _) (fun _ _ e => e)⟩
  have := (World.ownsRow.stored h1 i (.int .i64 x)).1
  unfold mine
  rw [List.length_set, List.map_set, h.2.1]; exact this
theorem flm_cell (h : flm g N w2 wr far) {i : Nat} (hi : i < N) : wr.cell? ⟨g, i, none⟩ = some (.int .i64 (pa far i)) ∧ wr.frozen? ⟨g, i, none⟩ = false := by
  have h1 : wr.ownsRow g 3 1 (.slice (some ⟨g, 0, none⟩) N N) N (far.map vi) := by have := h.1; unfold mine at this; rwa [h.2.1] at this
  refine ⟨?_, World.ownsRow.frozenAt h1 i⟩
  rw [World.ownsRow.cellAt h1 i (by omega), List.getElem?_map, List.getElem?_eq_getElem (by rw [h.2.1]; exact hi), pa_get far (by rw [h.2.1]; exact hi)]; rfl
end
theorem bsd_adj {W H X Y : Nat} (hX : X < W) (hY : Y < H) {c : Cel} (h : c ∈ bsd W H X Y 4) : ∃ x y : Nat, c = ⟨x, y⟩ ∧ x < W ∧ y < H ∧ adj W H (Y * W + X) (y * W + x) := by
  unfold bsd at h
  obtain ⟨h1, h2⟩ := List.mem_filter.1 h
  have h3 : c ∈ four X Y := List.mem_of_mem_take h1
  obtain ⟨k, hk⟩ := List.getElem?_of_mem h3
  have hk4 : k < 4 := (List.getElem?_eq_some_iff.1 hk).1
  rw [four_at _ _ hk4] at hk
  have hc : c = ⟨bX X k, bY Y k⟩ := (Option.some.inj hk).symm
  rw [hc] at h2
  obtain ⟨x, y, ex, ey, hx, hy⟩ := inb_nat h2
  simp only at ex ey
  exact ⟨x, y, by rw [hc, ex, ey], hx, hy, adj_bes hk4 hX hY ex ey hx hy⟩
theorem adj_bsd {W H X Y n : Nat} (hX : X < W) (hY : Y < H) (h : adj W H (Y * W + X) n) : ∃ x y : Nat, (⟨x, y⟩ : Cel) ∈ bsd W H X Y 4 ∧ n = y * W + x ∧ x < W ∧ y < H := by
  obtain ⟨k, x, y, hk, ex, ey, hx, hy, e⟩ := bes_adj hX h
  refine ⟨x, y, ?_, e, hx, hy⟩
  unfold bsd
  refine List.mem_filter.2 ⟨?_, ?_⟩
  · have h4 : (four (X : Int) Y).take 4 = four X Y := rfl
    rw [h4]
    have := List.mem_of_getElem? (four_at (X : Int) Y hk)
    rwa [ex, ey] at this
  · show inb W H x y = true
    unfold inb; simp; omega
theorem fst_drop {W : Nat} (i : Nat) : (False : Prop) ↔ fst_ W ([] : List Cel) i := ⟨fun e => e.elim, fun ⟨x, y, h, _⟩ => by cases h⟩
theorem fst_rock {W H : Nat} {l : List Int} {cs : List Cel} (h : cke W H l cs = 0) (i : Nat) (hi : fst_ W cs i) : pa l i ≠ 1 := by
  obtain ⟨x, y, hm, e⟩ := hi
  obtain ⟨x', y', hc, _, _, hr⟩ := cke_zero h _ hm
  simp only [Cel.mk.injEq] at hc
  have : x = x' := by omega
  have : y = y' := by omega
  subst_vars; exact hr
/-- What the document's own answer ends with. -/
def fcp (W H : Nat) (l : List Int) (cs : List Cel) (E : Int) (w w' : World) (e : Ending) : Prop := (E ≠ 0 ∧ e = .returned (.tuple #[.slice none 0 0, .int .i64 E])) ∨ (E = 0 ∧ ∃ (g : Nat) (far : List Int), e = .returned (.tuple #[.slice (some ⟨g, 0, none⟩) (W * H) (W * H), .int .i64 0]) ∧ mine 3 vi w.heap.size w' (.slice (some ⟨g, 0, none⟩) (W * H) (W * H)) far ∧ Sol W H l (fst_ W cs) far)
/-- How the round over the places beside one stands. -/
def rnj (W H : Nat) (l : List Int) (S : Nat → Prop) (far0 : List Int) (b : Bool) (i : Nat) (L : List Cel) (j : Nat) (far : List Int) : Prop :=
  FI W H l S far ∧ (b = false → far = far0 ∧ (∀ i' n, i' < i → adj W H n i' → nim l far i' n) ∧ ∀ (j' x y : Nat), j' < j → L[j']? = some ⟨x, y⟩ → nim l far i (y * W + x)) ∧ (b = true → sm far < sm far0)
section
variable {W H : Nat} {l : List Int} {S : Nat → Prop} {far0 far : List Int} {b : Bool} {i : Nat} {L : List Cel} {j x y : Nat}
theorem rnj_start (h : rnd W H l S far0 b i far) : rnj W H l S far0 b i L 0 far := ⟨h.1, fun hb => ⟨(h.2.1 hb).1, (h.2.1 hb).2, fun j' x y hj => by omega⟩, h.2.2⟩
theorem rnj_skip (h : rnj W H l S far0 b i L j far) (hL : L[j]? = some ⟨x, y⟩) (hn : nim l far i (y * W + x)) : rnj W H l S far0 b i L (j + 1) far := by
  refine ⟨h.1, fun hb => ⟨(h.2.1 hb).1, (h.2.1 hb).2.1, fun j' x' y' hj' hL' => ?_⟩, h.2.2⟩
  by_cases e : j' = j
  · subst e
    rw [hL] at hL'
    have := Option.some.inj hL'
    simp only [Cel.mk.injEq] at this
    have e1 : x = x' := by omega
    have e2 : y = y' := by omega
    subst e1 e2; exact hn
  · exact (h.2.1 hb).2.2 j' x' y' (by omega) hL'
theorem rnj_best (h : rnj W H l S far0 b i L j far) (hN : W * H ≤ 1600) (ha : adj W H (y * W + x) i) (hr : pa l i ≠ 1) (hd : 0 ≤ pa far (y * W + x)) (hb : pa far i < 0 ∨ pa far (y * W + x) + kc (pa l i) < pa far i) : rnj W H l S far0 true i L (j + 1) (far.set i (pa far (y * W + x) + kc (pa l i))) := by
  refine ⟨fi_step h.1 ha hr hd hb, fun q => (by cases q), fun _ => ?_⟩
  have h1 := sm_less h.1 hN ha hd hb
  cases b with
  | true => have := h.2.2 rfl; omega
  | false => have := (h.2.1 rfl).1; rw [this] at h1 ⊢; exact h1
theorem rnj_end {X Y : Nat} (h : rnj W H l S far0 b i (bsd W H X Y 4) (bsd W H X Y 4).length far) (hX : X < W) (hY : Y < H) (hi : i = Y * W + X) : rnd W H l S far0 b (i + 1) far := by
  refine ⟨h.1, fun hb => ⟨(h.2.1 hb).1, fun i' n hi' ha => ?_⟩, h.2.2⟩
  by_cases e : i' = i
  · subst e
    have ha2 := adj_symm ha
    rw [hi] at ha2
    obtain ⟨x, y, hm, en, _, _⟩ := adj_bsd hX hY ha2
    obtain ⟨j', hj'⟩ := List.getElem?_of_mem hm
    rw [en]
    exact (h.2.1 hb).2.2 j' x y (List.getElem?_eq_some_iff.1 hj').1 hj'
  · exact (h.2.1 hb).2.1 i' n (by omega) ha
end
set_option maxRecDepth 20000 in
set_option maxHeartbeats 8000000 in
theorem Floods_cells (W H : Nat) (a : Addr) (q : Option Addr) (c m d : Nat) (l : List Int) (cs : List Cel) (E : Int) (w : World) (hr : row vi w (some a) l) (hW : 1 ≤ W ∧ W ≤ 40) (hH : 1 ≤ H ∧ H ≤ 40) (hl : l.length = W * H) (hg : l.any bad = false)
    (hc : crow w q cs) (hm : cs.length = m) (h100 : m ≤ 100) (hE : Hid (cke W H l cs = E)) :
    Calls Try.prog 23 #[.agg #[.int .i64 (W : Int), .int .i64 (H : Int), .slice (some a) (W * H) c], .slice q m d] w fun e w' => fcp W H l cs E w w' e ∧ Below w.heap.size w w' := by
  have HR : Hid (row vi w (some a) l) := hr
  have HC : Hid (crow w q cs) := hc
  have HM : Hid (cs.length = m) := hm
  have HX : Hid ((1 ≤ W ∧ W ≤ 40) ∧ (1 ≤ H ∧ H ≤ 40) ∧ l.length = W * H ∧ l.any bad = false) := ⟨hW, hH, hl, hg⟩
  have hN1 : 1 ≤ W * H := one_le hW hH
  have hN2 : W * H ≤ 1600 := wh_le hW hH
  have h1 : (m : Int) ≤ 100 := by omega
  clear hr hW hH hl hg hc hm
  obtain ⟨w0, hw0⟩ : ∃ w0, w.alloc (.cells #[.int .i64 (W : Int), .int .i64 (H : Int), .slice (some a) (W * H) c] 24) = w0 := ⟨_, rfl⟩
  have HB0 : Hid (Below w.heap.size w w0) := by rw [← hw0]; exact alloc_below _ _
  have hs0 : w0.heap.size = w.heap.size + 1 := by rw [← hw0]; simp
  have HF : Hid (∀ V, Below w0.heap.size w0 V → V.cell? ⟨w.heap.size, 0, none⟩ = some (.int .i64 (W : Int)) ∧ V.cell? ⟨w.heap.size, 1, none⟩ = some (.int .i64 (H : Int)) ∧ V.cell? ⟨w.heap.size, 2, none⟩ = some (.slice (some a) (W * H) c)) := by
    intro V hV; subst hw0; exact box3 hV
  obtain ⟨z0, z1, z2⟩ := HF.out w0 (Below.refl _ _)
  go_enter Try.func23, Try.ntmps23
  go_wp2_with fail
  refine (Right_any (W : Int) (H : Int) (some a) (W * H) c l 0 w0 (row_below HR.out HB0.out) HX.out.2.2.1 (by omega) (ck_ok HX.out.1 HX.out.2.1 HX.out.2.2.1 HX.out.2.2.2)).mono ?_
  rintro e w1 ⟨rfl, hb1⟩
  have HB1 : Hid (Below w0.heap.size w0 w1) := hb1
  obtain ⟨y0, y1, y2⟩ := HF.out w1 hb1
  have hs1 : w.heap.size + 1 ≤ w1.heap.size := by have := hb1.size; omega
  clear hb1 hw0 z0 z1 z2
  obtain ⟨i0, hi0, hz0, hz1, hz2⟩ := info_parts ki.hi
  go_wp2_with (at_make; refine wpList_make_full _ rfl (.tmp 27) (.tmp 27) 22 rfl w1.heap.size 3 i0 (.int .i64 0) 1 Try.underlying22 hi0 hz0 hz1 .i64 .i64 ((W : Int) * (H : Int)) ((W : Int) * (H : Int)) (W * H) rfl rfl (by simp) (by simp) ?_ ?_ (Nat.le_refl _) ?_)
  · rw [hz2]; omega
  · unfold maxLen; omega
  intro w2 hown hgr
  have e1 : (madeCells #[Value.int .i64 0] (W * H)).toList = (List.replicate (W * H) (0 : Int)).map vi := by
    rw [toList_madeCells_one (.int .i64 0) (W * H)]; simp [vi]
  rw [e1] at hown
  have HL2 : Hid (flm w1.heap.size (W * H) w2 w2 (List.replicate (W * H) 0)) := ⟨by unfold mine; simpa using hown, by simp, Ex.refl _ _⟩
  have hb12 : Below w1.heap.size w1 w2 := (Below.refl _ _).grown hgr (Nat.le_refl _) (by simp)
  have HALL : Hid (∀ V, Ex (fun k => k = w1.heap.size) w2 V → Below w1.heap.size w1 V ∧ Below w0.heap.size w0 V ∧ row vi V (some a) l ∧ crow V q cs ∧ Below w.heap.size w V) := fun V hV =>
    have h1 : Below w1.heap.size w1 V := hb12.trans (hV.below hb12.size (fun k hk e => by omega))
    have h2 : Below w0.heap.size w0 V := HB1.out.trans (h1.mono HB1.out.size)
    have h3 : Below w.heap.size w V := HB0.out.trans (h2.mono HB0.out.size)
    ⟨h1, h2, row_below HR.out h3, crow_below HC.out h3, h3⟩
  have HG1 : Hid (w1.heap.size < w2.heap.size) := World.ownsRow.lt hown w1.heap.size rfl |>.2
  clear hown hgr e1 hb12 y0 y1 y2
  go_wp2_with fail
  go_loopw [31] (fun i wr => ∃ (k : Nat), i = .int .i64 k ∧ k ≤ W * H ∧ ∃ far, Hid (flm w1.heap.size (W * H) w2 wr far ∧ ∀ j, j < k → pa far j = -1)) (fun i _ => W * H - (intOf i).toNat)
  case atStart => exact ⟨0, rfl, by omega, _, HL2.out, fun j hj => by omega⟩
  case round =>
    obtain ⟨k, rfl, hk, far, HS⟩ := hrel
    by_cases hlt : k < W * H
    · obtain ⟨ck, fk⟩ := flm_cell HS.out.1 hlt
      have HS' : Hid (flm w1.heap.size (W * H) w2 (wr.setCell ⟨w1.heap.size, k, none⟩ (.int .i64 (-1))) (far.set k (-1)) ∧ ∀ j, j < k + 1 → pa (far.set k (-1)) j = -1) := by
        refine ⟨flm_set HS.out.1 k (-1), fun j hj => ?_⟩
        rw [pa_set far j k (-1) (by rw [HS.out.1.2.1]; exact hlt)]
        split
        · rfl
        · exact HS.out.2 j (by omega)
      have l1 : (k : Int) < W * H := by omega
      have l2 : (0 : Int) ≤ k := by omega
      go_wp2_with fail
      go_roundw
      case rel => exact ⟨k + 1, by go_num, by omega, far.set k (-1), HS'⟩
      case measure => simp [intOf]; omega
    · have HZ0 : Hid (flm w1.heap.size (W * H) w2 wr far ∧ zer (W * H) (fst_ W (cs.take 0)) far) :=
        ⟨HS.out.1, zer_congr (zer_first _ far HS.out.1.2.1 (fun j hj => HS.out.2 j (by omega))) (fun i => fst_drop i)⟩
      obtain ⟨w4, hw4⟩ : ∃ w4 : World, w4 = wr := ⟨_, rfl⟩
      subst hw4
      clear HS HL2
      go_wp2_with fail
      go_loopw [40] (fun i wr => ∃ (k : Nat), i = .int .i64 k ∧ k ≤ m ∧ Hid (cke W H l (cs.drop k) = E) ∧ ∃ far, Hid (flm w1.heap.size (W * H) w2 wr far ∧ zer (W * H) (fst_ W (cs.take k)) far)) (fun i _ => m - (intOf i).toNat)
      case atStart => exact ⟨0, rfl, by omega, hE, far, HZ0⟩
      case round =>
        obtain ⟨k2, rfl, hk2, HE, far2, HS2⟩ := hrel
        by_cases hlt2 : k2 < m
        · have hkl : k2 < cs.length := by rw [HM.out]; exact hlt2
          obtain ⟨b, rfl, hx, hy⟩ := crow_at (HALL.out wr HS2.out.1.2.2).2.2.2.1 hkl
          obtain ⟨x, ex⟩ : ∃ x, cs[k2].x = x := ⟨_, rfl⟩
          obtain ⟨y, ey⟩ : ∃ y, cs[k2].y = y := ⟨_, rfl⟩
          rw [ex] at hx
          rw [ey] at hy
          have hy2 : wr.cell? ⟨(b.add (k2 * 2)).block, (b.add (k2 * 2)).off + 1, none⟩ = some (.int .i64 y) := cell_two hy
          have HEX : Hid (cs[k2].x = x ∧ cs[k2].y = y) := ⟨ex, ey⟩
          have l1 : (k2 : Int) < m := by omega
          obtain ⟨w5, hw5⟩ : ∃ w5, wr.alloc (.cells #[.int .i64 x, .int .i64 y] 26) = w5 := ⟨_, rfl⟩
          obtain ⟨G, hG⟩ : ∃ G, wr.heap.size = G := ⟨_, rfl⟩
          have hb5 : Below wr.heap.size wr w5 := by rw [← hw5]; exact alloc_below _ _
          have g0 : w5.cell? ⟨G, 0, none⟩ = some (.int .i64 x) ∧ w5.cell? ⟨G, 1, none⟩ = some (.int .i64 y) := by rw [← hw5, ← hG]; constructor <;> simp [go_sem]
          obtain ⟨g0, g1⟩ := g0
          have hf5 := flm_below HS2.out.1 hb5
          have HF5 : Hid (flm w1.heap.size (W * H) w2 w5 far2) := hf5
          obtain ⟨z0, z1, z2⟩ := HF.out w5 (HALL.out w5 hf5.2.2).2.1
          clear hb5 hf5 ex ey hy
          cases hin : inb W H x y with
          | false =>
            have HIN : Hid (inb W H x y = false) := hin
            have HZ7 : Hid (E = 7) := by unfold Hid; rw [← HE.out]; exact cke_out hkl (by rw [HEX.out.1, HEX.out.2]; exact HIN.out)
            clear hin
            go_wp2_with fail
            refine (In_in W H (some a) (W * H) c x y false w5 HX.out.1 HX.out.2.1 HIN).mono ?_
            rintro e w6 ⟨rfl, hb6⟩
            have HB6 : Hid (Below w.heap.size w w6) := (HALL.out w6 (flm_below HF5.out hb6).2.2).2.2.2.2
            clear hb6
            go_wp2_with fail
            go_ret2
            exact ⟨.inl ⟨by rw [HZ7.out]; decide, by rw [HZ7.out]; rfl⟩, HB6.out⟩
          | true =>
            obtain ⟨x', y', rfl, rfl, hx', hy'⟩ := inb_nat hin
            have HIN : Hid (inb W H x' y' = true) := hin
            clear hin
            obtain ⟨J, hJ⟩ : ∃ J, y' * W + x' = J := ⟨_, rfl⟩
            have hJl : J < W * H := by rw [← hJ]; exact pl_lt hx' hy'
            have HJ : Hid (y' * W + x' = J) := hJ
            obtain ⟨T, hT⟩ : ∃ T : Nat, y' * W = T := ⟨_, rfl⟩
            have d1 : IntKind.i64.wrap ((y' : Int) * (W : Int)) = (T : Int) := by rw [← Int.natCast_mul, hT]; exact wrp (by omega) (by omega)
            have d3 : (T : Int) + x' = J := by omega
            have d5 : IntKind.i64.wrap (J : Int) = J := wrp (by omega) (by omega)
            have j1 : (J : Int) < W * H := by omega
            have j2 : (0 : Int) ≤ J := by omega
            obtain ⟨Z, hZ⟩ : ∃ Z, l.getD (y' * W + x') 0 = Z := ⟨_, rfl⟩
            have HZ : Hid (l.getD (y' * W + x') 0 = Z) := hZ
            have HPL : Hid (∀ V, Below w5.heap.size w5 V → Calls Try.prog 22 #[.agg #[.int .i64 (W : Int), .int .i64 (H : Int), .slice (some a) (W * H) c], .agg #[.int .i64 (x' : Int), .int .i64 (y' : Int)]] V fun e w' => e = .returned (.int .i64 Z) ∧ Below V.heap.size V w') :=
              fun V hV => PlaceOf_in W H a c l x' y' Z V (HALL.out V (flm_below HF5.out hV).2.2).2.2.1 HX.out.1 HX.out.2.1 HX.out.2.2.1 hx' hy' HZ
            clear hZ hJ hT
            go_wp2_with fail
            refine (In_in W H (some a) (W * H) c (x' : Int) (y' : Int) true w5 HX.out.1 HX.out.2.1 HIN).mono ?_
            rintro e w6 ⟨rfl, hb6⟩
            have p0 : w6.cell? ⟨G, 0, none⟩ = some (.int .i64 (x' : Int)) := (hb6.cell (p := ⟨G, 0, none⟩) (cell_lt g0)).trans g0
            have p1 : w6.cell? ⟨G, 1, none⟩ = some (.int .i64 (y' : Int)) := (hb6.cell (p := ⟨G, 1, none⟩) (cell_lt g1)).trans g1
            have HF6 : Hid (flm w1.heap.size (W * H) w2 w6 far2) := flm_below HF5.out hb6
            obtain ⟨s0, s1, s2⟩ := HF.out w6 (HALL.out w6 HF6.out.2.2).2.1
            have HB56 : Hid (Below w5.heap.size w5 w6) := hb6
            clear hb6 g0 g1 z0 z1 z2
            go_wp2_with fail
            refine (HPL.out w6 HB56.out).mono ?_
            rintro e w7 ⟨rfl, hb7⟩
            have r0 : w7.cell? ⟨G, 0, none⟩ = some (.int .i64 (x' : Int)) := (hb7.cell (p := ⟨G, 0, none⟩) (cell_lt p0)).trans p0
            have r1 : w7.cell? ⟨G, 1, none⟩ = some (.int .i64 (y' : Int)) := (hb7.cell (p := ⟨G, 1, none⟩) (cell_lt p1)).trans p1
            have HF7 : Hid (flm w1.heap.size (W * H) w2 w7 far2) := flm_below HF6.out hb7
            obtain ⟨t0, t1, t2⟩ := HF.out w7 (HALL.out w7 HF7.out.2.2).2.1
            clear hb7 p0 p1 s0 s1 s2
            by_cases hr1 : Z = 1
            · have HZ9 : Hid (E = 9) := by
                unfold Hid; rw [← HE.out]
                refine cke_rock hkl (by rw [HEX.out.1, HEX.out.2]; exact HIN.out) ?_
                rw [HEX.out.1, HEX.out.2]
                show l.getD ((y' : Int).toNat * W + (x' : Int).toNat) 0 = 1
                simp only [Int.toNat_natCast]
                rw [HZ.out]; exact hr1
              have HB7 : Hid (Below w.heap.size w w7) := (HALL.out w7 HF7.out.2.2).2.2.2.2
              subst hr1
              go_wp2_with fail
              go_ret2
              exact ⟨.inl ⟨by rw [HZ9.out]; decide, by rw [HZ9.out]; rfl⟩, HB7.out⟩
            · have HEn : Hid (cke W H l (cs.drop (k2 + 1)) = E) := by
                unfold Hid
                rw [← HE.out]
                refine (cke_next hkl (by rw [HEX.out.1, HEX.out.2]; exact HIN.out) ?_).symm
                rw [HEX.out.1, HEX.out.2]
                show l.getD ((y' : Int).toNat * W + (x' : Int).toNat) 0 ≠ 1
                simp only [Int.toNat_natCast]
                rw [HZ.out]; exact hr1
              have eZ : (Z == 1) = false := by simp [hr1]
              obtain ⟨cJ, fJ⟩ := flm_cell HF7.out hJl
              have HS8 : Hid (flm w1.heap.size (W * H) w2 (w7.setCell ⟨w1.heap.size, J, none⟩ (.int .i64 0)) (far2.set J 0) ∧ zer (W * H) (fst_ W (cs.take (k2 + 1))) (far2.set J 0)) := by
                refine ⟨flm_set HF7.out J 0, zer_next HS2.out.2 hJl (fun i => ?_)⟩
                rw [← HJ.out]
                refine fst_take hkl ?_ i
                have h1 := HEX.out.1
                have h2 := HEX.out.2
                cases hcc : cs[k2]
                rw [hcc] at h1 h2
                simp at h1 h2
                rw [h1, h2]
              clear hr1
              go_wp2_with fail
              go_roundw
              case rel => exact ⟨k2 + 1, by go_num, by omega, HEn, far2.set J 0, HS8⟩
              case measure => simp [intOf]; omega
        · have HZ0' : Hid (E = 0) := by
            unfold Hid; rw [← HE.out, List.drop_of_length_le (by rw [HM.out]; omega)]; rfl
          have HCK : Hid (cke W H l cs = 0) := hE.out.trans HZ0'.out
          have HFI : Hid (flm w1.heap.size (W * H) w2 wr far2 ∧ FI W H l (fst_ W cs) far2) := by
            obtain ⟨s1, s2⟩ := HS2.out
            rw [List.take_of_length_le (by rw [HM.out]; omega)] at s2
            exact ⟨s1, fi_start s2 (fun i _ hi => fst_rock HCK.out i hi)⟩
          obtain ⟨w5, hw5⟩ : ∃ w5 : World, w5 = wr := ⟨_, rfl⟩
          subst hw5
          clear HS2 HZ0 HE
          go_wp2_with fail
          go_loopg [11] (sm far2 + 1) (fun gk bv wr => ∃ (b : Bool) (far : List Int), bv = .bool b ∧ Hid (flm w1.heap.size (W * H) w2 wr far ∧ FI W H l (fst_ W cs) far ∧ (b = false → Sol W H l (fst_ W cs) far) ∧ sm far + (if b = true then 1 else 0) = gk))
          case atStart => exact ⟨true, far2, rfl, HFI.out.1, HFI.out.2, fun h => (by cases h), by simp⟩
          case round =>
            obtain ⟨b, far0, rfl, HG⟩ := hrel
            cases b with
            | false =>
              have HSol : Hid (Sol W H l (fst_ W cs) far0) := HG.out.2.2.1 rfl
              have HMn : Hid (mine 3 vi w.heap.size wr (.slice (some ⟨w1.heap.size, 0, none⟩) (W * H) (W * H)) far0) := mine_base HG.out.1.1 (by omega)
              have HBw : Hid (Below w.heap.size w wr) := (HALL.out wr HG.out.1.2.2).2.2.2.2
              go_wp2_with fail
              go_ret2
              exact ⟨.inr ⟨HZ0'.out, w1.heap.size, far0, rfl, HMn.out, HSol.out⟩, HBw.out⟩
            | true =>
              obtain ⟨w6, hw6⟩ : ∃ w6 : World, w6 = wr := ⟨_, rfl⟩
              subst hw6
              have HG0 : Hid (sm far0 + 1 = gk) := by have := HG.out.2.2.2; simpa [Hid] using this
              have HF0 : Hid (flm w1.heap.size (W * H) w2 w6 far0 ∧ rnd W H l (fst_ W cs) far0 false 0 far0) := ⟨HG.out.1, HG.out.2.1, fun _ => ⟨rfl, fun i' n hi' => by omega⟩, fun h => (by cases h)⟩
              clear HG HFI
              go_wp2_with fail
              go_loopw [11, 66] (fun bv iv wr => ∃ (b : Bool) (i : Nat) (far : List Int), bv = .bool b ∧ iv = .int .i64 i ∧ i ≤ W * H ∧ Hid (flm w1.heap.size (W * H) w2 wr far ∧ rnd W H l (fst_ W cs) far0 b i far)) (fun _ iv _ => W * H - (intOf iv).toNat)
              case atStart => exact ⟨false, 0, far0, rfl, rfl, by omega, HF0⟩
              case round =>
                obtain ⟨b, i, far, rfl, rfl, hi, HS⟩ := hrel
                by_cases hil : i < W * H
                · obtain ⟨X, hX⟩ : ∃ X, i % W = X := ⟨_, rfl⟩
                  obtain ⟨Y, hY⟩ : ∃ Y, i / W = Y := ⟨_, rfl⟩
                  have hW0 : 0 < W := by have := HX.out.1.1; omega
                  have hXW : X < W := by rw [← hX]; exact Nat.mod_lt _ hW0
                  have hYH : Y < H := by rw [← hY]; exact Nat.div_lt_of_lt_mul hil
                  have hiXY : i = Y * W + X := by have := Nat.div_add_mod i W; rw [Nat.mul_comm] at this; rw [← hX, ← hY]; omega
                  have eX : (i : Int) % (W : Int) = (X : Int) := by rw [← Int.natCast_emod, hX]
                  have eY : (i : Int) / (W : Int) = (Y : Int) := by rw [← Int.natCast_ediv, hY]
                  have eX2 : (i : Int).tmod (W : Int) = (X : Int) := by rw [Int.tmod_eq_emod_of_nonneg (by omega)]; exact eX
                  have eY2 : (i : Int).tdiv (W : Int) = (Y : Int) := by rw [Int.tdiv_eq_ediv_of_nonneg (by omega)]; exact eY
                  have eY3 : IntKind.i64.wrap (Y : Int) = (Y : Int) := wrp (by omega) (by have := Nat.div_le_self i W; omega)
                  have eX3 : IntKind.i64.wrap (X : Int) = (X : Int) := wrp (by omega) (by have := Nat.mod_le i W; omega)
                  have HIXY : Hid (i = Y * W + X) := hiXY
                  have hY40 : Y ≤ 1600 := by have := HX.out.2.1.2; omega
                  have hX40 : X ≤ 1600 := by have := HX.out.1.2; omega
                  have hWp : (0 : Int) < W := by omega
                  have hWn : (W : Int) ≠ 0 := by omega
                  have hWe : ((W : Int) == 0) = false := by simp; omega
                  have hWz : ¬ (W = 0) := by omega
                  obtain ⟨Z, hZ⟩ : ∃ Z, pa l i = Z := ⟨_, rfl⟩
                  have cz : wr.cell? (a.add i) = some (.int .i64 Z) := by
                    obtain ⟨b', hb', hcl⟩ := row_at (HALL.out wr HS.out.1.2.2).2.2.1 (j := i) (by rw [HX.out.2.2.1]; exact hil)
                    cases hb'
                    rw [← pa_get l, hZ] at hcl; exact hcl
                  have hbd := sort_bd HX.out.2.2.2 (j := i) (by rw [HX.out.2.2.1]; exact hil)
                  rw [hZ] at hbd
                  obtain ⟨K, hK⟩ : ∃ K, cof Z = K := ⟨_, rfl⟩
                  have HZ : Hid (pa l i = Z) := hZ
                  have HK : Hid (cof Z = K) := hK
                  have HZb : Hid (0 ≤ Z ∧ Z ≤ 3) := hbd
                  obtain ⟨z0, z1, z2⟩ := HF.out wr (HALL.out wr HS.out.1.2.2).2.1
                  have l1 : (i : Int) < W * H := by omega
                  have l2 : (0 : Int) ≤ i := by omega
                  clear hX hY hiXY hZ hK hbd
                  go_wp2_with fail
                  refine (CostOf_at Z K wr HZb.out.1 HZb.out.2 HK).mono ?_
                  rintro e w7 ⟨rfl, hb7⟩
                  have HF7 : Hid (flm w1.heap.size (W * H) w2 w7 far) := flm_below HS.out.1 hb7
                  obtain ⟨f0, f1, f2⟩ := HF.out w7 (HALL.out w7 HF7.out.2.2).2.1
                  have HRN : Hid (rnd W H l (fst_ W cs) far0 b i far) := HS.out.2
                  have HBS : Hid (∀ V, Below w7.heap.size w7 V → Calls Try.prog 25 #[.agg #[.int .i64 (W : Int), .int .i64 (H : Int), .slice (some a) (W * H) c], .agg #[.int .i64 (X : Int), .int .i64 (Y : Int)]] V fun e w' => ∃ v, e = .returned v ∧ minec V.heap.size w' v (bsd W H X Y 4) ∧ Below V.heap.size V w') :=
                    fun V hV => Beside_any W H (some a) (W * H) c X Y V HX.out.1 HX.out.2.1 (by omega) (by omega)
                  clear hb7 z0 z1 z2 cz HS
                  go_wp2_with fail
                  go_region_held3 (fun V => Below w7.heap.size w7 V ∧ V.cell? ⟨w.heap.size, 0, none⟩ = some (.int .i64 (W : Int)) ∧ V.cell? ⟨w.heap.size, 1, none⟩ = some (.int .i64 (H : Int)) ∧ V.cell? ⟨w.heap.size, 2, none⟩ = some (.slice (some a) (W * H) c)) (first | with_reducible assumption | with_reducible exact k3_drew (by assumption) | with_reducible exact k3_of f0 f1 f2 hB8 | with_reducible exact k3_of f0 f1 f2 (Below.drew (Below.refl _ _)) | with_reducible exact k3_of f0 f1 f2 (Below.refl _ _)) (first
                    | (go_at_call 25; refine (HBS.out _ (And.left (by assumption))).mono ?_; rintro e w8 ⟨v8, rfl, hm8, hb8⟩; have hB8 : Below w7.heap.size w7 w8 := k3_bel hb8 (by assumption); obtain ⟨p8, c8, rfl, hc8⟩ := minec_form hm8 rfl))
                  have HM8 : Hid (crow w8 p8 (bsd W H X Y 4)) := hc8
                  have HF8 : Hid (flm w1.heap.size (W * H) w2 w8 far) := flm_below HF7.out hB8
                  have HP8 : Hid (∀ b8, p8 = some b8 → b8.block ≠ w1.heap.size) := by
                    intro b8 he8 hbk
                    have h1 := World.ownsRow.lt hm8 b8.block (by rw [he8]; rfl)
                    have h2 := HF7.out.2.2.size
                    have h3 := HG1.out
                    rw [hbk] at h1
                    have h4 : w1.heap.size < w7.heap.size := by omega
                    have h5 : w7.drew.heap.size = w7.heap.size := rfl
                    omega
                  obtain ⟨NB, hNB⟩ : ∃ NB, (bsd W H X Y 4).length = NB := ⟨_, rfl⟩
                  rw [hNB]
                  have HNB : Hid ((bsd W H X Y 4).length = NB) := hNB
                  have hNB4 : NB ≤ 4 := by rw [← hNB]; exact bsd_len _ _ _ _ _
                  have HJ0 : Hid (flm w1.heap.size (W * H) w2 w8 far ∧ rnj W H l (fst_ W cs) far0 b i (bsd W H X Y 4) 0 far ∧ Ex (fun k => k = w1.heap.size) w8 w8) := ⟨HF8.out, rnj_start HRN.out, Ex.refl _ _⟩
                  clear hm8 hb8 hB8 hc8 hNB f0 f1 f2 eX eY eX2 eY2 HBS
                  go_wp2_with fail
                  go_loopw [11, 87] (fun bv jv wr => ∃ (b : Bool) (j : Nat) (far : List Int), bv = .bool b ∧ jv = .int .i64 j ∧ j ≤ NB ∧ Hid (flm w1.heap.size (W * H) w2 wr far ∧ rnj W H l (fst_ W cs) far0 b i (bsd W H X Y 4) j far ∧ Ex (fun k => k = w1.heap.size) w8 wr)) (fun _ jv _ => NB - (intOf jv).toNat)
                  case atStart => exact ⟨b, 0, far, rfl, rfl, by omega, HJ0⟩
                  case round =>
                    obtain ⟨b2, j, far3, rfl, rfl, hj, HS3⟩ := hrel
                    by_cases hjl : j < NB
                    · have hjl' : j < (bsd W H X Y 4).length := by rw [HNB.out]; exact hjl
                      obtain ⟨x, y, hcel, hxW, hyH, hadj⟩ := bsd_adj hXW hYH (List.getElem_mem hjl')
                      obtain ⟨b8, e8, hcx, hcy⟩ := crow_at HM8.out hjl'
                      subst e8
                      rw [hcel] at hcx hcy
                      have hbne := HP8.out b8 rfl
                      have hcx' : wr.cell? (b8.add (j * 2)) = some (.int .i64 (x : Int)) := (HS3.out.2.2.cell (cell_lt hcx) (by rw [add_block]; exact hbne)).trans hcx
                      have hcy' : wr.cell? ⟨(b8.add (j * 2)).block, (b8.add (j * 2)).off + 1, none⟩ = some (.int .i64 (y : Int)) := cell_two ((HS3.out.2.2.cell (cell_lt hcy) (by rw [add_block]; exact hbne)).trans hcy)
                      have HLJ : Hid ((bsd W H X Y 4)[j]? = some ⟨x, y⟩) := by unfold Hid; rw [List.getElem?_eq_getElem hjl', hcel]
                      obtain ⟨J, hJ⟩ : ∃ J, y * W + x = J := ⟨_, rfl⟩
                      have hJl : J < W * H := by rw [← hJ]; exact pl_lt hxW hyH
                      have HJ : Hid (y * W + x = J) := hJ
                      have HADJ : Hid (adj W H J i) := by unfold Hid; rw [← hJ, HIXY.out]; exact adj_symm hadj
                      obtain ⟨T, hT⟩ : ∃ T : Nat, y * W = T := ⟨_, rfl⟩
                      have d1 : IntKind.i64.wrap ((y : Int) * (W : Int)) = (T : Int) := by rw [← Int.natCast_mul, hT]; exact wrp (by omega) (by omega)
                      have d3 : (T : Int) + x = J := by omega
                      have d5 : IntKind.i64.wrap (J : Int) = J := wrp (by omega) (by omega)
                      have j1 : (J : Int) < W * H := by omega
                      have j2 : (0 : Int) ≤ J := by omega
                      have k1 : (j : Int) < NB := by omega
                      have k2' : (0 : Int) ≤ j := by omega
                      obtain ⟨w9, hw9⟩ : ∃ w9, wr.alloc (.cells #[.int .i64 (x : Int), .int .i64 (y : Int)] 26) = w9 := ⟨_, rfl⟩
                      obtain ⟨G, hG⟩ : ∃ G, wr.heap.size = G := ⟨_, rfl⟩
                      have hb9 : Below wr.heap.size wr w9 := by rw [← hw9]; exact alloc_below _ _
                      have g0 : w9.cell? ⟨G, 0, none⟩ = some (.int .i64 (x : Int)) ∧ w9.cell? ⟨G, 1, none⟩ = some (.int .i64 (y : Int)) := by rw [← hw9, ← hG]; constructor <;> simp [go_sem]
                      obtain ⟨g0, g1⟩ := g0
                      have hf9 := flm_below HS3.out.1 hb9
                      obtain ⟨z0, z1, z2⟩ := HF.out w9 (HALL.out w9 hf9.2.2).2.1
                      obtain ⟨D, hD⟩ : ∃ D, pa far3 J = D := ⟨_, rfl⟩
                      obtain ⟨V, hV⟩ : ∃ V, pa far3 i = V := ⟨_, rfl⟩
                      obtain ⟨cD, _⟩ := flm_cell hf9 hJl
                      obtain ⟨cV, fV⟩ := flm_cell hf9 hil
                      rw [hD] at cD
                      rw [hV] at cV
                      have hFI := HS3.out.2.1.1
                      have tD := hFI.top J hJl
                      have tV := hFI.top i hil
                      have lD := hFI.low J hJl
                      have lV := hFI.low i hil
                      rw [hD] at tD lD
                      rw [hV] at tV lV
                      have bD : -1 ≤ D ∧ D ≤ 4800 := by omega
                      have bV : -1 ≤ V ∧ V ≤ 4800 := by omega
                      have HF9 : Hid (flm w1.heap.size (W * H) w2 w9 far3) := hf9
                      have HE9 : Hid (Ex (fun k => k = w1.heap.size) w8 w9) := HS3.out.2.2.trans (Ex.of_below (S := fun _ => False) hb9) (fun _ _ e => e.elim)
                      have HRJ : Hid (rnj W H l (fst_ W cs) far0 b2 i (bsd W H X Y 4) j far3) := HS3.out.2.1
                      have HD : Hid (pa far3 J = D ∧ pa far3 i = V) := ⟨hD, hV⟩
                      clear hb9 hf9 hFI tD tV lD lV hD hV hJ hT hcx hcy hcel hadj hbne HS3
                      by_cases hr : Z = 1
                      · have hK1 : K = -1 := by rw [← HK.out]; unfold cof; rw [if_pos hr]
                        have HN : Hid (rnj W H l (fst_ W cs) far0 b2 i (bsd W H X Y 4) (j + 1) far3) := rnj_skip HRJ.out HLJ.out (fun q => absurd (HZ.out.trans hr) q)
                        subst hK1
                        have t1 : decide ((0 : Int) < -1) = false := by decide
                        clear hr
                        go_wp2_with fail
                        go_roundw
                        case rel => exact ⟨b2, j + 1, far3, rfl, by go_num, by omega, HF9.out, HN.out, HE9.out⟩
                        case measure => simp [intOf]; omega
                      · have hKk : K = kc Z := by rw [← HK.out]; unfold cof; rw [if_neg hr]
                        have hkb := kc_bd Z
                        rw [← hKk] at hkb
                        have HKk : Hid (kc (pa l i) = K) := by unfold Hid; rw [HZ.out]; exact hKk.symm
                        have HR1 : Hid (pa l i ≠ 1) := by unfold Hid; rw [HZ.out]; exact hr
                        have t1 : decide ((0 : Int) < K) = true := by simp; omega
                        have t1' : (0 : Int) < K := by omega
                        clear hr hKk
                        by_cases hD0 : 0 ≤ D
                        · have t2 : decide ((0 : Int) ≤ D) = true := by simp [hD0]
                          by_cases hV0 : V < 0
                          · have t3 : decide (V < 0) = true := by simp [hV0]
                            have HN : Hid (rnj W H l (fst_ W cs) far0 true i (bsd W H X Y 4) (j + 1) (far3.set i (D + K))) := by
                              have h := rnj_best (y := y) (x := x) HRJ.out hN2 (by rw [HJ.out]; exact HADJ.out) HR1.out (by rw [HJ.out, HD.out.1]; exact hD0) (by rw [HJ.out, HD.out.1, HD.out.2, HKk.out]; omega)
                              rw [HJ.out, HD.out.1, HKk.out] at h; exact h
                            have HF10 : Hid (flm w1.heap.size (W * H) w2 (w9.setCell ⟨w1.heap.size, i, none⟩ (.int .i64 (D + K))) (far3.set i (D + K))) := flm_set HF9.out i (D + K)
                            have HE10 : Hid (Ex (fun k => k = w1.heap.size) w8 (w9.setCell ⟨w1.heap.size, i, none⟩ (.int .i64 (D + K)))) := HE9.out.trans (Ex.set (S := fun k => k = w1.heap.size) w9 ⟨w1.heap.size, i, none⟩ rfl _) (fun _ _ e => e)
                            go_wp2_with fail
                            go_roundw
                            case rel => exact ⟨true, j + 1, far3.set i (D + K), rfl, by go_num, by omega, HF10.out, HN.out, HE10.out⟩
                            case measure => simp [intOf]; omega
                          · have t3 : decide (V < 0) = false := by simp; omega
                            by_cases hDV : D + K < V
                            · have t4 : decide (D + K < V) = true := by simp [hDV]
                              have HN : Hid (rnj W H l (fst_ W cs) far0 true i (bsd W H X Y 4) (j + 1) (far3.set i (D + K))) := by
                                have h := rnj_best (y := y) (x := x) HRJ.out hN2 (by rw [HJ.out]; exact HADJ.out) HR1.out (by rw [HJ.out, HD.out.1]; exact hD0) (by rw [HJ.out, HD.out.1, HD.out.2, HKk.out]; omega)
                                rw [HJ.out, HD.out.1, HKk.out] at h; exact h
                              have HF10 : Hid (flm w1.heap.size (W * H) w2 (w9.setCell ⟨w1.heap.size, i, none⟩ (.int .i64 (D + K))) (far3.set i (D + K))) := flm_set HF9.out i (D + K)
                              have HE10 : Hid (Ex (fun k => k = w1.heap.size) w8 (w9.setCell ⟨w1.heap.size, i, none⟩ (.int .i64 (D + K)))) := HE9.out.trans (Ex.set (S := fun k => k = w1.heap.size) w9 ⟨w1.heap.size, i, none⟩ rfl _) (fun _ _ e => e)
                              go_wp2_with fail
                              go_roundw
                              case rel => exact ⟨true, j + 1, far3.set i (D + K), rfl, by go_num, by omega, HF10.out, HN.out, HE10.out⟩
                              case measure => simp [intOf]; omega
                            · have t4 : decide (D + K < V) = false := by simp; omega
                              have HN : Hid (rnj W H l (fst_ W cs) far0 b2 i (bsd W H X Y 4) (j + 1) far3) := rnj_skip HRJ.out HLJ.out (fun _ _ => by rw [HJ.out, HD.out.1, HD.out.2, HKk.out]; omega)
                              go_wp2_with fail
                              go_roundw
                              case rel => exact ⟨b2, j + 1, far3, rfl, by go_num, by omega, HF9.out, HN.out, HE9.out⟩
                              case measure => simp [intOf]; omega
                        · have t2 : decide ((0 : Int) ≤ D) = false := by simp; omega
                          have HN : Hid (rnj W H l (fst_ W cs) far0 b2 i (bsd W H X Y 4) (j + 1) far3) := rnj_skip HRJ.out HLJ.out (fun _ q => absurd (by rw [HJ.out, HD.out.1] at q; exact q) hD0)
                          go_wp2_with fail
                          go_roundw
                          case rel => exact ⟨b2, j + 1, far3, rfl, by go_num, by omega, HF9.out, HN.out, HE9.out⟩
                          case measure => simp [intOf]; omega
                    · obtain rfl : j = NB := by omega
                      have HNx : Hid (flm w1.heap.size (W * H) w2 wr far3 ∧ rnd W H l (fst_ W cs) far0 b2 (i + 1) far3) := ⟨HS3.out.1, rnj_end (by rw [HNB.out]; exact HS3.out.2.1) hXW hYH HIXY.out⟩
                      go_wp2_with fail
                      go_roundw
                      case rel => exact ⟨b2, i + 1, far3, rfl, by go_num, by omega, HNx.out⟩
                      case measure => simp [intOf]; omega
                · have HSS := HS.out
                  obtain ⟨s1, s2, s3, s4⟩ := HSS
                  cases b with
                  | false =>
                    have hfe : far = far0 := (s3 rfl).1
                    have HNum : Hid (sm far < gk) := by rw [hfe]; have := HG0.out; unfold Hid; omega
                    have HSl : Hid (Sol W H l (fst_ W cs) far) := fi_end s2 (fun i' n ha => (s3 rfl).2 i' n (by have := (adj_lt ha).2; omega) ha)
                    have HF9 : Hid (flm w1.heap.size (W * H) w2 wr far ∧ FI W H l (fst_ W cs) far) := ⟨s1, s2⟩
                    clear s1 s2 s3 s4 hfe
                    go_wp2_with fail
                    go_roundg (sm far)
                    case rel => exact ⟨false, far, rfl, HF9.out.1, HF9.out.2, fun _ => HSl.out, by simp⟩
                    case measure => exact HNum.out
                  | true =>
                    have HNum : Hid (sm far + 1 < gk) := by have := s4 rfl; have := HG0.out; unfold Hid; omega
                    have HF9 : Hid (flm w1.heap.size (W * H) w2 wr far ∧ FI W H l (fst_ W cs) far) := ⟨s1, s2⟩
                    clear s1 s2 s3 s4
                    go_wp2_with fail
                    go_roundg (sm far + 1)
                    case rel => exact ⟨true, far, rfl, HF9.out.1, HF9.out.2, fun h => (by cases h), by simp⟩
                    case measure => exact HNum.out
end Go.Proofs.Ytkdammmikmljmaa
