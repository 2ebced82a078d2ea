/- What flood.From returns. -/
import Derived.Test.YtkdammmikmljmaaCk
import Derived.Test.YtkdammmikmljmaaUse
import Derived.Deep.LoopGhost
namespace Go.Proofs.Ytkdammmikmljmaa
open Go.RowKit
set_option linter.unusedVariables false

theorem cut_wp {P : Program} {s : Code} {K : Act → World → Prop} {Q' : Exit → Act → World → Prop} {a : Act} {w : World} (R : Act → World → Prop)
    (first : s.wp P (Exit.then R Q') a w) (rest : ∀ a' w', R a' w' → K a' w') : s.wp P (Exit.then K Q') a w := by
  refine Code.wp_mono ?_ first
  intro e a' w' hq
  cases e with
  | normal => exact rest _ _ hq
  | exit id => exact hq
  | goto l => exact hq
  | ret => exact hq
  | panic c => exact hq
  | outgrown => exact hq

set_option maxRecDepth 20000 in
set_option maxHeartbeats 1000000 in
theorem From_err (W H : Int) (p q : Option Addr) (n c m d : Nat) (E : Int) (w : World) (h0 : E ≠ 0)
    (hck : Hid (∀ V, Below w.heap.size w V → Calls Try.prog 30 #[.agg #[.int .i64 W, .int .i64 H, .slice p n c], .slice q m d] V fun e w' => e = .returned (.int .i64 E) ∧ Below V.heap.size V w')) :
    Calls Try.prog 12 #[.agg #[.int .i64 W, .int .i64 H, .slice p n c], .slice q m d] w fun e w' => e = .returned (.tuple #[.slice none 0 0, .int .i64 E]) ∧ Below w.heap.size w w' := by
  have e0 : (E == 0) = false := by simp [h0]
  go_enter Try.func12, Try.ntmps12
  go_wp2_with fail
  refine (hck.out _ (alloc_below _ _)).mono ?_
  rintro e w1 ⟨rfl, hb⟩
  have HB : Hid (Below w.heap.size w w1) := below_step (alloc_below w _) (by simp) hb
  clear hb
  go_wp2_with fail
  go_ret2
  exact ⟨rfl, HB.out⟩
theorem From_no (W H : Int) (p q : Option Addr) (n c m d : Nat) (l : List Int) (E : Int) (w : World) (hr : row vi w p l) (hn : l.length = n) (hm : n ≤ 9223372036854775807) (hE : Hid (ck W H l = E)) (h0 : E ≠ 0) :
    Calls Try.prog 12 #[.agg #[.int .i64 W, .int .i64 H, .slice p n c], .slice q m d] w fun e w' => e = .returned (.tuple #[.slice none 0 0, .int .i64 E]) ∧ Below w.heap.size w w' :=
  From_err W H p q n c m d E w h0 (fun V hV => check_no W H p q n c m d l E V (row_below hr hV) hn hm hE h0)
theorem From_many (W H : Int) (p q : Option Addr) (n c m d : Nat) (l : List Int) (w : World) (hr : row vi w p l) (hn : l.length = n) (hm : n ≤ 9223372036854775807) (hE : Hid (ck W H l = 0)) (h0 : 100 < m) :
    Calls Try.prog 12 #[.agg #[.int .i64 W, .int .i64 H, .slice p n c], .slice q m d] w fun e w' => e = .returned (.tuple #[.slice none 0 0, .int .i64 2]) ∧ Below w.heap.size w w' :=
  From_err W H p q n c m d 2 w (by decide) (fun V hV => check_many W H p q n c m d l V (row_below hr hV) hn hm hE h0)
theorem From_cells (W H : Nat) (a : Addr) (q : Option Addr) (c m d : Nat) (l : List Int) (cs : List Cel) (E : Int) (w : World) (hr : row vi w (some a) l) (hW : 1 ≤ W ∧ W ≤ 40) (hH : 1 ≤ H ∧ H ≤ 40) (hl : l.length = W * H) (hg : l.any bad = false)
    (hc : crow w q cs) (hm : cs.length = m) (h100 : m ≤ 100) (hE : Hid (cke W H l cs = E)) (h0 : E ≠ 0) :
    Calls Try.prog 12 #[.agg #[.int .i64 (W : Int), .int .i64 (H : Int), .slice (some a) (W * H) c], .slice q m d] w fun e w' => e = .returned (.tuple #[.slice none 0 0, .int .i64 E]) ∧ Below w.heap.size w w' :=
  From_err W H (some a) q (W * H) c m d E w h0 (fun V hV => check_cells W H a q c m d l cs E V (row_below hr hV) hW hH hl hg (crow_below hc hV) hm h100 hE)

theorem k3_drew {w V : World} {x y z : Addr} {a b c : Value} (h : Below w.heap.size w V ∧ V.cell? x = some a ∧ V.cell? y = some b ∧ V.cell? z = some c) : Below w.heap.size w V.drew ∧ V.drew.cell? x = some a ∧ V.drew.cell? y = some b ∧ V.drew.cell? z = some c := ⟨h.1.drew, h.2.1, h.2.2.1, h.2.2.2⟩
theorem k3_drewN {w V : World} {x y z : Addr} {a b c : Value} (h : Below w.heap.size w V ∧ V.cell? x = some a ∧ V.cell? y = some b ∧ V.cell? z = some c) (n : Nat) : Below w.heap.size w (V.drewN n) ∧ (V.drewN n).cell? x = some a ∧ (V.drewN n).cell? y = some b ∧ (V.drewN n).cell? z = some c := ⟨below_drewN h.1 n, h.2.1, h.2.2.1, h.2.2.2⟩
theorem k3_call {w V V' : World} {x y z : Addr} {a b c : Value} (h : Below w.heap.size w V ∧ V.cell? x = some a ∧ V.cell? y = some b ∧ V.cell? z = some c) (hb : Below V.heap.size V V') : Below w.heap.size w V' ∧ V'.cell? x = some a ∧ V'.cell? y = some b ∧ V'.cell? z = some c :=
  ⟨h.1.trans (hb.mono h.1.size), by rw [hb.cell (cell_lt h.2.1)]; exact h.2.1, by rw [hb.cell (cell_lt h.2.2.1)]; exact h.2.2.1, by rw [hb.cell (cell_lt h.2.2.2)]; exact h.2.2.2⟩
theorem k3_alloc {w V : World} {x y z : Addr} {a b c : Value} (h : Below w.heap.size w V ∧ V.cell? x = some a ∧ V.cell? y = some b ∧ V.cell? z = some c) (o : Obj) : Below w.heap.size w (V.alloc o) ∧ (V.alloc o).cell? x = some a ∧ (V.alloc o).cell? y = some b ∧ (V.alloc o).cell? z = some c := k3_call h (alloc_below V o)
theorem below_one (w : World) (o : Obj) : Below w.heap.size w (w.alloc o).drew := (alloc_below w o).drew
theorem below_two (w : World) (o1 o2 : Obj) : Below w.heap.size w ((w.alloc o1).alloc o2).drew := ((alloc_below w o1).alloc (by simp) _).drew
theorem hi1 (w : World) (o1 o2 : Obj) : ((w.alloc o1).alloc o2).drew.heap[w.heap.size]? = some o1 := by
  show ((w.alloc o1).alloc o2).heap[w.heap.size]? = _
  rw [Below.heap_alloc _ _ _ (by simp)]; exact World.alloc_heap_new w _
theorem hi2 (w : World) (o1 o2 : Obj) : ((w.alloc o1).alloc o2).drew.heap[w.heap.size + 1]? = some o2 := by
  have := World.alloc_heap_new (w.alloc o1) o2
  rwa [World.size_alloc] at this
theorem tide_at {V w3 : World} {T : Nat} (hb : Below V.heap.size V w3) (h : V.heap[T]? = some (.cells #[.int .i64 0, .int .i64 0, .slice none 0 0, .slice none 0 0, .slice none 0 0] 64)) :
    w3.cell? ⟨T, 0, none⟩ = some (.int .i64 0) ∧ w3.cell? ⟨T, 1, none⟩ = some (.int .i64 0) ∧ w3.cell? ⟨T, 2, none⟩ = some (.slice none 0 0) ∧ w3.cell? ⟨T, 3, none⟩ = some (.slice none 0 0) ∧ w3.cell? ⟨T, 4, none⟩ = some (.slice none 0 0) ∧
    w3.frozen? ⟨T, 0, none⟩ = false ∧ w3.frozen? ⟨T, 1, none⟩ = false ∧ w3.frozen? ⟨T, 2, none⟩ = false ∧ w3.frozen? ⟨T, 3, none⟩ = false ∧ w3.frozen? ⟨T, 4, none⟩ = false := by
  have hT : T < V.heap.size := by
    rcases Nat.lt_or_ge T V.heap.size with hlt | hge
    · exact hlt
    · rw [Array.getElem?_eq_none hge] at h; cases h
  have h3 : w3.heap[T]? = some (.cells #[.int .i64 0, .int .i64 0, .slice none 0 0, .slice none 0 0, .slice none 0 0] 64) := (hb.block T hT).trans h
  simp [World.cell?, World.frozen?, h3]
theorem k3_of {w V : World} {x y z : Addr} {a b c : Value} (h1 : w.cell? x = some a) (h2 : w.cell? y = some b) (h3 : w.cell? z = some c) (hb : Below w.heap.size w V) : Below w.heap.size w V ∧ V.cell? x = some a ∧ V.cell? y = some b ∧ V.cell? z = some c :=
  ⟨hb, (hb.cell (cell_lt h1)).trans h1, (hb.cell (cell_lt h2)).trans h2, (hb.cell (cell_lt h3)).trans h3⟩
theorem k3_bel {w V V' : World} {x y z : Addr} {a b c : Value} (hb : Below V.heap.size V V') (h : Below w.heap.size w V ∧ V.cell? x = some a ∧ V.cell? y = some b ∧ V.cell? z = some c) : Below w.heap.size w V' := h.1.trans (hb.mono h.1.size)
theorem below_set5 {w V : World} {T : Nat} (h : Below w.heap.size w V) (hT : w.heap.size ≤ T) (a b c d e : Value) : Below w.heap.size w (((((V.setCell ⟨T, 0, none⟩ a).setCell ⟨T, 1, none⟩ b).setCell ⟨T, 2, none⟩ c).setCell ⟨T, 3, none⟩ d).setCell ⟨T, 4, none⟩ e) :=
  ((((h.setCell (p := ⟨T, 0, none⟩) hT _).setCell (p := ⟨T, 1, none⟩) hT _).setCell (p := ⟨T, 2, none⟩) hT _).setCell (p := ⟨T, 3, none⟩) hT _).setCell (p := ⟨T, 4, none⟩) hT _
/-- The places of the first cells. -/
def fst_ (W : Nat) (cs : List Cel) (i : Nat) : Prop := ∃ x y : Nat, (⟨x, y⟩ : Cel) ∈ cs ∧ i = y * W + x
theorem inv_congr {W H : Nat} {l : List Int} {S S' : Nat → Prop} {far : List Int} {Q : List Stop} {M : Int} {cur : Option Nat} (h : Inv W H l S far Q M cur) (hs : ∀ i, S i ↔ S' i) : Inv W H l S' far Q M cur :=
  ⟨h.len, h.M0, h.que, h.low, fun i hi => (h.zero i hi).trans (hs i), h.just, h.done, h.top⟩
theorem cke_zero {W H : Nat} {l : List Int} : ∀ {cs : List Cel}, cke W H l cs = 0 → ∀ c ∈ cs, ∃ x y : Nat, c = ⟨x, y⟩ ∧ x < W ∧ y < H ∧ pa l (y * W + x) ≠ 1 := by
  intro cs
  induction cs with
  | nil => intro _ c hc; cases hc
  | cons d cs ih =>
    intro h c hc
    unfold cke at h
    cases hin : inb W H d.x d.y with
    | false => rw [if_pos hin] at h; omega
    | true =>
      rw [if_neg (by rw [hin]; decide)] at h
      by_cases hr : pa l (d.y.toNat * W + d.x.toNat) = 1
      · rw [if_pos hr] at h; omega
      · rw [if_neg hr] at h
        rcases List.mem_cons.1 hc with e | e
        · subst e
          obtain ⟨x, y, ex, ey, hx, hy⟩ := inb_nat hin
          refine ⟨x, y, ?_, hx, hy, ?_⟩
          · cases c; simp at ex ey; rw [ex, ey]
          · rw [ex, ey] at hr; simpa using hr
        · exact ih h c e
theorem fst_take {W : Nat} {cs : List Cel} {k x y : Nat} (hk : k < cs.length) (hc : cs[k] = ⟨x, y⟩) (i : Nat) : (fst_ W (cs.take k) i ∨ i = y * W + x) ↔ fst_ W (cs.take (k + 1)) i := by
  rw [List.take_succ_eq_append_getElem hk, hc]
  unfold fst_
  constructor
  · rintro (⟨a, b, h1, h2⟩ | h)
    · exact ⟨a, b, List.mem_append_left _ h1, h2⟩
    · exact ⟨x, y, List.mem_append_right _ (by simp), h⟩
  · rintro ⟨a, b, h1, h2⟩
    rcases List.mem_append.1 h1 with h | h
    · exact .inl ⟨a, b, h, h2⟩
    · simp at h
      right; rw [h2]
      have : a = x := by omega
      have : b = y := by omega
      subst_vars; rfl
/-- A tide that has just been laid. -/
def fin (w1 : World) (T g N W H : Nat) (pv : Value) (w' : World) : Prop :=
  tbx T w' (.int .i64 (W : Int)) (.int .i64 (H : Int)) pv (.slice (some ⟨g, 0, none⟩) N N) (.slice none 0 0) ∧ mine 3 vi w1.heap.size w' (.slice (some ⟨g, 0, none⟩) N N) (List.replicate N (-1)) ∧ Below w1.heap.size w1 w' ∧ T ≠ g ∧ w1.heap.size ≤ T ∧ w1.heap.size ≤ g ∧ T < w'.heap.size ∧ g < w'.heap.size
theorem fin_alloc {w1 w3 : World} {B g N W H : Nat} {pv : Value} (hb : Below w1.heap.size w1 w3) (hm : mine 3 vi B w3 (.slice (some ⟨g, 0, none⟩) N N) (List.replicate N (-1))) (hB : w1.heap.size ≤ B) :
    fin w1 w3.heap.size g N W H pv (w3.alloc (.cells #[.int .i64 (W : Int), .int .i64 (H : Int), pv, .slice (some ⟨g, 0, none⟩) N N, .slice none 0 0] 64)) := by
  have hg := World.ownsRow.lt hm g rfl
  exact ⟨World.alloc_heap_new _ _, mine_mono (mine_below hm (alloc_below _ _)) hB, hb.alloc hb.size _, by omega, hb.size, by omega, by simp, by simp; omega⟩
theorem fin_set {w1 V w3 : World} {T g N W H : Nat} {pv : Value} (hV : w1.heap.size ≤ V.heap.size) (hT : w1.heap.size ≤ T) (h : V.heap[T]? = some (.cells #[.int .i64 0, .int .i64 0, .slice none 0 0, .slice none 0 0, .slice none 0 0] 64)) (hb3 : Below V.heap.size V w3) (hb : Below w1.heap.size w1 w3) (hm : mine 3 vi V.heap.size w3 (.slice (some ⟨g, 0, none⟩) N N) (List.replicate N (-1))) :
    fin w1 T g N W H pv (((((w3.setCell ⟨T, 0, none⟩ (.int .i64 (W : Int))).setCell ⟨T, 1, none⟩ (.int .i64 (H : Int))).setCell ⟨T, 2, none⟩ pv).setCell ⟨T, 3, none⟩ (.slice (some ⟨g, 0, none⟩) N N)).setCell ⟨T, 4, none⟩ (.slice none 0 0)) := by
  have hg := World.ownsRow.lt hm g rfl
  have hTV : T < V.heap.size := by
    rcases Nat.lt_or_ge T V.heap.size with hlt | hge
    · exact hlt
    · rw [Array.getElem?_eq_none hge] at h; cases h
  have h3 : w3.heap[T]? = some (.cells #[.int .i64 0, .int .i64 0, .slice none 0 0, .slice none 0 0, .slice none 0 0] 64) := (hb3.block T hTV).trans h
  have E1 := fun (V : World) (p : Addr) (u : Value) (hp : p.block = T) => Ex.set (S := fun k => k = T) V p hp u
  have T1 := fun {a b c : World} (h : Ex (fun k => k = T) a b) (k : Ex (fun k => k = T) b c) => Ex.trans h k (fun _ _ e => e)
  have E := T1 (T1 (T1 (T1 (E1 w3 ⟨T, 0, none⟩ (.int .i64 (W : Int)) rfl) (E1 _ ⟨T, 1, none⟩ (.int .i64 (H : Int)) rfl)) (E1 _ ⟨T, 2, none⟩ pv rfl)) (E1 _ ⟨T, 3, none⟩ (.slice (some ⟨g, 0, none⟩) N N) rfl)) (E1 _ ⟨T, 4, none⟩ (.slice none 0 0) rfl)
  have s0 := heap_setCell_same w3 T 0 _ 64 (.int .i64 (W : Int)) h3
  have s1 := heap_setCell_same _ T 1 _ 64 (.int .i64 (H : Int)) s0
  have s2 := heap_setCell_same _ T 2 _ 64 pv s1
  have s3 := heap_setCell_same _ T 3 _ 64 (.slice (some ⟨g, 0, none⟩) N N) s2
  have s4 := heap_setCell_same _ T 4 _ 64 (.slice none 0 0) s3
  refine ⟨by unfold tbx; rw [s4]; rfl, mine_mono (mine_ex hm E (fun k hk e => ?_)) hV, below_set5 hb hT _ _ _ _ _, by omega, hT, by omega, ?_, ?_⟩
  · simp [Value.ownBlock] at hk; omega
  · have := E.size; have := hb3.size; omega
  · have := E.size; omega
theorem mine_base {t : TypeId} {α : Type} {f : α → Value} {B B' g n cap : Nat} {w : World} {L : List α} (h : mine t f B w (.slice (some ⟨g, 0, none⟩) n cap) L) (hB : B' ≤ g) : mine t f B' w (.slice (some ⟨g, 0, none⟩) n cap) L := by
  refine ⟨h.1, ?_⟩
  rcases h.2 with ⟨h0, _⟩ | ⟨g', cap', cur, hv, _, hr⟩
  · cases h0
  · refine .inr ⟨g', cap', cur, hv, ?_, hr⟩
    simp only [Value.slice.injEq, Option.some.injEq, Addr.mk.injEq, and_true] at hv
    rw [← hv.1]; exact hB
/-- How the first cells are reached. -/
def lst (B T C W H : Nat) (pv : Value) (N : Nat) (w : World) (l : List Int) (S : Nat → Prop) (far : List Int) (v : Value) (Q : List Stop) (wr : World) : Prop :=
  tde B T C W H pv N far v Q wr ∧ Inv W H l S far Q 0 none ∧ (∀ i, i < W * H → pa far i ≤ 0) ∧ cnt far + Q.length = W * H ∧ Below w.heap.size w wr
theorem below_trn {B T C : Nat} {w wr w' : World} {v : Value} (h : Below w.heap.size w wr) (he : Ex (trn T C v) wr w') (hT : w.heap.size ≤ T) (hC : w.heap.size ≤ C) (hv : ∀ g, v.ownBlock = some g → w.heap.size ≤ g) : Below w.heap.size w w' :=
  h.trans (he.below h.size (fun k hk e => by
    rcases e with e | e | e
    · omega
    · omega
    · have := hv k e.symm; omega))
theorem lst_next {B T C W H N : Nat} {pv : Value} {w wr w' : World} {l : List Int} {cs : List Cel} {far far' : List Int} {v v' : Value} {Q Q' : List Stop} {k x y : Nat} (h : lst B T C W H pv N w l (fst_ W (cs.take k)) far v Q wr)
    (hk : k < cs.length) (hc : cs[k] = ⟨x, y⟩) (hx : x < W) (hy : y < H) (hr : pa l (y * W + x) ≠ 1) (ht : tde B T C W H pv N far' v' Q' w') (hch : rch far Q (y * W + x) ⟨x, y, 0⟩ far' Q') (he : Ex (trn T C v) wr w') (hT : w.heap.size ≤ T) (hC : w.heap.size ≤ C) (hB : w.heap.size ≤ B) :
    lst B T C W H pv N w l (fst_ W (cs.take (k + 1))) far' v' Q' w' := by
  obtain ⟨h1, h2, h3, h4, h5⟩ := h
  have hj := pl_lt hx hy
  have hb := below_trn (B := B) h5 he hT hC (fun g hg => by have := (World.ownsRow.lt h1.2.2.1 g hg).1; omega)
  rcases hch with ⟨q1, rfl, rfl⟩ | ⟨q1, rfl, q3⟩
  · exact ⟨ht, inv_congr (inv_again h2 h3 hj q1) (fst_take hk hc), h3, h4, hb⟩
  · refine ⟨ht, inv_congr (inv_first h2 h3 q1 hr ⟨x, y, rfl, rfl, hx, hy, rfl⟩ rfl q3) (fst_take hk hc), fun i hi => ?_, ?_, hb⟩
    · rw [pa_set far i _ _ (by rw [h2.len]; exact hj)]
      split
      · exact Int.le_refl _
      · exact h3 i hi
    · have := cnt_set (v := 0) (by rw [h2.len]; exact hj) q1 (by omega)
      have h6 := q3.length_eq
      simp at h6 ⊢; omega
set_option maxRecDepth 20000 in
set_option maxHeartbeats 2000000 in
theorem From_ok (W H : Nat) (a : Addr) (q : Option Addr) (c m d : Nat) (l : List Int) (cs : List Cel) (w : World) (hr : row vi w (some a) l) (hW : 1 ≤ W ∧ W ≤ 40) (hH : 1 ≤ H ∧ H ≤ 40) (hl : l.length = W * H) (hg : l.any bad = false)
    (hc : crow w q cs) (hm : cs.length = m) (h100 : m ≤ 100) (hE : Hid (cke W H l cs = 0)) (ha : a.block < w.heap.size) :
    Calls Try.prog 12 #[.agg #[.int .i64 (W : Int), .int .i64 (H : Int), .slice (some a) (W * H) c], .slice q m d] w fun e w' => ∃ (g : Nat) (far : List Int), e = .returned (.tuple #[.slice (some ⟨g, 0, none⟩) (W * H) (W * H), .int .i64 0]) ∧ mine 3 vi w.heap.size w' (.slice (some ⟨g, 0, none⟩) (W * H) (W * H)) far ∧ Sol W H l (fst_ W cs) far ∧ Below w.heap.size w w' := by
  have HR : Hid (row vi w (some a) l) := hr
  have HC : Hid (crow w q cs) := hc
  have HM : Hid (cs.length = m) := hm
  have HX : Hid ((1 ≤ W ∧ W ≤ 40) ∧ (1 ≤ H ∧ H ≤ 40) ∧ l.length = W * H ∧ l.any bad = false) := ⟨hW, hH, hl, hg⟩
  have hN1 : 1 ≤ W * H := one_le hW hH
  have hN2 : W * H ≤ 1600 := wh_le hW hH
  clear hr hW hH hl hg hc hm
  obtain ⟨w0, hw0⟩ : ∃ w0, w.alloc (.cells #[.int .i64 (W : Int), .int .i64 (H : Int), .slice (some a) (W * H) c] 24) = w0 := ⟨_, rfl⟩
  have hB0 : Below w.heap.size w w0 := by rw [← hw0]; exact alloc_below _ _
  have hb0 : ∀ V, Below w0.heap.size w0 V → V.cell? ⟨w.heap.size, 0, none⟩ = some (.int .i64 (W : Int)) ∧ V.cell? ⟨w.heap.size, 1, none⟩ = some (.int .i64 (H : Int)) ∧ V.cell? ⟨w.heap.size, 2, none⟩ = some (.slice (some a) (W * H) c) := by
    intro V hV; subst hw0; exact box3 hV
  have HB0 : Hid (Below w.heap.size w w0) := hB0
  have HF : Hid (∀ V, Below w0.heap.size w0 V → V.cell? ⟨w.heap.size, 0, none⟩ = some (.int .i64 (W : Int)) ∧ V.cell? ⟨w.heap.size, 1, none⟩ = some (.int .i64 (H : Int)) ∧ V.cell? ⟨w.heap.size, 2, none⟩ = some (.slice (some a) (W * H) c)) := hb0
  obtain ⟨z0, z1, z2⟩ := hb0 w0 (Below.refl _ _)
  clear hB0 hb0
  go_enter Try.func12, Try.ntmps12
  go_wp2_with fail
  refine (check_cells W H a q c m d l cs 0 w0 (row_below HR.out HB0.out) HX.out.1 HX.out.2.1 HX.out.2.2.1 HX.out.2.2.2 (crow_below HC.out HB0.out) HM.out h100 hE).mono ?_
  rintro e w1 ⟨rfl, hb1⟩
  obtain ⟨f0, f1, f2⟩ := HF.out w1 hb1
  have HB1 : Hid (Below w0.heap.size w0 w1) := hb1
  clear hb1 hw0 z0 z1 z2
  go_wp2_with fail
  have hz : w.heap.size < w1.heap.size := cell_lt f0
  refine cut_wp (fun a' w' => ∃ T g s5 : Nat, a' = { tmps := #[.agg #[.int .i64 (W : Int), .int .i64 (H : Int), .slice (some a) (W * H) c], .slice q m d, .pointer (some ⟨w.heap.size, 0, none⟩), undef, .slice none 0 0, .int .i64 0, .int .i64 0, .pointer (some ⟨T, 0, none⟩), undef, undef, .agg #[.int .i64 (W : Int), .int .i64 (H : Int), .slice (some a) (W * H) c], .slice q m d, .int .i64 0, .int .i64 0, .bool false, undef, .agg #[.int .i64 (W : Int), .int .i64 (H : Int), .slice (some a) (W * H) c], .slice (some ⟨s5, 0, none⟩) 1 1, .pointer (some ⟨w.heap.size, 2, none⟩), .slice (some a) (W * H) c, .int .i64 ((W : Int) * (H : Int)), .slice (some ⟨g, 0, none⟩) (W * H) (W * H), .agg #[.int .i64 (W : Int), .int .i64 (H : Int), .slice (some a) (W * H) c, .slice (some ⟨g, 0, none⟩) (W * H) (W * H), .slice none 0 0], undef, undef, undef, undef, undef, undef, undef, undef, undef, undef, undef, undef, undef, undef, undef, undef, undef, undef], defers := [] } ∧ fin w1 T g (W * H) W H (.slice (some a) (W * H) c) w') ?first ?rest
  case first =>
    go_region_held3 (fun V => Below w1.heap.size w1 V ∧ V.cell? ⟨w.heap.size, 0, none⟩ = some (.int .i64 (W : Int)) ∧ V.cell? ⟨w.heap.size, 1, none⟩ = some (.int .i64 (H : Int)) ∧ V.cell? ⟨w.heap.size, 2, none⟩ = some (.slice (some a) (W * H) c)) (first | with_reducible assumption | with_reducible exact k3_drew (by assumption) | with_reducible exact k3_drewN (by assumption) _ | with_reducible exact k3_call (by assumption) (by assumption) | with_reducible exact k3_alloc (by assumption) _ | with_reducible exact k3_of f0 f1 f2 (hB13.alloc hB13.size _) | with_reducible exact k3_of f0 f1 f2 (below_set5 hB13 (Nat.le_refl _) _ _ _ _ _) | with_reducible exact k3_of f0 f1 f2 (below_set5 hB13 (Nat.le_succ _) _ _ _ _ _) | with_reducible exact k3_of f0 f1 f2 (Below.drew (Below.refl _ _)) | with_reducible exact k3_of f0 f1 f2 (below_one _ _) | with_reducible exact k3_of f0 f1 f2 (below_two _ _ _) | with_reducible exact k3_of f0 f1 f2 (Below.refl _ _)) (first
      | (go_at_call 31; refine (Repeat_any ⟨_, 0, none⟩ 1 (W * H) _ (by simp [go_sem]) hN1 hN2).mono ?_; rintro e w3 ⟨g, rfl, hg3, hm3, hb3⟩; have hB13 : Below w1.heap.size w1 w3 := k3_bel hb3 (by assumption); first | (with_reducible (have y5 := tide_at (T := w1.heap.size) hb3 (hi1 _ _ _)); obtain ⟨y0, y1, y2, y3, y4, x0, x1, x2, x3, x4⟩ := y5) | (with_reducible (have y5 := tide_at (T := w1.heap.size + 1) hb3 (hi2 _ _ _)); obtain ⟨y0, y1, y2, y3, y4, x0, x1, x2, x3, x4⟩ := y5) | skip))
    · exact ⟨_, g, _, rfl, fin_alloc hB13 hm3 (below_one w1 (.cells #[.int .i64 (-1)] 3)).size⟩
    · exact ⟨_, g, _, rfl, fin_set (below_two _ _ _).size (Nat.le_succ _) (hi2 _ _ _) hb3 hB13 hm3⟩
    · exact ⟨_, g, _, rfl, fin_set (below_two _ _ _).size (Nat.le_refl _) (hi1 _ _ _) hb3 hB13 hm3⟩
  case rest =>
    rintro a' w4 ⟨T, C, s5, rfl, hfin⟩
    obtain ⟨q1, q2, q3, q4, q5, q6, q7, q8⟩ := hfin
    have hw1 : w.heap.size ≤ w1.heap.size := by omega
    have hbw1 : Below w.heap.size w w1 := HB0.out.trans (HB1.out.mono HB0.out.size)
    have hbw4 : Below w.heap.size w w4 := hbw1.trans (q3.mono hw1)
    obtain ⟨B, hB⟩ : ∃ B, w4.heap.size = B := ⟨_, rfl⟩
    have HTC : Hid (w.heap.size ≤ T ∧ w.heap.size ≤ C ∧ w.heap.size ≤ B ∧ T < B ∧ C < B) := by unfold Hid; omega
    have HL : Hid (lst B T C W H (.slice (some a) (W * H) c) (W * H) w l (fst_ W (cs.take 0)) (List.replicate (W * H) (-1)) (.slice none 0 0) [] w4) := by
      refine ⟨⟨by simpa using q1, by simpa using mine_mono q2 (Nat.zero_le _), que_nil _ _, fun k _ hk => by simp at hk, by omega, by omega, q4, by omega⟩, inv_congr (inv_start W H l) (fun i => ⟨fun e => e.elim, fun ⟨x, y, h, _⟩ => by simp at h⟩), fun i hi => ?_, ?_, hbw4⟩
      · unfold pa; simp [List.getD_eq_getElem?_getD, hi]
      · unfold cnt; rw [List.count_replicate_self]; simp
    clear q1 q2 q3 q4 q5 q6 q7 q8 hbw1 hbw4 hw1 hz f0 f1 f2 hB HF HB1
    go_wp2_with fail
    go_loopw [25] (fun i wr => ∃ (k : Nat), i = .int .i64 k ∧ k ≤ m ∧ ∃ far v Q, Hid (lst B T C W H (.slice (some a) (W * H) c) (W * H) w l (fst_ W (cs.take k)) far v Q wr)) (fun i _ => m - (intOf i).toNat)
    case atStart => exact ⟨0, rfl, by omega, _, _, _, HL⟩
    case round =>
      obtain ⟨k, rfl, hk, far, v, Q, HS⟩ := hrel
      by_cases hlt : k < m
      · have hkl : k < cs.length := by rw [HM.out]; exact hlt
        obtain ⟨b, rfl, hx, hy⟩ := crow_at (crow_below HC.out HS.out.2.2.2.2) hkl
        obtain ⟨x, y, hc, hxW, hyH, hr1⟩ := cke_zero hE.out cs[k] (List.getElem_mem hkl)
        rw [hc] at hx hy
        have hx' : wr.cell? (b.add (k * 2)) = some (.int .i64 (x : Int)) := hx
        have hy' : wr.cell? ⟨(b.add (k * 2)).block, (b.add (k * 2)).off + 1, none⟩ = some (.int .i64 (y : Int)) := cell_two hy
        have HCk : Hid (cs[k] = ⟨x, y⟩) := hc
        have HR1 : Hid (pa l (y * W + x) ≠ 1) := hr1
        have l1 : (k : Int) < m := by omega
        obtain ⟨w5, hw5⟩ : ∃ w5, wr.alloc (.cells #[.int .i64 (x : Int), .int .i64 (y : Int)] 26) = w5 := ⟨_, rfl⟩
        obtain ⟨G, hG⟩ : ∃ G, wr.heap.size = G := ⟨_, rfl⟩
        have hb5 : Below wr.heap.size wr w5 := by rw [← hw5]; exact alloc_below _ _
        have g0 : w5.cell? ⟨G, 0, none⟩ = some (.int .i64 (x : Int)) ∧ w5.cell? ⟨G, 1, none⟩ = some (.int .i64 (y : Int)) := by rw [← hw5, ← hG]; constructor <;> simp [go_sem]
        obtain ⟨g0, g1⟩ := g0
        obtain ⟨s1, s2, s3, s4, s6⟩ := HS.out
        have HS5 : Hid (lst B T C W H (.slice (some a) (W * H) c) (W * H) w l (fst_ W (cs.take k)) far v Q w5) := ⟨tde_below s1 hb5, s2, s3, s4, s6.trans (hb5.mono s6.size)⟩
        have hfl : far.length = W * H := s2.len
        have HFL : Hid (far.length = W * H) := hfl
        have hQl : Q.length ≤ 1600 := by omega
        clear s1 s2 s3 s4 s6 hb5 hx hy hc hr1 hfl
        go_wp2_with fail
        refine (reach_any B T C W H _ (W * H) far v Q x y (y * W + x) 0 w5 HS5.out.1 rfl (by rw [HFL.out]; exact pl_lt hxW hyH) (by rw [HFL.out]; exact hN2) hQl).mono ?_
        rintro e w6 ⟨rfl, far', v', Q', ht6, hc6, he6, ho6⟩
        have HS6 : Hid (lst B T C W H (.slice (some a) (W * H) c) (W * H) w l (fst_ W (cs.take (k + 1))) far' v' Q' w6) :=
          lst_next HS5.out hkl HCk.out hxW hyH HR1.out ht6 hc6 he6 HTC.out.1 HTC.out.2.1 HTC.out.2.2.1
        clear ht6 hc6 he6 ho6
        go_wp2_with fail
        go_roundw
        case rel => exact ⟨k + 1, by go_num, by omega, far', v', Q', HS6⟩
        case measure => simp [intOf]; omega
      · have HS2 : Hid (lst B T C W H (.slice (some a) (W * H) c) (W * H) w l (fst_ W cs) far v Q wr) := by
          have := HS.out
          rwa [List.take_of_length_le (by rw [HM.out]; omega)] at this
        obtain ⟨w7, hw7⟩ : ∃ w7 : World, w7 = wr := ⟨_, rfl⟩
        subst hw7
        clear HS HL
        go_wp2_with fail
        go_loopg [] (W * H) (fun k wr => ∃ far v Q M, Hid (tde B T C W H (.slice (some a) (W * H) c) (W * H) far v Q wr ∧ Inv W H l (fst_ W cs) far Q M none ∧ cnt far + Q.length = k ∧ k ≤ W * H ∧ Below w.heap.size w wr))
        case atStart =>
          obtain ⟨s1, s2, s3, s4, s6⟩ := HS2.out
          exact ⟨far, v, Q, 0, s1, s2, s4, Nat.le_refl _, s6⟩
        case round =>
          obtain ⟨far2, v2, Q2, M, HG⟩ := hrel
          obtain ⟨s1, s2, s3, s4, s5⟩ := HG.out
          obtain ⟨_, _, _, c3, c4, _⟩ := tbx_cells s1.1
          obtain ⟨⟨pq, cq, hv⟩, _⟩ := que_forms s1.2.2.1
          rw [s2.len] at c3
          cases hQ : Q2.length with
          | zero =>
            rw [hv, hQ] at c4
            have hQ0 : Q2 = [] := List.eq_nil_of_length_eq_zero hQ
            have HE : Hid (Sol W H l (fst_ W cs) far2) := by rw [hQ0] at s2; exact inv_end s2
            have HMn : Hid (mine 3 vi w.heap.size wr (.slice (some ⟨C, 0, none⟩) (W * H) (W * H)) far2) := by
              have h2 := s1.2.1
              rw [s2.len] at h2
              exact mine_base h2 HTC.out.2.1
            have HBw : Hid (Below w.heap.size w wr) := s5
            clear s1 s2 s3 s4 s5 hv HG
            go_wp2_with fail
            go_ret2
            exact ⟨C, far2, rfl, HMn.out, HE.out, HBw.out⟩
          | succ n =>
            rw [hv, hQ] at c4
            have hn1 : n < 1600 := by omega
            have hBs : B ≤ wr.heap.size := s1.2.2.2.2.2.2.2
            have hp0 : (0 : Int) < (n : Int) + 1 := by omega
            have HQ : Hid (Q2.length = n + 1) := hQ
            clear s1 s2 s3 s4 s5 hv hQ
            go_wp2_with fail
            refine (next_any B T _ _ _ _ v2 Q2 n wr HG.out.1.1 HG.out.1.2.2.1 HQ.out HTC.out.2.2.2.1 hBs (by omega) HG.out.1.2.2.2.1).mono ?_
            rintro e w8 ⟨s, v3, Q3, rfl, ht8, hq8, hp8, hh8, hm8, he8, ho8⟩
            obtain ⟨s1, s2, s3, s4, s5⟩ := HG.out
            obtain ⟨i, hi, hc, hI⟩ := inv_pop s2 hp8 hm8
            obtain ⟨X, Y, hX, hY, hXW, hYH, hiXY⟩ := hi
            have hgq := World.ownsRow.lt s1.2.2.1
            have hTC := HTC.out
            have ht9 : tde B T C W H (.slice (some a) (W * H) c) (W * H) far2 v3 Q3 w8 := ⟨ht8, mine_ex s1.2.1 he8 (fun g' hg' e => by
              simp [Value.ownBlock] at hg'
              subst hg'
              rcases e with e | e
              · exact s1.2.2.2.2.2.2.1 e.symm
              · have := (hgq _ e.symm).1; omega), hq8, hh8, by omega, by omega, s1.2.2.2.2.2.2.1, by have := he8.size; omega⟩
            have hb9 : Below w.heap.size w w8 := s5.trans (he8.below s5.size (fun k' hk' e => by
              rcases e with e | e
              · omega
              · have := (hgq _ e.symm).1; omega))
            have hcn : cnt far2 + Q3.length = gk - 1 := by have := hp8.length_eq; simp at this; omega
            have hrw : row vi w8 (some a) l := row_below HR.out hb9
            have HT9 : Hid (tde B T C W H (.slice (some a) (W * H) c) (W * H) far2 v3 Q3 w8) := ht9
            have HI9 : Hid (Inv W H l (fst_ W cs) far2 Q3 s.c (some i) ∧ pa far2 i = s.c ∧ i = Y * W + X) := ⟨hI, hc, hiXY⟩
            have HB9 : Hid (Below w.heap.size w w8) := hb9
            have HC9 : Hid (cnt far2 + Q3.length = gk - 1) := hcn
            have HR9 : Hid (row vi w8 (some a) l) := hrw
            have hk1 : 1 ≤ gk ∧ gk ≤ W * H := by have := HQ.out; omega
            rw [hX, hY]
            clear s1 s2 s3 s4 s5 ht8 hq8 hp8 hh8 hm8 he8 ho8 hI hc hiXY hgq ht9 hb9 hcn hrw hX hY hTC HG
            go_wp2_with fail
            refine (spread_any B T C W H a c (W * H) far2 v3 Q3 l (fst_ W cs) s.c X Y i (gk - 1) w8 HT9.out HI9.out.1 HI9.out.2.1 HI9.out.2.2 hXW hYH HX.out.1.2 HX.out.2.1.2 HX.out.2.2.1 HX.out.2.2.2 HR9.out (by have := HTC.out; omega) (by have := HTC.out; omega) (by have := HTC.out; omega) HC9.out (by omega)).mono ?_
            rintro e w10 ⟨rfl, far4, v4, Q4, ht10, hI10, hc10, he10, ho10⟩
            have HB10 : Hid (Below w.heap.size w w10) := below_trn (B := B) HB9.out he10 HTC.out.1 HTC.out.2.1 (fun g' hg' => by have := (World.ownsRow.lt HT9.out.2.2.1 g' hg').1; have := HTC.out; omega)
            have HG10 : Hid (tde B T C W H (.slice (some a) (W * H) c) (W * H) far4 v4 Q4 w10 ∧ Inv W H l (fst_ W cs) far4 Q4 s.c none ∧ cnt far4 + Q4.length = gk - 1) := ⟨ht10, hI10, hc10⟩
            clear ht10 hI10 hc10 he10 ho10
            go_wp2_with fail
            go_roundg (gk - 1)
            case rel => exact ⟨far4, v4, Q4, s.c, HG10.out.1, HG10.out.2.1, HG10.out.2.2, by omega, HB10.out⟩
            case measure => omega
end Go.Proofs.Ytkdammmikmljmaa
