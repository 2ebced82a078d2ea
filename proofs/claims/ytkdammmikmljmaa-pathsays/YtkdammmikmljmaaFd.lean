/- The flood goes on from a stop to the cells beside it. -/
import Derived.Test.YtkdammmikmljmaaFc
namespace Go.Proofs.Ytkdammmikmljmaa
open Go.RowKit
set_option linter.unusedVariables false

theorem adj_bes {W H X Y k x y : Nat} (hk : k < 4) (hX : X < W) (hY : Y < H) (ex : bX X k = x) (ey : bY Y k = y) (hx : x < W) (hy : y < H) : adj W H (Y * W + X) (y * W + x) := by
  refine ⟨X, Y, x, y, rfl, rfl, hX, hx, hY, hy, ?_⟩
  unfold bX at ex
  unfold bY at ey
  match k, hk with
  | 0, _ => simp at ex ey; omega
  | 1, _ => simp at ex ey; omega
  | 2, _ => simp at ex ey; omega
  | 3, _ => simp at ex ey; omega
theorem bes_adj {W H X Y j : Nat} (hX : X < W) (h : adj W H (Y * W + X) j) : ∃ k x y : Nat, k < 4 ∧ bX X k = x ∧ bY Y k = y ∧ x < W ∧ y < H ∧ j = y * W + x := by
  obtain ⟨x, y, x', y', h1, h2, h3, h4, h5, h6, h7⟩ := h
  obtain ⟨rfl, rfl⟩ := pl_inj hX h3 h1
  have : (X = x' ∧ y' + 1 = Y) ∨ (Y = y' ∧ x' + 1 = X) ∨ (Y = y' ∧ X + 1 = x') ∨ (X = x' ∧ Y + 1 = y') := by omega
  rcases this with ⟨e1, e2⟩ | ⟨e1, e2⟩ | ⟨e1, e2⟩ | ⟨e1, e2⟩
  · exact ⟨0, x', y', by omega, by unfold bX; simp; omega, by unfold bY; simp; omega, h4, h6, h2⟩
  · exact ⟨1, x', y', by omega, by unfold bX; simp; omega, by unfold bY; simp; omega, h4, h6, h2⟩
  · exact ⟨2, x', y', by omega, by unfold bX; simp; omega, by unfold bY; simp; omega, h4, h6, h2⟩
  · exact ⟨3, x', y', by omega, by unfold bX; simp; omega, by unfold bY; simp; omega, h4, h6, h2⟩
/-- The neighbours up to k are come to. -/
def nbs (W H X Y : Nat) (l : List Int) (M : Int) (far : List Int) (k : Nat) : Prop := ∀ k' x y : Nat, k' < k → bX X k' = x → bY Y k' = y → x < W → y < H → pa l (y * W + x) ≠ 1 → 0 ≤ pa far (y * W + x) ∧ pa far (y * W + x) ≤ M + kc (pa l (y * W + x))
section
variable {W H : Nat} {l : List Int} {S : Nat → Prop} {far far' : List Int} {Q Q' : List Stop} {M : Int} {X Y k : Nat}
theorem nbs_skip (h : nbs W H X Y l M far k) (hn : ∀ x y : Nat, bX X k = x → bY Y k = y → x < W → y < H → pa l (y * W + x) = 1) : nbs W H X Y l M far (k + 1) := by
  intro k' x y hk ex ey hx hy hr
  by_cases e : k' = k
  · subst e; exact absurd (hn x y ex ey hx hy) hr
  · exact h k' x y (by omega) ex ey hx hy hr
theorem spr_step {p j x y : Nat} (h : Inv W H l S far Q M (some p)) (hM : pa far p = M) (hp : p = Y * W + X) (hk : k < 4) (hX : X < W) (hY : Y < H) (ex : bX X k = x) (ey : bY Y k = y) (hx : x < W) (hy : y < H) (hj : y * W + x = j) (hr : pa l j ≠ 1)
    (hc : rch far Q j ⟨x, y, M + kc (pa l j)⟩ far' Q') (hn : nbs W H X Y l M far k) :
    Inv W H l S far' Q' M (some p) ∧ pa far' p = M ∧ cnt far' + Q'.length = cnt far + Q.length ∧ nbs W H X Y l M far' (k + 1) := by
  have ha : adj W H p j := by rw [hp, ← hj]; exact adj_bes hk hX hY ex ey hx hy
  have hkc := kc_bd (pa l j)
  have hM0 := h.M0
  have key : ∀ i, 0 ≤ pa far i → pa far' i = pa far i := by
    intro i hi
    rcases hc with ⟨_, e, _⟩ | ⟨hm, e, _⟩
    · rw [e]
    · rw [e, pa_set far i j _ (by rw [h.len]; exact (adj_lt ha).2), if_neg]
      intro e; subst e; omega
  have hnew : 0 ≤ pa far' j ∧ pa far' j ≤ M + kc (pa l j) := by
    rcases hc with ⟨hm, e, _⟩ | ⟨hm, e, _⟩
    · rw [e]
      rcases h.low j (adj_lt ha).2 with e | e
      · exact absurd e hm
      · exact ⟨e.1, e.2.1⟩
    · rw [e, pa_set far j j _ (by rw [h.len]; exact (adj_lt ha).2), if_pos rfl]; show 0 ≤ M + kc (pa l j) ∧ M + kc (pa l j) ≤ M + kc (pa l j); omega
  refine ⟨?_, by rw [key p (by omega)]; exact hM, ?_, ?_⟩
  · rcases hc with ⟨_, e, e'⟩ | ⟨hm, e, hpq⟩
    · rw [e, e']; exact h
    · rw [e]; exact inv_reach h hM ha hr hm ⟨x, y, rfl, rfl, hx, hy, hj.symm⟩ rfl hpq
  · rcases hc with ⟨_, e, e'⟩ | ⟨hm, e, hpq⟩
    · rw [e, e']
    · have := cnt_set (v := M + kc (pa l j)) (by rw [h.len]; exact (adj_lt ha).2) hm (by omega)
      have h2 := hpq.length_eq
      rw [e]
      simp at h2 ⊢; omega
  · intro k' x' y' hk' ex' ey' hx' hy' hr'
    by_cases e : k' = k
    · subst e
      have e1 : x' = x := by rw [ex] at ex'; omega
      have e2 : y' = y := by rw [ey] at ey'; omega
      rw [e1, e2, hj]; exact hnew
    · have := hn k' x' y' (by omega) ex' ey' hx' hy' hr'
      rw [key _ this.1]; exact this
theorem spr_end {p : Nat} (h : Inv W H l S far Q M (some p)) (hM : pa far p = M) (hp : p = Y * W + X) (hX : X < W) (hn : nbs W H X Y l M far 4) : Inv W H l S far Q M none := by
  refine inv_spread h fun j ha hr => ?_
  rw [hp] at ha
  obtain ⟨k, x, y, h1, h2, h3, h4, h5, h6⟩ := bes_adj hX ha
  rw [h6] at hr ⊢
  rw [hM]
  exact hn k x y h1 h2 h3 h4 h5 hr
end
/-- How the spreading stands. -/
def sst (B T C W H : Nat) (pv : Value) (cap : Nat) (v : Value) (l : List Int) (S : Nat → Prop) (M : Int) (p X Y D : Nat) (w1 : World) (k : Nat) (far : List Int) (v' : Value) (Q : List Stop) (wr : World) : Prop :=
  tde B T C W H pv cap far v' Q wr ∧ Inv W H l S far Q M (some p) ∧ pa far p = M ∧ nbs W H X Y l M far k ∧ cnt far + Q.length = D ∧ Ex (trn T C v) w1 wr ∧ ∀ g, v'.ownBlock = some g → v.ownBlock = some g ∨ w1.heap.size ≤ g
section
variable {B T C W H : Nat} {pv : Value} {cap : Nat} {v : Value} {l : List Int} {S : Nat → Prop} {M : Int} {p X Y D : Nat} {w1 : World} {k : Nat} {far : List Int} {v' : Value} {Q : List Stop} {wr w' : World}
theorem sst_below (h : sst B T C W H pv cap v l S M p X Y D w1 k far v' Q wr) (hb : Below wr.heap.size wr w') : sst B T C W H pv cap v l S M p X Y D w1 k far v' Q w' :=
  ⟨tde_below h.1 hb, h.2.1, h.2.2.1, h.2.2.2.1, h.2.2.2.2.1, h.2.2.2.2.2.1.trans (Ex.of_below (S := fun _ => False) hb) (fun _ _ e => e.elim), h.2.2.2.2.2.2⟩
theorem sst_skip (h : sst B T C W H pv cap v l S M p X Y D w1 k far v' Q wr) (hn : ∀ x y : Nat, bX X k = x → bY Y k = y → x < W → y < H → pa l (y * W + x) = 1) : sst B T C W H pv cap v l S M p X Y D w1 (k + 1) far v' Q wr :=
  ⟨h.1, h.2.1, h.2.2.1, nbs_skip h.2.2.2.1 hn, h.2.2.2.2.1, h.2.2.2.2.2.1, h.2.2.2.2.2.2⟩
theorem sst_next (h : sst B T C W H pv cap v l S M p X Y D w1 k far v' Q wr) {far' : List Int} {v2 : Value} {Q' : List Stop} {j x y : Nat} (hp : p = Y * W + X) (hk : k < 4) (hX : X < W) (hY : Y < H) (ex : bX X k = x) (ey : bY Y k = y) (hx : x < W) (hy : y < H) (hj : y * W + x = j) (hr : pa l j ≠ 1)
    (ht : tde B T C W H pv cap far' v2 Q' w') (hc : rch far Q j ⟨x, y, M + kc (pa l j)⟩ far' Q') (he : Ex (trn T C v') wr w') (ho : ∀ g, v2.ownBlock = some g → v'.ownBlock = some g ∨ wr.heap.size ≤ g) : sst B T C W H pv cap v l S M p X Y D w1 (k + 1) far' v2 Q' w' := by
  obtain ⟨h1, h2, h3, h4, h5, h6, h7⟩ := h
  obtain ⟨a1, a2, a3, a4⟩ := spr_step h2 h3 hp hk hX hY ex ey hx hy hj hr hc h4
  refine ⟨ht, a1, a2, a4, by omega, h6.trans he (fun i hi e => ?_), fun g hg => ?_⟩
  · rcases e with e | e | e
    · exact .inl e
    · exact .inr (.inl e)
    · rcases h7 i e.symm with e' | e'
      · exact .inr (.inr e'.symm)
      · omega
  · rcases ho g hg with e | e
    · exact h7 g e
    · exact .inr (by have := h6.size; omega)
end
theorem k4_drew {w V : World} {x y z u : Addr} {a b c d : Value} (h : Below w.heap.size w V ∧ V.cell? x = some a ∧ V.cell? y = some b ∧ V.cell? z = some c ∧ V.cell? u = some d) : Below w.heap.size w V.drew ∧ V.drew.cell? x = some a ∧ V.drew.cell? y = some b ∧ V.drew.cell? z = some c ∧ V.drew.cell? u = some d := ⟨h.1.drew, h.2.1, h.2.2.1, h.2.2.2.1, h.2.2.2.2⟩
theorem k4_drewN {w V : World} {x y z u : Addr} {a b c d : Value} (h : Below w.heap.size w V ∧ V.cell? x = some a ∧ V.cell? y = some b ∧ V.cell? z = some c ∧ V.cell? u = some d) (n : Nat) : Below w.heap.size w (V.drewN n) ∧ (V.drewN n).cell? x = some a ∧ (V.drewN n).cell? y = some b ∧ (V.drewN n).cell? z = some c ∧ (V.drewN n).cell? u = some d := ⟨below_drewN h.1 n, h.2.1, h.2.2.1, h.2.2.2.1, h.2.2.2.2⟩
theorem k4_call {w V V' : World} {x y z u : Addr} {a b c d : Value} (h : Below w.heap.size w V ∧ V.cell? x = some a ∧ V.cell? y = some b ∧ V.cell? z = some c ∧ V.cell? u = some d) (hb : Below V.heap.size V V') : Below w.heap.size w V' ∧ V'.cell? x = some a ∧ V'.cell? y = some b ∧ V'.cell? z = some c ∧ V'.cell? u = some d :=
  ⟨h.1.trans (hb.mono h.1.size), by rw [hb.cell (cell_lt h.2.1)]; exact h.2.1, by rw [hb.cell (cell_lt h.2.2.1)]; exact h.2.2.1, by rw [hb.cell (cell_lt h.2.2.2.1)]; exact h.2.2.2.1, by rw [hb.cell (cell_lt h.2.2.2.2)]; exact h.2.2.2.2⟩
theorem k5_drew {w V : World} {x y z u t : Addr} {a b c d e : Value} (h : Below w.heap.size w V ∧ V.cell? x = some a ∧ V.cell? y = some b ∧ V.cell? z = some c ∧ V.cell? u = some d ∧ V.cell? t = some e) : Below w.heap.size w V.drew ∧ V.drew.cell? x = some a ∧ V.drew.cell? y = some b ∧ V.drew.cell? z = some c ∧ V.drew.cell? u = some d ∧ V.drew.cell? t = some e := ⟨h.1.drew, h.2.1, h.2.2.1, h.2.2.2.1, h.2.2.2.2.1, h.2.2.2.2.2⟩
theorem k5_drewN {w V : World} {x y z u t : Addr} {a b c d e : Value} (h : Below w.heap.size w V ∧ V.cell? x = some a ∧ V.cell? y = some b ∧ V.cell? z = some c ∧ V.cell? u = some d ∧ V.cell? t = some e) (n : Nat) : Below w.heap.size w (V.drewN n) ∧ (V.drewN n).cell? x = some a ∧ (V.drewN n).cell? y = some b ∧ (V.drewN n).cell? z = some c ∧ (V.drewN n).cell? u = some d ∧ (V.drewN n).cell? t = some e := ⟨below_drewN h.1 n, h.2.1, h.2.2.1, h.2.2.2.1, h.2.2.2.2.1, h.2.2.2.2.2⟩
theorem k5_call {w V V' : World} {x y z u t : Addr} {a b c d e : Value} (h : Below w.heap.size w V ∧ V.cell? x = some a ∧ V.cell? y = some b ∧ V.cell? z = some c ∧ V.cell? u = some d ∧ V.cell? t = some e) (hb : Below V.heap.size V V') : Below w.heap.size w V' ∧ V'.cell? x = some a ∧ V'.cell? y = some b ∧ V'.cell? z = some c ∧ V'.cell? u = some d ∧ V'.cell? t = some e :=
  ⟨h.1.trans (hb.mono h.1.size), by rw [hb.cell (cell_lt h.2.1)]; exact h.2.1, by rw [hb.cell (cell_lt h.2.2.1)]; exact h.2.2.1, by rw [hb.cell (cell_lt h.2.2.2.1)]; exact h.2.2.2.1, by rw [hb.cell (cell_lt h.2.2.2.2.1)]; exact h.2.2.2.2.1, by rw [hb.cell (cell_lt h.2.2.2.2.2)]; exact h.2.2.2.2.2⟩
theorem inb_nat {W H : Nat} {x y : Int} (h : inb W H x y = true) : ∃ a b : Nat, x = a ∧ y = b ∧ a < W ∧ b < H := by
  unfold inb at h
  simp at h
  exact ⟨x.toNat, y.toNat, by omega, by omega, by omega, by omega⟩
theorem inb_no {W H : Nat} {x y : Int} (h : inb W H x y = false) : ∀ a b : Nat, x = a → y = b → a < W → b < H → False := by
  unfold inb at h
  intro a b e1 e2 h1 h2
  subst e1 e2
  simp at h; omega
theorem co_kc {p : Int} (h0 : 0 ≤ p) (h3 : p ≤ 3) (h1 : p ≠ 1) : co p = kc p ∧ ce p = 0 := by
  have : p = 0 ∨ p = 2 ∨ p = 3 := by omega
  rcases this with e | e | e <;> subst e <;> exact ⟨by decide, by decide⟩

theorem row_ex {w w' : World} {a : Addr} {l : List Int} {S : Nat → Prop} (h : row vi w (some a) l) (he : Ex S w w') (hn : ¬ S a.block) : row vi w' (some a) l := by
  intro j x hj
  obtain ⟨b, hb, hc⟩ := h j x hj
  cases hb
  refine ⟨a, rfl, ?_⟩
  rw [he.cell (p := a.add j) (by exact cell_lt hc) (by rw [add_block]; exact hn)]; exact hc
theorem sort_bd {l : List Int} (hg : l.any bad = false) {j : Nat} (hj : j < l.length) : 0 ≤ pa l j ∧ pa l j ≤ 3 := by
  rw [pa_get l hj]
  have := List.any_eq_false.1 hg l[j] (List.getElem_mem hj)
  unfold bad at this
  simp at this; omega
set_option maxRecDepth 20000 in
set_option maxHeartbeats 4000000 in
theorem spread_any (B T C W H : Nat) (a : Addr) (cp cap : Nat) (far : List Int) (v : Value) (Q : List Stop) (l : List Int) (S : Nat → Prop) (M : Int) (X Y p D : Nat) (w : World)
    (ht : tde B T C W H (.slice (some a) (W * H) cp) cap far v Q w) (hI : Inv W H l S far Q M (some p)) (hM : pa far p = M) (hp : p = Y * W + X) (hX : X < W) (hY : Y < H) (hW : W ≤ 40) (hH : H ≤ 40) (hl : l.length = W * H) (hg : l.any bad = false)
    (hrow : row vi w (some a) l) (ha : a.block < B) (haT : a.block ≠ T) (haC : a.block ≠ C) (hD : cnt far + Q.length = D) (hD2 : D ≤ 1600) :
    Calls Try.prog 33 #[.pointer (some ⟨T, 0, none⟩), .agg #[.int .i64 (X : Int), .int .i64 (Y : Int), .int .i64 M]] w fun e w' => e = .returned (.tuple #[]) ∧ ∃ far' v' Q', tde B T C W H (.slice (some a) (W * H) cp) cap far' v' Q' w' ∧ Inv W H l S far' Q' M none ∧ cnt far' + Q'.length = D ∧ Ex (trn T C v) w w' ∧ ∀ k, v'.ownBlock = some k → v.ownBlock = some k ∨ w.heap.size ≤ k := by
  have HT : Hid (tde B T C W H (.slice (some a) (W * H) cp) cap far v Q w) := ht
  have HTC : Hid (T < w.heap.size ∧ C < w.heap.size ∧ T < B ∧ C < B ∧ B ≤ w.heap.size) := by
    obtain ⟨h1, h2, h3, h4, h5, h6, h7, h8⟩ := ht
    exact ⟨by omega, by omega, h5, h6, h8⟩
  have HG : Hid (∀ k, v.ownBlock = some k → B ≤ k ∧ k < w.heap.size) := World.ownsRow.lt ht.2.2.1
  have hM0 := hI.M0
  have hM1 : M ≤ 4800 := by
    have h1 := hI.top p (by rw [hp]; exact pl_lt hX hY)
    have h2 : W * H ≤ 1600 := by have := Nat.mul_le_mul hW hH; omega
    rw [hM] at h1; omega
  have HWH : Hid (W * H ≤ 1600) := by have := Nat.mul_le_mul hW hH; unfold Hid; omega
  have HI : Hid (Inv W H l S far Q M (some p) ∧ pa far p = M ∧ p = Y * W + X ∧ cnt far + Q.length = D) := ⟨hI, hM, hp, hD⟩
  have HR : Hid (row vi w (some a) l ∧ a.block < B ∧ a.block ≠ T ∧ a.block ≠ C ∧ l.length = W * H ∧ l.any bad = false) := ⟨hrow, ha, haT, haC, hl, hg⟩
  clear ht hI hM hp hD hrow ha haT haC hl hg
  go_enter Try.func33, Try.ntmps33
  go_wp2_with fail
  obtain ⟨F, hF⟩ : ∃ F, w.heap.size = F := ⟨_, rfl⟩
  obtain ⟨w0, hw0⟩ : ∃ w0, w.alloc (.cells #[.int .i64 (X : Int), .int .i64 (Y : Int), .int .i64 M] 68) = w0 := ⟨_, rfl⟩
  have hB0 : Below w.heap.size w w0 := by rw [← hw0]; exact alloc_below _ _
  have hs0 : w0.heap.size = F + 1 := by rw [← hw0, ← hF]; simp
  have b0 : w0.cell? ⟨F, 2, none⟩ = some (.int .i64 M) := by rw [← hw0, ← hF]; simp [go_sem]
  rw [hw0]
  clear hw0
  refine (beside_any X Y w0 (by omega) (by omega)).mono ?_
  rintro e w1 ⟨rfl, hb1⟩
  have hb2 : Below w.heap.size w w1 := hB0.trans (hb1.mono (by omega))
  have HB1 : Hid (Below w.heap.size w w1) := hb2
  have HS1 : Hid (F < w1.heap.size) := by have := hb1.size; unfold Hid; omega
  have B1 : Hid (w1.cell? ⟨F, 2, none⟩ = some (.int .i64 M)) := (hb1.cell (p := ⟨F, 2, none⟩) (by show F < w0.heap.size; omega)).trans b0
  have HF : Hid (w.heap.size = F) := hF
  have H0 : Hid (sst B T C W H (.slice (some a) (W * H) cp) cap v l S M p X Y D w1 0 far v Q w1) :=
    ⟨tde_below HT.out hb2, HI.out.1, HI.out.2.1, fun k' x y hk => by omega, HI.out.2.2.2, Ex.refl _ _, fun g hg => .inl hg⟩
  clear hB0 hb1 hb2 b0 hs0 hF
  go_wp2_with fail
  go_loopw [11] (fun i wr => ∃ (k : Nat), i = .int .i64 k ∧ k ≤ 4 ∧ ∃ far' v' Q', Hid (sst B T C W H (.slice (some a) (W * H) cp) cap v l S M p X Y D w1 k far' v' Q' wr)) (fun i _ => 4 - (intOf i).toNat)
  case atStart => exact ⟨0, rfl, by omega, far, v, Q, H0⟩
  case round =>
    obtain ⟨k, rfl, hk, far', v', Q', HS⟩ := hrel
    by_cases hlt : k < 4
    · have hix := fun V => bes_at (X : Int) (Y : Int) k hlt V
      obtain ⟨x, hx⟩ : ∃ x, bX (X : Int) k = x := ⟨_, rfl⟩
      obtain ⟨y, hy⟩ : ∃ y, bY (Y : Int) k = y := ⟨_, rfl⟩
      simp only [hx, hy] at hix
      have HX : Hid (bX (X : Int) k = x) := hx
      have HY : Hid (bY (Y : Int) k = y) := hy
      clear hx hy
      have hki : (k : Int) < 4 := by omega
      obtain ⟨w4, hw4⟩ : ∃ w4, wr.alloc (.cells #[.int .i64 x, .int .i64 y] 26) = w4 := ⟨_, rfl⟩
      obtain ⟨G, hG⟩ : ∃ G, wr.heap.size = G := ⟨_, rfl⟩
      have hS4 : sst B T C W H (.slice (some a) (W * H) cp) cap v l S M p X Y D w1 k far' v' Q' w4 := sst_below HS.out (by rw [← hw4]; exact alloc_below _ _)
      have HS4 : Hid (sst B T C W H (.slice (some a) (W * H) cp) cap v l S M p X Y D w1 k far' v' Q' w4) := hS4
      have g0 : w4.cell? ⟨G, 0, none⟩ = some (.int .i64 x) ∧ w4.cell? ⟨G, 1, none⟩ = some (.int .i64 y) := by rw [← hw4, ← hG]; constructor <;> simp [go_sem]
      obtain ⟨g0, g1⟩ := g0
      obtain ⟨t0, t1, t2, _, _, _⟩ := tbx_cells hS4.1.1
      clear hS4
      cases hin : inb W H x y with
      | false =>
        have HIN : Hid (inb W H x y = false) := hin
        clear hin
        go_wp2_with fail
        go_region_held3 (fun V => Below w4.heap.size w4 V ∧ V.cell? ⟨T, 0, none⟩ = some (.int .i64 (W : Int)) ∧ V.cell? ⟨T, 1, none⟩ = some (.int .i64 (H : Int)) ∧ V.cell? ⟨T, 2, none⟩ = some (.slice (some a) (W * H) cp) ∧ V.cell? ⟨G, 0, none⟩ = some (.int .i64 x) ∧ V.cell? ⟨G, 1, none⟩ = some (.int .i64 y)) (first | assumption | exact k5_drew (by assumption) | exact k5_drewN (by assumption) _ | exact k5_call (by assumption) (by assumption) | exact ⟨Below.drew (Below.refl _ _), t0, t1, t2, g0, g1⟩ | exact ⟨Below.refl _ _, t0, t1, t2, g0, g1⟩) (first
          | (go_at_call 48; refine (isIn_at (W : Int) (H : Int) _ _ _ false _ HIN).mono ?_; rintro e w5 ⟨rfl, hb5⟩))
        have HS5 : Hid (sst B T C W H (.slice (some a) (W * H) cp) cap v l S M p X Y D w1 k far' v' Q' w5) := sst_below HS4.out ((Below.refl _ _).drew.trans hb5)
        clear hb5
        go_wp2_with fail
        go_roundw
        case rel => exact ⟨k + 1, by go_num, by omega, far', v', Q', sst_skip HS5.out (fun x' y' ex ey hx hy => (inb_no HIN.out x' y' (by rw [← HX.out]; exact ex) (by rw [← HY.out]; exact ey) hx hy).elim)⟩
        case measure => simp [intOf]; omega
      | true =>
        obtain ⟨x', y', rfl, rfl, hx', hy'⟩ := inb_nat hin
        have HIN : Hid (inb W H x' y' = true) := hin
        clear hin
        obtain ⟨j, hj⟩ : ∃ j, y' * W + x' = j := ⟨_, rfl⟩
        have hjl : j < W * H := by rw [← hj]; exact pl_lt hx' hy'
        have HJ : Hid (y' * W + x' = j) := hj
        clear hj
        obtain ⟨Z, hZ⟩ : ∃ Z, pa l j = Z := ⟨_, rfl⟩
        have HZ : Hid (pa l j = Z) := hZ
        have hbd := sort_bd HR.out.2.2.2.2.2 (j := j) (by rw [HR.out.2.2.2.2.1]; exact hjl)
        rw [hZ] at hbd
        have HBD : Hid (0 ≤ Z ∧ Z ≤ 3) := hbd
        clear hbd hZ
        have hj16 : j ≤ 1600 := by have := HWH.out; omega
        go_wp2_with fail
        go_region_held3 (fun V => Below w4.heap.size w4 V ∧ V.cell? ⟨T, 0, none⟩ = some (.int .i64 (W : Int)) ∧ V.cell? ⟨T, 1, none⟩ = some (.int .i64 (H : Int)) ∧ V.cell? ⟨T, 2, none⟩ = some (.slice (some a) (W * H) cp) ∧ V.cell? ⟨G, 0, none⟩ = some (.int .i64 (x' : Int)) ∧ V.cell? ⟨G, 1, none⟩ = some (.int .i64 (y' : Int))) (first | assumption | exact k5_drew (by assumption) | exact k5_drewN (by assumption) _ | exact k5_call (by assumption) (by assumption) | exact ⟨Below.drew (Below.refl _ _), t0, t1, t2, g0, g1⟩ | exact ⟨Below.refl _ _, t0, t1, t2, g0, g1⟩) (first
          | (go_at_call 48; refine (isIn_at (W : Int) (H : Int) _ _ _ true _ HIN).mono ?_; rintro e w5 ⟨rfl, hb5⟩))
        have hb45 : Below w4.heap.size w4 w5 := (Below.refl _ _).drew.trans hb5
        have hs5 := sst_below HS4.out hb45
        have HS5 : Hid (sst B T C W H (.slice (some a) (W * H) cp) cap v l S M p X Y D w1 k far' v' Q' w5) := hs5
        obtain ⟨r0, r1, r2, _, _, _⟩ := tbx_cells hs5.1.1
        have q0 : w5.cell? ⟨G, 0, none⟩ = some (.int .i64 (x' : Int)) := (hb45.cell (p := ⟨G, 0, none⟩) (cell_lt g0)).trans g0
        have q1 : w5.cell? ⟨G, 1, none⟩ = some (.int .i64 (y' : Int)) := (hb45.cell (p := ⟨G, 1, none⟩) (cell_lt g1)).trans g1
        have hrw : row vi w5 (some a) l := row_ex (row_below HR.out.1 HB1.out) hs5.2.2.2.2.2.1 (fun e => by
          have h1 := HR.out; have h2 := HTC.out
          rcases e with e | e | e
          · exact h1.2.2.1 e
          · exact h1.2.2.2.1 e
          · have := (HG.out _ e.symm).1; omega)
        obtain ⟨a', ea, qz⟩ := row_at hrw (j := j) (by rw [HR.out.2.2.2.2.1]; exact hjl)
        cases ea
        have ez : l[j]'(by rw [HR.out.2.2.2.2.1]; exact hjl) = Z := by rw [← HZ.out, pa_get]
        rw [ez] at qz
        have qz' : w5.cell? (a.add j) = some (.int .i64 Z) := qz
        clear hb45 hb5 hs5 hrw ez qz g0 g1 t0 t1 t2 hix hw4
        have i1 : (j : Int) < W * H := by omega
        have i2 : (0 : Int) ≤ j := by omega
        have HIX : Hid (∀ V, Below w5.heap.size w5 V → Calls Try.prog 45 #[.pointer (some ⟨T, 0, none⟩), .agg #[.int .i64 (x' : Int), .int .i64 (y' : Int)]] V fun e w' => e = .returned (.int .i64 (j : Int)) ∧ Below V.heap.size V w') :=
          fun V hV => index_any T W x' y' j _ _ _ _ V (tde_below HS5.out.1 hV).1 HJ (by omega)
        by_cases hr : Z = 1
        · have HC : Hid (co Z = 0) := by subst hr; unfold Hid; decide
          have HE : Hid (ce Z = 9) := by subst hr; unfold Hid; decide
          have HZ1 : Hid (Z = 1) := hr
          clear hr
          go_wp2_with fail
          go_region_held3 (fun V => Below w5.heap.size w5 V ∧ V.cell? ⟨T, 2, none⟩ = some (.slice (some a) (W * H) cp) ∧ V.cell? ⟨G, 0, none⟩ = some (.int .i64 (x' : Int)) ∧ V.cell? ⟨G, 1, none⟩ = some (.int .i64 (y' : Int)) ∧ V.cell? (a.add j) = some (.int .i64 Z)) (first | assumption | exact k4_drew (by assumption) | exact k4_drewN (by assumption) _ | exact k4_call (by assumption) (by assumption) | exact ⟨Below.drew (Below.refl _ _), r2, q0, q1, qz'⟩ | exact ⟨Below.refl _ _, r2, q0, q1, qz'⟩) (first
            | (go_at_call 45; refine (HIX.out _ (And.left (by assumption))).mono ?_; rintro e w6 ⟨rfl, hb6⟩)
            | (go_at_call 14; refine (Cost_at Z 0 9 _ HC HE).mono ?_; rintro e w' ⟨rfl, hw⟩; subst w'))
          have HS6 : Hid (sst B T C W H (.slice (some a) (W * H) cp) cap v l S M p X Y D w1 k far' v' Q' w6) := sst_below HS5.out ((Below.refl _ _).drew.trans hb6)
          clear hb6
          go_wp2_with fail
          go_roundw
          case rel =>
            refine ⟨k + 1, by go_num, by omega, far', v', Q', sst_skip HS6.out (fun x2 y2 ex ey hx hy => ?_)⟩
            have e1 : x2 = x' := by have := HX.out; rw [ex] at this; omega
            have e2 : y2 = y' := by have := HY.out; rw [ey] at this; omega
            rw [e1, e2, HJ.out, HZ.out]; exact HZ1.out
          case measure => simp [intOf]; omega
        · obtain ⟨K, hK⟩ : ∃ K, kc Z = K := ⟨_, rfl⟩
          have hkb := kc_bd Z
          rw [hK] at hkb
          have hck := co_kc HBD.out.1 HBD.out.2 hr
          have HC : Hid (co Z = K) := hck.1.trans hK
          have HE : Hid (ce Z = 0) := hck.2
          have HK : Hid (kc Z = K) := hK
          have HZ1 : Hid (Z ≠ 1) := hr
          clear hr hck hK
          go_wp2_with fail
          go_region_held3 (fun V => Below w5.heap.size w5 V ∧ V.cell? ⟨T, 2, none⟩ = some (.slice (some a) (W * H) cp) ∧ V.cell? ⟨G, 0, none⟩ = some (.int .i64 (x' : Int)) ∧ V.cell? ⟨G, 1, none⟩ = some (.int .i64 (y' : Int)) ∧ V.cell? (a.add j) = some (.int .i64 Z)) (first | assumption | exact k4_drew (by assumption) | exact k4_drewN (by assumption) _ | exact k4_call (by assumption) (by assumption) | exact ⟨Below.drew (Below.refl _ _), r2, q0, q1, qz'⟩ | exact ⟨Below.refl _ _, r2, q0, q1, qz'⟩) (first
            | (go_at_call 45; refine (HIX.out _ (And.left (by assumption))).mono ?_; rintro e w6 ⟨rfl, hb6⟩)
            | (go_at_call 14; refine (Cost_at Z K 0 _ HC HE).mono ?_; rintro e w' ⟨rfl, hw⟩; subst w'))
          have hb56 : Below w5.heap.size w5 w6 := (Below.refl _ _).drew.trans hb6
          have hs6 := sst_below HS5.out hb56
          have HS6 : Hid (sst B T C W H (.slice (some a) (W * H) cp) cap v l S M p X Y D w1 k far' v' Q' w6) := hs6
          have p0 : w6.cell? ⟨G, 0, none⟩ = some (.int .i64 (x' : Int)) := (hb56.cell (p := ⟨G, 0, none⟩) (cell_lt q0)).trans q0
          have p1 : w6.cell? ⟨G, 1, none⟩ = some (.int .i64 (y' : Int)) := (hb56.cell (p := ⟨G, 1, none⟩) (cell_lt q1)).trans q1
          have p2 : w6.cell? ⟨w.heap.size, 2, none⟩ = some (.int .i64 M) := by
            rw [HF.out, hs6.2.2.2.2.2.1.cell (p := ⟨F, 2, none⟩) HS1.out (fun e => by
              have h2 := HTC.out
              have h3 := HF.out
              rcases e with e | e | e
              · simp at e; omega
              · simp at e; omega
              · have := (HG.out _ e.symm).2; simp at this; omega)]
            exact B1.out
          have hfl : far'.length = W * H := hs6.2.1.len
          have hQl : Q'.length ≤ 1600 := by have := hs6.2.2.2.2.1; omega
          have HFL : Hid (far'.length = W * H) := hfl
          clear hb6 hb56 hs6 q0 q1 qz' r0 r1 r2 hfl
          go_wp2_with fail
          refine (reach_any B T C W H _ cap far' v' Q' x' y' j (M + K) w6 HS6.out.1 HJ (by rw [HFL.out]; exact hjl) (by rw [HFL.out]; exact HWH.out) hQl).mono ?_
          rintro e w7 ⟨rfl, far2, v2, Q2, ht7, hc7, he7, ho7⟩
          have HS7 : Hid (sst B T C W H (.slice (some a) (W * H) cp) cap v l S M p X Y D w1 (k + 1) far2 v2 Q2 w7) :=
            sst_next HS6.out HI.out.2.2.1 hlt hX hY HX.out HY.out hx' hy' HJ.out (by rw [HZ.out]; exact HZ1.out) ht7 (by rw [HZ.out, HK.out]; exact hc7) he7 ho7
          clear ht7 hc7 he7 ho7 p0 p1 p2
          go_wp2_with fail
          go_roundw
          case rel => exact ⟨k + 1, by go_num, by omega, far2, v2, Q2, HS7⟩
          case measure => simp [intOf]; omega
    · obtain rfl : k = 4 := by omega
      go_wp2_with fail
      go_end0
      obtain ⟨h1, h2, h3, h4, h5, h6, h7⟩ := HS.out
      refine ⟨rfl, far', v', Q', h1, spr_end h2 h3 HI.out.2.2.1 hX h4, h5, (Ex.of_below HB1.out).trans h6 (fun _ _ e => e), fun g hg => ?_⟩
      rcases h7 g hg with e | e
      · exact .inl e
      · exact .inr (by have := HB1.out.size; omega)
end Go.Proofs.Ytkdammmikmljmaa
