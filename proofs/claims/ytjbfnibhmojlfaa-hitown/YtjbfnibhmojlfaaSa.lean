/- Struck: its mathematics and its rows; what is told with an error. -/
import Derived.Test.YtjbfnibhmojlfaaBn
import Derived.Test.YtjbfnibhmojlfaaDg
namespace Go.Proofs.Ytjbfnibhmojlfaa
open Go.RowKit
set_option linter.unusedVariables false

theorem own_stays {e : TypeId} {size B n : Nat} {w w' : World} {v : Value} {xs : List Value} {S : Nat → Prop} (h : w.ownsRow B e size v n xs) (he : Ex S w w') (hn : ∀ g, v.ownBlock = some g → ¬ S g) : w'.ownsRow B e size v n xs := by
  refine ⟨h.1, ?_⟩
  rcases h.2 with h0 | ⟨g', cap, cur, hv, hB, hblk, hr⟩
  · exact .inl h0
  · refine .inr ⟨g', cap, cur, hv, hB, ?_, hr⟩
    have : g' < w.heap.size := by
      rcases Nat.lt_or_ge g' w.heap.size with hlt | hge
      · exact hlt
      · rw [Array.getElem?_eq_none hge] at hblk; cases hblk
    rw [he.block g' this (hn g' (by rw [hv]; rfl))]; exact hblk
/-- Two rows of elements of two types lie apart. -/
theorem own_apart {e e' : TypeId} {z z' B B' n n' : Nat} {w : World} {v v' : Value} {xs xs' : List Value} (h : w.ownsRow B e z v n xs) (h' : w.ownsRow B' e' z' v' n' xs') (hne : e ≠ e') : ∀ g, v.ownBlock = some g → ¬ some g = v'.ownBlock := by
  intro g hg hg'
  rcases h.2 with ⟨h0, _⟩ | ⟨g1, cap, cur, hv, hB, hblk, hr⟩
  · rw [h0] at hg; cases hg
  · rcases h'.2 with ⟨h0, _⟩ | ⟨g2, cap2, cur2, hv2, hB2, hblk2, hr2⟩
    · rw [h0] at hg'; cases hg'
    · rw [hv] at hg
      rw [hv2] at hg'
      simp [Value.ownBlock] at hg hg'
      subst hg hg'
      rw [hblk] at hblk2
      simp at hblk2
      exact hne hblk2.2
/-- The troops when the first k are struck. -/
def Zs (h : Int → Int) (ts : List Trp) (k : Nat) : List Trp := (ts.take k).map (upd h) ++ ts.drop k
theorem Zs_len {h : Int → Int} {ts : List Trp} {k : Nat} (hk : k ≤ ts.length) : (Zs h ts k).length = ts.length := by
  unfold Zs; rw [List.length_append, List.length_map, List.length_take, List.length_drop]; omega
theorem Zs_zero (h : Int → Int) (ts : List Trp) : Zs h ts 0 = ts := by unfold Zs; simp
theorem Zs_all (h : Int → Int) (ts : List Trp) {k : Nat} (hk : ts.length ≤ k) : Zs h ts k = ts.map (upd h) := by
  unfold Zs; rw [List.take_of_length_le hk, List.drop_of_length_le hk, List.append_nil]
theorem Zs_split (h : Int → Int) {ts : List Trp} {k : Nat} (hk : k < ts.length) : Zs h ts k = (ts.take k).map (upd h) ++ ts[k] :: ts.drop (k + 1) := by
  unfold Zs; rw [List.drop_eq_getElem_cons hk]
theorem Zs_at (h : Int → Int) {ts : List Trp} {k : Nat} (hk : k < ts.length) : (Zs h ts k)[k]? = some ts[k] := by
  rw [Zs_split h hk, List.getElem?_append_right (by rw [List.length_map, List.length_take]; omega)]
  rw [List.length_map, List.length_take, show k - min k ts.length = 0 by omega]; rfl
theorem Zs_next (h : Int → Int) {ts : List Trp} {k : Nat} (hk : k < ts.length) : (Zs h ts k).set k (upd h ts[k]) = Zs h ts (k + 1) := by
  rw [Zs_split h hk, List.set_append_right _ _ (by rw [List.length_map, List.length_take]; omega)]
  rw [List.length_map, List.length_take, show k - min k ts.length = 0 by omega]
  unfold Zs
  rw [List.take_succ_eq_append_getElem hk, List.map_append, List.append_assoc, List.set_cons_zero]; rfl
theorem flat7_life (x : Int) : ∀ (Q : List Trp) (k : Nat) (hk : k < Q.length), flat7 (Q.set k { Q[k] with f := x }) = (flat7 Q).set (k * 7 + 5) (.int .i64 x) := by
  intro Q
  induction Q with
  | nil => intro k h; simp at h
  | cons s Q ih =>
    intro k h
    cases k with
    | zero => rfl
    | succ k =>
      have := ih k (by simpa using h)
      have e : (k + 1) * 7 + 5 = (k * 7 + 5) + 7 := by omega
      rw [e, List.set_cons_succ, flat7_cons, flat7_cons]
      simp only [List.getElem_cons_succ]
      rw [this]; rfl
theorem lft_kp (h : Int → Int) (ts : List Trp) : (ts.map (upd h)).filter kp = lft h ts := rfl
theorem take_gon_yes {h : Int → Int} {ts : List Trp} {k : Nat} (hk : k < ts.length) (hf : ts[k].f - h ts[k].i ≤ 0) : gon h (ts.take (k + 1)) = gon h (ts.take k) ++ [ts[k].i] := by
  rw [List.take_succ_eq_append_getElem hk]; exact gon_snoc_yes hf
theorem take_gon_no {h : Int → Int} {ts : List Trp} {k : Nat} (hk : k < ts.length) (hf : ¬ ts[k].f - h ts[k].i ≤ 0) : gon h (ts.take (k + 1)) = gon h (ts.take k) := by
  rw [List.take_succ_eq_append_getElem hk]; exact gon_snoc_no hf
/-- The loop's state: k are struck, of m it is told whether they are gone. -/
structure sinv (w4 : World) (B C n cap : Nat) (p : Option Addr) (h : Int → Int) (ts : List Trp) (k m : Nat) (gv : Value) (wr : World) : Prop where
  x : Ex (fun g => some g = (Value.slice p n cap).ownBlock) w4 wr
  t : minet B wr (.slice p n cap) (Zs h ts k)
  a : alli wr (.slice p n cap)
  g : mine 3 vi C wr gv (gon h (ts.take m))
section
variable {w4 V V' : World} {B C n cap k m : Nat} {p : Option Addr} {h : Int → Int} {ts : List Trp} {gv : Value}
theorem sinv_below (hs : sinv w4 B C n cap p h ts k m gv V) (hb : Below V.heap.size V V') : sinv w4 B C n cap p h ts k m gv V' :=
  ⟨ex_call hs.x hb, minet_kept hs.t hb, alli_below hs.a hb, mine_below hs.g hb⟩
theorem sinv_set {g : Nat} (hs : sinv w4 B C n cap (some ⟨g, 0, none⟩) h ts k m gv V) (hg : g < C) (hn : ts.length = n) (hk : k < ts.length) :
    sinv w4 B C n cap (some ⟨g, 0, none⟩) h ts (k + 1) m gv (V.setCell ⟨g, k * 7 + 5, none⟩ (.int .i64 (ts[k].f - h ts[k].i))) := by
  have hl : (Zs h ts k).length = n := by rw [Zs_len (by omega)]; exact hn
  have hkz : k < (Zs h ts k).length := by omega
  have hz : (Zs h ts k)[k] = ts[k] := by have := Zs_at h hk; rw [List.getElem?_eq_getElem hkz] at this; exact Option.some.inj this
  refine ⟨ex_set hs.x ⟨g, k * 7 + 5, none⟩ rfl _, ?_, alli_set hs.a _ _ _, mine_kept hs.g (Ex.set (S := fun g' => g' = g) V ⟨g, k * 7 + 5, none⟩ rfl _) (fun g' hg' e => by have := own_base hs.g g' hg'; omega)⟩
  have h1 := hs.t
  unfold minet at h1 ⊢
  rw [hl] at h1
  rw [← Zs_next h hk, List.length_set, hl]
  have h2 := flat7_life (ts[k].f - h ts[k].i) (Zs h ts k) k hkz
  rw [hz] at h2
  have h3 : upd h ts[k] = { ts[k] with f := ts[k].f - h ts[k].i } := rfl
  rw [h3, h2]
  exact (World.ownsRow.stored h1 _ _).1
theorem sinv_gone {v' : Value} {L : List Int} (hs : sinv w4 B C n cap p h ts k m gv V) (hC : w4.heap.size ≤ C) (hp : ∀ g, (Value.slice p n cap).ownBlock = some g → g < C) {m' : Nat} (hL : gon h (ts.take m') = L) (hm : mine 3 vi C V' v' L) (hg : V.grownBy V' gv.ownBlock) :
    sinv w4 B C n cap p h ts k m' v' V' := by
  have hx := Ex.of_grown hg
  have hne : ∀ g, (Value.slice p n cap).ownBlock = some g → ¬ some g = gv.ownBlock := fun g h1 h2 => by have := hp g h1; have := own_base hs.g g h2.symm; omega
  refine ⟨hs.x.trans hx (fun i hi e => ?_), own_stays hs.t hx hne, alli_ex hs.a hx hne, by rw [hL]; exact hm⟩
  have := own_base hs.g i e.symm
  omega
theorem sinv_next (hs : sinv w4 B C n cap p h ts k m gv V) {m' : Nat} (hL : gon h (ts.take m') = gon h (ts.take m)) : sinv w4 B C n cap p h ts k m' gv V := ⟨hs.x, hs.t, hs.a, by rw [hL]; exact hs.g⟩
end

/-- No world. -/
def wz : Wld := ⟨0, 0, none, 0, 0, [], none, 0, 0, [], none, 0, 0, [], none, 0, 0, [], none, 0, 0, [], 0, 0⟩
theorem wz_own (B : Nat) (V : World) : wown B V wz := ⟨mine_nil _ _ _ _, alli_nil _, minec_nil _ _, alli_nil _, mine_nil _ _ _ _, alli_nil _, mine_nil _ _ _ _, alli_nil _, World.ownsRow_nil _ _ _ _, alli_nil _⟩
/-- A world that is like another one, but for its troops. -/
def likew (s s' : Wld) : Prop := s'.A = s.A ∧ s'.B = s.B ∧ s'.n = s.n ∧ s'.l = s.l ∧ s'.nb = s.nb ∧ s'.lb = s.lb ∧ s'.ns = s.ns ∧ s'.ls = s.ls ∧ s'.nm = s.nm ∧ s'.lm = s.lm ∧ s'.N = s.N ∧ s'.T = s.T
/-- What Struck tells. -/
def sok (s : Wld) (bl : List Cel) (E : Int) (s' : Wld) (gl : List Int) : Prop :=
  (E ≠ 0 ∧ s' = wz ∧ gl = []) ∨ (E = 0 ∧ likew s s' ∧ s'.lt = lft (hms s bl) s.lt ∧ s'.lt.length = s'.nt ∧ gl = gon (hms s bl) s.lt)
set_option maxRecDepth 20000 in
set_option maxHeartbeats 2000000 in
theorem Struck_no (s : Wld) (E : Int) (pl : Option Addr) (nl cl : Nat) (bl : List Cel) (w : World) (h : s.fit w) (hb : crow w pl bl) (hx : ∀ c ∈ bl, fits c.x ∧ fits c.y) (hn : bl.length = nl) (hm : nl ≤ 9223372036854775807) (hE : Hid (ber s nl E)) (hE0 : E ≠ 0) :
    Calls Try.prog 9 #[s.val, .slice pl nl cl] w fun e w' => e = .returned (.tuple #[wz.val, .slice none 0 0, .int .i64 E]) ∧ Below w.heap.size w w' := by
  have HC : Hid (∀ V, Below w.heap.size w V → Calls Try.prog 8 #[s.val, .slice pl nl cl] V fun e w' => e = .returned (.tuple #[.slice none 0 0, .int .i64 E]) ∧ Below V.heap.size V w') := fun V hV => by
    refine (Blows_any s E pl nl cl bl V (Wld.fit_below h hV) (crow_below hb hV) hx hn hm hE).mono ?_
    rintro e w' ⟨⟨v, rfl, hr⟩, hb⟩
    rcases hr with ⟨_, rfl⟩ | ⟨h0, _⟩
    · exact ⟨rfl, hb⟩
    · exact absurd h0 hE0
  clear h hE hb hx hn
  obtain ⟨A, B, p, n, c, l, pb, nb, cb, lb, ps, ns, cs, ls, pm, nm, cm, lm, pt, nt, ct, lt, N, T⟩ := s
  unfold Wld.val at *
  dsimp only [wz] at *
  obtain ⟨F, hF⟩ : ∃ F, w.heap.size = F := ⟨_, rfl⟩
  obtain ⟨wa, hwa⟩ : ∃ wa, w.alloc (.cells #[.int .i64 A, .int .i64 B, .slice p n c, .slice pb nb cb, .slice ps ns cs, .slice pm nm cm, .slice pt nt ct, .int .i64 N, .int .i64 T] 28) = wa := ⟨_, rfl⟩
  have xa : bx9 wa F (.int .i64 A) (.int .i64 B) (.slice p n c) (.slice pb nb cb) (.slice ps ns cs) (.slice pm nm cm) (.slice pt nt ct) (.int .i64 N) (.int .i64 T) := by rw [← hwa, ← hF]; exact box9_new _ _ _ _ _ _ _ _ _ _
  have sa : wa.heap.size = F + 1 := by rw [← hwa, World.size_alloc, hF]
  obtain ⟨w0, hw0⟩ : ∃ w0, wa.alloc (.cells #[.int .i64 0, .int .i64 0, .slice none 0 0, .slice none 0 0, .slice none 0 0, .slice none 0 0, .slice none 0 0, .int .i64 0, .int .i64 0] 28) = w0 := ⟨_, rfl⟩
  have ba : Below wa.heap.size wa w0 := by rw [← hw0]; exact alloc_below _ _
  have R0 : bx9 w0 (F + 1) (.int .i64 0) (.int .i64 0) (.slice none 0 0) (.slice none 0 0) (.slice none 0 0) (.slice none 0 0) (.slice none 0 0) (.int .i64 0) (.int .i64 0) := by rw [← hw0, ← sa]; exact box9_new _ _ _ _ _ _ _ _ _ _
  have hB0 : Below w.heap.size w w0 := by
    have h1 : Below w.heap.size w wa := by rw [← hwa]; exact alloc_below _ _
    exact below_call h1 h1.size ba
  have HB0 : Hid (Below w.heap.size w w0) := hB0
  have HF : Hid (w.heap.size = F) := hF
  obtain ⟨z0, z1, z2, z3, z4, z5, z6, z7, z8⟩ := bx9_c9 (bx9_below xa ba)
  have HR0 : Hid (bx9 w0 (F + 1) (.int .i64 0) (.int .i64 0) (.slice none 0 0) (.slice none 0 0) (.slice none 0 0) (.slice none 0 0) (.slice none 0 0) (.int .i64 0) (.int .i64 0)) := R0
  clear xa ba hB0 R0
  go_enter Try.func9, Try.ntmps9
  go_wp2_with fail
  refine (HC.out w0 HB0.out).mono ?_
  rintro e w1 ⟨rfl, hb1⟩
  have HB1 : Hid (Below w.heap.size w w1) := below_call HB0.out HB0.out.size hb1
  have HR1 : Hid (bx9 w1 (F + 1) (.int .i64 0) (.int .i64 0) (.slice none 0 0) (.slice none 0 0) (.slice none 0 0) (.slice none 0 0) (.slice none 0 0) (.int .i64 0) (.int .i64 0)) := bx9_below HR0.out hb1
  clear z0 z1 z2 z3 z4 z5 z6 z7 z8 hb1 hw0 hwa sa hF
  obtain ⟨y0, y1, y2, y3, y4, y5, y6, y7, y8⟩ := bx9_c9 HR1.out
  have fr0 := bx9_free HR1.out 0
  have fr1 := bx9_free HR1.out 1
  have fr2 := bx9_free HR1.out 2
  have fr3 := bx9_free HR1.out 3
  have fr4 := bx9_free HR1.out 4
  have fr5 := bx9_free HR1.out 5
  have fr6 := bx9_free HR1.out 6
  have fr7 := bx9_free HR1.out 7
  have fr8 := bx9_free HR1.out 8
  have d1 : (E != 0) = true := by simp [hE0]
  go_wp2_with fail
  obtain ⟨V, hV⟩ : ∃ V, ((((((((w1.setCell ⟨F + 1, 0, none⟩ (.int .i64 0)).setCell ⟨F + 1, 1, none⟩ (.int .i64 0)).setCell ⟨F + 1, 2, none⟩ (.slice none 0 0)).setCell ⟨F + 1, 3, none⟩ (.slice none 0 0)).setCell ⟨F + 1, 4, none⟩ (.slice none 0 0)).setCell ⟨F + 1, 5, none⟩ (.slice none 0 0)).setCell ⟨F + 1, 6, none⟩ (.slice none 0 0)).setCell ⟨F + 1, 7, none⟩ (.int .i64 0)).setCell ⟨F + 1, 8, none⟩ (.int .i64 0) = V := ⟨_, rfl⟩
  rw [hV]
  obtain ⟨k2, kx⟩ := set9 HR1.out hV.symm
  obtain ⟨t0, t1, t2, t3, t4, t5, t6, t7, t8⟩ := bx9_c9 k2
  refine ⟨by simp, .tuple #[.agg #[.int .i64 0, .int .i64 0, .slice none 0 0, .slice none 0 0, .slice none 0 0, .slice none 0 0, .slice none 0 0, .int .i64 0, .int .i64 0], .slice none 0 0, .int .i64 E], ?_, rfl, ?_⟩
  · simp [results, Try.results9, go_sem, t0, t1, t2, t3, t4, t5, t6, t7, t8]
  · have h9 : Below w.heap.size w V := HB1.out.trans (kx.below (B := w.heap.size) HB1.out.size (fun k hk e => by have := HF.out; omega))
    first | exact h9 | (rw [← HF.out]; exact h9)
end Go.Proofs.Ytjbfnibhmojlfaa
