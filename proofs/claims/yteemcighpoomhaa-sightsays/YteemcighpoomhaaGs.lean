/- What guess returns of a text that is not too long. -/
import Derived.Test.YteemcighpoomhaaNo
import Derived.Test.YteemcighpoomhaaStr
import Derived.Deep.RegionLaw
namespace Go.Proofs.Yteemcighpoomhaa
open Go.RowKit
set_option linter.unusedVariables false

/-- The bytes of a text; what is guessed of them. -/
def bs (s : ByteArray) : List UInt8 := s.data.toList
theorem bs_len (s : ByteArray) : (bs s).length = s.size := by unfold bs; simp
def gw (L : List UInt8) : Int := Lib.indexByte L 10
def gh (L : List UInt8) : Nat := Lib.countByte L 10
def ix (b : UInt8) : Int := Lib.indexByte [46, 35, 116, 111] b
def gl (L : List UInt8) : List Int := (L.filter fun b => b != 10).map ix
theorem gl_skip {L : List UInt8} {k : Nat} (hk : k < L.length) (h : L[k] = 10) : gl (L.take (k + 1)) = gl (L.take k) := by
  unfold gl; rw [List.take_succ_eq_append_getElem hk, List.filter_append, h]; simp
theorem gl_more {L : List UInt8} {k : Nat} (hk : k < L.length) (h : L[k] ≠ 10) : gl (L.take (k + 1)) = gl (L.take k) ++ [ix L[k]] := by
  unfold gl; rw [List.take_succ_eq_append_getElem hk, List.filter_append]; simp [h]
theorem gl_len (L : List UInt8) : (gl L).length ≤ L.length := by
  unfold gl; rw [List.length_map]; exact List.length_filter_le _ _
theorem Index_at (s : ByteArray) (r : Int) (w : World) (h : Hid (gw (bs s) = r)) : Calls Try.prog 39 #[.string s, .string ⟨#[10]⟩] w fun e w' => e = .returned (.int .i64 r) ∧ w' = w := by rw [← h.out]; exact Index_any s 10 w
theorem Count_at (s : ByteArray) (r : Nat) (w : World) (h : Hid (gh (bs s) = r)) : Calls Try.prog 40 #[.string s, .string ⟨#[10]⟩] w fun e w' => e = .returned (.int .i64 (r : Int)) ∧ w' = w := by rw [← h.out]; exact Count_any s 10 w
theorem IndexByte_at (b : UInt8) (r : Int) (w : World) (h : Hid (ix b = r)) : Calls Try.prog 41 #[.string ⟨#[46, 35, 116, 111]⟩, .int .u8 (b.toNat : Int)] w fun e w' => e = .returned (.int .i64 r) ∧ w' = w := by
  rw [← h.out]
  have := IndexByte_any ⟨#[46, 35, 116, 111]⟩ (b.toNat : Int) w
  simpa [ix] using this

variable {α : Type}
theorem step_one {T E : TypeId} {f : α → Value} {z : Value} {by_ : Nat} (hk : Kd T E f z by_) {ops : Array Oper} {o : Oper} {a : Act} {K : Act → World → Prop} {Q : Exit → Act → World → Prop} {Z : Prop} (w : World) (hgd : o.guard = none) (s x : Operand)
    (ho : o.op = .call { callee := .builtin .append, args := #[s, x], argTypes := #[T, T] })
    (B : Nat) (v : Value) (L : List α) (hs : a.eval s = v) (hown : mine E f B w v L) (ad : Addr) (c : Nat) (X : α) (hx : a.eval x = .slice (some ad) 1 c) (hcell : w.cell? ad = some (f X)) (hl : L.length ≤ 1000000) (hB : B ≤ w.heap.size)
    (h : ∀ g cap w', mine E f B w' (.slice (some ⟨g, 0, none⟩) (L.length + 1) cap) (L ++ [X]) → w.grownBy w' v.ownBlock → K (a.put o.dst (.slice (some ⟨g, 0, none⟩) (L.length + 1) cap)) w') :
    if Region.wanted o (yielded ops a.tmps) = true then Oper.wp Try.prog o a w K Q else Z := by
  obtain ⟨i0, hi, hz0, hz1, hz2⟩ := info_parts hk.hi
  have hby := hk.hb
  refine step_append_lies w hgd s x T ho B E i0 z 1 by_ hk.ht hi hz0 hz1 hz2 hk.hz (by decide) v L.length (L.map f) hs hown ad 1 c ([X].map f) hx rfl (one_at hcell) (by intro u hu; obtain ⟨y, _, rfl⟩ := List.mem_map.1 hu; exact hk.hf y) (by decide) (by unfold maxLen; omega) ?_ hB _ rfl ?_
  · have : (L.length + 1) * by_ ≤ (L.length + 1) * 16 := Nat.mul_le_mul_left _ hby
    omega
  intro g cap w' h1 h2 h3 h4
  refine h g cap w' ?_ h2
  unfold mine
  rw [List.map_append, List.length_append]; exact h1

/-- Where guess stands: the box of the result, the box of the field, its places of its own. -/
def gst (B : Nat) (A C : Int) (w wr : World) (v : Value) (L : List Int) : Prop :=
  wr.heap[B]? = some (.cells #[.int .i64 0, .int .i64 0, .slice none 0 0] 24) ∧ wr.heap[B + 1]? = some (.cells #[.int .i64 A, .int .i64 C, v] 24) ∧ mine 3 vi (B + 2) wr v L ∧ Below B w wr ∧ B + 2 ≤ wr.heap.size

theorem gst_drewN {B : Nat} {A C : Int} {w wr : World} {v : Value} {L : List Int} (h : gst B A C w wr v L) (n : Nat) : gst B A C w (wr.drewN n) v L := ⟨h.1, h.2.1, h.2.2.1, below_drewN h.2.2.2.1 n, h.2.2.2.2⟩
/-- What an append to the places, and the store behind it, leaves. -/
theorem gst_app {B : Nat} {A C : Int} {w wr M w6 : World} {v v' : Value} {L L' : List Int} (h : gst B A C w wr v L) (hM : wr.grownBy M none) (hown : mine 3 vi (B + 2) w6 v' L') (hg : M.grownBy w6 v.ownBlock) :
    w6.heap[B + 1]? = some (.cells #[.int .i64 A, .int .i64 C, v] 24) ∧ gst B A C w (w6.setCell ⟨B + 1, 2, none⟩ v') v' L' := by
  obtain ⟨g1, g2, g3, g4, g5⟩ := h
  have hlt := World.ownsRow.lt g3
  have hne : ∀ k, k < B + 2 → some k ≠ v.ownBlock := fun k hk e => by have := (hlt k e.symm).1; omega
  have q : ∀ k, k < B + 2 → w6.heap[k]? = wr.heap[k]? := fun k hk => (hg.block k (by have := hM.size; omega) (hne k hk)).trans (hM.block k (by omega) (by simp))
  have q1 : w6.heap[B + 1]? = some (.cells #[.int .i64 A, .int .i64 C, v] 24) := (q _ (by omega)).trans g2
  refine ⟨q1, ?_, ?_, ?_, ?_, ?_⟩
  · rw [Below.heap_setCell _ _ _ _ (by simp)]; exact (q _ (by omega)).trans g1
  · have := heap_setCell_same w6 (B + 1) 2 _ 24 v' q1
    rw [this]; rfl
  · refine World.ownsRow.kept hown (row := some (B + 1)) ⟨rfl, rfl, rfl, by simp [World.setCell], fun k _ hk => Below.heap_setCell _ _ _ k (fun e => hk (by rw [e]))⟩ (.inr fun e => ?_)
    have := (World.ownsRow.lt hown _ e).1; omega
  · refine Below.setCell ?_ (by simp) _
    exact g4.trans ⟨hg.os.trans hM.os, hg.tape.trans hM.tape, hg.output.trans hM.output, Nat.le_trans hM.size hg.size, fun k hk => q k (by omega)⟩
  · have := hM.size; have := hg.size; simp [World.setCell]; omega

set_option maxRecDepth 20000 in
set_option maxHeartbeats 2000000 in
theorem guess_any (s : ByteArray) (w : World) (hs : s.size ≤ 1640) :
    Calls Try.prog 31 #[.string s] w fun e w' => ∃ v, e = .returned (.agg #[.int .i64 (gw (bs s)), .int .i64 (gh (bs s) : Int), v]) ∧ mine 3 vi w.heap.size w' v (gl (bs s)) ∧ Below w.heap.size w w' := by
  obtain ⟨A, hA⟩ : ∃ A, gw (bs s) = A := ⟨_, rfl⟩
  obtain ⟨C, hC⟩ : ∃ C, gh (bs s) = C := ⟨_, rfl⟩
  rw [hA, hC]
  have HA : Hid (gw (bs s) = A) := hA
  have HC : Hid (gh (bs s) = C) := hC
  clear hA hC
  go_enter Try.func31, Try.ntmps31
  go_wp2_with fail
  refine (Index_at s A _ HA).mono ?_
  rintro e w' ⟨rfl, hw⟩; subst w'
  go_wp2_with fail
  refine (Count_at s C _ HC).mono ?_
  rintro e w' ⟨rfl, hw⟩; subst w'
  go_wp2_with fail
  obtain ⟨w0, hw0⟩ : ∃ w0, (w.alloc (.cells #[.int .i64 0, .int .i64 0, .slice none 0 0] 24)).alloc (.cells #[.int .i64 A, .int .i64 (C : Int), .slice none 0 0] 24) = w0 := ⟨_, rfl⟩
  have h0 : Hid (gst w.heap.size A C w w0 (.slice none 0 0) []) := by
    rw [← hw0]
    refine ⟨?_, ?_, mine_nil _ _ _ _, (alloc_below w _).alloc (by simp) _, by simp⟩
    · rw [Below.heap_alloc _ _ _ (by simp)]; exact World.alloc_heap_new w _
    · have := World.alloc_heap_new (w.alloc (.cells #[.int .i64 0, .int .i64 0, .slice none 0 0] 24)) (.cells #[.int .i64 A, .int .i64 (C : Int), .slice none 0 0] 24)
      rwa [World.size_alloc] at this
  rw [hw0]
  clear hw0
  obtain ⟨n, hn⟩ : ∃ n, s.size = n := ⟨_, rfl⟩
  have HN : Hid (s.size = n) := hn
  rw [hn] at hs ⊢
  go_loopw [12] (fun i wr => ∃ k : Nat, i = .int .i64 (k : Int) ∧ k ≤ n ∧ ∃ v, Hid (gst w.heap.size A C w wr v (gl ((bs s).take k)))) (fun i _ => n - (intOf i).toNat)
  case atStart => exact ⟨0, rfl, by omega, _, h0⟩
  case round =>
    obtain ⟨k, rfl, hk, v, HG⟩ := hrel
    by_cases hlt : k < n
    · have hks : k < s.size := by omega
      have hkb : k < (bs s).length := by rw [bs_len]; exact hks
      have HLl : Hid ((gl ((bs s).take k)).length ≤ 2000) := by
        have := gl_len ((bs s).take k); unfold Hid; rw [List.length_take, bs_len] at this; omega
      by_cases hb : s[k] = 10
      · have HE : Hid (gl ((bs s).take (k + 1)) = gl ((bs s).take k)) := gl_skip hkb hb
        have e1 : (((s[k].toNat : Nat) : Int) != (((⟨#[10]⟩ : ByteArray)[0]'(by decide)).toNat : Int)) = false := by rw [hb]; rfl
        clear hb
        go_wp2_with fail
        go_quiet (fail)
        go_wp2_with fail
        go_roundw
        case rel => exact ⟨k + 1, by go_num, by omega, v, by unfold Hid; rw [HE.out]; exact gst_drewN HG.out _⟩
        case measure => simp [intOf]; omega
      · have HE : Hid (gl ((bs s).take (k + 1)) = gl ((bs s).take k) ++ [ix s[k]]) := gl_more hkb hb
        have e1 : (((s[k].toNat : Nat) : Int) != (((⟨#[10]⟩ : ByteArray)[0]'(by decide)).toNat : Int)) = true := by
          rw [bne_iff_ne]
          intro h
          apply hb
          have h2 : s[k].toNat = 10 := by exact_mod_cast h
          exact UInt8.toNat_inj.1 h2
        clear hb
        obtain ⟨L, hL⟩ : ∃ L, gl ((bs s).take k) = L := ⟨_, rfl⟩
        rw [hL] at HG HE HLl
        clear hL
        obtain ⟨X, hX⟩ : ∃ X, ix s[k] = X := ⟨_, rfl⟩
        have HX : Hid (ix s[k] = X) := hX
        rw [hX] at HE
        clear hX
        have hst : gst w.heap.size A C w wr v L := HG.out
        go_wp2_with fail
        go_quiet (fail)
        go_wp2_with fail
        have hst5 : gst w.heap.size A C w (wr.drewN nq) v L := gst_drewN hst _
        generalize wr.drewN nq = w5 at hst5 ⊢
        have HG5 : Hid (gst w.heap.size A C w w5 v L) := hst5
        have c2 : w5.cell? ⟨w.heap.size + 1, 2, none⟩ = some v := by simp [World.cell?, hst5.2.1]
        have hrow2 := fun o => World.ownsRow.alloc (w := w5.drew) hst5.2.2.1 o
        have hcell2 := fun x : Int => new_one w5.drew 3 (vi x)
        have hds : w5.drew.heap.size = w5.heap.size := rfl
        have h5s := hst5.2.2.2.2
        have hTl : w.heap.size + 1 < w5.heap.size := by omega
        have hl2 : L.length ≤ 1000000 := by have := HLl.out; omega
        clear hst5 hst
        go_region_law (first
          | (refine step_one ki _ rfl _ _ rfl (w.heap.size + 2) v L rfl (hrow2 _) ⟨w5.heap.size, 0, none⟩ 1 X rfl (hcell2 X) hl2 (by simp; omega) ?_; intro g cap w6 hown hgr; obtain ⟨q1, hst6⟩ := gst_app HG5.out (grown_trans (grown_drew _) (grown_alloc _ _)) hown hgr; have HG6 : Hid _ := hst6; have c6 : w6.cell? ⟨w.heap.size + 1, 2, none⟩ = some v := (by simp [World.cell?, q1]); have f6 : w6.frozen? ⟨w.heap.size + 1, 2, none⟩ = false := (by simp [World.frozen?, q1]); clear hst6 q1)
          | (go_simp; go_wp2_with (go_at_call 41; refine (IndexByte_at s[k] X _ HX).mono ?_; rintro e w' ⟨rfl, hw⟩; subst w')))
        all_goals go_wp2_with fail
        all_goals go_roundw
        all_goals first
          | (simp [intOf]; omega)
          | (refine ⟨k + 1, by go_num, by omega, .slice (some ⟨g, 0, none⟩) (L.length + 1) cap, ?_⟩; unfold Hid; rw [HE.out]; exact HG6.out)
    · have hst : gst w.heap.size A C w wr v (gl (bs s)) := by
        have := HG.out
        rwa [List.take_of_length_le (by rw [bs_len]; omega)] at this
      obtain ⟨g1, g2, g3, g4, g5⟩ := hst
      have HG1 : Hid _ := g1
      have c0 : wr.cell? ⟨w.heap.size + 1, 0, none⟩ = some (.int .i64 A) ∧ wr.cell? ⟨w.heap.size + 1, 1, none⟩ = some (.int .i64 (C : Int)) ∧ wr.cell? ⟨w.heap.size + 1, 2, none⟩ = some v := by simp [World.cell?, g2]
      have r0 : wr.cell? ⟨w.heap.size, 0, none⟩ = some (.int .i64 0) ∧ wr.cell? ⟨w.heap.size, 1, none⟩ = some (.int .i64 0) ∧ wr.cell? ⟨w.heap.size, 2, none⟩ = some (.slice none 0 0) ∧ wr.frozen? ⟨w.heap.size, 0, none⟩ = false ∧ wr.frozen? ⟨w.heap.size, 1, none⟩ = false ∧ wr.frozen? ⟨w.heap.size, 2, none⟩ = false := by simp [World.cell?, World.frozen?, g1]
      obtain ⟨c0, c1, c2⟩ := c0
      obtain ⟨r0, r1, r2, r3, r4, r5⟩ := r0
      obtain ⟨p, cc, hv, _⟩ := mine_full g3
      have G3 : Hid _ := g3
      have G4 : Hid (Below w.heap.size w wr) := g4
      clear g1 g2 g3 g4 HG
      subst hv
      go_wp2_with fail
      obtain ⟨V, hV⟩ : ∃ V, ((wr.setCell ⟨w.heap.size, 0, none⟩ (.int .i64 A)).setCell ⟨w.heap.size, 1, none⟩ (.int .i64 (C : Int))).setCell ⟨w.heap.size, 2, none⟩ (.slice p (gl (bs s)).length cc) = V := ⟨_, rfl⟩
      rw [hV]
      have k2 := set3 HG1.out V hV.symm
      refine ⟨by simp, .agg #[.int .i64 A, .int .i64 (C : Int), .slice p (gl (bs s)).length cc], ?_, _, rfl, ?_, ?_⟩
      · simp [results, Try.f31, go_sem, k2.1, k2.2.1, k2.2.2.1]
      · have g3 := mine_mono (B' := w.heap.size + 1) G3.out (by omega)
        have hb : But wr.heap.size w.heap.size wr V := by rw [← hV]; exact ((But.set _ _ _ _ _).trans (But.set _ _ _ _ _)).trans (But.set _ _ _ _ _)
        refine mine_mono (World.ownsRow.kept g3 hb.grownBy (.inr fun e => ?_)) (by omega)
        have := (World.ownsRow.lt g3 _ e).1; omega
      · exact G4.out.trans (k2.2.2.2 w.heap.size (Nat.le_refl _))
end Go.Proofs.Yteemcighpoomhaa
