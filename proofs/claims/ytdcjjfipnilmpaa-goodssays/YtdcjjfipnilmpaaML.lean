/- A few cells, and worlds that are told apart -/
import Derived.Test.YtdcjjfipnilmpaaWd
import Derived.Test.YtdcjjfipnilmpaaWm
/- What slices.Equal return of numbers. -/
namespace Go.Proofs.Ytdcjjfipnilmpaa
open Go.RowKit
set_option linter.unusedVariables false

set_option maxRecDepth 20000 in
set_option maxHeartbeats 1000000 in
theorem Equal_yes (p q : Option Addr) (n c d : Nat) (l : List Int) (w : World) (hn : l.length = n) (hm : n ≤ 9223372036854775807) (h1 : row vi w p l) (h2 : row vi w q l) :
    Calls Try.prog 28 #[.slice p n c, .slice q n d] w fun e w' => e = .returned (.bool true) ∧ ∃ m, w' = w.drewN m := by
  have H1 : Hid (row vi w p l) := h1
  have H2 : Hid (row vi w q l) := h2
  have HN : Hid (l.length = n) := hn
  clear h1 h2 hn
  go_enter Try.func28, Try.ntmps28
  go_wp2_with fail
  go_loopw [13] (fun i wr => ∃ k : Nat, i = .int .i64 k ∧ k ≤ n ∧ ∃ m, wr = w.drewN m) (fun i _ => n - (intOf i).toNat)
  case atStart => exact ⟨0, rfl, by omega, 0, rfl⟩
  case round =>
    obtain ⟨k, rfl, hk, m, rfl⟩ := hrel
    by_cases hlt : k < n
    · obtain ⟨a, rfl, ha⟩ := row_at H1.out (j := k) (by rw [HN.out]; exact hlt)
      obtain ⟨b, rfl, hb⟩ := row_at H2.out (j := k) (by rw [HN.out]; exact hlt)
      obtain ⟨X, hX⟩ : ∃ X, l[k]'(by rw [HN.out]; exact hlt) = X := ⟨_, rfl⟩
      rw [hX] at ha hb
      clear hX
      have ha' : (w.drewN m).cell? (a.add k) = some (.int .i64 X) := ha
      have hb' : (w.drewN m).cell? (b.add k) = some (.int .i64 X) := hb
      have HQ : Hid (∀ n, ∃ q, (w.drewN m).drewN n = w.drewN q) := fun n => ⟨_, World.drewN_drewN _ _ _⟩
      clear ha hb
      generalize w.drewN m = w5 at ha' hb' HQ ⊢
      have l1 : (k : Int) < n := by omega
      have l2 : (0 : Int) ≤ k := by omega
      go_wp2_with fail
      go_quiet (fail)
      go_wp2_with fail
      go_roundw
      case rel => exact ⟨k + 1, by go_num, by omega, HQ.out _⟩
      case measure => simp [intOf]; omega
    · go_wp2_with fail
      go_ret
      exact ⟨rfl, m, rfl⟩
theorem Equal_b (p q : Option Addr) (n c d : Nat) (l : List Int) (w : World) (hn : l.length = n) (hm : n ≤ 9223372036854775807) (h1 : row vi w p l) (h2 : row vi w q l) :
    Calls Try.prog 28 #[.slice p n c, .slice q n d] w fun e w' => e = .returned (.bool true) ∧ Below w.heap.size w w' := by
  refine (Equal_yes p q n c d l w hn hm h1 h2).mono ?_
  rintro e w' ⟨rfl, m, rfl⟩
  exact ⟨rfl, below_drewN (Below.refl _ _) m⟩
end Go.Proofs.Ytdcjjfipnilmpaa
/- What slices.Equal returns of cells and of troops that are the same; what SameField and SameWorld return of worlds that are the same. -/
namespace Go.Proofs.Ytdcjjfipnilmpaa
open Go.RowKit
set_option linter.unusedVariables false

set_option maxRecDepth 20000 in
set_option maxHeartbeats 1000000 in
theorem Equalc_yes (p q : Option Addr) (n c d : Nat) (l : List Cel) (w : World) (hn : l.length = n) (hm : n ≤ 9223372036854775807) (h1 : crow w p l) (h2 : crow w q l) :
    Calls Try.prog 19 #[.slice p n c, .slice q n d] w fun e w' => e = .returned (.bool true) ∧ ∃ m, w' = w.drewN m := by
  have H1 : Hid (crow w p l) := h1
  have H2 : Hid (crow w q l) := h2
  have HN : Hid (l.length = n) := hn
  clear h1 h2 hn
  go_enter Try.func19, Try.ntmps19
  go_wp2_with fail
  go_loopw [13] (fun i wr => ∃ k : Nat, i = .int .i64 k ∧ k ≤ n ∧ ∃ m, wr = w.drewN m) (fun i _ => n - (intOf i).toNat)
  case atStart => exact ⟨0, rfl, by omega, 0, rfl⟩
  case round =>
    obtain ⟨k, rfl, hk, m, rfl⟩ := hrel
    by_cases hlt : k < n
    · skip
      obtain ⟨a, rfl, ha, hay⟩ := crow_at H1.out (j := k) (by rw [HN.out]; exact hlt)
      obtain ⟨b, rfl, hb, hby⟩ := crow_at H2.out (j := k) (by rw [HN.out]; exact hlt)
      obtain ⟨⟨X, Y⟩, hX⟩ : ∃ X, l[k]'(by rw [HN.out]; exact hlt) = X := ⟨_, rfl⟩
      rw [hX] at ha hb hay hby
      clear hX
      have p0 : (w.drewN m).cell? (a.add (k * 2)) = some (.int .i64 X) := ha
      have q0 : (w.drewN m).cell? (b.add (k * 2)) = some (.int .i64 X) := hb
      have p1 : (w.drewN m).cell? ⟨(a.add (k * 2)).block, (a.add (k * 2)).off + 1, none⟩ = some (.int .i64 Y) := cell_two hay
      have q1 : (w.drewN m).cell? ⟨(b.add (k * 2)).block, (b.add (k * 2)).off + 1, none⟩ = some (.int .i64 Y) := cell_two hby
      clear ha hb hay hby
      have HQ : Hid (∀ n, ∃ q, (w.drewN m).drewN n = w.drewN q) := fun n => ⟨_, World.drewN_drewN _ _ _⟩
      generalize w.drewN m = w5 at p0 q0 p1 q1 HQ ⊢
      have l1 : (k : Int) < n := by omega
      have l2 : (0 : Int) ≤ k := by omega
      go_wp2_with fail
      go_quiet (fail)
      go_wp2_with fail
      go_roundw
      case rel => exact ⟨k + 1, by go_num, by omega, HQ.out _⟩
      case measure => simp [intOf]; omega
    · go_wp2_with fail
      go_ret
      exact ⟨rfl, m, rfl⟩
theorem Equalc_b (p q : Option Addr) (n c d : Nat) (l : List Cel) (w : World) (hn : l.length = n) (hm : n ≤ 9223372036854775807) (h1 : crow w p l) (h2 : crow w q l) :
    Calls Try.prog 19 #[.slice p n c, .slice q n d] w fun e w' => e = .returned (.bool true) ∧ Below w.heap.size w w' := by
  refine (Equalc_yes p q n c d l w hn hm h1 h2).mono ?_
  rintro e w' ⟨rfl, m, rfl⟩
  exact ⟨rfl, below_drewN (Below.refl _ _) m⟩
set_option maxRecDepth 20000 in
set_option maxHeartbeats 1000000 in
theorem Equalt_yes (p q : Option Addr) (n c d : Nat) (l : List Trp) (w : World) (hn : l.length = n) (hm : n ≤ 9223372036854775807) (h1 : trow w p l) (h2 : trow w q l) :
    Calls Try.prog 27 #[.slice p n c, .slice q n d] w fun e w' => e = .returned (.bool true) ∧ ∃ m, w' = w.drewN m := by
  have H1 : Hid (trow w p l) := h1
  have H2 : Hid (trow w q l) := h2
  have HN : Hid (l.length = n) := hn
  clear h1 h2 hn
  go_enter Try.func27, Try.ntmps27
  go_wp2_with fail
  go_loopw [13] (fun i wr => ∃ k : Nat, i = .int .i64 k ∧ k ≤ n ∧ ∃ m, wr = w.drewN m) (fun i _ => n - (intOf i).toNat)
  case atStart => exact ⟨0, rfl, by omega, 0, rfl⟩
  case round =>
    obtain ⟨k, rfl, hk, m, rfl⟩ := hrel
    by_cases hlt : k < n
    · skip
      obtain ⟨a, rfl, ha⟩ := trow_at H1.out (k := k) (by rw [HN.out]; exact hlt)
      obtain ⟨b, rfl, hb⟩ := trow_at H2.out (k := k) (by rw [HN.out]; exact hlt)
      obtain ⟨⟨ti, to_, tk, tx, ty, tf, td⟩, hX⟩ : ∃ X, l[k]'(by rw [HN.out]; exact hlt) = X := ⟨_, rfl⟩
      rw [hX] at ha hb
      clear hX
      obtain ⟨p0, p1, p2, p3, p4, p5, p6⟩ : tcl (w.drewN m) (a.add (k * 7)) ⟨ti, to_, tk, tx, ty, tf, td⟩ := ha
      obtain ⟨q0, q1, q2, q3, q4, q5, q6⟩ : tcl (w.drewN m) (b.add (k * 7)) ⟨ti, to_, tk, tx, ty, tf, td⟩ := hb
      simp only at p0 p1 p2 p3 p4 p5 p6 q0 q1 q2 q3 q4 q5 q6
      have HQ : Hid (∀ n, ∃ q, (w.drewN m).drewN n = w.drewN q) := fun n => ⟨_, World.drewN_drewN _ _ _⟩
      generalize w.drewN m = w5 at p0 p1 p2 p3 p4 p5 p6 q0 q1 q2 q3 q4 q5 q6 HQ ⊢
      have l1 : (k : Int) < n := by omega
      have l2 : (0 : Int) ≤ k := by omega
      go_wp2_with fail
      go_quiet (fail)
      go_wp2_with fail
      go_roundw
      case rel => exact ⟨k + 1, by go_num, by omega, HQ.out _⟩
      case measure => simp [intOf]; omega
    · go_wp2_with fail
      go_ret
      exact ⟨rfl, m, rfl⟩
theorem Equalt_b (p q : Option Addr) (n c d : Nat) (l : List Trp) (w : World) (hn : l.length = n) (hm : n ≤ 9223372036854775807) (h1 : trow w p l) (h2 : trow w q l) :
    Calls Try.prog 27 #[.slice p n c, .slice q n d] w fun e w' => e = .returned (.bool true) ∧ Below w.heap.size w w' := by
  refine (Equalt_yes p q n c d l w hn hm h1 h2).mono ?_
  rintro e w' ⟨rfl, m, rfl⟩
  exact ⟨rfl, below_drewN (Below.refl _ _) m⟩

set_option maxRecDepth 20000 in
set_option maxHeartbeats 1000000 in
theorem SameField_yes (A B : Int) (p q : Option Addr) (n c d : Nat) (l : List Int) (w : World) (hn : l.length = n) (hm : n ≤ 9223372036854775807) (h1 : row vi w p l) (h2 : row vi w q l) :
    Calls Try.prog 18 #[.agg #[.int .i64 A, .int .i64 B, .slice p n c], .agg #[.int .i64 A, .int .i64 B, .slice q n d]] w fun e w' => e = .returned (.bool true) ∧ Below w.heap.size w w' := by
  obtain ⟨w0, hw0⟩ : ∃ w0, (w.alloc (.cells #[.int .i64 A, .int .i64 B, .slice p n c] 24)).alloc (.cells #[.int .i64 A, .int .i64 B, .slice q n d] 24) = w0 := ⟨_, rfl⟩
  have hb : Below w.heap.size w w0 := by rw [← hw0]; exact (alloc_below _ _).alloc (by simp) _
  have HB : Hid (Below w.heap.size w w0) := hb
  have HEQ : Hid (Calls Try.prog 28 #[.slice p n c, .slice q n d] w0 fun e w' => e = .returned (.bool true) ∧ Below w0.heap.size w0 w') := Equal_b p q n c d l w0 hn hm (row_below h1 hb) (row_below h2 hb)
  have HW0 : Hid (_ = w0) := hw0
  clear h1 h2 hn hb hw0
  go_enter Try.func18, Try.ntmps18
  go_wp2_with fail
  rw [HW0.out]
  refine Calls.mono HEQ.out ?_
  rintro e w1 ⟨rfl, hb1⟩
  have HB1 : Hid (Below w.heap.size w w1) := HB.out.trans (hb1.mono HB.out.size)
  clear hb1
  go_wp2_with fail
  go_ret
  exact ⟨rfl, HB1.out⟩
/-- Two worlds that are the same. -/
def samew (s t : Wld) : Prop := s.A = t.A ∧ s.B = t.B ∧ s.l = t.l ∧ s.lb = t.lb ∧ s.ls = t.ls ∧ s.lm = t.lm ∧ s.lt = t.lt ∧ s.N = t.N ∧ s.T = t.T
set_option maxRecDepth 20000 in
set_option maxHeartbeats 4000000 in
theorem SameWorld_yes (s t : Wld) (w : World) (hs : s.fit w) (ht : t.fit w) (he : samew s t) : Calls Try.prog 14 #[s.val, t.val] w fun e w' => e = .returned (.bool true) ∧ Below w.heap.size w w' := by
  obtain ⟨A, B, p, n, c, l, pb, nb, cb, lb, ps, ns, cs, ls, pm, nm, cm, lm, pt, nt, ct, lt, N, T⟩ := s
  obtain ⟨A', B', p', n', c', l', pb', nb', cb', lb', ps', ns', cs', ls', pm', nm', cm', lm', pt', nt', ct', lt', N', T'⟩ := t
  unfold samew at he
  simp only at he
  obtain ⟨rfl, rfl, rfl, rfl, rfl, rfl, rfl, rfl, rfl⟩ := he
  obtain rfl : n' = n := ht.h.symm.trans hs.h
  obtain rfl : nb' = nb := ht.hb.symm.trans hs.hb
  obtain rfl : ns' = ns := ht.hs.symm.trans hs.hs
  obtain rfl : nm' = nm := ht.hm.symm.trans hs.hm
  obtain rfl : nt' = nt := ht.ht.symm.trans hs.ht
  have H1 : Hid (∀ V, Below w.heap.size w V → Calls Try.prog 18 #[.agg #[.int .i64 A, .int .i64 B, .slice p n' c], .agg #[.int .i64 A, .int .i64 B, .slice p' n' c']] V fun e w' => e = .returned (.bool true) ∧ Below V.heap.size V w') := fun V hV => SameField_yes A B p p' n' c c' l V hs.h hs.m (row_below hs.r hV) (row_below ht.r hV)
  have H2 : Hid (∀ V, Below w.heap.size w V → Calls Try.prog 19 #[.slice pb nb' cb, .slice pb' nb' cb'] V fun e w' => e = .returned (.bool true) ∧ Below V.heap.size V w') := fun V hV => Equalc_b pb pb' nb' cb cb' lb V hs.hb hs.mb (crow_below hs.rb hV) (crow_below ht.rb hV)
  have H3 : Hid (∀ V, Below w.heap.size w V → Calls Try.prog 28 #[.slice ps ns' cs, .slice ps' ns' cs'] V fun e w' => e = .returned (.bool true) ∧ Below V.heap.size V w') := fun V hV => Equal_b ps ps' ns' cs cs' ls V hs.hs hs.ms (row_below hs.rs hV) (row_below ht.rs hV)
  have H4 : Hid (∀ V, Below w.heap.size w V → Calls Try.prog 28 #[.slice pm nm' cm, .slice pm' nm' cm'] V fun e w' => e = .returned (.bool true) ∧ Below V.heap.size V w') := fun V hV => Equal_b pm pm' nm' cm cm' lm V hs.hm hs.mm (row_below hs.rm hV) (row_below ht.rm hV)
  have H5 : Hid (∀ V, Below w.heap.size w V → Calls Try.prog 27 #[.slice pt nt' ct, .slice pt' nt' ct'] V fun e w' => e = .returned (.bool true) ∧ Below V.heap.size V w') := fun V hV => Equalt_b pt pt' nt' ct ct' lt V hs.ht hs.mt (trow_below hs.rt hV) (trow_below ht.rt hV)
  clear hs ht
  unfold Wld.val
  dsimp only
  obtain ⟨F, hF⟩ : ∃ F, w.heap.size = F := ⟨_, rfl⟩
  obtain ⟨wa, hwa⟩ : ∃ wa, w.alloc (.cells #[.int .i64 A, .int .i64 B, .slice p n' c, .slice pb nb' cb, .slice ps ns' cs, .slice pm nm' cm, .slice pt nt' ct, .int .i64 N, .int .i64 T] 28) = wa := ⟨_, rfl⟩
  have sa : wa.heap.size = F + 1 := by rw [← hwa, World.size_alloc, hF]
  obtain ⟨w0, hw0⟩ : ∃ w0, wa.alloc (.cells #[.int .i64 A, .int .i64 B, .slice p' n' c', .slice pb' nb' cb', .slice ps' ns' cs', .slice pm' nm' cm', .slice pt' nt' ct', .int .i64 N, .int .i64 T] 28) = w0 := ⟨_, rfl⟩
  have ba : Below wa.heap.size wa w0 := by rw [← hw0]; exact alloc_below _ _
  have HBX : Hid (∀ V, Below w0.heap.size w0 V → c9 V F (.int .i64 A) (.int .i64 B) (.slice p n' c) (.slice pb nb' cb) (.slice ps ns' cs) (.slice pm nm' cm) (.slice pt nt' ct) (.int .i64 N) (.int .i64 T) ∧ c9 V (F + 1) (.int .i64 A) (.int .i64 B) (.slice p' n' c') (.slice pb' nb' cb') (.slice ps' ns' cs') (.slice pm' nm' cm') (.slice pt' nt' ct') (.int .i64 N) (.int .i64 T)) := fun V hV => ⟨boxw hF hwa (ba.trans (hV.mono ba.size)), boxw sa hw0 hV⟩
  have hB0 : Below w.heap.size w w0 := by
    have h1 : Below w.heap.size w wa := by rw [← hwa]; exact alloc_below _ _
    exact h1.trans (ba.mono h1.size)
  have HB0 : Hid (Below w.heap.size w w0) := hB0
  have HUP : Hid (∀ V, Below w0.heap.size w0 V → Below w.heap.size w V) := fun V hV => HB0.out.trans (hV.mono HB0.out.size)
  obtain ⟨⟨z0, z1, z2, z3, z4, z5, z6, z7, z8⟩, ⟨y0, y1, y2, y3, y4, y5, y6, y7, y8⟩⟩ := HBX.out w0 (Below.refl _ _)
  clear hB0 ba
  go_enter Try.func14, Try.ntmps14
  go_wp2_with fail
  refine (H1.out w0 HB0.out).mono ?_
  rintro e w1 ⟨rfl, hb1⟩
  have HB1 : Hid (Below w0.heap.size w0 w1) := hb1
  clear z0 z1 z2 z3 z4 z5 z6 z7 z8 y0 y1 y2 y3 y4 y5 y6 y7 y8 hb1 hw0 hwa sa hF
  obtain ⟨⟨z0, z1, z2, z3, z4, z5, z6, z7, z8⟩, ⟨y0, y1, y2, y3, y4, y5, y6, y7, y8⟩⟩ := HBX.out w1 HB1.out
  go_wp2_with fail
  refine (H2.out w1 (HUP.out w1 HB1.out)).mono ?_
  rintro e w2 ⟨rfl, hb2⟩
  have HB2 : Hid (Below w0.heap.size w0 w2) := HB1.out.trans (hb2.mono HB1.out.size)
  clear z0 z1 z2 z3 z4 z5 z6 z7 z8 y0 y1 y2 y3 y4 y5 y6 y7 y8 hb2
  obtain ⟨⟨z0, z1, z2, z3, z4, z5, z6, z7, z8⟩, ⟨y0, y1, y2, y3, y4, y5, y6, y7, y8⟩⟩ := HBX.out w2 HB2.out
  go_wp2_with fail
  refine (H3.out w2 (HUP.out w2 HB2.out)).mono ?_
  rintro e w3 ⟨rfl, hb3⟩
  have HB3 : Hid (Below w0.heap.size w0 w3) := HB2.out.trans (hb3.mono HB2.out.size)
  clear z0 z1 z2 z3 z4 z5 z6 z7 z8 y0 y1 y2 y3 y4 y5 y6 y7 y8 hb3
  obtain ⟨⟨z0, z1, z2, z3, z4, z5, z6, z7, z8⟩, ⟨y0, y1, y2, y3, y4, y5, y6, y7, y8⟩⟩ := HBX.out w3 HB3.out
  go_wp2_with fail
  refine (H4.out w3 (HUP.out w3 HB3.out)).mono ?_
  rintro e w4 ⟨rfl, hb4⟩
  have HB4 : Hid (Below w0.heap.size w0 w4) := HB3.out.trans (hb4.mono HB3.out.size)
  clear z0 z1 z2 z3 z4 z5 z6 z7 z8 y0 y1 y2 y3 y4 y5 y6 y7 y8 hb4
  obtain ⟨⟨z0, z1, z2, z3, z4, z5, z6, z7, z8⟩, ⟨y0, y1, y2, y3, y4, y5, y6, y7, y8⟩⟩ := HBX.out w4 HB4.out
  go_wp2_with fail
  refine (H5.out w4 (HUP.out w4 HB4.out)).mono ?_
  rintro e w5 ⟨rfl, hb5⟩
  have HB5 : Hid (Below w0.heap.size w0 w5) := HB4.out.trans (hb5.mono HB4.out.size)
  clear z0 z1 z2 z3 z4 z5 z6 z7 z8 y0 y1 y2 y3 y4 y5 y6 y7 y8 hb5
  obtain ⟨⟨z0, z1, z2, z3, z4, z5, z6, z7, z8⟩, ⟨y0, y1, y2, y3, y4, y5, y6, y7, y8⟩⟩ := HBX.out w5 HB5.out
  go_wp2_with fail
  go_ret
  exact ⟨rfl, HUP.out w5 HB5.out⟩
end Go.Proofs.Ytdcjjfipnilmpaa
