/- spoilWorld: it writes into the rows of a world of one's own, and nowhere else. -/
import Derived.Test.YtdcjjfipnilmpaaMb
import Derived.RegionTactic
namespace Go.Proofs.Ytdcjjfipnilmpaa
open Go.RowKit
set_option linter.unusedVariables false

/-- A room: a block between B and F of whole numbers, as many as the slice's room tells; or none. -/
def rm (B F : Nat) (V : World) (z : Nat) (p : Option Addr) (n c : Nat) : Prop := (p = none ∧ n = 0 ∧ c = 0) ∨ ∃ g, p = some ⟨g, 0, none⟩ ∧ B ≤ g ∧ g < F ∧ n ≤ c ∧ c ≤ 9223372036854775807 ∧ ∃ cur e, V.heap[g]? = some (.cells cur e (0, 0)) ∧ ints cur.toList ∧ cur.size = c * z
theorem rm_own {e : TypeId} {z B n c m : Nat} {V : World} {p : Option Addr} {xs : List Value} (h : V.ownsRow B e z (.slice p n c) m xs) (ha : alli V (.slice p n c)) : rm B V.heap.size V z p n c := by
  rcases h.2 with ⟨h0, h1⟩ | ⟨g, cap, cur, hv, hB, hblk, hc, hm, hr, _⟩
  · simp only [Value.slice.injEq] at h0
    exact .inl h0
  · simp only [Value.slice.injEq] at hv
    obtain ⟨rfl, rfl, rfl⟩ := hv
    obtain ⟨cur', e', hb', hi⟩ := ha g rfl
    rw [hblk] at hb'
    simp at hb'
    obtain ⟨rfl, rfl⟩ := hb'
    unfold maxLen at hm
    exact .inr ⟨g, rfl, hB, alli_lt ha g rfl, hc, by omega, _, _, hblk, hi, hr⟩
theorem rm_set {B F : Nat} {V : World} {z : Nat} {p : Option Addr} {n c : Nat} (h : rm B F V z p n c) (b o : Nat) (x : Int) : rm B F (V.setCell ⟨b, o, none⟩ (.int .i64 x)) z p n c := by
  rcases h with h | ⟨g, rfl, hB, hF, hc, hm, cur, e, hb, hi, hz⟩
  · exact .inl h
  · refine .inr ⟨g, rfl, hB, hF, hc, hm, ?_⟩
    by_cases hgb : g = b
    · subst hgb
      refine ⟨_, e, heap_setCell_same V g o cur e _ hb, ?_, by rw [Array.size_setIfInBounds]; exact hz⟩
      intro u hu
      rw [Array.toList_setIfInBounds] at hu
      rcases List.mem_or_eq_of_mem_set hu with h | h
      · exact hi u h
      · exact ⟨x, h⟩
    · exact ⟨cur, e, by rw [Below.heap_setCell _ _ _ _ hgb]; exact hb, hi, hz⟩
theorem rm_ex {B F : Nat} {V V' : World} {z : Nat} {p : Option Addr} {n c : Nat} (h : rm B F V z p n c) (hb : Below V.heap.size V V') : rm B F V' z p n c := by
  rcases h with h | ⟨g, rfl, hB, hF, hc, hm, cur, e, hb', hi, hz⟩
  · exact .inl h
  · refine .inr ⟨g, rfl, hB, hF, hc, hm, cur, e, ?_, hi, hz⟩
    have : g < V.heap.size := by
      rcases Nat.lt_or_ge g V.heap.size with hlt | hge
      · exact hlt
      · rw [Array.getElem?_eq_none hge] at hb'; cases hb'
    exact (hb.block g this).trans hb'
theorem rm_cell {B F g z n c : Nat} {V : World} (h : rm B F V z (some ⟨g, 0, none⟩) n c) {j : Nat} (hj : j < c * z) : ∃ x : Int, V.cell? ⟨g, j, none⟩ = some (.int .i64 x) ∧ V.frozen? ⟨g, j, none⟩ = false := by
  rcases h with ⟨h, _⟩ | ⟨g', hg, _, _, _, _, cur, e, hb, hi, hz⟩
  · cases h
  · cases hg
    have hjl : j < cur.size := by omega
    obtain ⟨x, hx⟩ := hi cur[j] (by simp)
    refine ⟨x, ?_, ?_⟩
    · simp [World.cell?, hb, Array.getElem?_eq_getElem hjl, hx]
    · simp [World.frozen?, hb]
theorem ix0 (V : World) (a b c : Value) : (Instr.index 81 (.agg #[a, b, c]) (.int .i64 0)).run Try.prog V = .ok a V := by simp [Instr.index, Go.part, go_sem]
theorem ix1 (V : World) (a b c : Value) : (Instr.index 81 (.agg #[a, b, c]) (.int .i64 1)).run Try.prog V = .ok b V := by simp [Instr.index, Go.part, go_sem]
theorem ix2 (V : World) (a b c : Value) : (Instr.index 81 (.agg #[a, b, c]) (.int .i64 2)).run Try.prog V = .ok c V := by simp [Instr.index, Go.part, go_sem]
/-- The rooms of a world, and that nothing else has changed. -/
structure rms (B F : Nat) (w0 V : World) (s : Wld) : Prop where
  x : Ex (fun g => B ≤ g ∧ g < F) w0 V
  k0 : rm B F V 1 s.p s.n s.c
  k1 : rm B F V 1 s.ps s.ns s.cs
  k2 : rm B F V 1 s.pm s.nm s.cm
  k3 : rm B F V 2 s.pb s.nb s.cb
  k4 : rm B F V 7 s.pt s.nt s.ct
theorem rms_set {B F : Nat} {w0 V : World} {s : Wld} (h : rms B F w0 V s) (b o : Nat) (hb : B ≤ b ∧ b < F) (x : Int) : rms B F w0 (V.setCell ⟨b, o, none⟩ (.int .i64 x)) s :=
  ⟨ex_set h.x ⟨b, o, none⟩ hb _, rm_set h.k0 b o x, rm_set h.k1 b o x, rm_set h.k2 b o x, rm_set h.k3 b o x, rm_set h.k4 b o x⟩
theorem rm_own2 {e : TypeId} {z B R n c m : Nat} {V : World} {p : Option Addr} {xs : List Value} (h : V.ownsRow B e z (.slice p n c) m xs) (ha : alli V (.slice p n c)) (hl : ∀ g, (Value.slice p n c).ownBlock = some g → g < R) : rm B R V z p n c := by
  rcases rm_own h ha with h1 | ⟨g, rfl, hB, _, h2⟩
  · exact .inl h1
  · exact .inr ⟨g, rfl, hB, hl g rfl, h2⟩
set_option maxRecDepth 40000 in
set_option maxHeartbeats 16000000 in
theorem spoil_any (s : Wld) (B R : Nat) (V0 w : World) (hB : B ≤ w.heap.size) (hR : R ≤ w.heap.size) (hV0 : V0.heap.size = R) (h0 : wown B V0 s) (h : wown B w s) : Calls Try.prog 29 #[s.val] w fun e w' => (∃ v, e = .returned v) ∧ Below B w w' ∧ Ex (fun g => B ≤ g ∧ g < R) w w' := by
  have hr0 := rm_own2 (R := R) h.kp h.jp (fun g hg => by rw [← hV0]; exact alli_lt h0.jp g hg)
  have hr1 := rm_own2 (R := R) h.ks h.js (fun g hg => by rw [← hV0]; exact alli_lt h0.js g hg)
  have hr2 := rm_own2 (R := R) h.km h.jm (fun g hg => by rw [← hV0]; exact alli_lt h0.jm g hg)
  have hr3 := rm_own2 (R := R) h.kb h.jb (fun g hg => by rw [← hV0]; exact alli_lt h0.jb g hg)
  have hr4 := rm_own2 (R := R) h.kt h.jt (fun g hg => by rw [← hV0]; exact alli_lt h0.jt g hg)
  obtain ⟨F, hF⟩ : ∃ F, w.heap.size = F := ⟨_, rfl⟩
  rw [hF] at hR
  obtain ⟨A, B', p, n, c, l, pb, nb, cb, lb, ps, ns, cs, ls, pm, nm, cm, lm, pt, nt, ct, lt, N, T⟩ := s
  unfold Wld.val
  dsimp only at *
  obtain ⟨w0, hw0⟩ : ∃ w0, w.alloc (.cells #[.int .i64 A, .int .i64 B', .slice p n c, .slice pb nb cb, .slice ps ns cs, .slice pm nm cm, .slice pt nt ct, .int .i64 N, .int .i64 T] 28) = w0 := ⟨_, rfl⟩
  have hb0 : Below w.heap.size w w0 := by rw [← hw0]; exact alloc_below _ _
  have hx0 : bx9 w0 F (.int .i64 A) (.int .i64 B') (.slice p n c) (.slice pb nb cb) (.slice ps ns cs) (.slice pm nm cm) (.slice pt nt ct) (.int .i64 N) (.int .i64 T) := by rw [← hw0, ← hF]; exact box9_new _ _ _ _ _ _ _ _ _ _
  obtain ⟨s, hs⟩ : ∃ s : Wld, (⟨A, B', p, n, c, l, pb, nb, cb, lb, ps, ns, cs, ls, pm, nm, cm, lm, pt, nt, ct, lt, N, T⟩ : Wld) = s := ⟨_, rfl⟩
  have HI0 : Hid (rms B R w0 w0 s) := by rw [← hs]; exact ⟨Ex.refl _ _, rm_ex hr0 hb0, rm_ex hr1 hb0, rm_ex hr2 hb0, rm_ex hr3 hb0, rm_ex hr4 hb0⟩
  have HK : Hid (∀ V, rms B R w0 V s → rm B R V 1 p n c ∧ rm B R V 1 ps ns cs ∧ rm B R V 1 pm nm cm ∧ rm B R V 2 pb nb cb ∧ rm B R V 7 pt nt ct) := fun V hV => by rw [← hs] at hV; exact ⟨hV.k0, hV.k1, hV.k2, hV.k3, hV.k4⟩
  have HBX : Hid (∀ V, rms B R w0 V s → bx9 V F (.int .i64 A) (.int .i64 B') (.slice p n c) (.slice pb nb cb) (.slice ps ns cs) (.slice pm nm cm) (.slice pt nt ct) (.int .i64 N) (.int .i64 T)) := fun V hV => bx9_ex hx0 hV.x (fun e => by omega)
  have HBE : Hid (∀ V, rms B R w0 V s → Below B w V ∧ Ex (fun g => B ≤ g ∧ g < R) w V) := fun V hV => ⟨(hb0.mono hB).trans (hV.x.below (Nat.le_trans hB hb0.size) (fun k hk e => by omega)), (Ex.of_below (S := fun g => B ≤ g ∧ g < R) hb0).trans hV.x (fun _ _ e => e)⟩
  have HR : Hid (rm B R w 1 p n c ∧ rm B R w 1 ps ns cs ∧ rm B R w 1 pm nm cm ∧ rm B R w 2 pb nb cb ∧ rm B R w 7 pt nt ct) := ⟨hr0, hr1, hr2, hr3, hr4⟩
  obtain ⟨z0, z1, z2, z3, z4, z5, z6, z7, z8⟩ := bx9_c9 hx0
  have j0 := ix0
  have j1 := ix1
  have j2 := ix2
  clear hr0 hr1 hr2 hr3 hr4 hs hb0 hx0 h h0 hV0
  go_enter Try.func29, Try.ntmps29
  go_wp2_with fail
  clear z0 z1 z2 z3 z4 z5 z6 z7 z8 hw0 hF
  go_loopw [15] (fun i wr => ∃ k : Nat, i = .int .i64 (k : Int) ∧ k ≤ 3 ∧ Hid (rms B R w0 wr s)) (fun i _ => 3 - (intOf i).toNat)
  case atStart => exact ⟨0, rfl, by omega, HI0.out⟩
  case round =>
    obtain ⟨k, rfl, hk, HS⟩ := hrel
    have hk4 : k = 0 ∨ k = 1 ∨ k = 2 ∨ k = 3 := by omega
    rcases hk4 with rfl | rfl | rfl | rfl
    · have hrm := (HK.out wr HS.out).1
      rcases hrm with ⟨rfl, rfl, rfl⟩ | ⟨g, rfl, gB, gF, hnc, hc, -⟩
      · go_wp2_with fail
        go_loopw [24] (fun i wr => i = .int .i64 0 ∧ Hid (rms B R w0 wr s)) (fun _ _ => 0)
        case atStart => exact ⟨rfl, HS.out⟩
        case round =>
          obtain ⟨rfl, HT⟩ := hrel
          go_wp2_with fail
          go_roundw
          case rel => exact ⟨1, by go_num, by omega, HT.out⟩
          case measure => simp [intOf]
      · have k1 : (n : Int) ≤ c := by omega
        go_wp2_with fail
        go_loopw [24] (fun i wr => ∃ j : Nat, i = .int .i64 (j : Int) ∧ j ≤ c ∧ Hid (rms B R w0 wr s)) (fun i _ => c - (intOf i).toNat)
        case atStart => exact ⟨0, rfl, by omega, HS.out⟩
        case round =>
          obtain ⟨j, rfl, hj, HT⟩ := hrel
          by_cases hlt : j < c
          · obtain ⟨x, cx, fx⟩ := rm_cell ((HK.out wr HT.out).1) (j := j) (by omega)
            have HN : Hid (∀ y, rms B R w0 (wr.setCell ⟨g, j, none⟩ (.int .i64 y)) s) := fun y => rms_set HT.out g j ⟨gB, gF⟩ y
            have l1 : (j : Int) < c := by omega
            have l2 : (0 : Int) ≤ j := by omega
            go_wp2_with fail
            go_roundw
            case rel => exact ⟨j + 1, by go_num, by omega, HN.out _⟩
            case measure => simp [intOf]; omega
          · have hjn : j = c := by omega
            subst hjn
            go_wp2_with fail
            go_roundw
            case rel => exact ⟨1, by go_num, by omega, HT.out⟩
            case measure => simp [intOf]
    · have hrm := (HK.out wr HS.out).2.1
      rcases hrm with ⟨rfl, rfl, rfl⟩ | ⟨g, rfl, gB, gF, hnc, hc, -⟩
      · go_wp2_with fail
        go_loopw [24] (fun i wr => i = .int .i64 0 ∧ Hid (rms B R w0 wr s)) (fun _ _ => 0)
        case atStart => exact ⟨rfl, HS.out⟩
        case round =>
          obtain ⟨rfl, HT⟩ := hrel
          go_wp2_with fail
          go_roundw
          case rel => exact ⟨2, by go_num, by omega, HT.out⟩
          case measure => simp [intOf]
      · have k1 : (ns : Int) ≤ cs := by omega
        go_wp2_with fail
        go_loopw [24] (fun i wr => ∃ j : Nat, i = .int .i64 (j : Int) ∧ j ≤ cs ∧ Hid (rms B R w0 wr s)) (fun i _ => cs - (intOf i).toNat)
        case atStart => exact ⟨0, rfl, by omega, HS.out⟩
        case round =>
          obtain ⟨j, rfl, hj, HT⟩ := hrel
          by_cases hlt : j < cs
          · obtain ⟨x, cx, fx⟩ := rm_cell ((HK.out wr HT.out).2.1) (j := j) (by omega)
            have HN : Hid (∀ y, rms B R w0 (wr.setCell ⟨g, j, none⟩ (.int .i64 y)) s) := fun y => rms_set HT.out g j ⟨gB, gF⟩ y
            have l1 : (j : Int) < cs := by omega
            have l2 : (0 : Int) ≤ j := by omega
            go_wp2_with fail
            go_roundw
            case rel => exact ⟨j + 1, by go_num, by omega, HN.out _⟩
            case measure => simp [intOf]; omega
          · have hjn : j = cs := by omega
            subst hjn
            go_wp2_with fail
            go_roundw
            case rel => exact ⟨2, by go_num, by omega, HT.out⟩
            case measure => simp [intOf]
    · have hrm := (HK.out wr HS.out).2.2.1
      rcases hrm with ⟨rfl, rfl, rfl⟩ | ⟨g, rfl, gB, gF, hnc, hc, -⟩
      · go_wp2_with fail
        go_loopw [24] (fun i wr => i = .int .i64 0 ∧ Hid (rms B R w0 wr s)) (fun _ _ => 0)
        case atStart => exact ⟨rfl, HS.out⟩
        case round =>
          obtain ⟨rfl, HT⟩ := hrel
          go_wp2_with fail
          go_roundw
          case rel => exact ⟨3, by go_num, by omega, HT.out⟩
          case measure => simp [intOf]
      · have k1 : (nm : Int) ≤ cm := by omega
        go_wp2_with fail
        go_loopw [24] (fun i wr => ∃ j : Nat, i = .int .i64 (j : Int) ∧ j ≤ cm ∧ Hid (rms B R w0 wr s)) (fun i _ => cm - (intOf i).toNat)
        case atStart => exact ⟨0, rfl, by omega, HS.out⟩
        case round =>
          obtain ⟨j, rfl, hj, HT⟩ := hrel
          by_cases hlt : j < cm
          · obtain ⟨x, cx, fx⟩ := rm_cell ((HK.out wr HT.out).2.2.1) (j := j) (by omega)
            have HN : Hid (∀ y, rms B R w0 (wr.setCell ⟨g, j, none⟩ (.int .i64 y)) s) := fun y => rms_set HT.out g j ⟨gB, gF⟩ y
            have l1 : (j : Int) < cm := by omega
            have l2 : (0 : Int) ≤ j := by omega
            go_wp2_with fail
            go_roundw
            case rel => exact ⟨j + 1, by go_num, by omega, HN.out _⟩
            case measure => simp [intOf]; omega
          · have hjn : j = cm := by omega
            subst hjn
            go_wp2_with fail
            go_roundw
            case rel => exact ⟨3, by go_num, by omega, HT.out⟩
            case measure => simp [intOf]
    · obtain ⟨z0, z1, z2, z3, z4, z5, z6, z7, z8⟩ := bx9_c9 (HBX.out wr HS.out)
      have hk3 := (HK.out wr HS.out).2.2.2.1
      rcases hk3 with ⟨rfl, rfl, rfl⟩ | ⟨g, rfl, gB, gF, hnc, hc, -⟩
      · go_wp2_with fail
        clear z0 z1 z2 z3 z4 z5 z6 z7 z8
        go_loopw [42] (fun i wr => i = .int .i64 0 ∧ Hid (rms B R w0 wr s)) (fun _ _ => 0)
        case atStart => exact ⟨rfl, HS.out⟩
        case round =>
          obtain ⟨rfl, HT⟩ := hrel
          obtain ⟨z0, z1, z2, z3, z4, z5, z6, z7, z8⟩ := bx9_c9 (HBX.out wr HT.out)
          have hk4 := (HK.out wr HT.out).2.2.2.2
          clear z0 z1 z2 z3 z4 z5 z6 z7 z8
          obtain ⟨z0, z1, z2, z3, z4, z5, z6, z7, z8⟩ := bx9_c9 (HBX.out wr HT.out)
          rcases hk4 with ⟨rfl, rfl, rfl⟩ | ⟨g2, rfl, gB2, gF2, hnc2, hc2, -⟩
          · go_wp2_with fail
            go_loopw [66] (fun i wr => i = .int .i64 0 ∧ Hid (rms B R w0 wr s)) (fun _ _ => 0)
            case atStart => exact ⟨rfl, HT.out⟩
            case round =>
              obtain ⟨rfl, HU⟩ := hrel
              go_wp2_with fail
              refine ⟨by simp, .tuple #[], by simp [results, Try.results29, go_sem], ⟨_, rfl⟩, HBE.out _ HU.out⟩
          · have k3 : (nt : Int) ≤ ct := by omega
            go_wp2_with fail
            clear z0 z1 z2 z3 z4 z5 z6 z7 z8
            go_loopw [66] (fun i wr => ∃ j : Nat, i = .int .i64 (j : Int) ∧ j ≤ ct ∧ Hid (rms B R w0 wr s)) (fun i _ => ct - (intOf i).toNat)
            case atStart => exact ⟨0, rfl, by omega, HT.out⟩
            case round =>
              obtain ⟨j, rfl, hj, HU⟩ := hrel
              by_cases hlt : j < ct
              · obtain ⟨x, cx, fx⟩ := rm_cell ((HK.out wr HU.out).2.2.2.2) (j := j * 7 + 5) (by omega)
                have HN : Hid (∀ y, rms B R w0 (wr.setCell ⟨g2, j * 7 + 5, none⟩ (.int .i64 y)) s) := fun y => rms_set HU.out g2 (j * 7 + 5) ⟨gB2, gF2⟩ y
                have l1 : (j : Int) < ct := by omega
                have l2 : (0 : Int) ≤ j := by omega
                obtain ⟨z0, z1, z2, z3, z4, z5, z6, z7, z8⟩ := bx9_c9 (HBX.out wr HU.out)
                go_wp2_with fail
                go_roundw
                case rel => exact ⟨j + 1, by go_num, by omega, HN.out _⟩
                case measure => simp [intOf]; omega
              · have hjn : j = ct := by omega
                subst hjn
                go_wp2_with fail
                refine ⟨by simp, .tuple #[], by simp [results, Try.results29, go_sem], ⟨_, rfl⟩, HBE.out _ HU.out⟩
      · have k2 : (nb : Int) ≤ cb := by omega
        go_wp2_with fail
        clear z0 z1 z2 z3 z4 z5 z6 z7 z8
        go_loopw [42] (fun i wr => ∃ j : Nat, i = .int .i64 (j : Int) ∧ j ≤ cb ∧ Hid (rms B R w0 wr s)) (fun i _ => cb - (intOf i).toNat)
        case atStart => exact ⟨0, rfl, by omega, HS.out⟩
        case round =>
          obtain ⟨j, rfl, hj, HT⟩ := hrel
          obtain ⟨z0, z1, z2, z3, z4, z5, z6, z7, z8⟩ := bx9_c9 (HBX.out wr HT.out)
          by_cases hlt : j < cb
          · obtain ⟨x, cx, fx⟩ := rm_cell ((HK.out wr HT.out).2.2.2.1) (j := j * 2) (by omega)
            have HN : Hid (∀ y, rms B R w0 (wr.setCell ⟨g, j * 2, none⟩ (.int .i64 y)) s) := fun y => rms_set HT.out g (j * 2) ⟨gB, gF⟩ y
            have l1 : (j : Int) < cb := by omega
            have l2 : (0 : Int) ≤ j := by omega
            go_wp2_with fail
            go_roundw
            case rel => exact ⟨j + 1, by go_num, by omega, HN.out _⟩
            case measure => simp [intOf]; omega
          · have hjn : j = cb := by omega
            subst hjn
            have hk4 := (HK.out wr HT.out).2.2.2.2
            clear z0 z1 z2 z3 z4 z5 z6 z7 z8
            obtain ⟨z0, z1, z2, z3, z4, z5, z6, z7, z8⟩ := bx9_c9 (HBX.out wr HT.out)
            rcases hk4 with ⟨rfl, rfl, rfl⟩ | ⟨g2, rfl, gB2, gF2, hnc2, hc2, -⟩
            · go_wp2_with fail
              go_loopw [66] (fun i wr => i = .int .i64 0 ∧ Hid (rms B R w0 wr s)) (fun _ _ => 0)
              case atStart => exact ⟨rfl, HT.out⟩
              case round =>
                obtain ⟨rfl, HU⟩ := hrel
                go_wp2_with fail
                refine ⟨by simp, .tuple #[], by simp [results, Try.results29, go_sem], ⟨_, rfl⟩, HBE.out _ HU.out⟩
            · have k3 : (nt : Int) ≤ ct := by omega
              go_wp2_with fail
              clear z0 z1 z2 z3 z4 z5 z6 z7 z8
              go_loopw [66] (fun i wr => ∃ j : Nat, i = .int .i64 (j : Int) ∧ j ≤ ct ∧ Hid (rms B R w0 wr s)) (fun i _ => ct - (intOf i).toNat)
              case atStart => exact ⟨0, rfl, by omega, HT.out⟩
              case round =>
                obtain ⟨j, rfl, hj, HU⟩ := hrel
                by_cases hlt : j < ct
                · obtain ⟨x, cx, fx⟩ := rm_cell ((HK.out wr HU.out).2.2.2.2) (j := j * 7 + 5) (by omega)
                  have HN : Hid (∀ y, rms B R w0 (wr.setCell ⟨g2, j * 7 + 5, none⟩ (.int .i64 y)) s) := fun y => rms_set HU.out g2 (j * 7 + 5) ⟨gB2, gF2⟩ y
                  have l1 : (j : Int) < ct := by omega
                  have l2 : (0 : Int) ≤ j := by omega
                  obtain ⟨z0, z1, z2, z3, z4, z5, z6, z7, z8⟩ := bx9_c9 (HBX.out wr HU.out)
                  go_wp2_with fail
                  go_roundw
                  case rel => exact ⟨j + 1, by go_num, by omega, HN.out _⟩
                  case measure => simp [intOf]; omega
                · have hjn : j = ct := by omega
                  subst hjn
                  go_wp2_with fail
                  refine ⟨by simp, .tuple #[], by simp [results, Try.results29, go_sem], ⟨_, rfl⟩, HBE.out _ HU.out⟩
end Go.Proofs.Ytdcjjfipnilmpaa
