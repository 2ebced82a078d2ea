/- GoodsRound: n rounds of a move of a mine and a move of a troop's load: n more money, n less ore: for every number the law answers true. -/
import Derived.Test.YtdcjjfipnilmpaaRows
import Derived.Test.YtdcjjfipnilmpaaPost
import Derived.Test.YtdcjjfipnilmpaaLv
import Derived.Test.YtdcjjfipnilmpaaSf
import Derived.WalkKit
import Derived.ProofKit
import Derived.OpenShut

namespace Go.Proofs.Ytdcjjfipnilmpaa.goodsRound
open Go.ChangeShapes Go.WideShapes Go.ChangeAt Go.RowKit
set_option linter.unusedVariables false

theorem own : ownKnob Try.prog.godebug = none := by kernel_rfl

def rs (k : Nat) : Shp := ⟨[20 + (k : Int)], [0, 0, 30 - (k : Int)], [⟨1, 0, 1, 1, 0, 10, 0⟩], 2⟩
def rsm (k : Nat) : Shp := ⟨[20 + (k : Int)], [0, 0, 30 - (k : Int) - 1], [⟨1, 0, 1, 1, 0, 10, 1⟩], 2⟩
theorem dd_r1 {k : Nat} (hk : k < 30) : Dd 3 1 [0, 0, 3] [⟨0, 0⟩] (rs k) ⟨1, 1, 2, 0, 0⟩ (rsm k) :=
  Dd.mine (k := 0) (t := ⟨1, 0, 1, 1, 0, 10, 0⟩) rfl rfl rfl ⟨by decide, by show (30 - (k : Int)) ≠ 0; omega, rfl, by decide, by decide⟩
theorem dd_r2 {k : Nat} (hk : k < 30) : Dd 3 1 [0, 0, 3] [⟨0, 0⟩] (rsm k) ⟨2, 1, 0, 0, 0⟩ (rs (k + 1)) := by
  have hn : dropN (rsm k) ⟨1, 0, 1, 1, 0, 10, 1⟩ = 1 := by
    show mnd 1 (1000000 - (20 + (k : Int))) = 1
    unfold mnd
    rw [if_neg (by omega)]
  have h := Dd.drop (W := 3) (H := 1) (l := [0, 0, 3]) (lb := [⟨0, 0⟩]) (s := rsm k) (d := ⟨2, 1, 0, 0, 0⟩) (k := 0) (t := ⟨1, 0, 1, 1, 0, 10, 1⟩) rfl rfl rfl ⟨by rw [hn]; decide, by decide⟩
  rw [hn] at h
  have e : dropS (rsm k) 0 ⟨1, 0, 1, 1, 0, 10, 1⟩ 1 = rs (k + 1) := by
    show (⟨[20 + (k : Int) + 1], [0, 0, 30 - (k : Int) - 1], [⟨1, 0, 1, 1, 0, 10, 0⟩], 2⟩ : Shp) = _
    unfold rs
    have e1 : (20 : Int) + (k : Int) + 1 = 20 + ((k + 1 : Nat) : Int) := by omega
    have e2 : (30 : Int) - (k : Int) - 1 = 30 - ((k + 1 : Nat) : Int) := by omega
    rw [e1, e2]
  rw [e] at h
  exact h
theorem dr_round {k : Nat} (hk : k < 30) : Dr 3 1 [0, 0, 3] [⟨0, 0⟩] (rs k) [⟨1, 1, 2, 0, 0⟩, ⟨2, 1, 0, 0, 0⟩] (rs (k + 1)) [true, true] :=
  Dr.more (ds := [⟨1, 1, 2, 0, 0⟩]) (bs := [true]) (Dr.more (ds := []) (bs := []) .zero (.inl ⟨rfl, dd_r1 hk⟩)) (.inl ⟨rfl, dd_r2 hk⟩)
/-- What the world is behind k rounds. -/
def rok (s : Wld) (V : World) (k : Nat) : Prop := s.fit V ∧ okw s 3 1 ∧ s.l = [0, 0, 3] ∧ s.lb = [⟨0, 0⟩] ∧ s.shp = rs k
theorem do_round (s : Wld) (k : Nat) (p : Option Addr) (V : World) (h : rok s V k) (hk : k < 30) (hp : dor V p [⟨1, 1, 2, 0, 0⟩, ⟨2, 1, 0, 0, 0⟩]) :
    Calls Try.prog 9 #[s.val, .slice p 2 2] V fun e w' => (∃ (s' : Wld) (gp : Option Addr) (gc : Nat), e = .returned (.tuple #[s'.val, .slice gp 2 gc, .int .i64 0]) ∧ row vbl w' gp [true, true] ∧ wown V.heap.size w' s' ∧ ∀ U B, wown B U s' → rok s' U (k + 1)) ∧ Below V.heap.size V w' := by
  obtain ⟨hf, hok, h1, h2, h3⟩ := h
  refine (Do_ok s 3 1 p 2 2 [⟨1, 1, 2, 0, 0⟩, ⟨2, 1, 0, 0, 0⟩] V hf hok hp (fun t ht => by simp at ht; rcases ht with rfl | rfl <;> (unfold fitd fits; simp)) rfl (by decide)).mono ?_
  rintro e w' ⟨⟨s', gp, gc, bs, rfl, r1, r2, r3, r4⟩, hb⟩
  have hh := dr_round hk
  rw [← h1, ← h2, ← h3] at hh
  obtain ⟨e1, e2⟩ := dr_one (okw_oks hok hf.hb hf.ht) r4 hh
  subst e2
  refine ⟨⟨s', gp, gc, rfl, r1, r2, fun U B hU => ?_⟩, hb⟩
  obtain ⟨q1, q2⟩ := dr_right hf hok r3 r4 hU
  exact ⟨q1, q2, by rw [r3.l, h1], by rw [r3.lb, h2], e1⟩
def bxs (V : World) (J : Nat) (s : Wld) : Prop := bx9 V J (.int .i64 s.A) (.int .i64 s.B) (.slice s.p s.n s.c) (.slice s.pb s.nb s.cb) (.slice s.ps s.ns s.cs) (.slice s.pm s.nm s.cm) (.slice s.pt s.nt s.ct) (.int .i64 s.N) (.int .i64 s.T)
theorem notbox {V : World} {F k : Nat} {a : Addr} {b : Bool} {A B N T : Int} {p pb ps pm pt : Option Addr} {n nb ns nm nt c cb cs cm ct : Nat} (hb : bx9 V F (.int .i64 A) (.int .i64 B) (.slice p n c) (.slice pb nb cb) (.slice ps ns cs) (.slice pm nm cm) (.slice pt nt ct) (.int .i64 N) (.int .i64 T)) (hc : V.cell? (a.add k) = some (.bool b)) : ¬ a.block = F := by
  intro e
  have hz : (a.add k).block = F := by unfold Addr.add; split <;> exact e
  generalize a.add k = z at hc hz
  obtain ⟨g, o, q⟩ := z
  have hz' : g = F := hz
  subst hz'
  unfold bx9 at hb
  unfold World.cell? at hc
  dsimp only at hc
  rw [hb] at hc
  dsimp only at hc
  cases q
  · simp only [Option.isSome_none, Bool.false_eq_true, if_false] at hc
    match o with
    | 0 | 1 | 2 | 3 | 4 | 5 | 6 | 7 | 8 => simp at hc
    | m + 9 => simp at hc
  · simp at hc

set_option maxRecDepth 20000 in
set_option maxHeartbeats 4000000 in
theorem walk (a0 : Int) (w0 : (Lit.int .i64 a0).wf = true) (w : World)  :
    Calls Try.prog 7 #[.int .i64 a0] w fun e w' => e = .returned (.bool true) ∧ Below w.heap.size w w' := by
  clear w0
  obtain ⟨wi, hwi⟩ : ∃ wi : World, wi = w := ⟨_, rfl⟩
  subst hwi
  go_enter Try.func7, Try.ntmps7
  go_wp2_with fail
  refine (small_any wi).mono ?_
  rintro e u1 ⟨⟨F, rfl, hf, hF, hx1, hx2⟩, hb1⟩
  obtain ⟨J, hJ⟩ : ∃ J, u1.heap.size = J := ⟨_, rfl⟩
  unfold smw Wld.val
  dsimp only
  obtain ⟨u2, hu2⟩ : ∃ u2, u1.alloc (.cells #[.int .i64 3, .int .i64 1, .slice (some ⟨J + 1, 0, none⟩) 3 3, .slice (some ⟨F + 1 + 1, 0, none⟩) 1 1, .slice (some ⟨F + 1 + 1 + 1, 0, none⟩) 1 1, .slice (some ⟨J + 1 + 1, 0, none⟩) 3 3, .slice (some ⟨F + 1 + 1 + 1 + 1 + 1, 0, none⟩) 1 1, .int .i64 2, .int .i64 0] 28) = u2 := ⟨_, rfl⟩
  obtain ⟨u3, hu3⟩ : ∃ u3, u2.alloc (.cells #[.int .i64 0, .int .i64 0, .int .i64 3] 3) = u3 := ⟨_, rfl⟩
  obtain ⟨u4, hu4⟩ : ∃ u4 : World, u3.alloc (.cells #[.int .i64 0, .int .i64 0, .int .i64 30] 3) = u4 := ⟨_, rfl⟩
  have s2 : u2.heap.size = J + 1 := by rw [← hu2, World.size_alloc, hJ]
  have s3 : u3.heap.size = J + 1 + 1 := by rw [← hu3, World.size_alloc, s2]
  have s4 : u4.heap.size = J + 1 + 1 + 1 := by rw [← hu4, World.size_alloc, s3]
  have b12 : Below u1.heap.size u1 u2 := by rw [← hu2]; exact alloc_below _ _
  have b23 : Below u2.heap.size u2 u3 := by rw [← hu3]; exact alloc_below _ _
  have b34 : Below u3.heap.size u3 u4 := by rw [← hu4]; exact alloc_below _ _
  have b14 : Below u1.heap.size u1 u4 := below_call (below_call b12 b12.size b23) (below_call b12 b12.size b23).size b34
  have x2 : bx9 u2 J (.int .i64 3) (.int .i64 1) (.slice (some ⟨J + 1, 0, none⟩) 3 3) (.slice (some ⟨F + 1 + 1, 0, none⟩) 1 1) (.slice (some ⟨F + 1 + 1 + 1, 0, none⟩) 1 1) (.slice (some ⟨J + 1 + 1, 0, none⟩) 3 3) (.slice (some ⟨F + 1 + 1 + 1 + 1 + 1, 0, none⟩) 1 1) (.int .i64 2) (.int .i64 0) := by rw [← hu2, ← hJ]; exact box9_new _ _ _ _ _ _ _ _ _ _
  have x4 := bx9_below (bx9_below x2 b23) b34
  have p3 : u4.heap[J + 1]? = some (.cells #[.int .i64 0, .int .i64 0, .int .i64 3] 3) := (b34.block (J + 1) (by omega)).trans (by rw [← hu3, ← s2]; exact World.alloc_heap_new u2 _)
  have p4 : u4.heap[J + 1 + 1]? = some (.cells #[.int .i64 0, .int .i64 0, .int .i64 30] 3) := by rw [← hu4, ← s3]; exact World.alloc_heap_new u3 _
  obtain ⟨u5, hu5⟩ : ∃ u5 : World, u5 = u4 := ⟨_, rfl⟩
  subst hu5
  have x5 := x4
  have b15 := b14
  have q3 := p3
  have q4 := p4
  have hf5 := Wld.fit_below hf b15
  have HI0 : Hid (Below wi.heap.size wi u5 ∧ ∃ s : Wld, bxs u5 J s ∧ rok s u5 0) := by
    refine ⟨below_call hb1 hb1.size b15, ⟨3, 1, some ⟨J + 1, 0, none⟩, 3, 3, [0, 0, 3], some ⟨F + 1 + 1, 0, none⟩, 1, 1, [⟨0, 0⟩], some ⟨F + 1 + 1 + 1, 0, none⟩, 1, 1, [20], some ⟨J + 1 + 1, 0, none⟩, 3, 3, [0, 0, 30], some ⟨F + 1 + 1 + 1 + 1 + 1, 0, none⟩, 1, 1, [⟨1, 0, 1, 1, 0, 10, 0⟩], 2, 0⟩, x5, ?_, ?_, rfl, rfl, rfl⟩
    · have f3 : ∀ x ∈ ([0, 0, 30] : List Int), fits x := fun x hx => by simp at hx; rcases hx with rfl | rfl <;> (unfold fits; omega)
      exact { hf5 with r := row_heap (L := [0, 0, 3]) q3, x := hf5.x, h := rfl, m := (by show 3 ≤ 9223372036854775807; decide), z := (fun h => (by cases h)), k := Nat.le_refl 3, rm := row_heap (L := [0, 0, 30]) q4, xm := f3, hm := rfl, mm := (by show 3 ≤ 9223372036854775807; decide) }
    · have ok := smw_ok F
      refine { ok with mn := ⟨rfl, (by show ([0, 0, 30] : List Int).any am = false; decide), ?_⟩ }
      intro i hi hne
      have hi3 : i < 3 := hi
      have h3 : i = 0 ∨ i = 1 ∨ i = 2 := by omega
      rcases h3 with rfl | rfl | rfl
      · exact absurd rfl hne
      · exact absurd rfl hne
      · rfl
  have HJ : Hid (wi.heap.size ≤ J) := by unfold Hid; rw [← hJ]; exact hb1.size
  have HU2 : Hid (_ = u2) := hu2
  have HU3 : Hid (_ = u3) := hu3
  have HU4 : Hid (_ = u5) := hu4
  clear hf hF hx1 hx2 hb1 b12 b23 b34 b14 x2 x4 p3 p4 x5 b15 q3 q4 hf5 hu2 hu3 hu4 s2 s3 s4
  go_wp2_with fail
  rw [HU2.out, HU3.out, HU4.out]
  clear HU2 HU3 HU4
  refine (glives_any u5).mono ?_
  rintro e u6 ⟨rfl, hb6⟩
  have HI6 : Hid (Below wi.heap.size wi u6 ∧ ∃ s : Wld, bxs u6 J s ∧ rok s u6 0) := by
    obtain ⟨r1, s, r2, r3, r4⟩ := HI0.out
    exact ⟨below_call r1 r1.size hb6, s, bx9_below r2 hb6, Wld.fit_below r3 hb6, r4⟩
  clear hb6
  by_cases hn0 : a0 < 0
  · go_wp2_with fail
    refine (glives_any u6).mono ?_
    rintro e u7 ⟨rfl, hb7⟩
    have HB7 : Hid (Below wi.heap.size wi u7) := below_call HI6.out.1 HI6.out.1.size hb7
    clear hb7
    go_wp2_with fail
    go_ret
    exact ⟨rfl, HB7.out⟩
  by_cases hn30 : 30 < a0
  · go_wp2_with fail
    refine (glives_any u6).mono ?_
    rintro e u7 ⟨rfl, hb7⟩
    have HB7 : Hid (Below wi.heap.size wi u7) := below_call HI6.out.1 HI6.out.1.size hb7
    clear hb7
    go_wp2_with fail
    go_ret
    exact ⟨rfl, HB7.out⟩
  obtain ⟨n, hna⟩ : ∃ n : Nat, a0 = n := ⟨a0.toNat, by omega⟩
  subst hna
  have hn : n ≤ 30 := by omega
  go_wp2_with fail
  go_loopw [26] (fun i wr => ∃ k : Nat, i = .int .i64 (k : Int) ∧ k ≤ n ∧ Hid (Below wi.heap.size wi wr ∧ ∃ s : Wld, bxs wr J s ∧ rok s wr k)) (fun i _ => n - (intOf i).toNat)
  case atStart => exact ⟨0, rfl, by omega, HI6.out⟩
  case round =>
    obtain ⟨k, rfl, hk, HS⟩ := hrel
    obtain ⟨hBr, s, hbx, hrk⟩ := HS.out
    have HBX : Hid (bxs wr J s) := hbx
    by_cases hlt : k < n
    · obtain ⟨u7, hu7⟩ : ∃ u7, wr.alloc (.cells #[.int .i64 1, .int .i64 1, .int .i64 2, .int .i64 0, .int .i64 0, .int .i64 2, .int .i64 1, .int .i64 0, .int .i64 0, .int .i64 0] 52) = u7 := ⟨_, rfl⟩
      have b7 : Below wr.heap.size wr u7 := by rw [← hu7]; exact alloc_below _ _
      have hd7 : dor u7 (some ⟨wr.heap.size, 0, none⟩) [⟨1, 1, 2, 0, 0⟩, ⟨2, 1, 0, 0, 0⟩] := by rw [← hu7]; exact dor_heap (World.alloc_heap_new wr _)
      have HDO : Hid (Calls Try.prog 9 #[s.val, .slice (some ⟨wr.heap.size, 0, none⟩) 2 2] u7 fun e w' => (∃ (s' : Wld) (gp : Option Addr) (gc : Nat), e = .returned (.tuple #[s'.val, .slice gp 2 gc, .int .i64 0]) ∧ row vbl w' gp [true, true] ∧ wown u7.heap.size w' s' ∧ ∀ U B, wown B U s' → rok s' U (k + 1)) ∧ Below u7.heap.size u7 w') := do_round s k _ u7 ⟨Wld.fit_below hrk.1 b7, hrk.2⟩ (by omega) hd7
      have HB7 : Hid (Below wi.heap.size wi u7 ∧ bxs u7 J s) := ⟨below_call hBr hBr.size b7, bx9_below hbx b7⟩
      obtain ⟨A, B, p, n', c, l, pb, nb, cb, lb, ps, ns, cs, ls, pm, nm, cm, lm, pt, nt, ct, lt, N, T⟩ := s
      unfold bxs at HB7 hbx
      unfold Wld.val at HDO
      dsimp only at *
      obtain ⟨z0, z1, z2, z3, z4, z5, z6, z7, z8⟩ := bx9_c9 hbx
      have l1 : (k : Int) < n := by omega
      have l2 : (0 : Int) ≤ k := by omega
      clear hBr hbx hrk b7 hd7
      go_wp2_with fail
      refine Calls.mono HDO.out ?_
      rintro e u8 ⟨⟨s', gp, gc, rfl, hr, how, hrk⟩, hb8⟩
      have x8 := bx9_below HB7.out.2 hb8
      have hj8 := bx9_lt HB7.out.2
      obtain ⟨A', B', p', n1, c', l', pb', nb', cb', lb', ps', ns', cs', ls', pm', nm', cm', lm', pt', nt', ct', lt', N', T'⟩ := s'
      dsimp only
      obtain ⟨u9, hu9⟩ : ∃ u9, ((((((((u8.setCell ⟨J, 0, none⟩ (.int .i64 A')).setCell ⟨J, 1, none⟩ (.int .i64 B')).setCell ⟨J, 2, none⟩ (.slice p' n1 c')).setCell ⟨J, 3, none⟩ (.slice pb' nb' cb')).setCell ⟨J, 4, none⟩ (.slice ps' ns' cs')).setCell ⟨J, 5, none⟩ (.slice pm' nm' cm')).setCell ⟨J, 6, none⟩ (.slice pt' nt' ct')).setCell ⟨J, 7, none⟩ (.int .i64 N')).setCell ⟨J, 8, none⟩ (.int .i64 T') = u9 := ⟨_, rfl⟩
      obtain ⟨x9, e9⟩ := set9 x8 hu9.symm
      have nr : ∀ {e : TypeId} {z n : Nat} {v : Value} {xs : List Value}, u8.ownsRow u7.heap.size e z v n xs → ∀ g, v.ownBlock = some g → ¬ g = J := fun h g hg e => by have := own_base h g hg; omega
      have ho9 := wown_ex how e9 (nr how.kp) (nr how.kb) (nr how.ks) (nr how.km) (nr how.kt)
      have hb9 : Below wi.heap.size wi u9 := (below_call HB7.out.1 HB7.out.1.size hb8).trans (e9.below (B := wi.heap.size) (below_call HB7.out.1 HB7.out.1.size hb8).size (fun j hj e => by have := HJ.out; omega))
      have hnl : u8.heap.size = u9.heap.size := by rw [← hu9]; simp [World.setCell]
      have hr9 : row vbl u9 gp [true, true] ∨ True := .inr trivial
      obtain ⟨gg, rfl, hgg⟩ : ∃ a, gp = some a ∧ True := by
        obtain ⟨a, ha, _⟩ := hr 0 true rfl
        exact ⟨a, ha, trivial⟩
      have HR8 : Hid (row vbl u8 (some gg) [true, true]) := hr
      have HO9 : Hid (Below wi.heap.size wi u9 ∧ ∃ s : Wld, bxs u9 J s ∧ rok s u9 (k + 1)) := ⟨hb9, ⟨A', B', p', n1, c', l', pb', nb', cb', lb', ps', ns', cs', ls', pm', nm', cm', lm', pt', nt', ct', lt', N', T'⟩, x9, hrk u9 _ ho9⟩
      have HNE : Hid (¬ gg.block = J) := by
        obtain ⟨a, ha, hc⟩ := hr 0 true rfl
        cases ha
        exact notbox x8 hc
      have HW9 : Hid (((((((((u8.setCell ⟨J, 0, none⟩ (.int .i64 A')).setCell ⟨J, 1, none⟩ (.int .i64 B')).setCell ⟨J, 2, none⟩ (.slice p' n1 c')).setCell ⟨J, 3, none⟩ (.slice pb' nb' cb')).setCell ⟨J, 4, none⟩ (.slice ps' ns' cs')).setCell ⟨J, 5, none⟩ (.slice pm' nm' cm')).setCell ⟨J, 6, none⟩ (.slice pt' nt' ct')).setCell ⟨J, 7, none⟩ (.int .i64 N')).setCell ⟨J, 8, none⟩ (.int .i64 T') = u9) := hu9
      have HE9 : Hid (Ex (fun g => g = J) u8 u9) := e9
      obtain ⟨y0, y1, y2, y3, y4, y5, y6, y7, y8⟩ := bx9_c9 x8
      have fr0 := bx9_free x8 0
      have fr1 := bx9_free x8 1
      have fr2 := bx9_free x8 2
      have fr3 := bx9_free x8 3
      have fr4 := bx9_free x8 4
      have fr5 := bx9_free x8 5
      have fr6 := bx9_free x8 6
      have fr7 := bx9_free x8 7
      have fr8 := bx9_free x8 8
      clear hr how hrk hb8 x8 hj8 hu9 x9 e9 ho9 hb9 hnl hr9 nr z0 z1 z2 z3 z4 z5 z6 z7 z8 hu7
      go_wp2_with fail
      rw [HW9.out]
      have hsz : u8.heap.size = u9.heap.size := by rw [← HW9.out]; simp [World.setCell]
      rw [hsz]
      have hr9 : row vbl u9 (some gg) [true, true] := row_frame HR8.out HE9.out HNE.out
      refine (Equalv_b _ _ 2 _ _ [true, true] _ rfl (by decide) (row_below hr9 (alloc_below _ _)) (row_heap (L := [true, true]) (World.alloc_heap_new u9 _))).mono ?_
      rintro e u10 ⟨rfl, hb10⟩
      have hb910 : Below u9.heap.size u9 u10 := (alloc_below u9 _).trans (hb10.mono (by simp))
      have HI10 : Hid (Below wi.heap.size wi u10 ∧ ∃ s : Wld, bxs u10 J s ∧ rok s u10 (k + 1)) := by
        obtain ⟨r1, s, r2, r3, r4⟩ := HO9.out
        exact ⟨below_call r1 r1.size hb910, s, bx9_below r2 hb910, Wld.fit_below r3 hb910, r4⟩
      clear hb10 hb910 hr9 hsz y0 y1 y2 y3 y4 y5 y6 y7 y8 fr0 fr1 fr2 fr3 fr4 fr5 fr6 fr7 fr8
      go_wp2_with fail
      go_roundw
      case rel => exact ⟨k + 1, by go_num, by omega, HI10.out⟩
      case measure => simp [intOf]; omega
    · have hkn : k = n := by omega
      subst hkn
      obtain ⟨A, B, p, n', c, l, pb, nb, cb, lb, ps, ns, cs, ls, pm, nm, cm, lm, pt, nt, ct, lt, N, T⟩ := s
      have h1 : (⟨ls, lm, lt, N⟩ : Shp) = rs k := hrk.2.2.2.2
      have g1 : ls = [20 + (k : Int)] := congrArg Shp.ls h1
      have g2 : lm = [0, 0, 30 - (k : Int)] := congrArg Shp.lm h1
      subst g1 g2
      obtain ⟨a, e1, c1⟩ := hrk.1.rs 0 (20 + (k : Int)) rfl
      obtain ⟨a2, e2, c2⟩ := hrk.1.rm 2 (30 - (k : Int)) rfl
      have n1 := hrk.1.hs
      have n2 := hrk.1.hm
      dsimp only at e1 e2 n1 n2
      simp only [List.length_cons, List.length_nil, Nat.zero_add] at n1 n2
      subst e1 e2 n1 n2
      have c1' : wr.cell? a = some (.int .i64 (20 + (k : Int))) := by simpa [Addr.add, vi] using c1
      have c2' : wr.cell? ⟨a2.block, a2.off + 2, none⟩ = some (.int .i64 (30 - (k : Int))) := by simpa [Addr.add, vi] using c2
      unfold bxs at hbx
      obtain ⟨z0, z1, z2, z3, z4, z5, z6, z7, z8⟩ := bx9_c9 hbx
      dsimp only at *
      clear hrk hbx h1 c1 c2
      go_wp2_with fail
      go_ret
      exact ⟨rfl, HS.out.1⟩

set_option maxRecDepth 100000 in
theorem lifted (os : Os) (started : os.Started) (H : Type) (enc : TypeId × Value → H) :
    ReturnsInHanded {} Try.checked os 7 .any (Rows.goodsRoundSpec.pre6 enc Try.prog Try.f7 Rows.goodsRoundRow.domain false) (Rows.goodsRoundSpec.post enc Try.prog Try.f7 false true false false) := by
  refine returnsInHanded_of_change (C := Try.checked) own started (by kernel_rfl) Try.func7
    (ChangeSpec.witness6 (enc := enc) (C := Try.checked) false ⟨#[], #[.int .i64 0], []⟩ 8 (by kernel_rfl) (by kernel_rfl) (by kernel_rfl) (by kernel_rfl)) ?_
  intro W base args ds gs before hval0 hW hcnd _
  have hval : ∀ (j : Nat) t v, Try.f7.params[j]? = some t → args[j]? = some v → Value.okWide Try.prog W .any base t v := hval0
  have hW' := hW
  obtain ⟨p, q, hA0, hV, rfl, hfz, hnd⟩ := hW
  have hA : DataW.TrodAll enc Try.prog W 0 (fun _ => true) true Try.f7.params.toList args.toList ds p := hA0
  rw [Try.params7] at hA hval
  obtain ⟨v0, vs0, d0, ds0, p0, q0, hargs, rfl, rfl, h0, r0⟩ := trodAll_cons hA
  obtain ⟨rfl, rfl, rfl⟩ := trodAll_nil r0
  obtain rfl : args = #[v0] := by cases args; simp_all
  obtain ⟨rfl, rfl⟩ := trodVars_none hV
  obtain ⟨a0, rfl, rfl, rfl, w0⟩ := open_int Try.underlying3 (hval 0 3 v0 rfl rfl) h0

  clear hA0 hval0
  refine (walk a0 w0 W ).mono fun e W' ⟨he, hg⟩ => ?_
  subst he
  exact ⟨_, rfl, law_post (by kernel_rfl) (by kernel_rfl) rfl (by kernel_rfl) Try.underlying4 hW' rfl hg⟩

theorem over : Rows.goodsRoundRow.holds Try.pinned (OpenSpec.ofChange Rows.goodsRoundSpec) :=
  OpenClaim.holds_of_wide 7 Try.f7 rfl rfl rfl rfl rfl rfl rfl ⟨rfl, rfl, rfl, rfl, rfl⟩ rfl rfl rfl rfl rfl (by kernel_rfl) Try.func7 (by kernel_rfl)
    (of_decide_eq_true (by kernel_rfl)) (by unfold Func.isWrapper; first | (rw [if_pos (by decide +kernel)]; kernel_rfl) | (rw [if_neg (by decide +kernel)]; exact ⟨rfl, rfl⟩))
    (fun os started H enc _ => lifted os started H enc)

theorem proved : Rows.GoodsRoundSaid :=
  over
end Go.Proofs.Ytdcjjfipnilmpaa.goodsRound

namespace Go.Proofs.Ytdcjjfipnilmpaa
/-- GoodsRound: n rounds of a move of a mine and a move of a troop's load: n more money, n less ore: for every number the law answers true. -/
theorem goodsRound_holds : Rows.GoodsRoundSaid := goodsRound.proved
#print axioms goodsRound_holds
end Go.Proofs.Ytdcjjfipnilmpaa
