/- a right world is right behind a step -/
import Derived.Test.YtnbbfnlfcncgnaaRows
import Derived.Test.YtnbbfnlfcncgnaaPost
import Derived.Test.YtnbbfnlfcncgnaaOpc
import Derived.Test.YtnbbfnlfcncgnaaGm
import Derived.Test.YtnbbfnlfcncgnaaGc
import Derived.Test.YtnbbfnlfcncgnaaSn
import Derived.Test.YtnbbfnlfcncgnaaMt
import Derived.Test.YtnbbfnlfcncgnaaLv
import Derived.Test.YtnbbfnlfcncgnaaSf
import Derived.Deep.RegionHeld3
import Derived.Deep.DrawnRows
import Derived.BigQuiet
import Derived.WalkKit
import Derived.ProofKit
import Derived.OpenShut
import Derived.SizedLaws
import Derived.ChangeMaps5
import Derived.JoinedCond
namespace Go.Proofs.Ytnbbfnlfcncgnaa.marchRight
open Go.ChangeShapes Go.WideShapes Go.ChangeAt Go.RowKit
set_option linter.unusedVariables false

theorem own : ownKnob Try.prog.godebug = none := by kernel_rfl

def d7 (V : World) (F : Nat) (i o k x y f d : Int) : Prop :=
  V.cell? ⟨F, 0, none⟩ = some (.int .i64 i) ∧ V.cell? ⟨F, 1, none⟩ = some (.int .i64 o) ∧ V.cell? ⟨F, 2, none⟩ = some (.int .i64 k) ∧ V.cell? ⟨F, 3, none⟩ = some (.int .i64 x) ∧ V.cell? ⟨F, 4, none⟩ = some (.int .i64 y) ∧ V.cell? ⟨F, 5, none⟩ = some (.int .i64 f) ∧ V.cell? ⟨F, 6, none⟩ = some (.int .i64 d)
/-- What Step tells of a right world, a troop at a time. -/
theorem stk_right {s s' : Wld} {w : World} {n : Nat} {gs : List Goe} {I : List Int} (h : s.fit w) (hE : ber s n 0) (ho : stk s gs 0 s' I) :
    wre s' 0 ∧ likew s s' ∧ s'.nt = s.nt ∧ s.nt ≤ 100 ∧ I.length ≤ 100 ∧ (∀ k, k + 1 < I.length → I.getD k 0 ≤ I.getD (k + 1) 0) ∧
    ∀ j (hj : j < s.lt.length), ∃ hj' : j < s'.lt.length, (s'.lt[j] = s.lt[j] ∧ has s.lt[j].i I = false) ∨ (has s.lt[j].i I = true ∧ ∃ c b, gol gs s.lt[j].i = some b ∧ nxs s.A s.B s.l s.lt[j].c b (some c) ∧ s'.lt[j] = s.lt[j].go c) := by
  obtain ⟨⟨W, H, hk⟩, _⟩ := ber_ok hE
  have hlen := (step_ids h ⟨n, hE⟩ ho).1
  rcases ho with ⟨hbad, _⟩ | ⟨_, hl, ht, hm⟩
  · exact absurd rfl hbad
  obtain ⟨_, h2, h3⟩ := mst_all hk.tr.2.1 hm
  refine ⟨wre_of (step_right hk hl ht hm), hl, ht, hk.nt, hlen, sorted_getD h2, fun j hj => ?_⟩
  rcases h3 j hj with ⟨a1, a2⟩ | ⟨a1, c, b, a2, a3, a4⟩
  · obtain ⟨hj', e⟩ := List.getElem?_eq_some_iff.1 a1
    refine ⟨hj', .inl ⟨e, ?_⟩⟩
    cases hh : has s.lt[j].i I with
    | false => rfl
    | true => exact absurd (has_iff.1 hh) a2
  · obtain ⟨hj', e⟩ := List.getElem?_eq_some_iff.1 a4
    exact ⟨hj', .inr ⟨has_iff.2 a1, c, b, a2, a3, e⟩⟩
/-- Where a go is found it is the first one. -/
theorem gol_at {gs : List Goe} {i r : Int} {b : Cel} (h : gol gs i = some b) (hf : gfirst (fun g => g.i == i) gs r) : ∃ j, ∃ hj : j < gs.length, r = (j : Int) ∧ gs[j].x = b.x ∧ gs[j].y = b.y := by
  rcases gfirst_find hf with ⟨_, h1⟩ | ⟨j, hj, h1, h2⟩
  · unfold gol at h
    rw [h1] at h; cases h
  · unfold gol at h
    rw [h2] at h
    have := Option.some.inj h
    subst this
    exact ⟨j, hj, h1, rfl, rfl⟩

set_option maxRecDepth 20000 in
set_option maxHeartbeats 4000000 in
theorem walk (s0 : Wld) (s1 : Gst)  (w : World) (h0 : s0.fit w) (h1 : s1.fit w) (hs1 : s1.l.length * 24 ≤ 140737488351232) :
    Calls Try.prog 4 #[s0.val, s1.val] w fun e w' => e = .returned (.bool true) ∧ Below w.heap.size w w' := by
  obtain ⟨E, hE⟩ := ber_total s0 s1.l.length
  obtain ⟨hcr, hxb, hmx, hzp, hkc⟩ := h1
  have HS1 : Hid (∀ V, Below w.heap.size w V → Calls Try.prog 9 #[s0.val, .slice s1.p s1.l.length s1.c] V fun e w' => (∃ (s' : Wld) (gp : Option Addr) (gc : Nat) (gl : List Int), e = .returned (.tuple #[s'.val, .slice gp gl.length gc, .int .i64 E]) ∧ row vi w' gp gl ∧ wown V.heap.size w' s' ∧ stk s0 s1.l E s' gl) ∧ Below V.heap.size V w') := fun V hV => Step_any s0 E s1.p s1.l.length s1.c s1.l V (Wld.fit_below h0 hV) (gor_below hcr hV) hxb rfl hmx hE
  have HFT : Hid (∀ V B s' gl, wown B V s' → stk s0 s1.l E s' gl → s'.fit V) := fun V B s' gl hw ho => step_fit h0 hw ho
  have HEX : Hid (∀ s' gl, E ≠ 0 → stk s0 s1.l E s' gl → gl = []) := fun s' gl he ho => by
    rcases ho with ⟨_, _, h⟩ | ⟨h, _⟩
    · exact h
    · exact absurd h he
  have HOKS : Hid (∀ s' gl, E = 0 → stk s0 s1.l E s' gl → wre s' 0 ∧ likew s0 s' ∧ s'.nt = s0.nt ∧ s0.nt ≤ 100 ∧ gl.length ≤ 100 ∧ (∀ k, k + 1 < gl.length → gl.getD k 0 ≤ gl.getD (k + 1) 0) ∧
    ∀ j (hj : j < s0.lt.length), ∃ hj' : j < s'.lt.length, (s'.lt[j] = s0.lt[j] ∧ has s0.lt[j].i gl = false) ∨ (has s0.lt[j].i gl = true ∧ ∃ c b, gol s1.l s0.lt[j].i = some b ∧ nxs s0.A s0.B s0.l s0.lt[j].c b (some c) ∧ s'.lt[j] = s0.lt[j].go c)) := fun s' gl he ho => by
    subst he
    exact stk_right h0 hE ho
  have HF0 : Hid (∀ V, Below w.heap.size w V → s0.fit V) := fun V hV => Wld.fit_below h0 hV
  have HFAR : Hid (∀ (ax ay bx by_ D : Int) V, Below w.heap.size w V → Hid (∀ d e, farr s0.A s0.B s0.l ⟨ax, ay⟩ ⟨bx, by_⟩ d e → e = 0 ∧ d = D) → Calls Try.prog 24 #[.agg #[.int .i64 s0.A, .int .i64 s0.B, .slice s0.p s0.n s0.c], .agg #[.int .i64 ax, .int .i64 ay], .agg #[.int .i64 bx, .int .i64 by_]] V fun e w' => e = .returned (.tuple #[.int .i64 D, .int .i64 0]) ∧ Below V.heap.size V w') := fun ax ay bx by_ D V hV hd => by
    refine (pFar_any s0.A s0.B s0.p s0.n s0.c s0.l ax ay bx by_ V (row_below h0.r hV) h0.h h0.m).mono ?_
    rintro e w' ⟨⟨d, e', rfl, hf⟩, hb⟩
    obtain ⟨rfl, rfl⟩ := hd.out d e' hf
    exact ⟨rfl, hb⟩
  have HIX : Hid (∀ (ti : Int) (G : Nat) (b : Cel) V, Below w.heap.size w V → gol s1.l ti = some b → V.cell? ⟨G, 0, none⟩ = some (.int .i64 ti) → Calls Try.prog 22 #[.slice s1.p s1.l.length s1.c, .func (.func 23) #[] #[.pointer (some ⟨G, 0, none⟩)]] V fun e w' => (∃ j, ∃ hj : j < s1.l.length, e = .returned (.int .i64 (j : Int)) ∧ s1.l[j].x = b.x ∧ s1.l[j].y = b.y) ∧ Below V.heap.size V w') := fun ti G b V hV hg hc => by
    refine (IndexFuncg1 Try.call23 (.pointer (some ⟨G, 0, none⟩)) (fun g => g.i == ti) s1.p s1.l.length s1.c s1.l V (gor_below hcr hV) rfl hmx (fun V' i' x' y' hV' _ => GRight1_any i' x' y' ti G V' (cell_call hV' hc))).mono ?_
    rintro e w' ⟨⟨r, rfl, hr⟩, hb⟩
    obtain ⟨j, hj, rfl, h1, h2⟩ := gol_at hg hr
    exact ⟨⟨j, hj, rfl, h1, h2⟩, hb⟩
  have HCR : Hid (gor w s1.p s1.l) := hcr
  have HRT : Hid (trow w s0.pt s0.lt) := h0.rt
  have HLT : Hid (s0.lt.length = s0.nt) := h0.ht
  obtain ⟨SO, hSO⟩ : ∃ SO : Wld → List Int → Prop, (fun s' gl => stk s0 s1.l E s' gl) = SO := ⟨_, rfl⟩
  have e1 : ∀ s' gl, stk s0 s1.l E s' gl = SO s' gl := fun s' gl => by rw [← hSO]
  simp only [e1] at HS1 HFT HOKS HEX
  obtain ⟨pl, cl, bl⟩ := s1
  unfold Gst.val
  dsimp only at *
  clear hs1 h0 hE hcr hxb hzp hSO e1
  obtain ⟨A, B, p, n, c, l, pb, nb, cb, lb, ps, ns, cs, ls, pm, nm, cm, lm, pt, nt, ct, lt, N, T⟩ := s0
  unfold Wld.val at *
  dsimp only at *
  obtain ⟨nl, hnl⟩ : ∃ nl, bl.length = nl := ⟨_, rfl⟩
  have HNL : Hid (bl.length = nl) := hnl
  have HMX : Hid (nl ≤ 9223372036854775807) := by unfold Hid; rw [← hnl]; exact hmx
  rw [hnl] at HS1 ⊢
  have HIX : Hid (∀ (ti : Int) (G : Nat) (b : Cel) V, Below w.heap.size w V → gol bl ti = some b → V.cell? ⟨G, 0, none⟩ = some (.int .i64 ti) → Calls Try.prog 22 #[.slice pl nl cl, .func (.func 23) #[] #[.pointer (some ⟨G, 0, none⟩)]] V fun e w' => (∃ j, ∃ hj : j < bl.length, e = .returned (.int .i64 (j : Int)) ∧ bl[j].x = b.x ∧ bl[j].y = b.y) ∧ Below V.heap.size V w') := by rw [← hnl]; exact HIX
  clear hnl hmx hkc
  obtain ⟨F, hF⟩ : ∃ F, w.heap.size = F := ⟨_, rfl⟩
  obtain ⟨w0, hw0⟩ : ∃ w0, w.alloc (.cells #[.int .i64 A, .int .i64 B, .slice p n c, .slice pb nb cb, .slice ps ns cs, .slice pm nm cm, .slice pt nt ct, .int .i64 N, .int .i64 T] 28) = w0 := ⟨_, rfl⟩
  have HBX : Hid (∀ V, Below w0.heap.size w0 V → c9 V F (.int .i64 A) (.int .i64 B) (.slice p n c) (.slice pb nb cb) (.slice ps ns cs) (.slice pm nm cm) (.slice pt nt ct) (.int .i64 N) (.int .i64 T)) := fun V hV => boxw hF hw0 hV
  have hB0 : Below w.heap.size w w0 := by rw [← hw0]; exact alloc_below _ _
  have HB0 : Hid (Below w.heap.size w w0) := hB0
  have HUP : Hid (∀ V, Below w0.heap.size w0 V → Below w.heap.size w V) := fun V hV => HB0.out.trans (hV.mono HB0.out.size)
  obtain ⟨z0, z1, z2, z3, z4, z5, z6, z7, z8⟩ := HBX.out w0 (Below.refl _ _)
  clear hB0
  go_enter Try.func4, Try.ntmps4
  go_wp2_with fail
  refine (HS1.out w0 HB0.out).mono ?_
  rintro e w1 ⟨⟨sa, gpa, gca, gla, rfl, hra, hwa, hsa⟩, hb1⟩
  have hfa := HFT.out w1 _ sa gla hwa hsa
  have HB1 : Hid (Below w0.heap.size w0 w1) := hb1
  have HA : Hid (sa.fit w1 ∧ row vi w1 gpa gla ∧ SO sa gla) := ⟨hfa, hra, hsa⟩
  clear hfa hra hwa hsa hb1 z0 z1 z2 z3 z4 z5 z6 z7 z8 hw0 hF HS1 HFT
  obtain ⟨A1, B1, p1, n1, c1, l1_, pb1, nb1, cb1, lb1, ps1, ns1, cs1, ls1, pm1, nm1, cm1, lm1, pt1, nt1, ct1, lt1, N1, T1⟩ := sa
  dsimp only
  obtain ⟨ga, hga⟩ : ∃ ga, gla.length = ga := ⟨_, rfl⟩
  have HGA : Hid (gla.length = ga) := hga
  rw [hga]
  obtain ⟨w2, hw2⟩ : ∃ w2, w1.alloc (.cells #[.int .i64 A1, .int .i64 B1, .slice p1 n1 c1, .slice pb1 nb1 cb1, .slice ps1 ns1 cs1, .slice pm1 nm1 cm1, .slice pt1 nt1 ct1, .int .i64 N1, .int .i64 T1] 28) = w2 := ⟨_, rfl⟩
  obtain ⟨G1, hG1⟩ : ∃ G1, w1.heap.size = G1 := ⟨_, rfl⟩
  have hb2 : Below w1.heap.size w1 w2 := by rw [← hw2]; exact alloc_below _ _
  have hx2 : bx9 w2 G1 (.int .i64 A1) (.int .i64 B1) (.slice p1 n1 c1) (.slice pb1 nb1 cb1) (.slice ps1 ns1 cs1) (.slice pm1 nm1 cm1) (.slice pt1 nt1 ct1) (.int .i64 N1) (.int .i64 T1) := by rw [← hw2, ← hG1]; exact box9_new _ _ _ _ _ _ _ _ _ _
  have HBA : Hid (∀ V, Below w2.heap.size w2 V → bx9 V G1 (.int .i64 A1) (.int .i64 B1) (.slice p1 n1 c1) (.slice pb1 nb1 cb1) (.slice ps1 ns1 cs1) (.slice pm1 nm1 cm1) (.slice pt1 nt1 ct1) (.int .i64 N1) (.int .i64 T1)) := fun V hV => bx9_below hx2 hV
  have HB12 : Hid (Below w1.heap.size w1 w2) := hb2
  have HB2 : Hid (Below w0.heap.size w0 w2) := below_call HB1.out HB1.out.size hb2
  have HG11 : Hid (w1.heap.size ≤ G1) := Nat.le_of_eq hG1
  have HG1 : Hid (w0.heap.size ≤ G1) := by unfold Hid; rw [← hG1]; exact HB1.out.size
  clear hga hb2 hx2
  go_wp2_with fail
  clear hw2 hG1
  refine (mlives_any w2).mono ?_
  rintro e w3 ⟨rfl, hb3⟩
  have HB23 : Hid (Below w2.heap.size w2 w3) := hb3
  have HB3 : Hid (Below w0.heap.size w0 w3) := below_call HB2.out HB2.out.size hb3
  have HB13 : Hid (Below w1.heap.size w1 w3) := below_call HB12.out HB12.out.size hb3
  clear hb3
  by_cases hE0 : E = 0
  rotate_left
  · have d1 : (E != 0) = true := by simp [hE0]
    have hgl := HEX.out _ _ hE0 HA.out.2.2
    obtain rfl : ga = 0 := by rw [← HGA.out, hgl]; rfl
    clear hgl
    go_wp2_with fail
    refine (mlives_any w3).mono ?_
    rintro e w4 ⟨rfl, hb4⟩
    have HB4 : Hid (Below w.heap.size w w4) := HUP.out w4 (below_call HB3.out HB3.out.size hb4)
    clear hb4
    go_wp2_with fail
    go_ret
    exact ⟨rfl, HB4.out⟩
  subst hE0
  obtain ⟨hwre, hlk, hnt1, hnt, hga100, hsrt, hea⟩ := HOKS.out _ _ rfl HA.out.2.2
  rw [HGA.out] at hga100
  have hck := Check_world _ 0 w3 (Wld.fit_below HA.out.1 HB13.out) hwre
  unfold Wld.val at hck
  dsimp only at hck hlk hnt1 hea
  subst hnt1
  have HCK : Hid (Calls Try.prog 19 #[.agg #[.int .i64 A1, .int .i64 B1, .slice p1 n1 c1, .slice pb1 nb1 cb1, .slice ps1 ns1 cs1, .slice pm1 nm1 cm1, .slice pt1 nt1 ct1, .int .i64 N1, .int .i64 T1]] w3 fun e w' => e = .returned (.int .i64 0) ∧ Below w3.heap.size w3 w') := hck
  have HIS : Hid (∀ V, Below w1.heap.size w1 V → Calls Try.prog 20 #[.slice gpa ga gca] V fun e w' => e = .returned (.bool true) ∧ Below V.heap.size V w') := fun V hV => IsSorted_yes gpa ga gca gla V HGA.out (by omega) (row_below HA.out.2.1 hV) hsrt
  have HEA : Hid (∀ j (hj : j < lt.length), ∃ hj' : j < lt1.length, (lt1[j] = lt[j] ∧ has lt[j].i gla = false) ∨ (has lt[j].i gla = true ∧ ∃ c b, gol bl lt[j].i = some b ∧ nxs A B l lt[j].c b (some c) ∧ lt1[j] = lt[j].go c)) := hea
  have HLK : Hid (likew ⟨A, B, p, n, c, l, pb, nb, cb, lb, ps, ns, cs, ls, pm, nm, cm, lm, pt, nt1, ct, lt, N, T⟩ ⟨A1, B1, p1, n1, c1, l1_, pb1, nb1, cb1, lb1, ps1, ns1, cs1, ls1, pm1, nm1, cm1, lm1, pt1, nt1, ct1, lt1, N1, T1⟩) := hlk
  have HCO : Hid (∀ (ti : Int) (b : Bool) V, Below w1.heap.size w1 V → has ti gla = b → Calls Try.prog 21 #[.slice gpa ga gca, .int .i64 ti] V fun e w' => e = .returned (.bool b) ∧ w' = V) := fun ti b V hV hb => Containsi_any gpa ga gca gla ti b V (row_below HA.out.2.1 hV) HGA.out (by omega) hb
  clear hwre hlk hsrt hea hck HOKS HEX
  obtain ⟨y0, y1, y2, y3, y4, y5, y6, y7, y8⟩ := bx9_c9 (HBA.out w3 HB23.out)
  go_wp2_with fail
  refine Calls.mono HCK.out ?_
  rintro e w4 ⟨rfl, hb4⟩
  have HB24 : Hid (Below w2.heap.size w2 w4) := below_call HB23.out HB23.out.size hb4
  have HB14 : Hid (Below w1.heap.size w1 w4) := below_call HB13.out HB13.out.size hb4
  have HB4 : Hid (Below w0.heap.size w0 w4) := below_call HB3.out HB3.out.size hb4
  clear hb4 y0 y1 y2 y3 y4 y5 y6 y7 y8 HCK
  obtain ⟨y0, y1, y2, y3, y4, y5, y6, y7, y8⟩ := bx9_c9 (HBA.out w4 HB24.out)
  obtain ⟨z0, z1, z2, z3, z4, z5, z6, z7, z8⟩ := HBX.out w4 HB4.out
  go_wp2_with fail
  refine (HIS.out w4 HB14.out).mono ?_
  rintro e w5 ⟨rfl, hb5⟩
  have HB25 : Hid (Below w2.heap.size w2 w5) := below_call HB24.out HB24.out.size hb5
  have HB15 : Hid (Below w1.heap.size w1 w5) := below_call HB14.out HB14.out.size hb5
  have HB5 : Hid (Below w0.heap.size w0 w5) := below_call HB4.out HB4.out.size hb5
  clear hb5 y0 y1 y2 y3 y4 y5 y6 y7 y8 z0 z1 z2 z3 z4 z5 z6 z7 z8 HIS
  obtain ⟨z0, z1, z2, z3, z4, z5, z6, z7, z8⟩ := HBX.out w5 HB5.out
  go_wp2_with fail
  clear z0 z1 z2 z3 z4 z5 z6 z7 z8
  go_loopw [59] (fun i wr => ∃ k : Nat, i = .int .i64 k ∧ k ≤ nt1 ∧ Hid (Below w5.heap.size w5 wr)) (fun i _ => nt1 - (intOf i).toNat)
  case atStart => exact ⟨0, rfl, by omega, Below.refl _ _⟩
  case round =>
    obtain ⟨k, rfl, hk, HS⟩ := hrel
    have HB0r : Hid (Below w0.heap.size w0 wr) := below_call HB5.out HB5.out.size HS.out
    have HB2r : Hid (Below w2.heap.size w2 wr) := below_call HB25.out HB25.out.size HS.out
    have HB1r : Hid (Below w1.heap.size w1 wr) := below_call HB15.out HB15.out.size HS.out
    by_cases hlt : k < nt1
    · have hkl : k < lt.length := by rw [HLT.out]; exact hlt
      obtain ⟨a, rfl, c0, c1_, c2, c3, c4, c5, c6⟩ := trow_at (trow_below HRT.out (HUP.out wr HB0r.out)) hkl
      obtain ⟨hkl1, hea⟩ := HEA.out k hkl
      obtain ⟨t, ht⟩ : ∃ t, lt[k] = t := ⟨_, rfl⟩
      rw [ht] at c0 c1_ c2 c3 c4 c5 c6 hea
      obtain ⟨ti, to_, tk, tx, ty, tf, td⟩ := t
      unfold Trp.c Trp.go at hea
      simp only at c0 c1_ c2 c3 c4 c5 c6 hea
      obtain ⟨w6, hw6⟩ : ∃ w6, wr.alloc (.cells #[.int .i64 ti, .int .i64 to_, .int .i64 tk, .int .i64 tx, .int .i64 ty, .int .i64 tf, .int .i64 td] 41) = w6 := ⟨_, rfl⟩
      obtain ⟨G, hG⟩ : ∃ G, wr.heap.size = G := ⟨_, rfl⟩
      have hb6 : Below wr.heap.size wr w6 := by rw [← hw6]; exact alloc_below _ _
      have HBT : Hid (∀ V, Below w6.heap.size w6 V → d7 V G ti to_ tk tx ty tf td) := fun V hV => boxt hG hw6 hV
      have HB26 : Hid (Below w2.heap.size w2 w6) := below_call HB2r.out HB2r.out.size hb6
      have HB16 : Hid (Below w1.heap.size w1 w6) := below_call HB1r.out HB1r.out.size hb6
      have HB56 : Hid (Below w5.heap.size w5 w6) := below_call HS.out HS.out.size hb6
      have HB06 : Hid (Below w0.heap.size w0 w6) := below_call HB0r.out HB0r.out.size hb6
      obtain ⟨y0, y1, y2, y3, y4, y5, y6, y7, y8⟩ := bx9_c9 (HBA.out w6 HB26.out)
      clear y0 y1 y2 y3 y4 y5 y7 y8
      have l1 : (k : Int) < nt1 := by omega
      have l2 : (0 : Int) ≤ k := by omega
      obtain ⟨a1, ha1, x0, x1, x2, x3, x4, x5, x6⟩ := trow_at (trow_below HA.out.1.rt HB16.out) hkl1
      subst ha1
      rcases hea with ⟨he, hh⟩ | ⟨hh, ⟨cx, cy⟩, ⟨bx, by_⟩, hgo, hnx, he⟩
      · rw [he] at x0 x1 x2 x3 x4 x5 x6
        simp only at x0 x1 x2 x3 x4 x5 x6
        have HH : Hid (has ti gla = false) := hh
        obtain ⟨w8, hw8⟩ : ∃ w8, w6.alloc (.cells #[.int .i64 ti, .int .i64 to_, .int .i64 tk, .int .i64 tx, .int .i64 ty, .int .i64 tf, .int .i64 td] 41) = w8 := ⟨_, rfl⟩
        obtain ⟨G3, hG3⟩ : ∃ G3, w6.heap.size = G3 := ⟨_, rfl⟩
        have hb8 : Below w6.heap.size w6 w8 := by rw [← hw8]; exact alloc_below _ _
        have HB18 : Hid (Below w1.heap.size w1 w8) := below_call HB16.out HB16.out.size hb8
        have HB58 : Hid (Below w5.heap.size w5 w8) := below_call HB56.out HB56.out.size hb8
        obtain ⟨v0, v1, v2, v3, v4, v5, v6⟩ := boxt hG3 hw8 (Below.refl _ _)
        obtain ⟨u0, u1, u2, u3, u4, u5, u6⟩ := HBT.out w8 hb8
        clear hb8 hb6 he hh ht
        go_wp2_with fail
        refine (HCO.out ti false w8 HB18.out HH.out).mono ?_
        rintro e w' ⟨rfl, hw⟩; subst w'
        clear c0 c1_ c2 c3 c4 c5 c6 x0 x1 x2 x3 x4 x5 x6 y6 hw6 hw8 hG hG3
        go_wp2_with fail
        clear u0 u1 u2 u3 u4 u5 u6 v0 v1 v2 v3 v4 v5 v6
        go_roundw
        case rel => exact ⟨k + 1, by go_num, by omega, HB58.out⟩
        case measure => simp [intOf]; omega
      · rw [he] at x0 x1 x2 x3 x4 x5 x6
        simp only at x0 x1 x2 x3 x4 x5 x6
        have HH : Hid (has ti gla = true) := hh
        have HGO : Hid (gol bl ti = some ⟨bx, by_⟩) := hgo
        obtain ⟨⟨⟨P, Q, hP, hQ, hPQ, hP0, hP1, hQ0, hQ1⟩, hdx0, hdx1, hdy0, hdy1⟩, D, S, hS0, hS1, hR0, hR1, f1, f2, f3⟩ := nxs_far hnx
        simp only at hP hQ hdx0 hdx1 hdy0 hdy1
        obtain ⟨R, hR⟩ : ∃ R, D - S = R := ⟨_, rfl⟩
        obtain ⟨dx, hdx⟩ : ∃ dx, cx - tx = dx := ⟨_, rfl⟩
        obtain ⟨dy, hdy⟩ : ∃ dy, cy - ty = dy := ⟨_, rfl⟩
        rw [hR] at f2
        rw [hdx] at hP hdx0 hdx1
        rw [hdy] at hQ hdy0 hdy1
        have d1 : IntKind.i64.wrap (cx - tx) = dx := by rw [wrp (by omega) (by omega)]; exact hdx
        have d2 : IntKind.i64.wrap (cy - ty) = dy := by rw [wrp (by omega) (by omega)]; exact hdy
        have d3 : IntKind.i64.wrap (dx * dx) = P := by rw [hP]; exact wrp (by omega) (by omega)
        have d4 : IntKind.i64.wrap (dy * dy) = Q := by rw [hQ]; exact wrp (by omega) (by omega)
        have d5 : IntKind.i64.wrap (P + Q) = 1 := by rw [hPQ]; rfl
        have d6 : IntKind.i64.wrap (R + S) = D := by rw [wrp (by omega) (by omega)]; omega
        have HF1 : Hid (∀ V, Below w0.heap.size w0 V → Calls Try.prog 24 #[.agg #[.int .i64 A, .int .i64 B, .slice p n c], .agg #[.int .i64 tx, .int .i64 ty], .agg #[.int .i64 bx, .int .i64 by_]] V fun e w' => e = .returned (.tuple #[.int .i64 D, .int .i64 0]) ∧ Below V.heap.size V w') := fun V hV => HFAR.out tx ty bx by_ D V (HUP.out V hV) f1
        have HF2 : Hid (∀ V, Below w0.heap.size w0 V → Calls Try.prog 24 #[.agg #[.int .i64 A, .int .i64 B, .slice p n c], .agg #[.int .i64 cx, .int .i64 cy], .agg #[.int .i64 bx, .int .i64 by_]] V fun e w' => e = .returned (.tuple #[.int .i64 R, .int .i64 0]) ∧ Below V.heap.size V w') := fun V hV => HFAR.out cx cy bx by_ R V (HUP.out V hV) f2
        have HF3 : Hid (∀ V, Below w0.heap.size w0 V → Calls Try.prog 24 #[.agg #[.int .i64 A, .int .i64 B, .slice p n c], .agg #[.int .i64 tx, .int .i64 ty], .agg #[.int .i64 cx, .int .i64 cy]] V fun e w' => e = .returned (.tuple #[.int .i64 S, .int .i64 0]) ∧ Below V.heap.size V w') := fun V hV => HFAR.out tx ty cx cy S V (HUP.out V hV) f3
        clear hP hQ hPQ hP0 hP1 hQ0 hQ1 hdx0 hdx1 hdy0 hdy1 hS0 hS1 hR0 hR1 f1 f2 f3 hR hdx hdy hgo hnx
        obtain ⟨w8, hw8⟩ : ∃ w8, w6.alloc (.cells #[.int .i64 ti, .int .i64 to_, .int .i64 tk, .int .i64 cx, .int .i64 cy, .int .i64 tf, .int .i64 td] 41) = w8 := ⟨_, rfl⟩
        obtain ⟨G3, hG3⟩ : ∃ G3, w6.heap.size = G3 := ⟨_, rfl⟩
        have hb8 : Below w6.heap.size w6 w8 := by rw [← hw8]; exact alloc_below _ _
        have HB68 : Hid (Below w6.heap.size w6 w8) := hb8
        have HB18 : Hid (Below w1.heap.size w1 w8) := below_call HB16.out HB16.out.size hb8
        have HB58 : Hid (Below w5.heap.size w5 w8) := below_call HB56.out HB56.out.size hb8
        have HB08 : Hid (Below w0.heap.size w0 w8) := below_call HB06.out HB06.out.size hb8
        have HBY : Hid (∀ V, Below w8.heap.size w8 V → d7 V G3 ti to_ tk cx cy tf td) := fun V hV => boxt hG3 hw8 hV
        have hh8 : w8.heap[G3]? = some (.cells #[.int .i64 ti, .int .i64 to_, .int .i64 tk, .int .i64 cx, .int .i64 cy, .int .i64 tf, .int .i64 td] 41) := by rw [← hw8, ← hG3]; exact World.alloc_heap_new w6 _
        have HH8 : Hid (w8.heap[G3]? = some (.cells #[.int .i64 ti, .int .i64 to_, .int .i64 tk, .int .i64 cx, .int .i64 cy, .int .i64 tf, .int .i64 td] 41) ∧ G3 < w8.heap.size) := ⟨hh8, by rw [← hw8, ← hG3]; simp⟩
        have HG3 : Hid (w5.heap.size ≤ G3) := by unfold Hid; rw [← hG3]; exact HB56.out.size
        have hGne : ¬ G3 = G := by
          have h2 : G < w6.heap.size := cell_lt (HBT.out w6 (Below.refl _ _)).1
          omega
        have hGne2 : ¬ G = G3 := fun e => hGne e.symm
        obtain ⟨u0, u1, u2, u3, u4, u5, u6⟩ := HBT.out w8 hb8
        have HU0 : Hid (w8.cell? ⟨G, 0, none⟩ = some (.int .i64 ti)) := u0
        clear hb8 hb6 he hh ht hh8
        go_wp2_with fail
        refine (HCO.out ti true w8 HB18.out HH.out).mono ?_
        rintro e w' ⟨rfl, hw⟩; subst w'
        clear c0 c1_ c2 c3 c4 c5 c6 x0 x1 x2 x3 x4 x5 x6 y6 hw6 hw8 hG hG3 u0 u1 u2 u3 u4 u5 u6
        go_wp2_with fail
        refine (HIX.out ti G ⟨bx, by_⟩ w8 (HUP.out w8 HB08.out) HGO.out HU0.out).mono ?_
        rintro e w9 ⟨⟨j, hj, rfl, hjx, hjy⟩, hb9⟩
        have HB89 : Hid (Below w8.heap.size w8 w9) := hb9
        have HB09 : Hid (Below w0.heap.size w0 w9) := below_call HB08.out HB08.out.size hb9
        obtain ⟨q, gi, gx, gy, hpl, hbj, q0, q1, q2⟩ := gor_cl (gor_below HCR.out (HUP.out w9 HB09.out)) hj
        subst hpl
        rw [hbj] at hjx hjy
        simp only at hjx hjy
        subst hjx hjy
        have l3 : (j : Int) < nl := by have h1 := HNL.out; omega
        have l4 : (0 : Int) ≤ j := by omega
        obtain ⟨z0, z1, z2, z3, z4, z5, z6, z7, z8⟩ := HBX.out w9 HB09.out
        clear hb9 hbj q0 z3 z4 z5 z6 z7 z8
        obtain ⟨u0, u1, u2, u3, u4, u5, u6⟩ := HBT.out w9 (below_call HB68.out HB68.out.size HB89.out)
        have HQ : Hid (w9.cell? ⟨(q.add (j * 3)).block, (q.add (j * 3)).off + 1, none⟩ = some (.int .i64 gx) ∧ w9.cell? ⟨(q.add (j * 3)).block, (q.add (j * 3)).off + 2, none⟩ = some (.int .i64 gy)) := ⟨q1, q2⟩
        go_wp2_with fail
        go_region_held3 (fun V => Below w9.heap.size w9 V ∧ V.cell? ⟨F, 0, none⟩ = some (.int .i64 A) ∧ V.cell? ⟨F, 1, none⟩ = some (.int .i64 B) ∧ V.cell? ⟨F, 2, none⟩ = some (.slice p n c) ∧ V.cell? ⟨G, 3, none⟩ = some (.int .i64 tx) ∧ V.cell? ⟨G, 4, none⟩ = some (.int .i64 ty) ∧ V.cell? ⟨(q.add (j * 3)).block, (q.add (j * 3)).off + 1, none⟩ = some (.int .i64 gx) ∧ V.cell? ⟨(q.add (j * 3)).block, (q.add (j * 3)).off + 2, none⟩ = some (.int .i64 gy)) (first | with_reducible assumption | with_reducible exact k7_drew (by assumption) | with_reducible exact k7_drewN (by assumption) _ | with_reducible exact k7_call (by assumption) (by assumption) | exact ⟨Below.drew (Below.refl _ _), z0, z1, z2, u3, u4, q1, q2⟩) (first
            | (go_at_call 24; with_reducible refine (HF1.out _ (below_call HB09.out HB09.out.size (And.left (by assumption)))).mono ?_; rintro e w10 ⟨rfl, hb10⟩))
        have hb10' : Below w9.heap.size w9 w10 := (Below.refl _ _).drew.trans hb10
        have HB010 : Hid (Below w0.heap.size w0 w10) := below_call HB09.out HB09.out.size hb10'
        have HB810 : Hid (Below w8.heap.size w8 w10) := below_call HB89.out HB89.out.size hb10'
        have HQ10 : Hid (w10.cell? ⟨(q.add (j * 3)).block, (q.add (j * 3)).off + 1, none⟩ = some (.int .i64 gx) ∧ w10.cell? ⟨(q.add (j * 3)).block, (q.add (j * 3)).off + 2, none⟩ = some (.int .i64 gy)) := ⟨cell_call hb10' HQ.out.1, cell_call hb10' HQ.out.2⟩
        clear hb10 hb10' q1 q2 z0 z1 z2 u0 u1 u2 u3 u4 u5 u6 HF1 HQ
        obtain ⟨q1, q2⟩ := HQ10.out
        obtain ⟨z0, z1, z2, z3, z4, z5, z6, z7, z8⟩ := HBX.out w10 HB010.out
        obtain ⟨v0, v1, v2, v3, v4, v5, v6⟩ := HBY.out w10 HB810.out
        clear z3 z4 z5 z6 z7 z8
        go_wp2_with fail
        go_region_held3 (fun V => Below w10.heap.size w10 V ∧ V.cell? ⟨F, 0, none⟩ = some (.int .i64 A) ∧ V.cell? ⟨F, 1, none⟩ = some (.int .i64 B) ∧ V.cell? ⟨F, 2, none⟩ = some (.slice p n c) ∧ V.cell? ⟨G3, 3, none⟩ = some (.int .i64 cx) ∧ V.cell? ⟨G3, 4, none⟩ = some (.int .i64 cy) ∧ V.cell? ⟨(q.add (j * 3)).block, (q.add (j * 3)).off + 1, none⟩ = some (.int .i64 gx) ∧ V.cell? ⟨(q.add (j * 3)).block, (q.add (j * 3)).off + 2, none⟩ = some (.int .i64 gy)) (first | with_reducible assumption | with_reducible exact k7_drew (by assumption) | with_reducible exact k7_drewN (by assumption) _ | with_reducible exact k7_call (by assumption) (by assumption) | exact ⟨Below.drew (Below.refl _ _), z0, z1, z2, v3, v4, q1, q2⟩) (first
            | (go_at_call 24; with_reducible refine (HF2.out _ (below_call HB010.out HB010.out.size (And.left (by assumption)))).mono ?_; rintro e w11 ⟨rfl, hb11⟩))
        have hb11' : Below w10.heap.size w10 w11 := (Below.refl _ _).drew.trans hb11
        have HB011 : Hid (Below w0.heap.size w0 w11) := below_call HB010.out HB010.out.size hb11'
        have HB811 : Hid (Below w8.heap.size w8 w11) := below_call HB810.out HB810.out.size hb11'
        clear hb11 hb11' q1 q2 z0 z1 z2 v0 v1 v2 v3 v4 v5 v6 HF2 HQ10
        obtain ⟨z0, z1, z2, z3, z4, z5, z6, z7, z8⟩ := HBX.out w11 HB011.out
        obtain ⟨v0, v1, v2, v3, v4, v5, v6⟩ := HBY.out w11 HB811.out
        obtain ⟨u0, u1, u2, u3, u4, u5, u6⟩ := HBT.out w11 (below_call HB68.out HB68.out.size HB811.out)
        clear z3 z4 z5 z6 z7 z8 v0 v1 v2 v5 v6 u0 u1 u2 u5 u6
        go_wp2_with fail
        refine (HF3.out w11 HB011.out).mono ?_
        rintro e w12 ⟨rfl, hb12⟩
        have HB812 : Hid (Below w8.heap.size w8 w12) := below_call HB811.out HB811.out.size hb12
        clear hb12 z0 z1 z2 v3 v4 u3 u4 HF3
        obtain ⟨v0, v1, v2, v3, v4, v5, v6⟩ := HBY.out w12 HB812.out
        obtain ⟨u0, u1, u2, u3, u4, u5, u6⟩ := HBT.out w12 (below_call HB68.out HB68.out.size HB812.out)
        have hh12 : w12.heap[G3]? = some (.cells #[.int .i64 ti, .int .i64 to_, .int .i64 tk, .int .i64 cx, .int .i64 cy, .int .i64 tf, .int .i64 td] 41) := (HB812.out.block _ HH8.out.2).trans HH8.out.1
        have fz3 : w12.frozen? ⟨G3, 3, none⟩ = false := by simp [World.frozen?, hh12]
        have fz4 : w12.frozen? ⟨G3, 4, none⟩ = false := by simp [World.frozen?, hh12]
        have HBE : Hid (Below w5.heap.size w5 w12) := below_call HB58.out HB58.out.size HB812.out
        clear hh12
        go_wp2_with fail
        go_quiet (fail)
        go_wp2_with fail
        go_roundw
        case rel => exact ⟨k + 1, by go_num, by omega, ((below_drewN HBE.out _).setCell HG3.out _).setCell HG3.out _⟩
        case measure => simp [intOf]; omega
    · have hkn : k = nt1 := by omega
      subst hkn
      obtain ⟨z0, z1, z2, z3, z4, z5, z6, z7, z8⟩ := HBX.out wr HB0r.out
      have hxr := HBA.out wr HB2r.out
      obtain ⟨y0, y1, y2, y3, y4, y5, y6, y7, y8⟩ := bx9_c9 hxr
      have fz6 := bx9_free hxr 6
      have hG1F : ¬ G1 = F := by have h1 := HG1.out; have h2 : F < w0.heap.size := cell_lt (HBX.out w0 (Below.refl _ _)).1; omega
      have hFG1 : ¬ F = G1 := fun e => hG1F e.symm
      obtain ⟨w6, hw6⟩ : ∃ w6, wr.setCell ⟨G1, 6, none⟩ (.slice pt k ct) = w6 := ⟨_, rfl⟩
      have hB6 : Below w0.heap.size w0 w6 := by rw [← hw6]; exact HB0r.out.setCell HG1.out _
      have hx6 : Ex (fun g => g = G1) wr w6 := by rw [← hw6]; exact Ex.set (S := fun g => g = G1) wr ⟨G1, 6, none⟩ rfl _
      have hB1 : Below w1.heap.size w1 w6 := by
        have hq : w1.heap.size ≤ G1 := HG11.out
        exact HB1r.out.trans (hx6.below HB1r.out.size (fun j hj e => by omega))
      have hfs := HF0.out w6 (HUP.out w6 hB6)
      have hfa := Wld.fit_below HA.out.1 hB1
      have HSW : Hid (Calls Try.prog 16 #[_, _] w6 fun e w' => e = .returned (.bool true) ∧ Below w6.heap.size w6 w') := SameWorld_yes ⟨A1, B1, p1, n1, c1, l1_, pb1, nb1, cb1, lb1, ps1, ns1, cs1, ls1, pm1, nm1, cm1, lm1, pt, k, ct, lt, N1, T1⟩ ⟨A, B, p, n, c, l, pb, nb, cb, lb, ps, ns, cs, ls, pm, nm, cm, lm, pt, k, ct, lt, N, T⟩ w6 { hfa with rt := hfs.rt, xt := hfs.xt, ht := hfs.ht, mt := hfs.mt, zt := hfs.zt, kt := hfs.kt } hfs (by
        obtain ⟨x1, x2, _, x3, _, x4, _, x5, _, x6, x7, x8⟩ := HLK.out
        exact ⟨x1, x2, x3, x4, x5, x6, rfl, x7, x8⟩)
      have HBE : Hid (Below w.heap.size w w6) := HUP.out w6 hB6
      unfold Wld.val at HSW
      dsimp only at HSW
      have HW6 : Hid (wr.setCell ⟨G1, 6, none⟩ (.slice pt k ct) = w6) := hw6
      clear hfs hfa hB6 hx6 hB1 hxr hw6
      go_wp2_with fail
      rw [HW6.out]
      refine Calls.mono HSW.out ?_
      rintro e w7 ⟨rfl, hb7⟩
      have HB7 : Hid (Below w.heap.size w w7) := below_call HBE.out HBE.out.size hb7
      clear hb7
      go_wp2_with fail
      go_ret
      exact ⟨rfl, HB7.out⟩

set_option maxRecDepth 100000 in
theorem lifted (os : Os) (started : os.Started) (H : Type) (enc : TypeId × Value → H) :
    ReturnsInHanded {} Try.checked os 4 .any (Rows.marchRightSpec.pre6 enc Try.prog Try.f4 Rows.marchRightRow.domain false) (Rows.marchRightSpec.post enc Try.prog Try.f4 false true false false) := by
  refine returnsInHanded_of_change_sized (C := Try.checked) own started (by kernel_rfl) Try.func4
    (ChangeSpec.witness6 (enc := enc) (C := Try.checked) false ⟨#[], #[.agg #[.int .i64 0, .int .i64 0, .slice none 0 0, .slice none 0 0, .slice none 0 0, .slice none 0 0, .slice none 0 0, .int .i64 0, .int .i64 0], .slice none 0 0], []⟩ 8 (by kernel_rfl) (by kernel_rfl) (by kernel_rfl) (by kernel_rfl)) ?_
  intro W base args ds gs before hval0 hW hcnd hsz _
  have hval : ∀ (j : Nat) t v, Try.f4.params[j]? = some t → args[j]? = some v → Value.okWide Try.prog W .any base t v := hval0
  have hW' := hW
  obtain ⟨p, q, hA0, hV, rfl, hfz, hnd⟩ := hW
  have hA : DataW.TrodAll enc Try.prog W 0 (fun _ => true) true Try.f4.params.toList args.toList ds p := hA0
  rw [Try.params4] at hA hval
  obtain ⟨v0, vs0, d0, ds0, p0, q0, hargs, rfl, rfl, h0, r0⟩ := trodAll_cons hA
  obtain ⟨v1, vs1, d1, ds1, p1, q1, rfl, rfl, rfl, h1, r1⟩ := trodAll_cons r0
  obtain ⟨rfl, rfl, rfl⟩ := trodAll_nil r1
  obtain rfl : args = #[v0, v1] := by cases args; simp_all
  obtain ⟨rfl, rfl⟩ := trodVars_none hV
  obtain ⟨s0, rfl, k0⟩ := open_wld (hval 0 28 v0 rfl rfl) h0
  obtain ⟨s1, rfl, k1, t1⟩ := open_gst (hval 1 29 v1 rfl rfl) h1
  have hs1 : s1.l.length * 24 ≤ 140737488351232 := told_sized hsz (j := 1) rfl rfl Try.underlying29 (by kernel_rfl) t1
  clear hA0 hval0
  refine (walk s0 s1  W k0 k1 hs1).mono fun e W' ⟨he, hg⟩ => ?_
  subst he
  exact ⟨_, rfl, law_post (by kernel_rfl) (by kernel_rfl) rfl (by kernel_rfl) Try.underlying4 hW' rfl hg⟩

theorem over : Rows.marchRightRow.holds Try.pinned (OpenSpec.ofChange Rows.marchRightSpec) :=
  OpenClaim.holds_of_wide 4 Try.f4 rfl rfl rfl rfl rfl rfl rfl ⟨rfl, rfl, rfl, rfl, rfl⟩ rfl rfl rfl rfl rfl (by kernel_rfl) Try.func4 (by kernel_rfl)
    (of_decide_eq_true (by kernel_rfl)) (by unfold Func.isWrapper; first | (rw [if_pos (by decide +kernel)]; kernel_rfl) | (rw [if_neg (by decide +kernel)]; exact ⟨rfl, rfl⟩))
    (fun os started H enc _ => lifted os started H enc)

theorem proved : Rows.MarchRightSaid :=
  over
end Go.Proofs.Ytnbbfnlfcncgnaa.marchRight

namespace Go.Proofs.Ytnbbfnlfcncgnaa
/-- a right world is right behind a step -/
theorem marchRight_holds : Rows.MarchRightSaid := marchRight.proved
#print axioms marchRight_holds
end Go.Proofs.Ytnbbfnlfcncgnaa
