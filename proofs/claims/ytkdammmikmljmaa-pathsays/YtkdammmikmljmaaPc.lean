/- What path.check and reachOf return. -/
import Derived.Test.YtkdammmikmljmaaAh
import Derived.Test.YtkdammmikmljmaaCm
namespace Go.Proofs.Ytkdammmikmljmaa
open Go.RowKit
set_option linter.unusedVariables false

/-- Which error At is of, and which sort it tells. -/
def ate (A B : Int) (l : List Int) (c : Cel) : Int := if ck A B l ≠ 0 then ck A B l else if inb A.toNat B.toNat c.x c.y = false then 7 else 0
def atz (A B : Int) (l : List Int) (c : Cel) : Int := if ate A B l c ≠ 0 then 0 else pa l (ixc A.toNat c)
theorem At_any (A B : Int) (p : Option Addr) (n c : Nat) (l : List Int) (X Y Z E : Int) (w : World) (hr : row vi w p l) (hn : l.length = n) (hm : n ≤ 9223372036854775807) (hZ : Hid (atz A B l ⟨X, Y⟩ = Z)) (hE : Hid (ate A B l ⟨X, Y⟩ = E)) :
    Calls Try.prog 13 #[.agg #[.int .i64 A, .int .i64 B, .slice p n c], .agg #[.int .i64 X, .int .i64 Y]] w fun e w' => e = .returned (.tuple #[.int .i64 Z, .int .i64 E]) ∧ Below w.heap.size w w' := by
  have hZ := hZ.out
  have hE := hE.out
  by_cases h0 : ck A B l = 0
  · obtain ⟨W, H, rfl, rfl, hW, hH, hl, hg⟩ := ck_yes h0
    have h1 : 1 ≤ l.length := by rw [hl]; exact one_le hW hH
    obtain ⟨a, rfl⟩ := row_some hr (by omega)
    rw [hl] at hn
    subst hn
    cases hin : inb W H X Y with
    | false =>
      have e1 : ate W H l ⟨X, Y⟩ = 7 := by unfold ate; rw [if_neg (by simp [h0])]; simp [hin]
      have e2 : atz W H l ⟨X, Y⟩ = 0 := by unfold atz; rw [if_pos (by rw [e1]; decide)]
      rw [← hZ, ← hE, e1, e2]
      exact At_out W H (some a) (W * H) c l X Y w hr hl hm h0 (by unfold inb at hin; simp at hin; omega)
    | true =>
      obtain ⟨x', y', rfl, rfl, hx', hy'⟩ := inb_nat hin
      have e1 : ate W H l ⟨x', y'⟩ = 0 := by unfold ate; rw [if_neg (by simp [h0])]; simp [hin]
      have e2 : atz W H l ⟨x', y'⟩ = pa l (y' * W + x') := by unfold atz; rw [if_neg (by rw [e1]; decide)]; simp [ixc]
      rw [← hZ, ← hE, e1, e2]
      exact At_in W H a c l x' y' _ w hr hW hH hl hg hx' hy' rfl
  · have e1 : ate A B l ⟨X, Y⟩ = ck A B l := by unfold ate; rw [if_pos h0]
    have e2 : atz A B l ⟨X, Y⟩ = 0 := by unfold atz; rw [if_pos (by rw [e1]; exact h0)]
    rw [← hZ, ← hE, e1, e2]
    exact At_no A B p n c l X Y _ w hr hn hm rfl h0
/-- Which error two cells of a field are of. -/
def per (A B : Int) (l : List Int) (a b : Cel) : Int := if ate A B l a ≠ 0 then ate A B l a else if ate A B l b ≠ 0 then ate A B l b else if atz A B l a = 1 ∨ atz A B l b = 1 then 9 else 0
theorem boxf {w w0 V : World} {a b c d e f g : Value} {t t2 t3 : TypeId} {F : Nat} (hF : w.heap.size = F) (hw : ((w.alloc (.cells #[a, b, c] t)).alloc (.cells #[d, e] t2)).alloc (.cells #[f, g] t3) = w0) (hb : Below w0.heap.size w0 V) :
    V.cell? ⟨F, 0, none⟩ = some a ∧ V.cell? ⟨F, 1, none⟩ = some b ∧ V.cell? ⟨F, 2, none⟩ = some c ∧ V.cell? ⟨F + 1, 0, none⟩ = some d ∧ V.cell? ⟨F + 1, 1, none⟩ = some e ∧ V.cell? ⟨F + 2, 0, none⟩ = some f ∧ V.cell? ⟨F + 2, 1, none⟩ = some g := by
  subst hw hF
  refine ⟨?_, ?_, ?_, ?_, ?_, ?_, ?_⟩
  all_goals
    rw [hb.cell (by simp <;> omega)]
    simp [go_sem]
set_option maxRecDepth 20000 in
set_option maxHeartbeats 1000000 in
theorem pcheck_any (A B : Int) (p : Option Addr) (n c : Nat) (l : List Int) (ax ay bx by_ E : Int) (w : World) (hr : row vi w p l) (hn : l.length = n) (hm : n ≤ 9223372036854775807) (hE : Hid (per A B l ⟨ax, ay⟩ ⟨bx, by_⟩ = E)) :
    Calls Try.prog 37 #[.agg #[.int .i64 A, .int .i64 B, .slice p n c], .agg #[.int .i64 ax, .int .i64 ay], .agg #[.int .i64 bx, .int .i64 by_]] w fun e w' => e = .returned (.int .i64 E) ∧ Below w.heap.size w w' := by
  obtain ⟨F, hF⟩ : ∃ F, w.heap.size = F := ⟨_, rfl⟩
  obtain ⟨w0, hw0⟩ : ∃ w0, ((w.alloc (.cells #[.int .i64 A, .int .i64 B, .slice p n c] 24)).alloc (.cells #[.int .i64 ax, .int .i64 ay] 26)).alloc (.cells #[.int .i64 bx, .int .i64 by_] 26) = w0 := ⟨_, rfl⟩
  have hB0 : Below w.heap.size w w0 := by rw [← hw0]; exact ((alloc_below w _).alloc (by simp) _).alloc (by simp; omega) _
  have HB0 : Hid (Below w.heap.size w w0) := hB0
  have HBX : Hid (∀ V, Below w0.heap.size w0 V → V.cell? ⟨F, 0, none⟩ = some (.int .i64 A) ∧ V.cell? ⟨F, 1, none⟩ = some (.int .i64 B) ∧ V.cell? ⟨F, 2, none⟩ = some (.slice p n c) ∧ V.cell? ⟨F + 1, 0, none⟩ = some (.int .i64 ax) ∧ V.cell? ⟨F + 1, 1, none⟩ = some (.int .i64 ay) ∧ V.cell? ⟨F + 2, 0, none⟩ = some (.int .i64 bx) ∧ V.cell? ⟨F + 2, 1, none⟩ = some (.int .i64 by_)) := fun V hV => boxf hF hw0 hV
  obtain ⟨z0, z1, z2, z3, z4, z5, z6⟩ := HBX.out w0 (Below.refl _ _)
  have HR : Hid (row vi w0 p l) := row_below hr hB0
  have HN : Hid (l.length = n) := hn
  obtain ⟨E1, hE1⟩ : ∃ x, ate A B l ⟨ax, ay⟩ = x := ⟨_, rfl⟩
  obtain ⟨E2, hE2⟩ : ∃ x, ate A B l ⟨bx, by_⟩ = x := ⟨_, rfl⟩
  obtain ⟨Z1, hZ1⟩ : ∃ x, atz A B l ⟨ax, ay⟩ = x := ⟨_, rfl⟩
  obtain ⟨Z2, hZ2⟩ : ∃ x, atz A B l ⟨bx, by_⟩ = x := ⟨_, rfl⟩
  have HE1 : Hid (ate A B l ⟨ax, ay⟩ = E1) := hE1
  have HE2 : Hid (ate A B l ⟨bx, by_⟩ = E2) := hE2
  have HZ1 : Hid (atz A B l ⟨ax, ay⟩ = Z1) := hZ1
  have HZ2 : Hid (atz A B l ⟨bx, by_⟩ = Z2) := hZ2
  have HP : Hid (E = if E1 ≠ 0 then E1 else if E2 ≠ 0 then E2 else if Z1 = 1 ∨ Z2 = 1 then 9 else 0) := by
    unfold Hid; rw [← hE.out]; unfold per; rw [hE1, hE2, hZ1, hZ2]
  clear hr hn hB0 hE1 hE2 hZ1 hZ2 hE
  go_enter Try.func37, Try.ntmps37
  go_wp2_with fail
  refine (At_any A B p n c l ax ay Z1 E1 w0 HR.out HN.out hm HZ1 HE1).mono ?_
  rintro e w1 ⟨rfl, hb1⟩
  have HB1 : Hid (Below w0.heap.size w0 w1) := hb1
  obtain ⟨y0, y1, y2, y3, y4, y5, y6⟩ := HBX.out w1 hb1
  clear hb1 z0 z1 z2 z3 z4 z5 z6 hw0
  by_cases h1 : E1 = 0
  · subst h1
    go_wp2_with fail
    refine (At_any A B p n c l bx by_ Z2 E2 w1 (row_below HR.out HB1.out) HN.out hm HZ2 HE2).mono ?_
    rintro e w2 ⟨rfl, hb2⟩
    have HB2 : Hid (Below w.heap.size w w2) := HB0.out.trans ((HB1.out.trans (hb2.mono HB1.out.size)).mono HB0.out.size)
    clear hb2 y0 y1 y2 y3 y4 y5 y6
    by_cases h2 : E2 = 0
    · subst h2
      by_cases h3 : Z1 = 1
      · subst h3
        have HQ : Hid (E = 9) := by unfold Hid; rw [HP.out]; simp
        go_wp2_with fail
        go_ret
        exact ⟨by rw [HQ.out]; rfl, HB2.out⟩
      · have d3 : (Z1 == 1) = false := by simp [h3]
        by_cases h4 : Z2 = 1
        · subst h4
          have HQ : Hid (E = 9) := by unfold Hid; rw [HP.out]; simp
          go_wp2_with fail
          go_ret
          exact ⟨by rw [HQ.out]; rfl, HB2.out⟩
        · have d4 : (Z2 == 1) = false := by simp [h4]
          have HQ : Hid (E = 0) := by unfold Hid; rw [HP.out]; simp [h3, h4]
          go_wp2_with fail
          go_ret
          exact ⟨by rw [HQ.out]; rfl, HB2.out⟩
    · have d2 : (E2 == 0) = false := by simp [h2]
      have HQ : Hid (E = E2) := by unfold Hid; rw [HP.out]; simp [h2]
      go_wp2_with fail
      go_ret
      exact ⟨by rw [HQ.out]; rfl, HB2.out⟩
  · have d1 : (E1 == 0) = false := by simp [h1]
    have HQ : Hid (E = E1) := by unfold Hid; rw [HP.out]; simp [h1]
    go_wp2_with fail
    go_ret
    exact ⟨by rw [HQ.out]; rfl, HB0.out.trans (HB1.out.mono HB0.out.size)⟩

/-- Both cells are right, and so far it is from the first one. -/
def good (A B : Int) (l : List Int) (a b : Cel) (W H : Nat) (far : List Int) : Prop :=
  A = W ∧ B = H ∧ okf W H l ∧ inf W H a ∧ inf W H b ∧ pa l (ixc W a) ≠ 1 ∧ pa l (ixc W b) ≠ 1 ∧ Sol W H l (fst_ W [a]) far
/-- Which error Far is of. -/
def rerr (A B : Int) (l : List Int) (a b : Cel) (E : Int) : Prop := (per A B l a b ≠ 0 ∧ E = per A B l a b) ∨ (E = 6 ∧ ∃ W H far, good A B l a b W H far ∧ pa far (ixc W b) < 0)
theorem ate_zero {A B : Int} {l : List Int} {c : Cel} (h : ate A B l c = 0) : ∃ W H : Nat, A = W ∧ B = H ∧ okf W H l ∧ inf W H c ∧ atz A B l c = pa l (ixc W c) := by
  unfold ate at h
  split at h
  · exact absurd h (by assumption)
  · have h0 : ck A B l = 0 := by simp_all
    obtain ⟨W, H, rfl, rfl, hW, hH, hl, hg⟩ := ck_yes h0
    split at h
    · cases h
    · have hin : inb W H c.x c.y = true := by simp_all
      refine ⟨W, H, rfl, rfl, ⟨hW, hH, hl, hg⟩, inf_inb.1 hin, ?_⟩
      unfold atz ate
      rw [if_neg (by simp [h0, hin])]; rfl
theorem per_zero {A B : Int} {l : List Int} {a b : Cel} (h : per A B l a b = 0) : ∃ W H : Nat, A = W ∧ B = H ∧ okf W H l ∧ inf W H a ∧ inf W H b ∧ pa l (ixc W a) ≠ 1 ∧ pa l (ixc W b) ≠ 1 := by
  unfold per at h
  split at h
  · exact absurd h (by assumption)
  · split at h
    · exact absurd h (by assumption)
    · split at h
      · cases h
      · rename_i h1 h2 h3
        obtain ⟨W, H, rfl, rfl, h4, h5, h6⟩ := ate_zero (c := a) (by simpa using h1)
        obtain ⟨W', H', e1, e2, _, h7, h8⟩ := ate_zero (A := W) (B := H) (c := b) (by simpa using h2)
        have e1 : W' = W := by omega
        have e2 : H' = H := by omega
        subst e1 e2
        rw [h6, h8] at h3
        exact ⟨W', H', rfl, rfl, h4, h5, h7, fun e => h3 (.inl e), fun e => h3 (.inr e)⟩
theorem cke_one {W H : Nat} {l : List Int} {a : Cel} (h : inf W H a) (hr : pa l (ixc W a) ≠ 1) : cke W H l [a] = 0 := by
  unfold cke
  rw [if_neg (by rw [inf_inb.2 h]; decide), if_neg (by exact hr)]; rfl
end Go.Proofs.Ytkdammmikmljmaa
