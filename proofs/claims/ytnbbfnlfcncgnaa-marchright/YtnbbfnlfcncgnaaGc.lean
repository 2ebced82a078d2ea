/- What slices.IndexFunc and ContainsFunc return of goes, with a closure; what the closures return. -/
import Derived.Test.YtnbbfnlfcncgnaaMb
import Derived.Test.YtnbbfnlfcncgnaaGm
import Derived.Laws.EntriesVeiled
namespace Go.Proofs.Ytnbbfnlfcncgnaa
open Go.RowKit
set_option linter.unusedVariables false

theorem gor_cl {w : World} {p : Option Addr} {cs : List Goe} (h : gor w p cs) {k : Nat} (hk : k < cs.length) : ∃ a i x y, p = some a ∧ cs[k] = ⟨i, x, y⟩ ∧ w.cell? (a.add (k * 3)) = some (.int .i64 i) ∧ w.cell? ⟨(a.add (k * 3)).block, (a.add (k * 3)).off + 1, none⟩ = some (.int .i64 x) ∧ w.cell? ⟨(a.add (k * 3)).block, (a.add (k * 3)).off + 2, none⟩ = some (.int .i64 y) := by
  obtain ⟨a, ha, h1, h2, h3⟩ := gor_at h hk
  exact ⟨a, cs[k].i, cs[k].x, cs[k].y, ha, rfl, h1, h2, h3⟩
/-- The place of the first blow of which P is true, or -1. -/
def gfirst (P : Goe → Bool) (L : List Goe) (r : Int) : Prop := (r = -1 ∧ ∀ c ∈ L, P c = false) ∨ ∃ i, ∃ hi : i < L.length, r = (i : Int) ∧ (∀ c ∈ L.take i, P c = false) ∧ P L[i] = true
theorem gfirst_any {P : Goe → Bool} {L : List Goe} {r : Int} (h : gfirst P L r) : decide (0 ≤ r) = L.any P := by
  rcases h with ⟨rfl, h⟩ | ⟨i, hi, rfl, _, h⟩
  · have : L.any P = false := List.any_eq_false.2 fun c hc => by rw [h c hc]; simp
    rw [this]; rfl
  · have : L.any P = true := List.any_eq_true.2 ⟨L[i], List.getElem_mem hi, h⟩
    rw [this]; simp
theorem gfirst_find {P : Goe → Bool} {L : List Goe} {r : Int} (h : gfirst P L r) : (r = -1 ∧ L.find? P = none) ∨ ∃ i, ∃ hi : i < L.length, r = (i : Int) ∧ L.find? P = some L[i] := by
  rcases h with ⟨rfl, h⟩ | ⟨i, hi, rfl, h1, h2⟩
  · exact .inl ⟨rfl, List.find?_eq_none.2 fun c hc => by rw [h c hc]; simp⟩
  · refine .inr ⟨i, hi, rfl, ?_⟩
    have e : L = L.take i ++ L[i] :: L.drop (i + 1) := by rw [← List.drop_eq_getElem_cons hi, List.take_append_drop]
    have h3 : (L.take i).find? P = none := List.find?_eq_none.2 fun c hc => by rw [h1 c hc]; simp
    conv => lhs; rw [e]
    rw [List.find?_append, h3]
    simp [List.find?, h2]

set_option maxRecDepth 20000 in
set_option maxHeartbeats 2000000 in
theorem IndexFuncg1 {f : Nat} (hen : ∀ (args : Array Value) (w : World), (callFunc f args).run Try.prog w = .ok (.enter f args) w) (k0 : Value) (P : Goe → Bool) (p : Option Addr) (n c : Nat) (L : List Goe) (w : World) (h1 : gor w p L) (hn : L.length = n) (hm : n ≤ 9223372036854775807)
    (hf : Hid (∀ V i x y, Below w.heap.size w V → (⟨i, x, y⟩ : Goe) ∈ L → Calls Try.prog f #[.agg #[.int .i64 i, .int .i64 x, .int .i64 y], k0] V fun e w' => e = .returned (.bool (P ⟨i, x, y⟩)) ∧ Below V.heap.size V w')) :
    Calls Try.prog 22 #[.slice p n c, .func (.func f) #[] #[k0]] w fun e w' => (∃ r : Int, e = .returned (.int .i64 r) ∧ gfirst P L r) ∧ Below w.heap.size w w' := by
  have H1 : Hid (gor w p L) := h1
  have HN : Hid (L.length = n) := hn
  clear h1 hn
  go_enter Try.func22, Try.ntmps22
  go_wp2_with fail
  go_loopw [8] (fun u wr => ∃ k : Nat, u = .int .i64 k ∧ k ≤ n ∧ Hid (Below w.heap.size w wr ∧ ∀ c ∈ L.take k, P c = false)) (fun u _ => n - (intOf u).toNat)
  case atStart => exact ⟨0, rfl, by omega, Below.refl _ _, by simp⟩
  case round =>
    obtain ⟨k, rfl, hk, HK⟩ := hrel
    by_cases hlt : k < n
    · have hkl : k < L.length := by rw [HN.out]; exact hlt
      obtain ⟨a, i, x, y, rfl, hbk, q0, q1, q2⟩ := gor_cl (gor_below H1.out HK.out.1) hkl
      have hcall := hf.out wr i x y HK.out.1 (by rw [← hbk]; exact List.getElem_mem hkl)
      obtain ⟨b, hb⟩ : ∃ b, P ⟨i, x, y⟩ = b := ⟨_, rfl⟩
      rw [hb] at hcall
      have HCALL : Hid (Calls Try.prog f #[.agg #[.int .i64 i, .int .i64 x, .int .i64 y], k0] wr fun e w' => e = .returned (.bool b) ∧ Below wr.heap.size wr w') := hcall
      have HY : Hid (b = true → gfirst P L k) := fun h => .inr ⟨k, hkl, rfl, HK.out.2, by rw [hbk, hb]; exact h⟩
      have HNX : Hid (b = false → ∀ c ∈ L.take (k + 1), P c = false) := fun h c hc => by
        rw [List.take_succ_eq_append_getElem hkl, List.mem_append, List.mem_singleton] at hc
        rcases hc with hc | hc
        · exact HK.out.2 c hc
        · rw [hc, hbk, hb]; exact h
      have l1 : (k : Int) < n := by omega
      have l2 : (0 : Int) ≤ k := by omega
      clear hcall hb hbk hkl
      go_wp2_with fail
      refine Calls.mono HCALL.out ?_
      rintro e w2 ⟨rfl, hb2⟩
      have HB2 : Hid (Below w.heap.size w w2) := below_call HK.out.1 HK.out.1.size hb2
      clear hb2 q0 q1 q2 HCALL
      cases b with
      | true =>
        have HR : Hid (gfirst P L k) := HY.out rfl
        go_wp2_with fail
        go_ret
        exact ⟨⟨_, rfl, HR.out⟩, HB2.out⟩
      | false =>
        have HR : Hid (∀ c ∈ L.take (k + 1), P c = false) := HNX.out rfl
        go_wp2_with fail
        go_roundw
        case rel => exact ⟨k + 1, by go_num, by omega, HB2.out, HR.out⟩
        case measure => simp [intOf]; omega
    · have HE : Hid (gfirst P L (-1)) := by
        refine .inl ⟨rfl, fun t ht => HK.out.2 t ?_⟩
        rw [List.take_of_length_le (by rw [HN.out]; omega)]; exact ht
      go_wp2_with fail
      go_ret
      exact ⟨⟨_, rfl, HE.out⟩, HK.out.1⟩
set_option maxRecDepth 20000 in
theorem ContainsFuncg1 {f : Nat} (hen : ∀ (args : Array Value) (w : World), (callFunc f args).run Try.prog w = .ok (.enter f args) w) (k0 : Value) (P : Goe → Bool) (p : Option Addr) (n c : Nat) (L : List Goe) (b : Bool) (w : World) (h1 : gor w p L) (hn : L.length = n) (hm : n ≤ 9223372036854775807) (hb : Hid (L.any P = b))
    (hf : Hid (∀ V i x y, Below w.heap.size w V → (⟨i, x, y⟩ : Goe) ∈ L → Calls Try.prog f #[.agg #[.int .i64 i, .int .i64 x, .int .i64 y], k0] V fun e w' => e = .returned (.bool (P ⟨i, x, y⟩)) ∧ Below V.heap.size V w')) :
    Calls Try.prog 27 #[.slice p n c, .func (.func f) #[] #[k0]] w fun e w' => e = .returned (.bool b) ∧ Below w.heap.size w w' := by
  have HIX : Hid (Calls Try.prog 22 #[.slice p n c, .func (.func f) #[] #[k0]] w fun e w' => (∃ r : Int, e = .returned (.int .i64 r) ∧ gfirst P L r) ∧ Below w.heap.size w w') := IndexFuncg1 hen k0 P p n c L w h1 hn hm hf
  clear hf h1 hn hen
  go_enter Try.func27, Try.ntmps27
  go_wp2_with fail
  refine Calls.mono HIX.out ?_
  rintro e w1 ⟨⟨r, rfl, hr⟩, hb1⟩
  have HB1 : Hid (Below w.heap.size w w1) := hb1
  have hd := gfirst_any hr
  rw [hb.out] at hd
  subst hd
  clear hr hb1
  go_wp2_with fail
  go_ret
  exact ⟨rfl, HB1.out⟩

set_option maxRecDepth 20000 in
theorem GAny1_any (i x y bi : Int) (Gb : Nat) (w : World) (h1 : w.cell? ⟨Gb, 0, none⟩ = some (.int .i64 bi)) :
    Calls Try.prog 28 #[.agg #[.int .i64 i, .int .i64 x, .int .i64 y], .pointer (some ⟨Gb, 0, none⟩)] w fun e w' => e = .returned (.bool (i == bi)) ∧ Below w.heap.size w w' := by
  obtain ⟨w0, hw0⟩ : ∃ w0, w.alloc (.cells #[.int .i64 i, .int .i64 x, .int .i64 y] 55) = w0 := ⟨_, rfl⟩
  obtain ⟨G, hG⟩ : ∃ G, w.heap.size = G := ⟨_, rfl⟩
  have hb : Below w.heap.size w w0 := by rw [← hw0]; exact alloc_below _ _
  have g0 : w0.cell? ⟨G, 0, none⟩ = some (.int .i64 i) := by rw [← hw0, ← hG]; simp [go_sem]
  have a1 := (hb.cell (cell_lt h1)).trans h1
  have HB : Hid (Below w.heap.size w w0) := hb
  clear hb h1
  go_enter Try.func28, Try.ntmps28
  go_wp2_with fail
  go_ret
  exact ⟨rfl, by first | exact HB.out | (rw [← hG]; exact HB.out)⟩
set_option maxRecDepth 20000 in
theorem GRight1_any (i x y bi : Int) (Gb : Nat) (w : World) (h1 : w.cell? ⟨Gb, 0, none⟩ = some (.int .i64 bi)) :
    Calls Try.prog 23 #[.agg #[.int .i64 i, .int .i64 x, .int .i64 y], .pointer (some ⟨Gb, 0, none⟩)] w fun e w' => e = .returned (.bool (i == bi)) ∧ Below w.heap.size w w' := by
  obtain ⟨w0, hw0⟩ : ∃ w0, w.alloc (.cells #[.int .i64 i, .int .i64 x, .int .i64 y] 55) = w0 := ⟨_, rfl⟩
  obtain ⟨G, hG⟩ : ∃ G, w.heap.size = G := ⟨_, rfl⟩
  have hb : Below w.heap.size w w0 := by rw [← hw0]; exact alloc_below _ _
  have g0 : w0.cell? ⟨G, 0, none⟩ = some (.int .i64 i) := by rw [← hw0, ← hG]; simp [go_sem]
  have a1 := (hb.cell (cell_lt h1)).trans h1
  have HB : Hid (Below w.heap.size w w0) := hb
  clear hb h1
  go_enter Try.func23, Try.ntmps23
  go_wp2_with fail
  go_ret
  exact ⟨rfl, by first | exact HB.out | (rw [← hG]; exact HB.out)⟩
theorem gor_take {w : World} {p : Option Addr} {L : List Goe} (h : gor w p L) (k : Nat) : gor w p (L.take k) := by
  intro j u hj
  refine h j u ?_
  have hjl : j < (L.take k).length * 3 := by have := (List.getElem?_eq_some_iff.1 hj).1; rwa [flatg_len] at this
  have e : L = L.take k ++ L.drop k := (List.take_append_drop k L).symm
  rw [e, flatg_app, List.getElem?_append_left (by rw [flatg_len]; exact hjl)]
  exact hj
end Go.Proofs.Ytnbbfnlfcncgnaa
