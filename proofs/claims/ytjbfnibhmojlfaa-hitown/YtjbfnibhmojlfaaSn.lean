/- What Struck returns, whatever is handed in; that what it tells is a world. -/
import Derived.Test.YtjbfnibhmojlfaaSb
namespace Go.Proofs.Ytjbfnibhmojlfaa
open Go.RowKit
set_option linter.unusedVariables false

theorem Struck_any (s : Wld) (E : Int) (pl : Option Addr) (nl cl : Nat) (bl : List Cel) (w : World) (h : s.fit w) (hb : crow w pl bl) (hx : ∀ c ∈ bl, fits c.x ∧ fits c.y) (hn : bl.length = nl) (hmx : nl ≤ 9223372036854775807) (hE : Hid (ber s nl E)) :
    Calls Try.prog 9 #[s.val, .slice pl nl cl] w fun e w' => (∃ (s' : Wld) (gp : Option Addr) (gc : Nat) (gl : List Int), e = .returned (.tuple #[s'.val, .slice gp gl.length gc, .int .i64 E]) ∧ row vi w' gp gl ∧ wown w.heap.size w' s' ∧ sok s bl E s' gl) ∧ Below w.heap.size w w' := by
  by_cases h0 : E = 0
  · subst h0
    obtain ⟨⟨W, H, hk⟩, h200⟩ := ber_ok hE.out
    have hA : s.A.toNat = W := by rw [hk.a]; rfl
    have hh : hms s bl = hm (cnt W s.l s.lt) s.lt bl := by funext id; unfold hms; rw [hA]
    refine (Struck_ok s W H pl nl cl bl w h hk hb hx hn h200).mono ?_
    rintro e w' ⟨⟨s', gp, gc, rfl, h1, h2, h3, h4, h5⟩, hb⟩
    exact ⟨⟨s', gp, gc, _, rfl, h1, h2, .inr ⟨rfl, h3, by rw [hh]; exact h4, h5, by rw [hh]⟩⟩, hb⟩
  · refine (Struck_no s E pl nl cl bl w h hb hx hn hmx hE h0).mono ?_
    rintro e w' ⟨rfl, hb⟩
    exact ⟨⟨wz, none, 0, [], rfl, row_nil _ _ _, wz_own _ _, .inl ⟨h0, rfl, rfl⟩⟩, hb⟩
theorem own_parts {e : TypeId} {z B n c : Nat} {V : World} {p : Option Addr} {m : Nat} {xs : List Value} (h : V.ownsRow B e z (.slice p n c) m xs) : m = n ∧ n ≤ c ∧ (p = none → c = 0) ∧ n ≤ 9223372036854775807 := by
  rcases h.2 with ⟨h0, h1⟩ | ⟨g, cap, cur, hv, hB, hblk, hc, hm, hr⟩
  · simp only [Value.slice.injEq] at h0
    omega
  · simp only [Value.slice.injEq] at hv
    unfold maxLen at hm
    exact ⟨hv.2.1.symm, by omega, (fun hp => (by rw [hp] at hv; cases hv.1)), by omega⟩
theorem own_row {V : World} {B n c : Nat} {p : Option Addr} {L : List Int} (h : mine 3 vi B V (.slice p n c) L) : row vi V p L := by
  obtain ⟨p', c', e, r, _, _⟩ := mine_full h
  simp only [Value.slice.injEq] at e
  rw [e.1]; exact r
theorem own_crow {V : World} {B n c : Nat} {p : Option Addr} {L : List Cel} (h : minec B V (.slice p n c) L) : crow V p L := by
  obtain ⟨p', c', e, r, _, _⟩ := minec_full h
  simp only [Value.slice.injEq] at e
  rw [e.1]; exact r
theorem own_trow {V : World} {B n c : Nat} {p : Option Addr} {L : List Trp} (h : minet B V (.slice p n c) L) : trow V p L := by
  have hp := own_parts h
  rcases h.2 with ⟨h0, h1⟩ | ⟨g, cap, cur, hv, hB, hblk, hr⟩
  · have : L = [] := List.eq_nil_of_length_eq_zero h1
    subst this; exact trow_nil _ _
  · simp only [Value.slice.injEq] at hv
    obtain ⟨rfl, _, _⟩ := hv
    exact minet_row h hp.1
theorem fit_of_own {B : Nat} {V : World} {s : Wld} (hw : wown B V s) (fA : fits s.A) (fB : fits s.B) (fN : fits s.N) (fT : fits s.T) (x : ∀ x ∈ s.l, fits x) (xb : ∀ c ∈ s.lb, fits c.x ∧ fits c.y) (xs : ∀ x ∈ s.ls, fits x) (xm : ∀ x ∈ s.lm, fits x)
    (xt : ∀ t ∈ s.lt, fits t.i ∧ fits t.o ∧ fits t.k ∧ fits t.x ∧ fits t.y ∧ fits t.f ∧ fits t.d) : s.fit V where
  fA := fA
  fB := fB
  r := own_row hw.kp
  x := x
  h := (own_parts hw.kp).1
  m := (own_parts hw.kp).2.2.2
  z := (own_parts hw.kp).2.2.1
  k := (own_parts hw.kp).2.1
  rb := own_crow hw.kb
  xb := xb
  hb := (own_parts hw.kb).1
  mb := (own_parts hw.kb).2.2.2
  zb := (own_parts hw.kb).2.2.1
  kb := (own_parts hw.kb).2.1
  rs := own_row hw.ks
  xs := xs
  hs := (own_parts hw.ks).1
  ms := (own_parts hw.ks).2.2.2
  rm := own_row hw.km
  xm := xm
  hm := (own_parts hw.km).1
  mm := (own_parts hw.km).2.2.2
  rt := own_trow hw.kt
  xt := xt
  ht := (own_parts hw.kt).1
  mt := (own_parts hw.kt).2.2.2
  zt := (own_parts hw.kt).2.2.1
  kt := (own_parts hw.kt).2.1
  fN := fN
  fT := fT
/-- What Struck tells is a world. -/
theorem struck_fit {s s' : Wld} {w V : World} {B nl : Nat} {bl : List Cel} {E : Int} {gl : List Int} (h : s.fit w) (hE : ber s nl E) (hw : wown B V s') (ho : sok s bl E s' gl) : s'.fit V := by
  rcases ho with ⟨_, rfl, _⟩ | ⟨rfl, hl, ht, hn, _⟩
  · have h0 : fits 0 := by unfold fits; omega
    exact fit_of_own hw h0 h0 h0 h0 (fun x hx => by cases hx) (fun x hx => by cases hx) (fun x hx => by cases hx) (fun x hx => by cases hx) (fun x hx => by cases hx)
  · obtain ⟨⟨W, H, hk⟩, _⟩ := ber_ok hE
    obtain ⟨hA, hB, _, h1, _, h2, _, h3, _, h4, hN, hT⟩ := hl
    refine fit_of_own hw (by rw [hA]; exact h.fA) (by rw [hB]; exact h.fB) (by rw [hN]; exact h.fN) (by rw [hT]; exact h.fT) (by rw [h1]; exact h.x) (by rw [h2]; exact h.xb) (by rw [h3]; exact h.xs) (by rw [h4]; exact h.xm) ?_
    intro t htm
    rw [ht] at htm
    obtain ⟨u, hu, rfl, hf⟩ := lft_mem.1 htm
    obtain ⟨f1, f2, f3, f4, f5, f6, f7⟩ := h.xt u hu
    have hb := hm_bd (cn := cnt s.A.toNat s.l s.lt) s.lt bl u.i
    obtain ⟨i, hi, rfl⟩ := List.getElem_of_mem hu
    have hl20 := (hk.tr.1 i hi).2.2.2.2.2.2.2.1
    have : lifeOf s.lt[i].k ≤ 20 := by unfold lifeOf; split <;> omega
    refine ⟨f1, f2, f3, f4, f5, ?_, f7⟩
    show fits (s.lt[i].f - hms s bl s.lt[i].i)
    unfold fits hms at *
    omega
end Go.Proofs.Ytjbfnibhmojlfaa
