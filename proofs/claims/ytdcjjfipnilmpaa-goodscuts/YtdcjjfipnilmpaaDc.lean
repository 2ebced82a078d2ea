/- goods.Do, whatever is handed in; that what it tells is a right world. -/
import Derived.Test.YtdcjjfipnilmpaaDb
namespace Go.Proofs.Ytdcjjfipnilmpaa
open Go.RowKit Go.Maps
set_option linter.unusedVariables false

/-- What Do tells, and of which error. -/
def dok (s : Wld) (gs : List Ded) (E : Int) (s' : Wld) (bs : List Bool) : Prop :=
  (E ≠ 0 ∧ s' = wz ∧ bs = []) ∨ (E = 0 ∧ ∃ W H, okw s W H ∧ kept s s' ∧ Dr W H s.l s.lb s.shp gs s'.shp bs)
theorem Do_any (s : Wld) (E : Int) (pl : Option Addr) (nl cl : Nat) (gs : List Ded) (w : World) (h : s.fit w) (hg : dor w pl gs) (hx : ∀ t ∈ gs, fitd t) (hn : gs.length = nl) (hm : nl ≤ 9223372036854775807) (hE : Hid (ber s nl E)) :
    Calls Try.prog 9 #[s.val, .slice pl nl cl] w fun e w' => (∃ (s' : Wld) (dp : Option Addr) (dc : Nat) (bs : List Bool), e = .returned (.tuple #[s'.val, .slice dp bs.length dc, .int .i64 E]) ∧ row vbl w' dp bs ∧ wown w.heap.size w' s' ∧ dok s gs E s' bs) ∧ Below w.heap.size w w' := by
  by_cases h0 : E = 0
  · subst h0
    obtain ⟨⟨W, H, hk⟩, h2⟩ := ber_ok hE.out
    refine (Do_ok s W H pl nl cl gs w h hk hg hx hn h2).mono ?_
    rintro e w' ⟨⟨s', dp, dc, bs, rfl, hr, ho, hkp, hd⟩, hb⟩
    exact ⟨⟨s', dp, dc, bs, rfl, hr, ho, .inr ⟨rfl, W, H, hk, hkp, hd⟩⟩, hb⟩
  · refine (Do_no s E pl nl cl w h hm hE h0).mono ?_
    rintro e w' ⟨rfl, hb⟩
    exact ⟨⟨wz, none, 0, [], rfl, row_nil _ _ _, wz_own _ _, .inl ⟨h0, rfl, rfl⟩⟩, hb⟩
theorem wz_fit {B : Nat} {V : World} (hw : wown B V wz) : wz.fit V := by
  have f0 : fits 0 := by unfold fits; omega
  exact fit_of_own hw f0 f0 f0 f0 (fun x hx => by cases hx) (fun x hx => by cases hx) (fun x hx => by cases hx) (fun x hx => by cases hx) (fun x hx => by cases hx)
theorem fits_am {l : List Int} (h : l.any am = false) : ∀ x ∈ l, fits x := fun x hx => by
  have := any_am.1 h x hx
  unfold fits; omega
theorem oks_fitt {W H : Nat} {l : List Int} {lb : List Cel} {s : Shp} (ho : oks W H l lb s) : ∀ t ∈ s.lt, fits t.i ∧ fits t.o ∧ fits t.k ∧ fits t.x ∧ fits t.y ∧ fits t.f ∧ fits t.d := fun t ht => by
  obtain ⟨k, hk, rfl⟩ := List.getElem_of_mem ht
  obtain ⟨h1, h2, h3, h4, h5, h6, h7, h8, h9, h10⟩ := ho.tr.1 k hk
  have h11 := ho.n2
  have h12 := ho.nb
  have hw := ho.f.1.2
  have hh := ho.f.2.1.2
  obtain ⟨a, b, e1, e2, ha, hb⟩ := inb_nat (opn_inb h6)
  have h13 : lifeOf s.lt[k].k ≤ 20 := by unfold lifeOf; split <;> omega
  have h14 : loadOf s.lt[k].k ≤ 5 := by unfold loadOf; split <;> omega
  rw [e1, e2]
  unfold fits
  refine ⟨by omega, by omega, ?_, by omega, by omega, by omega, by omega⟩
  rcases h3 with h3 | h3 <;> rw [h3] <;> omega
theorem okw_T {s : Wld} {W H : Nat} (h : okw s W H) : 0 ≤ s.T ∧ s.T ≤ 1000000 := by
  have hc := h.c
  unfold cok at hc
  simp at hc
  omega
theorem dr_right {s s' : Wld} {W H B : Nat} {w V : World} {gs : List Ded} {bs : List Bool} (h : s.fit w) (hk : okw s W H) (hkp : kept s s') (hd : Dr W H s.l s.lb s.shp gs s'.shp bs) (hw : wown B V s') : s'.fit V ∧ okw s' W H := by
  have ho := dr_oks (okw_oks hk h.hb h.ht) hd
  have hp := fit_of_own hw (by rw [hkp.a]; exact h.fA) (by rw [hkp.b]; exact h.fB) (by have h1 : 1 ≤ s'.N := ho.n1; have h2 : s'.N ≤ 1000000 := ho.n2; unfold fits; omega) (by rw [hkp.t]; exact h.fT) (by rw [hkp.l]; exact h.x) (by rw [hkp.lb]; exact h.xb)
    (fits_am ho.pl.2.1) (fits_am ho.mn.2.1) (oks_fitt ho)
  refine ⟨hp, oks_okw (by rw [hkp.l, hkp.lb]; exact ho) (by rw [hkp.a]; exact hk.a) (by rw [hkp.b]; exact hk.b) hp.hb hp.ht (by rw [hkp.t]; exact okw_T hk)⟩
theorem dok_fit {s s' : Wld} {E : Int} {B : Nat} {w V : World} {gs : List Ded} {bs : List Bool} (h : s.fit w) (hd : dok s gs E s' bs) (hw : wown B V s') : s'.fit V := by
  rcases hd with ⟨_, rfl, _⟩ | ⟨_, W, H, hk, hkp, hd⟩
  · exact wz_fit hw
  · exact (dr_right h hk hkp hd hw).1
end Go.Proofs.Ytdcjjfipnilmpaa
