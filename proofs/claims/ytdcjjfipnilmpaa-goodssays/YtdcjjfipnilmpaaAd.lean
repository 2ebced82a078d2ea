/- append of troops to a row of one's own: all that lies in its room is whole numbers still. -/
import Derived.Test.YtdcjjfipnilmpaaGd
import Derived.Maps.Own
namespace Go.Proofs.Ytdcjjfipnilmpaa
open Go.RowKit Go.Maps
set_option linter.unusedVariables false

theorem run_moret2 {B : Nat} {w : World} {v : Value} {Q R : List Trp} {a : Addr} {d m : Nat} (ty : TypeId) (h : minet B w v Q) (ha : alli w v) (hq : trow w (some a) R) (hm : R.length = m) (h0 : 0 < m) (hl : Q.length + m ≤ 2000000) (hB : B ≤ w.heap.size) :
    ∃ v' w', (Builtin.append_ #[26, 26] ty #[v, .slice (some a) m d]).run Try.prog w = .ok v' w' ∧ minet B w' v' (Q ++ R) ∧ w.grownBy w' v.ownBlock ∧ alli w' v' := by
  obtain ⟨v', w', hrun, hown, hgr⟩ := run_moret (d := d) ty h hq hm hl hB
  refine ⟨v', w', hrun, hown, hgr, ?_⟩
  obtain ⟨i0, hi, hz0, hz1, hz2⟩ := info_parts kint
  have hl2 : (flat7 R).length = m * i0.size := by rw [flat7_len, hm, hz1]
  have hnews := flat7_lies hq
  have hone : ∀ u ∈ flat7 R, u.oneCell' = true := fun u hu => by obtain ⟨x, rfl⟩ := ints_flat7 R u hu; rfl
  have hzi : ints (#[.int .i64 0, .int .i64 0, .int .i64 0, .int .i64 0, .int .i64 0, .int .i64 0, .int .i64 0] : Array Value).toList := fun u hu => by simp at hu; exact ⟨0, hu⟩
  rcases h.2 with ⟨rfl, hn0⟩ | ⟨g, cap, cur, rfl, hbg, hblk, hnc, hcm, hcs, htake⟩
  · have hr := run_append_nil (P := Try.prog) w 26 ty 47 i0 _ Try.underlying26 hi hz0 a m d (flat7 R) hl2 hnews h0 (by omega) (by rw [hz2]; omega)
    rw [hr] at hrun
    injection hrun with hv hw
    subst hv
    subst hw
    intro g hg
    have hg' : w.heap.size = g := by simpa only [Value.ownBlock, Option.some.injEq] using hg
    rw [← hg']
    refine ⟨_, _, heap_alloc_new w.drew _, ?_⟩
    intro u hu
    rw [Array.toList_append, List.mem_append] at hu
    rcases hu with hu | hu
    · exact ints_flat7 R u (by simpa using hu)
    · exact ints_zero _ hzi (by simp) u hu
  · obtain ⟨cur', e', hc', hi'⟩ := ha g rfl
    rw [hblk] at hc'
    simp at hc'
    obtain ⟨rfl, rfl⟩ := hc'
    by_cases hroom : Q.length + m ≤ cap
    · have hfit : Q.length * i0.size + (flat7 R).length ≤ cur.size := by rw [hl2, hcs, hz1, ← Nat.add_mul]; exact Nat.mul_le_mul_right _ hroom
      have hr := run_append_room (P := Try.prog) w 26 ty 47 i0 Try.underlying26 hi g Q.length cap cur hblk a m d (flat7 R) hl2 hnews hone hroom hfit
      rw [hr] at hrun
      injection hrun with hv hw
      subst hv
      subst hw
      intro g' hg
      have hg' : g = g' := by simpa only [Value.ownBlock, Option.some.injEq] using hg
      subst hg'
      refine ⟨_, _, setRow_heap w g cur _ _ _ hblk, ?_⟩
      intro u hu
      simp only [List.mem_append] at hu
      rcases hu with (hu | hu) | hu
      · exact hi' u (List.mem_of_mem_take hu)
      · exact ints_flat7 R u hu
      · exact hi' u (List.mem_of_mem_drop hu)
    · have holds : ∀ j u, (flat7 Q)[j]? = some u → w.cell? ((⟨g, 0, none⟩ : Addr).add j) = some u := World.ownsRow.cells (g := g) h rfl
      have hr := run_append_grow (P := Try.prog) w 26 ty 47 i0 _ Try.underlying26 hi hz0 ⟨g, 0, none⟩ Q.length cap (flat7 Q) (by rw [flat7_len, hz1]) holds a m d (flat7 R) hl2 hnews (by omega) (by omega) (growslice_fits (by omega) (by rw [hz2]; omega))
      rw [hr] at hrun
      injection hrun with hv hw
      subst hv
      subst hw
      intro g' hg
      have hg' : w.heap.size = g' := by simpa only [Value.ownBlock, Option.some.injEq] using hg
      rw [← hg']
      refine ⟨_, _, heap_alloc_new w.drew _, ?_⟩
      intro u hu
      rw [Array.toList_append, List.mem_append] at hu
      rcases hu with hu | hu
      · rw [Array.toList_append, List.mem_append] at hu
        rcases hu with hu | hu
        · exact ints_flat7 Q u (by simpa using hu)
        · exact ints_flat7 R u (by simpa using hu)
      · exact ints_zero _ hzi (by simp) u hu
section
variable {B J b g : Nat} {V V' : World} {s : Wld}
theorem shop0_ex {S : Nat → Prop} (h : shop0 B J b V s) (he : Ex S V V') (hJ : ¬ S J) (h1 : ∀ g, (Value.slice s.p s.n s.c).ownBlock = some g → ¬ S g) (h2 : ∀ g, (Value.slice s.pb s.nb s.cb).ownBlock = some g → ¬ S g) (h3 : ∀ g, (Value.slice s.ps s.ns s.cs).ownBlock = some g → ¬ S g)
    (h4 : ∀ g, (Value.slice s.pm s.nm s.cm).ownBlock = some g → ¬ S g) (h5 : ∀ g, (Value.slice s.pt s.nt s.ct).ownBlock = some g → ¬ S g) : shop0 B J b V' s :=
  ⟨bx10_ex h.x he hJ, wown_ex h.o he h1 h2 h3 h4 h5, h.a, h.jB, h.bB⟩
/-- A number put into the map: all else is as it was. -/
theorem shop_put (h : shop B J b V s) {k : Int} (fk : fits k) (hf : ∀ t ∈ s.lt, fits t.i) {m : Nat} (hm : s.lt.length = m) (hm2 : m ≤ 100) :
    ∃ V', (Instr.mapUpdate 66 (.map (some b)) (.int .i64 k) (.int .i64 (m : Int))).run Try.prog V = .ok () V' ∧ shop0 B J b V' s ∧ mapi V' b (s.lt.map Trp.i ++ [k]) ∧ Ex (fun g => g = b) V V' := by
  obtain ⟨D, n, h1, h2, h3⟩ := h.2
  have hlen : (s.lt.map Trp.i).length = m := by rw [List.length_map, hm]
  obtain ⟨V', hrun, ho, hg⟩ := h1.update lawi Try.underlying66 (by unfold maxLen; omega) (key_int fk) (plainElem_int Try.underlying3 (wf_of (x := (m : Int)) (by unfold fits; omega)))
  have he : Ex (fun g => g = b) V V' := (Ex.of_grown hg).mono (fun i _ e => by cases e; rfl)
  have hx := mapi_not (V := V) (L := s.lt.map Trp.i) h.1.o.kp h.2
  refine ⟨V', hrun, ?_, ?_, he⟩
  · exact shop0_ex h.1 he (mapi_cells h.1.x h.2) (mapi_not h.1.o.kp h.2) (mapi_not h.1.o.kb h.2) (mapi_not h.1.o.ks h.2) (mapi_not h.1.o.km h.2) (mapi_not h.1.o.kt h.2)
  · refine ⟨_, n + 1, ho, mpi_put h2 fk ?_ hlen, by rw [List.length_append, List.length_singleton]; omega⟩
    intro c hc
    obtain ⟨t, ht, rfl⟩ := List.mem_map.1 hc
    exact hf t ht
/-- NextId written. -/
theorem shop_N (h : shop B J b V s) (x : Int) : shop B J b (V.setCell ⟨J, 7, none⟩ (.int .i64 x)) { s with N := x } := by
  have he : Ex (fun j => j = J) V (V.setCell ⟨J, 7, none⟩ (.int .i64 x)) := Ex.set (S := fun j => j = J) V ⟨J, 7, none⟩ rfl _
  have hx : ∀ {e : TypeId} {z B' n : Nat} {v : Value} {xs : List Value}, V.ownsRow B' e z v n xs → e ≠ 68 → ∀ j, v.ownBlock = some j → ¬ j = J := fun hr hne j hj e => own_not hr h.1.x hne j hj e
  have hw := wown_ex h.1.o he (hx h.1.o.kp (by decide)) (hx h.1.o.kb (by decide)) (hx h.1.o.ks (by decide)) (hx h.1.o.km (by decide)) (hx h.1.o.kt (by decide))
  refine ⟨⟨?_, ⟨hw.kp, hw.jp, hw.kb, hw.jb, hw.ks, hw.js, hw.km, hw.jm, hw.kt, hw.jt⟩, h.1.a, h.1.jB, h.1.bB⟩, mapi_kept h.2 he (fun e => mapi_cells h.1.x h.2 e.symm)⟩
  have hb := h.1.x
  unfold bx10 at hb ⊢
  rw [heap_setCell_same V J 7 _ _ _ hb]; rfl
/-- A troop appended, the list written back. -/
theorem shop_append {V0 V9 : World} {T : Trp} {p9 : Option Addr} {n9 c9 : Nat} (h : shop0 B J b V s) (hm : mapi V b (s.lt.map Trp.i ++ [T.i])) (h0 : Below V.heap.size V V0)
    (hm9 : minet B V9 (.slice p9 n9 c9) (s.lt ++ [T])) (hg9 : V0.grownBy V9 (Value.slice s.pt s.nt s.ct).ownBlock) (ha9 : alli V9 (.slice p9 n9 c9)) :
    bx10 V9 J b s ∧ shop B J b (V9.setCell ⟨J, 6, none⟩ (.slice p9 n9 c9)) { s with pt := p9, nt := n9, ct := c9, lt := s.lt ++ [T] } ∧ Ex (fun g => g = J ∨ some g = (Value.slice s.pt s.nt s.ct).ownBlock) V (V9.setCell ⟨J, 6, none⟩ (.slice p9 n9 c9)) := by
  have e1 : Ex (fun g => some g = (Value.slice s.pt s.nt s.ct).ownBlock) V V9 := (Ex.of_below (S := fun g => some g = (Value.slice s.pt s.nt s.ct).ownBlock) h0).trans (Ex.of_grown hg9) (fun _ _ e => e)
  have hJt : ¬ some J = (Value.slice s.pt s.nt s.ct).ownBlock := fun e => own_not h.o.kt h.x (by decide) J e.symm rfl
  have hx9 : bx10 V9 J b s := bx10_ex h.x e1 hJt
  have e2 : Ex (fun g => g = J) V9 (V9.setCell ⟨J, 6, none⟩ (.slice p9 n9 c9)) := Ex.set (S := fun j => j = J) V9 ⟨J, 6, none⟩ rfl _
  have e3 : Ex (fun g => g = J ∨ some g = (Value.slice s.pt s.nt s.ct).ownBlock) V (V9.setCell ⟨J, 6, none⟩ (.slice p9 n9 c9)) := (e1.mono (S' := fun g => g = J ∨ some g = (Value.slice s.pt s.nt s.ct).ownBlock) (fun _ _ e => .inr e)).trans e2 (fun _ _ e => .inl e)
  have hx : ∀ {e : TypeId} {z B' n : Nat} {v : Value} {xs : List Value}, V.ownsRow B' e z v n xs → e ≠ 68 → e ≠ 47 → ∀ j, v.ownBlock = some j → ¬ (j = J ∨ some j = (Value.slice s.pt s.nt s.ct).ownBlock) := fun hr hne hne2 j hj hh => by
    rcases hh with e | e
    · exact own_not hr h.x hne j hj e
    · exact own_apart hr h.o.kt hne2 j hj e
  have hmb : mapi V9 b (s.lt.map Trp.i ++ [T.i]) := mapi_kept hm e1 (fun e => mapi_not h.o.kt hm b e.symm rfl)
  refine ⟨hx9, ⟨⟨?_, ⟨own_stays h.o.kp e3 (hx h.o.kp (by decide) (by decide)), alli_ex h.o.jp e3 (hx h.o.kp (by decide) (by decide)), own_stays h.o.kb e3 (hx h.o.kb (by decide) (by decide)), alli_ex h.o.jb e3 (hx h.o.kb (by decide) (by decide)), own_stays h.o.ks e3 (hx h.o.ks (by decide) (by decide)), alli_ex h.o.js e3 (hx h.o.ks (by decide) (by decide)), own_stays h.o.km e3 (hx h.o.km (by decide) (by decide)), alli_ex h.o.jm e3 (hx h.o.km (by decide) (by decide)), ?_, ?_⟩, h.a, h.jB, h.bB⟩, ?_⟩, e3⟩
  · have hb := hx9
    unfold bx10 at hb ⊢
    rw [heap_setCell_same V9 J 6 _ _ _ hb]; rfl
  · exact own_stays hm9 e2 (fun j hj e => own_not hm9 hx9 (by decide) j hj e)
  · exact alli_ex ha9 e2 (fun j hj e => own_not hm9 hx9 (by decide) j hj e)
  · simp only [List.map_append, List.map_cons, List.map_nil]
    exact mapi_kept hmb e2 (fun e => mapi_cells hx9 hmb e.symm)
theorem shop_look {W H : Nat} (h : shop B J b V s) (ho : oks W H s.l s.lb s.shp) (hA : s.A = W) (hB : s.B = H) : look J W H s.l s.lt V := by
  have hc := bx10_c10 h.1.x
  refine ⟨ho.f, ho.nt, s.p, s.c, s.pt, s.ct, by rw [hc.1, hA], by rw [hc.2.1, hB], by rw [hc.2.2.1, (own_parts h.1.o.kp).1], by rw [hc.2.2.2.2.2.2.1, (own_parts h.1.o.kt).1], own_row h.1.o.kp, own_trow h.1.o.kt⟩
end
end Go.Proofs.Ytdcjjfipnilmpaa
