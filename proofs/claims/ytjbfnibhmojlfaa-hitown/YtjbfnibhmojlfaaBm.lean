/- Blows in memory: rows of one's own that are written in place, a map under a frame; which error is told; the mathematics of one blow more. -/
import Derived.Test.YtjbfnibhmojlfaaBy
import Derived.Test.YtjbfnibhmojlfaaCh
import Derived.Test.YtjbfnibhmojlfaaEx
import Derived.Test.YtjbfnibhmojlfaaKy
import Derived.Test.YtjbfnibhmojlfaaWc
namespace Go.Proofs.Ytjbfnibhmojlfaa
open Go.RowKit Go.Maps
set_option linter.unusedVariables false

section
variable {α : Type} {t : TypeId} {f : α → Value} {B : Nat} {w w' : World} {v : Value} {L : List α}
theorem mine_kept {S : Nat → Prop} (h : mine t f B w v L) (he : Ex S w w') (hn : ∀ g, v.ownBlock = some g → ¬ S g) : mine t f B w' v L := by
  refine ⟨h.1, ?_⟩
  rcases h.2 with h0 | ⟨g', cap, cur, hv, hB, hblk, hr⟩
  · exact .inl h0
  · refine .inr ⟨g', cap, cur, hv, hB, ?_, hr⟩
    have : g' < w.heap.size := by
      rcases Nat.lt_or_ge g' w.heap.size with hlt | hge
      · exact hlt
      · rw [Array.getElem?_eq_none hge] at hblk; cases hblk
    rw [he.block g' this (hn g' (by rw [hv]; rfl))]; exact hblk
variable {g n cap : Nat}
theorem mine_put (h : mine t f B w (.slice (some ⟨g, 0, none⟩) n cap) L) (hn : L.length = n) (k : Nat) (x : α) : mine t f B (w.setCell ⟨g, k, none⟩ (f x)) (.slice (some ⟨g, 0, none⟩) n cap) (L.set k x) := by
  subst hn
  unfold mine at h ⊢
  rw [List.length_set, List.map_set]
  exact (World.ownsRow.stored h k (f x)).1
theorem mine_cell (h : mine t f B w (.slice (some ⟨g, 0, none⟩) n cap) L) (hn : L.length = n) {k : Nat} (hk : k < L.length) {x : α} (hx : L[k] = x) : w.cell? ⟨g, k, none⟩ = some (f x) := by
  subst hn
  rw [World.ownsRow.cellAt h k (by omega), List.getElem?_map, List.getElem?_eq_getElem hk, hx]; rfl
theorem mine_free (h : mine t f B w (.slice (some ⟨g, 0, none⟩) n cap) L) (hn : L.length = n) (k : Nat) : w.frozen? ⟨g, k, none⟩ = false := by
  subst hn; exact World.ownsRow.frozenAt h k
theorem mine_lt (h : mine t f B w (.slice (some ⟨g, 0, none⟩) n cap) L) : B ≤ g ∧ g < w.heap.size := World.ownsRow.lt h g rfl
theorem mine_row (h : mine t f B w (.slice (some ⟨g, 0, none⟩) n cap) L) (hn : L.length = n) : row f w (some ⟨g, 0, none⟩) L := by
  intro j x hj
  obtain ⟨hjl, e⟩ := List.getElem?_eq_some_iff.1 hj
  exact ⟨_, rfl, by rw [add_zero_at]; exact mine_cell h hn hjl e⟩
end
/-- A truth value as a value. -/
def vbl (b : Bool) : Value := .bool b
theorem mapi_kept {S : Nat → Prop} {w w' : World} {b : Nat} {L : List Int} (h : mapi w b L) (he : Ex S w w') (hn : ¬ S b) : mapi w' b L := by
  obtain ⟨D, n, ⟨es, clock, hb, hr⟩, h2⟩ := h
  refine ⟨D, n, ⟨es, clock, ?_, hr⟩, h2⟩
  have : b < w.heap.size := by
    rcases Nat.lt_or_ge b w.heap.size with hlt | hge
    · exact hlt
    · rw [Array.getElem?_eq_none hge] at hb; cases hb
  rw [he.block b this hn]; exact hb
theorem mapi_lt {w : World} {b : Nat} {L : List Int} (h : mapi w b L) : b < w.heap.size := by
  obtain ⟨D, n, ⟨es, clock, hb, hr⟩, h2⟩ := h
  rcases Nat.lt_or_ge b w.heap.size with hlt | hge
  · exact hlt
  · rw [Array.getElem?_eq_none hge] at hb; cases hb
/-- What a map of the troops' places tells of a number. -/
theorem mapi_find {w : World} {b : Nat} {L : List Int} {c : Int} (h : mapi w b L) (fc : fits c) (hd : L.Nodup) :
    ∃ (v : Int) (r : Bool), (Instr.lookup 67 (.map (some b)) (.int .i64 c) true).run Try.prog w = .ok (.tuple #[.int .i64 v, .bool r]) w ∧ ((c ∉ L ∧ r = false) ∨ (r = true ∧ ∃ i, ∃ hi : i < L.length, v = (i : Int) ∧ L[i] = c)) := by
  obtain ⟨v, r, h1, h2⟩ := mapi_look h fc
  refine ⟨v, r, h1, ?_⟩
  rcases h2 with ⟨h2, _, h3⟩ | ⟨h2, h3, h4⟩
  · exact .inl ⟨h2, h3⟩
  · obtain ⟨i, hi, e⟩ := List.getElem_of_mem h3
    refine .inr ⟨h2, i, hi, h4 i (by rw [List.getElem?_eq_getElem hi, e]) (fun j hj hjc => ?_), e⟩
    obtain ⟨hjl, ej⟩ := List.getElem?_eq_some_iff.1 hjc
    exact List.pairwise_iff_getElem.1 hd i j hi hjl hj (by rw [e, ej])

theorem crow_cl {w : World} {p : Option Addr} {cs : List Cel} (h : crow w p cs) {k : Nat} (hk : k < cs.length) : ∃ a x y, p = some a ∧ cs[k] = ⟨x, y⟩ ∧ w.cell? (a.add (k * 2)) = some (.int .i64 x) ∧ w.cell? ⟨(a.add (k * 2)).block, (a.add (k * 2)).off + 1, none⟩ = some (.int .i64 y) := by
  obtain ⟨a, ha, h1, h2⟩ := crow_at h hk
  exact ⟨a, cs[k].x, cs[k].y, ha, rfl, h1, cell_two h2⟩
/-- Which error is told of a world and blows. -/
def ber (s : Wld) (n : Nat) (E : Int) : Prop := ∃ E0, wre s E0 ∧ ((E0 ≠ 0 ∧ E = E0) ∨ (E0 = 0 ∧ 200 < n ∧ E = 2) ∨ (E0 = 0 ∧ n ≤ 200 ∧ E = 0))
theorem ber_total (s : Wld) (n : Nat) : ∃ E, ber s n E := by
  obtain ⟨E0, h⟩ := wre_total s
  by_cases h0 : E0 = 0
  · by_cases h1 : 200 < n
    · exact ⟨2, E0, h, .inr (.inl ⟨h0, h1, rfl⟩)⟩
    · exact ⟨0, E0, h, .inr (.inr ⟨h0, by omega, rfl⟩)⟩
  · exact ⟨E0, E0, h, .inl ⟨h0, rfl⟩⟩
theorem ber_ok {s : Wld} {n : Nat} (h : ber s n 0) : (∃ W H, okw s W H) ∧ n ≤ 200 := by
  obtain ⟨E0, h0, h1⟩ := h
  rcases h1 with ⟨h1, h2⟩ | ⟨_, _, h⟩ | ⟨h1, h2, _⟩
  · exact absurd h2.symm h1
  · omega
  · subst h1; exact ⟨wre_ok h0, h2⟩
/-- The harm that the troop of a number takes, in a world. -/
def hms (s : Wld) (bl : List Cel) (id : Int) : Int := hm (cnt s.A.toNat s.l s.lt) s.lt bl id
/-- What Blows tells of all troops, in order; who has struck. -/
def harms (cn : Cel → Bool) (ts : List Trp) (bl : List Cel) : List Int := ts.map fun t => hm cn ts bl t.i
def spents (cn : Cel → Bool) (ts : List Trp) (bl : List Cel) : List Bool := ts.map fun t => (fsb cn t.i bl).isSome
theorem harms_len (cn : Cel → Bool) (ts : List Trp) (bl : List Cel) : (harms cn ts bl).length = ts.length := by unfold harms; simp
theorem spents_len (cn : Cel → Bool) (ts : List Trp) (bl : List Cel) : (spents cn ts bl).length = ts.length := by unfold spents; simp
theorem harms_at (cn : Cel → Bool) (ts : List Trp) (bl : List Cel) {m : Nat} (h : m < (harms cn ts bl).length) (h' : m < ts.length) : (harms cn ts bl)[m] = hm cn ts bl ts[m].i := by simp [harms]
theorem spents_at (cn : Cel → Bool) (ts : List Trp) (bl : List Cel) {m : Nat} (h : m < (spents cn ts bl).length) (h' : m < ts.length) : (spents cn ts bl)[m] = (fsb cn ts[m].i bl).isSome := by simp [spents]
section
variable {cn : Cel → Bool} {ts : List Trp} {bl : List Cel} {b : Cel}
theorem lists_skip (h : ∀ t ∈ ts, b.x = t.i → cn b = true → (fsb cn t.i bl).isSome = true) : harms cn ts (bl ++ [b]) = harms cn ts bl ∧ spents cn ts (bl ++ [b]) = spents cn ts bl := by
  refine ⟨List.map_congr_left fun t ht => hm_skip h t.i, List.map_congr_left fun t ht => ?_⟩
  cases hc : (b.x == t.i && cn b) with
  | false => rw [fsb_snoc_no hc]
  | true =>
    simp at hc
    have := h t ht hc.1 hc.2
    cases hf : fsb cn t.i bl with
    | none => rw [hf] at this; cases this
    | some x => rw [fsb_snoc_had hf]
theorem lists_new (hd : (ts.map Trp.i).Nodup) {i j : Nat} (hi : i < ts.length) (hj : j < ts.length) (h1 : ts[i].i = b.x) (h2 : ts[j].i = b.y) (h3 : cn b = true) (h4 : (fsb cn ts[i].i bl).isSome = false) :
    harms cn ts (bl ++ [b]) = (harms cn ts bl).set j (hm cn ts bl ts[j].i + hrk ts[i].k) ∧ spents cn ts (bl ++ [b]) = (spents cn ts bl).set i true := by
  have h5 : fsb cn ts[i].i bl = none := by cases h : fsb cn ts[i].i bl with
    | none => rfl
    | some x => rw [h] at h4; cases h4
  refine ⟨List.ext_getElem (by simp [harms]) fun m hm1 hm2 => ?_, List.ext_getElem (by simp [spents]) fun m hm1 hm2 => ?_⟩
  · have hml : m < ts.length := by rw [harms_len] at hm1; exact hm1
    rw [List.getElem_set, harms_at _ _ _ hm1 hml, harms_at _ _ _ (by rw [harms_len]; exact hml) hml, hm_new hi hd h1.symm h3 h5]
    by_cases e : j = m
    · subst e
      rw [if_pos rfl, if_pos h2.symm]
    · rw [if_neg e, if_neg (fun e2 => e (ids_inj hd hj hml (by rw [h2]; exact e2)))]; omega
  · have hml : m < ts.length := by rw [spents_len] at hm1; exact hm1
    rw [List.getElem_set, spents_at _ _ _ hm1 hml, spents_at _ _ _ (by rw [spents_len]; exact hml) hml]
    by_cases e : i = m
    · subst e
      rw [if_pos rfl, fsb_snoc_new h5 h1.symm h3]; rfl
    · rw [if_neg e]
      refine congrArg Option.isSome (fsb_snoc_no ?_)
      have : ¬ b.x = ts[m].i := fun e2 => e (ids_inj hd hi hml (by rw [h1]; exact e2))
      simp [this]
end
theorem list_nil (cn : Cel → Bool) (ts : List Trp) : harms cn ts [] = List.replicate ts.length 0 ∧ spents cn ts [] = List.replicate ts.length false := by
  constructor
  · unfold harms
    refine List.ext_getElem (by simp) fun m h1 h2 => ?_
    rw [List.getElem_map, List.getElem_replicate, hm_nil]
  · unfold spents
    refine List.ext_getElem (by simp) fun m h1 h2 => ?_
    rw [List.getElem_map, List.getElem_replicate]; rfl
end Go.Proofs.Ytjbfnibhmojlfaa
