/- The mathematics of a march: who goes where, one troop behind the other; there is but one outcome; how it lies in memory. -/
import Derived.Test.YtnbbfnlfcncgnaaNx
import Derived.Test.YtnbbfnlfcncgnaaFe
import Derived.Test.YtnbbfnlfcncgnaaMb
namespace Go.Proofs.Ytnbbfnlfcncgnaa
open Go.RowKit
set_option linter.unusedVariables false

/-- A troop on another cell. -/
def Trp.go (t : Trp) (c : Cel) : Trp := ⟨t.i, t.o, t.k, c.x, c.y, t.f, t.d⟩
/-- t goes to c. -/
def gos (A B : Int) (l : List Int) (f : Int → Option Cel) (L : List Trp) (t : Trp) (c : Cel) : Prop := ∃ b, f t.i = some b ∧ nxs A B l t.c b (some c) ∧ L.any (onb c.x c.y) = false
/-- t stays. -/
def sty (A B : Int) (l : List Int) (f : Int → Option Cel) (L : List Trp) (t : Trp) : Prop := f t.i = none ∨ ∃ b, f t.i = some b ∧ (nxs A B l t.c b none ∨ ∃ c, nxs A B l t.c b (some c) ∧ L.any (onb c.x c.y) = true)
theorem gos_one {A B : Int} {l : List Int} {f : Int → Option Cel} {L : List Trp} {t : Trp} {c d : Cel} (h : gos A B l f L t c) (h' : gos A B l f L t d) : c = d := by
  obtain ⟨b, h1, h2, _⟩ := h
  obtain ⟨b', k1, k2, _⟩ := h'
  rw [h1] at k1
  cases k1
  exact Option.some.inj (nxs_one h2 k2)
theorem gos_sty {A B : Int} {l : List Int} {f : Int → Option Cel} {L : List Trp} {t : Trp} {c : Cel} (h : gos A B l f L t c) (h' : sty A B l f L t) : False := by
  obtain ⟨b, h1, h2, h3⟩ := h
  rcases h' with k1 | ⟨b', k1, k2⟩
  · rw [h1] at k1; cases k1
  · rw [h1] at k1
    cases k1
    rcases k2 with k2 | ⟨d, k2, k3⟩
    · cases nxs_one h2 k2
    · cases nxs_one h2 k2
      rw [h3] at k3; cases k3
/-- The first k of the troops L0 have gone: L is what stands there now, I are the Ids of those that moved. -/
inductive Mst (A B : Int) (l : List Int) (f : Int → Option Cel) (L0 : List Trp) : Nat → List Trp → List Int → Prop
  | zero : Mst A B l f L0 0 L0 []
  | stay {k : Nat} {L : List Trp} {I : List Int} {t : Trp} : Mst A B l f L0 k L I → L[k]? = some t → sty A B l f L t → Mst A B l f L0 (k + 1) L I
  | go {k : Nat} {L : List Trp} {I : List Int} {t : Trp} {c : Cel} : Mst A B l f L0 k L I → L[k]? = some t → gos A B l f L t c → Mst A B l f L0 (k + 1) (L.set k (t.go c)) (I ++ [t.i])
section
variable {A B : Int} {l : List Int} {f : Int → Option Cel} {L0 : List Trp}
theorem mst_one {k : Nat} {L L' : List Trp} {I I' : List Int} (h : Mst A B l f L0 k L I) (h' : Mst A B l f L0 k L' I') : L = L' ∧ I = I' := by
  induction h generalizing L' I' with
  | zero => cases h'; exact ⟨rfl, rfl⟩
  | stay h1 h2 h3 ih =>
    cases h' with
    | stay k1 k2 k3 => exact ih k1
    | go k1 k2 k3 =>
      obtain ⟨rfl, rfl⟩ := ih k1
      rw [h2] at k2
      cases k2
      exact (gos_sty k3 h3).elim
  | go h1 h2 h3 ih =>
    cases h' with
    | stay k1 k2 k3 =>
      obtain ⟨rfl, rfl⟩ := ih k1
      rw [h2] at k2
      cases k2
      exact (gos_sty h3 k3).elim
    | go k1 k2 k3 =>
      obtain ⟨rfl, rfl⟩ := ih k1
      rw [h2] at k2
      cases k2
      obtain rfl := gos_one h3 k3
      exact ⟨rfl, rfl⟩
theorem mst_len {k : Nat} {L : List Trp} {I : List Int} (h : Mst A B l f L0 k L I) : L.length = L0.length ∧ I.length ≤ k := by
  induction h with
  | zero => exact ⟨rfl, by simp⟩
  | stay h1 h2 h3 ih => exact ⟨ih.1, by omega⟩
  | go h1 h2 h3 ih => exact ⟨by rw [List.length_set]; exact ih.1, by rw [List.length_append]; simp; omega⟩
theorem mst_rest {k : Nat} {L : List Trp} {I : List Int} (h : Mst A B l f L0 k L I) : ∀ j, k ≤ j → L[j]? = L0[j]? := by
  induction h with
  | zero => exact fun j _ => rfl
  | stay h1 h2 h3 ih => exact fun j hj => ih j (by omega)
  | go h1 h2 h3 ih =>
    intro j hj
    rw [List.getElem?_set_ne (by omega)]
    exact ih j (by omega)
/-- The goes' order is no matter but for what is told for each number. -/
theorem mst_congr {f' : Int → Option Cel} (hf : ∀ i, f' i = f i) {k : Nat} {L : List Trp} {I : List Int} (h : Mst A B l f L0 k L I) : Mst A B l f' L0 k L I := by
  have : f' = f := funext hf
  rw [this]; exact h
end
theorem flat7_cell (c : Cel) : ∀ (Q : List Trp) (k : Nat) (hk : k < Q.length), flat7 (Q.set k (Q[k].go c)) = ((flat7 Q).set (k * 7 + 3) (.int .i64 c.x)).set (k * 7 + 4) (.int .i64 c.y) := by
  intro Q
  induction Q with
  | nil => intro k h; simp at h
  | cons s Q ih =>
    intro k h
    cases k with
    | zero => rfl
    | succ k =>
      have := ih k (by simpa using h)
      have e : (k + 1) * 7 + 3 = (k * 7 + 3) + 7 := by omega
      have e2 : (k + 1) * 7 + 4 = (k * 7 + 4) + 7 := by omega
      rw [e, e2, List.set_cons_succ, flat7_cons, flat7_cons]
      simp only [List.getElem_cons_succ]
      rw [this]; rfl
/-- The loop's state: k have gone. -/
structure tinv (w4 : World) (B C n cap : Nat) (p : Option Addr) (A' B' : Int) (l : List Int) (f : Int → Option Cel) (L0 : List Trp) (k : Nat) (L : List Trp) (I : List Int) (gv : Value) (wr : World) : Prop where
  x : Ex (fun g => some g = (Value.slice p n cap).ownBlock) w4 wr
  t : minet B wr (.slice p n cap) L
  a : alli wr (.slice p n cap)
  g : mine 3 vi C wr gv I
  m : Mst A' B' l f L0 k L I
section
variable {w4 V V' : World} {B C n cap k : Nat} {p : Option Addr} {A' B' : Int} {l : List Int} {f : Int → Option Cel} {L0 L : List Trp} {I : List Int} {gv : Value}
theorem tinv_below (hs : tinv w4 B C n cap p A' B' l f L0 k L I gv V) (hb : Below V.heap.size V V') : tinv w4 B C n cap p A' B' l f L0 k L I gv V' :=
  ⟨ex_call hs.x hb, minet_kept hs.t hb, alli_below hs.a hb, mine_below hs.g hb, hs.m⟩
theorem tinv_stay {t : Trp} (hs : tinv w4 B C n cap p A' B' l f L0 k L I gv V) (ht : L[k]? = some t) (hy : sty A' B' l f L t) : tinv w4 B C n cap p A' B' l f L0 (k + 1) L I gv V := ⟨hs.x, hs.t, hs.a, hs.g, hs.m.stay ht hy⟩
theorem minet_go {B g n cap : Nat} {w : World} {Q : List Trp} (h : minet B w (.slice (some ⟨g, 0, none⟩) n cap) Q) (hn : Q.length = n) {k : Nat} {t : Trp} (ht : Q[k]? = some t) (c : Cel) :
    minet B ((w.setCell ⟨g, k * 7 + 3, none⟩ (.int .i64 c.x)).setCell ⟨g, k * 7 + 4, none⟩ (.int .i64 c.y)) (.slice (some ⟨g, 0, none⟩) n cap) (Q.set k (t.go c)) := by
  subst hn
  obtain ⟨hk, rfl⟩ := List.getElem?_eq_some_iff.1 ht
  unfold minet at h ⊢
  rw [flat7_cell c Q k hk, List.length_set]
  exact (World.ownsRow.stored (World.ownsRow.stored h _ _).1 _ _).1
/-- Behind the store: the row holds the troop on its new cell, the list of those that moved is as it was. -/
theorem tinv_set {g : Nat} {t : Trp} {c : Cel} (hs : tinv w4 B C n cap (some ⟨g, 0, none⟩) A' B' l f L0 k L I gv V) (hg : g < C) (hn : L.length = n) (ht : L[k]? = some t) (W : World) (hW : W = (V.setCell ⟨g, k * 7 + 3, none⟩ (.int .i64 c.x)).setCell ⟨g, k * 7 + 4, none⟩ (.int .i64 c.y)) :
    Ex (fun g' => some g' = (Value.slice (some ⟨g, 0, none⟩) n cap).ownBlock) w4 W ∧ minet B W (.slice (some ⟨g, 0, none⟩) n cap) (L.set k (t.go c)) ∧ alli W (.slice (some ⟨g, 0, none⟩) n cap) ∧ mine 3 vi C W gv I := by
  subst hW
  refine ⟨ex_set (ex_set hs.x ⟨g, k * 7 + 3, none⟩ rfl _) ⟨g, k * 7 + 4, none⟩ rfl _, minet_go hs.t hn ht c, alli_set (alli_set hs.a _ _ _) _ _ _, ?_⟩
  have ho : ∀ g', gv.ownBlock = some g' → ¬ g' = g := fun g' hg' e => by have := own_base hs.g g' hg'; omega
  exact mine_kept (mine_kept hs.g (Ex.set (S := fun g' => g' = g) V ⟨g, k * 7 + 3, none⟩ rfl _) ho) (Ex.set (S := fun g' => g' = g) _ ⟨g, k * 7 + 4, none⟩ rfl _) ho
/-- And behind the append. -/
theorem tinv_go {v' : Value} {t : Trp} {c : Cel} (hx : Ex (fun g => some g = (Value.slice p n cap).ownBlock) w4 V) (hmt : minet B V (.slice p n cap) (L.set k (t.go c))) (ha : alli V (.slice p n cap)) (hgI : mine 3 vi C V gv I) (hm0 : Mst A' B' l f L0 k L I) (hC : w4.heap.size ≤ C) (hp : ∀ g, (Value.slice p n cap).ownBlock = some g → g < C)
    (ht : L[k]? = some t) (hgo : gos A' B' l f L t c) (hm : mine 3 vi C V' v' (I ++ [t.i])) (hg : V.grownBy V' gv.ownBlock) :
    tinv w4 B C n cap p A' B' l f L0 (k + 1) (L.set k (t.go c)) (I ++ [t.i]) v' V' := by
  have hx2 := Ex.of_grown hg
  have hne : ∀ g, (Value.slice p n cap).ownBlock = some g → ¬ some g = gv.ownBlock := fun g h1 h2 => by have := hp g h1; have := own_base hgI g h2.symm; omega
  refine ⟨hx.trans hx2 (fun i hi e => ?_), own_stays hmt hx2 hne, alli_ex ha hx2 hne, hm, hm0.go ht hgo⟩
  have := own_base hgI i e.symm
  omega
end
end Go.Proofs.Ytnbbfnlfcncgnaa
