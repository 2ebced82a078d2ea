/- What flood.From returns, whatever is handed in; ways, and back. -/
import Derived.Test.YtkdammmikmljmaaFm
import Derived.Test.YtkdammmikmljmaaOpc
namespace Go.Proofs.Ytkdammmikmljmaa
open Go.RowKit
set_option linter.unusedVariables false

/-- A field of W times H places, each of a sort. -/
def okf (W H : Nat) (l : List Int) : Prop := (1 ≤ W ∧ W ≤ 40) ∧ (1 ≤ H ∧ H ≤ 40) ∧ l.length = W * H ∧ l.any bad = false
/-- Which error From is of. -/
def fer (A B : Int) (l : List Int) (cs : List Cel) : Int := if ck A B l ≠ 0 then ck A B l else if 100 < cs.length then 2 else cke A.toNat B.toNat l cs
/-- From has found nothing but an error. -/
def fno (A B : Int) (l : List Int) (cs : List Cel) (e : Ending) : Prop := ∃ E, E ≠ 0 ∧ fer A B l cs = E ∧ e = .returned (.tuple #[.slice none 0 0, .int .i64 E])
/-- From has found how far it is. -/
def fyes (A B : Int) (l : List Int) (cs : List Cel) (n : Nat) (w w' : World) (e : Ending) : Prop := ∃ (W H g : Nat) (far : List Int), A = W ∧ B = H ∧ n = W * H ∧ okf W H l ∧ cs.length ≤ 100 ∧ cke W H l cs = 0 ∧ e = .returned (.tuple #[.slice (some ⟨g, 0, none⟩) (W * H) (W * H), .int .i64 0]) ∧ mine 3 vi w.heap.size w' (.slice (some ⟨g, 0, none⟩) (W * H) (W * H)) far ∧ Sol W H l (fst_ W cs) far
theorem From_any (A B : Int) (p q : Option Addr) (n c m d : Nat) (l : List Int) (cs : List Cel) (w : World) (hr : row vi w p l) (hn : l.length = n) (hm : n ≤ 9223372036854775807) (hc : crow w q cs) (hcm : cs.length = m) :
    Calls Try.prog 12 #[.agg #[.int .i64 A, .int .i64 B, .slice p n c], .slice q m d] w fun e w' => (fno A B l cs e ∨ fyes A B l cs n w w' e) ∧ Below w.heap.size w w' := by
  by_cases h0 : ck A B l = 0
  · obtain ⟨W, H, rfl, rfl, hW, hH, hl, hg⟩ := ck_yes h0
    have h1 : 1 ≤ l.length := by rw [hl]; exact one_le hW hH
    obtain ⟨a, rfl⟩ := row_some hr (by omega)
    have ha : a.block < w.heap.size := by
      obtain ⟨b, hb, hcl⟩ := row_at hr (j := 0) (by omega)
      cases hb
      have := cell_lt hcl
      rwa [add_block] at this
    rw [hl] at hn
    subst hn
    by_cases h2 : 100 < m
    · refine (From_many W H (some a) q (W * H) c m d l w hr hl hm h0 h2).mono ?_
      rintro e w' ⟨rfl, hb⟩
      exact ⟨.inl ⟨2, by decide, by unfold fer; rw [if_neg (by simp [h0]), if_pos (by omega)], rfl⟩, hb⟩
    · by_cases h3 : cke W H l cs = 0
      · refine (From_ok W H a q c m d l cs w hr hW hH hl hg hc hcm (by omega) h3 ha).mono ?_
        rintro e w' ⟨g, far, rfl, h4, h5, hb⟩
        exact ⟨.inr ⟨W, H, g, far, rfl, rfl, rfl, ⟨hW, hH, hl, hg⟩, by omega, h3, rfl, h4, h5⟩, hb⟩
      · refine (From_cells W H a q c m d l cs _ w hr hW hH hl hg hc hcm (by omega) rfl h3).mono ?_
        rintro e w' ⟨rfl, hb⟩
        exact ⟨.inl ⟨_, h3, by unfold fer; rw [if_neg (by simp [h0]), if_neg (by omega)]; rfl, rfl⟩, hb⟩
  · refine (From_no A B p q n c m d l _ w hr hn hm rfl h0).mono ?_
    rintro e w' ⟨rfl, hb⟩
    exact ⟨.inl ⟨_, h0, by unfold fer; rw [if_pos h0], rfl⟩, hb⟩
theorem crow_one (w : World) (x y : Int) : crow (w.alloc (.cells #[.int .i64 x, .int .i64 y] 26)) (some ⟨w.heap.size, 0, none⟩) [⟨x, y⟩] := by
  intro j c hj
  match j, hj with
  | 0, hj =>
    simp at hj
    refine ⟨_, rfl, ?_, ?_⟩
    · rw [← hj, add_zero_at]; simp [go_sem]
    · rw [← hj, add_zero_at]; simp [go_sem]
  | (k + 1), hj => simp at hj

/-- From p there is a way to a place, of such a cost. -/
inductive Way (W H : Nat) (l : List Int) (p : Nat) : Nat → Int → Prop
  | nil : Way W H l p p 0
  | snoc {n q : Nat} {c : Int} : Way W H l p n c → adj W H n q → pa l q ≠ 1 → Way W H l p q (c + kc (pa l q))
theorem way_end {W H : Nat} {l : List Int} {p q : Nat} {c : Int} (h : Way W H l p q c) (hp : pa l p ≠ 1) : pa l q ≠ 1 := by
  cases h with
  | nil => exact hp
  | snoc _ _ h => exact h
theorem way_cons {W H : Nat} {l : List Int} {p n q : Nat} {c : Int} (ha : adj W H p n) (hn : pa l n ≠ 1) (h : Way W H l n q c) : Way W H l p q (kc (pa l n) + c) := by
  induction h with
  | nil => have := Way.snoc Way.nil ha hn; rw [Int.zero_add] at this; rwa [Int.add_zero]
  | snoc h1 h2 h3 ih => have := Way.snoc ih h2 h3; rwa [Int.add_assoc] at this
theorem way_back {W H : Nat} {l : List Int} {p q : Nat} {c : Int} (hp : pa l p ≠ 1) (h : Way W H l p q c) : Way W H l q p (c - kc (pa l q) + kc (pa l p)) := by
  induction h with
  | nil => have : (0 : Int) - kc (pa l p) + kc (pa l p) = 0 := by omega
           rw [this]; exact Way.nil
  | snoc h1 h2 h3 ih =>
    have := way_cons (adj_symm h2) (way_end h1 hp) ih
    have e : ∀ a b c d : Int, a + (b - a + d) = b + c - c + d := by intros; omega
    rwa [e] at this
theorem sol_way {W H : Nat} {l : List Int} {S : Nat → Prop} {p : Nat} {far : List Int} (h : Sol W H l S far) (hS : ∀ i, i < W * H → (S i ↔ i = p)) : ∀ (n : Nat) (q : Nat), q < W * H → pa far q = n → Way W H l p q n := by
  intro n
  induction n using Nat.strongRecOn with
  | ind n ih =>
    intro q hq he
    rcases Nat.eq_zero_or_pos n with h0 | h0
    · have : q = p := (hS q hq).1 ((h.zero q hq).1 (by omega))
      rw [h0, this]; exact Way.nil
    · obtain ⟨m, h1, h2, h3⟩ := h.just q hq (by omega)
      have hk := kc_bd (pa l q)
      have hr : pa l q ≠ 1 := fun e => by have := h.rock q hq e; omega
      have h4 := ih (pa far m).toNat (by omega) m (adj_lt h1).1 (by omega)
      have h5 := Way.snoc h4 h1 hr
      have : ((pa far m).toNat : Int) + kc (pa l q) = n := by omega
      rwa [this] at h5
theorem way_le {W H : Nat} {l : List Int} {S : Nat → Prop} {p q : Nat} {c : Int} {far : List Int} (h : Sol W H l S far) (hS : ∀ i, i < W * H → (S i ↔ i = p)) (hp : p < W * H) (hw : Way W H l p q c) : 0 ≤ pa far q ∧ pa far q ≤ c := by
  induction hw with
  | nil => have := (h.zero p hp).2 ((hS p hp).2 rfl); omega
  | snoc h1 h2 h3 ih => have := h.best _ _ h2 ih.1 h3; omega
theorem sol_back {W H : Nat} {l : List Int} {S T : Nat → Prop} {p q : Nat} {x y : List Int} (hx : Sol W H l S x) (hy : Sol W H l T y) (hS : ∀ i, i < W * H → (S i ↔ i = p)) (hT : ∀ i, i < W * H → (T i ↔ i = q)) (hp : p < W * H) (hq : q < W * H) (rp : pa l p ≠ 1) (rq : pa l q ≠ 1) :
    (pa x q < 0 ∧ pa y p < 0) ∨ (0 ≤ pa x q ∧ pa x q - kc (pa l q) = pa y p - kc (pa l p)) := by
  have k1 : 0 ≤ pa x q → 0 ≤ pa y p ∧ pa y p ≤ pa x q - kc (pa l q) + kc (pa l p) := fun h0 =>
    way_le hy hT hq (by have := way_back rp (sol_way hx hS (pa x q).toNat q hq (by omega)); rwa [Int.toNat_of_nonneg h0] at this)
  have k2 : 0 ≤ pa y p → 0 ≤ pa x q ∧ pa x q ≤ pa y p - kc (pa l p) + kc (pa l q) := fun h0 =>
    way_le hx hS hp (by have := way_back rq (sol_way hy hT (pa y p).toNat p hp (by omega)); rwa [Int.toNat_of_nonneg h0] at this)
  by_cases h0 : 0 ≤ pa x q
  · have := k1 h0; have := k2 (k1 h0).1; right; omega
  · by_cases h1 : 0 ≤ pa y p
    · exact absurd (k2 h1).1 h0
    · left; omega
theorem fst_one {W : Nat} {x y : Nat} {i : Nat} : fst_ W [⟨x, y⟩] i ↔ i = y * W + x := by
  unfold fst_
  constructor
  · rintro ⟨a, b, h, e⟩
    simp at h
    have e1 : a = x := by omega
    have e2 : b = y := by omega
    rw [e, e1, e2]
  · intro e; exact ⟨x, y, by simp, e⟩
theorem sol_bd {W H : Nat} {l : List Int} {S : Nat → Prop} {far : List Int} (h : Sol W H l S far) (hN : W * H ≤ 1600) (i : Nat) (hi : i < W * H) : -1 ≤ pa far i ∧ pa far i ≤ 4800 := by
  have := h.top i hi
  rcases h.low i hi with e | e <;> omega
theorem mine_row {B g n cap : Nat} {w : World} {L : List Int} (h : mine 3 vi B w (.slice (some ⟨g, 0, none⟩) n cap) L) : row vi w (some ⟨g, 0, none⟩) L := by
  obtain ⟨p, c', e, h, _⟩ := mine_full h
  simp only [Value.slice.injEq] at e
  rw [e.1]; exact h
end Go.Proofs.Ytkdammmikmljmaa
