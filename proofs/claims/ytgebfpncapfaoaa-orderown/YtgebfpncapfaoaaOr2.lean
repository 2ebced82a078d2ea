/- What order.Read returns. -/
import Derived.Test.YtgebfpncapfaoaaOw
import Derived.BigRegion
namespace Go.Proofs.Ytgebfpncapfaoaa
open Go.RowKit
set_option linter.unusedVariables false

/-- Numbers, six by six, as orders. -/
def sixes : List Int → List Ord
  | b :: k :: w :: x :: y :: a :: r => ⟨b, k, w, x, y, a⟩ :: sixes r
  | _ => []
theorem sixes_nums (l : List Ord) : sixes (nums l) = l := by
  induction l with
  | nil => rfl
  | cons o l ih =>
    rw [nums_cons]
    show sixes (o.b :: o.k :: o.w :: o.x :: o.y :: o.a :: nums l) = _
    unfold sixes
    rw [ih]
theorem sixes_ind {P : List Int → Prop} (h0 : ∀ q, q.length < 6 → P q) (h1 : ∀ b k w x y a r, P r → P (b :: k :: w :: x :: y :: a :: r)) : ∀ q, P q
  | [] => h0 _ (by simp)
  | [_] => h0 _ (by simp)
  | [_, _] => h0 _ (by simp)
  | [_, _, _] => h0 _ (by simp)
  | [_, _, _, _] => h0 _ (by simp)
  | [_, _, _, _, _] => h0 _ (by simp)
  | b :: k :: w :: x :: y :: a :: r => h1 b k w x y a r (sixes_ind h0 h1 r)
theorem sixes_short : ∀ q : List Int, q.length < 6 → sixes q = []
  | [], _ => rfl
  | [_], _ => rfl
  | [_, _], _ => rfl
  | [_, _, _], _ => rfl
  | [_, _, _, _], _ => rfl
  | [_, _, _, _, _], _ => rfl
  | _ :: _ :: _ :: _ :: _ :: _ :: r, h => by simp at h; omega
theorem sixes_len : ∀ q : List Int, (sixes q).length = q.length / 6 := by
  refine sixes_ind (fun q h => ?_) (fun b k w x y a r ih => ?_)
  · rw [sixes_short q h, Nat.div_eq_of_lt h]; rfl
  · unfold sixes; simp only [List.length_cons, ih]; omega
theorem nums_sixes : ∀ q : List Int, q.length % 6 = 0 → nums (sixes q) = q := by
  refine sixes_ind (P := fun q => q.length % 6 = 0 → nums (sixes q) = q) (fun q h h2 => ?_) (fun b k w x y a r ih h => ?_)
  · have : q = [] := List.eq_nil_of_length_eq_zero (by rw [Nat.mod_eq_of_lt h] at h2; exact h2)
    subst this; rfl
  · unfold sixes; rw [nums_cons, ih (by simp only [List.length_cons] at h; omega)]; rfl
theorem sixes_at : ∀ (q : List Int) (i : Nat) (h : i < (sixes q).length), q[6 * i]? = some (sixes q)[i].b ∧ q[6 * i + 1]? = some (sixes q)[i].k ∧ q[6 * i + 2]? = some (sixes q)[i].w ∧ q[6 * i + 3]? = some (sixes q)[i].x ∧ q[6 * i + 4]? = some (sixes q)[i].y ∧ q[6 * i + 5]? = some (sixes q)[i].a := by
  refine sixes_ind (P := fun q => ∀ (i : Nat) (h : i < (sixes q).length), q[6 * i]? = some (sixes q)[i].b ∧ q[6 * i + 1]? = some (sixes q)[i].k ∧ q[6 * i + 2]? = some (sixes q)[i].w ∧ q[6 * i + 3]? = some (sixes q)[i].x ∧ q[6 * i + 4]? = some (sixes q)[i].y ∧ q[6 * i + 5]? = some (sixes q)[i].a) (fun q h i hi => ?_) (fun b k w x y a r ih i hi => ?_)
  · rw [sixes_short q h] at hi; simp at hi
  · cases i with
    | zero => simp [sixes]
    | succ i =>
      have e : 6 * (i + 1) = 6 * i + 6 := by omega
      have := ih i (by unfold sixes at hi; simpa using hi)
      simp only [e, sixes, List.getElem_cons_succ]
      simpa [Nat.add_assoc] using this
theorem sixes_get (q : List Int) (i : Nat) (h : i < (sixes q).length) : ∃ o, (sixes q)[i]? = some o ∧ q[6 * i]? = some o.b ∧ q[6 * i + 1]? = some o.k ∧ q[6 * i + 2]? = some o.w ∧ q[6 * i + 3]? = some o.x ∧ q[6 * i + 4]? = some o.y ∧ q[6 * i + 5]? = some o.a :=
  ⟨_, List.getElem?_eq_getElem h, sixes_at q i h⟩
theorem sixes_fits {q : List Int} (h : ∀ x ∈ q, fits x) : ∀ o ∈ sixes q, fito o := by
  intro o ho
  obtain ⟨i, hi, rfl⟩ := List.getElem_of_mem ho
  obtain ⟨h0, h1, h2, h3, h4, h5⟩ := sixes_at q i hi
  exact ⟨h _ (List.mem_of_getElem? h0), h _ (List.mem_of_getElem? h1), h _ (List.mem_of_getElem? h2), h _ (List.mem_of_getElem? h3), h _ (List.mem_of_getElem? h4), h _ (List.mem_of_getElem? h5)⟩
/-- What is read of numbers that were got, and of a text. -/
def rdn (g : List Int × Nat) : List Ord × Int := if g.2 = 0 then (if g.1.length % 6 = 0 then (if oes (sixes g.1) = 0 then (sixes g.1, 0) else ([], oes (sixes g.1))) else ([], 4)) else ([], g.2)
def rd (s : ByteArray) : List Ord × Int := if s.size < 4 then ([], 3) else if cr.tl (cr.body s) = cr.foot s then rdn (pk.ga (pk.bs (cr.body s))) else ([], 5)
theorem bs_body (s : ByteArray) : (pk.bs s).length = s.size := pk.bs_len s
/-- A row that is filled from the front. -/
def zo : Ord := ⟨0, 0, 0, 0, 0, 0⟩
def fill (l : List Ord) (k : Nat) : List Ord := l.take k ++ List.replicate (l.length - k) zo
theorem fill_zero (l : List Ord) : fill l 0 = List.replicate l.length zo := by simp [fill]
theorem fill_all (l : List Ord) : fill l l.length = l := by simp [fill]
theorem fill_length (l : List Ord) (k : Nat) (h : k ≤ l.length) : (fill l k).length = l.length := by simp [fill]; omega
theorem fill_next (l : List Ord) (k : Nat) (h : k < l.length) : (fill l k).set k l[k] = fill l (k + 1) := by
  apply List.ext_getElem
  · rw [List.length_set, fill_length _ _ (by omega), fill_length _ _ (by omega)]
  · intro j h1 h2
    rw [List.getElem_set]
    simp only [fill]
    have h3 : j < l.length := by rwa [fill_length _ _ (by omega)] at h2
    by_cases e : k = j
    · subst e
      rw [if_pos rfl, List.getElem_append_left (by simp; omega)]
      simp
    · rw [if_neg e]
      by_cases g : j < k
      · rw [List.getElem_append_left (by simp; omega), List.getElem_append_left (by simp; omega)]; simp
      · rw [List.getElem_append_right (by simp; omega), List.getElem_append_right (by simp; omega)]; simp
end Go.Proofs.Ytgebfpncapfaoaa
