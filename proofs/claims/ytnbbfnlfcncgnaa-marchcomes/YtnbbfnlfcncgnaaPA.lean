/- container/heap over a row of stops -/
import Derived.Test.YtnbbfnlfcncgnaaOwn
import Derived.WalkSmall
import Derived.Test.YtnbbfnlfcncgnaaEx
import Derived.Handy
import Derived.Deep.RegionLaw
/- A heap of stops, on lists: to lift the last one, to sink the first one. No word of the program. -/
namespace Go.Proofs.Ytnbbfnlfcncgnaa
/-- A cell, and what it costs to come there. -/
structure Stop where
  x : Int
  y : Int
  c : Int
def ky (Q : List Stop) (k : Nat) : Int := (Q.getD k ⟨0, 0, 0⟩).c
/-- Two places' stops change. -/
def swp (Q : List Stop) (i j : Nat) : List Stop := (Q.set i (Q.getD j ⟨0, 0, 0⟩)).set j (Q.getD i ⟨0, 0, 0⟩)
theorem getD_at {Q : List Stop} {k : Nat} (h : k < Q.length) : Q.getD k ⟨0, 0, 0⟩ = Q[k] := by rw [List.getD_eq_getElem?_getD, List.getElem?_eq_getElem h]; rfl
theorem swp_len (Q : List Stop) (i j : Nat) : (swp Q i j).length = Q.length := by simp [swp]
theorem swp_perm (L : List Stop) {i j : Nat} (hi : i < L.length) (hj : j < L.length) : (swp L i j).Perm L := by
  have h := Array.swap_perm (xs := L.toArray) (i := i) (j := j) (by simpa using hi) (by simpa using hj)
  have e : (L.toArray.swap i j (by simpa using hi) (by simpa using hj)).toList = swp L i j := by
    rw [Array.toList_swap]
    unfold swp
    simp [List.getD_eq_getElem?_getD, List.getElem?_eq_getElem hi, List.getElem?_eq_getElem hj]
  have h2 := h.toList
  rw [e] at h2; simpa using h2
theorem swp_get (Q : List Stop) {i j : Nat} (hi : i < Q.length) (hj : j < Q.length) (k : Nat) : (swp Q i j).getD k ⟨0, 0, 0⟩ = if k = j then Q.getD i ⟨0, 0, 0⟩ else if k = i then Q.getD j ⟨0, 0, 0⟩ else Q.getD k ⟨0, 0, 0⟩ := by
  unfold swp
  rw [List.getD_eq_getElem?_getD, List.getElem?_set]
  by_cases h1 : j = k
  · subst h1
    rw [if_pos rfl, if_pos (by simpa using hj), if_pos rfl]; rfl
  · rw [if_neg h1, if_neg (fun e => h1 e.symm), List.getElem?_set]
    by_cases h2 : i = k
    · subst h2
      rw [if_pos rfl, if_pos hi, if_pos rfl]; rfl
    · rw [if_neg h2, if_neg (fun e => h2 e.symm), List.getD_eq_getElem?_getD]
theorem swp_ky (Q : List Stop) {i j : Nat} (hi : i < Q.length) (hj : j < Q.length) (k : Nat) : ky (swp Q i j) k = if k = j then ky Q i else if k = i then ky Q j else ky Q k := by
  unfold ky
  rw [swp_get Q hi hj]
  by_cases h1 : k = j
  · rw [if_pos h1, if_pos h1]
  · by_cases h2 : k = i
    · rw [if_neg h1, if_neg h1, if_pos h2, if_pos h2]
    · rw [if_neg h1, if_neg h1, if_neg h2, if_neg h2]

/-- Of the first n no one costs less than who is above it. -/
def hp (n : Nat) (Q : List Stop) : Prop := ∀ k, 0 < k → k < n → ky Q ((k - 1) / 2) ≤ ky Q k
theorem hp_first {n : Nat} {Q : List Stop} (h : hp n Q) : ∀ k, k < n → ky Q 0 ≤ ky Q k := by
  intro k
  induction k using Nat.strongRecOn with
  | ind k ih =>
    intro hk
    rcases Nat.eq_zero_or_pos k with rfl | h0
    · exact Int.le_refl _
    · have h1 := ih ((k - 1) / 2) (by omega) (by omega)
      have h2 := h k h0 hk
      omega
/-- A heap but for place j, which may cost too little. -/
def hup (j : Nat) (Q : List Stop) : Prop := (∀ k, 0 < k → k < Q.length → k ≠ j → ky Q ((k - 1) / 2) ≤ ky Q k) ∧ (∀ k, 0 < k → k < Q.length → (k - 1) / 2 = j → 0 < j → ky Q ((j - 1) / 2) ≤ ky Q k)
theorem hup_swap {j : Nat} {Q : List Stop} (h : hup j Q) (h0 : 0 < j) (hj : j < Q.length) (hl : ky Q j < ky Q ((j - 1) / 2)) : hup ((j - 1) / 2) (swp Q ((j - 1) / 2) j) := by
  obtain ⟨h1, h2⟩ := h
  obtain ⟨i, hi⟩ : ∃ i, (j - 1) / 2 = i := ⟨_, rfl⟩
  rw [hi] at hl ⊢
  have hil : i < Q.length := by omega
  have hij : i < j := by omega
  constructor
  · intro k hk hkl hki
    rw [swp_len] at hkl
    rw [swp_ky Q hil hj, swp_ky Q hil hj]
    have a1 := h1 k hk hkl
    have a2 := h2 k hk hkl
    by_cases e1 : k = j
    · subst e1
      rw [if_neg (by omega), if_pos hi, if_pos rfl]; omega
    · by_cases e2 : (k - 1) / 2 = j
      · rw [if_pos e2, if_neg e1, if_neg hki]
        have := a2 e2 h0; rw [hi] at this; exact this
      · by_cases e3 : (k - 1) / 2 = i
        · rw [if_neg e2, if_pos e3, if_neg e1, if_neg hki]
          have := a1 e1; rw [e3] at this; omega
        · rw [if_neg e2, if_neg e3, if_neg e1, if_neg hki]; exact a1 e1
  · intro k hk hkl hki hi0
    rw [swp_len] at hkl
    rw [swp_ky Q hil hj, swp_ky Q hil hj]
    have a3 := h1 i hi0 hil (by omega)
    rw [if_neg (by omega), if_neg (by omega)]
    by_cases e1 : k = j
    · rw [if_pos e1]; exact a3
    · rw [if_neg e1, if_neg (by omega)]
      have := h1 k hk hkl e1; rw [hki] at this; omega
theorem hup_end {j : Nat} {Q : List Stop} (h : hup j Q) (he : j = 0 ∨ ky Q ((j - 1) / 2) ≤ ky Q j) : hp Q.length Q := by
  intro k hk hkl
  by_cases e : k = j
  · subst e; rcases he with he | he
    · omega
    · exact he
  · exact h.1 k hk hkl e
theorem hup_new {Q : List Stop} {s : Stop} (h : hp Q.length Q) : hup Q.length (Q ++ [s]) := by
  have e : ∀ k, k < Q.length → ky (Q ++ [s]) k = ky Q k := by
    intro k hk; unfold ky; rw [List.getD_eq_getElem?_getD, List.getD_eq_getElem?_getD, List.getElem?_append_left hk]
  refine ⟨fun k hk hkl hne => ?_, fun k hk hkl he h0 => ?_⟩
  · simp at hkl
    rw [e _ (by omega), e _ (by omega)]; exact h k hk (by omega)
  · simp at hkl; omega

/-- A heap of the first n but for place i, which may cost too much. -/
def hdn (n i : Nat) (Q : List Stop) : Prop := (∀ k, 0 < k → k < n → (k - 1) / 2 ≠ i → ky Q ((k - 1) / 2) ≤ ky Q k) ∧ (∀ k, 0 < k → k < n → (k - 1) / 2 = i → 0 < i → ky Q ((i - 1) / 2) ≤ ky Q k)
theorem hdn_swap {n i j : Nat} {Q : List Stop} (h : hdn n i Q) (hn : n ≤ Q.length) (hj : j < n) (h0 : 0 < j) (hp : (j - 1) / 2 = i) (hl : ky Q j < ky Q i) (hs : ∀ k, 0 < k → k < n → (k - 1) / 2 = i → ky Q j ≤ ky Q k) : hdn n j (swp Q i j) := by
  obtain ⟨h1, h2⟩ := h
  have hil : i < Q.length := by omega
  have hjl : j < Q.length := by omega
  constructor
  · intro k hk hkl hkj
    rw [swp_ky Q hil hjl, swp_ky Q hil hjl, if_neg hkj]
    by_cases e3 : (k - 1) / 2 = i
    · rw [if_pos e3]
      by_cases e1 : k = j
      · rw [if_pos e1]; omega
      · rw [if_neg e1, if_neg (by omega)]; exact hs k hk hkl e3
    · rw [if_neg e3, if_neg (fun e => e3 (by rw [e]; exact hp))]
      by_cases e2 : k = i
      · rw [if_pos e2]
        subst e2
        exact h2 j h0 hj hp hk
      · rw [if_neg e2]; exact h1 k hk hkl e3
  · intro k hk hkl hkj hj0
    rw [swp_ky Q hil hjl, swp_ky Q hil hjl, hp, if_neg (by omega), if_pos rfl, if_neg (by omega), if_neg (by omega)]
    have := h1 k hk hkl (by omega); rw [hkj] at this; exact this
theorem hdn_end {n i : Nat} {Q : List Stop} (h : hdn n i Q) (he : ∀ k, 0 < k → k < n → (k - 1) / 2 = i → ky Q i ≤ ky Q k) : hp n Q := by
  intro k hk hkl
  by_cases e : (k - 1) / 2 = i
  · rw [e]; exact he k hk hkl e
  · exact h.1 k hk hkl e
theorem hdn_pop {n : Nat} {Q : List Stop} (h : hp (n + 1) Q) (hn : Q.length = n + 1) : hdn n 0 (swp Q 0 n) := by
  refine ⟨fun k hk hkl hne => ?_, fun k hk hkl he h0 => by omega⟩
  rw [swp_ky Q (by omega) (by omega), swp_ky Q (by omega) (by omega), if_neg (by omega), if_neg hne, if_neg (by omega), if_neg (by omega)]
  exact h k hk (by omega)
/-- What is left behind a pop. -/
theorem take_hp {n : Nat} {Q : List Stop} (h : hp n Q) (hn : n ≤ Q.length) : hp (Q.take n).length (Q.take n) := by
  have e : ∀ k, k < n → ky (Q.take n) k = ky Q k := by
    intro k hk; unfold ky; rw [List.getD_eq_getElem?_getD, List.getD_eq_getElem?_getD, List.getElem?_take, if_pos hk]
  intro k hk hkl
  have hkn : k < n := by simp at hkl; omega
  rw [e _ (by omega), e _ hkn]; exact h k hk hkn
theorem ky_of {Q : List Stop} {k : Nat} {s : Stop} (h : Q.getD k ⟨0, 0, 0⟩ = s) : ky Q k = s.c := by unfold ky; rw [h]
theorem mem_ky {Q : List Stop} {s : Stop} (h : s ∈ Q) : ∃ k, k < Q.length ∧ ky Q k = s.c := by
  obtain ⟨k, hk, rfl⟩ := List.mem_iff_getElem.1 h
  exact ⟨k, hk, by unfold ky; rw [getD_at hk]⟩
theorem split_last {n : Nat} {Q : List Stop} (hn : Q.length = n + 1) : Q.Perm (Q.getD n ⟨0, 0, 0⟩ :: Q.take n) := by
  have e : Q = Q.take n ++ [Q.getD n ⟨0, 0, 0⟩] := by
    rw [getD_at (by omega)]
    have := (List.take_succ_eq_append_getElem (l := Q) (i := n) (by omega)).symm
    rw [this, ← hn, List.take_length]
  have h2 : (Q.take n ++ [Q.getD n ⟨0, 0, 0⟩]).Perm (Q.getD n ⟨0, 0, 0⟩ :: Q.take n) := List.perm_append_comm (l₁ := Q.take n) (l₂ := [Q.getD n ⟨0, 0, 0⟩])
  rw [← e] at h2
  exact h2
end Go.Proofs.Ytnbbfnlfcncgnaa
/- What is turned, and what is not: a frame but for some blocks. A queue of stops in memory. -/
namespace Go.Proofs.Ytnbbfnlfcncgnaa
open Go.RowKit
set_option linter.unusedVariables false

def fl (s : Stop) : List Value := [.int .i64 s.x, .int .i64 s.y, .int .i64 s.c]
def flat (Q : List Stop) : List Value := Q.flatMap fl
theorem flat_cons (s : Stop) (Q : List Stop) : flat (s :: Q) = .int .i64 s.x :: .int .i64 s.y :: .int .i64 s.c :: flat Q := rfl
theorem flat_len (Q : List Stop) : (flat Q).length = Q.length * 3 := by
  induction Q with
  | nil => rfl
  | cons s Q ih => rw [flat_cons]; simp [ih]; omega
theorem flat_app (Q R : List Stop) : flat (Q ++ R) = flat Q ++ flat R := by unfold flat; rw [List.flatMap_append]
theorem flat_at (Q : List Stop) : ∀ k, (h : k < Q.length) → (flat Q)[k * 3]? = some (.int .i64 Q[k].x) ∧ (flat Q)[k * 3 + 1]? = some (.int .i64 Q[k].y) ∧ (flat Q)[k * 3 + 2]? = some (.int .i64 Q[k].c) := by
  induction Q with
  | nil => intro k h; simp at h
  | cons s Q ih =>
    intro k h
    rw [flat_cons]
    cases k with
    | zero => exact ⟨rfl, rfl, rfl⟩
    | succ k =>
      have := ih k (by simpa using h)
      have e : (k + 1) * 3 = k * 3 + 3 := by omega
      rw [e]
      exact this
theorem flat_set (s : Stop) : ∀ (Q : List Stop) (k : Nat), k < Q.length → flat (Q.set k s) = (((flat Q).set (k * 3) (.int .i64 s.x)).set (k * 3 + 1) (.int .i64 s.y)).set (k * 3 + 2) (.int .i64 s.c) := by
  intro Q
  induction Q with
  | nil => intro k h; simp at h
  | cons t Q ih =>
    intro k h
    cases k with
    | zero => rfl
    | succ k =>
      have := ih k (by simpa using h)
      have e : (k + 1) * 3 = k * 3 + 3 := by omega
      rw [e, List.set_cons_succ, flat_cons, flat_cons, this]; rfl
/-- The queue v holds the stops Q, in memory of one's own from block B on. -/
def que (B : Nat) (w : World) (v : Value) (Q : List Stop) : Prop := w.ownsRow B 136 3 v Q.length (flat Q)
section
variable {B : Nat} {w w' : World} {v : Value} {Q : List Stop}
theorem que_nil (B : Nat) (w : World) : que B w (.slice none 0 0) [] := World.ownsRow_nil _ _ _ _
theorem que_kept {S : Nat → Prop} (h : que B w v Q) (he : Ex S w w') (hn : ∀ g, v.ownBlock = some g → ¬ S g) : que B w' v Q := by
  refine ⟨h.1, ?_⟩
  rcases h.2 with h0 | ⟨g', cap, cur, hv, hB, hblk, hr⟩
  · exact .inl h0
  · refine .inr ⟨g', cap, cur, hv, hB, ?_, hr⟩
    have : g' < w.heap.size := by
      rcases Nat.lt_or_ge g' w.heap.size with hlt | hge
      · exact hlt
      · rw [Array.getElem?_eq_none hge] at hblk; cases hblk
    rw [he.block g' this (hn g' (by rw [hv]; rfl))]; exact hblk
theorem que_drewN (h : que B w v Q) (m : Nat) : que B (w.drewN m) v Q := h
theorem que_drew (h : que B w v Q) : que B w.drew v Q := h
theorem que_form (h : que B w v Q) (hl : 0 < Q.length) : ∃ g cap, v = .slice (some ⟨g, 0, none⟩) Q.length cap ∧ B ≤ g ∧ g < w.heap.size ∧ Q.length ≤ cap := by
  rcases h.2 with ⟨_, h0⟩ | ⟨g, cap, cur, hv, hB, hblk, hr⟩
  · omega
  · refine ⟨g, cap, hv, hB, ?_, hr.1⟩
    rcases Nat.lt_or_ge g w.heap.size with hlt | hge
    · exact hlt
    · rw [Array.getElem?_eq_none hge] at hblk; cases hblk
theorem que_forms (h : que B w v Q) : (∃ p cap, v = .slice p Q.length cap) ∧ ∀ g, v.ownBlock = some g → B ≤ g ∧ g < w.heap.size := by
  refine ⟨?_, World.ownsRow.lt h⟩
  rcases h.2 with ⟨h0, h1⟩ | ⟨g, cap, cur, hv, hB, hblk, hr⟩
  · exact ⟨none, 0, by rw [h1]; exact h0⟩
  · exact ⟨_, _, hv⟩
variable {g n cap : Nat}
theorem que_cell (h : que B w (.slice (some ⟨g, 0, none⟩) n cap) Q) (hn : Q.length = n) {k : Nat} (hk : k < n) {s : Stop} (hs : Q.getD k ⟨0, 0, 0⟩ = s) :
    w.cell? ⟨g, k * 3, none⟩ = some (.int .i64 s.x) ∧ w.cell? ⟨g, k * 3 + 1, none⟩ = some (.int .i64 s.y) ∧ w.cell? ⟨g, k * 3 + 2, none⟩ = some (.int .i64 s.c) := by
  subst hn
  rw [getD_at hk] at hs
  have := flat_at Q k hk
  rw [hs] at this
  exact ⟨(World.ownsRow.cellAt h _ (by omega)).trans this.1, (World.ownsRow.cellAt h _ (by omega)).trans this.2.1, (World.ownsRow.cellAt h _ (by omega)).trans this.2.2⟩
theorem que_free (h : que B w (.slice (some ⟨g, 0, none⟩) n cap) Q) (hn : Q.length = n) (k : Nat) : w.frozen? ⟨g, k, none⟩ = false := by
  subst hn; exact World.ownsRow.frozenAt h k
theorem que_put (h : que B w (.slice (some ⟨g, 0, none⟩) n cap) Q) (hn : Q.length = n) {k : Nat} (hk : k < n) (s : Stop) :
    que B (((w.setCell ⟨g, k * 3, none⟩ (.int .i64 s.x)).setCell ⟨g, k * 3 + 1, none⟩ (.int .i64 s.y)).setCell ⟨g, k * 3 + 2, none⟩ (.int .i64 s.c)) (.slice (some ⟨g, 0, none⟩) n cap) (Q.set k s) := by
  subst hn
  unfold que at h ⊢
  rw [flat_set s Q k hk, List.length_set]
  exact (World.ownsRow.stored (World.ownsRow.stored (World.ownsRow.stored h _ _).1 _ _).1 _ _).1
end
end Go.Proofs.Ytnbbfnlfcncgnaa
/- The queue's own methods: how long it is, who is cheaper, two change places. -/
namespace Go.Proofs.Ytnbbfnlfcncgnaa
open Go.RowKit
set_option linter.unusedVariables false

theorem run_chk {P : Program} (ts : Array TypeId) (t : TypeId) (a : Addr) (s r : String) (w : World) : (Builtin.ssaWrapNilChk_ ts t #[.pointer (some a), strVal s, strVal r]).run P w = .ok (.pointer (some a)) w := rfl
theorem run_method_val {P : Program} {n : Nat} {t elem : TypeId} {f : FuncId} {name : String} {d : TypeId} (hm : ((P.info? t).bind fun i => i.methods.find? (·.name == name)).map (fun m => (m.path.toList, m.func)) = some ([], some (f, false))) (hu : P.underlying t = some (.pointer elem)) (he : P.underlying elem = some (.slice d))
    {w : World} {a : Addr} {v : Value} (h : w.cell? a = some v) : (Go.method (n + 1) t (.pointer (some a)) name).run P w = .ok (f, v) w := by
  cases hi : P.info? t with
  | none => rw [hi] at hm; simp at hm
  | some i =>
    rw [hi] at hm
    cases hf : i.methods.find? (·.name == name) with
    | none => simp [hf] at hm
    | some m =>
      simp [hf] at hm
      have hp : m.path.isEmpty = true := by simp [hm.1]
      simp [Go.method, typeInfo, hi, hf, hm.1, hm.2, follow, receiverAt, run_underlying hu, Place.get, run_chk, asAddr, loadVar, isAgg, run_underlying he, h]
theorem run_method_ptr {P : Program} {n : Nat} {t elem : TypeId} {f : FuncId} {name : String} (hm : ((P.info? t).bind fun i => i.methods.find? (·.name == name)).map (fun m => (m.path.toList, m.func)) = some ([], some (f, true))) (hu : P.underlying t = some (.pointer elem))
    (w : World) (v : Value) : (Go.method (n + 1) t v name).run P w = .ok (f, v) w := by
  cases hi : P.info? t with
  | none => rw [hi] at hm; simp at hm
  | some i =>
    rw [hi] at hm
    cases hf : i.methods.find? (·.name == name) with
    | none => simp [hf] at hm
    | some m =>
      simp [hf] at hm
      simp [Go.method, typeInfo, hi, hf, hm.1, hm.2, follow, receiverAt, run_underlying hu, Place.get]
theorem m_Len {w : World} {a : Addr} {v : Value} (h : w.cell? a = some v) : (Go.method 274 143 (.pointer (some a)) "Len").run Try.prog w = .ok (124, v) w := run_method_val (by kernel_rfl) Try.underlying143 Try.underlying130 h
theorem m_Less {w : World} {a : Addr} {v : Value} (h : w.cell? a = some v) : (Go.method 274 143 (.pointer (some a)) "Less").run Try.prog w = .ok (125, v) w := run_method_val (by kernel_rfl) Try.underlying143 Try.underlying130 h
theorem m_Swap {w : World} {a : Addr} {v : Value} (h : w.cell? a = some v) : (Go.method 274 143 (.pointer (some a)) "Swap").run Try.prog w = .ok (126, v) w := run_method_val (by kernel_rfl) Try.underlying143 Try.underlying130 h
theorem m_Push (w : World) (v : Value) : (Go.method 274 143 v "Push").run Try.prog w = .ok (128, v) w := run_method_ptr (by kernel_rfl) Try.underlying143 w v
theorem m_Pop (w : World) (v : Value) : (Go.method 274 143 v "Pop").run Try.prog w = .ok (127, v) w := run_method_ptr (by kernel_rfl) Try.underlying143 w v
set_option maxRecDepth 20000 in
theorem Len_any (p : Option Addr) (n cap : Nat) (w : World) : Calls Try.prog 124 #[.slice p n cap] w fun e w' => e = .returned (.int .i64 (n : Int)) ∧ w' = w := by
  go_enter Try.func124, Try.ntmps124
  go_wp2_with fail
  go_ret
  exact ⟨rfl, rfl⟩
set_option maxRecDepth 20000 in
theorem Less_any {B : Nat} (g cap n i j : Nat) (Q : List Stop) (X Y : Int) (w : World) (hq : que B w (.slice (some ⟨g, 0, none⟩) n cap) Q) (hn : Q.length = n) (hi : i < n) (hj : j < n) (hX : Hid (ky Q i = X)) (hY : Hid (ky Q j = Y)) :
    Calls Try.prog 125 #[.slice (some ⟨g, 0, none⟩) n cap, .int .i64 (i : Int), .int .i64 (j : Int)] w fun e w' => e = .returned (.bool (decide (X < Y))) ∧ ∃ m, w' = w.drewN m := by
  have c1 : w.cell? ⟨g, i * 3 + 2, none⟩ = some (.int .i64 X) := by rw [← hX.out]; exact (que_cell hq hn hi rfl).2.2
  have c2 : w.cell? ⟨g, j * 3 + 2, none⟩ = some (.int .i64 Y) := by rw [← hY.out]; exact (que_cell hq hn hj rfl).2.2
  clear hX hY hq hn
  have i1 : (i : Int) < n := by omega
  have i2 : (j : Int) < n := by omega
  have i3 : (0 : Int) ≤ i := by omega
  have i4 : (0 : Int) ≤ j := by omega
  go_enter Try.func125, Try.ntmps125
  go_wp2_with fail
  go_quiet (fail)
  go_wp2_with fail
  go_ret
  exact ⟨rfl, _, rfl⟩
set_option maxRecDepth 20000 in
set_option maxHeartbeats 1000000 in
theorem Swap_any {B : Nat} (g cap n i j : Nat) (Q : List Stop) (w : World) (hq : que B w (.slice (some ⟨g, 0, none⟩) n cap) Q) (hn : Q.length = n) (hi : i < n) (hj : j < n) :
    Calls Try.prog 126 #[.slice (some ⟨g, 0, none⟩) n cap, .int .i64 (i : Int), .int .i64 (j : Int)] w fun e w' => e = .returned (.tuple #[]) ∧ que B w' (.slice (some ⟨g, 0, none⟩) n cap) (swp Q i j) ∧ Ex (fun k => k = g) w w' := by
  have i1 : (i : Int) < n := by omega
  have i2 : (j : Int) < n := by omega
  have i3 : (0 : Int) ≤ i := by omega
  have i4 : (0 : Int) ≤ j := by omega
  obtain ⟨s, hs⟩ : ∃ s, Q.getD i ⟨0, 0, 0⟩ = s := ⟨_, rfl⟩
  obtain ⟨t, ht⟩ : ∃ t, Q.getD j ⟨0, 0, 0⟩ = t := ⟨_, rfl⟩
  obtain ⟨a1, a2, a3⟩ := que_cell hq hn hi hs
  obtain ⟨b1, b2, b3⟩ := que_cell hq hn hj ht
  have fz := que_free hq hn
  have hq1 := que_put hq hn hi t
  have hn1 : (Q.set i t).length = n := by simpa using hn
  obtain ⟨d1, d2, d3⟩ := que_cell hq1 hn1 hj rfl
  have fz1 := que_free hq1 hn1
  go_enter Try.func126, Try.ntmps126
  go_wp2_with fail
  go_region
  go_end0
  have hq2 := que_put hq1 hn1 hj s
  have e : (Q.set i t).set j s = swp Q i j := by unfold swp; rw [hs, ht]
  rw [e] at hq2
  refine ⟨rfl, que_drew hq2, ?_⟩
  have E1 := fun (V : World) (p : Addr) (u : Value) (hp : p.block = g) => Ex.set (S := fun k => k = g) V p hp u
  have T1 := fun {a b c : World} (h : Ex (fun k => k = g) a b) (k : Ex (fun k => k = g) b c) => Ex.trans h k (fun _ _ e => e)
  exact (T1 (T1 (T1 (T1 (T1 (E1 w _ _ rfl) (E1 _ _ _ rfl)) (E1 _ _ _ rfl)) (E1 _ _ _ rfl)) (E1 _ _ _ rfl)) (E1 _ _ _ rfl)).drew
theorem Less_at {B : Nat} (g cap n i j : Nat) (iv jv : Int) (Q : List Stop) (X Y : Int) (w : World) (hq : que B w (.slice (some ⟨g, 0, none⟩) n cap) Q) (hn : Q.length = n) (hi : i < n) (hj : j < n) (hX : Hid (ky Q i = X)) (hY : Hid (ky Q j = Y)) (ei : iv = i) (ej : jv = j) :
    Calls Try.prog 125 #[.slice (some ⟨g, 0, none⟩) n cap, .int .i64 iv, .int .i64 jv] w fun e w' => e = .returned (.bool (decide (X < Y))) ∧ ∃ m, w' = w.drewN m := by
  subst ei ej; exact Less_any g cap n i j Q X Y w hq hn hi hj hX hY
theorem Swap_at {B : Nat} (g cap n i j : Nat) (iv jv : Int) (Q : List Stop) (w : World) (hq : que B w (.slice (some ⟨g, 0, none⟩) n cap) Q) (hn : Q.length = n) (hi : i < n) (hj : j < n) (ei : iv = i) (ej : jv = j) :
    Calls Try.prog 126 #[.slice (some ⟨g, 0, none⟩) n cap, .int .i64 iv, .int .i64 jv] w fun e w' => e = .returned (.tuple #[]) ∧ que B w' (.slice (some ⟨g, 0, none⟩) n cap) (swp Q i j) ∧ Ex (fun k => k = g) w w' := by
  subst ei ej; exact Swap_any g cap n i j Q w hq hn hi hj
end Go.Proofs.Ytnbbfnlfcncgnaa
/- The queue's methods Push and Pop: a stop is laid behind all others, the last one is taken. -/
namespace Go.Proofs.Ytnbbfnlfcncgnaa
open Go.RowKit
set_option linter.unusedVariables false

/-- Where a tide lies: its field's sides, the places, what they cost, the queue. -/
def tbx (T : Nat) (w : World) (a b c d v : Value) : Prop := w.heap[T]? = some (.cells #[a, b, c, d, v] 132)
section
variable {T : Nat} {w w' : World} {a b c d v : Value}
theorem tbx_cells (h : tbx T w a b c d v) : w.cell? ⟨T, 0, none⟩ = some a ∧ w.cell? ⟨T, 1, none⟩ = some b ∧ w.cell? ⟨T, 2, none⟩ = some c ∧ w.cell? ⟨T, 3, none⟩ = some d ∧ w.cell? ⟨T, 4, none⟩ = some v ∧ w.frozen? ⟨T, 4, none⟩ = false := by
  unfold tbx at h; simp [World.cell?, World.frozen?, h]
theorem tbx_lt (h : tbx T w a b c d v) : T < w.heap.size := cell_lt (tbx_cells h).1
theorem tbx_set (h : tbx T w a b c d v) (v' : Value) : tbx T (w.setCell ⟨T, 4, none⟩ v') a b c d v' := by
  unfold tbx at h ⊢
  have := heap_setCell_same w T 4 _ 132 v' h
  rw [this]; rfl
theorem tbx_kept {S : Nat → Prop} (h : tbx T w a b c d v) (he : Ex S w w') (hn : ¬ S T) : tbx T w' a b c d v := by
  have := tbx_lt h
  unfold tbx at h ⊢
  rw [he.block T this hn]; exact h
end
theorem que_pop {B g n cap : Nat} {w : World} {Q : List Stop} (h : que B w (.slice (some ⟨g, 0, none⟩) (n + 1) cap) Q) (hn : Q.length = n + 1) : que B w (.slice (some ⟨g, 0, none⟩) n cap) (Q.take n) := by
  have e : Q = Q.take n ++ [Q.getD n ⟨0, 0, 0⟩] := by
    rw [getD_at (by omega)]
    have := (List.take_succ_eq_append_getElem (l := Q) (i := n) (by omega)).symm
    rw [this, ← hn, List.take_length]
  have hl : (Q.take n).length = n := by simp; omega
  unfold que at h ⊢
  rw [e, flat_app, ← e, hn] at h
  rw [hl]
  exact ownsRow_pop (by rw [flat_len, hl]) h
theorem kstop : (Try.prog.info? 136).map (fun i => (i.zero, i.size, i.bytes)) = some (some (.agg #[.int .i64 0, .int .i64 0, .int .i64 0]), 3, 24) := by kernel_rfl
theorem flat_one {w : World} {ad : Addr} {s : Stop} (h0 : w.cell? (ad.add 0) = some (.int .i64 s.x)) (h1 : w.cell? (ad.add 1) = some (.int .i64 s.y)) (h2 : w.cell? (ad.add 2) = some (.int .i64 s.c)) : ∀ j u, (fl s)[j]? = some u → w.cell? (ad.add j) = some u := by
  intro j u hj
  match j, hj with
  | 0, hj => simp [fl] at hj; rw [← hj]; exact h0
  | 1, hj => simp [fl] at hj; rw [← hj]; exact h1
  | 2, hj => simp [fl] at hj; rw [← hj]; exact h2
  | (k + 3), hj => simp [fl] at hj
/-- Append of one stop, at a step of a region that draws its order. -/
theorem step_stop {ops : Array Oper} {o : Oper} {a : Act} {K : Act → World → Prop} {Z' : Exit → Act → World → Prop} {Z : Prop} (w : World) (hgd : o.guard = none) (s x : Operand)
    (ho : o.op = .call { callee := .builtin .append, args := #[s, x], argTypes := #[130, 130] })
    (B : Nat) (v : Value) (Q : List Stop) (hs : a.eval s = v) (hown : que B w v Q) (ad : Addr) (c : Nat) (X : Stop) (hx : a.eval x = .slice (some ad) 1 c) (hcell : ∀ j u, (fl X)[j]? = some u → w.cell? (ad.add j) = some u) (hl : Q.length ≤ 1000000) (hB : B ≤ w.heap.size)
    (h : ∀ g cap w', que B w' (.slice (some ⟨g, 0, none⟩) (Q.length + 1) cap) (Q ++ [X]) → w.grownBy w' v.ownBlock → (v.ownBlock = some g ∨ g = w.heap.size) → g < w'.heap.size → K (a.put o.dst (.slice (some ⟨g, 0, none⟩) (Q.length + 1) cap)) w') :
    if Region.wanted o (yielded ops a.tmps) = true then Oper.wp Try.prog o a w K Z' else Z := by
  obtain ⟨i0, hi, hz0, hz1, hz2⟩ := info_parts kstop
  refine step_append_lies w hgd s x 130 ho B 136 i0 _ 3 24 Try.underlying130 hi hz0 hz1 hz2 rfl (by decide) v Q.length (flat Q) hs hown ad 1 c (fl X) hx rfl hcell (by intro u hu; simp [fl] at hu; rcases hu with rfl | rfl | rfl <;> rfl) (by decide) (by unfold maxLen; omega) (by omega) hB _ rfl ?_
  intro g cap w' h1 h2 h3 h4
  refine h g cap w' ?_ h2 h3 h4
  unfold que
  rw [flat_app, List.length_append]; exact h1
/-- What an append to the queue, and the store behind it, leaves. -/
theorem push_app {B T : Nat} {w M w6 : World} {a b c d v : Value} {v' : Value} {L' : List Stop} {Q : List Stop} (ht : tbx T w a b c d v) (hq : que B w v Q) (hT : T < B) (hM : w.grownBy M none) (hown : que B w6 v' L') (hg : M.grownBy w6 v.ownBlock) :
    tbx T w6 a b c d v ∧ tbx T (w6.setCell ⟨T, 4, none⟩ v') a b c d v' ∧ que B (w6.setCell ⟨T, 4, none⟩ v') v' L' ∧ Ex (fun k => k = T ∨ some k = v.ownBlock) w (w6.setCell ⟨T, 4, none⟩ v') := by
  have hne : some T ≠ v.ownBlock := fun e => by have := (World.ownsRow.lt hq T e.symm).1; omega
  have E1 : Ex (fun k => k = T ∨ some k = v.ownBlock) w w6 := ((Ex.of_grown hM).mono (S' := fun k => k = T ∨ some k = v.ownBlock) (fun i _ e => by cases e)).trans (Ex.of_grown hg) (fun i _ e => .inr e)
  have t6 : tbx T w6 a b c d v := by
    have := tbx_lt ht
    unfold tbx at ht ⊢
    rw [hg.block T (by have := hM.size; omega) hne, hM.block T this (by simp)]; exact ht
  refine ⟨t6, tbx_set t6 v', que_kept hown (Ex.set (S := fun k => k = T) w6 ⟨T, 4, none⟩ rfl v') (fun g hg e => ?_), E1.trans (Ex.set (S := fun k => k = T) w6 ⟨T, 4, none⟩ rfl v') (fun i _ e => .inl e)⟩
  have := (World.ownsRow.lt hown g hg).1; omega
theorem grown_drew' (W : World) : W.grownBy W.drew none := ⟨rfl, rfl, rfl, Nat.le_refl _, fun _ _ _ => rfl⟩
theorem grown_trans' {a b c : World} (h : a.grownBy b none) (k : b.grownBy c none) : a.grownBy c none :=
  ⟨k.os.trans h.os, k.tape.trans h.tape, k.output.trans h.output, Nat.le_trans h.size k.size, fun i hi hn => (k.block i (Nat.lt_of_lt_of_le hi h.size) hn).trans (h.block i hi hn)⟩
theorem new_stop (w : World) (s : Stop) : ∀ j u, (fl s)[j]? = some u → (w.alloc (.cells #[.int .i64 s.x, .int .i64 s.y, .int .i64 s.c] 136)).cell? ((⟨w.heap.size, 0, none⟩ : Addr).add j) = some u :=
  flat_one (by rw [add_zero_at]; simp [go_sem]) (by rw [add_zero_at]; simp [go_sem]) (by rw [add_zero_at]; simp [go_sem])

theorem ta_stop (v : Value) (w : World) : (Instr.typeAssert (.iface 136 v) 20 136 false).run Try.prog w = .ok v w := by
  simp [Instr.typeAssert, run_underlying Try.underlying136]
set_option maxRecDepth 20000 in
set_option maxHeartbeats 1000000 in
theorem Push_m (B T : Nat) (a b c d v : Value) (Q : List Stop) (s : Stop) (w : World) (ht : tbx T w a b c d v) (hq : que B w v Q) (hT : T < B) (hB : B ≤ w.heap.size) (hl : Q.length ≤ 1000000) :
    Calls Try.prog 128 #[.pointer (some ⟨T, 4, none⟩), .iface 136 (.agg #[.int .i64 s.x, .int .i64 s.y, .int .i64 s.c])] w fun e w' => e = .returned (.tuple #[]) ∧ ∃ g cap, tbx T w' a b c d (.slice (some ⟨g, 0, none⟩) (Q.length + 1) cap) ∧ que B w' (.slice (some ⟨g, 0, none⟩) (Q.length + 1) cap) (Q ++ [s]) ∧ Ex (fun k => k = T ∨ some k = v.ownBlock) w w' ∧ (v.ownBlock = some g ∨ w.heap.size ≤ g) := by
  obtain ⟨_, _, _, _, c4, f4⟩ := tbx_cells ht
  have HT : Hid (tbx T w a b c d v) := ht
  have HQ : Hid (que B w v Q) := hq
  have hrow2 := fun o => World.ownsRow.alloc (w := w.drew) hq o
  have hcell2 := new_stop w.drew s
  have hds : w.drew.heap.size = w.heap.size := rfl
  have hTl := tbx_lt ht
  have ta := ta_stop
  clear ht hq
  go_enter Try.func128, Try.ntmps128
  go_wp2_with fail
  go_region_law (first
    | (refine step_stop _ rfl _ _ rfl B v Q rfl (hrow2 _) ⟨w.heap.size, 0, none⟩ 1 s rfl hcell2 hl (by simp; omega) ?_; intro g cap w6 hown hgr hgg hgl; obtain ⟨q1, q2, q3, q4⟩ := push_app HT.out HQ.out hT (grown_trans' (grown_drew' _) (World.grownBy_alloc _ _ none)) hown hgr; have c6 : w6.cell? ⟨T, 4, none⟩ = some v := (tbx_cells q1).2.2.2.2.1; have f6 : w6.frozen? ⟨T, 4, none⟩ = false := (tbx_cells q1).2.2.2.2.2; have H2 : Hid (tbx T (w6.setCell ⟨T, 4, none⟩ (.slice (some ⟨g, 0, none⟩) (Q.length + 1) cap)) a b c d (.slice (some ⟨g, 0, none⟩) (Q.length + 1) cap)) := q2; have H3 : Hid (que B (w6.setCell ⟨T, 4, none⟩ (.slice (some ⟨g, 0, none⟩) (Q.length + 1) cap)) (.slice (some ⟨g, 0, none⟩) (Q.length + 1) cap) (Q ++ [s])) := q3; have H4 : Hid (Ex (fun k => k = T ∨ some k = v.ownBlock) w (w6.setCell ⟨T, 4, none⟩ (.slice (some ⟨g, 0, none⟩) (Q.length + 1) cap))) := q4; have H5 : Hid (v.ownBlock = some g ∨ g = (w.drew.alloc (.cells #[.int .i64 s.x, .int .i64 s.y, .int .i64 s.c] 136)).heap.size) := hgg; clear q1 q2 q3 q4 hgr hown hgg))
  all_goals go_end0
  all_goals
    refine ⟨rfl, g, cap, H2.out, H3.out, H4.out, ?_⟩
    rcases H5.out with h | h
    · exact .inl h
    · right; rw [h]; simp
set_option maxRecDepth 20000 in
set_option maxHeartbeats 1000000 in
theorem Pop_m (B T g n cap : Nat) (a b c d : Value) (Q : List Stop) (s : Stop) (w : World) (ht : tbx T w a b c d (.slice (some ⟨g, 0, none⟩) (n + 1) cap)) (hq : que B w (.slice (some ⟨g, 0, none⟩) (n + 1) cap) Q) (hn : Q.length = n + 1) (hT : T < B) (hl : n ≤ 1000000) (hs : Q.getD n ⟨0, 0, 0⟩ = s) :
    Calls Try.prog 127 #[.pointer (some ⟨T, 4, none⟩)] w fun e w' => e = .returned (.iface 136 (.agg #[.int .i64 s.x, .int .i64 s.y, .int .i64 s.c])) ∧ tbx T w' a b c d (.slice (some ⟨g, 0, none⟩) n cap) ∧ que B w' (.slice (some ⟨g, 0, none⟩) n cap) (Q.take n) ∧ Ex (fun k => k = T) w w' := by
  obtain ⟨_, _, _, _, c4, f4⟩ := tbx_cells ht
  have HT : Hid (tbx T w a b c d (.slice (some ⟨g, 0, none⟩) (n + 1) cap)) := ht
  have HQ : Hid (que B w (.slice (some ⟨g, 0, none⟩) (n + 1) cap) Q) := hq
  have HN : Hid (Q.length = n + 1) := hn
  have hTl := tbx_lt ht
  obtain ⟨a1, a2, a3⟩ := que_cell hq hn (k := n) (by omega) hs
  obtain ⟨hgl, hcap⟩ : g < w.heap.size ∧ n + 1 ≤ cap := by
    obtain ⟨g', cap', e, _, h2, h3⟩ := que_form hq (by omega)
    simp only [Value.slice.injEq, Option.some.injEq, Addr.mk.injEq] at e
    obtain ⟨⟨rfl, _⟩, _, rfl⟩ := e
    omega
  clear ht hq hn hs
  go_enter Try.func127, Try.ntmps127
  go_wp2_with fail
  go_ret
  obtain ⟨V, hV⟩ : ∃ V, w.setCell ⟨T, 4, none⟩ (.slice (some ⟨g, 0, none⟩) n cap) = V := ⟨_, rfl⟩
  have t1 := tbx_set HT.out (.slice (some ⟨g, 0, none⟩) n cap)
  have q1 := que_kept (que_pop HQ.out HN.out) (Ex.set (S := fun k => k = T) w ⟨T, 4, none⟩ rfl (.slice (some ⟨g, 0, none⟩) n cap)) (fun g' hg e => by
    have := (World.ownsRow.lt HQ.out g (by rfl)).1
    simp [Value.ownBlock] at hg; omega)
  have e1 := Ex.set (S := fun k => k = T) w ⟨T, 4, none⟩ rfl (.slice (some ⟨g, 0, none⟩) n cap)
  rw [hV] at t1 q1 e1 ⊢
  have e2 := Ex.of_below (S := fun _ => False) (alloc_below V (.cells #[.int .i64 s.x, .int .i64 s.y, .int .i64 s.c] 136))
  exact ⟨rfl, tbx_kept t1 e2 (fun e => e), que_kept q1 e2 (fun _ _ e => e), e1.trans e2 (fun _ _ e => e.elim)⟩
end Go.Proofs.Ytnbbfnlfcncgnaa
/- heap.Push: a stop is lifted to where it belongs. -/
namespace Go.Proofs.Ytnbbfnlfcncgnaa
open Go.RowKit
set_option linter.unusedVariables false

/-- The queue's stops lie in block g, in some order. -/
def hst (B T g n cap : Nat) (a b c d : Value) (w0 : World) (Q0 : List Stop) (w : World) (Q : List Stop) : Prop :=
  tbx T w a b c d (.slice (some ⟨g, 0, none⟩) n cap) ∧ que B w (.slice (some ⟨g, 0, none⟩) n cap) Q ∧ Q.length = n ∧ Q.Perm Q0 ∧ Ex (fun k => k = g) w0 w ∧ T < B
section
variable {B T g n cap : Nat} {a b c d : Value} {w0 : World} {Q0 : List Stop} {w w' : World} {Q : List Stop}
theorem hst_len (h : hst B T g n cap a b c d w0 Q0 w Q) : Q.length = n := h.2.2.1
theorem hst_que (h : hst B T g n cap a b c d w0 Q0 w Q) : que B w (.slice (some ⟨g, 0, none⟩) n cap) Q := h.2.1
theorem hst_ptr (h : hst B T g n cap a b c d w0 Q0 w Q) : w.cell? ⟨T, 4, none⟩ = some (.slice (some ⟨g, 0, none⟩) n cap) := (tbx_cells h.1).2.2.2.2.1
theorem hst_drewN (h : hst B T g n cap a b c d w0 Q0 w Q) (m : Nat) : hst B T g n cap a b c d w0 Q0 (w.drewN m) Q := ⟨h.1, h.2.1, h.2.2.1, h.2.2.2.1, h.2.2.2.2.1.drewN m, h.2.2.2.2.2⟩
theorem hst_swap (h : hst B T g n cap a b c d w0 Q0 w Q) {i j : Nat} (hi : i < n) (hj : j < n) (hq : que B w' (.slice (some ⟨g, 0, none⟩) n cap) (swp Q i j)) (he : Ex (fun k => k = g) w w') : hst B T g n cap a b c d w0 Q0 w' (swp Q i j) := by
  obtain ⟨h1, h2, h3, h4, h5, h6⟩ := h
  have hg := (World.ownsRow.lt h2 g rfl).1
  exact ⟨tbx_kept h1 he (by omega), hq, by rw [swp_len]; exact h3, (swp_perm Q (by omega) (by omega)).trans h4, h5.trans he (fun _ _ e => e), h6⟩
end
theorem dec_ge {X Y : Int} (h : Y ≤ X) : decide (X < Y) = false := by simp; omega

set_option maxRecDepth 20000 in
set_option maxHeartbeats 1000000 in
theorem up_any (B T g n cap j0 : Nat) (a b c d : Value) (Q0 : List Stop) (w : World) (h0 : hst B T g n cap a b c d w Q0 w Q0) (hj : j0 < n) (hu : hup j0 Q0) (hm : n ≤ 1000000) :
    Calls Try.prog 106 #[.iface 143 (.pointer (some ⟨T, 4, none⟩)), .int .i64 (j0 : Int)] w fun e w' => e = .returned (.tuple #[]) ∧ ∃ Q, hst B T g n cap a b c d w Q0 w' Q ∧ hp n Q := by
  have H0 : Hid (hst B T g n cap a b c d w Q0 w Q0) := h0
  have HU : Hid (hup j0 Q0) := hu
  clear h0 hu
  go_enter Try.func106, Try.ntmps106
  go_wp2_with fail
  go_loopw [1] (fun i wr => ∃ (j : Nat) (Q : List Stop), i = .int .i64 j ∧ j < n ∧ Hid (hst B T g n cap a b c d w Q0 wr Q) ∧ Hid (hup j Q)) (fun i _ => (intOf i).toNat)
  case atStart => exact ⟨j0, Q0, rfl, hj, H0, HU⟩
  case round =>
    obtain ⟨j, Q, rfl, hjn, HS, HU⟩ := hrel
    have c4 := hst_ptr HS.out
    have mL := m_Less c4
    cases j with
    | zero =>
      go_wp2_with fail
      go_end0
      exact ⟨rfl, Q, HS.out, by have := hup_end HU.out (.inl rfl); rwa [hst_len HS.out] at this⟩
    | succ K =>
      obtain ⟨I, hI⟩ : ∃ I : Nat, K / 2 = I := ⟨_, rfl⟩
      have eI : (K : Int) / 2 = (I : Int) := by omega
      have hne : ((I : Int) == (K : Int) + 1) = false := by simp; omega
      have eP : (K + 1 - 1) / 2 = I := by simpa using hI
      have HP : Hid ((K + 1 - 1) / 2 = I) := eP
      have hIn : I < n := by omega
      have HI : Hid (I < K + 1) := by unfold Hid; omega
      clear hI eP
      obtain ⟨X, hX⟩ : ∃ X, ky Q (K + 1) = X := ⟨_, rfl⟩
      obtain ⟨Y, hY⟩ : ∃ Y, ky Q I = Y := ⟨_, rfl⟩
      have HX : Hid (ky Q (K + 1) = X) := hX
      have HY : Hid (ky Q I = Y) := hY
      clear hX hY
      by_cases hlt : X < Y
      · go_wp2_with fail
        refine (Less_at g cap n (K + 1) I _ _ Q X Y wr (hst_que HS.out) (hst_len HS.out) hjn hIn HX HY (by omega) rfl).mono ?_
        rintro e w1 ⟨rfl, m, hw⟩
        have HS1 : Hid (hst B T g n cap a b c d w Q0 w1 Q) := by rw [hw]; exact hst_drewN HS.out m
        have c41 := hst_ptr HS1.out
        have mS := m_Swap c41
        clear mL c4 hw
        go_wp2_with fail
        refine (Swap_at g cap n I (K + 1) _ _ Q w1 (hst_que HS1.out) (hst_len HS1.out) hIn hjn rfl (by omega)).mono ?_
        rintro e w2 ⟨rfl, hq2, he2⟩
        have HS2 : Hid (hst B T g n cap a b c d w Q0 w2 (swp Q I (K + 1))) := hst_swap HS1.out hIn hjn hq2 he2
        have HU2 : Hid (hup I (swp Q I (K + 1))) := by
          have := hup_swap HU.out (by omega) (by rw [hst_len HS.out]; exact hjn) (by rw [HP.out, HX.out, HY.out]; exact hlt)
          rwa [HP.out] at this
        clear hq2 he2 mS c41
        go_wp2_with fail
        go_roundw
        case rel => exact ⟨I, _, rfl, hIn, HS2, HU2⟩
        case measure => have := HI.out; simp [intOf]; omega
      · have hd := dec_ge (Int.not_lt.1 hlt)
        go_wp2_with fail
        refine (Less_at g cap n (K + 1) I _ _ Q X Y wr (hst_que HS.out) (hst_len HS.out) hjn hIn HX HY (by omega) rfl).mono ?_
        rintro e w1 ⟨rfl, m, hw⟩
        have HS1 : Hid (hst B T g n cap a b c d w Q0 w1 Q) := by rw [hw]; exact hst_drewN HS.out m
        clear mL c4 hw
        go_wp2_with fail
        go_end0
        exact ⟨rfl, Q, HS1.out, by have := hup_end HU.out (.inr (by rw [HP.out, HX.out, HY.out]; omega)); rwa [hst_len HS.out] at this⟩
set_option maxRecDepth 20000 in
set_option maxHeartbeats 1000000 in
theorem hPush_any (B T : Nat) (a b c d v : Value) (Q : List Stop) (s : Stop) (w : World) (ht : tbx T w a b c d v) (hq : que B w v Q) (hT : T < B) (hB : B ≤ w.heap.size) (hl : Q.length < 1000000) (hh : hp Q.length Q) :
    Calls Try.prog 100 #[.iface 143 (.pointer (some ⟨T, 4, none⟩)), .iface 136 (.agg #[.int .i64 s.x, .int .i64 s.y, .int .i64 s.c])] w fun e w' => e = .returned (.tuple #[]) ∧ ∃ v' Q', tbx T w' a b c d v' ∧ que B w' v' Q' ∧ Q'.Perm (s :: Q) ∧ hp Q'.length Q' ∧ Ex (fun k => k = T ∨ some k = v.ownBlock) w w' ∧ ∀ k, v'.ownBlock = some k → v.ownBlock = some k ∨ w.heap.size ≤ k := by
  have HT : Hid (tbx T w a b c d v) := ht
  have HQ : Hid (que B w v Q) := hq
  have HH : Hid (hp Q.length Q) := hh
  have mP := m_Push
  clear ht hq hh
  go_enter Try.func100, Try.ntmps100
  go_wp2_with fail
  refine (Push_m B T a b c d v Q s w HT.out HQ.out hT hB (by omega)).mono ?_
  rintro e w1 ⟨rfl, g, cap, ht1, hq1, he1, hg1⟩
  obtain ⟨n, hn⟩ : ∃ n, Q.length = n := ⟨_, rfl⟩
  rw [hn] at ht1 hq1 hl
  have hln : (Q ++ [s]).length = n + 1 := by simp [hn]
  have HS : Hid (hst B T g (n + 1) cap a b c d w1 (Q ++ [s]) w1 (Q ++ [s])) := ⟨ht1, hq1, hln, List.Perm.refl _, Ex.refl _ _, hT⟩
  have HU : Hid (hup n (Q ++ [s])) := by have := hup_new (s := s) HH.out; rwa [hn] at this
  have HE : Hid (Ex (fun k => k = T ∨ some k = v.ownBlock) w w1) := he1
  have HG : Hid (v.ownBlock = some g ∨ w.heap.size ≤ g) := hg1
  have c4 := (tbx_cells ht1).2.2.2.2.1
  have mL := m_Len c4
  clear ht1 hq1 he1 hg1 mP hn hln
  go_wp2_with fail
  refine (Len_any _ (n + 1) cap w1).mono ?_
  rintro e w' ⟨rfl, hw⟩; subst w'
  go_wp2_with fail
  refine (up_any B T g (n + 1) cap n a b c d _ w1 HS.out (by omega) HU.out (by omega)).mono ?_
  rintro e w2 ⟨rfl, Q2, hs2, hp2⟩
  have HS2 : Hid (hst B T g (n + 1) cap a b c d w1 (Q ++ [s]) w2 Q2) := hs2
  have HP2 : Hid (hp (n + 1) Q2) := hp2
  clear hs2 hp2 mL c4
  go_wp2_with fail
  go_end0
  obtain ⟨h1, h2, h3, h4, h5, h6⟩ := HS2.out
  refine ⟨rfl, _, Q2, h1, h2, h4.trans (List.perm_append_comm (l₁ := Q) (l₂ := [s])), by rw [h3]; exact HP2.out, HE.out.trans h5 (fun i hi e => ?_), fun k hk => ?_⟩
  · subst e
    rcases HG.out with h | h
    · exact .inr h.symm
    · omega
  · simp [Value.ownBlock] at hk
    subst hk
    exact HG.out
end Go.Proofs.Ytnbbfnlfcncgnaa
/- heap.Pop: the first stop is taken, another one sinks to where it belongs. -/
namespace Go.Proofs.Ytnbbfnlfcncgnaa
open Go.RowKit
set_option linter.unusedVariables false

section
variable {k i n J1 J2 : Nat} {Q : List Stop} {X1 X2 : Int}
theorem dn_two (hki : (k - 1) / 2 = i) (hk : 0 < k) (hkn : k < n) (e1 : 2 * i + 1 = J1) (e2 : J1 + 1 = J2) (h1 : ky Q J1 = X1) (h2 : ky Q J2 = X2) (h : X2 ≤ X1) : ky Q J2 ≤ ky Q k := by
  have : k = J1 ∨ k = J2 := by omega
  rcases this with e | e <;> rw [e] <;> omega
theorem dn_one (hki : (k - 1) / 2 = i) (hk : 0 < k) (hkn : k < n) (e1 : 2 * i + 1 = J1) (e2 : J1 + 1 = J2) (h1 : ky Q J1 = X1) (h2 : ky Q J2 = X2) (h : X1 ≤ X2) : ky Q J1 ≤ ky Q k := by
  have : k = J1 ∨ k = J2 := by omega
  rcases this with e | e <;> rw [e] <;> omega
theorem dn_none (hki : (k - 1) / 2 = i) (hk : 0 < k) (hkn : k < n) (e1 : 2 * i + 1 = J1) (e2 : J1 + 1 = J2) (h : n ≤ J2) : ky Q J1 ≤ ky Q k := by
  have : k = J1 := by omega
  rw [this]; exact Int.le_refl _
end
set_option maxRecDepth 20000 in
set_option maxHeartbeats 4000000 in
theorem down_any (B T g n N cap : Nat) (a b c d : Value) (Q0 : List Stop) (w : World) (h0 : hst B T g N cap a b c d w Q0 w Q0) (hn : n < N) (hd : hdn n 0 Q0) (hm : N ≤ 1000000) :
    Calls Try.prog 107 #[.iface 143 (.pointer (some ⟨T, 4, none⟩)), .int .i64 0, .int .i64 (n : Int)] w fun e w' => (∃ r, e = .returned (.bool r)) ∧ ∃ Q, hst B T g N cap a b c d w Q0 w' Q ∧ hp n Q ∧ Q.getD n ⟨0, 0, 0⟩ = Q0.getD n ⟨0, 0, 0⟩ := by
  have H0 : Hid (hst B T g N cap a b c d w Q0 w Q0) := h0
  have HD : Hid (hdn n 0 Q0) := hd
  clear h0 hd
  go_enter Try.func107, Try.ntmps107
  go_wp2_with fail
  go_loopw [7] (fun v wr => ∃ (i : Nat) (Q : List Stop), v = .int .i64 i ∧ (i = 0 ∨ i < n) ∧ Hid (hst B T g N cap a b c d w Q0 wr Q) ∧ Hid (hdn n i Q) ∧ Hid (Q.getD n ⟨0, 0, 0⟩ = Q0.getD n ⟨0, 0, 0⟩)) (fun v _ => n - (intOf v).toNat)
  case atStart => exact ⟨0, Q0, rfl, .inl rfl, H0, HD, rfl⟩
  case round =>
    obtain ⟨i, Q, rfl, hin, HS, HD, HL⟩ := hrel
    have c4 := hst_ptr HS.out
    have mL := m_Less c4
    obtain ⟨J1, hJ1⟩ : ∃ J1 : Nat, 2 * i + 1 = J1 := ⟨_, rfl⟩
    obtain ⟨J2, hJ2⟩ : ∃ J2 : Nat, J1 + 1 = J2 := ⟨_, rfl⟩
    have e1 : 2 * (i : Int) + 1 = (J1 : Int) := by omega
    have e2 : (J1 : Int) + 1 = (J2 : Int) := by omega
    have HE1 : Hid (2 * i + 1 = J1) := hJ1
    have HE2 : Hid (J1 + 1 = J2) := hJ2
    have hi6 : i ≤ 1000000 := by omega
    have hJb : J2 ≤ 2000002 := by omega
    clear hJ1 hJ2
    by_cases hn1 : J1 < n
    · have d1 : decide ((n : Int) ≤ (J1 : Int)) = false := by simp; omega
      have d2 : decide ((J1 : Int) < 0) = false := by simp
      obtain ⟨X1, hX1⟩ : ∃ X, ky Q J1 = X := ⟨_, rfl⟩
      obtain ⟨X2, hX2⟩ : ∃ X, ky Q J2 = X := ⟨_, rfl⟩
      obtain ⟨Y, hY⟩ : ∃ Y, ky Q i = Y := ⟨_, rfl⟩
      have HX1 : Hid (ky Q J1 = X1) := hX1
      have HX2 : Hid (ky Q J2 = X2) := hX2
      have HY : Hid (ky Q i = Y) := hY
      have HI : Hid (i < J1) := by have := HE1.out; unfold Hid; omega
      have hiN : i < N := by have := HE1.out; omega
      clear hX1 hX2 hY
      by_cases hn2 : J2 < n
      · by_cases hl2 : X2 < X1
        · by_cases hl : X2 < Y
          · skip
            go_wp2_with fail
            refine (Less_at g cap N J2 J1 _ _ Q X2 X1 wr (hst_que HS.out) (hst_len HS.out) (by omega) (by omega) HX2 HX1 rfl rfl).mono ?_
            rintro e w1 ⟨rfl, m, hw⟩
            have HS1 : Hid (hst B T g N cap a b c d w Q0 w1 Q) := by rw [hw]; exact hst_drewN HS.out m
            have c41 := hst_ptr HS1.out
            have mL1 := m_Less c41
            clear mL c4 hw
            go_wp2_with fail
            refine (Less_at g cap N J2 i _ _ Q X2 Y w1 (hst_que HS1.out) (hst_len HS1.out) (by omega) (by omega) HX2 HY rfl rfl).mono ?_
            rintro e w2 ⟨rfl, m2, hw2⟩
            have HS2 : Hid (hst B T g N cap a b c d w Q0 w2 Q) := by rw [hw2]; exact hst_drewN HS1.out m2
            have c42 := hst_ptr HS2.out
            have mS := m_Swap c42
            clear mL1 c41 hw2
            go_wp2_with fail
            refine (Swap_at g cap N i J2 _ _ Q w2 (hst_que HS2.out) (hst_len HS2.out) (by omega) (by omega) rfl rfl).mono ?_
            rintro e w3 ⟨rfl, hq3, he3⟩
            have HS3 : Hid (hst B T g N cap a b c d w Q0 w3 (swp Q i J2)) := hst_swap HS2.out (by omega) (by omega) hq3 he3
            have HD3 : Hid (hdn n J2 (swp Q i J2)) := hdn_swap HD.out (by rw [hst_len HS.out]; omega) (by omega) (by have := HE1.out; have := HE2.out; omega) (by have := HE1.out; have := HE2.out; omega) (by rw [HX2.out, HY.out]; exact hl) (fun k hk hkn hki => dn_two hki hk hkn HE1.out HE2.out HX1.out HX2.out (Int.le_of_lt hl2))
            have HL3 : Hid ((swp Q i J2).getD n ⟨0, 0, 0⟩ = Q0.getD n ⟨0, 0, 0⟩) := by unfold Hid; rw [swp_get Q (by rw [hst_len HS.out]; omega) (by rw [hst_len HS.out]; omega), if_neg (by omega), if_neg (by omega)]; exact HL.out
            clear hq3 he3 mS c42
            go_wp2_with fail
            go_roundw
            case rel => exact ⟨J2, _, rfl, by omega, HS3, HD3, HL3⟩
            case measure => have := HE1.out; have := HE2.out; simp [intOf]; omega
          · have hdl := dec_ge (Int.not_lt.1 hl)
            go_wp2_with fail
            refine (Less_at g cap N J2 J1 _ _ Q X2 X1 wr (hst_que HS.out) (hst_len HS.out) (by omega) (by omega) HX2 HX1 rfl rfl).mono ?_
            rintro e w1 ⟨rfl, m, hw⟩
            have HS1 : Hid (hst B T g N cap a b c d w Q0 w1 Q) := by rw [hw]; exact hst_drewN HS.out m
            have c41 := hst_ptr HS1.out
            have mL1 := m_Less c41
            clear mL c4 hw
            go_wp2_with fail
            refine (Less_at g cap N J2 i _ _ Q X2 Y w1 (hst_que HS1.out) (hst_len HS1.out) (by omega) (by omega) HX2 HY rfl rfl).mono ?_
            rintro e w2 ⟨rfl, m2, hw2⟩
            have HS2 : Hid (hst B T g N cap a b c d w Q0 w2 Q) := by rw [hw2]; exact hst_drewN HS1.out m2
            clear mL1 c41 hw2
            go_wp2_with fail
            go_ret
            exact ⟨⟨_, rfl⟩, Q, HS2.out, hdn_end HD.out (fun k hk hkn hki => by have := dn_two hki hk hkn HE1.out HE2.out HX1.out HX2.out (Int.le_of_lt hl2); rw [HX2.out] at this; rw [HY.out]; omega), HL.out⟩
        · have hd2 := dec_ge (Int.not_lt.1 hl2)
          by_cases hl : X1 < Y
          · skip
            go_wp2_with fail
            refine (Less_at g cap N J2 J1 _ _ Q X2 X1 wr (hst_que HS.out) (hst_len HS.out) (by omega) (by omega) HX2 HX1 rfl rfl).mono ?_
            rintro e w1 ⟨rfl, m, hw⟩
            have HS1 : Hid (hst B T g N cap a b c d w Q0 w1 Q) := by rw [hw]; exact hst_drewN HS.out m
            have c41 := hst_ptr HS1.out
            have mL1 := m_Less c41
            clear mL c4 hw
            go_wp2_with fail
            refine (Less_at g cap N J1 i _ _ Q X1 Y w1 (hst_que HS1.out) (hst_len HS1.out) (by omega) (by omega) HX1 HY rfl rfl).mono ?_
            rintro e w2 ⟨rfl, m2, hw2⟩
            have HS2 : Hid (hst B T g N cap a b c d w Q0 w2 Q) := by rw [hw2]; exact hst_drewN HS1.out m2
            have c42 := hst_ptr HS2.out
            have mS := m_Swap c42
            clear mL1 c41 hw2
            go_wp2_with fail
            refine (Swap_at g cap N i J1 _ _ Q w2 (hst_que HS2.out) (hst_len HS2.out) (by omega) (by omega) rfl rfl).mono ?_
            rintro e w3 ⟨rfl, hq3, he3⟩
            have HS3 : Hid (hst B T g N cap a b c d w Q0 w3 (swp Q i J1)) := hst_swap HS2.out (by omega) (by omega) hq3 he3
            have HD3 : Hid (hdn n J1 (swp Q i J1)) := hdn_swap HD.out (by rw [hst_len HS.out]; omega) (by omega) (by have := HE1.out; have := HE2.out; omega) (by have := HE1.out; have := HE2.out; omega) (by rw [HX1.out, HY.out]; exact hl) (fun k hk hkn hki => dn_one hki hk hkn HE1.out HE2.out HX1.out HX2.out (by omega))
            have HL3 : Hid ((swp Q i J1).getD n ⟨0, 0, 0⟩ = Q0.getD n ⟨0, 0, 0⟩) := by unfold Hid; rw [swp_get Q (by rw [hst_len HS.out]; omega) (by rw [hst_len HS.out]; omega), if_neg (by omega), if_neg (by omega)]; exact HL.out
            clear hq3 he3 mS c42
            go_wp2_with fail
            go_roundw
            case rel => exact ⟨J1, _, rfl, by omega, HS3, HD3, HL3⟩
            case measure => have := HE1.out; have := HE2.out; simp [intOf]; omega
          · have hdl := dec_ge (Int.not_lt.1 hl)
            go_wp2_with fail
            refine (Less_at g cap N J2 J1 _ _ Q X2 X1 wr (hst_que HS.out) (hst_len HS.out) (by omega) (by omega) HX2 HX1 rfl rfl).mono ?_
            rintro e w1 ⟨rfl, m, hw⟩
            have HS1 : Hid (hst B T g N cap a b c d w Q0 w1 Q) := by rw [hw]; exact hst_drewN HS.out m
            have c41 := hst_ptr HS1.out
            have mL1 := m_Less c41
            clear mL c4 hw
            go_wp2_with fail
            refine (Less_at g cap N J1 i _ _ Q X1 Y w1 (hst_que HS1.out) (hst_len HS1.out) (by omega) (by omega) HX1 HY rfl rfl).mono ?_
            rintro e w2 ⟨rfl, m2, hw2⟩
            have HS2 : Hid (hst B T g N cap a b c d w Q0 w2 Q) := by rw [hw2]; exact hst_drewN HS1.out m2
            clear mL1 c41 hw2
            go_wp2_with fail
            go_ret
            exact ⟨⟨_, rfl⟩, Q, HS2.out, hdn_end HD.out (fun k hk hkn hki => by have := dn_one hki hk hkn HE1.out HE2.out HX1.out HX2.out (by omega); rw [HX1.out] at this; rw [HY.out]; omega), HL.out⟩
      · replace hn2 := Nat.not_lt.1 hn2
        have d3 : decide ((J2 : Int) < (n : Int)) = false := by simp; omega
        by_cases hl : X1 < Y
        · skip
          go_wp2_with fail
          refine (Less_at g cap N J1 i _ _ Q X1 Y wr (hst_que HS.out) (hst_len HS.out) (by omega) (by omega) HX1 HY rfl rfl).mono ?_
          rintro e w2 ⟨rfl, m2, hw2⟩
          have HS2 : Hid (hst B T g N cap a b c d w Q0 w2 Q) := by rw [hw2]; exact hst_drewN HS.out m2
          have c42 := hst_ptr HS2.out
          have mS := m_Swap c42
          clear mL c4 hw2
          go_wp2_with fail
          refine (Swap_at g cap N i J1 _ _ Q w2 (hst_que HS2.out) (hst_len HS2.out) (by omega) (by omega) rfl rfl).mono ?_
          rintro e w3 ⟨rfl, hq3, he3⟩
          have HS3 : Hid (hst B T g N cap a b c d w Q0 w3 (swp Q i J1)) := hst_swap HS2.out (by omega) (by omega) hq3 he3
          have HD3 : Hid (hdn n J1 (swp Q i J1)) := hdn_swap HD.out (by rw [hst_len HS.out]; omega) (by omega) (by have := HE1.out; have := HE2.out; omega) (by have := HE1.out; have := HE2.out; omega) (by rw [HX1.out, HY.out]; exact hl) (fun k hk hkn hki => dn_none hki hk hkn HE1.out HE2.out hn2)
          have HL3 : Hid ((swp Q i J1).getD n ⟨0, 0, 0⟩ = Q0.getD n ⟨0, 0, 0⟩) := by unfold Hid; rw [swp_get Q (by rw [hst_len HS.out]; omega) (by rw [hst_len HS.out]; omega), if_neg (by omega), if_neg (by omega)]; exact HL.out
          clear hq3 he3 mS c42
          go_wp2_with fail
          go_roundw
          case rel => exact ⟨J1, _, rfl, by omega, HS3, HD3, HL3⟩
          case measure => have := HE1.out; have := HE2.out; simp [intOf]; omega
        · have hdl := dec_ge (Int.not_lt.1 hl)
          go_wp2_with fail
          refine (Less_at g cap N J1 i _ _ Q X1 Y wr (hst_que HS.out) (hst_len HS.out) (by omega) (by omega) HX1 HY rfl rfl).mono ?_
          rintro e w2 ⟨rfl, m2, hw2⟩
          have HS2 : Hid (hst B T g N cap a b c d w Q0 w2 Q) := by rw [hw2]; exact hst_drewN HS.out m2
          clear mL c4 hw2
          go_wp2_with fail
          go_ret
          exact ⟨⟨_, rfl⟩, Q, HS2.out, hdn_end HD.out (fun k hk hkn hki => by have := dn_none (Q := Q) hki hk hkn HE1.out HE2.out hn2; rw [HX1.out] at this; rw [HY.out]; omega), HL.out⟩
    · have d1 : decide ((n : Int) ≤ (J1 : Int)) = true := by simp; omega
      go_wp2_with fail
      go_ret
      exact ⟨⟨_, rfl⟩, Q, HS.out, hdn_end HD.out (fun k hk hkn hki => by have := HE1.out; omega), HL.out⟩
set_option maxRecDepth 20000 in
set_option maxHeartbeats 1000000 in
theorem hPop_any (B T : Nat) (a b c d v : Value) (Q : List Stop) (n : Nat) (w : World) (ht : tbx T w a b c d v) (hq : que B w v Q) (hn : Q.length = n + 1) (hT : T < B) (hl : n < 1000000) (hh : hp Q.length Q) :
    Calls Try.prog 103 #[.iface 143 (.pointer (some ⟨T, 4, none⟩))] w fun e w' => ∃ (s : Stop) (v' : Value) (Q' : List Stop), e = .returned (.iface 136 (.agg #[.int .i64 s.x, .int .i64 s.y, .int .i64 s.c])) ∧ tbx T w' a b c d v' ∧ que B w' v' Q' ∧ Q.Perm (s :: Q') ∧ hp Q'.length Q' ∧ (∀ t ∈ Q', s.c ≤ t.c) ∧ Ex (fun k => k = T ∨ some k = v.ownBlock) w w' ∧ v'.ownBlock = v.ownBlock := by
  obtain ⟨g, cap, rfl, hg1, hg2, hcap⟩ := que_form hq (by omega)
  rw [hn] at ht hq hh hcap
  have HN : Hid (Q.length = n + 1) := hn
  have HH : Hid (hp (n + 1) Q) := hh
  have HS : Hid (hst B T g (n + 1) cap a b c d w Q w Q) := ⟨ht, hq, hn, List.Perm.refl _, Ex.refl _ _, hT⟩
  have c4 := (tbx_cells ht).2.2.2.2.1
  have mL := m_Len c4
  have mS := m_Swap c4
  clear ht hq hh hn
  go_enter Try.func103, Try.ntmps103
  go_wp2_with fail
  refine (Len_any _ (n + 1) cap w).mono ?_
  rintro e w' ⟨rfl, hw⟩; subst w'
  go_wp2_with fail
  refine (Swap_at g cap (n + 1) 0 n _ _ Q w (hst_que HS.out) HN.out (by omega) (by omega) rfl rfl).mono ?_
  rintro e w1 ⟨rfl, hq1, he1⟩
  have h1 := hst_swap HS.out (i := 0) (j := n) (by omega) (by omega) hq1 he1
  have HS1 : Hid (hst B T g (n + 1) cap a b c d w Q w1 (swp Q 0 n)) := h1
  have HT1 : Hid (hst B T g (n + 1) cap a b c d w1 (swp Q 0 n) w1 (swp Q 0 n)) := ⟨h1.1, h1.2.1, h1.2.2.1, List.Perm.refl _, Ex.refl _ _, hT⟩
  have HD : Hid (hdn n 0 (swp Q 0 n)) := hdn_pop HH.out HN.out
  clear hq1 he1 h1 mL mS c4
  go_wp2_with fail
  refine (down_any B T g n (n + 1) cap a b c d _ w1 HT1.out (by omega) HD.out (by omega)).mono ?_
  rintro e w2 ⟨⟨r, rfl⟩, Q2, hs2, hp2, hl2⟩
  obtain ⟨s, hs⟩ : ∃ s, Q.getD 0 ⟨0, 0, 0⟩ = s := ⟨_, rfl⟩
  have hs' : Q2.getD n ⟨0, 0, 0⟩ = s := by rw [hl2, swp_get Q (by rw [HN.out]; omega) (by rw [HN.out]; omega), if_pos rfl]; exact hs
  have HS2 : Hid (hst B T g (n + 1) cap a b c d w1 (swp Q 0 n) w2 Q2) := hs2
  have HP2 : Hid (hp n Q2) := hp2
  have HL : Hid (Q2.getD n ⟨0, 0, 0⟩ = s) := hs'
  have HL0 : Hid (Q.getD 0 ⟨0, 0, 0⟩ = s) := hs
  have mP := m_Pop
  clear hs2 hp2 hl2 hs hs'
  go_wp2_with fail
  refine (Pop_m B T g n cap a b c d Q2 s w2 HS2.out.1 (hst_que HS2.out) (hst_len HS2.out) hT (by omega) HL.out).mono ?_
  rintro e w3 ⟨rfl, ht3, hq3, he3⟩
  have H1 : Hid _ := ht3
  have H2 : Hid _ := hq3
  have H3 : Hid (Ex (fun k => k = T) w2 w3) := he3
  clear ht3 hq3 he3 mP
  go_wp2_with fail
  go_ret
  have l2 := hst_len HS2.out
  have p1 : Q2.Perm (s :: Q2.take n) := by have := split_last l2; rwa [HL.out] at this
  have p2 : Q.Perm (s :: Q2.take n) := (swp_perm Q (i := 0) (j := n) (by rw [HN.out]; omega) (by rw [HN.out]; omega)).symm.trans (HS2.out.2.2.2.1.symm.trans p1)
  refine ⟨s, _, _, rfl, H1.out, H2.out, p2, take_hp HP2.out (by omega), fun t ht => ?_, ?_, rfl⟩
  · have hm : t ∈ Q := p2.symm.subset (List.mem_cons_of_mem _ ht)
    obtain ⟨k, hk, e⟩ := mem_ky hm
    have := hp_first HH.out k (by rw [HN.out] at hk; exact hk)
    rw [ky_of HL0.out] at this
    omega
  · exact ((HS1.out.2.2.2.2.1.trans HS2.out.2.2.2.2.1 (fun _ _ e => e)).mono (S' := fun k => k = T ∨ some k = some g) (fun _ _ e => .inr (by rw [e]))).trans H3.out (fun _ _ e => .inl e)
end Go.Proofs.Ytnbbfnlfcncgnaa
