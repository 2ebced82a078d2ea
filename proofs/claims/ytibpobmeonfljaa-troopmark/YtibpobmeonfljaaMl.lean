/- A world without one of its troops: it is right if it was; what its mark is. -/
import Derived.Test.YtibpobmeonfljaaMd
namespace Go.Proofs.Ytibpobmeonfljaa
open Go.RowKit
set_option linter.unusedVariables false

/-- The world without its troop k: these lie elsewhere. -/
def lss (s : Wld) (k : Nat) (p : Option Addr) (c : Nat) : Wld := { s with pt := p, nt := s.nt - 1, ct := c, lt := s.lt.eraseIdx k }
theorem okw_less {s : Wld} {W H : Nat} (hk : okw s W H) (k : Nat) (p : Option Addr) (c : Nat) : okw (lss s k p c) W H := by
  obtain ⟨a, b, f, nb, nt, hc, pl, mn, t1, t2, t3⟩ := hk
  refine ⟨a, b, f, nb, ?_, hc, pl, mn, ?_, t2.sublist (List.eraseIdx_sublist _ _), t3.sublist ((List.eraseIdx_sublist _ _).map _)⟩
  · show s.nt - 1 ≤ 100
    omega
  · intro i h
    have hm : (lss s k p c).lt[i] ∈ s.lt := List.mem_of_mem_eraseIdx (List.getElem_mem h)
    obtain ⟨j, hj, e⟩ := List.getElem_of_mem hm
    rw [← e]
    exact t1 j hj
theorem wlv_perm (s : Wld) (k : Nat) (p : Option Addr) (c : Nat) (hk : k < s.lt.length) : (wlv s).Perm (tnum s.lt[k] :: wlv (lss s k p c)) := by
  obtain ⟨P, hP⟩ : ∃ P, lnum ([1, s.A, s.B, s.N, s.T] ++ s.l) :: (pll s.lb s.ls s.nb ++ mnl s.lm s.nm) = P := ⟨_, rfl⟩
  have e1 : wlv s = P ++ s.lt.map tnum := by rw [← hP]; rfl
  have e2 : wlv (lss s k p c) = P ++ (s.lt.eraseIdx k).map tnum := by rw [← hP]; rfl
  have e3 : s.lt.map tnum = (s.lt.take k).map tnum ++ tnum s.lt[k] :: (s.lt.drop (k + 1)).map tnum := by
    conv => lhs; rw [← List.take_append_drop k s.lt, List.drop_eq_getElem_cons hk]
    rw [List.map_append, List.map_cons]
  rw [e1, e2, e3, List.eraseIdx_eq_take_drop_succ, List.map_append, ← List.append_assoc, ← List.append_assoc]
  exact List.perm_middle
theorem mark_less (s : Wld) (k : Nat) (p : Option Addr) (c : Nat) (hk : k < s.lt.length) : tn 0 (wlv s) ^^^ tn 0 (wlv (lss s k p c)) = mx (tnum s.lt[k]) := by
  rw [tn_perm (wlv_perm s k p c hk) 0, tn_cons, tn_zero, Nat.zero_xor, Nat.xor_assoc, Nat.xor_self, Nat.xor_zero]
theorem xor_less {s : Wld} {m m' k : Nat} {p : Option Addr} {c : Nat} (hk : k < s.lt.length) (h : mkr s 0 m) (h' : mkr (lss s k p c) 0 m') : bits .xor .u64 (m : Int) (m' : Int) = ((mx (tnum s.lt[k]) : Nat) : Int) := by
  rw [u64_xor_nat m m' h.2.2 h'.2.2, h.2.1 rfl, h'.2.1 rfl, mark_less s k p c hk]
theorem fit_less {s : Wld} {w : World} (h : s.fit w) {k : Nat} (hk : k < s.nt) {a : Addr} {c : Nat} (hc : s.nt - 1 ≤ c) (hr : trow w (some a) (s.lt.eraseIdx k)) : (lss s k (some a) c).fit w :=
  { h with
    rt := hr
    xt := fun t ht => h.xt t (List.mem_of_mem_eraseIdx ht)
    ht := by show (s.lt.eraseIdx k).length = s.nt - 1; have := h.ht; rw [List.length_eraseIdx, if_pos (by omega)]; omega
    mt := by show s.nt - 1 ≤ _; have := h.mt; omega
    zt := fun h => by cases h
    kt := hc }
end Go.Proofs.Ytibpobmeonfljaa
