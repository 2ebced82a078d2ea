/- The queue's own methods: how long it is, who is cheaper, two change places. -/
import Derived.Test.YtkdammmikmljmaaFr
import Derived.Handy
namespace Go.Proofs.Ytkdammmikmljmaa
open Go.RowKit
set_option linter.unusedVariables false

theorem run_chk {P : Program} (ts : Array TypeId) (t : TypeId) (a : Addr) (s r : String) (w : World) : (Builtin.ssaWrapNilChk_ ts t #[.pointer (some a), strVal s, strVal r]).run P w = .ok (.pointer (some a)) w := rfl
theorem run_method_val {P : Program} {n : Nat} {t elem : TypeId} {f : FuncId} {name : String} {d : TypeId} (hm : ((P.info? t).bind fun i => i.methods.find? (·.name == name)).map (fun m => (m.path.toList, m.func)) = some ([], some (f, false))) (hu : P.underlying t = some (.pointer elem)) (he : P.underlying elem = some (.slice d))
    {w : World} {a : Addr} {v : Value} (h : w.cell? a = some v) : (Go.method (n + 1) t (.pointer (some a)) name).run P w = .ok (f, v) w := by
  cases hi : P.info? t with
  | none => rw [hi] at hm; simp at hm
  | some i =>
    rw [hi] at hm
    cases hf : i.methods.find? (·.name == name) with
    | none => simp [hf] at hm
    | some m =>
      simp [hf] at hm
      have hp : m.path.isEmpty = true := by simp [hm.1]
      simp [Go.method, typeInfo, hi, hf, hm.1, hm.2, follow, receiverAt, run_underlying hu, Place.get, run_chk, asAddr, loadVar, isAgg, run_underlying he, h]
theorem run_method_ptr {P : Program} {n : Nat} {t elem : TypeId} {f : FuncId} {name : String} (hm : ((P.info? t).bind fun i => i.methods.find? (·.name == name)).map (fun m => (m.path.toList, m.func)) = some ([], some (f, true))) (hu : P.underlying t = some (.pointer elem))
    (w : World) (v : Value) : (Go.method (n + 1) t v name).run P w = .ok (f, v) w := by
  cases hi : P.info? t with
  | none => rw [hi] at hm; simp at hm
  | some i =>
    rw [hi] at hm
    cases hf : i.methods.find? (·.name == name) with
    | none => simp [hf] at hm
    | some m =>
      simp [hf] at hm
      simp [Go.method, typeInfo, hi, hf, hm.1, hm.2, follow, receiverAt, run_underlying hu, Place.get]
theorem m_Len {w : World} {a : Addr} {v : Value} (h : w.cell? a = some v) : (Go.method 227 83 (.pointer (some a)) "Len").run Try.prog w = .ok (88, v) w := run_method_val (by kernel_rfl) Try.underlying83 Try.underlying62 h
theorem m_Less {w : World} {a : Addr} {v : Value} (h : w.cell? a = some v) : (Go.method 227 83 (.pointer (some a)) "Less").run Try.prog w = .ok (89, v) w := run_method_val (by kernel_rfl) Try.underlying83 Try.underlying62 h
theorem m_Swap {w : World} {a : Addr} {v : Value} (h : w.cell? a = some v) : (Go.method 227 83 (.pointer (some a)) "Swap").run Try.prog w = .ok (90, v) w := run_method_val (by kernel_rfl) Try.underlying83 Try.underlying62 h
theorem m_Push (w : World) (v : Value) : (Go.method 227 83 v "Push").run Try.prog w = .ok (92, v) w := run_method_ptr (by kernel_rfl) Try.underlying83 w v
theorem m_Pop (w : World) (v : Value) : (Go.method 227 83 v "Pop").run Try.prog w = .ok (91, v) w := run_method_ptr (by kernel_rfl) Try.underlying83 w v
set_option maxRecDepth 20000 in
theorem Len_any (p : Option Addr) (n cap : Nat) (w : World) : Calls Try.prog 88 #[.slice p n cap] w fun e w' => e = .returned (.int .i64 (n : Int)) ∧ w' = w := by
  go_enter Try.func88, Try.ntmps88
  go_wp2_with fail
  go_ret
  exact ⟨rfl, rfl⟩
set_option maxRecDepth 20000 in
theorem Less_any {B : Nat} (g cap n i j : Nat) (Q : List Stop) (X Y : Int) (w : World) (hq : que B w (.slice (some ⟨g, 0, none⟩) n cap) Q) (hn : Q.length = n) (hi : i < n) (hj : j < n) (hX : Hid (ky Q i = X)) (hY : Hid (ky Q j = Y)) :
    Calls Try.prog 89 #[.slice (some ⟨g, 0, none⟩) n cap, .int .i64 (i : Int), .int .i64 (j : Int)] w fun e w' => e = .returned (.bool (decide (X < Y))) ∧ ∃ m, w' = w.drewN m := by
  have c1 : w.cell? ⟨g, i * 3 + 2, none⟩ = some (.int .i64 X) := by rw [← hX.out]; exact (que_cell hq hn hi rfl).2.2
  have c2 : w.cell? ⟨g, j * 3 + 2, none⟩ = some (.int .i64 Y) := by rw [← hY.out]; exact (que_cell hq hn hj rfl).2.2
  clear hX hY hq hn
  have i1 : (i : Int) < n := by omega
  have i2 : (j : Int) < n := by omega
  have i3 : (0 : Int) ≤ i := by omega
  have i4 : (0 : Int) ≤ j := by omega
  go_enter Try.func89, Try.ntmps89
  go_wp2_with fail
  go_quiet (fail)
  go_wp2_with fail
  go_ret
  exact ⟨rfl, _, rfl⟩
set_option maxRecDepth 20000 in
set_option maxHeartbeats 1000000 in
theorem Swap_any {B : Nat} (g cap n i j : Nat) (Q : List Stop) (w : World) (hq : que B w (.slice (some ⟨g, 0, none⟩) n cap) Q) (hn : Q.length = n) (hi : i < n) (hj : j < n) :
    Calls Try.prog 90 #[.slice (some ⟨g, 0, none⟩) n cap, .int .i64 (i : Int), .int .i64 (j : Int)] w fun e w' => e = .returned (.tuple #[]) ∧ que B w' (.slice (some ⟨g, 0, none⟩) n cap) (swp Q i j) ∧ Ex (fun k => k = g) w w' := by
  have i1 : (i : Int) < n := by omega
  have i2 : (j : Int) < n := by omega
  have i3 : (0 : Int) ≤ i := by omega
  have i4 : (0 : Int) ≤ j := by omega
  obtain ⟨s, hs⟩ : ∃ s, Q.getD i ⟨0, 0, 0⟩ = s := ⟨_, rfl⟩
  obtain ⟨t, ht⟩ : ∃ t, Q.getD j ⟨0, 0, 0⟩ = t := ⟨_, rfl⟩
  obtain ⟨a1, a2, a3⟩ := que_cell hq hn hi hs
  obtain ⟨b1, b2, b3⟩ := que_cell hq hn hj ht
  have fz := que_free hq hn
  have hq1 := que_put hq hn hi t
  have hn1 : (Q.set i t).length = n := by simpa using hn
  obtain ⟨d1, d2, d3⟩ := que_cell hq1 hn1 hj rfl
  have fz1 := que_free hq1 hn1
  go_enter Try.func90, Try.ntmps90
  go_wp2_with fail
  go_region
  go_end0
  have hq2 := que_put hq1 hn1 hj s
  have e : (Q.set i t).set j s = swp Q i j := by unfold swp; rw [hs, ht]
  rw [e] at hq2
  refine ⟨rfl, que_drew hq2, ?_⟩
  have E1 := fun (V : World) (p : Addr) (u : Value) (hp : p.block = g) => Ex.set (S := fun k => k = g) V p hp u
  have T1 := fun {a b c : World} (h : Ex (fun k => k = g) a b) (k : Ex (fun k => k = g) b c) => Ex.trans h k (fun _ _ e => e)
  exact (T1 (T1 (T1 (T1 (T1 (E1 w _ _ rfl) (E1 _ _ _ rfl)) (E1 _ _ _ rfl)) (E1 _ _ _ rfl)) (E1 _ _ _ rfl)) (E1 _ _ _ rfl)).drew
theorem Less_at {B : Nat} (g cap n i j : Nat) (iv jv : Int) (Q : List Stop) (X Y : Int) (w : World) (hq : que B w (.slice (some ⟨g, 0, none⟩) n cap) Q) (hn : Q.length = n) (hi : i < n) (hj : j < n) (hX : Hid (ky Q i = X)) (hY : Hid (ky Q j = Y)) (ei : iv = i) (ej : jv = j) :
    Calls Try.prog 89 #[.slice (some ⟨g, 0, none⟩) n cap, .int .i64 iv, .int .i64 jv] w fun e w' => e = .returned (.bool (decide (X < Y))) ∧ ∃ m, w' = w.drewN m := by
  subst ei ej; exact Less_any g cap n i j Q X Y w hq hn hi hj hX hY
theorem Swap_at {B : Nat} (g cap n i j : Nat) (iv jv : Int) (Q : List Stop) (w : World) (hq : que B w (.slice (some ⟨g, 0, none⟩) n cap) Q) (hn : Q.length = n) (hi : i < n) (hj : j < n) (ei : iv = i) (ej : jv = j) :
    Calls Try.prog 90 #[.slice (some ⟨g, 0, none⟩) n cap, .int .i64 iv, .int .i64 jv] w fun e w' => e = .returned (.tuple #[]) ∧ que B w' (.slice (some ⟨g, 0, none⟩) n cap) (swp Q i j) ∧ Ex (fun k => k = g) w w' := by
  subst ei ej; exact Swap_any g cap n i j Q w hq hn hi hj
end Go.Proofs.Ytkdammmikmljmaa
