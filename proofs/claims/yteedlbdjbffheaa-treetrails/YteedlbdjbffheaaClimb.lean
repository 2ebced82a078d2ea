/- What Root, climb and Holds return. -/
import Derived.Test.YteedlbdjbffheaaRoot
import Derived.Test.YteedlbdjbffheaaOwn
namespace Go.Proofs.Yteedlbdjbffheaa
open Go.RowKit
set_option linter.unusedVariables false

set_option maxRecDepth 20000 in
theorem Root_ok (l : List ByteArray) (p : Option Addr) (k c : Nat) (w : World) (hl : l.length = k) (hn : k ≤ 256) (hc : k ≤ c) (ht : txt w p l) (hs : tsm l) :
    Calls Try.prog 8 #[.slice p k c] w fun e w' => e = .returned (.tuple #[.int .u64 (rts l), .int .i64 0]) ∧ ∃ q, w' = w.drewN q := by
  have HR : Hid (Calls Try.prog 26 #[.slice p k c] w fun e w' => e = .returned (.int .u64 (rts l)) ∧ ∃ q, w' = w.drewN q) := root_any l p k c w hl hn hc ht hs
  have h2 : ¬ (256 : Int) < k := by omega
  clear hl ht hs
  go_enter Try.func8, Try.ntmps8
  go_wp2_with fail
  refine HR.out.mono ?_
  rintro e w' ⟨rfl, q, hw⟩; subst w'
  go_wp2_with fail
  go_ret2
  exact ⟨rfl, q, rfl⟩
set_option maxRecDepth 20000 in
theorem Root_large (p : Option Addr) (k c : Nat) (w : World) (hn : 256 < k) :
    Calls Try.prog 8 #[.slice p k c] w fun e w' => e = .returned (.tuple #[.int .u64 0, .int .i64 2]) ∧ w' = w := by
  have h2 : (256 : Int) < k := by omega
  go_enter Try.func8, Try.ntmps8
  go_wp2_with fail
  go_ret2
  exact ⟨rfl, rfl⟩

def ClimbC (n : Nat) : Prop := ∀ (x i k m c : Nat) (t : List Nat) (p : Option Addr) (w : World), k < n → 1 ≤ k → k ≤ 256 → i < k → x < 18446744073709551616 → t.length = m → m ≤ c → m ≤ 9223372036854775807 → row w p t → small t →
  Calls Try.prog 32 #[.int .u64 x, .int .i64 i, .int .i64 k, .slice p m c] w fun e w' => ∃ (y : Nat) (b : Bool), e = .returned (.tuple #[.int .u64 y, .bool b]) ∧ y < 18446744073709551616 ∧ cl pr x i k t = (if b = true then some y else none) ∧ ∃ q, w' = w.drewN q

theorem row_init {w : World} {p : Option Addr} {b : List Nat} {o : Nat} (h : row w p (b ++ [o])) : row w p b := by
  intro j hj
  obtain ⟨a, ha, hc⟩ := h j (by simp; omega)
  refine ⟨a, ha, ?_⟩
  rw [hc]; simp [List.getD_eq_getElem?_getD, List.getElem?_append_left hj]
theorem small_init {b : List Nat} {o : Nat} (h : small (b ++ [o])) : small b ∧ o < 18446744073709551616 := ⟨fun x hx => h x (by simp [hx]), h o (by simp)⟩

set_option maxRecDepth 20000 in
set_option maxHeartbeats 1000000 in
theorem climb_one (x i m c : Nat) (t : List Nat) (p : Option Addr) (w : World) (hx : x < 18446744073709551616) (hm : t.length = m) :
  Calls Try.prog 32 #[.int .u64 x, .int .i64 i, .int .i64 1, .slice p m c] w fun e w' => ∃ (y : Nat) (b : Bool), e = .returned (.tuple #[.int .u64 y, .bool b]) ∧ y < 18446744073709551616 ∧ cl pr x i 1 t = (if b = true then some y else none) ∧ ∃ q, w' = w.drewN q := by
  have HX : Hid (x < 18446744073709551616) := hx
  have HC : Hid (cl pr x i 1 t = if decide ((m : Int) = 0) = true then some x else none) := by
    unfold Hid
    rw [cl_one]
    cases t with
    | nil => simp at hm; subst hm; rfl
    | cons a t => simp at hm; rw [if_neg (by simp), if_neg (by simp; omega)]
  clear hx hm
  go_enter Try.func32, Try.ntmps32
  go_wp2_with fail
  go_ret2
  exact ⟨x, _, rfl, HX.out, HC.out, 0, rfl⟩

set_option maxRecDepth 20000 in
set_option maxHeartbeats 1000000 in
theorem climb_nil (x i k c : Nat) (p : Option Addr) (w : World) (hk : 2 ≤ k) :
  Calls Try.prog 32 #[.int .u64 x, .int .i64 i, .int .i64 k, .slice p 0 c] w fun e w' => ∃ (y : Nat) (b : Bool), e = .returned (.tuple #[.int .u64 y, .bool b]) ∧ y < 18446744073709551616 ∧ cl pr x i k [] = (if b = true then some y else none) ∧ ∃ q, w' = w.drewN q := by
  have HC : Hid (cl pr x i k [] = none) := cl_nil pr x i hk
  have e5 : ¬ (k : Int) = 1 := by omega
  go_enter Try.func32, Try.ntmps32
  go_wp2_with fail
  go_ret2
  exact ⟨0, false, rfl, by decide, HC.out, 0, rfl⟩

set_option maxRecDepth 20000 in
set_option maxHeartbeats 1000000 in
theorem climb_step (k : Nat) (ih : ClimbC k) (x i M m c : Nat) (b : List Nat) (o : Nat) (a : Addr) (w : World) (h2 : 2 ≤ k) (hn : k ≤ 256) (hi : i < k) (hx : x < 18446744073709551616) (hM : m = M + 1) (hb : b.length = M) (hc : m ≤ c) (hm : m ≤ 9223372036854775807) (hr : row w (some a) (b ++ [o])) (hs : small (b ++ [o])) :
  Calls Try.prog 32 #[.int .u64 x, .int .i64 i, .int .i64 k, .slice (some a) m c] w fun e w' => ∃ (y : Nat) (B : Bool), e = .returned (.tuple #[.int .u64 y, .bool B]) ∧ y < 18446744073709551616 ∧ cl pr x i k (b ++ [o]) = (if B = true then some y else none) ∧ ∃ q, w' = w.drewN q := by
  have IH : Hid (ClimbC k) := ih
  have HR : Hid (row w (some a) b) := row_init hr
  have HS : Hid (small b) := (small_init hs).1
  have HO : Hid (o < 18446744073709551616) := (small_init hs).2
  have HX : Hid (x < 18446744073709551616) := hx
  have HB : Hid (b.length = M) := hb
  have hcell : w.cell? (a.add M) = some (.int .u64 o) := by
    have := row_cell hr M (by simp; omega)
    rw [this]; simp [List.getD_eq_getElem?_getD, ← hb]
  have hsp := sp_lt h2
  have hsp0 := sp_pos k
  have HSP : Hid (∀ w : World, Calls Try.prog 33 #[.int .i64 k] w fun e w' => e = .returned (.int .i64 (sp k)) ∧ w' = w) := fun w => split_any k w h2 hn
  have HCL : Hid (i < sp k → cl pr x i k (b ++ [o]) = (cl pr x i (sp k) b).map (fun y => pr y o)) := fun h => cl_left pr x h2 h b o
  have HCR : Hid (¬ i < sp k → cl pr x i k (b ++ [o]) = (cl pr x (i - sp k) (k - sp k) b).map (fun y => pr o y)) := fun h => cl_right pr x h2 h b o
  obtain ⟨S, hS⟩ : ∃ S, sp k = S := ⟨_, rfl⟩
  rw [hS] at hsp hsp0 HSP HCL HCR
  have e5 : ¬ (k : Int) = 1 := by omega
  have e6 : ¬ (m : Int) = 0 := by omega
  have e7 : IntKind.i64.wrap ((m : Int) - 1) = M := by rw [IntKind.wrap_i64]; omega
  have e8 : (M : Int) ≤ c := by omega
  have e9 : (M : Int) < m := by omega
  clear hr hs hx hb hS ih
  have HMC : Hid (M ≤ c ∧ M ≤ 9223372036854775807) := ⟨by omega, by omega⟩
  by_cases hlt : i < S
  · have HCL := HCL.out hlt
    have HI : Hid (∀ w : World, row w (some a) b → Calls Try.prog 32 #[.int .u64 x, .int .i64 i, .int .i64 S, .slice (some a) M c] w fun e w' => ∃ (y : Nat) (B : Bool), e = .returned (.tuple #[.int .u64 y, .bool B]) ∧ y < 18446744073709551616 ∧ cl pr x i S b = (if B = true then some y else none) ∧ ∃ q, w' = w.drewN q) :=
      fun w hr => IH.out x i S M c b (some a) w hsp (by omega) (by omega) hlt HX.out HB.out HMC.out.1 HMC.out.2 hr HS.out
    clear IH HCR
    clear hM
    go_enter Try.func32, Try.ntmps32
    go_wp2_with fail
    go_quiet (fail)
    go_wp2_with fail
    refine (HSP.out _).mono ?_
    rintro e w' ⟨rfl, hw⟩; subst w'
    go_wp2_with fail
    refine (HI.out _ (row_drewN HR.out _)).mono ?_
    rintro e w' ⟨y, B, rfl, hy, hB, q, hw⟩; subst w'
    go_wp2_with fail
    refine (Pair_any y o _ hy HO.out).mono ?_
    rintro e w' ⟨rfl, hw⟩; subst w'
    go_wp2_with fail
    go_ret2
    refine ⟨pr y o, B, rfl, pr_lt _ _, ?_, _, rfl⟩
    rw [HCL, hB]; cases B <;> rfl
  · have HCL := HCR.out hlt
    have HI : Hid (∀ w : World, row w (some a) b → Calls Try.prog 32 #[.int .u64 x, .int .i64 (i - S : Nat), .int .i64 (k - S : Nat), .slice (some a) M c] w fun e w' => ∃ (y : Nat) (B : Bool), e = .returned (.tuple #[.int .u64 y, .bool B]) ∧ y < 18446744073709551616 ∧ cl pr x (i - S) (k - S) b = (if B = true then some y else none) ∧ ∃ q, w' = w.drewN q) :=
      fun w hr => IH.out x (i - S) (k - S) M c b (some a) w (by omega) (by omega) (by omega) (by omega) HX.out HB.out HMC.out.1 HMC.out.2 hr HS.out
    clear IH HCR
    clear hM
    have f1 : (i : Int) - S = ((i - S : Nat) : Int) := by omega
    have f2 : (k : Int) - S = ((k - S : Nat) : Int) := by omega
    go_enter Try.func32, Try.ntmps32
    go_wp2_with fail
    go_quiet (fail)
    go_wp2_with fail
    refine (HSP.out _).mono ?_
    rintro e w' ⟨rfl, hw⟩; subst w'
    go_wp2_with fail
    refine (HI.out _ (row_drewN HR.out _)).mono ?_
    rintro e w' ⟨y, B, rfl, hy, hB, q, hw⟩; subst w'
    go_wp2_with fail
    refine (Pair_any o y _ HO.out hy).mono ?_
    rintro e w' ⟨rfl, hw⟩; subst w'
    go_wp2_with fail
    go_ret2
    refine ⟨pr o y, B, rfl, pr_lt _ _, ?_, _, rfl⟩
    rw [HCL, hB]; cases B <;> rfl
theorem climb_all (n : Nat) : ClimbC n := by
  induction n with
  | zero => intro x i k m c t p w h; omega
  | succ n ih =>
    intro x i k m c t p w hk h1 hn hi hx hm hc hm2 hr hs
    rcases Nat.lt_or_ge k n with h | h
    · exact ih x i k m c t p w h h1 hn hi hx hm hc hm2 hr hs
    · obtain rfl : k = n := by omega
      rcases Nat.lt_or_ge k 2 with h2 | h2
      · obtain rfl : k = 1 := by omega
        exact climb_one x i m c t p w hx hm
      · rcases snoc_cases t with rfl | ⟨b, o, rfl⟩
        · obtain rfl : m = 0 := by simpa using hm.symm
          exact climb_nil x i k c p w h2
        · obtain ⟨a, rfl⟩ := row_some hr (by simp)
          exact climb_step k ih x i b.length m c b o a w h2 hn hi hx (by simpa using hm.symm) rfl hc hm2 hr hs
theorem climb_any (x i k m c : Nat) (t : List Nat) (p : Option Addr) (w : World) (h1 : 1 ≤ k) (hn : k ≤ 256) (hi : i < k) (hx : x < 18446744073709551616) (hm : t.length = m) (hc : m ≤ c) (hm2 : m ≤ 9223372036854775807) (hr : row w p t) (hs : small t) :
  Calls Try.prog 32 #[.int .u64 x, .int .i64 i, .int .i64 k, .slice p m c] w fun e w' => ∃ (y : Nat) (b : Bool), e = .returned (.tuple #[.int .u64 y, .bool b]) ∧ y < 18446744073709551616 ∧ cl pr x i k t = (if b = true then some y else none) ∧ ∃ q, w' = w.drewN q :=
  climb_all (k + 1) x i k m c t p w (by omega) h1 hn hi hx hm hc hm2 hr hs

/-- Is the root come to? -/
def hld (r x i k : Nat) (t : List Nat) : Bool := decide (cl pr x i k t = some r)

set_option maxRecDepth 20000 in
set_option maxHeartbeats 1000000 in
theorem Holds_ok (r : Nat) (s : ByteArray) (i k m c : Nat) (t : List Nat) (p : Option Addr) (w : World) (h1 : 1 ≤ k) (hn : k ≤ 256) (hi : i < k) (hz : s.size ≤ 9223372036854775807) (hm : t.length = m) (hc : m ≤ c) (hm2 : m ≤ 9223372036854775807) (hr : row w p t) (hs : small t) :
  Calls Try.prog 18 #[.int .u64 r, .string s, .int .i64 i, .int .i64 k, .slice p m c] w fun e w' => e = .returned (.tuple #[.bool (hld r (lf s) i k t), .int .i64 0]) ∧ ∃ q, w' = w.drewN q := by
  have HZ : Hid (s.size ≤ 9223372036854775807) := hz
  have HC : Hid (∀ w : World, row w p t → Calls Try.prog 32 #[.int .u64 (lf s), .int .i64 i, .int .i64 k, .slice p m c] w fun e w' => ∃ (y : Nat) (b : Bool), e = .returned (.tuple #[.int .u64 y, .bool b]) ∧ y < 18446744073709551616 ∧ cl pr (lf s) i k t = (if b = true then some y else none) ∧ ∃ q, w' = w.drewN q) :=
    fun w hr => climb_any (lf s) i k m c t p w h1 hn hi (lf_lt s) hm hc hm2 hr hs
  have HR : Hid (row w p t) := hr
  have HH : Hid (∀ (y : Nat) (b : Bool), cl pr (lf s) i k t = (if b = true then some y else none) → hld r (lf s) i k t = (b && decide ((y : Int) = r))) := by
    intro y b hb
    unfold hld
    rw [hb]
    cases b
    · simp
    · simp; omega
  obtain ⟨X, hX⟩ : ∃ X, hld r (lf s) i k t = X := ⟨_, rfl⟩
  rw [hX] at HH ⊢
  clear hX
  have e0 : ¬ (i : Int) < 0 := by omega
  have e1 : ¬ (k : Int) < 1 := by omega
  have e2 : ¬ (256 : Int) < k := by omega
  have e3 : ¬ (k : Int) ≤ i := by omega
  clear hr hs hz hm
  go_enter Try.func18, Try.ntmps18
  go_wp2_with fail
  refine (Leaf_any s _ HZ.out).mono ?_
  rintro e w' ⟨rfl, hw⟩; subst w'
  go_wp2_with fail
  refine (HC.out _ HR.out).mono ?_
  rintro e w' ⟨y, b, rfl, hy, hB, q, hw⟩; subst w'
  have HB := HH.out y b hB
  clear hB HH HC HR
  have HB2 : Hid (X = (b && decide ((y : Int) = r))) := HB
  clear HB
  cases b
  · go_wp2_with fail
    go_ret2
    exact ⟨by rw [HB2.out]; rfl, q, rfl⟩
  · go_wp2_with fail
    go_ret2
    exact ⟨by rw [HB2.out]; rfl, q, rfl⟩
set_option maxRecDepth 20000 in
set_option maxHeartbeats 1000000 in
theorem Holds_bad (r : Nat) (s : ByteArray) (i k : Int) (m c : Nat) (p : Option Addr) (w : World) (h : ¬ (1 ≤ k ∧ k ≤ 256 ∧ 0 ≤ i ∧ i < k)) :
  Calls Try.prog 18 #[.int .u64 r, .string s, .int .i64 i, .int .i64 k, .slice p m c] w fun e w' => e = .returned (.tuple #[.bool false, .int .i64 1]) ∧ w' = w := by
  by_cases h1 : k < 1
  · clear h
    go_enter Try.func18, Try.ntmps18
    go_wp2_with fail
    go_ret2
    exact ⟨rfl, rfl⟩
  · by_cases h2 : 256 < k
    · clear h
      go_enter Try.func18, Try.ntmps18
      go_wp2_with fail
      go_ret2
      exact ⟨rfl, rfl⟩
    · by_cases h3 : i < 0
      · clear h
        go_enter Try.func18, Try.ntmps18
        go_wp2_with fail
        go_ret2
        exact ⟨rfl, rfl⟩
      · have h4 : k ≤ i := by omega
        clear h
        go_enter Try.func18, Try.ntmps18
        go_wp2_with fail
        go_ret2
        exact ⟨rfl, rfl⟩
end Go.Proofs.Yteedlbdjbffheaa
