/- For every three texts: of their bytes taken together (exclusive or), so many as the shortest has, the sum is that of their sums. -/
import Derived.Test.YtnllcecalobebaaRows
import Derived.Test.YtnllcecalobebaaPost
import Derived.Test.YtnllcecalobebaaCon
import Derived.Test.YtnllcecalobebaaMem
import Derived.Test.YtnllcecalobebaaRef
import Derived.Deep.RegionHeld3
import Derived.Deep.DrawnRows
import Derived.Deep.QuietTactic
import Derived.BigQuiet
import Derived.WalkKit
import Derived.ProofKit
import Derived.OpenShut
import Derived.SizedLaws
import Derived.ChangeMaps5
import Derived.JoinedCond
namespace Go.Proofs.Ytnllcecalobebaa.crcLine
open Go.ChangeShapes Go.WideShapes Go.ChangeAt Go.RowKit
set_option linter.unusedVariables false

theorem own : ownKnob Try.prog.godebug = none := by kernel_rfl

/-- Three texts as one, so many bytes of each. -/
def t3 (a b c : ByteArray) (n : Nat) : List UInt8 := (List.range n).map fun i => a.data.toList.getD i 0 ^^^ b.data.toList.getD i 0 ^^^ c.data.toList.getD i 0
theorem t3_length (a b c : ByteArray) (n : Nat) : (t3 a b c n).length = n := by simp [t3]
theorem getD_at (s : ByteArray) (k : Nat) (h : k < s.size) : s.data.toList.getD k 0 = s[k] := by
  rw [List.getD_eq_getElem?_getD, List.getElem?_eq_getElem (by simpa using h)]; rfl
theorem t3_at (a b c : ByteArray) (n k : Nat) (hk : k < n) (h0 : k < a.size) (h1 : k < b.size) (h2 : k < c.size) : (t3 a b c n)[k]'(by rw [t3_length]; exact hk) = a[k] ^^^ b[k] ^^^ c[k] := by
  simp only [t3, List.getElem_map, List.getElem_range, getD_at _ _ h0, getD_at _ _ h1, getD_at _ _ h2]
theorem xor8 (x y : UInt8) : bits .xor .u8 (x.toNat : Int) (y.toNat : Int) = ((x ^^^ y).toNat : Int) := by
  rw [u8_xor_nat _ _ (by have := x.toNat_lt; simpa using this) (by have := y.toNat_lt; simpa using this), UInt8.toNat_xor]
theorem t3_sum (a b c : ByteArray) (n : Nat) (h0 : n ≤ a.size) (h1 : n ≤ b.size) (h2 : n ≤ c.size) : mr 0 (t3 a b c n) = mr 0 (a.extract 0 n).data.toList ^^^ mr 0 (b.extract 0 n).data.toList ^^^ mr 0 (c.extract 0 n).data.toList := by
  have hl : ∀ s : ByteArray, n ≤ s.size → (s.extract 0 n).data.toList.length = n := fun s h => by
    have : s.size = s.data.size := rfl
    simp; omega
  apply mr_three
  · rw [t3_length, hl a h0]
  · rw [t3_length, hl b h1]
  · rw [t3_length, hl c h2]
  · intro i g _ _ _
    rw [t3_length] at g
    rw [t3_at a b c n i g (by omega) (by omega) (by omega)]
    have e : ∀ s : ByteArray, ∀ (q : i < s.size) (q' : i < (s.extract 0 n).data.toList.length), (s.extract 0 n).data.toList[i] = s[i] := fun s q q' => by
      simp; rfl
    rw [e a (by omega), e b (by omega), e c (by omega)]
theorem run_min3 {P : Program} (w : World) (ts : Array TypeId) (t : TypeId) (k k1 k2 : IntKind) (x y z : Nat) : (Builtin.min_ ts t #[.int k x, .int k1 y, .int k2 z]).run P w = .ok (.int k ((min (min x y) z : Nat) : Int)) w := by
  simp [Builtin.min_, Builtin.min2]
  by_cases h1 : y < x <;> by_cases h2 : z < x <;> by_cases h3 : z < y <;> simp [h1, h2, h3] <;> omega
theorem makeN (n : Nat) (hn : n ≤ 140737488351232) (w : World) : (Instr.makeSlice 36 (.int .i64 n) (.int .i64 n)).run Try.prog w = .ok (.slice (some ⟨w.heap.size, 0, none⟩) n n) (w.alloc (.cells (madeCells #[.int .u8 0] n) 5)) :=
  run_make_row' (P := Try.prog) 36 5 (.int .u8 0) 1 Try.underlying36 info5 rfl .i64 .i64 n (by omega) (by omega) w
attribute [local go_sem ↓] Go.wp_at_zero Go.wp_at_succ

set_option maxRecDepth 20000 in
set_option maxHeartbeats 4000000 in
theorem walk (s0 : ByteArray) (s1 : ByteArray) (s2 : ByteArray) (hs0 : s0.size ≤ 140737488351232) (hs1 : s1.size ≤ 140737488351232) (hs2 : s2.size ≤ 140737488351232) (w : World) :
    Calls Try.prog 7 #[.string s0, .string s1, .string s2] w fun e w' => e = .returned (.bool true) ∧ Below w.heap.size w w' := by
  obtain ⟨n, hn⟩ : ∃ n, min (min s0.size s1.size) s2.size = n := ⟨_, rfl⟩
  have m3 : ∀ w ts t, (Builtin.min_ ts t #[.int .i64 s0.size, .int .i64 s1.size, .int .i64 s2.size]).run Try.prog w = .ok (.int .i64 n) w := fun w ts t => by rw [← hn]; exact run_min3 w ts t _ _ _ _ _ _
  have n0 : n ≤ s0.size := by omega
  have n1 : n ≤ s1.size := by omega
  have n2 : n ≤ s2.size := by omega
  have HSUM : Hid (mr 0 (t3 s0 s1 s2 n) = _) := t3_sum s0 s1 s2 n n0 n1 n2
  have hmk := makeN n (by omega)
  clear hn
  obtain ⟨l, hl⟩ : ∃ l, t3 s0 s1 s2 n = l := ⟨_, rfl⟩
  have HL : Hid (l.length = n) := by rw [← hl]; exact t3_length _ _ _ _
  have HAT : Hid (∀ k (hk : k < n) (hk' : k < l.length), l[k] = s0[k]'(by omega) ^^^ s1[k]'(by omega) ^^^ s2[k]'(by omega)) := by
    subst hl; intro k hk _; exact t3_at s0 s1 s2 n k hk (by omega) (by omega) (by omega)
  rw [hl] at HSUM
  clear hl
  go_enter Try.func7, Try.ntmps7
  go_wp2_with fail
  clear hmk m3
  obtain ⟨w1, hw1⟩ : ∃ w1 : World, w.alloc (.cells (madeCells #[.int .u8 0] n) 5) = w1 := ⟨_, rfl⟩
  have H1 : Hid (binv w.heap.size w l 0 w1) := by
    rw [← hw1]; exact ⟨(Below.refl _ _).alloc (Nat.le_refl _) _, by simp, by rw [filled_zero, HL.out]; exact brow_made w n 5⟩
  rw [hw1]
  clear hw1
  go_loopw [21] (fun i wr => ∃ k : Nat, k ≤ n ∧ i = .int .i64 k ∧ binv w.heap.size w l k wr) (fun i _ => n - (intOf i).toNat)
  case atStart => exact ⟨0, by omega, rfl, H1.out⟩
  case round =>
    obtain ⟨k, hk, rfl, R⟩ := hrel
    have RR : Hid (binv w.heap.size w l k wr) := R
    by_cases hlt : k < n
    · have hL := HL.out
      obtain ⟨v0, hd⟩ : ∃ v0, wr.cell? ⟨w.heap.size, k, none⟩ = some v0 := ⟨_, brow_cell R.2.2 k (by rw [filled_length _ _ (by omega)]; omega)⟩
      have hf := brow_free R.2.2 k (by rw [filled_length _ _ (by omega)]; omega)
      have hN := binv_next R (by omega)
      rw [HAT.out k hlt (by omega)] at hN
      have k0 : k < s0.size := by omega
      have k1 : k < s1.size := by omega
      have k2 : k < s2.size := by omega
      have x1 := xor8 s0[k] s1[k]
      have x2 := xor8 (s0[k] ^^^ s1[k]) s2[k]
      obtain ⟨X, hX⟩ : ∃ X, (s0[k] ^^^ s1[k]).toNat = X := ⟨_, rfl⟩
      obtain ⟨Y, hY⟩ : ∃ Y, (s0[k] ^^^ s1[k] ^^^ s2[k]).toNat = Y := ⟨_, rfl⟩
      rw [hX] at x1 x2
      rw [hY] at x2 hN
      have HN : Hid (∀ m, binv w.heap.size w l (k + 1) ((wr.setCell ⟨w.heap.size, k, none⟩ (.int .u8 (Y : Int))).drewN m)) := fun m => ⟨below_drewN hN.1 m, hN.2.1, hN.2.2⟩
      have t1 : (0 : Int) ≤ (k : Int) := by omega
      clear R hN hX hY hL HAT HSUM H1
      go_wp2_with fail
      go_region_held3 (fun w' => w'.frozen? ⟨w.heap.size, k, none⟩ = false) (go_keep) (fail)
      all_goals
        go_wp2_with fail
        go_roundw
        case rel => exact ⟨k + 1, by omega, by go_num, HN.out 1⟩
        case measure => simp [intOf]; omega
    · obtain rfl : k = n := by omega
      have hL := HL.out
      have hr : brow wr w.heap.size l := by have := R.2.2; rw [← hL, filled_all] at this; exact this
      have hcv : ∀ m, (convert 36 9 (.slice (some ⟨w.heap.size, 0, none⟩) k k)).run Try.prog (wr.drewN m) = .ok (.string ⟨l.toArray⟩) (wr.drewN m) := fun m => by
        have := brow_string (P := Try.prog) (brow_drewN hr m) 36 9 5 k Try.underlying36 Try.underlying5 Try.underlying9
        rw [hL] at this; exact this
      obtain ⟨A, hA⟩ : ∃ A, mr 0 (s0.extract 0 k).data.toList = A := ⟨_, rfl⟩
      obtain ⟨B, hB⟩ : ∃ B, mr 0 (s1.extract 0 k).data.toList = B := ⟨_, rfl⟩
      obtain ⟨C, hC⟩ : ∃ C, mr 0 (s2.extract 0 k).data.toList = C := ⟨_, rfl⟩
      obtain ⟨T, hT⟩ : ∃ T, mr 0 l = T := ⟨_, rfl⟩
      have hs := HSUM.out
      have A1 : A < 4294967296 := hA ▸ mr_lt _ (by omega)
      have B1 : B < 4294967296 := hB ▸ mr_lt _ (by omega)
      have C1 : C < 4294967296 := hC ▸ mr_lt _ (by omega)
      rw [hA, hB, hC, hT] at hs
      have AB : A ^^^ B < 4294967296 := by have : A ^^^ B < 2 ^ 32 := Nat.xor_lt_two_pow (by omega) (by omega); simpa using this
      have x1 := u32_xor_nat A B A1 B1
      have x2 := u32_xor_nat (A ^^^ B) C AB C1
      rw [← hs] at x2
      obtain ⟨X, hX⟩ : ∃ X, A ^^^ B = X := ⟨_, rfl⟩
      rw [hX] at x1 x2
      have CA : ∀ w, Calls Try.prog 11 #[.string (s0.extract 0 k)] w fun e w' => e = .returned (.int .u32 A) ∧ w' = w := fun w => by
        have := Of_any (s0.extract 0 k) w (by unfold maxLen; simp; omega); rwa [hA] at this
      have CB : ∀ w, Calls Try.prog 11 #[.string (s1.extract 0 k)] w fun e w' => e = .returned (.int .u32 B) ∧ w' = w := fun w => by
        have := Of_any (s1.extract 0 k) w (by unfold maxLen; simp; omega); rwa [hB] at this
      have CC : ∀ w, Calls Try.prog 11 #[.string (s2.extract 0 k)] w fun e w' => e = .returned (.int .u32 C) ∧ w' = w := fun w => by
        have := Of_any (s2.extract 0 k) w (by unfold maxLen; simp; omega); rwa [hC] at this
      have CT : ∀ w, Calls Try.prog 11 #[.string ⟨l.toArray⟩] w fun e w' => e = .returned (.int .u32 T) ∧ w' = w := fun w => by
        have := Of_any ⟨l.toArray⟩ w (by unfold maxLen; show l.toArray.size ≤ _; simp; omega)
        simp only [] at this; rwa [hT] at this
      clear hA hB hC hT hs A1 B1 C1 AB hX HSUM HAT H1 R hL hr
      go_wp2_with fail
      go_quiet (first | (go_at_call 18; exact Calls.quiet_of_same (lives_any _)) | (go_at_call 11; first | exact Calls.quiet_of_same (CA _) | exact Calls.quiet_of_same (CB _) | exact Calls.quiet_of_same (CC _) | exact Calls.quiet_of_same (CT _)))
      go_wp2_with fail
      go_ret
      exact ⟨rfl, below_drewN RR.out.1 _⟩

set_option maxRecDepth 100000 in
theorem lifted (os : Os) (started : os.Started) (H : Type) (enc : TypeId × Value → H) :
    ReturnsInHanded {} Try.checked os 7 .any (Rows.crcLineSpec.pre6 enc Try.prog Try.f7 Rows.crcLineRow.domain false) (Rows.crcLineSpec.post enc Try.prog Try.f7 false true false false) := by
  refine returnsInHanded_of_change_sized (C := Try.checked) own started (by kernel_rfl) Try.func7
    (ChangeSpec.witness6 (enc := enc) (C := Try.checked) false ⟨#[], #[.string ⟨#[]⟩, .string ⟨#[]⟩, .string ⟨#[]⟩], []⟩ 8 (by kernel_rfl) (by kernel_rfl) (by kernel_rfl) (by kernel_rfl)) ?_
  intro W base args ds gs before hval0 hW hcnd hsz _
  have hval : ∀ (j : Nat) t v, Try.f7.params[j]? = some t → args[j]? = some v → Value.okWide Try.prog W .any base t v := hval0
  have hW' := hW
  obtain ⟨p, q, hA0, hV, rfl, hfz, hnd⟩ := hW
  have hA : DataW.TrodAll enc Try.prog W 0 (fun _ => true) true Try.f7.params.toList args.toList ds p := hA0
  rw [Try.params7] at hA hval
  obtain ⟨v0, vs0, d0, ds0, p0, q0, hargs, rfl, rfl, h0, r0⟩ := trodAll_cons hA
  obtain ⟨v1, vs1, d1, ds1, p1, q1, rfl, rfl, rfl, h1, r1⟩ := trodAll_cons r0
  obtain ⟨v2, vs2, d2, ds2, p2, q2, rfl, rfl, rfl, h2, r2⟩ := trodAll_cons r1
  obtain ⟨rfl, rfl, rfl⟩ := trodAll_nil r2
  obtain rfl : args = #[v0, v1, v2] := by cases args; simp_all
  obtain ⟨rfl, rfl⟩ := trodVars_none hV
  obtain ⟨s0, rfl, rfl, rfl, hm0⟩ := Go.ChangeMaps.open_string Try.underlying9 (hval 0 9 v0 rfl rfl) h0
  obtain ⟨s1, rfl, rfl, rfl, hm1⟩ := Go.ChangeMaps.open_string Try.underlying9 (hval 1 9 v1 rfl rfl) h1
  obtain ⟨s2, rfl, rfl, rfl, hm2⟩ := Go.ChangeMaps.open_string Try.underlying9 (hval 2 9 v2 rfl rfl) h2
  have hs0 : s0.size ≤ 140737488351232 := by have := sized_string hsz (j := 0) rfl rfl; unfold reachBytes at this; simpa using this
  have hs1 : s1.size ≤ 140737488351232 := by have := sized_string hsz (j := 1) rfl rfl; unfold reachBytes at this; simpa using this
  have hs2 : s2.size ≤ 140737488351232 := by have := sized_string hsz (j := 2) rfl rfl; unfold reachBytes at this; simpa using this
  clear hA0 hval0
  refine (walk s0 s1 s2 hs0 hs1 hs2 W).mono fun e W' ⟨he, hg⟩ => ?_
  subst he
  exact ⟨_, rfl, law_post (by kernel_rfl) (by kernel_rfl) rfl (by kernel_rfl) Try.underlying4 hW' rfl hg⟩

theorem over : Rows.crcLineRow.holds Try.pinned (OpenSpec.ofChange Rows.crcLineSpec) :=
  OpenClaim.holds_of_wide 7 Try.f7 rfl rfl rfl rfl rfl rfl rfl ⟨rfl, rfl, rfl, rfl, rfl⟩ rfl rfl rfl rfl rfl (by kernel_rfl) Try.func7 (by kernel_rfl)
    (of_decide_eq_true (by kernel_rfl)) (by unfold Func.isWrapper; first | (rw [if_pos (by decide +kernel)]; kernel_rfl) | (rw [if_neg (by decide +kernel)]; exact ⟨rfl, rfl⟩))
    (fun os started H enc _ => lifted os started H enc)

theorem proved : Rows.CrcLineSaid :=
  over
end Go.Proofs.Ytnllcecalobebaa.crcLine

namespace Go.Proofs.Ytnllcecalobebaa
/-- For every three texts: of their bytes taken together (exclusive or), so many as the shortest has, the sum is that of their sums. -/
theorem crcLine_holds : Rows.CrcLineSaid := crcLine.proved
#print axioms crcLine_holds
end Go.Proofs.Ytnllcecalobebaa
