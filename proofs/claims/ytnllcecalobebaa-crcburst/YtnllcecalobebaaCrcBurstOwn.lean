/- For every text, every place and every thirty-two bits: a sealed text in which these bits are turned from there on, at least one and none behind its end, is not opened. -/
import Derived.Test.YtnllcecalobebaaRows
import Derived.Test.YtnllcecalobebaaPost
import Derived.Test.YtnllcecalobebaaCon
import Derived.Test.YtnllcecalobebaaMem
import Derived.Test.YtnllcecalobebaaRef
import Derived.Deep.RegionHeld3
import Derived.Deep.DrawnRows
import Derived.Deep.QuietTactic
import Derived.BigQuiet
import Derived.WalkKit
import Derived.ProofKit
import Derived.OpenShut
import Derived.SizedLaws
import Derived.ChangeMaps5
import Derived.JoinedCond
namespace Go.Proofs.Ytnllcecalobebaa.crcBurst
open Go.ChangeShapes Go.WideShapes Go.ChangeAt Go.RowKit
set_option linter.unusedVariables false

theorem own : ownKnob Try.prog.godebug = none := by kernel_rfl

theorem pow_mul_xor (i x y : Nat) : 2 ^ i * (x ^^^ y) = 2 ^ i * x ^^^ 2 ^ i * y := by
  apply Nat.eq_of_testBit_eq; intro j
  rw [Nat.testBit_xor, Nat.testBit_two_pow_mul, Nat.testBit_two_pow_mul, Nat.testBit_two_pow_mul, Nat.testBit_xor]
  by_cases h : i ≤ j <;> simp [h]
/-- What the rounds keep: so many of the bits are turned. -/
def vinv (B : Nat) (w : World) (g n at' bb : Nat) (l0 : List UInt8) (k : Nat) (wr : World) : Prop :=
  Below B w wr ∧ B ≤ g ∧ ∃ L : List UInt8, L.length = n ∧ brow wr g L ∧ num L = num l0 ^^^ 2 ^ at' * (bb % 2 ^ k)
theorem vinv_start {B : Nat} {w wr : World} {g n at' bb : Nat} {l0 : List UInt8} (hb : Below B w wr) (hg : B ≤ g) (hl : l0.length = n) (hr : brow wr g l0) : vinv B w g n at' bb l0 0 wr :=
  ⟨hb, hg, l0, hl, hr, by simp [Nat.mod_one]⟩
theorem vinv_none {B : Nat} {w wr : World} {g n at' bb k : Nat} {l0 : List UInt8} (h : vinv B w g n at' bb l0 k wr) (hb : bb / 2 ^ k % 2 = 0) : vinv B w g n at' bb l0 (k + 1) wr := by
  obtain ⟨h1, h2, L, h3, h4, h5⟩ := h
  exact ⟨h1, h2, L, h3, h4, by rw [mod_step_none bb k (by rw [Nat.testBit_eq_decide_div_mod_eq]; simp [hb])]; exact h5⟩
theorem vinv_one {B : Nat} {w wr : World} {g n at' bb k : Nat} {l0 : List UInt8} (h : vinv B w g n at' bb l0 k wr) (hb : bb / 2 ^ k % 2 = 1) (hlt : at' + k < 8 * n) :
    ∃ x : UInt8, wr.cell? ⟨g, (at' + k) / 8, none⟩ = some (.int .u8 (x.toNat : Int)) ∧ wr.frozen? ⟨g, (at' + k) / 8, none⟩ = false ∧
      ∀ m, vinv B w g n at' bb l0 (k + 1) ((wr.setCell ⟨g, (at' + k) / 8, none⟩ (.int .u8 ((x ^^^ UInt8.ofNat (2 ^ ((at' + k) % 8))).toNat : Int))).drewN m) := by
  obtain ⟨h1, h2, L, h3, h4, h5⟩ := h
  have hq : (at' + k) / 8 < L.length := by omega
  refine ⟨L[(at' + k) / 8], brow_cell h4 _ hq, brow_free h4 _ hq, fun m => ⟨below_drewN (h1.setCell h2 _) m, h2, _, ?_, brow_set h4 _ hq _, ?_⟩⟩
  · simpa using h3
  · rw [num_flip L _ _ hq (Nat.mod_lt _ (by omega)), h5, show 8 * ((at' + k) / 8) + (at' + k) % 8 = at' + k by omega, mod_step_one bb k (by rw [Nat.testBit_eq_decide_div_mod_eq]; simpa using hb), pow_mul_xor, ← Nat.pow_add]
    exact Nat.xor_assoc _ _ _
theorem bit_one (bb k : Nat) (h : bb < 4294967296) : bits .and .u32 ((bb : Int) / 2 ^ k) 1 = ((bb / 2 ^ k % 2 : Nat) : Int) := by
  have := and_one32 (bb / 2 ^ k) (Nat.lt_of_le_of_lt (Nat.div_le_self _ _) h)
  simpa using this
theorem xor_bit (x : UInt8) (r : Nat) (hr : r < 8) : bits .xor .u8 (x.toNat : Int) ((2 ^ r : Nat) : Int) = ((x ^^^ UInt8.ofNat (2 ^ r)).toNat : Int) := by
  have h : 2 ^ r < 256 := Nat.lt_of_lt_of_le (Nat.pow_lt_pow_right (by omega) hr) (by decide)
  rw [u8_xor_nat _ _ (by have := x.toNat_lt; simpa using this) h, UInt8.toNat_xor, UInt8.toNat_ofNat', Nat.mod_eq_of_lt h]
theorem pow_bit (r : Nat) (h : r < 8) : (2 : Int) ^ r % 256 = ((2 ^ r : Nat) : Int) := by
  have h2 : 2 ^ r < 256 := Nat.lt_of_lt_of_le (Nat.pow_lt_pow_right (by omega) h) (by decide)
  have h3 : ((2 ^ r : Nat) : Int) < 256 := by omega
  rw [Int.natCast_pow] at h3 ⊢
  exact Int.emod_eq_of_lt (Int.pow_nonneg (by decide)) h3
theorem torn {s : ByteArray} {n at' bb : Nat} {L : List UInt8} (hn : n = s.size + 4) (hL : L.length = n) (hb : bb < 4294967296) (h0 : bb ≠ 0) (hat : at' < 8 * n)
    (hx : num L = num (sl s).data.toList ^^^ 2 ^ at' * (bb % 2 ^ 32)) : ¬ tl (body ⟨L.toArray⟩) = foot ⟨L.toArray⟩ := by
  intro he
  have hz : (⟨L.toArray⟩ : ByteArray).size = n := by show L.toArray.size = n; simpa using hL
  have e1 := (sl_eq (s := ⟨L.toArray⟩) (by omega)).2 he
  have e2 : (body ⟨L.toArray⟩).data.toList ++ le4 (mr 0 (body ⟨L.toArray⟩).data.toList) = L := by
    have := congrArg (fun x : ByteArray => x.data.toList) e1
    unfold sl at this
    simpa [tl] using this
  have e3 : s.data.toList ++ le4 (mr 0 s.data.toList) = (sl s).data.toList := by unfold sl tl; simp
  have e4 : (sl s).data.toList.length = n := by
    rw [← e3, List.length_append, length_le4, Array.length_toList, hn]; rfl
  have e5 : (body ⟨L.toArray⟩).data.toList.length + 4 = n := by
    rw [← hL]
    have := congrArg List.length e2
    rw [List.length_append, length_le4] at this; exact this
  rw [Nat.mod_eq_of_lt (by simpa using hb)] at hx
  exact burst (sl s).data.toList at' bb s.data.toList e3 (body ⟨L.toArray⟩).data.toList (by rw [e2]; exact hx) (by rw [e4]; exact e5) hb h0 (by rw [e4]; exact hat)
theorem wrp (n : Int) (h1 : -9223372036854775808 ≤ n) (h2 : n ≤ 9223372036854775807) : IntKind.i64.wrap n = n := by
  rw [IntKind.wrap_i64]; omega
attribute [local go_sem ↓] Go.wp_at_zero Go.wp_at_succ

set_option maxRecDepth 20000 in
set_option maxHeartbeats 4000000 in
theorem walk (s0 : ByteArray) (a1 : Int) (a2 : Int) (hs0 : s0.size ≤ 140737488351232) (w1 : (Lit.int .i64 a1).wf = true) (w2 : (Lit.int .u32 a2).wf = true) (w : World) :
    Calls Try.prog 6 #[.string s0, .int .i64 a1, .int .u32 a2] w fun e w' => e = .returned (.bool true) ∧ Below w.heap.size w w' := by
  have ha : -9223372036854775808 ≤ a1 ∧ a1 ≤ 9223372036854775807 := by simpa [Lit.wf, IntKind.min, IntKind.max, IntKind.signed, IntKind.bits] using w1
  have hn : 0 ≤ a2 ∧ a2 ≤ 4294967295 := by simpa [Lit.wf, IntKind.min, IntKind.max, IntKind.signed, IntKind.bits] using w2
  obtain ⟨bb, rfl⟩ := Int.eq_ofNat_of_zero_le hn.1
  have HB : Hid (bb < 4294967296) := by show bb < _; omega
  have HS : Hid (s0.size + 4 ≤ maxLen) := by show _ ≤ _; unfold maxLen; omega
  have HZ : Hid ((sl s0).size = s0.size + 4) := by show _ = _; unfold sl; rw [ByteArray.size_append, tl_size]
  clear hn w1 w2
  go_enter Try.func6, Try.ntmps6
  go_wp2_with fail
  refine (Seal_any _ _ HS.out).mono ?_
  rintro e w1 ⟨rfl, hw1⟩
  have hcv := run_bytes_of_string (P := Try.prog) w1 9 36 5 (sl s0) Try.underlying9 Try.underlying36 Try.underlying5
  have hz : (sl s0).size = s0.size + 4 := HZ.out
  obtain ⟨t, ht⟩ : ∃ t, sl s0 = t := ⟨_, rfl⟩
  rw [ht] at hcv hz ⊢
  have HT : Hid (sl s0 = t) := ht
  clear ht HZ
  obtain ⟨n, hn⟩ : ∃ n, t.size = n := ⟨_, rfl⟩
  rw [hn] at hz hcv
  have HN : Hid (t.size = n) := hn
  have HZ : Hid (n = s0.size + 4) := hz
  have hn1 : 4 ≤ n := by omega
  have hn2 : n ≤ 140737488351236 := by omega
  clear hn hz
  generalize grownCap w1 n 0 5 = cap at *
  obtain ⟨W1, hW1⟩ : ∃ W1 : World, w1.drew.alloc (.cells (bytesRow t cap) 5 ((bytesRow t cap).size, (bytesRow t cap).size + 1)) = W1 := ⟨_, rfl⟩
  have HBR : Hid (brow W1 w1.heap.size t.data.toList) := by rw [← hW1]; exact brow_bytes w1.drew t cap 5
  have HBL : Hid (Below w.heap.size w W1) := by rw [← hW1]; exact (hw1.drew).alloc hw1.size _
  have HG : Hid (w.heap.size ≤ w1.heap.size) := hw1.size
  rw [hW1] at hcv
  clear hW1 hw1 hs0
  by_cases hbad : a1 < 0 ∨ 8 * (n : Int) ≤ a1 ∨ bb = 0
  · have hdec : (decide (a1 < 0) || decide (8 * (n : Int) ≤ a1) || (bb : Int) == 0) = true := by
      rcases hbad with h | h | h <;> simp [h]
    by_cases hx : a1 < 0
    · go_wp2_with fail
      refine (lives_any _).mono ?_
      rintro e w' ⟨rfl, hw⟩; subst w'
      go_wp2_with fail
      refine (lives_any _).mono ?_
      rintro e w' ⟨rfl, hw⟩; subst w'
      go_wp2_with fail
      go_ret
      exact ⟨rfl, HBL.out⟩
    · by_cases hy : 8 * (n : Int) ≤ a1
      · go_wp2_with fail
        refine (lives_any _).mono ?_
        rintro e w' ⟨rfl, hw⟩; subst w'
        go_wp2_with fail
        refine (lives_any _).mono ?_
        rintro e w' ⟨rfl, hw⟩; subst w'
        go_wp2_with fail
        go_ret
        exact ⟨rfl, HBL.out⟩
      · obtain rfl : bb = 0 := by omega
        go_wp2_with fail
        refine (lives_any _).mono ?_
        rintro e w' ⟨rfl, hw⟩; subst w'
        go_wp2_with fail
        refine (lives_any _).mono ?_
        rintro e w' ⟨rfl, hw⟩; subst w'
        go_wp2_with fail
        go_ret
        exact ⟨rfl, HBL.out⟩
  · have h0 : 0 ≤ a1 := by omega
    have h1 : a1 < 8 * (n : Int) := by omega
    have h2 : bb ≠ 0 := by omega
    have hbz : ((bb : Int) == 0) = false := by simpa using h2
    have H2 : Hid (bb ≠ 0) := h2
    clear hbad ha h2
    obtain ⟨at', rfl⟩ := Int.eq_ofNat_of_zero_le h0
    go_wp2_with fail
    refine (lives_any _).mono ?_
    rintro e w' ⟨rfl, hw⟩; subst w'
    go_wp2_with fail
    clear hcv
    have HST : Hid (vinv w.heap.size w w1.heap.size n at' bb t.data.toList 0 W1) := vinv_start HBL.out HG.out (by have := HN.out; simpa using this) HBR.out
    go_loopw [32] (fun i wr => ∃ k : Nat, k ≤ 32 ∧ i = .int .i64 k ∧ vinv w.heap.size w w1.heap.size n at' bb t.data.toList k wr) (fun i _ => 32 - (intOf i).toNat)
    case atStart => exact ⟨0, by omega, rfl, HST.out⟩
    case round =>
      obtain ⟨k, hk, rfl, R⟩ := hrel
      have RR : Hid (vinv w.heap.size w w1.heap.size n at' bb t.data.toList k wr) := R
      clear HST R
      by_cases hlt : k < 32
      · have hand := bit_one bb k HB.out
        rcases Nat.mod_two_eq_zero_or_one (bb / 2 ^ k) with hb | hb
        · rw [hb] at hand
          have HN1 : Hid (vinv w.heap.size w w1.heap.size n at' bb t.data.toList (k + 1) wr) := vinv_none RR.out hb
          clear hb
          go_wp2_with fail
          go_roundw
          case rel => exact ⟨k + 1, by omega, by go_num, HN1.out⟩
          case measure => simp [intOf]; omega
        · rw [hb] at hand
          by_cases hend : 8 * (n : Int) ≤ (at' : Int) + k
          · clear hb
            go_wp2_with fail
            go_ret
            exact ⟨rfl, RR.out.1⟩
          · obtain ⟨x, hc, hf, hnx⟩ := vinv_one RR.out hb (by omega)
            have hxb := xor_bit x ((at' + k) % 8) (Nat.mod_lt _ (by omega))
            rw [← pow_bit _ (Nat.mod_lt _ (by omega))] at hxb
            obtain ⟨Y, hY⟩ : ∃ Y, (x ^^^ UInt8.ofNat (2 ^ ((at' + k) % 8))).toNat = Y := ⟨_, rfl⟩
            simp only [hY] at hnx
            rw [hY] at hxb
            have HN1 : Hid (∀ m, vinv w.heap.size w w1.heap.size n at' bb t.data.toList (k + 1) ((wr.setCell ⟨w1.heap.size, (at' + k) / 8, none⟩ (.int .u8 (Y : Int))).drewN m)) := hnx
            clear hnx hY
            have d1 : ((at' : Int) + (k : Int)).tdiv 8 = (((at' + k) / 8 : Nat) : Int) := by rw [Int.tdiv_eq_ediv_of_nonneg (by omega)]; omega
            have d2 : ((at' : Int) + (k : Int)) / 8 = (((at' + k) / 8 : Nat) : Int) := by omega
            have d3 : ((at' : Int) + (k : Int)).tmod 8 = (((at' + k) % 8 : Nat) : Int) := by rw [Int.tmod_eq_emod_of_nonneg (by omega)]; omega
            have d4 : ((at' : Int) + (k : Int)) % 8 = (((at' + k) % 8 : Nat) : Int) := by omega
            have d5 : IntKind.i64.wrap (((at' + k) / 8 : Nat) : Int) = (((at' + k) / 8 : Nat) : Int) := wrp _ (by omega) (by omega)
            have d6 : IntKind.i64.wrap (((at' + k) % 8 : Nat) : Int) = (((at' + k) % 8 : Nat) : Int) := wrp _ (by omega) (by omega)
            have d7 : (((at' + k) / 8 : Nat) : Int) < (n : Int) := by omega
            have d8 : (0 : Int) ≤ (((at' + k) / 8 : Nat) : Int) := by omega
            have d9 : (0 : Int) ≤ (((at' + k) % 8 : Nat) : Int) := by omega
            obtain ⟨q, hq⟩ : ∃ q, (at' + k) / 8 = q := ⟨_, rfl⟩
            obtain ⟨r, hr⟩ : ∃ r, (at' + k) % 8 = r := ⟨_, rfl⟩
            rw [hq] at d1 d2 d5 d7 d8 hc hf HN1
            have d10 : (((at' + k) % 8 : Nat) : Int) ≤ 8 := by omega
            rw [hr] at d3 d4 d6 d9 d10 hxb
            clear hq hr
            have t1 : IntKind.i64.wrap ((at' : Int) + (k : Int)) = (at' : Int) + (k : Int) := wrp _ (by omega) (by omega)
            clear hb
            go_wp2_with fail
            go_region
            all_goals
              go_wp2_with fail
              go_roundw
              case rel => exact ⟨k + 1, by omega, by go_num, HN1.out 1⟩
              case measure => simp [intOf]; omega
      · obtain rfl : k = 32 := by omega
        obtain ⟨hB, hg, L, hL, hr, hnum⟩ := RR.out
        have hno := torn (at' := at') HZ.out hL HB.out H2.out (by omega) (by rw [HT.out]; exact hnum)
        have hsz : (⟨L.toArray⟩ : ByteArray).size = n := by show L.toArray.size = n; simpa using hL
        have h9 := fun w => Open_no ⟨L.toArray⟩ w (by unfold maxLen; omega) (by omega) hno
        have hcv := brow_string (P := Try.prog) hr 36 9 5 cap Try.underlying36 Try.underlying5 Try.underlying9
        rw [hL] at hcv
        have HBB : Hid (Below w.heap.size w wr) := hB
        obtain ⟨tt, htt⟩ : ∃ tt : ByteArray, ⟨L.toArray⟩ = tt := ⟨_, rfl⟩
        rw [htt] at hcv h9
        clear hno hsz htt hnum hr hL hB hg
        go_wp2_with fail
        refine (h9 _).mono ?_
        rintro e w3 ⟨rfl, hw3⟩
        have b3 : Hid (Below w.heap.size w w3) := HBB.out.trans (hw3.mono HBB.out.size)
        clear hw3 h9 hcv
        go_wp2_with fail
        go_ret
        exact ⟨rfl, b3.out⟩

set_option maxRecDepth 100000 in
theorem lifted (os : Os) (started : os.Started) (H : Type) (enc : TypeId × Value → H) :
    ReturnsInHanded {} Try.checked os 6 .any (Rows.crcBurstSpec.pre6 enc Try.prog Try.f6 Rows.crcBurstRow.domain false) (Rows.crcBurstSpec.post enc Try.prog Try.f6 false true false false) := by
  refine returnsInHanded_of_change_sized (C := Try.checked) own started (by kernel_rfl) Try.func6
    (ChangeSpec.witness6 (enc := enc) (C := Try.checked) false ⟨#[], #[.string ⟨#[]⟩, .int .i64 0, .int .u32 0], []⟩ 8 (by kernel_rfl) (by kernel_rfl) (by kernel_rfl) (by kernel_rfl)) ?_
  intro W base args ds gs before hval0 hW hcnd hsz _
  have hval : ∀ (j : Nat) t v, Try.f6.params[j]? = some t → args[j]? = some v → Value.okWide Try.prog W .any base t v := hval0
  have hW' := hW
  obtain ⟨p, q, hA0, hV, rfl, hfz, hnd⟩ := hW
  have hA : DataW.TrodAll enc Try.prog W 0 (fun _ => true) true Try.f6.params.toList args.toList ds p := hA0
  rw [Try.params6] at hA hval
  obtain ⟨v0, vs0, d0, ds0, p0, q0, hargs, rfl, rfl, h0, r0⟩ := trodAll_cons hA
  obtain ⟨v1, vs1, d1, ds1, p1, q1, rfl, rfl, rfl, h1, r1⟩ := trodAll_cons r0
  obtain ⟨v2, vs2, d2, ds2, p2, q2, rfl, rfl, rfl, h2, r2⟩ := trodAll_cons r1
  obtain ⟨rfl, rfl, rfl⟩ := trodAll_nil r2
  obtain rfl : args = #[v0, v1, v2] := by cases args; simp_all
  obtain ⟨rfl, rfl⟩ := trodVars_none hV
  obtain ⟨s0, rfl, rfl, rfl, hm0⟩ := Go.ChangeMaps.open_string Try.underlying9 (hval 0 9 v0 rfl rfl) h0
  obtain ⟨a1, rfl, rfl, rfl, w1⟩ := open_int Try.underlying3 (hval 1 3 v1 rfl rfl) h1
  obtain ⟨a2, rfl, rfl, rfl, w2⟩ := open_int Try.underlying22 (hval 2 22 v2 rfl rfl) h2
  have hs0 : s0.size ≤ 140737488351232 := by have := sized_string hsz (j := 0) rfl rfl; unfold reachBytes at this; simpa using this
  clear hA0 hval0
  refine (walk s0 a1 a2 hs0 w1 w2 W).mono fun e W' ⟨he, hg⟩ => ?_
  subst he
  exact ⟨_, rfl, law_post (by kernel_rfl) (by kernel_rfl) rfl (by kernel_rfl) Try.underlying4 hW' rfl hg⟩

theorem over : Rows.crcBurstRow.holds Try.pinned (OpenSpec.ofChange Rows.crcBurstSpec) :=
  OpenClaim.holds_of_wide 6 Try.f6 rfl rfl rfl rfl rfl rfl rfl ⟨rfl, rfl, rfl, rfl, rfl⟩ rfl rfl rfl rfl rfl (by kernel_rfl) Try.func6 (by kernel_rfl)
    (of_decide_eq_true (by kernel_rfl)) (by unfold Func.isWrapper; first | (rw [if_pos (by decide +kernel)]; kernel_rfl) | (rw [if_neg (by decide +kernel)]; exact ⟨rfl, rfl⟩))
    (fun os started H enc _ => lifted os started H enc)

theorem proved : Rows.CrcBurstSaid :=
  over
end Go.Proofs.Ytnllcecalobebaa.crcBurst

namespace Go.Proofs.Ytnllcecalobebaa
/-- For every text, every place and every thirty-two bits: a sealed text in which these bits are turned from there on, at least one and none behind its end, is not opened. -/
theorem crcBurst_holds : Rows.CrcBurstSaid := crcBurst.proved
#print axioms crcBurst_holds
end Go.Proofs.Ytnllcecalobebaa
