/- For every list of orders, every place and every thirty-two bits: of the text of orders in which these bits are turned from there on, at least one and none behind its end, nothing is read -/
import Derived.Test.YtgebfpncapfaoaaRows
import Derived.Test.YtgebfpncapfaoaaPost
import Derived.Test.YtgebfpncapfaoaaOr
import Derived.Test.YtgebfpncapfaoaaOl
import Derived.Deep.RegionHeld3
import Derived.Deep.DrawnRows
import Derived.Deep.QuietTactic
import Derived.BigQuiet
import Derived.WalkKit
import Derived.ProofKit
import Derived.OpenShut
import Derived.SizedLaws
import Derived.ChangeMaps5
import Derived.JoinedCond
namespace Go.Proofs.Ytgebfpncapfaoaa.orderTold
open Go.ChangeShapes Go.WideShapes Go.ChangeAt Go.RowKit
set_option linter.unusedVariables false

theorem own : ownKnob Try.prog.godebug = none := by kernel_rfl

theorem pow_mul_xor (i x y : Nat) : 2 ^ i * (x ^^^ y) = 2 ^ i * x ^^^ 2 ^ i * y := by
  apply Nat.eq_of_testBit_eq; intro j
  rw [Nat.testBit_xor, Nat.testBit_two_pow_mul, Nat.testBit_two_pow_mul, Nat.testBit_two_pow_mul, Nat.testBit_xor]
  by_cases h : i ≤ j <;> simp [h]
/-- What the rounds keep: so many of the bits are turned. -/
def vinv (B : Nat) (w : World) (g n at' bb : Nat) (l0 : List UInt8) (k : Nat) (wr : World) : Prop :=
  Below B w wr ∧ B ≤ g ∧ ∃ L : List UInt8, L.length = n ∧ cr.brow wr g L ∧ cr.num L = cr.num l0 ^^^ 2 ^ at' * (bb % 2 ^ k)
theorem vinv_start {B : Nat} {w wr : World} {g n at' bb : Nat} {l0 : List UInt8} (hb : Below B w wr) (hg : B ≤ g) (hl : l0.length = n) (hr : cr.brow wr g l0) : vinv B w g n at' bb l0 0 wr :=
  ⟨hb, hg, l0, hl, hr, by simp [Nat.mod_one]⟩
theorem vinv_none {B : Nat} {w wr : World} {g n at' bb k : Nat} {l0 : List UInt8} (h : vinv B w g n at' bb l0 k wr) (hb : bb / 2 ^ k % 2 = 0) : vinv B w g n at' bb l0 (k + 1) wr := by
  obtain ⟨h1, h2, L, h3, h4, h5⟩ := h
  exact ⟨h1, h2, L, h3, h4, by rw [cr.mod_step_none bb k (by rw [Nat.testBit_eq_decide_div_mod_eq]; simp [hb])]; exact h5⟩
theorem vinv_one {B : Nat} {w wr : World} {g n at' bb k : Nat} {l0 : List UInt8} (h : vinv B w g n at' bb l0 k wr) (hb : bb / 2 ^ k % 2 = 1) (hlt : at' + k < 8 * n) :
    ∃ x : UInt8, wr.cell? ⟨g, (at' + k) / 8, none⟩ = some (.int .u8 (x.toNat : Int)) ∧ wr.frozen? ⟨g, (at' + k) / 8, none⟩ = false ∧
      ∀ m, vinv B w g n at' bb l0 (k + 1) ((wr.setCell ⟨g, (at' + k) / 8, none⟩ (.int .u8 ((x ^^^ UInt8.ofNat (2 ^ ((at' + k) % 8))).toNat : Int))).drewN m) := by
  obtain ⟨h1, h2, L, h3, h4, h5⟩ := h
  have hq : (at' + k) / 8 < L.length := by omega
  refine ⟨L[(at' + k) / 8], cr.brow_cell h4 _ hq, cr.brow_free h4 _ hq, fun m => ⟨below_drewN (h1.setCell h2 _) m, h2, _, ?_, cr.brow_set h4 _ hq _, ?_⟩⟩
  · simpa using h3
  · rw [cr.num_flip L _ _ hq (Nat.mod_lt _ (by omega)), h5, show 8 * ((at' + k) / 8) + (at' + k) % 8 = at' + k by omega, cr.mod_step_one bb k (by rw [Nat.testBit_eq_decide_div_mod_eq]; simpa using hb), pow_mul_xor, ← Nat.pow_add]
    exact Nat.xor_assoc _ _ _
theorem bit_one (bb k : Nat) (h : bb < 4294967296) : bits .and .u32 ((bb : Int) / 2 ^ k) 1 = ((bb / 2 ^ k % 2 : Nat) : Int) := by
  have := cr.and_one32 (bb / 2 ^ k) (Nat.lt_of_le_of_lt (Nat.div_le_self _ _) h)
  simpa using this
theorem xor_bit (x : UInt8) (r : Nat) (hr : r < 8) : bits .xor .u8 (x.toNat : Int) ((2 ^ r : Nat) : Int) = ((x ^^^ UInt8.ofNat (2 ^ r)).toNat : Int) := by
  have h : 2 ^ r < 256 := Nat.lt_of_lt_of_le (Nat.pow_lt_pow_right (by omega) hr) (by decide)
  rw [u8_xor_nat _ _ (by have := x.toNat_lt; simpa using this) h, UInt8.toNat_xor, UInt8.toNat_ofNat', Nat.mod_eq_of_lt h]
theorem pow_bit (r : Nat) (h : r < 8) : (2 : Int) ^ r % 256 = ((2 ^ r : Nat) : Int) := by
  have h2 : 2 ^ r < 256 := Nat.lt_of_lt_of_le (Nat.pow_lt_pow_right (by omega) h) (by decide)
  have h3 : ((2 ^ r : Nat) : Int) < 256 := by omega
  rw [Int.natCast_pow] at h3 ⊢
  exact Int.emod_eq_of_lt (Int.pow_nonneg (by decide)) h3
theorem torn {s : ByteArray} {n at' bb : Nat} {L : List UInt8} (hn : n = s.size + 4) (hL : L.length = n) (hb : bb < 4294967296) (h0 : bb ≠ 0) (hat : at' < 8 * n)
    (hx : cr.num L = cr.num (cr.sl s).data.toList ^^^ 2 ^ at' * (bb % 2 ^ 32)) : ¬ cr.tl (cr.body ⟨L.toArray⟩) = cr.foot ⟨L.toArray⟩ := by
  intro he
  have hz : (⟨L.toArray⟩ : ByteArray).size = n := by show L.toArray.size = n; simpa using hL
  have e1 := (cr.sl_eq (s := ⟨L.toArray⟩) (by omega)).2 he
  have e2 : (cr.body ⟨L.toArray⟩).data.toList ++ cr.le4 (cr.mr 0 (cr.body ⟨L.toArray⟩).data.toList) = L := by
    have := congrArg (fun x : ByteArray => x.data.toList) e1
    unfold cr.sl at this
    simpa [cr.tl] using this
  have e3 : s.data.toList ++ cr.le4 (cr.mr 0 s.data.toList) = (cr.sl s).data.toList := by unfold cr.sl cr.tl; simp
  have e4 : (cr.sl s).data.toList.length = n := by
    rw [← e3, List.length_append, cr.length_le4, Array.length_toList, hn]; rfl
  have e5 : (cr.body ⟨L.toArray⟩).data.toList.length + 4 = n := by
    rw [← hL]
    have := congrArg List.length e2
    rw [List.length_append, cr.length_le4] at this; exact this
  rw [Nat.mod_eq_of_lt (by simpa using hb)] at hx
  exact cr.burst (cr.sl s).data.toList at' bb s.data.toList e3 (cr.body ⟨L.toArray⟩).data.toList (by rw [e2]; exact hx) (by rw [e4]; exact e5) hb h0 (by rw [e4]; exact hat)
theorem wrp' (n : Int) (h1 : -9223372036854775808 ≤ n) (h2 : n ≤ 9223372036854775807) : IntKind.i64.wrap n = n := by
  rw [IntKind.wrap_i64]; omega
attribute [local go_sem ↓] Go.wp_at_zero Go.wp_at_succ

set_option maxRecDepth 20000 in
set_option maxHeartbeats 4000000 in
theorem walk (s0 : Ost) (a1 : Int) (a2 : Int) (w1 : (Lit.int .i64 a1).wf = true) (w2 : (Lit.int .u32 a2).wf = true) (w : World) (h0 : s0.fit w) (hs0 : s0.l.length * 48 ≤ 140737488351232) :
    Calls Try.prog 6 #[s0.val, .int .i64 a1, .int .u32 a2] w fun e w' => e = .returned (.bool true) ∧ Below w.heap.size w w' := by
  have ha : -9223372036854775808 ≤ a1 ∧ a1 ≤ 9223372036854775807 := by simpa [Lit.wf, IntKind.min, IntKind.max, IntKind.signed, IntKind.bits] using w1
  have hn : 0 ≤ a2 ∧ a2 ≤ 4294967295 := by simpa [Lit.wf, IntKind.min, IntKind.max, IntKind.signed, IntKind.bits] using w2
  obtain ⟨bb, rfl⟩ := Int.eq_ofNat_of_zero_le hn.1
  have HB : Hid (bb < 4294967296) := by show bb < _; omega
  obtain ⟨p, c, l⟩ := s0
  obtain ⟨hr, hf, hm, hp, hk⟩ := h0
  unfold Ost.val
  dsimp only at *
  obtain ⟨nl, hnl⟩ : ∃ nl, l.length = nl := ⟨_, rfl⟩
  rw [hnl] at hm hs0 ⊢
  have HW : Hid (Calls Try.prog 9 #[.slice p nl c] w fun e w' => e = .returned (.tuple #[.string (wt l), .int .i64 (oes l)]) ∧ Below w.heap.size w w') := Write_any p nl c l w hr hnl hm hf
  have HL : Hid (∀ V, Calls Try.prog 25 #[] V fun e w' => e = .returned (.bool true) ∧ Below V.heap.size V w') := fun V => lives_any V
  clear hn w1 w2
  by_cases hz : oes l = 0
  · have HTT : Hid (cr.sl (pk.qa (nums l)) = wt l ∧ (cr.sl (pk.qa (nums l))).size = (pk.qa (nums l)).size + 4 ∧ (pk.qa (nums l)).size ≤ 10000) := ⟨by unfold wt; rw [if_pos hz], (sl_parts _).1, qa_size hf (oes_zero hz).1⟩
    rw [hz] at HW
    obtain ⟨s0, hs0'⟩ : ∃ s0, pk.qa (nums l) = s0 := ⟨_, rfl⟩
    rw [hs0'] at HTT
    obtain ⟨t, ht⟩ : ∃ t, wt l = t := ⟨_, rfl⟩
    rw [ht] at HTT HW
    have HT : Hid (cr.sl s0 = t) := HTT.out.1
    have hz1 : (cr.sl s0).size = s0.size + 4 := HTT.out.2.1
    have hz2 : s0.size ≤ 10000 := HTT.out.2.2
    rw [HT.out] at hz1
    clear hr hf hm hp hk hs0 hnl hz hs0' ht HTT
    obtain ⟨n, hn⟩ : ∃ n, t.size = n := ⟨_, rfl⟩
    have HN : Hid (t.size = n) := hn
    rw [hn] at hz1
    have HZ : Hid (n = s0.size + 4) := hz1
    have hn1 : 4 ≤ n := by omega
    have hn2 : n ≤ 10004 := by omega
    clear hn hz1 hz2
    go_enter Try.func6, Try.ntmps6
    go_wp2_with fail
    refine HW.out.mono ?_
    rintro e w1 ⟨rfl, hw1⟩
    have hcv := run_bytes_of_string (P := Try.prog) w1 9 65 5 t Try.underlying9 Try.underlying65 Try.underlying5
    rw [HN.out] at hcv
    generalize grownCap w1 n 0 5 = cap at *
    obtain ⟨W1, hW1⟩ : ∃ W1 : World, w1.drew.alloc (.cells (bytesRow t cap) 5 ((bytesRow t cap).size, (bytesRow t cap).size + 1)) = W1 := ⟨_, rfl⟩
    have HBR : Hid (cr.brow W1 w1.heap.size t.data.toList ∧ w1.heap.size < W1.heap.size) := by
      rw [← hW1]; exact ⟨cr.brow_bytes w1.drew t cap 5, by rw [alloc_size]; exact Nat.lt_succ_self _⟩
    have HBL : Hid (Below w.heap.size w W1) := by rw [← hW1]; exact (hw1.drew).alloc hw1.size _
    have HG : Hid (w.heap.size ≤ w1.heap.size) := hw1.size
    rw [hW1] at hcv
    clear hW1 hw1 HW
    by_cases hbad : a1 < 0 ∨ 8 * (n : Int) ≤ a1 ∨ bb = 0
    · by_cases hx : a1 < 0
      · go_wp2_with fail
        refine (HL.out _).mono ?_
        rintro e w2 ⟨rfl, hb2⟩
        have HB2 : Hid (Below w.heap.size w w2) := below_step HBL.out HBL.out.size hb2
        clear hb2
        go_wp2_with fail
        refine (HL.out _).mono ?_
        rintro e w3 ⟨rfl, hb3⟩
        have HB3 : Hid (Below w.heap.size w w3) := below_step HB2.out HB2.out.size hb3
        clear hb3
        go_wp2_with fail
        go_ret
        exact ⟨rfl, HB3.out⟩
      · by_cases hy : 8 * (n : Int) ≤ a1
        · go_wp2_with fail
          refine (HL.out _).mono ?_
          rintro e w2 ⟨rfl, hb2⟩
          have HB2 : Hid (Below w.heap.size w w2) := below_step HBL.out HBL.out.size hb2
          clear hb2
          go_wp2_with fail
          refine (HL.out _).mono ?_
          rintro e w3 ⟨rfl, hb3⟩
          have HB3 : Hid (Below w.heap.size w w3) := below_step HB2.out HB2.out.size hb3
          clear hb3
          go_wp2_with fail
          go_ret
          exact ⟨rfl, HB3.out⟩
        · obtain rfl : bb = 0 := by omega
          go_wp2_with fail
          refine (HL.out _).mono ?_
          rintro e w2 ⟨rfl, hb2⟩
          have HB2 : Hid (Below w.heap.size w w2) := below_step HBL.out HBL.out.size hb2
          clear hb2
          go_wp2_with fail
          refine (HL.out _).mono ?_
          rintro e w3 ⟨rfl, hb3⟩
          have HB3 : Hid (Below w.heap.size w w3) := below_step HB2.out HB2.out.size hb3
          clear hb3
          go_wp2_with fail
          go_ret
          exact ⟨rfl, HB3.out⟩
    · have h0 : 0 ≤ a1 := by omega
      have h1 : a1 < 8 * (n : Int) := by omega
      have h2 : bb ≠ 0 := by omega
      have hbz : ((bb : Int) == 0) = false := by simpa using h2
      have H2 : Hid (bb ≠ 0) := h2
      clear hbad ha h2
      obtain ⟨at', rfl⟩ := Int.eq_ofNat_of_zero_le h0
      go_wp2_with fail
      refine (HL.out _).mono ?_
      rintro e w2 ⟨rfl, hb2⟩
      have HB2 : Hid (Below w.heap.size w w2) := below_step HBL.out HBL.out.size hb2
      have HST : Hid (vinv w.heap.size w w1.heap.size n at' bb t.data.toList 0 w2) := vinv_start HB2.out HG.out (by have := HN.out; simpa using this) (cr.brow_below HBR.out.1 hb2 HBR.out.2)
      clear hb2 hcv
      go_wp2_with fail
      go_loopw [42] (fun i wr => ∃ k : Nat, k ≤ 32 ∧ i = .int .i64 k ∧ vinv w.heap.size w w1.heap.size n at' bb t.data.toList k wr) (fun i _ => 32 - (intOf i).toNat)
      case atStart => exact ⟨0, by omega, rfl, HST.out⟩
      case round =>
        obtain ⟨k, hk, rfl, R⟩ := hrel
        have RR : Hid (vinv w.heap.size w w1.heap.size n at' bb t.data.toList k wr) := R
        clear HST R
        by_cases hlt : k < 32
        · have hand := bit_one bb k HB.out
          rcases Nat.mod_two_eq_zero_or_one (bb / 2 ^ k) with hb | hb
          · rw [hb] at hand
            have HN1 : Hid (vinv w.heap.size w w1.heap.size n at' bb t.data.toList (k + 1) wr) := vinv_none RR.out hb
            clear hb
            go_wp2_with fail
            go_roundw
            case rel => exact ⟨k + 1, by omega, by go_num, HN1.out⟩
            case measure => simp [intOf]; omega
          · rw [hb] at hand
            by_cases hend : 8 * (n : Int) ≤ (at' : Int) + k
            · clear hb
              go_wp2_with fail
              go_ret
              exact ⟨rfl, RR.out.1⟩
            · obtain ⟨x, hc, hf, hnx⟩ := vinv_one RR.out hb (by omega)
              have hxb := xor_bit x ((at' + k) % 8) (Nat.mod_lt _ (by omega))
              rw [← pow_bit _ (Nat.mod_lt _ (by omega))] at hxb
              obtain ⟨Y, hY⟩ : ∃ Y, (x ^^^ UInt8.ofNat (2 ^ ((at' + k) % 8))).toNat = Y := ⟨_, rfl⟩
              simp only [hY] at hnx
              rw [hY] at hxb
              have HN1 : Hid (∀ m, vinv w.heap.size w w1.heap.size n at' bb t.data.toList (k + 1) ((wr.setCell ⟨w1.heap.size, (at' + k) / 8, none⟩ (.int .u8 (Y : Int))).drewN m)) := hnx
              clear hnx hY
              have d1 : ((at' : Int) + (k : Int)).tdiv 8 = (((at' + k) / 8 : Nat) : Int) := by rw [Int.tdiv_eq_ediv_of_nonneg (by omega)]; omega
              have d2 : ((at' : Int) + (k : Int)) / 8 = (((at' + k) / 8 : Nat) : Int) := by omega
              have d3 : ((at' : Int) + (k : Int)).tmod 8 = (((at' + k) % 8 : Nat) : Int) := by rw [Int.tmod_eq_emod_of_nonneg (by omega)]; omega
              have d4 : ((at' : Int) + (k : Int)) % 8 = (((at' + k) % 8 : Nat) : Int) := by omega
              have d5 : IntKind.i64.wrap (((at' + k) / 8 : Nat) : Int) = (((at' + k) / 8 : Nat) : Int) := wrp' _ (by omega) (by omega)
              have d6 : IntKind.i64.wrap (((at' + k) % 8 : Nat) : Int) = (((at' + k) % 8 : Nat) : Int) := wrp' _ (by omega) (by omega)
              have d7 : (((at' + k) / 8 : Nat) : Int) < (n : Int) := by omega
              have d8 : (0 : Int) ≤ (((at' + k) / 8 : Nat) : Int) := by omega
              have d9 : (0 : Int) ≤ (((at' + k) % 8 : Nat) : Int) := by omega
              obtain ⟨q, hq⟩ : ∃ q, (at' + k) / 8 = q := ⟨_, rfl⟩
              obtain ⟨r, hr⟩ : ∃ r, (at' + k) % 8 = r := ⟨_, rfl⟩
              rw [hq] at d1 d2 d5 d7 d8 hc hf HN1
              have d10 : (((at' + k) % 8 : Nat) : Int) ≤ 8 := by omega
              rw [hr] at d3 d4 d6 d9 d10 hxb
              clear hq hr
              have t1 : IntKind.i64.wrap ((at' : Int) + (k : Int)) = (at' : Int) + (k : Int) := wrp' _ (by omega) (by omega)
              clear hb
              go_wp2_with fail
              go_region
              all_goals
                go_wp2_with fail
                go_roundw
                case rel => exact ⟨k + 1, by omega, by go_num, HN1.out 1⟩
                case measure => simp [intOf]; omega
        · obtain rfl : k = 32 := by omega
          obtain ⟨hB, hg, L, hL, hr, hnum⟩ := RR.out
          have hno := torn (at' := at') HZ.out hL HB.out H2.out (by omega) (by rw [HT.out]; exact hnum)
          have hsz : (⟨L.toArray⟩ : ByteArray).size = n := by show L.toArray.size = n; simpa using hL
          have hrd : rd ⟨L.toArray⟩ = ([], 5) := by unfold rd; rw [if_neg (by omega), if_neg hno]
          have h9 : Hid (∀ V, Calls Try.prog 11 #[.string ⟨L.toArray⟩] V fun e w' => (∃ v, e = .returned (.tuple #[v, .int .i64 5]) ∧ minef 25 6 to6 V.heap.size w' v []) ∧ Below V.heap.size V w') := fun V => by
            have := Read_any ⟨L.toArray⟩ V (by omega)
            rwa [hrd] at this
          have hcv := cr.brow_string (P := Try.prog) hr 65 9 5 cap Try.underlying65 Try.underlying5 Try.underlying9
          rw [hL] at hcv
          have HBB : Hid (Below w.heap.size w wr) := hB
          obtain ⟨tt, htt⟩ : ∃ tt : ByteArray, ⟨L.toArray⟩ = tt := ⟨_, rfl⟩
          rw [htt] at hcv h9
          clear hno hsz htt hnum hr hL hB hg hrd
          go_wp2_with fail
          refine (h9.out _).mono ?_
          rintro e w3 ⟨⟨v, rfl, hv⟩, hw3⟩
          obtain ⟨q, d, rfl, _, _, _⟩ := minef_full flt6 hv
          have b3 : Hid (Below w.heap.size w w3) := HBB.out.trans (hw3.mono HBB.out.size)
          clear hw3 h9 hcv hv
          have hl0 : ([] : List Ord).length = 0 := rfl
          rw [hl0]
          go_wp2_with fail
          go_ret
          exact ⟨rfl, b3.out⟩
  · obtain ⟨T, hT⟩ : ∃ T, wt l = T := ⟨_, rfl⟩
    obtain ⟨F, hF⟩ : ∃ F, oes l = F := ⟨_, rfl⟩
    rw [hF] at hz
    rw [hF, hT] at HW
    have HTS : Hid (T.size = 0) := by
      unfold Hid
      rw [← hT]; unfold wt; rw [if_neg (by rw [hF]; exact hz)]; rfl
    clear hr hf hm hp hk hs0 hnl hT hF ha
    go_enter Try.func6, Try.ntmps6
    go_wp2_with fail
    refine HW.out.mono ?_
    rintro e w1 ⟨rfl, hw1⟩
    have hcv := run_bytes_of_string (P := Try.prog) w1 9 65 5 T Try.underlying9 Try.underlying65 Try.underlying5
    generalize grownCap w1 T.size 0 5 = cap at *
    obtain ⟨W1, hW1⟩ : ∃ W1 : World, w1.drew.alloc (.cells (bytesRow T cap) 5 ((bytesRow T cap).size, (bytesRow T cap).size + 1)) = W1 := ⟨_, rfl⟩
    have HBL : Hid (Below w.heap.size w W1) := by rw [← hW1]; exact (hw1.drew).alloc hw1.size _
    rw [hW1] at hcv
    clear hW1 hw1 HW
    go_wp2_with fail
    refine (HL.out _).mono ?_
    rintro e w2 ⟨rfl, hb2⟩
    have HB2 : Hid (Below w.heap.size w w2) := below_step HBL.out HBL.out.size hb2
    clear hb2
    go_wp2_with fail
    refine (HL.out _).mono ?_
    rintro e w3 ⟨rfl, hb3⟩
    have HB3 : Hid (Below w.heap.size w w3) := below_step HB2.out HB2.out.size hb3
    clear hb3
    go_wp2_with fail
    go_ret
    exact ⟨rfl, HB3.out⟩

set_option maxRecDepth 100000 in
theorem lifted (os : Os) (started : os.Started) (H : Type) (enc : TypeId × Value → H) :
    ReturnsInHanded {} Try.checked os 6 .any (Rows.orderToldSpec.pre6 enc Try.prog Try.f6 Rows.orderToldRow.domain false) (Rows.orderToldSpec.post enc Try.prog Try.f6 false true false false) := by
  refine returnsInHanded_of_change_sized (C := Try.checked) own started (by kernel_rfl) Try.func6
    (ChangeSpec.witness6 (enc := enc) (C := Try.checked) false ⟨#[], #[.slice none 0 0, .int .i64 0, .int .u32 0], []⟩ 8 (by kernel_rfl) (by kernel_rfl) (by kernel_rfl) (by kernel_rfl)) ?_
  intro W base args ds gs before hval0 hW hcnd hsz _
  have hval : ∀ (j : Nat) t v, Try.f6.params[j]? = some t → args[j]? = some v → Value.okWide Try.prog W .any base t v := hval0
  have hW' := hW
  obtain ⟨p, q, hA0, hV, rfl, hfz, hnd⟩ := hW
  have hA : DataW.TrodAll enc Try.prog W 0 (fun _ => true) true Try.f6.params.toList args.toList ds p := hA0
  rw [Try.params6] at hA hval
  obtain ⟨v0, vs0, d0, ds0, p0, q0, hargs, rfl, rfl, h0, r0⟩ := trodAll_cons hA
  obtain ⟨v1, vs1, d1, ds1, p1, q1, rfl, rfl, rfl, h1, r1⟩ := trodAll_cons r0
  obtain ⟨v2, vs2, d2, ds2, p2, q2, rfl, rfl, rfl, h2, r2⟩ := trodAll_cons r1
  obtain ⟨rfl, rfl, rfl⟩ := trodAll_nil r2
  obtain rfl : args = #[v0, v1, v2] := by cases args; simp_all
  obtain ⟨rfl, rfl⟩ := trodVars_none hV
  obtain ⟨s0, rfl, k0, t0⟩ := open_ost (hval 0 26 v0 rfl rfl) h0
  obtain ⟨a1, rfl, rfl, rfl, w1⟩ := open_int Try.underlying3 (hval 1 3 v1 rfl rfl) h1
  obtain ⟨a2, rfl, rfl, rfl, w2⟩ := open_int Try.underlying64 (hval 2 64 v2 rfl rfl) h2
  have hs0 : s0.l.length * 48 ≤ 140737488351232 := told_sized hsz (j := 0) rfl rfl Try.underlying26 (by kernel_rfl) t0
  clear hA0 hval0
  refine (walk s0 a1 a2 w1 w2 W k0 hs0).mono fun e W' ⟨he, hg⟩ => ?_
  subst he
  exact ⟨_, rfl, law_post (by kernel_rfl) (by kernel_rfl) rfl (by kernel_rfl) Try.underlying4 hW' rfl hg⟩

theorem over : Rows.orderToldRow.holds Try.pinned (OpenSpec.ofChange Rows.orderToldSpec) :=
  OpenClaim.holds_of_wide 6 Try.f6 rfl rfl rfl rfl rfl rfl rfl ⟨rfl, rfl, rfl, rfl, rfl⟩ rfl rfl rfl rfl rfl (by kernel_rfl) Try.func6 (by kernel_rfl)
    (of_decide_eq_true (by kernel_rfl)) (by unfold Func.isWrapper; first | (rw [if_pos (by decide +kernel)]; kernel_rfl) | (rw [if_neg (by decide +kernel)]; exact ⟨rfl, rfl⟩))
    (fun os started H enc _ => lifted os started H enc)

theorem proved : Rows.OrderToldSaid :=
  over
end Go.Proofs.Ytgebfpncapfaoaa.orderTold

namespace Go.Proofs.Ytgebfpncapfaoaa
/-- For every list of orders, every place and every thirty-two bits: of the text of orders in which these bits are turned from there on, at least one and none behind its end, nothing is read -/
theorem orderTold_holds : Rows.OrderToldSaid := orderTold.proved
#print axioms orderTold_holds
end Go.Proofs.Ytgebfpncapfaoaa
