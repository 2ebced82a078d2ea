/- For every number and every count of bits the law LuckRound returns true. -/
import Derived.Test.YtefgmgapiknemaaRows
import Derived.Test.YtefgmgapiknemaaPost
import Derived.Test.YtefgmgapiknemaaMath
import Derived.Test.YtefgmgapiknemaaCon
import Derived.Deep.QuietTactic
import Derived.BigQuiet
import Derived.WalkKit
import Derived.ProofKit
import Derived.OpenShut
namespace Go.Proofs.Ytefgmgapiknemaa.luckRound
open Go.ChangeShapes Go.WideShapes Go.ChangeAt Go.RowKit
set_option linter.unusedVariables false      -- a walk need not use every 'w<i>' (that an integer argument fits its kind)

theorem own : ownKnob Try.prog.godebug = none := by kernel_rfl

theorem u32_nat {a : Int} (h : (Lit.int .u32 a).wf = true) : ∃ s : Nat, a = s ∧ s < 4294967296 := by
  have := bounds_u32 h
  exact ⟨a.toNat, by omega, by omega⟩
theorem info4 : (Try.prog.info? 4).map (fun i => (i.zero, i.size, i.bytes)) = some (some (.bool false), 1, 1) := by kernel_rfl

def seenB (s N i j : Nat) : Bool := (List.range i).any fun k => sk s k % N == j
theorem seenB_new {s b i : Nat} (hs : s < 4294967296) (hb : b ≤ 32) (hi : i < 2 ^ b) : seenB s (2 ^ b) i (sk s i % 2 ^ b) = false := by
  unfold seenB
  rw [List.any_eq_false]
  intro k hk
  rw [List.mem_range] at hk
  have e : i = k + (i - k) := by omega
  have := sk_ne (s := sk s k) (b := b) (d := i - k) (sk_lt hs k) hb (by omega) (by omega)
  rw [← sk_add, ← e] at this
  simp only [beq_iff_eq]
  exact fun h => this h.symm
theorem seenB_step (s N i j : Nat) : seenB s N (i + 1) j = (seenB s N i j || (sk s i % N == j)) := by
  unfold seenB
  rw [List.range_succ, List.any_append]; simp

/-- What a round stands on: the number, and the marks of all that came. -/
def rnd (w : World) (s N i X : Nat) (wr : World) : Prop :=
  X = sk s i ∧ Below w.heap.size w wr ∧ ∃ L, wr.ownsRow w.heap.size 4 1 (.slice (some ⟨w.heap.size, 0, none⟩) N N) N L ∧ ∀ j, j < N → L[j]? = some (.bool (seenB s N i j))

theorem rnd_start {w w1 : World} {s N : Nat} (hb : Below w.heap.size w w1) (h : w1.ownsRow w.heap.size 4 1 (.slice (some ⟨w.heap.size, 0, none⟩) N N) N (madeCells #[.bool false] N).toList) : rnd w s N 0 s w1 := by
  refine ⟨rfl, hb, _, h, fun j hj => ?_⟩
  rw [toList_madeCells_one, List.getElem?_replicate, if_pos hj]; rfl

theorem rnd_cell {w wr : World} {s b i X : Nat} (hs : s < 4294967296) (hb : b ≤ 32) (hi : i < 2 ^ b) (h : rnd w s (2 ^ b) i X wr) :
    wr.cell? ⟨w.heap.size, X % 2 ^ b, none⟩ = some (.bool false) ∧ wr.frozen? ⟨w.heap.size, X % 2 ^ b, none⟩ = false := by
  obtain ⟨rfl, _, L, ho, hL⟩ := h
  have hlt : sk s i % 2 ^ b < 2 ^ b := Nat.mod_lt _ (Nat.two_pow_pos b)
  refine ⟨?_, ho.frozenAt _⟩
  rw [ho.cellAt _ (by omega), hL _ hlt, seenB_new hs hb hi]

theorem rnd_next {w wr : World} {s N i X : Nat} (h : rnd w s N i X wr) : rnd w s N (i + 1) (nx X) (wr.setCell ⟨w.heap.size, X % N, none⟩ (.bool true)) := by
  obtain ⟨rfl, hb, L, ho, hL⟩ := h
  refine ⟨rfl, hb.setCell (Nat.le_refl _) _, _, (ho.stored _ _).1, fun j hj => ?_⟩
  have hl : L.length = N := by have := ho.1; omega
  rw [List.getElem?_set, seenB_step]
  by_cases c : sk s i % N = j
  · rw [if_pos c, if_pos (by omega), c]; simp
  · rw [if_neg c, hL j hj]
    have : (sk s i % N == j) = false := by simpa using c
    rw [this, Bool.or_false]

theorem mask {b N : Nat} (hN : 2 ^ b = N) (h1 : N ≤ 4096) (X : Nat) (hx : X < 4294967296) : bits .and .u32 (X : Int) ((N : Int) - 1) = ((X % N : Nat) : Int) := by
  have p : 0 < N := by rw [← hN]; exact Nat.two_pow_pos b
  have e : ((N : Int) - 1) = ((N - 1 : Nat) : Int) := by omega
  rw [e, u32_and_nat X (N - 1) hx (by omega), ← hN, Nat.and_two_pow_sub_one_eq_mod]
/-! ### STEP 1: THE WALK: the Go text returns true. 'Grown w w'': the world has at most new blocks (Derived/RowKit3.lean). Part the cases AHEAD of 'go_enter' where a test parts the walk; take each callee by a contract of your own. -/
set_option maxHeartbeats 2000000 in
theorem walk (a0 : Int) (a1 : Int) (w0 : (Lit.int .u32 a0).wf = true) (w1 : (Lit.int .i64 a1).wf = true) (w : World) :
    Calls Try.prog 5 #[.int .u32 a0, .int .i64 a1] w fun e w' => e = .returned (.bool true) ∧ Below w.heap.size w w' := by
  obtain ⟨s, rfl, hs⟩ := u32_nat w0
  clear w0 w1
  by_cases hn : 1 ≤ a1 ∧ a1 ≤ 12
  · obtain ⟨b, rfl⟩ : ∃ b : Nat, a1 = b := ⟨a1.toNat, by omega⟩
    obtain ⟨n0, n1⟩ := hn
    obtain ⟨i0, hi, hz0, hz1, hz2⟩ := info_parts info4
    obtain ⟨N, hN⟩ : ∃ N : Nat, 2 ^ b = N := ⟨_, rfl⟩
    have HS : Hid (s < 4294967296) := hs
    have hN1 : N ≤ 4096 := by
      have : 2 ^ b ≤ 2 ^ 12 := Nat.pow_le_pow_right (by decide) (by omega)
      omega
    have hpow : (2 : Int) ^ b = (N : Int) := by rw [← hN]; exact (Int.natCast_pow 2 b).symm
    have hN0 : 1 ≤ N := by rw [← hN]; exact Nat.two_pow_pos b
    have HN : Hid (2 ^ b = N) := hN
    have HB : Hid (i0.bytes = 1) := hz2
    clear hs hN hz2
    go_enter Try.func5, Try.ntmps5
    go_wp2_with fail
    refine (luckLives_any _).mono ?_
    rintro e w' ⟨rfl, rfl⟩
    go_wp2_with (at_make; refine wpList_make_full _ rfl (.tmp 20) (.tmp 20) 42 rfl w'.heap.size 4 i0 (.bool false) 1 Try.underlying42 hi hz0 hz1 .i64 .i64 (N : Int) (N : Int) N rfl rfl rfl rfl ?_ ?_ (Nat.le_refl _) ?_)
    · rw [HB.out]; omega
    · unfold maxLen; omega
    · intro w1 hown hgrow
      have hbel : Below w'.heap.size w' w1 := (Below.refl _ _).grown hgrow (Nat.le_refl _) (fun k h => by cases h)
      have RS : Hid (rnd w' s N 0 s w1) := rnd_start hbel hown
      clear hbel hown hgrow hi hz0 hz1
      go_wp2_with fail
      go_loopw [6, 25] (fun x i wr => ∃ I X : Nat, I ≤ N ∧ i = .int .i64 I ∧ x = .int .u32 X ∧ rnd w' s N I X wr) (fun _ i _ => N - (intOf i).toNat)
      case atStart => exact ⟨0, s, by omega, rfl, rfl, RS.out⟩
      case round =>
        obtain ⟨I, X, hI, rfl, rfl, R⟩ := hrel
        have RR : Hid (rnd w' s N I X wr) := R
        have hX : X < 4294967296 := by rw [R.1]; exact sk_lt HS.out I
        have hand := mask HN.out hN1 X hX
        obtain ⟨K, hK⟩ : ∃ K, X % N = K := ⟨_, rfl⟩
        have HK : Hid (X % N = K) := hK
        by_cases hlt : I < N
        · have hcell := rnd_cell (b := b) HS.out (by omega) (by rw [HN.out]; exact hlt) (by rw [HN.out]; exact R)
          rw [HN.out, hK] at hcell
          obtain ⟨hc, hf⟩ := hcell
          have hKN : K < N := by rw [← hK]; exact Nat.mod_lt _ (by omega)
          rw [hK] at hand
          clear R RS hX hK
          go_wp2_with fail
          refine (Next_any X _).mono ?_
          rintro e w1 ⟨rfl, rfl⟩
          go_wp2_with fail
          go_roundw
          case rel =>
            have := rnd_next RR.out
            rw [HK.out] at this
            exact ⟨I + 1, nx X, by omega, by go_num, rfl, this⟩
          case measure => simp [intOf]; omega
        · obtain rfl : I = N := by omega
          have hZ : X % I = s % I := by rw [R.1, ← HN.out]; exact sk_round HS.out (by omega)
          have hand2 := mask HN.out hN1 s HS.out
          rw [hZ] at hand
          have hb := R.2.1
          have HBL : Hid (Below w'.heap.size w' wr) := hb
          clear R RS hX hK hb hZ HK RR
          go_wp2_with fail
          go_quiet (fail)
          go_wp2_with fail
          go_ret
          exact ⟨rfl, below_drewN HBL.out _⟩
  · have hn' : a1 < 1 ∨ 12 < a1 := by omega
    clear hn hs
    rcases hn' with hn | hn
    · go_enter Try.func5, Try.ntmps5
      go_wp2_with fail
      refine (luckLives_any _).mono ?_
      rintro e w' ⟨rfl, rfl⟩
      go_wp2_with fail
      refine (luckLives_any _).mono ?_
      rintro e w' ⟨rfl, rfl⟩
      go_wp2_with fail
      go_ret
      exact ⟨rfl, Below.refl _ _⟩
    · go_enter Try.func5, Try.ntmps5
      go_wp2_with fail
      refine (luckLives_any _).mono ?_
      rintro e w' ⟨rfl, rfl⟩
      go_wp2_with fail
      refine (luckLives_any _).mono ?_
      rintro e w' ⟨rfl, rfl⟩
      go_wp2_with fail
      go_ret
      exact ⟨rfl, Below.refl _ _⟩

/-! ### THE ROW's STEP: WRITTEN OUT: LEAVE IT -/
set_option maxRecDepth 100000 in
theorem lifted (os : Os) (started : os.Started) (H : Type) (enc : TypeId × Value → H) :
    ReturnsInHanded {} Try.checked os 5 .any (Rows.luckRoundSpec.pre6 enc Try.prog Try.f5 Rows.luckRoundRow.domain false) (Rows.luckRoundSpec.post enc Try.prog Try.f5 false true false false) := by
  refine returnsInHanded_of_change (C := Try.checked) own started (by kernel_rfl) Try.func5
    (ChangeSpec.witness6 (enc := enc) (C := Try.checked) false ⟨#[], #[.int .u32 0, .int .i64 0], []⟩ 8 (by kernel_rfl) (by kernel_rfl) (by kernel_rfl) (by kernel_rfl)) ?_
  intro W base args ds gs before hval0 hW hcnd _
  have hval : ∀ (j : Nat) t v, Try.f5.params[j]? = some t → args[j]? = some v → Value.okWide Try.prog W .any base t v := hval0
  have hW' := hW
  obtain ⟨p, q, hA0, hV, rfl, hfz, hnd⟩ := hW
  have hA : DataW.TrodAll enc Try.prog W 0 (fun _ => true) true Try.f5.params.toList args.toList ds p := hA0
  rw [Try.params5] at hA hval
  obtain ⟨v0, vs0, d0, ds0, p0, q0, hargs, rfl, rfl, h0, r0⟩ := trodAll_cons hA
  obtain ⟨v1, vs1, d1, ds1, p1, q1, rfl, rfl, rfl, h1, r1⟩ := trodAll_cons r0
  obtain ⟨rfl, rfl, rfl⟩ := trodAll_nil r1
  obtain rfl : args = #[v0, v1] := by cases args; simp_all
  obtain ⟨rfl, rfl⟩ := trodVars_none hV
  obtain ⟨a0, rfl, rfl, rfl, w0⟩ := open_int Try.underlying22 (hval 0 22 v0 rfl rfl) h0
  obtain ⟨a1, rfl, rfl, rfl, w1⟩ := open_int Try.underlying3 (hval 1 3 v1 rfl rfl) h1
  clear hA0 hval0
  simp only [List.append_nil] at hW'
  refine (walk a0 a1 w0 w1 W).mono fun e W' ⟨he, hg⟩ => ?_
  subst he
  exact ⟨_, rfl, post_of_kept (pa := []) (pv := []) hW' (fun _ _ _ => (trodAll_cons_mk (shut_bool Try.underlying4 _) trodAll_mk0)) (fun sp _ => (trodAll_cons_mk (shut_int Try.underlying22 w0) (trodAll_cons_mk (shut_int Try.underlying3 w1) trodAll_mk0))) (fun _ _ => rfl) rfl (hg.frame _)⟩

theorem over : Rows.luckRoundRow.holds Try.pinned (OpenSpec.ofChange Rows.luckRoundSpec) :=
  OpenClaim.holds_of_wide 5 Try.f5 rfl rfl rfl rfl rfl rfl rfl ⟨rfl, rfl, rfl, rfl, rfl⟩ rfl rfl rfl rfl rfl (by kernel_rfl) Try.func5 (by kernel_rfl)
    (of_decide_eq_true (by kernel_rfl)) (by unfold Func.isWrapper; first | (rw [if_pos (by decide +kernel)]; kernel_rfl) | (rw [if_neg (by decide +kernel)]; exact ⟨rfl, rfl⟩))
    (fun os started H enc _ => lifted os started H enc)

/-- ████ THE STATEMENT ████ -/
theorem proved : Rows.LuckRoundSaid :=
  over
end Go.Proofs.Ytefgmgapiknemaa.luckRound

namespace Go.Proofs.Ytefgmgapiknemaa
/-- For every number and every count of bits the law LuckRound returns true. -/
theorem luckRound_holds : Rows.LuckRoundSaid := luckRound.proved
#print axioms luckRound_holds
end Go.Proofs.Ytefgmgapiknemaa
