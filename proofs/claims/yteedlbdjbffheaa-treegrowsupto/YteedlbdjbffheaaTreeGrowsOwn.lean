/- For all lists l and more of texts and every whole number n the law TreeGrows of package tree returns true, and its arguments read as before; condition: the arguments are of bulk at most 1048576. -/
import Derived.Test.YteedlbdjbffheaaRows
import Derived.Test.YteedlbdjbffheaaPost
import Derived.Test.YteedlbdjbffheaaEqual
import Derived.Test.YteedlbdjbffheaaTexts
import Derived.WalkKit
import Derived.ProofKit
import Derived.OpenShut
import Derived.SizedLaws
import Derived.ChangeMaps5
import Derived.JoinedCond
namespace Go.Proofs.Yteedlbdjbffheaa.treeGrows
open Go.ChangeShapes Go.WideShapes Go.ChangeAt Go.RowKit
set_option linter.unusedVariables false

theorem own : ownKnob Try.prog.godebug = none := by kernel_rfl

theorem take_front (l m : List ByteArray) (n : Nat) (h : n ≤ l.length) : (l ++ m).take n = l.take n := List.take_append_of_le_length h
theorem tsm_append {a b : List ByteArray} (ha : tsm a) (hb : tsm b) : tsm (a ++ b) := fun s hs => (List.mem_append.1 hs).elim (ha s) (hb s)
theorem fb_rts (l : List ByteArray) (h : 0 < l.length) : fb pr (gr pr (lvs l)) = rts l := fb_gr pr _ (lvs l) rfl (by rw [lvs_length]; exact h)
theorem fb_ltf (f : Nat → Nat → Nat) (M : Nat) (h0 : 0 < M) (hf : ∀ a b, f a b < M) : ∀ l : List Nat, (∀ x ∈ l, x < M) → fb f l < M
  | [], _ => h0
  | [x], h => h x (List.mem_cons.2 (.inl rfl))
  | x :: y :: r, _ => hf _ _
theorem fb_lt {l : List Nat} (h : small l) : fb pr l < 18446744073709551616 := fb_ltf pr _ (by decide) pr_lt l h
theorem gr_small : ∀ (n : Nat) (l : List Nat), l.length = n → small l → small (gr pr l) := by
  intro n
  induction n using Nat.strongRecOn with
  | _ n ih =>
    intro l hl hs
    rcases Nat.eq_zero_or_pos l.length with h | h
    · rw [List.eq_nil_of_length_eq_zero h, gr_nil]; intro x hx; cases hx
    · have hp := pw_pos l.length
      rw [gr_step pr h]
      intro x hx
      rcases List.mem_cons.1 hx with rfl | hx
      · exact rt_lt (fun y hy => hs y (List.mem_of_mem_take hy))
      · exact ih (l.length - pw l.length) (by omega) _ (by rw [List.length_drop]) (fun y hy => hs y (List.mem_of_mem_drop hy)) x hx
theorem small_drop {l : List Nat} (h : small l) (j : Nat) : small (l.drop j) := fun x hx => h x (List.mem_of_mem_drop hx)
def dnm (v : Value) : Nat := (intOf v + 1).toNat

set_option maxRecDepth 20000 in
set_option maxHeartbeats 4000000 in
theorem walk (s0 : Sst) (s1 : Sst) (a2 : Int) (w2 : (Lit.int .i64 a2).wf = true) (w : World) (h0 : s0.fit w) (hs0 : s0.l.length ≤ 1048576) (h1 : s1.fit w) (hs1 : s1.l.length ≤ 1048576) :
    Calls Try.prog 7 #[s0.val, s1.val, .int .i64 a2] w fun e w' => e = .returned (.bool true) ∧ Below w.heap.size w w' := by
  obtain ⟨p, c, l⟩ := s0
  obtain ⟨ht, hsm, hl63, hp, hc⟩ := h0
  change txt w p l at ht
  change tsm l at hsm
  change l.length ≤ 9223372036854775807 at hl63
  change p = none → c = 0 at hp
  change l.length ≤ c at hc
  change l.length ≤ 1048576 at hs0
  obtain ⟨p1, c1, l1⟩ := s1
  obtain ⟨ht1, hsm1, hl631, hp1, hc1⟩ := h1
  change txt w p1 l1 at ht1
  change tsm l1 at hsm1
  change p1 = none → c1 = 0 at hp1
  change l1.length ≤ c1 at hc1
  change l1.length ≤ 1048576 at hs1
  clear hl631 hl63 w2
  show Calls Try.prog 7 #[.slice p l.length c, .slice p1 l1.length c1, .int .i64 a2] w fun e w' => e = .returned (.bool true) ∧ Below w.heap.size w w'
  obtain ⟨k, hk⟩ : ∃ k, l.length = k := ⟨_, rfl⟩
  rw [hk] at hs0 hc ⊢
  obtain ⟨m, hm⟩ : ∃ m, l1.length = m := ⟨_, rfl⟩
  rw [hm] at hs1 hc1 ⊢
  have HCl : Hid (∀ W : World, Below w.heap.size w W → Calls Try.prog 25 #[.slice p k c] W fun e w' => ∃ v, e = .returned v ∧ smine W.heap.size w' v l ∧ Below W.heap.size W w') := fun W hb => CloneS_any p k c l W (txt_below ht hb) hk hp (by omega)
  have HT1 : Hid (∀ W : World, Below w.heap.size w W → txt W p1 l1) := fun W hb => txt_below ht1 hb
  have HP1 : Hid (p1 = none → c1 = 0) := hp1
  have HM : Hid (l1.length = m) := hm
  have HK : Hid (l.length = k) := hk
  have HSM : Hid (tsm (l ++ l1)) := tsm_append hsm hsm1
  have HAP : Hid (∃ LL, l ++ l1 = LL ∧ LL.length = k + m) := ⟨_, rfl, by rw [List.length_append, hk, hm]⟩
  obtain ⟨LL, hLL, hLn⟩ := HAP.out
  have HLL : Hid (l ++ l1 = LL) := hLL
  have HTF : Hid (∀ n, n ≤ k → LL.take n = l.take n) := fun n h => by rw [← hLL]; exact take_front l l1 n (by omega)
  rw [hLL] at HSM
  obtain ⟨km, hkm0⟩ : ∃ km, k + m = km := ⟨_, rfl⟩
  rw [hkm0] at hLn
  have HLN : Hid (LL.length = km) := hLn
  clear hLL hLn HAP
  have HBy : Hid ((l.length + m) * 16 ≤ 140737488355328) := by unfold Hid; omega
  by_cases hgood : k ≤ 256 ∧ 0 ≤ a2 ∧ a2 ≤ k
  · obtain ⟨hk256, hn0, hnk⟩ := hgood
    obtain ⟨n, rfl⟩ : ∃ n : Nat, a2 = n := ⟨a2.toNat, by omega⟩
    have hn : n ≤ k := by omega
    have HG : Hid (Calls Try.prog 9 #[.slice p k c, .int .i64 n] w fun e w' => ∃ v, e = .returned (.tuple #[v, .int .i64 0]) ∧ mine w.heap.size w' v (gr pr (lvs (l.take n))) ∧ Below w.heap.size w w') := Grows_in l p n k c w hk hk256 hc hn ht hsm
    have HR : Hid (∀ W : World, Below w.heap.size w W → Calls Try.prog 8 #[.slice p n c] W fun e w' => e = .returned (.tuple #[.int .u64 (rts (l.take n)), .int .i64 0]) ∧ ∃ q, w' = W.drewN q) :=
      fun W hb => Root_ok (l.take n) p n c W (by rw [List.length_take]; omega) (by omega) (by omega) (txt_take (txt_below ht hb) n) (tsm_take hsm n)
    have HGL : Hid ((gr pr (lvs (l.take n))).length ≤ 256) := by
      have := gr_le pr _ (lvs (l.take n)) rfl
      rw [lvs_length, List.length_take] at this
      unfold Hid; omega
    have HFB : Hid (0 < n → 0 < (gr pr (lvs (l.take n))).length ∧ fb pr (gr pr (lvs (l.take n))) = rts (l.take n)) := fun h => ⟨gr_pos pr (by rw [lvs_length, List.length_take]; omega), fb_rts _ (by rw [List.length_take]; omega)⟩
    have HZ : Hid (n = 0 → (gr pr (lvs (l.take n))).length = 0 ∧ rts (l.take n) = 0) := by
      intro h
      rw [h, List.take_zero]
      exact ⟨by unfold lvs; rw [List.map_nil, gr_nil]; rfl, rts_nil⟩
    have HSG : Hid (small (gr pr (lvs (l.take n)))) := gr_small _ _ rfl (lvs_small _)
    have H2 : Hid (∀ (W : World) (pv : Option Addr) (cv : Nat), txt W pv LL → km ≤ cv → km ≤ 256 →
        Calls Try.prog 9 #[.slice pv km cv, .int .i64 n] W fun e w' => ∃ v, e = .returned (.tuple #[v, .int .i64 0]) ∧ mine W.heap.size w' v (gr pr (lvs (l.take n))) ∧ Below W.heap.size W w') := by
      intro W pv cv htx hcv hkm
      have := Grows_in LL pv n km cv W HLN.out hkm hcv (by omega) htx HSM.out
      rwa [HTF.out n hn] at this
    obtain ⟨G, hG⟩ : ∃ G, gr pr (lvs (l.take n)) = G := ⟨_, rfl⟩
    rw [hG] at HG HGL HFB HZ HSG H2
    obtain ⟨R, hR⟩ : ∃ R, rts (l.take n) = R := ⟨_, rfl⟩
    rw [hR] at HR HFB HZ
    clear ht hsm ht1 hsm1 hp hp1 hm hk hG hR hn0
    have e1 : (n : Int) ≤ c := by omega
    have e2 : (0 : Int) ≤ n := by omega
    have HB0 : Hid (Below w.heap.size w w) := Below.refl _ _
    go_enter Try.func7, Try.ntmps7
    go_wp2_with fail
    refine HG.out.mono ?_
    rintro e wa ⟨va, rfl, hva, hba⟩
    have HBa : Hid (Below w.heap.size w wa) := hba
    obtain ⟨pa, ca, rfl, hrow, hca, _⟩ := mine_full hva
    have HRa : Hid (row wa pa G) := hrow
    clear hva hba hrow HG
    go_wp2_with fail
    refine (HCl.out _ HBa.out).mono ?_
    rintro e wb ⟨vb, rfl, hvb, hbb⟩
    have HVb : Hid (smine wa.heap.size wb vb l) := hvb
    have HBb : Hid (Below wa.heap.size wa wb) := hbb
    have HBw : Hid (Below w.heap.size w wb) := HBa.out.trans (hbb.mono HBa.out.size)
    clear hvb hbb HCl
    go_wp2_with (at_builtin; refine list_more _ wa rfl _ _ rfl vb l l1 rfl HVb.out HBb.out p1 m c1 rfl HM.out HP1.out (HT1.out _ HBw.out) HBy.out ?_)
    intro vc wc h1c h2c _
    have HBc : Hid (Below w.heap.size w wc) := HBa.out.trans (h2c.mono HBa.out.size)
    have HRc : Hid (row wc pa G) := row_below HRa.out h2c
    rw [HLL.out] at h1c
    obtain ⟨pc, cc, hvc, htc, hcc, _⟩ := smine_full h1c
    rw [HLN.out] at hvc hcc
    subst hvc
    clear h1c h2c HVb HBb HBw HRa
    by_cases hkm : 256 < km
    · clear htc hcc
      go_wp2_with fail
      refine (Grows_large pc n km cc _ hkm).mono ?_
      rintro e w' ⟨rfl, hw⟩; subst w'
      go_wp2_with fail
      refine (lives_any _).mono ?_
      rintro e wd ⟨rfl, hb⟩
      have HBd : Hid (Below w.heap.size w wd) := HBc.out.trans (hb.mono HBc.out.size)
      clear hb
      go_wp2_with fail
      refine (lives_any _).mono ?_
      rintro e we ⟨rfl, hb⟩
      have HBe : Hid (Below w.heap.size w we) := HBd.out.trans (hb.mono HBd.out.size)
      clear hb
      go_wp2_with fail
      go_ret
      exact ⟨rfl, HBe.out⟩
    · have HI : Hid (Calls Try.prog 9 #[.slice pc km cc, .int .i64 n] wc fun e w' => ∃ v, e = .returned (.tuple #[v, .int .i64 0]) ∧ mine wc.heap.size w' v G ∧ Below wc.heap.size wc w') := H2.out wc pc cc htc hcc (by omega)
      clear htc hcc H2
      go_wp2_with fail
      refine HI.out.mono ?_
      rintro e wd ⟨vd, rfl, hvd, hbd⟩
      have HBd : Hid (Below w.heap.size w wd) := HBc.out.trans (hbd.mono HBc.out.size)
      have HRd : Hid (row wd pa G) := row_below HRc.out hbd
      obtain ⟨pd, cd, rfl, hrd, hcd, _⟩ := mine_full hvd
      have HQd : Hid (row wd pd G) := hrd
      clear hvd hbd hrd HI HBc HRc
      go_wp2_with fail
      refine (lives_any _).mono ?_
      rintro e we ⟨rfl, hb⟩
      have HBe : Hid (Below w.heap.size w we) := HBd.out.trans (hb.mono HBd.out.size)
      have HRe : Hid (row we pa G) := row_below HRd.out hb
      have HQe : Hid (row we pd G) := row_below HQd.out hb
      clear hb HBd HRd HQd
      have HEq : Hid (Calls Try.prog 13 #[.slice pa G.length ca, .slice pd G.length cd] we fun e w' => e = .returned (.bool true) ∧ ∃ m, w' = we.drewN m) := Equal_yes pa pd G.length ca cd G we rfl (by have := HGL.out; omega) HRe.out HQe.out
      obtain ⟨g, hg⟩ : ∃ g, G.length = g := ⟨_, rfl⟩
      have HGg : Hid (G.length = g) := hg
      rw [hg] at HGL HFB HZ HEq ⊢
      clear hg
      go_wp2_with fail
      refine HEq.out.mono ?_
      rintro e w' ⟨rfl, q, hw⟩; subst w'
      have HBf : Hid (Below w.heap.size w (we.drewN q)) := below_drewN HBe.out q
      have HRf : Hid (row (we.drewN q) pa G) := row_drewN HRe.out q
      clear HBe HRe HQe HEq
      generalize we.drewN q = wf at HBf HRf ⊢
      go_wp2_with fail
      refine (HR.out _ HBf.out).mono ?_
      rintro e w' ⟨rfl, q2, hw⟩; subst w'
      have HBg : Hid (Below w.heap.size w (wf.drewN q2)) := below_drewN HBf.out q2
      have HRg : Hid (row (wf.drewN q2) pa G) := row_drewN HRf.out q2
      clear HBf HRf HR
      generalize wf.drewN q2 = wg at HBg HRg ⊢
      by_cases hz : n = 0
      · obtain ⟨hg0, hR0⟩ := HZ.out hz
        subst hz hg0 hR0
        go_wp2_with fail
        go_ret
        exact ⟨rfl, HBg.out⟩
      · obtain ⟨hgp, hfb⟩ := HFB.out (by omega)
        have HFBe : Hid (fb pr G = R) := hfb
        obtain ⟨g1, hg1⟩ : ∃ g1, g = g1 + 1 := ⟨g - 1, by omega⟩
        obtain ⟨aa, rfl⟩ := row_some HRg.out (by rw [HGg.out]; exact hgp)
        have hcl : wg.cell? (aa.add g1) = some (.int .u64 ((G.getD g1 0 : Nat) : Int)) := row_cell HRg.out g1 (by rw [HGg.out]; omega)
        have HX0 : Hid (G.getD g1 0 = fb pr (G.drop g1)) := by
          have := fb_last pr (l := G) (by rw [HGg.out]; omega)
          rw [HGg.out, hg1] at this
          exact this.symm
        obtain ⟨X0, hX0⟩ : ∃ X, G.getD g1 0 = X := ⟨_, rfl⟩
        rw [hX0] at hcl HX0
        clear hX0 hfb HFB HZ
        have hg256 := HGL.out
        have i1 : (g : Int) - 1 = g1 := by omega
        have i3 : (g1 : Int) < g := by omega
        have i4 : (0 : Int) ≤ g1 := by omega
        have HG1 : Hid (g = g1 + 1) := hg1
        clear hg1
        have hz' : ((n : Int) == 0) = false := by simp; omega
        go_wp2_with fail
        clear hcl
        go_loop [13, 14] (fun xv iv => ∃ (X j : Nat) (i : Int), xv = .int .u64 X ∧ iv = .int .i64 i ∧ i = (j : Int) - 1 ∧ j ≤ g1 ∧ X = fb pr (G.drop j)) (fun _ iv => dnm iv)
        case atStart => exact ⟨X0, g1, _, rfl, rfl, by have := HG1.out; omega, by omega, HX0.out⟩
        case round =>
          obtain ⟨X, j, i, rfl, rfl, hi, hj, hX⟩ := hrel
          by_cases hj0 : 0 < j
          · obtain ⟨J, rfl⟩ : ∃ J, j = J + 1 := ⟨j - 1, by omega⟩
            have hcl : wg.cell? (aa.add J) = some (.int .u64 ((G.getD J 0 : Nat) : Int)) := row_cell HRg.out J (by have := HG1.out; rw [HGg.out]; omega)
            have HS : Hid (fb pr (G.drop J) = pr (G.getD J 0) X) := by
              unfold Hid
              rw [hX]; exact fb_step pr (by have := HG1.out; rw [HGg.out]; omega)
            have HA : Hid (G.getD J 0 < 18446744073709551616) := small_at HSG.out J
            have HXb : Hid (X < 18446744073709551616) := by rw [hX]; exact fb_lt (small_drop HSG.out _)
            obtain ⟨A, hA⟩ : ∃ A, G.getD J 0 = A := ⟨_, rfl⟩
            rw [hA] at hcl HS HA
            clear hA hX
            obtain rfl : i = (J : Int) := by omega
            clear hi
            have j2 : (J : Int) < g := by omega
            have j3 : (0 : Int) ≤ J := by omega
            go_wp2_with fail
            refine (Pair_any A X _ HA.out HXb.out).mono ?_
            rintro e w' ⟨rfl, hw⟩; subst w'
            go_wp2_with fail
            go_round
            case rel => exact ⟨_, J, _, rfl, rfl, by omega, by omega, HS.out.symm⟩
            case measure => simp [dnm, intOf]
          · obtain rfl : j = 0 := by omega
            obtain rfl : i = -1 := by omega
            have hXR : X = R := by rw [hX, List.drop_zero, HFBe.out]
            clear hX hi
            subst hXR
            go_wp2_with fail
            go_ret
            exact ⟨rfl, HBg.out⟩
  · have HG : Hid (∃ x : Int, ¬ x = 0 ∧ Calls Try.prog 9 #[.slice p k c, .int .i64 a2] w fun e w' => e = .returned (.tuple #[.slice none 0 0, .int .i64 x]) ∧ w' = w) := by
      by_cases h1 : 256 < k
      · exact ⟨2, by omega, Grows_large p a2 k c w h1⟩
      · exact ⟨1, by omega, Grows_bad p a2 k c w (by omega) (by omega)⟩
    obtain ⟨x, hx, HG⟩ := HG.out
    have HG : Hid (Calls Try.prog 9 #[.slice p k c, .int .i64 a2] w fun e w' => e = .returned (.tuple #[.slice none 0 0, .int .i64 x]) ∧ w' = w) := HG
    have H2 : Hid (∀ (W : World) (pv : Option Addr) (cv : Nat), txt W pv LL → km ≤ cv →
        Calls Try.prog 9 #[.slice pv km cv, .int .i64 a2] W fun e w' => ∃ (v : Value) (x : Int), e = .returned (.tuple #[v, .int .i64 x]) ∧ Below W.heap.size W w') :=
      fun W pv cv htx hcv => Grows_some LL pv a2 km cv W HLN.out hcv htx HSM.out
    clear ht hsm ht1 hsm1 hp hp1 hm hk hgood
    go_enter Try.func7, Try.ntmps7
    go_wp2_with fail
    refine HG.out.mono ?_
    rintro e w' ⟨rfl, hw⟩; subst w'
    clear HG
    go_wp2_with fail
    refine (HCl.out _ (Below.refl _ _)).mono ?_
    rintro e wb ⟨vb, rfl, hvb, hbb⟩
    have HVb : Hid (smine w.heap.size wb vb l) := hvb
    have HBb : Hid (Below w.heap.size w wb) := hbb
    clear hvb hbb HCl
    go_wp2_with (at_builtin; refine list_more _ w rfl _ _ rfl vb l l1 rfl HVb.out HBb.out p1 m c1 rfl HM.out HP1.out (HT1.out _ HBb.out) HBy.out ?_)
    intro vc wc h1c h2c _
    have HBc : Hid (Below w.heap.size w wc) := h2c
    rw [HLL.out] at h1c
    obtain ⟨pc, cc, hvc, htc, hcc, _⟩ := smine_full h1c
    rw [HLN.out] at hvc hcc
    subst hvc
    have HI : Hid (Calls Try.prog 9 #[.slice pc km cc, .int .i64 a2] wc fun e w' => ∃ (v : Value) (x : Int), e = .returned (.tuple #[v, .int .i64 x]) ∧ Below wc.heap.size wc w') := H2.out wc pc cc htc hcc
    clear h1c h2c HVb HBb htc hcc H2
    go_wp2_with fail
    refine HI.out.mono ?_
    rintro e wd ⟨vd, xd, rfl, hbd⟩
    have HBd : Hid (Below w.heap.size w wd) := HBc.out.trans (hbd.mono HBc.out.size)
    clear hbd HBc HI
    go_wp2_with fail
    refine (lives_any _).mono ?_
    rintro e we ⟨rfl, hb⟩
    have HBe : Hid (Below w.heap.size w we) := HBd.out.trans (hb.mono HBd.out.size)
    clear hb
    go_wp2_with fail
    refine (lives_any _).mono ?_
    rintro e wf ⟨rfl, hb⟩
    have HBf : Hid (Below w.heap.size w wf) := HBe.out.trans (hb.mono HBe.out.size)
    clear hb
    go_wp2_with fail
    go_ret
    exact ⟨rfl, HBf.out⟩

set_option maxRecDepth 100000 in
theorem lifted (os : Os) (started : os.Started) (H : Type) (enc : TypeId × Value → H) (F : Stop.Interp) :
    ReturnsInHanded {} Try.checked os 7 .any ((Rows.OpenSpec.upto Rows.treeGrowsSpec).pre6 enc Try.prog Try.f7 Rows.treeGrowsUptoRow.domain false) (((Rows.OpenSpec.upto Rows.treeGrowsSpec).at F).post enc Try.prog Try.f7 false true false false) := by
  refine returnsInHanded_of_cond (C := Try.checked) (s := Rows.OpenSpec.upto Rows.treeGrowsSpec) (k := Rows.uptoSmall) rfl own started (by kernel_rfl) Try.func7
    (OpenSpec.witness (enc := enc) (C := Try.checked) (s := Rows.OpenSpec.upto Rows.treeGrowsSpec) (k := Rows.uptoSmall) rfl false ⟨#[], #[.slice none 0 0, .slice none 0 0, .int .i64 0], []⟩ 8 (by kernel_rfl) (by kernel_rfl) (by kernel_rfl)
      (x := ([.nil, .nil, .lit (.int .i64 0)], [], [])) (by kernel_rfl) rfl (by kernel_rfl)) ?_
  intro W base args ds gs before hval0 hW hcnd hk _
  have hval : ∀ (j : Nat) t v, Try.f7.params[j]? = some t → args[j]? = some v → Value.okWide Try.prog W .any base t v := hval0
  have hW' := hW
  obtain ⟨p, q, hA0, hV, rfl, hfz, hnd⟩ := hW
  have hA : DataW.TrodAll enc Try.prog W 0 (fun _ => true) true Try.f7.params.toList args.toList ds p := hA0
  rw [Try.params7] at hA hval
  obtain ⟨v0, vs0, d0, ds0, p0, q0, hargs, rfl, rfl, h0, r0⟩ := trodAll_cons hA
  obtain ⟨v1, vs1, d1, ds1, p1, q1, rfl, rfl, rfl, h1, r1⟩ := trodAll_cons r0
  obtain ⟨v2, vs2, d2, ds2, p2, q2, rfl, rfl, rfl, h2, r2⟩ := trodAll_cons r1
  obtain ⟨rfl, rfl, rfl⟩ := trodAll_nil r2
  obtain rfl : args = #[v0, v1, v2] := by cases args; simp_all
  obtain ⟨rfl, rfl⟩ := trodVars_none hV
  obtain ⟨s0, rfl, k0, t0⟩ := open_sst Try.underlying22 Try.underlying9 (by kernel_rfl) (hval 0 22 v0 rfl rfl) h0
  obtain ⟨s1, rfl, k1, t1⟩ := open_sst Try.underlying22 Try.underlying9 (by kernel_rfl) (hval 1 22 v1 rfl rfl) h1
  obtain ⟨a2, rfl, rfl, rfl, w2⟩ := open_int Try.underlying3 (hval 2 3 v2 rfl rfl) h2
  have hk0 : Rows.uptoBulkAll _ ≤ 1048576 := of_decide_eq_true hk
  simp only [Rows.uptoBulkAll, Rows.uptoBulk, List.append_nil] at hk0
  have hs0 : s0.l.length ≤ 1048576 := Nat.le_trans (told_bulk t0) (by omega)
  have hs1 : s1.l.length ≤ 1048576 := Nat.le_trans (told_bulk t1) (by omega)
  clear hA0 hval0
  refine (walk s0 s1 a2 w2 W k0 hs0 k1 hs1).mono fun e W' ⟨he, hg⟩ => ?_
  subst he
  exact ⟨_, rfl, law_post (by kernel_rfl) (by kernel_rfl) rfl (by kernel_rfl) Try.underlying4 hW' rfl hg⟩

theorem over : Rows.treeGrowsUptoRow.holds Try.pinned (Rows.OpenSpec.upto Rows.treeGrowsSpec) :=
  OpenClaim.holds_of_cond 7 Try.f7 rfl rfl rfl rfl rfl rfl rfl ⟨rfl, rfl, rfl, rfl, rfl⟩ rfl rfl rfl rfl rfl (by kernel_rfl) Try.func7 (by kernel_rfl)
    (of_decide_eq_true (by kernel_rfl)) (by unfold Func.isWrapper; first | (rw [if_pos (by decide +kernel)]; kernel_rfl) | (rw [if_neg (by decide +kernel)]; exact ⟨rfl, rfl⟩))
    (fun os started H enc _ F => lifted os started H enc F)

theorem proved : Rows.TreeGrowsUptoSaid :=
  over
end Go.Proofs.Yteedlbdjbffheaa.treeGrows

namespace Go.Proofs.Yteedlbdjbffheaa
/-- For all lists l and more of texts and every whole number n the law TreeGrows of package tree returns true, and its arguments read as before; condition: the arguments are of bulk at most 1048576. -/
theorem treeGrows_upto_holds : Rows.TreeGrowsUptoSaid := treeGrows.proved
#print axioms treeGrows_upto_holds
end Go.Proofs.Yteedlbdjbffheaa
