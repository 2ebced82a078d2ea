/- What goods.makeTroop does. -/
import Derived.Test.YtdcjjfipnilmpaaAd
import Derived.BigRegion
import Derived.Deep.RegionLaw
namespace Go.Proofs.Ytdcjjfipnilmpaa
open Go.RowKit Go.Maps
set_option linter.unusedVariables false

/-- What is told of a troop that is made, or not. -/
def makeO (W H : Nat) (l : List Int) (lb : List Cel) (s s' : Shp) (p a : Int) (r : Bool) : Prop :=
  (r = true ∧ makeC lb s p a ∧ ∃ c, makeF W H l lb s p = some c ∧ s' = makeS s p a c) ∨ (r = false ∧ s' = s ∧ ∀ c, makeC lb s p a → ¬ makeF W H l lb s p = some c)
/-- What a deed's function tells, and leaves. -/
def resO (B J b : Nat) (s : Wld) (O : Shp → Bool → Prop) (e : Ending) (w' : World) : Prop := ∃ (r : Bool) (s' : Wld), e = .returned (.bool r) ∧ shop B J b w' s' ∧ likes s s' ∧ O s'.shp r
theorem kd_12 {a : Int} (h : a = 1 ∨ a = 2) : ∃ r g : Int, kdv a = .agg #[.int .i64 (lifeOf a), .int .i64 r, .int .i64 g, .int .i64 (priceOf a)] ∧ kde a = 0 := by
  rcases h with rfl | rfl
  · exact ⟨1, 1, rfl, rfl⟩
  · exact ⟨2, 4, rfl, rfl⟩
theorem trow_heap {V : World} {b : Nat} {Q : List Trp} {t : TypeId} (h : V.heap[b]? = some (.cells (flat7 Q).toArray t)) : trow V (some ⟨b, 0, none⟩) Q := by
  intro j u hj
  refine ⟨_, rfl, ?_⟩
  rw [add_zero_at]
  simp [World.cell?, h, hj]
theorem free4 {W' : World} {R : Nat} {x y z u : Value} {t : TypeId} (hR : W'.heap[R]? = some (.cells #[x, y, z, u] t)) : W'.cell? ⟨R, 0, none⟩ = some x ∧ W'.cell? ⟨R, 1, none⟩ = some y ∧ W'.cell? ⟨R, 2, none⟩ = some z ∧ W'.cell? ⟨R, 3, none⟩ = some u := by simp [World.cell?, hR]
set_option maxRecDepth 20000 in
set_option maxHeartbeats 1000000 in
theorem make_no (B J b W H : Nat) (s : Wld) (p a : Int) (V : World) (h : shop B J b V s) (ha : ¬ (a = 1 ∨ a = 2)) :
    Calls Try.prog 47 #[.pointer (some ⟨J, 0, none⟩), .int .i64 p, .int .i64 a] V fun e w' => resO B J b s (fun s' r => makeO W H s.l s.lb s.shp s' p a r) e w' ∧ Ex (shS J b s) V w' := by
  have hk : kde a = 1 := by unfold kde; simp only [not_or] at ha; simp [ha]
  have hv : kdv a = .agg #[.int .i64 0, .int .i64 0, .int .i64 0, .int .i64 0] := by unfold kdv; simp only [not_or] at ha; simp [ha]
  have HKI : Hid (Calls Try.prog 33 #[.int .i64 a] V fun e w' => e = .returned (.tuple #[.agg #[.int .i64 0, .int .i64 0, .int .i64 0, .int .i64 0], .int .i64 1]) ∧ Below V.heap.size V w') := by rw [← hk, ← hv]; exact Kind_any a V
  have HS : Hid (∀ U, Below V.heap.size V U → shop B J b U s) := fun U hU => shop_below h hU
  have HA : Hid (¬ (a = 1 ∨ a = 2)) := ha
  clear h ha hk hv
  go_enter Try.func47, Try.ntmps47
  go_wp2_with fail
  refine Calls.mono HKI.out ?_
  rintro e w1 ⟨rfl, hb1⟩
  have HB2 : Hid (∀ m, Below V.heap.size V ((w1.alloc (.cells #[.int .i64 0, .int .i64 0, .int .i64 0, .int .i64 0] 71)).drewN m)) := fun m => below_drewN (hb1.alloc hb1.size _) m
  clear hb1
  go_wp2_with fail
  go_quiet (fail)
  go_wp2_with fail
  go_ret
  exact ⟨⟨false, s, rfl, HS.out _ (HB2.out _), likes.refl s, .inr ⟨rfl, rfl, fun c hc => absurd hc.1 HA.out⟩⟩, Ex.of_below (HB2.out _)⟩
set_option maxRecDepth 20000 in
set_option maxHeartbeats 16000000 in
theorem make_at (B J b W H : Nat) (s : Wld) (p a : Int) (V : World) (h : shop B J b V s) (ho : oks W H s.l s.lb s.shp) (hA : s.A = W) (hB : s.B = H) (hf : ∀ t ∈ s.lt, fits t.i) (ha : a = 1 ∨ a = 2) :
    Calls Try.prog 47 #[.pointer (some ⟨J, 0, none⟩), .int .i64 p, .int .i64 a] V fun e w' => resO B J b s (fun s' r => makeO W H s.l s.lb s.shp s' p a r) e w' ∧ Ex (shS J b s) V w' := by
  obtain ⟨r0, g0, hkv, hke⟩ := kd_12 ha
  obtain ⟨L, hL⟩ : ∃ L, lifeOf a = L := ⟨_, rfl⟩
  obtain ⟨P, hP⟩ : ∃ P, priceOf a = P := ⟨_, rfl⟩
  rw [hL, hP] at hkv
  have HKI : Hid (Calls Try.prog 33 #[.int .i64 a] V fun e w' => e = .returned (.tuple #[.agg #[.int .i64 L, .int .i64 r0, .int .i64 g0, .int .i64 P], .int .i64 0]) ∧ Below V.heap.size V w') := by rw [← hke, ← hkv]; exact Kind_any a V
  have HL : Hid (lifeOf a = L ∧ priceOf a = P) := ⟨hL, hP⟩
  have hPb : 0 ≤ P ∧ P ≤ 12 := by rw [← hP]; unfold priceOf; split <;> omega
  have HS : Hid (∀ U, Below V.heap.size V U → shop B J b U s) := fun U hU => shop_below h hU
  have HO : Hid (oks W H s.l s.lb s.shp) := ho
  have HA1 : Hid (a = 1 ∨ a = 2) := ha
  have HLK : Hid (∀ U, Below V.heap.size V U → look J W H s.l s.lt U) := fun U hU => shop_look (shop_below h hU) ho hA hB
  have HFI : Hid (∀ t ∈ s.lt, fits t.i) := hf
  have nlt := (own_parts h.1.o.kt).1
  have nls := (own_parts h.1.o.ks).1
  have nlb := (own_parts h.1.o.kb).1
  have HLN : Hid (s.lt.length = s.nt ∧ s.ls.length = s.ns ∧ s.lb.length = s.nb) := ⟨nlt, nls, nlb⟩
  have hWH : W ≤ 40 ∧ H ≤ 40 := ⟨ho.f.1.2, ho.f.2.1.2⟩
  have hN1 : 1 ≤ s.N := ho.n1
  have hN2 : s.N ≤ 1000000 := ho.n2
  have hnt : s.nt ≤ 100 := by rw [← nlt]; exact ho.nt
  have hnb : s.nb ≤ 8 := by rw [← nlb]; exact ho.nb
  have hJC : ∀ U, Below V.heap.size V U → U.cell? ⟨J, 3, none⟩ = some (.slice s.pb s.nb s.cb) ∧ U.cell? ⟨J, 4, none⟩ = some (.slice s.ps s.ns s.cs) ∧ U.cell? ⟨J, 6, none⟩ = some (.slice s.pt s.nt s.ct) ∧ U.cell? ⟨J, 7, none⟩ = some (.int .i64 s.N) ∧ U.cell? ⟨J, 9, none⟩ = some (.map (some b)) := fun U hU => by
    have := bx10_c10 (shop_below h hU).1.x
    exact ⟨this.2.2.2.1, this.2.2.2.2.1, this.2.2.2.2.2.2.1, this.2.2.2.2.2.2.2.1, this.2.2.2.2.2.2.2.2.2⟩
  have HJC : Hid (∀ U, Below V.heap.size V U → U.cell? ⟨J, 3, none⟩ = some (.slice s.pb s.nb s.cb) ∧ U.cell? ⟨J, 4, none⟩ = some (.slice s.ps s.ns s.cs) ∧ U.cell? ⟨J, 6, none⟩ = some (.slice s.pt s.nt s.ct) ∧ U.cell? ⟨J, 7, none⟩ = some (.int .i64 s.N) ∧ U.cell? ⟨J, 9, none⟩ = some (.map (some b))) := hJC
  obtain ⟨nb, hnb'⟩ : ∃ nb, s.nb = nb := ⟨_, rfl⟩
  obtain ⟨ns, hns'⟩ : ∃ ns, s.ns = ns := ⟨_, rfl⟩
  obtain ⟨nt, hnt'⟩ : ∃ nt, s.nt = nt := ⟨_, rfl⟩
  obtain ⟨N, hN'⟩ : ∃ N, s.N = N := ⟨_, rfl⟩
  obtain ⟨pb, hpb'⟩ : ∃ pb, s.pb = pb := ⟨_, rfl⟩
  obtain ⟨ps, hps'⟩ : ∃ ps, s.ps = ps := ⟨_, rfl⟩
  obtain ⟨pt, hpt'⟩ : ∃ pt, s.pt = pt := ⟨_, rfl⟩
  obtain ⟨cb, hcb'⟩ : ∃ cb, s.cb = cb := ⟨_, rfl⟩
  obtain ⟨cs, hcs'⟩ : ∃ cs, s.cs = cs := ⟨_, rfl⟩
  obtain ⟨ct, hct'⟩ : ∃ ct, s.ct = ct := ⟨_, rfl⟩
  have HEQ : Hid (s.nb = nb ∧ s.ns = ns ∧ s.nt = nt ∧ s.N = N ∧ s.pb = pb ∧ s.ps = ps ∧ s.pt = pt ∧ s.cs = cs ∧ s.ct = ct) := ⟨hnb', hns', hnt', hN', hpb', hps', hpt', hcs', hct'⟩
  rw [hnb', hns', hnt', hN', hpb', hps', hpt', hcb', hcs', hct'] at HJC
  rw [hN'] at hN1 hN2
  rw [hnt'] at hnt
  rw [hnb'] at hnb
  clear h ho hA hB hf ha hkv hke hL hP nlt nls nlb hJC hnb' hns' hnt' hN' hpb' hps' hpt' hcb' hcs' hct'
  go_enter Try.func47, Try.ntmps47
  go_wp2_with fail
  refine Calls.mono HKI.out ?_
  rintro e w1 ⟨rfl, hb1⟩
  obtain ⟨w2, hw2⟩ : ∃ w2, w1.alloc (.cells #[.int .i64 L, .int .i64 r0, .int .i64 g0, .int .i64 P] 71) = w2 := ⟨_, rfl⟩
  obtain ⟨G, hG⟩ : ∃ G, w1.heap.size = G := ⟨_, rfl⟩
  have hk2 : w2.heap[G]? = some (.cells #[.int .i64 L, .int .i64 r0, .int .i64 g0, .int .i64 P] 71) := by rw [← hw2, ← hG]; exact World.alloc_heap_new w1 _
  have hb2 : Below V.heap.size V w2 := by rw [← hw2]; exact hb1.alloc hb1.size _
  have HB2 : Hid (Below V.heap.size V w2) := hb2
  have HK2 : Hid (∀ U, Below w2.heap.size w2 U → U.heap[G]? = some (.cells #[.int .i64 L, .int .i64 r0, .int .i64 g0, .int .i64 P] 71)) := fun U hU => (hU.block G (heap_lt hk2)).trans hk2
  have HGS : Hid (V.heap.size ≤ G) := by unfold Hid; rw [← hG]; exact hb1.size
  obtain ⟨k0, -, -, k3⟩ := free4 hk2
  obtain ⟨j3, j4, j6, j7, j9⟩ := HJC.out w2 hb2
  clear hb1 hb2 hk2
  have no : ∀ {U : World}, Below V.heap.size V U → (makeC s.lb s.shp p a → False) → resO B J b s (fun s' r => makeO W H s.l s.lb s.shp s' p a r) (.returned (.bool false)) U ∧ Ex (shS J b s) V U :=
    fun hU hn => ⟨⟨false, s, rfl, HS.out _ hU, likes.refl s, .inr ⟨rfl, rfl, fun c hc => absurd hc hn⟩⟩, Ex.of_below hU⟩
  have NO : Hid (∀ {U : World}, Below V.heap.size V U → (makeC s.lb s.shp p a → False) → resO B J b s (fun s' r => makeO W H s.l s.lb s.shp s' p a r) (.returned (.bool false)) U ∧ Ex (shS J b s) V U) := @no
  clear no
  go_wp2_with fail
  clear hw2
  by_cases hp0 : p < 0
  · have d1 : decide (p < 0) = true := by simp [hp0]
    go_quiet (fail)
    go_wp2_with fail
    go_ret
    exact NO.out (below_drewN HB2.out _) (fun hc => by have := hc.2.1; omega)
  have d1 : decide (p < 0) = false := by simp; omega
  by_cases hpn : (nb : Int) ≤ p
  · have d2 : decide ((nb : Int) ≤ p) = true := by simp [hpn]
    go_quiet (fail)
    go_wp2_with fail
    go_ret
    exact NO.out (below_drewN HB2.out _) (fun hc => by have h1 := hc.2.2.1; have h2 := HLN.out.2.2; have h3 := HEQ.out.1; omega)
  have d2 : decide ((nb : Int) ≤ p) = false := by simp; omega
  obtain ⟨PI, hPI⟩ : ∃ PI : Nat, p = PI := ⟨p.toNat, by omega⟩
  subst hPI
  have hPn : PI < nb := by omega
  have hPl : PI < s.lb.length := by have h2 := HLN.out.2.2; have h3 := HEQ.out.1; omega
  have hPs : PI < s.ls.length := by have h1 : s.shp.ls.length = s.lb.length := HO.out.pl.1; exact Nat.lt_of_lt_of_eq hPl h1.symm
  have oV := (HS.out V (Below.refl _ _)).1.o
  have xV := (HS.out V (Below.refl _ _)).1.x
  obtain ⟨gs, hgs, hs1, hs2, hs3, hs4⟩ := own_cell oV.ks (j := PI) hPs
  obtain ⟨ab, hab, hb1, hb2⟩ := crow_at (own_crow oV.kb) hPl
  have hb2' := cell_two hb2
  obtain ⟨c, hc⟩ : ∃ c, s.lb[PI] = c := ⟨_, rfl⟩
  have hcin : inb W H c.x c.y = true := by rw [← hc]; exact opn_inb (HO.out.pl.2.2.1 PI hPl)
  obtain ⟨X, Y, hcx, hcy, hX, hY⟩ := inb_nat hcin
  have hcc : c = ⟨X, Y⟩ := by cases c; simp only at hcx hcy; rw [hcx, hcy]
  have hgd : s.lb.getD PI ⟨0, 0⟩ = ⟨X, Y⟩ := by rw [List.getD_eq_getElem?_getD, List.getElem?_eq_getElem hPl, hc, hcc]; rfl
  rw [hc, hcc] at hb1 hb2'
  obtain ⟨Sv, hSv⟩ : ∃ Sv, s.ls.getD PI 0 = Sv := ⟨_, rfl⟩
  rw [hSv] at hs1
  have hSb := am_at HO.out.pl.2.1 PI
  have hSb2 : 0 ≤ Sv ∧ Sv ≤ 1000000 := by rw [← hSv]; exact hSb
  obtain ⟨o, hoo⟩ : ∃ o, makeF W H s.l s.lb s.shp (PI : Int) = o := ⟨_, rfl⟩
  have HFB : Hid (∀ U, Below V.heap.size V U → Calls Try.prog 65 #[.pointer (some ⟨J, 0, none⟩), .agg #[.int .i64 (X : Int), .int .i64 (Y : Int)]] U fun e w' => e = .returned (.tuple #[celv o, .bool o.isSome]) ∧ Below U.heap.size U w') := fun U hU =>
    freeBeside_at J W H X Y s.l s.lt o U (HLK.out U hU) (by omega) (by omega) (by
      rw [← hoo]
      unfold Hid makeF
      rw [Int.toNat_natCast, hgd]
      rfl)
  have HPL : Hid (PI < s.lb.length) := hPl
  have HOO : Hid (makeF W H s.l s.lb s.shp (PI : Int) = o) := hoo
  have HSV : Hid (s.ls.getD PI 0 = Sv) := hSv
  have nJs : ¬ J = gs := fun e => own_not oV.ks xV (by decide) gs (by rw [hgs]; rfl) e.symm
  have HGSO : Hid (s.ps = some ⟨gs, 0, none⟩) := hgs
  have hpse : ps = some ⟨gs, 0, none⟩ := by rw [← HEQ.out.2.2.2.2.2.1]; exact hgs
  have hpbe : pb = some ab := by rw [← HEQ.out.2.2.2.2.1]; exact hab
  subst hpse hpbe
  have HSC : Hid (∀ U, Below V.heap.size V U → U.cell? ⟨gs, PI, none⟩ = some (.int .i64 Sv) ∧ U.frozen? ⟨gs, PI, none⟩ = false) := fun U hU => ⟨cell_call2 hs1 hU, (hU.frozen (p := ⟨gs, PI, none⟩) hs4).trans hs2⟩
  have HBC : Hid (∀ U, Below V.heap.size V U → U.cell? (ab.add (PI * 2)) = some (.int .i64 (X : Int)) ∧ U.cell? ⟨(ab.add (PI * 2)).block, (ab.add (PI * 2)).off + 1, none⟩ = some (.int .i64 (Y : Int))) := fun U hU => ⟨cell_call2 hb1 hU, cell_call2 hb2' hU⟩
  have HGV : Hid (gs < V.heap.size ∧ J < V.heap.size ∧ b < V.heap.size) := ⟨hs4, heap_lt xV, mapi_lt (HS.out V (Below.refl _ _)).2⟩
  have d2n : decide (nb ≤ PI) = false := by simp; omega
  have pN : (PI : Int) < (nb : Int) := by omega
  have pS : (PI : Int) < (ns : Int) := by have h2 := HLN.out.2.1; have h3 := HEQ.out.2.1; omega
  have p0 : (0 : Int) ≤ PI := by omega
  clear hgs hs1 hs2 hs3 hs4 hab hb1 hb2 hb2' hc hcin hcx hcy hX hY hcc hgd hSv hSb hoo oV xV hPl hPs hp0 hpn
  obtain ⟨s1, s2⟩ := HSC.out w2 HB2.out
  by_cases hSP : Sv < P
  · have d3 : decide (Sv < P) = true := by simp [hSP]
    go_quiet (fail)
    go_wp2_with fail
    go_ret
    exact NO.out (below_drewN HB2.out _) (fun hc => by
      have h1 := hc.2.2.2.1
      rw [HL.out.2, Int.toNat_natCast] at h1
      have h2 : s.shp.ls.getD PI 0 = Sv := HSV.out
      omega)
  have d3 : decide (Sv < P) = false := by simp; omega
  go_quiet (fail)
  rename_i nq
  obtain ⟨w3, hw3⟩ : ∃ w3, w2.drewN nq = w3 := ⟨_, rfl⟩
  rw [hw3]
  have hb23 : Below w2.heap.size w2 w3 := by rw [← hw3]; exact below_drewN (Below.refl _ _) _
  have HB23 : Hid (Below w2.heap.size w2 w3) := hb23
  have HB3 : Hid (Below V.heap.size V w3) := below_step HB2.out HB2.out.size hb23
  clear hw3 hb23 j3 j4 j6 j7 j9 s1 s2 k0 k3 d1 d2 d2n d3
  obtain ⟨j3, j4, j6, j7, j9⟩ := HJC.out w3 HB3.out
  obtain ⟨b1, b2⟩ := HBC.out w3 HB3.out
  by_cases hn100 : (100 : Int) ≤ nt
  · go_wp2_with fail
    go_ret
    exact NO.out HB3.out (fun hc => by have h1 : s.lt.length < 100 := hc.2.2.2.2.1; have h2 := HLN.out.1; have h3 := HEQ.out.2.2.1; omega)
  by_cases hN6 : 1000000 ≤ N
  · go_wp2_with fail
    go_ret
    exact NO.out HB3.out (fun hc => by have h1 : s.N < 1000000 := hc.2.2.2.2.2; have h3 := HEQ.out.2.2.2.1; omega)
  have HMC : Hid (makeC s.lb s.shp (PI : Int) a) := ⟨HA1.out, by omega, by have h2 := HLN.out.2.2; have h3 := HEQ.out.1; omega, by rw [HL.out.2, Int.toNat_natCast]; have h2 : s.shp.ls.getD PI 0 = Sv := HSV.out; omega, by show s.lt.length < 100; have h2 := HLN.out.1; have h3 := HEQ.out.2.2.1; omega, by show s.N < 1000000; have h3 := HEQ.out.2.2.2.1; omega⟩
  go_wp2_with fail
  refine (HFB.out w3 HB3.out).mono ?_
  rintro e w4 ⟨rfl, hb4⟩
  have HB34 : Hid (Below w3.heap.size w3 w4) := hb4
  have HB4 : Hid (Below V.heap.size V w4) := below_step HB3.out HB3.out.size hb4
  clear hb4 j3 j4 j6 j7 j9 b1 b2
  cases o with
  | none =>
    unfold celv
    simp only [Option.isSome_none]
    go_wp2_with fail
    go_ret
    have hU := HB4.out.alloc HB4.out.size (.cells #[.int .i64 0, .int .i64 0] 45)
    exact ⟨⟨false, s, rfl, HS.out _ hU, likes.refl s, .inr ⟨rfl, rfl, fun c _ hc2 => by rw [HOO.out] at hc2; cases hc2⟩⟩, Ex.of_below hU⟩
  | some c =>
    obtain ⟨cx, cy⟩ := c
    unfold celv
    simp only [Option.isSome_some]
    obtain ⟨w5, hw5⟩ : ∃ w5, w4.alloc (.cells #[.int .i64 cx, .int .i64 cy] 45) = w5 := ⟨_, rfl⟩
    obtain ⟨K, hK⟩ : ∃ K, w4.heap.size = K := ⟨_, rfl⟩
    have hk5 : w5.heap[K]? = some (.cells #[.int .i64 cx, .int .i64 cy] 45) := by rw [← hw5, ← hK]; exact World.alloc_heap_new w4 _
    have hb45 : Below w4.heap.size w4 w5 := by rw [← hw5]; exact alloc_below _ _
    have HB5 : Hid (Below V.heap.size V w5) := below_step HB4.out HB4.out.size hb45
    have hg5 := HK2.out w5 (below_step (below_step HB23.out HB23.out.size HB34.out) (below_step HB23.out HB23.out.size HB34.out).size hb45)
    have HH5 : Hid (w5.heap[K]? = some (.cells #[.int .i64 cx, .int .i64 cy] 45) ∧ w5.heap[G]? = some (.cells #[.int .i64 L, .int .i64 r0, .int .i64 g0, .int .i64 P] 71)) := ⟨hk5, hg5⟩
    have HKV : Hid (V.heap.size ≤ K) := by unfold Hid; rw [← hK]; exact HB4.out.size
    have hS5d := HS.out w5.drew (HB5.out.drew)
    have h1n := HLN.out.1
    rw [HEQ.out.2.2.1] at h1n
    obtain ⟨w6, hrun, hs6, hm6, he6⟩ := shop_put (k := N) hS5d (by unfold fits; omega) HFI.out h1n (by omega)
    obtain ⟨j3, j4, j6, j7, j9⟩ := HJC.out w5 HB5.out
    clear hk5 hb45 hg5 hS5d h1n
    have HS6 : Hid (shop0 B J b w6 s ∧ mapi w6 b (s.lt.map Trp.i ++ [N]) ∧ Ex (fun g => g = b) w5.drew w6) := ⟨hs6, hm6, he6⟩
    clear hs6 hm6 he6
    go_wp2_with fail
    go_region
    obtain ⟨T, hT⟩ : ∃ T : Trp, (⟨N, (PI : Int), a, cx, cy, L, 0⟩ : Trp) = T := ⟨_, rfl⟩
    have hTi : T.i = N := by rw [← hT]
    have h67 : Below w6.heap.size w6 (w6.alloc (.cells #[.int .i64 N, .int .i64 (PI : Int), .int .i64 a, .int .i64 cx, .int .i64 cy, .int .i64 L, .int .i64 0] 47)).drew := (alloc_below _ _).drew
    have hT7 : trow (w6.alloc (.cells #[.int .i64 N, .int .i64 (PI : Int), .int .i64 a, .int .i64 cx, .int .i64 cy, .int .i64 L, .int .i64 0] 47)).drew (some ⟨w6.heap.size, 0, none⟩) [T] := by
      rw [← hT]
      exact trow_heap (World.alloc_heap_new w6 _)
    have hB6 : B ≤ w6.heap.size := Nat.le_trans (shS_ge (HS.out V (Below.refl _ _)).1 J (.inl rfl)) (Nat.le_of_lt (bx10_lt HS6.out.1.x))
    have hl6 := (own_parts HS6.out.1.o.kt).1
    rw [HEQ.out.2.2.1] at hl6
    obtain ⟨v9, w9, hrun9, hm9, hg9, ha9⟩ := run_moret2 (d := 1) (m := 1) 26 (minet_kept HS6.out.1.o.kt h67) (alli_below HS6.out.1.o.jt h67) hT7 rfl (by omega) (by omega) (Nat.le_trans hB6 h67.size)
    obtain ⟨p9, c9, hv9⟩ := mine_form hm9
    obtain ⟨n9, hn9⟩ : ∃ n9, (s.lt ++ [T]).length = n9 := ⟨_, rfl⟩
    rw [hn9] at hv9
    subst hv9
    obtain ⟨hx9, hsh10, he10⟩ := shop_append (T := T) HS6.out.1 (by rw [hTi]; exact HS6.out.2.1) h67 hm9 hg9 ha9
    obtain ⟨w10, hw10⟩ : ∃ w10, w9.setCell ⟨J, 6, none⟩ (.slice p9 n9 c9) = w10 := ⟨_, rfl⟩
    rw [hw10] at hsh10 he10
    have HSH10 : Hid (shop B J b w10 { s with pt := p9, nt := n9, ct := c9, lt := s.lt ++ [T] }) := hsh10
    have HE10 : Hid (Ex (fun g => g = J ∨ some g = (Value.slice s.pt s.nt s.ct).ownBlock) w6 w10) := he10
    have HW10 : Hid (w9.setCell ⟨J, 6, none⟩ (.slice p9 n9 c9) = w10) := hw10
    have HT : Hid ((⟨N, (PI : Int), a, cx, cy, L, 0⟩ : Trp) = T) := hT
    have hbJ : ¬ J = b := mapi_cells HS6.out.1.x HS6.out.2.1
    have hKb : ¬ K = b := by have := HGV.out; have := HKV.out; omega
    have hGb : ¬ G = b := by have := HGV.out; have := HGS.out; omega
    have hk6 := (HS6.out.2.2.block K (heap_lt HH5.out.1) hKb).trans HH5.out.1
    have hg6 := (HS6.out.2.2.block G (heap_lt HH5.out.2) hGb).trans HH5.out.2
    have HH6 : Hid (w6.heap[K]? = some (.cells #[.int .i64 cx, .int .i64 cy] 45) ∧ w6.heap[G]? = some (.cells #[.int .i64 L, .int .i64 r0, .int .i64 g0, .int .i64 P] 71)) := ⟨hk6, hg6⟩
    rw [HEQ.out.2.2.2.2.2.2.1, HEQ.out.2.2.1, HEQ.out.2.2.2.2.2.2.2.2] at hrun9
    have HR9 : Hid ((Builtin.append_ #[26, 26] 26 #[.slice pt nt ct, .slice (some ⟨w6.heap.size, 0, none⟩) 1 1]).run Try.prog (w6.alloc (.cells #[.int .i64 N, .int .i64 (PI : Int), .int .i64 a, .int .i64 cx, .int .i64 cy, .int .i64 L, .int .i64 0] 47)).drew = .ok (.slice p9 n9 c9) w9) := hrun9
    obtain ⟨-, -, -, -, -, -, i6, i7, -, -⟩ := bx10_c10 HS6.out.1.x
    rw [HEQ.out.2.2.2.2.2.2.1, HEQ.out.2.2.1, HEQ.out.2.2.2.2.2.2.2.2] at i6
    rw [HEQ.out.2.2.2.1] at i7
    obtain ⟨q0, q1, -, -⟩ := free2 hk6
    obtain ⟨k0, -, -, k3⟩ := free4 hg6
    obtain ⟨-, -, -, -, -, -, x6, x7, -, -⟩ := bx10_c10 hx9
    rw [HEQ.out.2.2.2.1] at x7
    have sz9 := hg9.size
    rw [World.size_drew, World.size_alloc] at sz9
    have sK9 : K < w9.heap.size := by have := heap_lt hk6; omega
    have sG9 : G < w9.heap.size := by have := heap_lt hg6; omega
    clear sz9
    have xf := bx10_free hx9 6
    clear hrun hrun9 hT hTi h67 hT7 hB6 hl6 hm9 hg9 ha9 hx9 hsh10 he10 hw10 hk6 hg6 j3 j4 j6 j7 j9 hn9 hw5
    have sJ : J < w6.heap.size := bx10_lt HS6.out.1.x
    have sK : K < w6.heap.size := heap_lt HH6.out.1
    have sG : G < w6.heap.size := heap_lt HH6.out.2
    have sS : ∀ {U : World}, U.cell? ⟨J, 7, none⟩ = some (.int .i64 N) → U.heap[K]? = some (.cells #[.int .i64 cx, .int .i64 cy] 45) → U.heap[G]? = some (.cells #[.int .i64 L, .int .i64 r0, .int .i64 g0, .int .i64 P] 71) → U.cell? ⟨J, 7, none⟩ = some (.int .i64 N) ∧ U.cell? ⟨K, 0, none⟩ = some (.int .i64 cx) ∧ U.cell? ⟨K, 1, none⟩ = some (.int .i64 cy) ∧ U.cell? ⟨G, 0, none⟩ = some (.int .i64 L) := fun h1 h2 h3 => ⟨h1, (free2 h2).1, (free2 h2).2.1, (free4 h3).1⟩
    have hKt : ¬ some K = (Value.slice s.pt s.nt s.ct).ownBlock := fun e => own_not HS6.out.1.o.kt HH6.out.1 (by decide) K e.symm rfl
    have hGt : ¬ some G = (Value.slice s.pt s.nt s.ct).ownBlock := fun e => own_not HS6.out.1.o.kt HH6.out.2 (by decide) G e.symm rfl
    have hKJ : ¬ K = J := by have := HGV.out; have := HKV.out; omega
    have hGJ : ¬ G = J := by have := HGV.out; have := HGS.out; omega
    have hk10 := (HE10.out.block K sK (fun e => e.elim hKJ hKt)).trans HH6.out.1
    have hg10 := (HE10.out.block G sG (fun e => e.elim hGJ hGt)).trans HH6.out.2
    have hk9 : w9.heap[K]? = some (.cells #[.int .i64 cx, .int .i64 cy] 45) := by rw [← hk10, ← HW10.out]; exact ((Ex.set (S := fun g => g = J) w9 ⟨J, 6, none⟩ rfl (.slice p9 n9 c9)).block K sK9 hKJ).symm
    have hg9 : w9.heap[G]? = some (.cells #[.int .i64 L, .int .i64 r0, .int .i64 g0, .int .i64 P] 71) := by rw [← hg10, ← HW10.out]; exact ((Ex.set (S := fun g => g = J) w9 ⟨J, 6, none⟩ rfl (.slice p9 n9 c9)).block G sG9 hGJ).symm
    have hj10 : w10.cell? ⟨J, 7, none⟩ = some (.int .i64 N) := by have := (bx10_c10 HSH10.out.1.x).2.2.2.2.2.2.2.1; rw [← HEQ.out.2.2.2.1]; exact this
    have HS1 : Hid (w6.cell? ⟨J, 7, none⟩ = some (.int .i64 N) ∧ w6.cell? ⟨K, 0, none⟩ = some (.int .i64 cx) ∧ w6.cell? ⟨K, 1, none⟩ = some (.int .i64 cy) ∧ w6.cell? ⟨G, 0, none⟩ = some (.int .i64 L)) := sS i7 HH6.out.1 HH6.out.2
    have HS2 : Hid (∀ ob, (w6.alloc ob).cell? ⟨J, 7, none⟩ = some (.int .i64 N) ∧ (w6.alloc ob).cell? ⟨K, 0, none⟩ = some (.int .i64 cx) ∧ (w6.alloc ob).cell? ⟨K, 1, none⟩ = some (.int .i64 cy) ∧ (w6.alloc ob).cell? ⟨G, 0, none⟩ = some (.int .i64 L)) := fun ob => sS (cell_call2 i7 (alloc_below w6 ob)) (((alloc_below w6 ob).block K sK).trans HH6.out.1) (((alloc_below w6 ob).block G sG).trans HH6.out.2)
    have HS3 : Hid (w9.cell? ⟨J, 7, none⟩ = some (.int .i64 N) ∧ w9.cell? ⟨K, 0, none⟩ = some (.int .i64 cx) ∧ w9.cell? ⟨K, 1, none⟩ = some (.int .i64 cy) ∧ w9.cell? ⟨G, 0, none⟩ = some (.int .i64 L)) := sS x7 hk9 hg9
    have HS4 : Hid (w10.cell? ⟨J, 7, none⟩ = some (.int .i64 N) ∧ w10.cell? ⟨K, 0, none⟩ = some (.int .i64 cx) ∧ w10.cell? ⟨K, 1, none⟩ = some (.int .i64 cy) ∧ w10.cell? ⟨G, 0, none⟩ = some (.int .i64 L)) := sS hj10 hk10 hg10
    have HG10 : Hid (w10.heap[G]? = some (.cells #[.int .i64 L, .int .i64 r0, .int .i64 g0, .int .i64 P] 71)) := hg10
    clear hk10 hg10 hk9 hg9 hj10 sS hKt hGt x7 sK9 sG9
    go_wp2_with fail
    refine wp_region_noPanic ?_
    refine wp_region_held_drew (S := (fun U => U.cell? ⟨J, 7, none⟩ = some (.int .i64 N) ∧ U.cell? ⟨K, 0, none⟩ = some (.int .i64 cx) ∧ U.cell? ⟨K, 1, none⟩ = some (.int .i64 cy) ∧ U.cell? ⟨G, 0, none⟩ = some (.int .i64 L))) (by kernel_rfl) HS1.out (fun hHeld => ?_)
    refine wpAnyH_take (i := 0) (oi := ?o0) (v := .pointer (some ⟨J, 0, none⟩)) ?hi0 (by kernel_rfl) (by kernel_rfl) (by kernel_rfl) (fun _ _ _ h => h) ?hy0 hHeld ?rest0
    case hi0 => simp only [List.getElem?_toArray, List.getElem?_cons_zero]; first | done | rfl
    case hy0 => exact Or.inl ⟨by rfl, by intro V hV; obtain ⟨s0, s1, s2, s3⟩ := hV; go_simp⟩
    try simp only [Act.put, List.setIfInBounds_toArray, List.set_cons_zero, List.set_cons_succ]
    refine wpAnyH_take (i := 1) (oi := ?o1) (v := .pointer (some ⟨J, 0, none⟩)) ?hi1 (by kernel_rfl) (by kernel_rfl) (by kernel_rfl) (fun _ _ _ h => h) ?hy1 hHeld ?rest1
    case hi1 => simp only [List.getElem?_toArray, List.getElem?_cons_zero, List.getElem?_cons_succ]; first | done | rfl
    case hy1 => exact Or.inl ⟨by rfl, by intro V hV; obtain ⟨s0, s1, s2, s3⟩ := hV; go_simp⟩
    try simp only [Act.put, List.setIfInBounds_toArray, List.set_cons_zero, List.set_cons_succ]
    refine wpAnyH_take (i := 2) (oi := ?o2) (v := .pointer (some ⟨J, 0, none⟩)) ?hi2 (by kernel_rfl) (by kernel_rfl) (by kernel_rfl) (fun _ _ _ h => h) ?hy2 hHeld ?rest2
    case hi2 => simp only [List.getElem?_toArray, List.getElem?_cons_zero, List.getElem?_cons_succ]; first | done | rfl
    case hy2 => exact Or.inl ⟨by rfl, by intro V hV; obtain ⟨s0, s1, s2, s3⟩ := hV; go_simp⟩
    try simp only [Act.put, List.setIfInBounds_toArray, List.set_cons_zero, List.set_cons_succ]
    refine wpAnyH_take (i := 3) (oi := ?o3) (v := .pointer (some ⟨J, 0, none⟩)) ?hi3 (by kernel_rfl) (by kernel_rfl) (by kernel_rfl) (fun _ _ _ h => h) ?hy3 hHeld ?rest3
    case hi3 => simp only [List.getElem?_toArray, List.getElem?_cons_zero, List.getElem?_cons_succ]; first | done | rfl
    case hy3 => exact Or.inl ⟨by rfl, by intro V hV; obtain ⟨s0, s1, s2, s3⟩ := hV; go_simp⟩
    try simp only [Act.put, List.setIfInBounds_toArray, List.set_cons_zero, List.set_cons_succ]
    refine wpAnyH_take (i := 4) (oi := ?o4) (v := .pointer (some ⟨J, 6, none⟩)) ?hi4 (by kernel_rfl) (by kernel_rfl) (by kernel_rfl) (fun _ _ _ h => h) ?hy4 hHeld ?rest4
    case hi4 => simp only [List.getElem?_toArray, List.getElem?_cons_zero, List.getElem?_cons_succ]; first | done | rfl
    case hy4 => exact Or.inl ⟨by rfl, by intro V hV; obtain ⟨s0, s1, s2, s3⟩ := hV; go_simp⟩
    try simp only [Act.put, List.setIfInBounds_toArray, List.set_cons_zero, List.set_cons_succ]
    refine wpAnyH_take (i := 6) (oi := ?o6) (v := .pointer (some ⟨J, 0, none⟩)) ?hi6 (by kernel_rfl) (by kernel_rfl) (by kernel_rfl) (fun _ _ _ h => h) ?hy6 hHeld ?rest6
    case hi6 => simp only [List.getElem?_toArray, List.getElem?_cons_zero, List.getElem?_cons_succ]; first | done | rfl
    case hy6 => exact Or.inl ⟨by rfl, by intro V hV; obtain ⟨s0, s1, s2, s3⟩ := hV; go_simp⟩
    try simp only [Act.put, List.setIfInBounds_toArray, List.set_cons_zero, List.set_cons_succ]
    refine wpAnyH_take (i := 7) (oi := ?o7) (v := .pointer (some ⟨J, 0, none⟩)) ?hi7 (by kernel_rfl) (by kernel_rfl) (by kernel_rfl) (fun _ _ _ h => h) ?hy7 hHeld ?rest7
    case hi7 => simp only [List.getElem?_toArray, List.getElem?_cons_zero, List.getElem?_cons_succ]; first | done | rfl
    case hy7 => exact Or.inl ⟨by rfl, by intro V hV; obtain ⟨s0, s1, s2, s3⟩ := hV; go_simp⟩
    try simp only [Act.put, List.setIfInBounds_toArray, List.set_cons_zero, List.set_cons_succ]
    refine wpAnyH_take (i := 8) (oi := ?o8) (v := .pointer (some ⟨J, 0, none⟩)) ?hi8 (by kernel_rfl) (by kernel_rfl) (by kernel_rfl) (fun _ _ _ h => h) ?hy8 hHeld ?rest8
    case hi8 => simp only [List.getElem?_toArray, List.getElem?_cons_zero, List.getElem?_cons_succ]; first | done | rfl
    case hy8 => exact Or.inl ⟨by rfl, by intro V hV; obtain ⟨s0, s1, s2, s3⟩ := hV; go_simp⟩
    try simp only [Act.put, List.setIfInBounds_toArray, List.set_cons_zero, List.set_cons_succ]
    refine wpAnyH_take (i := 9) (oi := ?o9) (v := .pointer (some ⟨J, 7, none⟩)) ?hi9 (by kernel_rfl) (by kernel_rfl) (by kernel_rfl) (fun _ _ _ h => h) ?hy9 hHeld ?rest9
    case hi9 => simp only [List.getElem?_toArray, List.getElem?_cons_zero, List.getElem?_cons_succ]; first | done | rfl
    case hy9 => exact Or.inl ⟨by rfl, by intro V hV; obtain ⟨s0, s1, s2, s3⟩ := hV; go_simp⟩
    try simp only [Act.put, List.setIfInBounds_toArray, List.set_cons_zero, List.set_cons_succ]
    refine wpAnyH_take (i := 10) (oi := ?o10) (v := .int .i64 N) ?hi10 (by kernel_rfl) (by kernel_rfl) (by kernel_rfl) (fun _ _ _ h => h) ?hy10 hHeld ?rest10
    case hi10 => simp only [List.getElem?_toArray, List.getElem?_cons_zero, List.getElem?_cons_succ]; first | done | rfl
    case hy10 => exact Or.inl ⟨by rfl, by intro V hV; obtain ⟨s0, s1, s2, s3⟩ := hV; go_simp⟩
    try simp only [Act.put, List.setIfInBounds_toArray, List.set_cons_zero, List.set_cons_succ]
    refine wpAnyH_take (i := 11) (oi := ?o11) (v := .int .i64 (PI : Int)) ?hi11 (by kernel_rfl) (by kernel_rfl) (by kernel_rfl) (fun _ _ _ h => h) ?hy11 hHeld ?rest11
    case hi11 => simp only [List.getElem?_toArray, List.getElem?_cons_zero, List.getElem?_cons_succ]; first | done | rfl
    case hy11 => exact Or.inl ⟨by rfl, by intro V hV; obtain ⟨s0, s1, s2, s3⟩ := hV; go_simp⟩
    try simp only [Act.put, List.setIfInBounds_toArray, List.set_cons_zero, List.set_cons_succ]
    refine wpAnyH_take (i := 12) (oi := ?o12) (v := .int .i64 a) ?hi12 (by kernel_rfl) (by kernel_rfl) (by kernel_rfl) (fun _ _ _ h => h) ?hy12 hHeld ?rest12
    case hi12 => simp only [List.getElem?_toArray, List.getElem?_cons_zero, List.getElem?_cons_succ]; first | done | rfl
    case hy12 => exact Or.inl ⟨by rfl, by intro V hV; obtain ⟨s0, s1, s2, s3⟩ := hV; go_simp⟩
    try simp only [Act.put, List.setIfInBounds_toArray, List.set_cons_zero, List.set_cons_succ]
    refine wpAnyH_take (i := 13) (oi := ?o13) (v := .agg #[.int .i64 cx, .int .i64 cy]) ?hi13 (by kernel_rfl) (by kernel_rfl) (by kernel_rfl) (fun _ _ _ h => h) ?hy13 hHeld ?rest13
    case hi13 => simp only [List.getElem?_toArray, List.getElem?_cons_zero, List.getElem?_cons_succ]; first | done | rfl
    case hy13 => exact Or.inl ⟨by rfl, by intro V hV; obtain ⟨s0, s1, s2, s3⟩ := hV; go_simp⟩
    try simp only [Act.put, List.setIfInBounds_toArray, List.set_cons_zero, List.set_cons_succ]
    refine wpAnyH_take (i := 14) (oi := ?o14) (v := .pointer (some ⟨G, 0, none⟩)) ?hi14 (by kernel_rfl) (by kernel_rfl) (by kernel_rfl) (fun _ _ _ h => h) ?hy14 hHeld ?rest14
    case hi14 => simp only [List.getElem?_toArray, List.getElem?_cons_zero, List.getElem?_cons_succ]; first | done | rfl
    case hy14 => exact Or.inl ⟨by rfl, by intro V hV; obtain ⟨s0, s1, s2, s3⟩ := hV; go_simp⟩
    try simp only [Act.put, List.setIfInBounds_toArray, List.set_cons_zero, List.set_cons_succ]
    refine wpAnyH_take (i := 15) (oi := ?o15) (v := .int .i64 L) ?hi15 (by kernel_rfl) (by kernel_rfl) (by kernel_rfl) (fun _ _ _ h => h) ?hy15 hHeld ?rest15
    case hi15 => simp only [List.getElem?_toArray, List.getElem?_cons_zero, List.getElem?_cons_succ]; first | done | rfl
    case hy15 => exact Or.inl ⟨by rfl, by intro V hV; obtain ⟨s0, s1, s2, s3⟩ := hV; go_simp⟩
    try simp only [Act.put, List.setIfInBounds_toArray, List.set_cons_zero, List.set_cons_succ]
    refine wpAnyH_take (i := 16) (oi := ?o16) (v := .agg #[.int .i64 N, .int .i64 (PI : Int), .int .i64 a, .int .i64 cx, .int .i64 cy, .int .i64 L, .int .i64 0]) ?hi16 (by kernel_rfl) (by kernel_rfl) (by kernel_rfl) (fun _ _ _ h => h) ?hy16 hHeld ?rest16
    case hi16 => simp only [List.getElem?_toArray, List.getElem?_cons_zero, List.getElem?_cons_succ]; first | done | rfl
    case hy16 => exact Or.inl ⟨by rfl, by intro V hV; obtain ⟨s0, s1, s2, s3⟩ := hV; go_simp⟩
    try simp only [Act.put, List.setIfInBounds_toArray, List.set_cons_zero, List.set_cons_succ]
    refine wpAnyH_ready (rs := [5, 17]) (by kernel_rfl) (by simp) ?_
    refine AllReadyH.cons (o := ?oz5) ?hiz5 (fun K hK => ?stepz5) (AllReadyH.cons (o := ?oy17) ?hiy17 (fun K hK => ?stepy17) AllReadyH.nil)
    case hiz5 => simp only [List.getElem?_toArray, List.getElem?_cons_zero, List.getElem?_cons_succ]; first | done | rfl
    case hiy17 => simp only [List.getElem?_toArray, List.getElem?_cons_zero, List.getElem?_cons_succ]; first | done | rfl
    case stepz5 =>
      go_simp
      refine hK.out _ _ HS1.out (fun hHeldz => ?_)
      clear hK K
      try simp only [Act.put, List.setIfInBounds_toArray, List.set_cons_zero, List.set_cons_succ]
      refine wpAnyH_ready (rs := [17]) (by kernel_rfl) (by simp) ?_
      refine AllReadyH.cons (o := ?oz17) ?hiz17 (fun K hK => ?stepz17) AllReadyH.nil
      case hiz17 => simp only [List.getElem?_toArray, List.getElem?_cons_zero, List.getElem?_cons_succ]; first | done | rfl
      go_simp
      refine hK.out _ _ (HS2.out _) (fun hHeldz17 => ?_)
      clear hK K
      try simp only [Act.put, List.setIfInBounds_toArray, List.set_cons_zero, List.set_cons_succ]
      refine wpAnyH_ready (rs := [18]) (by kernel_rfl) (by simp) ?_
      refine AllReadyH.cons (o := ?oz18) ?hiz18 (fun K hK => ?stepz18) AllReadyH.nil
      case hiz18 => simp only [List.getElem?_toArray, List.getElem?_cons_zero, List.getElem?_cons_succ]; first | done | rfl
      refine step_append_run rfl _ _ 26 rfl _ _ rfl rfl HR9.out ?_
      refine hK.out _ _ HS3.out (fun hHeldz18 => ?_)
      clear hK K
      try simp only [Act.put, List.setIfInBounds_toArray, List.set_cons_zero, List.set_cons_succ]
      refine wpAnyH_take (i := 19) (oi := ?oz19) (v := .pointer (some ⟨J, 0, none⟩)) ?hiz19 (by kernel_rfl) (by kernel_rfl) (by kernel_rfl) (fun _ _ _ h => h) ?hyz19 hHeldz18 ?restz19
      case hiz19 => simp only [List.getElem?_toArray, List.getElem?_cons_zero, List.getElem?_cons_succ]; first | done | rfl
      case hyz19 => exact Or.inl ⟨by rfl, by intro V hV; obtain ⟨s0, s1, s2, s3⟩ := hV; go_simp⟩
      try simp only [Act.put, List.setIfInBounds_toArray, List.set_cons_zero, List.set_cons_succ]
      refine wpAnyH_take (i := 20) (oi := ?oz20) (v := .pointer (some ⟨J, 0, none⟩)) ?hiz20 (by kernel_rfl) (by kernel_rfl) (by kernel_rfl) (fun _ _ _ h => h) ?hyz20 hHeldz18 ?restz20
      case hiz20 => simp only [List.getElem?_toArray, List.getElem?_cons_zero, List.getElem?_cons_succ]; first | done | rfl
      case hyz20 => exact Or.inl ⟨by rfl, by intro V hV; obtain ⟨s0, s1, s2, s3⟩ := hV; go_simp⟩
      try simp only [Act.put, List.setIfInBounds_toArray, List.set_cons_zero, List.set_cons_succ]
      refine wpAnyH_take (i := 21) (oi := ?oz21) (v := .pointer (some ⟨J, 6, none⟩)) ?hiz21 (by kernel_rfl) (by kernel_rfl) (by kernel_rfl) (fun _ _ _ h => h) ?hyz21 hHeldz18 ?restz21
      case hiz21 => simp only [List.getElem?_toArray, List.getElem?_cons_zero, List.getElem?_cons_succ]; first | done | rfl
      case hyz21 => exact Or.inl ⟨by rfl, by intro V hV; obtain ⟨s0, s1, s2, s3⟩ := hV; go_simp⟩
      try simp only [Act.put, List.setIfInBounds_toArray, List.set_cons_zero, List.set_cons_succ]
      refine wpAnyH_ready (rs := [22]) (by kernel_rfl) (by simp) ?_
      refine AllReadyH.cons (o := ?oz22) ?hiz22 (fun K hK => ?stepz22) AllReadyH.nil
      case hiz22 => simp only [List.getElem?_toArray, List.getElem?_cons_zero, List.getElem?_cons_succ]; first | done | rfl
      go_simp
      refine hK.out _ _ (by rw [HW10.out]; exact HS4.out) (fun hHeldz22 => ?_)
      clear hK K
      try simp only [Act.put, List.setIfInBounds_toArray, List.set_cons_zero, List.set_cons_succ]
      refine wpAnyH_done (by kernel_rfl) ?_ _
      refine NoPanic.normal ?_
      rw [HW10.out]
      obtain ⟨-, -, -, -, y4, -, -, y7, -, -⟩ := bx10_c10 HSH10.out.1.x
      have y4' : w10.cell? ⟨J, 4, none⟩ = some (.slice (some ⟨gs, 0, none⟩) ns cs) := by rw [← HEQ.out.2.2.2.2.2.1, ← HEQ.out.2.1, ← HEQ.out.2.2.2.2.2.2.2.1]; exact y4
      have y7' : w10.cell? ⟨J, 7, none⟩ = some (.int .i64 N) := by rw [← HEQ.out.2.2.2.1]; exact y7
      have yf := bx10_free HSH10.out.1.x 7
      obtain ⟨g', hg', z1, z2, -, -⟩ := own_cell HSH10.out.1.o.ks (j := PI) (Nat.lt_of_lt_of_eq HPL.out (show s.shp.ls.length = s.lb.length from HO.out.pl.1).symm)
      have eg : g' = gs := by
        have h1 : s.ps = some ⟨g', 0, none⟩ := hg'
        rw [HGSO.out] at h1
        simp at h1
        exact h1.symm
      subst eg
      have z1' : w10.cell? ⟨g', PI, none⟩ = some (.int .i64 Sv) := by rw [← HSV.out]; exact z1
      obtain ⟨-, -, -, u3⟩ := free4 HG10.out
      have ngJ : ¬ g' = J := fun e => nJs e.symm
      have eP : IntKind.i64.wrap (Sv - P) = Sv - P := wrp (by omega) (by omega)
      clear y4 y7 z1 hg'
      go_wp2_with fail
      go_region
      go_wp2_with fail
      go_ret
      have e1 := shop_N HSH10.out (N + 1)
      have e2 := shop_ls e1 (g := g') HGSO.out HLN.out.2.1 PI (Sv - P)
      refine ⟨⟨true, _, rfl, shop_below e2 ?_, ⟨rfl, rfl, rfl, rfl, rfl, rfl, rfl, rfl, rfl, rfl, rfl⟩, .inl ⟨rfl, HMC.out, ⟨cx, cy⟩, HOO.out, ?_⟩⟩, ?_⟩
      · exact (Below.refl _ _).drew
      · unfold makeS makeT Wld.shp
        simp only
        rw [HL.out.1, HL.out.2, Int.toNat_natCast, HSV.out, HEQ.out.2.2.2.1, ← HT.out]
      · have c1 : Ex (shS J b s) V w5.drew := Ex.of_below HB5.out.drew
        have c2 : Ex (shS J b s) V w6 := c1.trans HS6.out.2.2 (fun _ _ e => .inr (.inl e))
        have c3 : Ex (shS J b s) V w10 := c2.trans HE10.out (fun _ _ e => e.elim .inl (fun e => .inr (.inr (.inr (.inr e)))))
        exact Ex.drew (ex_set (ex_set c3 ⟨J, 7, none⟩ (.inl rfl) _) ⟨g', PI, none⟩ (.inr (.inr (.inl (by rw [HGSO.out]; rfl)))) _)
    case stepy17 =>
      go_simp
      refine hK.out _ _ (HS2.out _) (fun hHeldy => ?_)
      clear hK K
      try simp only [Act.put, List.setIfInBounds_toArray, List.set_cons_zero, List.set_cons_succ]
      refine wpAnyH_ready (rs := [5]) (by kernel_rfl) (by simp) ?_
      refine AllReadyH.cons (o := ?oy5) ?hiy5 (fun K hK => ?stepy5) AllReadyH.nil
      case hiy5 => simp only [List.getElem?_toArray, List.getElem?_cons_zero, List.getElem?_cons_succ]; first | done | rfl
      go_simp
      refine hK.out _ _ (HS2.out _) (fun hHeldy5 => ?_)
      clear hK K
      try simp only [Act.put, List.setIfInBounds_toArray, List.set_cons_zero, List.set_cons_succ]
      refine wpAnyH_ready (rs := [18]) (by kernel_rfl) (by simp) ?_
      refine AllReadyH.cons (o := ?oy18) ?hiy18 (fun K hK => ?stepy18) AllReadyH.nil
      case hiy18 => simp only [List.getElem?_toArray, List.getElem?_cons_zero, List.getElem?_cons_succ]; first | done | rfl
      refine step_append_run rfl _ _ 26 rfl _ _ rfl rfl HR9.out ?_
      refine hK.out _ _ HS3.out (fun hHeldy18 => ?_)
      clear hK K
      try simp only [Act.put, List.setIfInBounds_toArray, List.set_cons_zero, List.set_cons_succ]
      refine wpAnyH_take (i := 19) (oi := ?oy19) (v := .pointer (some ⟨J, 0, none⟩)) ?hiy19 (by kernel_rfl) (by kernel_rfl) (by kernel_rfl) (fun _ _ _ h => h) ?hyy19 hHeldy18 ?resty19
      case hiy19 => simp only [List.getElem?_toArray, List.getElem?_cons_zero, List.getElem?_cons_succ]; first | done | rfl
      case hyy19 => exact Or.inl ⟨by rfl, by intro V hV; obtain ⟨s0, s1, s2, s3⟩ := hV; go_simp⟩
      try simp only [Act.put, List.setIfInBounds_toArray, List.set_cons_zero, List.set_cons_succ]
      refine wpAnyH_take (i := 20) (oi := ?oy20) (v := .pointer (some ⟨J, 0, none⟩)) ?hiy20 (by kernel_rfl) (by kernel_rfl) (by kernel_rfl) (fun _ _ _ h => h) ?hyy20 hHeldy18 ?resty20
      case hiy20 => simp only [List.getElem?_toArray, List.getElem?_cons_zero, List.getElem?_cons_succ]; first | done | rfl
      case hyy20 => exact Or.inl ⟨by rfl, by intro V hV; obtain ⟨s0, s1, s2, s3⟩ := hV; go_simp⟩
      try simp only [Act.put, List.setIfInBounds_toArray, List.set_cons_zero, List.set_cons_succ]
      refine wpAnyH_take (i := 21) (oi := ?oy21) (v := .pointer (some ⟨J, 6, none⟩)) ?hiy21 (by kernel_rfl) (by kernel_rfl) (by kernel_rfl) (fun _ _ _ h => h) ?hyy21 hHeldy18 ?resty21
      case hiy21 => simp only [List.getElem?_toArray, List.getElem?_cons_zero, List.getElem?_cons_succ]; first | done | rfl
      case hyy21 => exact Or.inl ⟨by rfl, by intro V hV; obtain ⟨s0, s1, s2, s3⟩ := hV; go_simp⟩
      try simp only [Act.put, List.setIfInBounds_toArray, List.set_cons_zero, List.set_cons_succ]
      refine wpAnyH_ready (rs := [22]) (by kernel_rfl) (by simp) ?_
      refine AllReadyH.cons (o := ?oy22) ?hiy22 (fun K hK => ?stepy22) AllReadyH.nil
      case hiy22 => simp only [List.getElem?_toArray, List.getElem?_cons_zero, List.getElem?_cons_succ]; first | done | rfl
      go_simp
      refine hK.out _ _ (by rw [HW10.out]; exact HS4.out) (fun hHeldy22 => ?_)
      clear hK K
      try simp only [Act.put, List.setIfInBounds_toArray, List.set_cons_zero, List.set_cons_succ]
      refine wpAnyH_done (by kernel_rfl) ?_ _
      refine NoPanic.normal ?_
      rw [HW10.out]
      obtain ⟨-, -, -, -, y4, -, -, y7, -, -⟩ := bx10_c10 HSH10.out.1.x
      have y4' : w10.cell? ⟨J, 4, none⟩ = some (.slice (some ⟨gs, 0, none⟩) ns cs) := by rw [← HEQ.out.2.2.2.2.2.1, ← HEQ.out.2.1, ← HEQ.out.2.2.2.2.2.2.2.1]; exact y4
      have y7' : w10.cell? ⟨J, 7, none⟩ = some (.int .i64 N) := by rw [← HEQ.out.2.2.2.1]; exact y7
      have yf := bx10_free HSH10.out.1.x 7
      obtain ⟨g', hg', z1, z2, -, -⟩ := own_cell HSH10.out.1.o.ks (j := PI) (Nat.lt_of_lt_of_eq HPL.out (show s.shp.ls.length = s.lb.length from HO.out.pl.1).symm)
      have eg : g' = gs := by
        have h1 : s.ps = some ⟨g', 0, none⟩ := hg'
        rw [HGSO.out] at h1
        simp at h1
        exact h1.symm
      subst eg
      have z1' : w10.cell? ⟨g', PI, none⟩ = some (.int .i64 Sv) := by rw [← HSV.out]; exact z1
      obtain ⟨-, -, -, u3⟩ := free4 HG10.out
      have ngJ : ¬ g' = J := fun e => nJs e.symm
      have eP : IntKind.i64.wrap (Sv - P) = Sv - P := wrp (by omega) (by omega)
      clear y4 y7 z1 hg'
      go_wp2_with fail
      go_region
      go_wp2_with fail
      go_ret
      have e1 := shop_N HSH10.out (N + 1)
      have e2 := shop_ls e1 (g := g') HGSO.out HLN.out.2.1 PI (Sv - P)
      refine ⟨⟨true, _, rfl, shop_below e2 ?_, ⟨rfl, rfl, rfl, rfl, rfl, rfl, rfl, rfl, rfl, rfl, rfl⟩, .inl ⟨rfl, HMC.out, ⟨cx, cy⟩, HOO.out, ?_⟩⟩, ?_⟩
      · exact (Below.refl _ _).drew
      · unfold makeS makeT Wld.shp
        simp only
        rw [HL.out.1, HL.out.2, Int.toNat_natCast, HSV.out, HEQ.out.2.2.2.1, ← HT.out]
      · have c1 : Ex (shS J b s) V w5.drew := Ex.of_below HB5.out.drew
        have c2 : Ex (shS J b s) V w6 := c1.trans HS6.out.2.2 (fun _ _ e => .inr (.inl e))
        have c3 : Ex (shS J b s) V w10 := c2.trans HE10.out (fun _ _ e => e.elim .inl (fun e => .inr (.inr (.inr (.inr e)))))
        exact Ex.drew (ex_set (ex_set c3 ⟨J, 7, none⟩ (.inl rfl) _) ⟨g', PI, none⟩ (.inr (.inr (.inl (by rw [HGSO.out]; rfl)))) _)
end Go.Proofs.Ytdcjjfipnilmpaa
