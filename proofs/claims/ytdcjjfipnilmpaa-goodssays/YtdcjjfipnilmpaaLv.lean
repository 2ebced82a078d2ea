/- What goodsLives returns: something is mined, and someone made. -/
import Derived.Test.YtdcjjfipnilmpaaWo
import Derived.Test.YtdcjjfipnilmpaaEb
import Derived.Test.YtdcjjfipnilmpaaSw
namespace Go.Proofs.Ytdcjjfipnilmpaa
open Go.RowKit
set_option linter.unusedVariables false

def lv0 : Shp := ⟨[20], [0, 0, 9], [⟨1, 0, 1, 1, 0, 10, 0⟩], 2⟩
def lv1 : Shp := ⟨[20], [0, 0, 8], [⟨1, 0, 1, 1, 0, 10, 1⟩], 2⟩
def lv2 : Shp := ⟨[8], [0, 0, 8], [⟨1, 0, 1, 1, 0, 10, 1⟩, ⟨2, 0, 2, 0, 0, 20, 0⟩], 3⟩
theorem dd_lv1 : Dd 3 1 [0, 0, 3] [⟨0, 0⟩] lv0 ⟨1, 1, 2, 0, 0⟩ lv1 :=
  Dd.mine (k := 0) (t := ⟨1, 0, 1, 1, 0, 10, 0⟩) rfl rfl rfl ⟨by decide, by decide, rfl, by decide, by decide⟩
theorem dd_lv2 : Dd 3 1 [0, 0, 3] [⟨0, 0⟩] lv1 ⟨3, 0, 0, 0, 2⟩ lv2 :=
  Dd.make (c := ⟨0, 0⟩) rfl ⟨.inr rfl, by decide, by decide, by decide, by decide, by decide⟩ rfl
theorem dr_lives : Dr 3 1 [0, 0, 3] [⟨0, 0⟩] lv0 [⟨1, 1, 2, 0, 0⟩, ⟨3, 0, 0, 0, 2⟩] lv2 [true, true] :=
  Dr.more (ds := [⟨1, 1, 2, 0, 0⟩]) (bs := [true]) (Dr.more (ds := []) (bs := []) .zero (.inl ⟨rfl, dd_lv1⟩)) (.inl ⟨rfl, dd_lv2⟩)
set_option maxRecDepth 20000 in
set_option maxHeartbeats 4000000 in
theorem glives_any (w : World) : Calls Try.prog 16 #[] w fun e w' => e = .returned (.bool true) ∧ Below w.heap.size w w' := by
  go_enter Try.func16, Try.ntmps16
  go_wp2_with fail
  refine (small_any w).mono ?_
  rintro e w1 ⟨⟨F, rfl, hf, hF, -, -⟩, hb1⟩
  obtain ⟨w2, hw2⟩ : ∃ w2, w1.alloc (.cells #[.int .i64 1, .int .i64 1, .int .i64 2, .int .i64 0, .int .i64 0, .int .i64 3, .int .i64 0, .int .i64 0, .int .i64 0, .int .i64 2] 52) = w2 := ⟨_, rfl⟩
  have b12 : Below w1.heap.size w1 w2 := by rw [← hw2]; exact alloc_below _ _
  have hg2 : dor w2 (some ⟨w1.heap.size, 0, none⟩) [⟨1, 1, 2, 0, 0⟩, ⟨3, 0, 0, 0, 2⟩] := by rw [← hw2]; exact dor_heap (World.alloc_heap_new w1 _)
  have hf2 := Wld.fit_below hf b12
  have HST : Hid (Calls Try.prog 9 #[(smw F).val, .slice (some ⟨w1.heap.size, 0, none⟩) 2 2] w2 fun e w' => (∃ (s' : Wld) (gp : Option Addr) (gc : Nat), e = .returned (.tuple #[s'.val, .slice gp 2 gc, .int .i64 0]) ∧ row vbl w' gp [true, true] ∧ wown w2.heap.size w' s' ∧ s'.ls = [8] ∧ s'.lm = [0, 0, 8] ∧ s'.lt = [⟨1, 0, 1, 1, 0, 10, 1⟩, ⟨2, 0, 2, 0, 0, 20, 0⟩]) ∧ Below w2.heap.size w2 w') := by
    refine (Do_ok (smw F) 3 1 (some ⟨w1.heap.size, 0, none⟩) 2 2 [⟨1, 1, 2, 0, 0⟩, ⟨3, 0, 0, 0, 2⟩] w2 hf2 (smw_ok F) hg2 (fun t ht => by simp at ht; rcases ht with rfl | rfl <;> (unfold fitd fits; simp)) rfl (by decide)).mono ?_
    rintro e w' ⟨⟨s', gp, gc, bs, rfl, h1, h2, h3, h4⟩, hb⟩
    obtain ⟨e1, e2⟩ := dr_one (okw_oks (smw_ok F) rfl rfl) h4 dr_lives
    subst e2
    have f1 : s'.ls = lv2.ls := congrArg Shp.ls e1
    have f2 : s'.lm = lv2.lm := congrArg Shp.lm e1
    have f3 : s'.lt = lv2.lt := congrArg Shp.lt e1
    exact ⟨⟨s', gp, gc, rfl, h1, h2, f1, f2, f3⟩, hb⟩
  have HB2 : Hid (Below w.heap.size w w2) := below_call hb1 hb1.size b12
  clear hf hF hb1 b12 hg2 hf2
  unfold smw Wld.val at *
  dsimp only at *
  go_wp2_with fail
  refine Calls.mono HST.out ?_
  rintro e w3 ⟨⟨s', gp, gc, rfl, hr, how, hls, hlm, hlt⟩, hb3⟩
  obtain ⟨A', B', p', n', c', l', pb', nb', cb', lb', ps', ns', cs', ls', pm', nm', cm', lm', pt', nt', ct', lt', N', T'⟩ := s'
  dsimp only at hls hlm hlt
  subst hls hlm hlt
  have k1 := (own_parts how.ks).1
  have k2 := (own_parts how.km).1
  have k3 := (own_parts how.kt).1
  simp only [List.length_cons, List.length_nil, Nat.zero_add] at k1 k2 k3
  subst k1 k2 k3
  obtain ⟨J, hJ⟩ : ∃ J, w3.heap.size = J := ⟨_, rfl⟩
  obtain ⟨w4, hw4⟩ : ∃ w4, w3.alloc (.cells #[.int .i64 A', .int .i64 B', .slice p' n' c', .slice pb' nb' cb', .slice ps' 1 cs', .slice pm' 3 cm', .slice pt' 2 ct', .int .i64 N', .int .i64 T'] 28) = w4 := ⟨_, rfl⟩
  have b34 : Below w3.heap.size w3 w4 := by rw [← hw4]; exact alloc_below _ _
  have x4 : bx9 w4 J (.int .i64 A') (.int .i64 B') (.slice p' n' c') (.slice pb' nb' cb') (.slice ps' 1 cs') (.slice pm' 3 cm') (.slice pt' 2 ct') (.int .i64 N') (.int .i64 T') := by rw [← hw4, ← hJ]; exact box9_new _ _ _ _ _ _ _ _ _ _
  have HX4 : Hid (bx9 w4 J (.int .i64 A') (.int .i64 B') (.slice p' n' c') (.slice pb' nb' cb') (.slice ps' 1 cs') (.slice pm' 3 cm') (.slice pt' 2 ct') (.int .i64 N') (.int .i64 T')) := x4
  have HM4 : Hid (minet w2.heap.size w4 (.slice pt' 2 ct') [⟨1, 0, 1, 1, 0, 10, 1⟩, ⟨2, 0, 2, 0, 0, 20, 0⟩]) := minet_kept how.kt b34
  have HL4 : Hid (mine 3 vi w2.heap.size w4 (.slice ps' 1 cs') [8]) := mine_below how.ks b34
  have HN4 : Hid (mine 3 vi w2.heap.size w4 (.slice pm' 3 cm') [0, 0, 8]) := mine_below how.km b34
  have HR4 : Hid (row vbl w4 gp [true, true]) := row_below hr b34
  have HB4 : Hid (Below w.heap.size w w4) := below_call (below_call HB2.out HB2.out.size hb3) (Nat.le_trans HB2.out.size hb3.size) b34
  obtain ⟨g, rfl⟩ := minet_ptr HM4.out rfl (by decide)
  obtain ⟨g2, rfl, -, -, -, -⟩ := own_cell HL4.out (j := 0) (by decide)
  obtain ⟨g3, rfl, -, -, -, -⟩ := own_cell HN4.out (j := 2) (by decide)
  clear hr how hb3 b34 x4
  go_wp2_with fail
  refine (Equalv_b _ _ 2 _ _ [true, true] _ rfl (by decide) (row_below HR4.out (alloc_below _ _)) (row_heap (L := [true, true]) (World.alloc_heap_new w4 _))).mono ?_
  rintro e w5 ⟨rfl, hb5⟩
  have hB45 : Below w4.heap.size w4 w5 := (alloc_below w4 _).trans (hb5.mono (by simp))
  have HB5 : Hid (Below w.heap.size w w5) := below_call HB4.out HB4.out.size hB45
  obtain ⟨-, -, -, -, z4, z5, z6, -, -⟩ := bx9_c9 (bx9_below HX4.out hB45)
  obtain ⟨c0, c1, c2, c3, c4, c5, c6⟩ := minet_at (minet_kept HM4.out hB45) rfl (k := 0) (t := ⟨1, 0, 1, 1, 0, 10, 1⟩) rfl
  simp only [Nat.zero_mul, Nat.zero_add] at c6
  have d8 := mine_cell (mine_below HL4.out hB45) rfl (k := 0) (by decide) (x := 8) rfl
  have e8 := mine_cell (mine_below HN4.out hB45) rfl (k := 2) (by decide) (x := 8) rfl
  have d8' : w5.cell? ⟨g2, 0, none⟩ = some (.int .i64 8) := d8
  have e8' : w5.cell? ⟨g3, 2, none⟩ = some (.int .i64 8) := e8
  clear hb5 hB45 hw4 hw2 d8 e8
  go_wp2_with fail
  go_ret
  exact ⟨rfl, HB5.out⟩
end Go.Proofs.Ytdcjjfipnilmpaa
