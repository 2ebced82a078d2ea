/- What goods.do does. -/
import Derived.Test.YtdcjjfipnilmpaaGa
namespace Go.Proofs.Ytdcjjfipnilmpaa
open Go.RowKit Go.Maps
set_option linter.unusedVariables false

section
variable {W H : Nat} {l : List Int} {lb : List Cel} {s s' : Shp} {d : Ded} {r : Bool}
theorem ds_mine (hk : d.k = 1) (h : mineO W H s s' d.w d.x d.y r) : Ds W H l lb s d s' r := by
  rcases h with ⟨rfl, k, t, h1, h2, h3, rfl⟩ | ⟨rfl, rfl, h⟩
  · exact .inl ⟨rfl, .mine hk h1 h2 h3⟩
  · refine .inr ⟨rfl, rfl, fun s2 hd => ?_⟩
    cases hd with
    | mine a1 a2 a3 a4 => exact h _ _ a2 a3 a4
    | drop a1 => omega
    | make a1 => omega
theorem ds_drop (hk : d.k = 2) (h : dropO lb s s' d.w r) : Ds W H l lb s d s' r := by
  rcases h with ⟨rfl, k, t, h1, h2, h3, rfl⟩ | ⟨rfl, rfl, h⟩
  · exact .inl ⟨rfl, .drop hk h1 h2 h3⟩
  · refine .inr ⟨rfl, rfl, fun s2 hd => ?_⟩
    cases hd with
    | mine a1 => omega
    | drop a1 a2 a3 a4 => exact h _ _ a2 a3 a4
    | make a1 => omega
theorem ds_make (hk : d.k = 3) (h : makeO W H l lb s s' d.w d.a r) : Ds W H l lb s d s' r := by
  rcases h with ⟨rfl, h1, c, h2, rfl⟩ | ⟨rfl, rfl, h⟩
  · exact .inl ⟨rfl, .make hk h1 h2⟩
  · refine .inr ⟨rfl, rfl, fun s2 hd => ?_⟩
    cases hd with
    | mine a1 => omega
    | drop a1 => omega
    | make a1 a2 a3 => exact h _ a2 a3
theorem ds_none (h1 : ¬ d.k = 1) (h2 : ¬ d.k = 2) (h3 : ¬ d.k = 3) : Ds W H l lb s d s false := by
  refine .inr ⟨rfl, rfl, fun s2 hd => ?_⟩
  cases hd with
  | mine a1 => exact h1 a1
  | drop a1 => exact h2 a1
  | make a1 => exact h3 a1
end
theorem oks_ids {W H : Nat} {s : Wld} (ho : oks W H s.l s.lb s.shp) : ∀ t ∈ s.lt, fits t.i := fun t ht => by
  obtain ⟨k, hk, rfl⟩ := List.getElem_of_mem ht
  have h1 := ho.tr.1 k hk
  have h2 : s.lt[k].i < s.N := h1.2.1
  have h3 : s.N ≤ 1000000 := ho.n2
  have h4 : 1 ≤ s.lt[k].i := h1.1
  unfold fits; omega
def dv (d : Ded) : Value := .agg #[.int .i64 d.k, .int .i64 d.w, .int .i64 d.x, .int .i64 d.y, .int .i64 d.a]
set_option maxRecDepth 20000 in
set_option maxHeartbeats 4000000 in
theorem do_at (B J b W H : Nat) (s : Wld) (d : Ded) (V : World) (h : shop B J b V s) (ho : oks W H s.l s.lb s.shp) (hA : s.A = W) (hB : s.B = H) (fd : fitd d) :
    Calls Try.prog 31 #[.pointer (some ⟨J, 0, none⟩), dv d] V fun e w' => resO B J b s (fun s' r => Ds W H s.l s.lb s.shp d s' r) e w' ∧ Ex (shS J b s) V w' := by
  obtain ⟨F, hF⟩ : ∃ F, V.heap.size = F := ⟨_, rfl⟩
  obtain ⟨dk, dw, dx, dy, da⟩ := d
  unfold dv
  dsimp only
  obtain ⟨w0, hw0⟩ : ∃ w0, V.alloc (.cells #[.int .i64 dk, .int .i64 dw, .int .i64 dx, .int .i64 dy, .int .i64 da] 52) = w0 := ⟨_, rfl⟩
  have hb0 : Below V.heap.size V w0 := by rw [← hw0]; exact alloc_below _ _
  have e0 : w0.heap[F]? = some (.cells #[.int .i64 dk, .int .i64 dw, .int .i64 dx, .int .i64 dy, .int .i64 da] 52) := by rw [← hw0, ← hF]; exact World.alloc_heap_new V _
  have q0 : w0.cell? ⟨F, 0, none⟩ = some (.int .i64 dk) := by simp [World.cell?, e0]
  have q1 : w0.cell? ⟨F, 1, none⟩ = some (.int .i64 dw) := by simp [World.cell?, e0]
  have q2 : w0.cell? ⟨F, 2, none⟩ = some (.int .i64 dx) := by simp [World.cell?, e0]
  have q3 : w0.cell? ⟨F, 3, none⟩ = some (.int .i64 dy) := by simp [World.cell?, e0]
  have q4 : w0.cell? ⟨F, 4, none⟩ = some (.int .i64 da) := by simp [World.cell?, e0]
  have hs0 := shop_below h hb0
  have HE0 : Hid (Ex (shS J b s) V w0) := Ex.of_below hb0
  have HS0 : Hid (shop B J b w0 s) := hs0
  have HM : Hid (Calls Try.prog 45 #[.pointer (some ⟨J, 0, none⟩), .int .i64 dw, .agg #[.int .i64 dx, .int .i64 dy]] w0 fun e w' => resO B J b s (fun s' r => mineO W H s.shp s' dw dx dy r) e w' ∧ Ex (shS J b s) w0 w') := mine_at B J b W H s dw dx dy w0 hs0 ho hA hB fd.2.1
  have HD : Hid (Calls Try.prog 46 #[.pointer (some ⟨J, 0, none⟩), .int .i64 dw] w0 fun e w' => resO B J b s (fun s' r => dropO s.lb s.shp s' dw r) e w' ∧ Ex (shS J b s) w0 w') := drop_at B J b W H s dw w0 hs0 ho hA hB fd.2.1
  have HK : Hid (Calls Try.prog 47 #[.pointer (some ⟨J, 0, none⟩), .int .i64 dw, .int .i64 da] w0 fun e w' => resO B J b s (fun s' r => makeO W H s.l s.lb s.shp s' dw da r) e w' ∧ Ex (shS J b s) w0 w') := by
    by_cases ha : da = 1 ∨ da = 2
    · exact make_at B J b W H s dw da w0 hs0 ho hA hB (oks_ids ho) ha
    · exact make_no B J b W H s dw da w0 hs0 ha
  clear h ho hA hB fd hb0 e0 hs0
  by_cases h1 : dk = 1
  · subst h1
    go_enter Try.func31, Try.ntmps31
    go_wp2_with fail
    refine Calls.mono HM.out ?_
    rintro e w1 ⟨⟨r, s', rfl, hsh, hlk, hO⟩, he⟩
    have HR : Hid (shop B J b w1 s' ∧ likes s s' ∧ mineO W H s.shp s'.shp dw dx dy r ∧ Ex (shS J b s) w0 w1) := ⟨hsh, hlk, hO, he⟩
    clear hsh hlk hO he q0 q1 q2 q3 q4 hw0
    go_wp2_with fail
    go_ret
    exact ⟨⟨r, s', rfl, HR.out.1, HR.out.2.1, ds_mine rfl HR.out.2.2.1⟩, HE0.out.trans HR.out.2.2.2 (fun _ _ e => e)⟩
  by_cases h2 : dk = 2
  · subst h2
    go_enter Try.func31, Try.ntmps31
    go_wp2_with fail
    refine Calls.mono HD.out ?_
    rintro e w1 ⟨⟨r, s', rfl, hsh, hlk, hO⟩, he⟩
    have HR : Hid (shop B J b w1 s' ∧ likes s s' ∧ dropO s.lb s.shp s'.shp dw r ∧ Ex (shS J b s) w0 w1) := ⟨hsh, hlk, hO, he⟩
    clear hsh hlk hO he q0 q1 q2 q3 q4 hw0
    go_wp2_with fail
    go_ret
    exact ⟨⟨r, s', rfl, HR.out.1, HR.out.2.1, ds_drop rfl HR.out.2.2.1⟩, HE0.out.trans HR.out.2.2.2 (fun _ _ e => e)⟩
  by_cases h3 : dk = 3
  · subst h3
    go_enter Try.func31, Try.ntmps31
    go_wp2_with fail
    refine Calls.mono HK.out ?_
    rintro e w1 ⟨⟨r, s', rfl, hsh, hlk, hO⟩, he⟩
    have HR : Hid (shop B J b w1 s' ∧ likes s s' ∧ makeO W H s.l s.lb s.shp s'.shp dw da r ∧ Ex (shS J b s) w0 w1) := ⟨hsh, hlk, hO, he⟩
    clear hsh hlk hO he q0 q1 q2 q3 q4 hw0
    go_wp2_with fail
    go_ret
    exact ⟨⟨r, s', rfl, HR.out.1, HR.out.2.1, ds_make rfl HR.out.2.2.1⟩, HE0.out.trans HR.out.2.2.2 (fun _ _ e => e)⟩
  have n1 : (dk == 1) = false := by simp [h1]
  have n2 : (dk == 2) = false := by simp [h2]
  have n3 : (dk == 3) = false := by simp [h3]
  have HN : Hid (Ds W H s.l s.lb s.shp ⟨dk, dw, dx, dy, da⟩ s.shp false) := ds_none h1 h2 h3
  go_enter Try.func31, Try.ntmps31
  go_wp2_with fail
  go_ret
  exact ⟨⟨false, s, rfl, HS0.out, likes.refl s, HN.out⟩, HE0.out⟩
end Go.Proofs.Ytdcjjfipnilmpaa
