/- Which cells are beside a cell; the cheapest stop is taken. -/
import Derived.Test.YtkdammmikmljmaaFa
import Derived.Test.YtkdammmikmljmaaHd
import Derived.Laws.ResultCell
namespace Go.Proofs.Ytkdammmikmljmaa
open Go.RowKit
set_option linter.unusedVariables false

/-- The cells beside one, as an array. -/
def bes (X Y : Int) : Value := .agg #[.int .i64 X, .int .i64 (Y - 1), .int .i64 (X - 1), .int .i64 Y, .int .i64 (X + 1), .int .i64 Y, .int .i64 X, .int .i64 (Y + 1)]
def bX (X : Int) (k : Nat) : Int := if k = 1 then X - 1 else if k = 2 then X + 1 else X
def bY (Y : Int) (k : Nat) : Int := if k = 0 then Y - 1 else if k = 3 then Y + 1 else Y
theorem bes_at (X Y : Int) (k : Nat) (hk : k < 4) (w : World) : (Instr.index 72 (bes X Y) (.int .i64 (k : Int))).run Try.prog w = .ok (.agg #[.int .i64 (bX X k), .int .i64 (bY Y k)]) w := by
  match k, hk with
  | 0, _ => simp [Instr.index, Go.part, go_sem, bes, bX, bY]
  | 1, _ => simp [Instr.index, Go.part, go_sem, bes, bX, bY]
  | 2, _ => simp [Instr.index, Go.part, go_sem, bes, bX, bY]
  | 3, _ => simp [Instr.index, Go.part, go_sem, bes, bX, bY]
set_option maxRecDepth 20000 in
set_option maxHeartbeats 1000000 in
theorem beside_any (X Y : Nat) (w : World) (hX : X ≤ 1000000) (hY : Y ≤ 1000000) :
    Calls Try.prog 47 #[.agg #[.int .i64 (X : Int), .int .i64 (Y : Int)]] w fun e w' => e = .returned (bes X Y) ∧ Below w.heap.size w w' := by
  go_enter Try.func47, Try.ntmps47
  go_wp2_with fail
  go_returns
  exact ⟨rfl, (alloc_below w _).alloc (by simp) _⟩

set_option maxRecDepth 20000 in
set_option maxHeartbeats 1000000 in
theorem next_any (B T : Nat) (a b c d v : Value) (Q : List Stop) (n : Nat) (w : World) (ht : tbx T w a b c d v) (hq : que B w v Q) (hn : Q.length = n + 1) (hT : T < B) (hB : B ≤ w.heap.size) (hl : n < 1000000) (hh : hp Q.length Q) :
    Calls Try.prog 34 #[.pointer (some ⟨T, 4, none⟩)] w fun e w' => ∃ (s : Stop) (v' : Value) (Q' : List Stop), e = .returned (.agg #[.int .i64 s.x, .int .i64 s.y, .int .i64 s.c]) ∧ tbx T w' a b c d v' ∧ que B w' v' Q' ∧ Q.Perm (s :: Q') ∧ hp Q'.length Q' ∧ (∀ t ∈ Q', s.c ≤ t.c) ∧ Ex (fun k => k = T ∨ some k = v.ownBlock) w w' ∧ v'.ownBlock = v.ownBlock := by
  have HT : Hid (tbx T w a b c d v) := ht
  have HQ : Hid (que B w v Q) := hq
  have HN : Hid (Q.length = n + 1) := hn
  have HH : Hid (hp Q.length Q) := hh
  have hTl := tbx_lt ht
  have hgl := World.ownsRow.lt hq
  have HG : Hid (∀ k, v.ownBlock = some k → B ≤ k ∧ k < w.heap.size) := hgl
  clear ht hq hn hh hgl
  have ta := ta_stop
  go_enter Try.func34, Try.ntmps34
  go_wp2_with fail
  obtain ⟨w0, hw0⟩ : ∃ w0, w.alloc (.cells #[.int .i64 0, .int .i64 0, .int .i64 0] 68) = w0 := ⟨_, rfl⟩
  have hB0 : Below w.heap.size w w0 := by rw [← hw0]; exact alloc_below _ _
  have hs0 : w0.heap.size = w.heap.size + 1 := by rw [← hw0]; simp
  have hr0 : w0.heap[w.heap.size]? = some (.cells #[.int .i64 0, .int .i64 0, .int .i64 0] 68) := by rw [← hw0]; exact World.alloc_heap_new _ _
  rw [hw0]
  clear hw0
  have E0 : Ex (fun _ => False) w w0 := Ex.of_below hB0
  refine (hPop_any B T a b c d v Q n w0 (tbx_kept HT.out E0 (fun e => e)) (que_kept HQ.out E0 (fun _ _ e => e)) HN.out hT hl HH.out).mono ?_
  rintro e w1 ⟨s, v', Q', rfl, ht1, hq1, hp1, hh1, hm1, he1, ho1⟩
  have hr1 : w1.heap[w.heap.size]? = some (.cells #[.int .i64 0, .int .i64 0, .int .i64 0] 68) := by
    rw [he1.block w.heap.size (by omega) (fun e => e.elim (by omega) (fun e => by have := (HG.out _ e.symm).2; omega))]; exact hr0
  have r0 : w1.cell? ⟨w.heap.size, 0, none⟩ = some (.int .i64 0) ∧ w1.cell? ⟨w.heap.size, 1, none⟩ = some (.int .i64 0) ∧ w1.cell? ⟨w.heap.size, 2, none⟩ = some (.int .i64 0) ∧ w1.frozen? ⟨w.heap.size, 0, none⟩ = false ∧ w1.frozen? ⟨w.heap.size, 1, none⟩ = false ∧ w1.frozen? ⟨w.heap.size, 2, none⟩ = false := by simp [World.cell?, World.frozen?, hr1]
  obtain ⟨r0, r1, r2, r3, r4, r5⟩ := r0
  have HR1 : Hid (w1.heap[w.heap.size]? = some (.cells #[.int .i64 0, .int .i64 0, .int .i64 0] 68)) := hr1
  have HT1 : Hid _ := ht1
  have HQ1 : Hid _ := hq1
  have HE1 : Hid (Ex (fun k => k = T ∨ some k = v.ownBlock) w w1) := (E0.mono (S' := fun k => k = T ∨ some k = v.ownBlock) (fun _ _ e => e.elim)).trans he1 (fun _ _ e => e)
  have HR : Hid (Q.Perm (s :: Q') ∧ hp Q'.length Q' ∧ (∀ t ∈ Q', s.c ≤ t.c) ∧ v'.ownBlock = v.ownBlock) := ⟨hp1, hh1, hm1, ho1⟩
  clear ht1 hq1 he1 hp1 hh1 hm1 ho1 hr1 hr0 hB0 E0
  go_wp2_with fail
  obtain ⟨V, hV⟩ : ∃ V, ((w1.setCell ⟨w.heap.size, 0, none⟩ (.int .i64 s.x)).setCell ⟨w.heap.size, 1, none⟩ (.int .i64 s.y)).setCell ⟨w.heap.size, 2, none⟩ (.int .i64 s.c) = V := ⟨_, rfl⟩
  rw [hV]
  have k2 := set3 HR1.out V hV.symm
  have EV : Ex (fun k => k = w.heap.size) w1 V := by
    rw [← hV]
    have E1 := fun (V : World) (p : Addr) (u : Value) (hp : p.block = w.heap.size) => Ex.set (S := fun k => k = w.heap.size) V p hp u
    exact ((E1 w1 _ _ rfl).trans (E1 _ _ _ rfl) (fun _ _ e => e)).trans (E1 _ _ _ rfl) (fun _ _ e => e)
  refine ⟨by simp, .agg #[.int .i64 s.x, .int .i64 s.y, .int .i64 s.c], ?_, s, v', Q', rfl, ?_, ?_, HR.out.1, HR.out.2.1, HR.out.2.2.1, ?_, HR.out.2.2.2⟩
  · simp [results, Try.f34, go_sem, k2.1, k2.2.1, k2.2.2.1]
  · exact tbx_kept HT1.out EV (by omega)
  · refine que_kept HQ1.out EV (fun g hg e => ?_)
    have := (HG.out g (HR.out.2.2.2.symm.trans hg)).2; omega
  · exact HE1.out.trans EV (fun i hi e => by omega)
end Go.Proofs.Ytkdammmikmljmaa
