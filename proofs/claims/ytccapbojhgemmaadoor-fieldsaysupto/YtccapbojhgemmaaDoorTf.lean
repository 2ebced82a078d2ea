/- What the document's own answer reads of a text. -/
import Derived.Test.YtccapbojhgemmaaDoorTfm
import Derived.Test.YtccapbojhgemmaaDoorRef
namespace Go.Proofs.YtccapbojhgemmaaDoor
open Go.RowKit
set_option linter.unusedVariables false
variable {α : Type}

/-- Append of one, and where what comes of it lies. -/
theorem list_lies {T E : TypeId} {f : α → Value} {z : Value} {by_ : Nat} (hk : Kd T E f z by_) {ops : Array Oper} {rest : List Oper} {o : Oper} {a : Act} {Q : Exit → Act → World → Prop} (w : World) (hgd : o.guard = none) (s x : Operand)
    (ho : o.op = .call { callee := .builtin .append, args := #[s, x], argTypes := #[T, T] })
    (B : Nat) (v : Value) (L : List α) (hs : a.eval s = v) (hown : mine E f B w v L) (ad : Addr) (c : Nat) (X : α) (hx : a.eval x = .slice (some ad) 1 c) (hcell : w.cell? ad = some (f X)) (hl : L.length ≤ 1000000) (hB : B ≤ w.heap.size)
    (h : ∀ g cap w', mine E f B w' (.slice (some ⟨g, 0, none⟩) (L.length + 1) cap) (L ++ [X]) → w.grownBy w' v.ownBlock → (v.ownBlock = some g ∨ g = w.heap.size) → wpList Tryd.prog ops Q rest (a.put o.dst (.slice (some ⟨g, 0, none⟩) (L.length + 1) cap)) w') :
    wpList Tryd.prog ops Q (o :: rest) a w := by
  obtain ⟨i0, hi, hz0, hz1, hz2⟩ := info_parts hk.hi
  have hby := hk.hb
  refine wpList_append_lies w hgd s x T ho B E i0 z 1 by_ hk.ht hi hz0 hz1 hz2 hk.hz (by decide) v L.length (L.map f) hs hown ad 1 c ([X].map f) hx rfl (one_at hcell) (by intro u hu; obtain ⟨y, _, rfl⟩ := List.mem_map.1 hu; exact hk.hf y) (by decide) (by unfold maxLen; omega) ?_ hB _ rfl ?_
  · have : (L.length + 1) * by_ ≤ (L.length + 1) * 16 := Nat.mul_le_mul_left _ hby
    omega
  intro g cap w' h1 h2 h3 h4
  refine h g cap w' ?_ h2 h3
  unfold mine
  rw [List.map_append, List.length_append]; exact h1

/-- Where it stands: the result's box, the pieces, the field's box, the places of its own. -/
def tst (B : Nat) (pc : Array Value) (A C : Int) (w wr : World) (v : Value) (L : List Int) : Prop :=
  wr.heap[B]? = some (.cells #[.int .i64 0, .int .i64 0, .slice none 0 0] 24) ∧ wr.heap[B + 1]? = some (.cells pc 9) ∧ wr.heap[B + 2]? = some (.cells #[.int .i64 A, .int .i64 C, v] 24) ∧ mine 3 vi (B + 3) wr v L ∧ Below B w wr ∧ B + 3 ≤ wr.heap.size
theorem tst_below {B : Nat} {pc : Array Value} {A C : Int} {w wr w' : World} {v : Value} {L : List Int} (h : tst B pc A C w wr v L) (hb : Below wr.heap.size wr w') : tst B pc A C w w' v L := by
  obtain ⟨h1, h2, h3, h4, h5, h6⟩ := h
  exact ⟨(hb.block _ (by omega)).trans h1, (hb.block _ (by omega)).trans h2, (hb.block _ (by omega)).trans h3, mine_below h4 hb, h5.trans (hb.mono (by omega)), Nat.le_trans h6 hb.size⟩
theorem tst_app {B : Nat} {pc : Array Value} {A C : Int} {w wr M w6 : World} {v v' : Value} {L L' : List Int} (h : tst B pc A C w wr v L) (hM : wr.grownBy M none) (hown : mine 3 vi (B + 3) w6 v' L') (hg : M.grownBy w6 v.ownBlock) :
    w6.heap[B + 2]? = some (.cells #[.int .i64 A, .int .i64 C, v] 24) ∧ tst B pc A C w (w6.setCell ⟨B + 2, 2, none⟩ v') v' L' := by
  obtain ⟨h1, h2, h3, h4, h5, h6⟩ := h
  have hlt := World.ownsRow.lt h4
  have hne : ∀ k, k < B + 3 → some k ≠ v.ownBlock := fun k hk e => by have := (hlt k e.symm).1; omega
  have q : ∀ k, k < B + 3 → w6.heap[k]? = wr.heap[k]? := fun k hk => (hg.block k (by have := hM.size; omega) (hne k hk)).trans (hM.block k (by omega) (by simp))
  have q1 : w6.heap[B + 2]? = some (.cells #[.int .i64 A, .int .i64 C, v] 24) := (q _ (by omega)).trans h3
  refine ⟨q1, ?_, ?_, ?_, ?_, ?_, ?_⟩
  · rw [Below.heap_setCell _ _ _ _ (by simp)]; exact (q _ (by omega)).trans h1
  · rw [Below.heap_setCell _ _ _ _ (by simp)]; exact (q _ (by omega)).trans h2
  · have := heap_setCell_same w6 (B + 2) 2 _ 24 v' q1
    rw [this]; rfl
  · refine World.ownsRow.kept hown (row := some (B + 2)) ⟨rfl, rfl, rfl, by simp [World.setCell], fun k _ hk => Below.heap_setCell _ _ _ k (fun e => hk (by rw [e]))⟩ (.inr fun e => ?_)
    have := (World.ownsRow.lt hown _ e).1; omega
  · refine Below.setCell ?_ (by simp) _
    exact h5.trans ⟨hg.os.trans hM.os, hg.tape.trans hM.tape, hg.output.trans hM.output, Nat.le_trans hM.size hg.size, fun k hk => q k (by omega)⟩
  · have := hM.size; have := hg.size; simp [World.setCell]; omega
/-- The i-th piece. -/
def pg (p : List ByteArray) (i : Nat) : ByteArray := p.getD i ⟨#[]⟩
theorem cell_piece {w : World} {b : Nat} {p : List ByteArray} (h : w.heap[b]? = some (.cells (p.map Value.string).toArray 9)) {i : Nat} (hi : i < p.length) : w.cell? ⟨b, i, none⟩ = some (.string (pg p i)) := by
  simp [World.cell?, h, pg, hi]
/-- What of the pieces is a field's text. -/
theorem piece_at {p : List ByteArray} {s : ByteArray} (h : p.map bs = pcs (bs s)) {i : Nat} (hi : i < p.length) : (pcs (bs s)).getD i [] = bs (pg p i) := by
  unfold pg
  rw [← h, List.getD_eq_getElem?_getD, List.getElem?_map, List.getD_eq_getElem?_getD, List.getElem?_eq_getElem hi]; rfl
theorem no_rok {p : List ByteArray} {s : ByteArray} {n : Nat} (hp : p.map bs = pcs (bs s)) (hn : p.length = n + 1) (hr : rok s) : (1 ≤ n ∧ n ≤ 40) ∧ (pg p n).size = 0 ∧ (1 ≤ (pg p 0).size ∧ (pg p 0).size ≤ 40) ∧ ∀ i, i < n → (pg p i).size = (pg p 0).size ∧ ∀ b ∈ bs (pg p i), 0 ≤ ix b := by
  obtain ⟨m, W, hg, e1, e2⟩ := gd_of hr
  have hlen : (pcs (bs s)).length = n + 1 := by rw [← hp, List.length_map, hn]
  have hmn : m = n := by have := hg.1; omega
  subst hmn
  obtain ⟨_, hn1, h2, hW, h3⟩ := hg
  have h0 := (h3 0 (by omega)).1
  rw [piece_at hp (by omega), bs_len] at h0
  refine ⟨hn1, ?_, by rw [h0]; exact hW, ?_⟩
  · rw [piece_at hp (by omega)] at h2; rw [← bs_len, h2]; rfl
  · intro i hi
    have := h3 i hi
    rw [piece_at hp (by omega), bs_len] at this
    exact ⟨by rw [this.1, h0], this.2⟩
/-- All rows were as they ought to be. -/
theorem yes_rok {p : List ByteArray} {s : ByteArray} {n : Nat} (hp : p.map bs = pcs (bs s)) (hn : p.length = n + 1) (h1 : 1 ≤ n ∧ n ≤ 40) (h2 : (pg p n).size = 0) (h3 : 1 ≤ (pg p 0).size ∧ (pg p 0).size ≤ 40) (h4 : ∀ i, i < n → (pg p i).size = (pg p 0).size ∧ ∀ b ∈ bs (pg p i), 0 ≤ ix b) :
    rok s ∧ gw (bs s) = (pg p 0).size ∧ gh (bs s) = n ∧ gl (bs s) = pcl (pcs (bs s)) n := by
  refine gd_yes (W := (pg p 0).size) ⟨by rw [← hp, List.length_map, hn], h1, ?_, h3, ?_⟩
  · rw [piece_at hp (by omega)]
    exact List.eq_nil_of_length_eq_zero (by rw [bs_len]; exact h2)
  · intro i hi
    rw [piece_at hp (by omega), bs_len]; exact h4 i hi
theorem pcl_succ {Q : List (List UInt8)} {k : Nat} (h : k < Q.length) : pcl Q (k + 1) = pcl Q k ++ (Q.getD k []).map ix := by
  unfold pcl
  rw [List.take_succ_eq_append_getElem h, List.map_append, List.flatten_append, List.getD_eq_getElem?_getD, List.getElem?_eq_getElem h]; simp
theorem pcl_len {Q : List (List UInt8)} {W : Nat} : ∀ {k : Nat}, k ≤ Q.length → (∀ j, j < k → (Q.getD j []).length = W) → (pcl Q k).length = W * k
  | 0, _, _ => by simp [pcl]
  | k + 1, hk, h => by
    rw [pcl_succ (by omega), List.length_append, pcl_len (by omega) (fun j hj => h j (by omega)), List.length_map, h k (by omega), Nat.mul_add]; omega
/-- Bytes of a text, laid in a block of their own. -/
def brow (w : World) (b : Nat) (l : List UInt8) : Prop := ∀ j (h : j < l.length), w.cell? ⟨b, j, none⟩ = some (.int .u8 (l[j].toNat : Int))
theorem brow_bytes (w : World) (s : ByteArray) (c : Nat) (t : TypeId) : brow (w.alloc (.cells (bytesRow s c) t ((bytesRow s c).size, (bytesRow s c).size + 1))) w.heap.size s.data.toList := by
  intro j hj
  have hj' : j < s.data.size := by simpa using hj
  rw [World.cell?_alloc_mark, bytesRow_at s c j hj']
  simp
theorem brow_block {w w' : World} {b : Nat} {l : List UInt8} (h : brow w b l) (hb : w'.heap[b]? = w.heap[b]?) : brow w' b l := fun j hj => by
  have := h j hj
  simp only [World.cell?] at this ⊢
  rw [hb]; exact this
/-- A block that is not the row's own lies on where the row grows. -/
theorem late_block {wr w6 : World} {o : Obj} {v : Value} {G g : Nat} {l : List UInt8} (h : brow wr G l ∧ v.ownBlock ≠ some G ∧ G < wr.heap.size) (hg : (wr.alloc o).grownBy w6 v.ownBlock) (hl : v.ownBlock = some g ∨ g = (wr.alloc o).heap.size) : w6.heap[G]? = wr.heap[G]? ∧ g ≠ G ∧ G < w6.heap.size := by
  have hs : (wr.alloc o).heap.size = wr.heap.size + 1 := by simp
  refine ⟨(hg.block G (by omega) (fun e => h.2.1 e.symm)).trans (Below.heap_alloc _ _ _ h.2.2), ?_, by have := hg.size; omega⟩
  rcases hl with e | e
  · intro h2; rw [h2] at e; exact h.2.1 e
  · omega
theorem size_zero {t : ByteArray} (h : t.size = 0) : t.toList.isEmpty = true := by
  rw [ByteArray.toList_eq, List.isEmpty_iff]
  exact List.eq_nil_of_length_eq_zero (by simpa using h)
theorem size_pos {t : ByteArray} (h : ¬ t.size = 0) : t.toList.isEmpty = false := by
  rw [ByteArray.toList_eq]
  cases hh : t.data.toList with
  | nil => exact absurd (by have := congrArg List.length hh; simpa using this) h
  | cons _ _ => rfl

set_option maxRecDepth 20000 in
set_option maxHeartbeats 4000000 in
theorem TextField_any (s : ByteArray) (w : World) (hs : s.size ≤ 1048576) :
    Calls Tryd.prog 7 #[.string s] w fun e w' => rdp s w.heap.size e w' ∧ Below w.heap.size w w' := by
  obtain ⟨B, hB⟩ : ∃ B, w.heap.size = B := ⟨_, rfl⟩
  obtain ⟨w0, hw0⟩ : ∃ w0, w.alloc (.cells #[.int .i64 0, .int .i64 0, .slice none 0 0] 24) = w0 := ⟨_, rfl⟩
  have hs0 : w0.heap.size = B + 1 := by rw [← hw0]; simp [hB]
  have hB0 : Below B w w0 := by rw [← hw0, ← hB]; exact alloc_below w _
  have HR0 : Hid (w0.heap[B]? = some (.cells #[.int .i64 0, .int .i64 0, .slice none 0 0] 24)) := by unfold Hid; rw [← hw0, ← hB]; exact World.alloc_heap_new w _
  have HW0 : Hid (w.alloc (.cells #[.int .i64 0, .int .i64 0, .slice none 0 0] 24) = w0) := hw0
  have hs' := hs
  clear hw0
  go_enter Tryd.func7, Tryd.ntmps7
  go_wp2_with fail
  rw [HW0.out]
  refine (Split_any s w0 hs').mono ?_
  rintro e w1 ⟨p, hp, rfl, hw1⟩
  obtain ⟨n, hn⟩ : ∃ n, p.length = n + 1 := ⟨p.length - 1, by have := congrArg List.length hp; rw [List.length_map, pcs_len] at this; omega⟩
  have hnm : n ≤ 1048576 := by
    have h1 := congrArg List.length hp
    rw [List.length_map, pcs_len, hn] at h1
    have := gh_le (bs s); rw [bs_len] at this; omega
  have HP : Hid (p.map bs = pcs (bs s)) := hp
  have HN : Hid (p.length = n + 1) := hn
  have hp1 : Hid (w1.heap[B + 1]? = some (.cells (p.map Value.string).toArray 9)) := by unfold Hid; rw [hw1, ← hs0]; exact World.alloc_heap_new w0 _
  have hr1 : Hid (w1.heap[B]? = some (.cells #[.int .i64 0, .int .i64 0, .slice none 0 0] 24)) := by unfold Hid; rw [hw1, Below.heap_alloc _ _ _ (by omega)]; exact HR0.out
  have hs1 : w1.heap.size = B + 2 := by rw [hw1]; simp [hs0]
  have hB1 : Below B w w1 := by rw [hw1]; exact hB0.alloc (by omega) _
  obtain ⟨pn, hpn⟩ : ∃ pn, pg p n = pn := ⟨_, rfl⟩
  obtain ⟨p0, hp0⟩ : ∃ p0, pg p 0 = p0 := ⟨_, rfl⟩
  have HNO : Hid (rok s → (1 ≤ n ∧ n ≤ 40) ∧ pn.size = 0 ∧ (1 ≤ p0.size ∧ p0.size ≤ 40) ∧ ∀ i, i < n → (pg p i).size = p0.size ∧ ∀ b ∈ bs (pg p i), 0 ≤ ix b) := fun hr => by
    have := no_rok hp hn hr
    rw [hpn, hp0] at this; exact this
  have cn : w1.cell? ⟨B + 1, n, none⟩ = some (.string pn) := by rw [cell_piece hp1.out (by omega), hpn]
  have c0 : w1.cell? ⟨B + 1, 0, none⟩ = some (.string p0) := by rw [cell_piece hp1.out (by omega), hp0]
  have HPn : Hid (pg p n = pn) := hpn
  have HP0 : Hid (pg p 0 = p0) := hp0
  rw [hn, hs0]
  clear hw1 hp hn hpn hp0 hs'
  go_wp2_with fail
  by_cases k1 : 1 ≤ n ∧ n ≤ 40
  · refine (Between_at (n : Int) 1 40 true _ (by unfold Hid; simp; omega)).mono ?_
    rintro e w' ⟨rfl, hw⟩; subst w'
    by_cases k2 : pn.size = 0
    · have hem := size_zero k2
      go_wp2_with fail
      by_cases k3 : 1 ≤ p0.size ∧ p0.size ≤ 40
      · refine (Between_at (p0.size : Int) 1 40 true _ (by unfold Hid; simp; omega)).mono ?_
        rintro e w' ⟨rfl, hw⟩; subst w'
        go_wp2_with fail
        have HQ0 : Hid (tst B (p.map Value.string).toArray p0.size n w (w1.alloc (.cells #[.int .i64 (p0.size : Int), .int .i64 (n : Int), .slice none 0 0] 24)) (.slice none 0 0) (pcl (pcs (bs s)) 0)) := by
          have hb2 : Below w1.heap.size w1 (w1.alloc (.cells #[.int .i64 (p0.size : Int), .int .i64 (n : Int), .slice none 0 0] 24)) := alloc_below _ _
          refine ⟨(hb2.block _ (by omega)).trans hr1.out, (hb2.block _ (by omega)).trans hp1.out, ?_, mine_nil _ _ _ _, hB1.trans (hb2.mono (by omega)), by simp [hs1]⟩
          have := World.alloc_heap_new w1 (.cells #[.int .i64 (p0.size : Int), .int .i64 (n : Int), .slice none 0 0] 24)
          rwa [hs1] at this
        generalize w1.alloc (.cells #[.int .i64 (p0.size : Int), .int .i64 (n : Int), .slice none 0 0] 24) = w2 at HQ0 ⊢
        have HK : Hid ((1 ≤ n ∧ n ≤ 40) ∧ pn.size = 0 ∧ (1 ≤ p0.size ∧ p0.size ≤ 40)) := ⟨k1, k2, k3⟩
        have hn40 := k1.2
        have hp40 := k3.2
        clear cn c0 hem k1 k2 k3
        go_loopw [46] (fun i wr => ∃ (k : Nat) (v : Value), i = .int .i64 (k : Int) ∧ k ≤ n ∧ Hid (tst B (p.map Value.string).toArray p0.size n w wr v (pcl (pcs (bs s)) k) ∧ ∀ j, j < k → (pg p j).size = p0.size ∧ ∀ b ∈ bs (pg p j), 0 ≤ ix b)) (fun i _ => n - (intOf i).toNat)
        case atStart => exact ⟨0, _, rfl, by omega, HQ0.out, fun j hj => by omega⟩
        case round =>
          obtain ⟨k, v, rfl, hk, HI⟩ := hrel
          obtain ⟨f0, f1, f2, _, _, _⟩ := rbox HI.out.1.2.2.1
          by_cases hlt : k < n
          · obtain ⟨pk, hpk⟩ : ∃ pk, pg p k = pk := ⟨_, rfl⟩
            have cp : wr.cell? ⟨B + 1, k, none⟩ = some (.string pk) := by rw [← hpk]; exact cell_piece HI.out.1.2.1 (by rw [HN.out]; omega)
            have HPK : Hid (pg p k = pk) := hpk
            have HPQ : Hid ((pcs (bs s)).getD k [] = bs pk) := by unfold Hid; rw [piece_at HP.out (by rw [HN.out]; omega), hpk]
            clear hpk
            have l1 : (k : Int) < n := by omega
            by_cases hsz : pk.size = p0.size
            · have e1 : ((pk.size : Int) == (p0.size : Int)) = true := by simp [hsz]
              have e2 : ((pk.size : Int) != (p0.size : Int)) = false := by simp [hsz]
              have hps : pk.size ≤ 40 := by omega
              have HSZ : Hid (pk.size = p0.size) := hsz
              have hcv := run_bytes_of_string (P := Tryd.prog) wr 9 40 5 pk Tryd.underlying9 Tryd.underlying40 Tryd.underlying5
              obtain ⟨cap, hcap⟩ : ∃ cap, grownCap wr pk.size 0 5 = cap := ⟨_, rfl⟩
              rw [hcap] at hcv
              obtain ⟨w5, hw5⟩ : ∃ w5, wr.drew.alloc (.cells (bytesRow pk cap) 5 ((bytesRow pk cap).size, (bytesRow pk cap).size + 1)) = w5 := ⟨_, rfl⟩
              rw [hw5] at hcv
              obtain ⟨G, hG⟩ : ∃ G, wr.heap.size = G := ⟨_, rfl⟩
              rw [hG] at hcv
              have HBR : Hid (brow w5 G (bs pk)) := by unfold Hid; rw [← hw5, ← hG]; exact brow_bytes wr.drew pk cap 5
              have hb5 : Below wr.heap.size wr w5 := by rw [← hw5]; exact ((Below.refl _ _).drew).alloc (Nat.le_refl _) _
              have hs5 : w5.heap.size = G + 1 := by rw [← hw5, ← hG]; simp
              have HT5 : Hid (tst B (p.map Value.string).toArray p0.size n w w5 v (pcl (pcs (bs s)) k)) := tst_below HI.out.1 hb5
              have HV5 : Hid (v.ownBlock ≠ some G) := fun e => by have := (World.ownsRow.lt HI.out.1.2.2.2.1 _ e).2; omega
              have HJK : Hid (∀ j, j < k → (pg p j).size = p0.size ∧ ∀ b ∈ bs (pg p j), 0 ≤ ix b) := HI.out.2
              have HPL : Hid ((pcl (pcs (bs s)) k).length ≤ 1600) := by
                unfold Hid
                rw [pcl_len (W := p0.size) (by rw [← HP.out, List.length_map, HN.out]; omega) (fun j hj => by rw [piece_at HP.out (by rw [HN.out]; omega), bs_len]; exact (HI.out.2 j hj).1)]
                have := Nat.mul_le_mul hp40 (show k ≤ 40 by omega); omega
              have HB3 : Hid (B + 3 ≤ G) := by have := HI.out.1.2.2.2.2.2; unfold Hid; omega
              clear hw5 hcap hb5 HI hsz
              go_wp2_with fail
              clear hcv f0 f1 f2 cp hG
              go_loopw [59] (fun i wr => ∃ (j : Nat) (v' : Value), i = .int .i64 (j : Int) ∧ j ≤ pk.size ∧ Hid (tst B (p.map Value.string).toArray p0.size n w wr v' (pcl (pcs (bs s)) k ++ ((bs pk).take j).map ix) ∧ (∀ b ∈ (bs pk).take j, 0 ≤ ix b) ∧ brow wr G (bs pk) ∧ v'.ownBlock ≠ some G ∧ G < wr.heap.size)) (fun i _ => pk.size - (intOf i).toNat)
              case atStart => exact ⟨0, v, rfl, by omega, by simpa using HT5.out, by simp, HBR.out, HV5.out, by omega⟩
              case round =>
                obtain ⟨j, v', rfl, hj, HJ⟩ := hrel
                by_cases hjl : j < pk.size
                · have hjb : j < (bs pk).length := by rw [bs_len]; exact hjl
                  obtain ⟨b, hbb⟩ : ∃ b, (bs pk)[j] = b := ⟨_, rfl⟩
                  have cb : wr.cell? ⟨G, j, none⟩ = some (.int .u8 (b.toNat : Int)) := by rw [← hbb]; exact HJ.out.2.2.1 j hjb
                  have HBM : Hid (b ∈ bs pk) := by unfold Hid; rw [← hbb]; exact List.getElem_mem _
                  have HTK : Hid ((bs pk).take (j + 1) = (bs pk).take j ++ [b]) := by unfold Hid; rw [List.take_succ_eq_append_getElem hjb, hbb]
                  clear hbb hjb
                  obtain ⟨r, hr⟩ : ∃ r, ix b = r := ⟨_, rfl⟩
                  have HX : Hid (ix b = r) := hr
                  have l3 : (j : Int) < pk.size := by omega
                  clear hr
                  by_cases hr0 : 0 ≤ r
                  · obtain ⟨L, hL⟩ : ∃ L, pcl (pcs (bs s)) k ++ ((bs pk).take j).map ix = L := ⟨_, rfl⟩
                    have HJ2 : Hid (tst B (p.map Value.string).toArray p0.size n w wr v' L) := by rw [← hL]; exact HJ.out.1
                    have HJ3 : Hid (brow wr G (bs pk) ∧ v'.ownBlock ≠ some G ∧ G < wr.heap.size) := HJ.out.2.2
                    have HJ4 : Hid (∀ b ∈ (bs pk).take j, 0 ≤ ix b) := HJ.out.2.1
                    have HL2 : Hid (pcl (pcs (bs s)) k ++ ((bs pk).take (j + 1)).map ix = L ++ [r]) := by unfold Hid; rw [HTK.out, List.map_append, ← List.append_assoc, hL]; simp [HX.out]
                    have hLl : L.length ≤ 1000000 := by
                      rw [← hL, List.length_append, List.length_map, List.length_take]
                      have := HPL.out; omega
                    clear hL HJ
                    obtain ⟨f0, f1, f2, _, _, _⟩ := rbox HJ2.out.2.2.1
                    have hBs : B + 2 < wr.heap.size := by have := HJ2.out.2.2.2.2.2; omega
                    have hrow2 := fun o => World.ownsRow.alloc (w := wr) HJ2.out.2.2.2.1 o
                    have hB3 : B + 3 ≤ wr.heap.size := HJ2.out.2.2.2.2.2
                    go_wp2_with fail
                    refine (IndexByte_at b r _ HX).mono ?_
                    rintro e w' ⟨rfl, hw⟩; subst w'
                    go_wp2_with (at_builtin; refine list_lies ki _ rfl _ _ rfl (B + 3) v' L rfl (hrow2 _) ⟨wr.heap.size, 0, none⟩ 1 r rfl (new_one wr 3 (vi r)) hLl (by simp; omega) ?_; intro g cap2 w6 hown hgr hlies; obtain ⟨q1, hst6⟩ := tst_app HJ2.out (grown_alloc _ _) hown hgr; have HG6 : Hid _ := hst6; have c6 : w6.cell? ⟨B + 2, 2, none⟩ = some v' := (by simp [World.cell?, q1]); have f6 : w6.frozen? ⟨B + 2, 2, none⟩ = false := (by simp [World.frozen?, q1]); have HQ6 : Hid (w6.heap[G]? = wr.heap[G]? ∧ g ≠ G ∧ G < w6.heap.size) := late_block HJ3.out hgr hlies; clear hst6 q1 hlies hgr hown)
                    go_roundw
                    case rel =>
                      refine ⟨j + 1, .slice (some ⟨g, 0, none⟩) (L.length + 1) cap2, by go_num, by omega, ?_, ?_, ?_, ?_, ?_⟩
                      · rw [HL2.out]; exact HG6.out
                      · intro x hx
                        rw [HTK.out] at hx
                        rcases List.mem_append.1 hx with h | h
                        · exact HJ4.out x h
                        · rw [List.mem_singleton.1 h, HX.out]; exact hr0
                      · exact brow_block HJ3.out.1 ((Below.heap_setCell _ _ _ _ (by have := HB3.out; simp; omega)).trans HQ6.out.1)
                      · simp [Value.ownBlock]; exact HQ6.out.2.1
                      · have := HQ6.out.2.2; simp [World.setCell]; exact this
                    case measure => simp [intOf]; omega
                  · have HO : Hid (¬ rok s) := fun h => hr0 (by
                      have := ((HNO.out h).2.2.2 k hlt).2 b (by rw [HPK.out]; exact HBM.out)
                      rw [HX.out] at this; exact this)
                    have HRB : Hid (wr.heap[B]? = some (.cells #[.int .i64 0, .int .i64 0, .slice none 0 0] 24)) := HJ.out.1.1
                    have HBB : Hid (Below B w wr) := HJ.out.1.2.2.2.2.1
                    clear HJ
                    have hr1' : r < 0 := by omega
                    go_wp2_with fail
                    refine (IndexByte_at b r _ HX).mono ?_
                    rintro e w' ⟨rfl, hw⟩; subst w'
                    obtain ⟨r0, r1, r2, r3, r4, r5⟩ := rbox HRB.out
                    go_wp2_with fail
                    obtain ⟨V, hV⟩ : ∃ V, ((wr.setCell ⟨B, 0, none⟩ (.int .i64 0)).setCell ⟨B, 1, none⟩ (.int .i64 0)).setCell ⟨B, 2, none⟩ (.slice none 0 0) = V := ⟨_, rfl⟩
                    rw [hV]
                    have k2 := set3 HRB.out V hV.symm
                    refine ⟨by simp, .tuple #[.agg #[.int .i64 0, .int .i64 0, .slice none 0 0], .int .i64 4], ?_, .inr ⟨HO.out, rfl⟩, ?_⟩
                    · rw [results_cell_tmp rfl]
                      simp [go_sem, k2.1, k2.2.1, k2.2.2.1]
                    · rw [hB]; exact HBB.out.trans (k2.2.2.2 B (Nat.le_refl _))
                · have hj2 : j = pk.size := by omega
                  subst hj2
                  have HE : Hid (tst B (p.map Value.string).toArray p0.size n w wr v' (pcl (pcs (bs s)) (k + 1)) ∧ ∀ j, j < k + 1 → (pg p j).size = p0.size ∧ ∀ b ∈ bs (pg p j), 0 ≤ ix b) := by
                    have ht : (bs pk).take pk.size = bs pk := List.take_of_length_le (by rw [bs_len]; exact Nat.le_refl _)
                    have h1 := HJ.out.1
                    have h2 := HJ.out.2.1
                    rw [ht] at h1 h2
                    refine ⟨by rw [pcl_succ (by rw [← HP.out, List.length_map, HN.out]; omega), HPQ.out]; exact h1, fun j hj => ?_⟩
                    by_cases e : j = k
                    · subst e; rw [HPK.out]; exact ⟨HSZ.out, h2⟩
                    · exact HJK.out j (by omega)
                  clear HJ
                  go_wp2_with fail
                  go_roundw
                  case rel => exact ⟨k + 1, v', by go_num, by omega, HE.out⟩
                  case measure => simp [intOf]; omega
            · have HO : Hid (¬ rok s) := fun h => hsz (by have := ((HNO.out h).2.2.2 k hlt).1; rw [HPK.out] at this; exact this)
              have e1 : ((pk.size : Int) == (p0.size : Int)) = false := by simp; omega
              have HRB : Hid (wr.heap[B]? = some (.cells #[.int .i64 0, .int .i64 0, .slice none 0 0] 24)) := HI.out.1.1
              have HBB : Hid (Below B w wr) := HI.out.1.2.2.2.2.1
              clear HI
              obtain ⟨r0, r1, r2, r3, r4, r5⟩ := rbox HRB.out
              go_wp2_with fail
              obtain ⟨V, hV⟩ : ∃ V, ((wr.setCell ⟨B, 0, none⟩ (.int .i64 0)).setCell ⟨B, 1, none⟩ (.int .i64 0)).setCell ⟨B, 2, none⟩ (.slice none 0 0) = V := ⟨_, rfl⟩
              rw [hV]
              have k2 := set3 HRB.out V hV.symm
              refine ⟨by simp, .tuple #[.agg #[.int .i64 0, .int .i64 0, .slice none 0 0], .int .i64 4], ?_, .inr ⟨HO.out, rfl⟩, ?_⟩
              · rw [results_cell_tmp rfl]
                simp [go_sem, k2.1, k2.2.1, k2.2.2.1]
              · rw [hB]; exact HBB.out.trans (k2.2.2.2 B (Nat.le_refl _))
          · have hkn : k = n := by omega
            subst hkn
            have HY : Hid (rok s ∧ gw (bs s) = p0.size ∧ gh (bs s) = k ∧ gl (bs s) = pcl (pcs (bs s)) k) := by
              have h2 := HK.out
              have h3 := HI.out.2
              have e0 := HP0.out
              have en := HPn.out
              unfold Hid
              rw [← e0] at h2 h3 ⊢
              rw [← en] at h2
              exact yes_rok HP.out HN.out h2.1 h2.2.1 h2.2.2 h3
            obtain ⟨r0, r1, r2, r3, r4, r5⟩ := rbox HI.out.1.1
            obtain ⟨pp, cc, hv, _⟩ := mine_full HI.out.1.2.2.2.1
            have HT : Hid (tst B (p.map Value.string).toArray p0.size k w wr v (pcl (pcs (bs s)) k)) := HI.out.1
            clear HI
            obtain ⟨M, hM⟩ : ∃ M, (pcl (pcs (bs s)) k).length = M := ⟨_, rfl⟩
            rw [hM] at hv
            clear hM
            subst hv
            go_wp2_with fail
            obtain ⟨V, hV⟩ : ∃ V, ((wr.setCell ⟨B, 0, none⟩ (.int .i64 (p0.size : Int))).setCell ⟨B, 1, none⟩ (.int .i64 (k : Int))).setCell ⟨B, 2, none⟩ (.slice pp M cc) = V := ⟨_, rfl⟩
            rw [hV]
            have k2 := set3 HT.out.1 V hV.symm
            refine ⟨by simp, .tuple #[.agg #[.int .i64 (p0.size : Int), .int .i64 (k : Int), .slice pp M cc], .int .i64 0], ?_, .inl ⟨HY.out.1, .slice pp M cc, ?_, ?_⟩, ?_⟩
            · rw [results_cell_tmp rfl]
              simp [go_sem, k2.1, k2.2.1, k2.2.2.1]
            · rw [HY.out.2.1, HY.out.2.2.1]
            · rw [HY.out.2.2.2, hB]
              have hb : But wr.heap.size B wr V := by rw [← hV]; exact ((But.set _ _ _ _ _).trans (But.set _ _ _ _ _)).trans (But.set _ _ _ _ _)
              refine mine_mono (B := B + 3) (World.ownsRow.kept HT.out.2.2.2.1 hb.grownBy (.inr fun e => ?_)) (by omega)
              have := (World.ownsRow.lt HT.out.2.2.2.1 _ e).1; omega
            · rw [hB]; exact HT.out.2.2.2.2.1.trans (k2.2.2.2 B (Nat.le_refl _))
      · have HO : Hid (¬ rok s) := fun h => k3 (HNO.out h).2.2.1
        refine (Between_at (p0.size : Int) 1 40 false _ (by unfold Hid; simp; omega)).mono ?_
        rintro e w' ⟨rfl, hw⟩; subst w'
        obtain ⟨r0, r1, r2, r3, r4, r5⟩ := rbox hr1.out
        go_wp2_with fail
        obtain ⟨V, hV⟩ : ∃ V, ((w1.setCell ⟨B, 0, none⟩ (.int .i64 0)).setCell ⟨B, 1, none⟩ (.int .i64 0)).setCell ⟨B, 2, none⟩ (.slice none 0 0) = V := ⟨_, rfl⟩
        rw [hV]
        have k2 := set3 hr1.out V hV.symm
        refine ⟨by simp, .tuple #[.agg #[.int .i64 0, .int .i64 0, .slice none 0 0], .int .i64 4], ?_, .inr ⟨HO.out, rfl⟩, ?_⟩
        · rw [results_cell_tmp rfl]
          simp [go_sem, k2.1, k2.2.1, k2.2.2.1]
        · rw [hB]; exact hB1.trans (k2.2.2.2 B (Nat.le_refl _))
    · have HO : Hid (¬ rok s) := fun h => k2 (HNO.out h).2.1
      have hem := size_pos k2
      obtain ⟨r0, r1, r2, r3, r4, r5⟩ := rbox hr1.out
      go_wp2_with fail
      obtain ⟨V, hV⟩ : ∃ V, ((w1.setCell ⟨B, 0, none⟩ (.int .i64 0)).setCell ⟨B, 1, none⟩ (.int .i64 0)).setCell ⟨B, 2, none⟩ (.slice none 0 0) = V := ⟨_, rfl⟩
      rw [hV]
      have k2 := set3 hr1.out V hV.symm
      refine ⟨by simp, .tuple #[.agg #[.int .i64 0, .int .i64 0, .slice none 0 0], .int .i64 4], ?_, .inr ⟨HO.out, rfl⟩, ?_⟩
      · rw [results_cell_tmp rfl]
        simp [go_sem, k2.1, k2.2.1, k2.2.2.1]
      · rw [hB]; exact hB1.trans (k2.2.2.2 B (Nat.le_refl _))
  · have HO : Hid (¬ rok s) := fun h => k1 (HNO.out h).1
    refine (Between_at (n : Int) 1 40 false _ (by unfold Hid; simp; omega)).mono ?_
    rintro e w' ⟨rfl, hw⟩; subst w'
    obtain ⟨r0, r1, r2, r3, r4, r5⟩ := rbox hr1.out
    go_wp2_with fail
    obtain ⟨V, hV⟩ : ∃ V, ((w1.setCell ⟨B, 0, none⟩ (.int .i64 0)).setCell ⟨B, 1, none⟩ (.int .i64 0)).setCell ⟨B, 2, none⟩ (.slice none 0 0) = V := ⟨_, rfl⟩
    rw [hV]
    have k2 := set3 hr1.out V hV.symm
    refine ⟨by simp, .tuple #[.agg #[.int .i64 0, .int .i64 0, .slice none 0 0], .int .i64 4], ?_, .inr ⟨HO.out, rfl⟩, ?_⟩
    · rw [results_cell_tmp rfl]
      simp [go_sem, k2.1, k2.2.1, k2.2.2.1]
    · rw [hB]; exact hB1.trans (k2.2.2.2 B (Nat.le_refl _))
end Go.Proofs.YtccapbojhgemmaaDoor
