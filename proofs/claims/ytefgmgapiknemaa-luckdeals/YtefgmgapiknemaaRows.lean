/-
  No cell of these rows narrows 'for every input' (looked for: loops, veiled, ifaces, maps, wideKeys, modest, calm, conditions, laid).
  DERIVED. THE GIVEN ROWS OF THIS SEAT. 6 by the template 'for every input the law returns true; each argument reads behind the call as it read before'; 0 by the template 'total and deterministic' (their statements: YtefgmgapiknemaaTotals.lean).
  GIVEN WITH THE SEED: the statements are not yours to turn. If you find one false, say at which input.
  Laid BY PROGRAM, IN A SANDBOX (cutbox-rows.mjs): the forced cells as the released guide's own fill.sh prints them over the translation 7b568207d4a1a648… (all of the seat's roots in one cut). By AI agents, Wed Nov 11 2026. No macro, syntax, notation, axiom, sorry.
-/
import Derived.Test.YtefgmgapiknemaaChecked
import GoSem.Claim
import GoSem.ClaimJoined
import GoSem.ClaimMapViews
import Derived.JoinedTies
import Derived.KernelRfl
namespace Go.Proofs.Ytefgmgapiknemaa
/- THE CELL 'sum', in the pinned program and in every row, IS THE sha256 OF THE DUMP (.gsa) THAT YtefgmgapiknemaaProg.lean LOADS. Nothing in Lean hashes anything: it is a label: what it is worth is what the hold of that sum in a sandbox is worth. -/
noncomputable def Try.pinned : Pinned := { name := "ytefgmgapiknemaa", sum := "7b568207d4a1a6488d9afaead0a57e42c9e6f6fc3deaa03e8d2bc1b46f10b184", checked := Try.checked }
namespace Rows
def none {H : Type} : Left H := { results := [], args := [] }

/-- 'mustlaw.LuckSays': WHATEVER THE INPUT: true; the input reads as it did. -/
def luckSaysSpec : ChangeSpec := { name := "luckSays", fn := fun _ => fun
  | [d1, d2] => { results := [.lit (.bool true)], args := [d1, d2] }
  | _ => none }
def luckSaysRow : OpenClaim := { program := "ytefgmgapiknemaa", sum := "7b568207d4a1a6488d9afaead0a57e42c9e6f6fc3deaa03e8d2bc1b46f10b184", func := "musterfield/mustlaw.LuckSays", spec := "luckSays", recurses := true, apart := false }
def LuckSaysSaid : Prop := luckSaysRow.holds Try.pinned (OpenSpec.ofChange luckSaysSpec)

/-- ITS FALSE NEIGHBOUR: 'it returns false'. Refute it at one input. -/
def luckSaysWrong : ChangeSpec := { name := "luckSays", fn := fun _ => fun
  | [d1, d2] => { results := [.lit (.bool false)], args := [d1, d2] }
  | _ => none }
def LuckSaysWrongFalsely : Prop := luckSaysRow.holds Try.pinned (OpenSpec.ofChange luckSaysWrong)

/-- 'mustkeep.LuckSkips': WHATEVER THE INPUT: true; the input reads as it did. -/
def luckSkipsSpec : ChangeSpec := { name := "luckSkips", fn := fun _ => fun
  | [d1, d2, d3] => { results := [.lit (.bool true)], args := [d1, d2, d3] }
  | _ => none }
def luckSkipsRow : OpenClaim := { program := "ytefgmgapiknemaa", sum := "7b568207d4a1a6488d9afaead0a57e42c9e6f6fc3deaa03e8d2bc1b46f10b184", func := "musterfield/mustkeep.LuckSkips", spec := "luckSkips", apart := false }
def LuckSkipsSaid : Prop := luckSkipsRow.holds Try.pinned (OpenSpec.ofChange luckSkipsSpec)

/-- ITS FALSE NEIGHBOUR: 'it returns false'. Refute it at one input. -/
def luckSkipsWrong : ChangeSpec := { name := "luckSkips", fn := fun _ => fun
  | [d1, d2, d3] => { results := [.lit (.bool false)], args := [d1, d2, d3] }
  | _ => none }
def LuckSkipsWrongFalsely : Prop := luckSkipsRow.holds Try.pinned (OpenSpec.ofChange luckSkipsWrong)

/-- 'mustkeep.LuckRound': WHATEVER THE INPUT: true; the input reads as it did. -/
def luckRoundSpec : ChangeSpec := { name := "luckRound", fn := fun _ => fun
  | [d1, d2] => { results := [.lit (.bool true)], args := [d1, d2] }
  | _ => none }
def luckRoundRow : OpenClaim := { program := "ytefgmgapiknemaa", sum := "7b568207d4a1a6488d9afaead0a57e42c9e6f6fc3deaa03e8d2bc1b46f10b184", func := "musterfield/mustkeep.LuckRound", spec := "luckRound", apart := false }
def LuckRoundSaid : Prop := luckRoundRow.holds Try.pinned (OpenSpec.ofChange luckRoundSpec)

/-- ITS FALSE NEIGHBOUR: 'it returns false'. Refute it at one input. -/
def luckRoundWrong : ChangeSpec := { name := "luckRound", fn := fun _ => fun
  | [d1, d2] => { results := [.lit (.bool false)], args := [d1, d2] }
  | _ => none }
def LuckRoundWrongFalsely : Prop := luckRoundRow.holds Try.pinned (OpenSpec.ofChange luckRoundWrong)

/-- 'mustkeep.LuckWhole': WHATEVER THE INPUT: true; the input reads as it did. -/
def luckWholeSpec : ChangeSpec := { name := "luckWhole", fn := fun _ => fun
  | [d] => { results := [.lit (.bool true)], args := [d] }
  | _ => none }
def luckWholeRow : OpenClaim := { program := "ytefgmgapiknemaa", sum := "7b568207d4a1a6488d9afaead0a57e42c9e6f6fc3deaa03e8d2bc1b46f10b184", func := "musterfield/mustkeep.LuckWhole", spec := "luckWhole", apart := false }
def LuckWholeSaid : Prop := luckWholeRow.holds Try.pinned (OpenSpec.ofChange luckWholeSpec)

/-- ITS FALSE NEIGHBOUR: 'it returns false'. Refute it at one input. -/
def luckWholeWrong : ChangeSpec := { name := "luckWhole", fn := fun _ => fun
  | [d] => { results := [.lit (.bool false)], args := [d] }
  | _ => none }
def LuckWholeWrongFalsely : Prop := luckWholeRow.holds Try.pinned (OpenSpec.ofChange luckWholeWrong)

/-- 'mustkeep.LuckPicks': WHATEVER THE INPUT: true; the input reads as it did. -/
def luckPicksSpec : ChangeSpec := { name := "luckPicks", fn := fun _ => fun
  | [d1, d2, d3] => { results := [.lit (.bool true)], args := [d1, d2, d3] }
  | _ => none }
def luckPicksRow : OpenClaim := { program := "ytefgmgapiknemaa", sum := "7b568207d4a1a6488d9afaead0a57e42c9e6f6fc3deaa03e8d2bc1b46f10b184", func := "musterfield/mustkeep.LuckPicks", spec := "luckPicks", apart := false }
def LuckPicksSaid : Prop := luckPicksRow.holds Try.pinned (OpenSpec.ofChange luckPicksSpec)

/-- ITS FALSE NEIGHBOUR: 'it returns false'. Refute it at one input. -/
def luckPicksWrong : ChangeSpec := { name := "luckPicks", fn := fun _ => fun
  | [d1, d2, d3] => { results := [.lit (.bool false)], args := [d1, d2, d3] }
  | _ => none }
def LuckPicksWrongFalsely : Prop := luckPicksRow.holds Try.pinned (OpenSpec.ofChange luckPicksWrong)

/-- 'mustkeep.LuckDeals': WHATEVER THE INPUT: true; the input reads as it did. -/
def luckDealsSpec : ChangeSpec := { name := "luckDeals", fn := fun _ => fun
  | [d1, d2] => { results := [.lit (.bool true)], args := [d1, d2] }
  | _ => none }
def luckDealsRow : OpenClaim := { program := "ytefgmgapiknemaa", sum := "7b568207d4a1a6488d9afaead0a57e42c9e6f6fc3deaa03e8d2bc1b46f10b184", func := "musterfield/mustkeep.LuckDeals", spec := "luckDeals", recurses := true, apart := false }
def LuckDealsSaid : Prop := luckDealsRow.holds Try.pinned (OpenSpec.ofChange luckDealsSpec)

/-- ITS FALSE NEIGHBOUR: 'it returns false'. Refute it at one input. -/
def luckDealsWrong : ChangeSpec := { name := "luckDeals", fn := fun _ => fun
  | [d1, d2] => { results := [.lit (.bool false)], args := [d1, d2] }
  | _ => none }
def LuckDealsWrongFalsely : Prop := luckDealsRow.holds Try.pinned (OpenSpec.ofChange luckDealsWrong)

/- THE SECOND FORM. 'bulk': how many values and letters a reading holds, each counted each time it is reached (what is shared counts as often as it is met; a slice's spare places count too). A statement '..UptoSaid' is the law's where the arguments, and the package variables that the reading takes, are together of bulk at most 1048576: NARROWER than '..Said'. Prove '..Said' where nothing that the law and all that it calls make is longer than what came in: it says more and counts as full. Else prove '..UptoSaid'. A law counts once. -/
mutual
def uptoBulk {H : Type} : DataW H → Nat
  | .lit (.string bytes) => bytes.length + 1
  | .lit _ => 1
  | .nil => 1
  | .ptr d => uptoBulk d + 1
  | .slice elems spare => uptoBulkAll elems + uptoBulkAll spare + 1
  | .agg parts => uptoBulkAll parts + 1
  | .iface _ d => uptoBulk d + 1
  | .map entries => uptoBulkEntries entries + 1
  | .held _ => 1
def uptoBulkAll {H : Type} : List (DataW H) → Nat
  | [] => 0
  | d :: r => uptoBulk d + uptoBulkAll r
def uptoBulkEntries {H : Type} : List (Lit × DataW H) → Nat
  | [] => 0
  | x :: r => uptoBulkEntry x + uptoBulkEntries r
def uptoBulkEntry {H : Type} : Lit × DataW H → Nat
  | (.string bytes, d) => bytes.length + uptoBulk d + 1
  | (_, d) => uptoBulk d + 1
 end
def uptoSmall : (H : Type) → List (DataW H) → Bool := fun _ ds => decide (uptoBulkAll ds ≤ 1048576)
def OpenSpec.upto (s : _root_.Go.ChangeSpec) : _root_.Go.OpenSpec := { _root_.Go.OpenSpec.ofChange s with cond := some uptoSmall }

/-- 'mustlaw.LuckSays', WHERE WHAT IT READS IS OF BULK AT MOST 1048576: true; the input reads as it did. -/
def luckSaysUptoRow : OpenClaim := { program := "ytefgmgapiknemaa", sum := "7b568207d4a1a6488d9afaead0a57e42c9e6f6fc3deaa03e8d2bc1b46f10b184", func := "musterfield/mustlaw.LuckSays", spec := "luckSays", recurses := true, apart := false, narrowed := true }
def LuckSaysUptoSaid : Prop := luckSaysUptoRow.holds Try.pinned (OpenSpec.upto luckSaysSpec)

/-- 'mustkeep.LuckSkips', WHERE WHAT IT READS IS OF BULK AT MOST 1048576: true; the input reads as it did. -/
def luckSkipsUptoRow : OpenClaim := { program := "ytefgmgapiknemaa", sum := "7b568207d4a1a6488d9afaead0a57e42c9e6f6fc3deaa03e8d2bc1b46f10b184", func := "musterfield/mustkeep.LuckSkips", spec := "luckSkips", apart := false, narrowed := true }
def LuckSkipsUptoSaid : Prop := luckSkipsUptoRow.holds Try.pinned (OpenSpec.upto luckSkipsSpec)

/-- 'mustkeep.LuckRound', WHERE WHAT IT READS IS OF BULK AT MOST 1048576: true; the input reads as it did. -/
def luckRoundUptoRow : OpenClaim := { program := "ytefgmgapiknemaa", sum := "7b568207d4a1a6488d9afaead0a57e42c9e6f6fc3deaa03e8d2bc1b46f10b184", func := "musterfield/mustkeep.LuckRound", spec := "luckRound", apart := false, narrowed := true }
def LuckRoundUptoSaid : Prop := luckRoundUptoRow.holds Try.pinned (OpenSpec.upto luckRoundSpec)

/-- 'mustkeep.LuckWhole', WHERE WHAT IT READS IS OF BULK AT MOST 1048576: true; the input reads as it did. -/
def luckWholeUptoRow : OpenClaim := { program := "ytefgmgapiknemaa", sum := "7b568207d4a1a6488d9afaead0a57e42c9e6f6fc3deaa03e8d2bc1b46f10b184", func := "musterfield/mustkeep.LuckWhole", spec := "luckWhole", apart := false, narrowed := true }
def LuckWholeUptoSaid : Prop := luckWholeUptoRow.holds Try.pinned (OpenSpec.upto luckWholeSpec)

/-- 'mustkeep.LuckPicks', WHERE WHAT IT READS IS OF BULK AT MOST 1048576: true; the input reads as it did. -/
def luckPicksUptoRow : OpenClaim := { program := "ytefgmgapiknemaa", sum := "7b568207d4a1a6488d9afaead0a57e42c9e6f6fc3deaa03e8d2bc1b46f10b184", func := "musterfield/mustkeep.LuckPicks", spec := "luckPicks", apart := false, narrowed := true }
def LuckPicksUptoSaid : Prop := luckPicksUptoRow.holds Try.pinned (OpenSpec.upto luckPicksSpec)

/-- 'mustkeep.LuckDeals', WHERE WHAT IT READS IS OF BULK AT MOST 1048576: true; the input reads as it did. -/
def luckDealsUptoRow : OpenClaim := { program := "ytefgmgapiknemaa", sum := "7b568207d4a1a6488d9afaead0a57e42c9e6f6fc3deaa03e8d2bc1b46f10b184", func := "musterfield/mustkeep.LuckDeals", spec := "luckDeals", recurses := true, apart := false, narrowed := true }
def LuckDealsUptoSaid : Prop := luckDealsUptoRow.holds Try.pinned (OpenSpec.upto luckDealsSpec)

end Rows
end Go.Proofs.Ytefgmgapiknemaa
