/-
  No cell of these rows narrows 'for every input' (looked for: loops, veiled, ifaces, maps, wideKeys, modest, calm, conditions, laid).
  DERIVED. THE GIVEN ROWS OF THIS SEAT. 4 by the template 'for every input the law returns true; each argument reads behind the call as it read before'; 0 by the template 'total and deterministic' (their statements: YtbedniajkcgaeaaTotals.lean).
  GIVEN WITH THE SEED: the statements are not yours to turn. If you find one false, say at which input.
  Laid BY PROGRAM, IN A SANDBOX (cutbox-rows.mjs): the forced cells as the released guide's own fill.sh prints them over the translation 212288cda30d6b2a… (all of the seat's roots in one cut). By AI agents, Wed Nov 11 2026. No macro, syntax, notation, axiom, sorry.
-/
import Derived.Test.YtbedniajkcgaeaaChecked
import GoSem.Claim
import GoSem.ClaimJoined
import GoSem.ClaimMapViews
import Derived.JoinedTies
import Derived.KernelRfl
namespace Go.Proofs.Ytbedniajkcgaeaa
/- THE CELL 'sum', in the pinned program and in every row, IS THE sha256 OF THE DUMP (.gsa) THAT YtbedniajkcgaeaaProg.lean LOADS. Nothing in Lean hashes anything: it is a label: what it is worth is what the hold of that sum in a sandbox is worth. -/
noncomputable def Try.pinned : Pinned := { name := "ytbedniajkcgaeaa", sum := "212288cda30d6b2ac44664f021d5f8da60f969f4051029bfffa227fbad63a077", checked := Try.checked }
namespace Rows
def none {H : Type} : Left H := { results := [], args := [] }

/-- 'mustlaw.LineSays': WHATEVER THE INPUT: true; the input reads as it did. -/
def lineSaysSpec : ChangeSpec := { name := "lineSays", fn := fun _ => fun
  | [d1, d2] => { results := [.lit (.bool true)], args := [d1, d2] }
  | _ => none }
def lineSaysRow : OpenClaim := { program := "ytbedniajkcgaeaa", sum := "212288cda30d6b2ac44664f021d5f8da60f969f4051029bfffa227fbad63a077", func := "musterfield/mustlaw.LineSays", spec := "lineSays", apart := false }
def LineSaysSaid : Prop := lineSaysRow.holds Try.pinned (OpenSpec.ofChange lineSaysSpec)

/-- ITS FALSE NEIGHBOUR: 'it returns false'. Refute it at one input. -/
def lineSaysWrong : ChangeSpec := { name := "lineSays", fn := fun _ => fun
  | [d1, d2] => { results := [.lit (.bool false)], args := [d1, d2] }
  | _ => none }
def LineSaysWrongFalsely : Prop := lineSaysRow.holds Try.pinned (OpenSpec.ofChange lineSaysWrong)

/-- 'mustkeep.LineWay': WHATEVER THE INPUT: true; the input reads as it did. -/
def lineWaySpec : ChangeSpec := { name := "lineWay", fn := fun _ => fun
  | [d1, d2] => { results := [.lit (.bool true)], args := [d1, d2] }
  | _ => none }
def lineWayRow : OpenClaim := { program := "ytbedniajkcgaeaa", sum := "212288cda30d6b2ac44664f021d5f8da60f969f4051029bfffa227fbad63a077", func := "musterfield/mustkeep.LineWay", spec := "lineWay", apart := false }
def LineWaySaid : Prop := lineWayRow.holds Try.pinned (OpenSpec.ofChange lineWaySpec)

/-- ITS FALSE NEIGHBOUR: 'it returns false'. Refute it at one input. -/
def lineWayWrong : ChangeSpec := { name := "lineWay", fn := fun _ => fun
  | [d1, d2] => { results := [.lit (.bool false)], args := [d1, d2] }
  | _ => none }
def LineWayWrongFalsely : Prop := lineWayRow.holds Try.pinned (OpenSpec.ofChange lineWayWrong)

/-- 'mustkeep.LineNear': WHATEVER THE INPUT: true; the input reads as it did. -/
def lineNearSpec : ChangeSpec := { name := "lineNear", fn := fun _ => fun
  | [d1, d2] => { results := [.lit (.bool true)], args := [d1, d2] }
  | _ => none }
def lineNearRow : OpenClaim := { program := "ytbedniajkcgaeaa", sum := "212288cda30d6b2ac44664f021d5f8da60f969f4051029bfffa227fbad63a077", func := "musterfield/mustkeep.LineNear", spec := "lineNear", apart := false }
def LineNearSaid : Prop := lineNearRow.holds Try.pinned (OpenSpec.ofChange lineNearSpec)

/-- ITS FALSE NEIGHBOUR: 'it returns false'. Refute it at one input. -/
def lineNearWrong : ChangeSpec := { name := "lineNear", fn := fun _ => fun
  | [d1, d2] => { results := [.lit (.bool false)], args := [d1, d2] }
  | _ => none }
def LineNearWrongFalsely : Prop := lineNearRow.holds Try.pinned (OpenSpec.ofChange lineNearWrong)

/-- 'mustkeep.LineMoved': WHATEVER THE INPUT: true; the input reads as it did. -/
def lineMovedSpec : ChangeSpec := { name := "lineMoved", fn := fun _ => fun
  | [d1, d2, d3, d4] => { results := [.lit (.bool true)], args := [d1, d2, d3, d4] }
  | _ => none }
def lineMovedRow : OpenClaim := { program := "ytbedniajkcgaeaa", sum := "212288cda30d6b2ac44664f021d5f8da60f969f4051029bfffa227fbad63a077", func := "musterfield/mustkeep.LineMoved", spec := "lineMoved", apart := false }
def LineMovedSaid : Prop := lineMovedRow.holds Try.pinned (OpenSpec.ofChange lineMovedSpec)

/-- ITS FALSE NEIGHBOUR: 'it returns false'. Refute it at one input. -/
def lineMovedWrong : ChangeSpec := { name := "lineMoved", fn := fun _ => fun
  | [d1, d2, d3, d4] => { results := [.lit (.bool false)], args := [d1, d2, d3, d4] }
  | _ => none }
def LineMovedWrongFalsely : Prop := lineMovedRow.holds Try.pinned (OpenSpec.ofChange lineMovedWrong)

/- THE SECOND FORM. 'bulk': how many values and letters a reading holds, each counted each time it is reached (what is shared counts as often as it is met; a slice's spare places count too). A statement '..UptoSaid' is the law's where the arguments, and the package variables that the reading takes, are together of bulk at most 1048576: NARROWER than '..Said'. Prove '..Said' where nothing that the law and all that it calls make is longer than what came in: it says more and counts as full. Else prove '..UptoSaid'. A law counts once. -/
mutual
def uptoBulk {H : Type} : DataW H → Nat
  | .lit (.string bytes) => bytes.length + 1
  | .lit _ => 1
  | .nil => 1
  | .ptr d => uptoBulk d + 1
  | .slice elems spare => uptoBulkAll elems + uptoBulkAll spare + 1
  | .agg parts => uptoBulkAll parts + 1
  | .iface _ d => uptoBulk d + 1
  | .map entries => uptoBulkEntries entries + 1
  | .held _ => 1
def uptoBulkAll {H : Type} : List (DataW H) → Nat
  | [] => 0
  | d :: r => uptoBulk d + uptoBulkAll r
def uptoBulkEntries {H : Type} : List (Lit × DataW H) → Nat
  | [] => 0
  | x :: r => uptoBulkEntry x + uptoBulkEntries r
def uptoBulkEntry {H : Type} : Lit × DataW H → Nat
  | (.string bytes, d) => bytes.length + uptoBulk d + 1
  | (_, d) => uptoBulk d + 1
 end
def uptoSmall : (H : Type) → List (DataW H) → Bool := fun _ ds => decide (uptoBulkAll ds ≤ 1048576)
def OpenSpec.upto (s : _root_.Go.ChangeSpec) : _root_.Go.OpenSpec := { _root_.Go.OpenSpec.ofChange s with cond := some uptoSmall }

/-- 'mustlaw.LineSays', WHERE WHAT IT READS IS OF BULK AT MOST 1048576: true; the input reads as it did. -/
def lineSaysUptoRow : OpenClaim := { program := "ytbedniajkcgaeaa", sum := "212288cda30d6b2ac44664f021d5f8da60f969f4051029bfffa227fbad63a077", func := "musterfield/mustlaw.LineSays", spec := "lineSays", apart := false, narrowed := true }
def LineSaysUptoSaid : Prop := lineSaysUptoRow.holds Try.pinned (OpenSpec.upto lineSaysSpec)

/-- 'mustkeep.LineWay', WHERE WHAT IT READS IS OF BULK AT MOST 1048576: true; the input reads as it did. -/
def lineWayUptoRow : OpenClaim := { program := "ytbedniajkcgaeaa", sum := "212288cda30d6b2ac44664f021d5f8da60f969f4051029bfffa227fbad63a077", func := "musterfield/mustkeep.LineWay", spec := "lineWay", apart := false, narrowed := true }
def LineWayUptoSaid : Prop := lineWayUptoRow.holds Try.pinned (OpenSpec.upto lineWaySpec)

/-- 'mustkeep.LineNear', WHERE WHAT IT READS IS OF BULK AT MOST 1048576: true; the input reads as it did. -/
def lineNearUptoRow : OpenClaim := { program := "ytbedniajkcgaeaa", sum := "212288cda30d6b2ac44664f021d5f8da60f969f4051029bfffa227fbad63a077", func := "musterfield/mustkeep.LineNear", spec := "lineNear", apart := false, narrowed := true }
def LineNearUptoSaid : Prop := lineNearUptoRow.holds Try.pinned (OpenSpec.upto lineNearSpec)

/-- 'mustkeep.LineMoved', WHERE WHAT IT READS IS OF BULK AT MOST 1048576: true; the input reads as it did. -/
def lineMovedUptoRow : OpenClaim := { program := "ytbedniajkcgaeaa", sum := "212288cda30d6b2ac44664f021d5f8da60f969f4051029bfffa227fbad63a077", func := "musterfield/mustkeep.LineMoved", spec := "lineMoved", apart := false, narrowed := true }
def LineMovedUptoSaid : Prop := lineMovedUptoRow.holds Try.pinned (OpenSpec.upto lineMovedSpec)

end Rows
end Go.Proofs.Ytbedniajkcgaeaa
