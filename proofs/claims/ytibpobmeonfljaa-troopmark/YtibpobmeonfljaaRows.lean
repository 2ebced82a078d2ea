/-
  No cell of these rows narrows 'for every input' (looked for: loops, veiled, ifaces, maps, wideKeys, modest, calm, conditions, laid).
  DERIVED. THE GIVEN ROWS OF THIS SEAT. 5 by the template 'for every input the law returns true; each argument reads behind the call as it read before'; 0 by the template 'total and deterministic' (their statements: YtibpobmeonfljaaTotals.lean).
  GIVEN WITH THE SEED: the statements are not yours to turn. If you find one false, say at which input.
  Laid BY PROGRAM, IN A SANDBOX (cutbox-rows.mjs): the forced cells as the released guide's own fill.sh prints them over the translation 8b38fccb9808c91f… (all of the seat's roots in one cut). By AI agents, Wed Nov 11 2026. No macro, syntax, notation, axiom, sorry.
-/
import Derived.Test.YtibpobmeonfljaaChecked
import GoSem.Claim
import GoSem.ClaimJoined
import GoSem.ClaimMapViews
import Derived.JoinedTies
import Derived.KernelRfl
namespace Go.Proofs.Ytibpobmeonfljaa
/- THE CELL 'sum', in the pinned program and in every row, IS THE sha256 OF THE DUMP (.gsa) THAT YtibpobmeonfljaaProg.lean LOADS. Nothing in Lean hashes anything: it is a label: what it is worth is what the hold of that sum in a sandbox is worth. -/
noncomputable def Try.pinned : Pinned := { name := "ytibpobmeonfljaa", sum := "8b38fccb9808c91faf9285a14f9b40aa8e4025fcf0534185066470f3ed4bc2f2", checked := Try.checked }
namespace Rows
def none {H : Type} : Left H := { results := [], args := [] }

/-- 'mustlaw.TroopChecks': WHATEVER THE INPUT: true; the input reads as it did. -/
def troopChecksSpec : ChangeSpec := { name := "troopChecks", fn := fun _ => fun
  | [d1, d2] => { results := [.lit (.bool true)], args := [d1, d2] }
  | _ => none }
def troopChecksRow : OpenClaim := { program := "ytibpobmeonfljaa", sum := "8b38fccb9808c91faf9285a14f9b40aa8e4025fcf0534185066470f3ed4bc2f2", func := "musterfield/mustlaw.TroopChecks", spec := "troopChecks", unfollowed := true, recurses := true, plainKeys := false, apart := false }
def TroopChecksSaid : Prop := troopChecksRow.holds Try.pinned (OpenSpec.ofChange troopChecksSpec)

/-- ITS FALSE NEIGHBOUR: 'it returns false'. Refute it at one input. -/
def troopChecksWrong : ChangeSpec := { name := "troopChecks", fn := fun _ => fun
  | [d1, d2] => { results := [.lit (.bool false)], args := [d1, d2] }
  | _ => none }
def TroopChecksWrongFalsely : Prop := troopChecksRow.holds Try.pinned (OpenSpec.ofChange troopChecksWrong)

/-- 'mustlaw.TroopFinds': WHATEVER THE INPUT: true; the input reads as it did. -/
def troopFindsSpec : ChangeSpec := { name := "troopFinds", fn := fun _ => fun
  | [d1, d2, d3, d4] => { results := [.lit (.bool true)], args := [d1, d2, d3, d4] }
  | _ => none }
def troopFindsRow : OpenClaim := { program := "ytibpobmeonfljaa", sum := "8b38fccb9808c91faf9285a14f9b40aa8e4025fcf0534185066470f3ed4bc2f2", func := "musterfield/mustlaw.TroopFinds", spec := "troopFinds", unfollowed := true, recurses := true, plainKeys := false, apart := false }
def TroopFindsSaid : Prop := troopFindsRow.holds Try.pinned (OpenSpec.ofChange troopFindsSpec)

/-- ITS FALSE NEIGHBOUR: 'it returns false'. Refute it at one input. -/
def troopFindsWrong : ChangeSpec := { name := "troopFinds", fn := fun _ => fun
  | [d1, d2, d3, d4] => { results := [.lit (.bool false)], args := [d1, d2, d3, d4] }
  | _ => none }
def TroopFindsWrongFalsely : Prop := troopFindsRow.holds Try.pinned (OpenSpec.ofChange troopFindsWrong)

/-- 'mustkeep.TroopOne': WHATEVER THE INPUT: true; the input reads as it did. -/
def troopOneSpec : ChangeSpec := { name := "troopOne", fn := fun _ => fun
  | [d1, d2] => { results := [.lit (.bool true)], args := [d1, d2] }
  | _ => none }
def troopOneRow : OpenClaim := { program := "ytibpobmeonfljaa", sum := "8b38fccb9808c91faf9285a14f9b40aa8e4025fcf0534185066470f3ed4bc2f2", func := "musterfield/mustkeep.TroopOne", spec := "troopOne", unfollowed := true, recurses := true, plainKeys := false, apart := false }
def TroopOneSaid : Prop := troopOneRow.holds Try.pinned (OpenSpec.ofChange troopOneSpec)

/-- ITS FALSE NEIGHBOUR: 'it returns false'. Refute it at one input. -/
def troopOneWrong : ChangeSpec := { name := "troopOne", fn := fun _ => fun
  | [d1, d2] => { results := [.lit (.bool false)], args := [d1, d2] }
  | _ => none }
def TroopOneWrongFalsely : Prop := troopOneRow.holds Try.pinned (OpenSpec.ofChange troopOneWrong)

/-- 'mustkeep.TroopNear': WHATEVER THE INPUT: true; the input reads as it did. -/
def troopNearSpec : ChangeSpec := { name := "troopNear", fn := fun _ => fun
  | [d1, d2, d3, d4] => { results := [.lit (.bool true)], args := [d1, d2, d3, d4] }
  | _ => none }
def troopNearRow : OpenClaim := { program := "ytibpobmeonfljaa", sum := "8b38fccb9808c91faf9285a14f9b40aa8e4025fcf0534185066470f3ed4bc2f2", func := "musterfield/mustkeep.TroopNear", spec := "troopNear", unfollowed := true, recurses := true, plainKeys := false, apart := false }
def TroopNearSaid : Prop := troopNearRow.holds Try.pinned (OpenSpec.ofChange troopNearSpec)

/-- ITS FALSE NEIGHBOUR: 'it returns false'. Refute it at one input. -/
def troopNearWrong : ChangeSpec := { name := "troopNear", fn := fun _ => fun
  | [d1, d2, d3, d4] => { results := [.lit (.bool false)], args := [d1, d2, d3, d4] }
  | _ => none }
def TroopNearWrongFalsely : Prop := troopNearRow.holds Try.pinned (OpenSpec.ofChange troopNearWrong)

/-- 'mustkeep.TroopMark': WHATEVER THE INPUT: true; the input reads as it did. -/
def troopMarkSpec : ChangeSpec := { name := "troopMark", fn := fun _ => fun
  | [d1, d2] => { results := [.lit (.bool true)], args := [d1, d2] }
  | _ => none }
def troopMarkRow : OpenClaim := { program := "ytibpobmeonfljaa", sum := "8b38fccb9808c91faf9285a14f9b40aa8e4025fcf0534185066470f3ed4bc2f2", func := "musterfield/mustkeep.TroopMark", spec := "troopMark", unfollowed := true, recurses := true, plainKeys := false, apart := false }
def TroopMarkSaid : Prop := troopMarkRow.holds Try.pinned (OpenSpec.ofChange troopMarkSpec)

/-- ITS FALSE NEIGHBOUR: 'it returns false'. Refute it at one input. -/
def troopMarkWrong : ChangeSpec := { name := "troopMark", fn := fun _ => fun
  | [d1, d2] => { results := [.lit (.bool false)], args := [d1, d2] }
  | _ => none }
def TroopMarkWrongFalsely : Prop := troopMarkRow.holds Try.pinned (OpenSpec.ofChange troopMarkWrong)

/- THE SECOND FORM. 'bulk': how many values and letters a reading holds, each counted each time it is reached (what is shared counts as often as it is met; a slice's spare places count too). A statement '..UptoSaid' is the law's where the arguments, and the package variables that the reading takes, are together of bulk at most 1048576: NARROWER than '..Said'. Prove '..Said' where nothing that the law and all that it calls make is longer than what came in: it says more and counts as full. Else prove '..UptoSaid'. A law counts once. -/
mutual
def uptoBulk {H : Type} : DataW H → Nat
  | .lit (.string bytes) => bytes.length + 1
  | .lit _ => 1
  | .nil => 1
  | .ptr d => uptoBulk d + 1
  | .slice elems spare => uptoBulkAll elems + uptoBulkAll spare + 1
  | .agg parts => uptoBulkAll parts + 1
  | .iface _ d => uptoBulk d + 1
  | .map entries => uptoBulkEntries entries + 1
  | .held _ => 1
def uptoBulkAll {H : Type} : List (DataW H) → Nat
  | [] => 0
  | d :: r => uptoBulk d + uptoBulkAll r
def uptoBulkEntries {H : Type} : List (Lit × DataW H) → Nat
  | [] => 0
  | x :: r => uptoBulkEntry x + uptoBulkEntries r
def uptoBulkEntry {H : Type} : Lit × DataW H → Nat
  | (.string bytes, d) => bytes.length + uptoBulk d + 1
  | (_, d) => uptoBulk d + 1
 end
def uptoSmall : (H : Type) → List (DataW H) → Bool := fun _ ds => decide (uptoBulkAll ds ≤ 1048576)
def OpenSpec.upto (s : _root_.Go.ChangeSpec) : _root_.Go.OpenSpec := { _root_.Go.OpenSpec.ofChange s with cond := some uptoSmall }

/-- 'mustlaw.TroopChecks', WHERE WHAT IT READS IS OF BULK AT MOST 1048576: true; the input reads as it did. -/
def troopChecksUptoRow : OpenClaim := { program := "ytibpobmeonfljaa", sum := "8b38fccb9808c91faf9285a14f9b40aa8e4025fcf0534185066470f3ed4bc2f2", func := "musterfield/mustlaw.TroopChecks", spec := "troopChecks", unfollowed := true, recurses := true, plainKeys := false, apart := false, narrowed := true }
def TroopChecksUptoSaid : Prop := troopChecksUptoRow.holds Try.pinned (OpenSpec.upto troopChecksSpec)

/-- 'mustlaw.TroopFinds', WHERE WHAT IT READS IS OF BULK AT MOST 1048576: true; the input reads as it did. -/
def troopFindsUptoRow : OpenClaim := { program := "ytibpobmeonfljaa", sum := "8b38fccb9808c91faf9285a14f9b40aa8e4025fcf0534185066470f3ed4bc2f2", func := "musterfield/mustlaw.TroopFinds", spec := "troopFinds", unfollowed := true, recurses := true, plainKeys := false, apart := false, narrowed := true }
def TroopFindsUptoSaid : Prop := troopFindsUptoRow.holds Try.pinned (OpenSpec.upto troopFindsSpec)

/-- 'mustkeep.TroopOne', WHERE WHAT IT READS IS OF BULK AT MOST 1048576: true; the input reads as it did. -/
def troopOneUptoRow : OpenClaim := { program := "ytibpobmeonfljaa", sum := "8b38fccb9808c91faf9285a14f9b40aa8e4025fcf0534185066470f3ed4bc2f2", func := "musterfield/mustkeep.TroopOne", spec := "troopOne", unfollowed := true, recurses := true, plainKeys := false, apart := false, narrowed := true }
def TroopOneUptoSaid : Prop := troopOneUptoRow.holds Try.pinned (OpenSpec.upto troopOneSpec)

/-- 'mustkeep.TroopNear', WHERE WHAT IT READS IS OF BULK AT MOST 1048576: true; the input reads as it did. -/
def troopNearUptoRow : OpenClaim := { program := "ytibpobmeonfljaa", sum := "8b38fccb9808c91faf9285a14f9b40aa8e4025fcf0534185066470f3ed4bc2f2", func := "musterfield/mustkeep.TroopNear", spec := "troopNear", unfollowed := true, recurses := true, plainKeys := false, apart := false, narrowed := true }
def TroopNearUptoSaid : Prop := troopNearUptoRow.holds Try.pinned (OpenSpec.upto troopNearSpec)

/-- 'mustkeep.TroopMark', WHERE WHAT IT READS IS OF BULK AT MOST 1048576: true; the input reads as it did. -/
def troopMarkUptoRow : OpenClaim := { program := "ytibpobmeonfljaa", sum := "8b38fccb9808c91faf9285a14f9b40aa8e4025fcf0534185066470f3ed4bc2f2", func := "musterfield/mustkeep.TroopMark", spec := "troopMark", unfollowed := true, recurses := true, plainKeys := false, apart := false, narrowed := true }
def TroopMarkUptoSaid : Prop := troopMarkUptoRow.holds Try.pinned (OpenSpec.upto troopMarkSpec)

end Rows
end Go.Proofs.Ytibpobmeonfljaa
