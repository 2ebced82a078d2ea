/-
  No cell of these rows narrows 'for every input' (looked for: loops, veiled, ifaces, maps, wideKeys, modest, calm, conditions, laid).
  DERIVED. THE GIVEN ROWS OF THIS SEAT. 4 by the template 'for every input the law returns true; each argument reads behind the call as it read before'; 0 by the template 'total and deterministic' (their statements: YteemcighpoomhaaTotals.lean).
  GIVEN WITH THE SEED: the statements are not yours to turn. If you find one false, say at which input.
  Laid BY PROGRAM, IN A SANDBOX (cutbox-rows.mjs): the forced cells as the released guide's own fill.sh prints them over the translation d30ae7e6437ad43a… (all of the seat's roots in one cut). By AI agents, Wed Nov 11 2026. No macro, syntax, notation, axiom, sorry.
-/
import Derived.Test.YteemcighpoomhaaChecked
import GoSem.Claim
import GoSem.ClaimJoined
import GoSem.ClaimMapViews
import Derived.JoinedTies
import Derived.KernelRfl
namespace Go.Proofs.Yteemcighpoomhaa
/- THE CELL 'sum', in the pinned program and in every row, IS THE sha256 OF THE DUMP (.gsa) THAT YteemcighpoomhaaProg.lean LOADS. Nothing in Lean hashes anything: it is a label: what it is worth is what the hold of that sum in a sandbox is worth. -/
noncomputable def Try.pinned : Pinned := { name := "yteemcighpoomhaa", sum := "d30ae7e6437ad43aecbbd8c967a32778e4584bee85e7eb14a69ae6037172dcbe", checked := Try.checked }
namespace Rows
def none {H : Type} : Left H := { results := [], args := [] }

/-- 'mustlaw.SightSays': WHATEVER THE INPUT: true; the input reads as it did. -/
def sightSaysSpec : ChangeSpec := { name := "sightSays", fn := fun _ => fun
  | [d1, d2, d3, d4] => { results := [.lit (.bool true)], args := [d1, d2, d3, d4] }
  | _ => none }
def sightSaysRow : OpenClaim := { program := "yteemcighpoomhaa", sum := "d30ae7e6437ad43aecbbd8c967a32778e4584bee85e7eb14a69ae6037172dcbe", func := "musterfield/mustlaw.SightSays", spec := "sightSays", unfollowed := true, recurses := true, apart := false }
def SightSaysSaid : Prop := sightSaysRow.holds Try.pinned (OpenSpec.ofChange sightSaysSpec)

/-- ITS FALSE NEIGHBOUR: 'it returns false'. Refute it at one input. -/
def sightSaysWrong : ChangeSpec := { name := "sightSays", fn := fun _ => fun
  | [d1, d2, d3, d4] => { results := [.lit (.bool false)], args := [d1, d2, d3, d4] }
  | _ => none }
def SightSaysWrongFalsely : Prop := sightSaysRow.holds Try.pinned (OpenSpec.ofChange sightSaysWrong)

/-- 'mustkeep.SightBoth': WHATEVER THE INPUT: true; the input reads as it did. -/
def sightBothSpec : ChangeSpec := { name := "sightBoth", fn := fun _ => fun
  | [d1, d2, d3] => { results := [.lit (.bool true)], args := [d1, d2, d3] }
  | _ => none }
def sightBothRow : OpenClaim := { program := "yteemcighpoomhaa", sum := "d30ae7e6437ad43aecbbd8c967a32778e4584bee85e7eb14a69ae6037172dcbe", func := "musterfield/mustkeep.SightBoth", spec := "sightBoth", inPlace := ["internal/bytealg.IndexByteString", "internal/bytealg.IndexString", "internal/bytealg.CountString"], unfollowed := true, recurses := true, named := ["internal/bytealg.MaxLen"], apart := false }
def SightBothSaid : Prop := sightBothRow.holds Try.pinned (OpenSpec.ofChange sightBothSpec)

/-- ITS FALSE NEIGHBOUR: 'it returns false'. Refute it at one input. -/
def sightBothWrong : ChangeSpec := { name := "sightBoth", fn := fun _ => fun
  | [d1, d2, d3] => { results := [.lit (.bool false)], args := [d1, d2, d3] }
  | _ => none }
def SightBothWrongFalsely : Prop := sightBothRow.holds Try.pinned (OpenSpec.ofChange sightBothWrong)

/-- 'mustkeep.SightMore': WHATEVER THE INPUT: true; the input reads as it did. -/
def sightMoreSpec : ChangeSpec := { name := "sightMore", fn := fun _ => fun
  | [d1, d2, d3, d4, d5] => { results := [.lit (.bool true)], args := [d1, d2, d3, d4, d5] }
  | _ => none }
def sightMoreRow : OpenClaim := { program := "yteemcighpoomhaa", sum := "d30ae7e6437ad43aecbbd8c967a32778e4584bee85e7eb14a69ae6037172dcbe", func := "musterfield/mustkeep.SightMore", spec := "sightMore", inPlace := ["internal/bytealg.IndexByteString", "internal/bytealg.IndexString", "internal/bytealg.CountString"], unfollowed := true, recurses := true, named := ["internal/bytealg.MaxLen"], apart := false }
def SightMoreSaid : Prop := sightMoreRow.holds Try.pinned (OpenSpec.ofChange sightMoreSpec)

/-- ITS FALSE NEIGHBOUR: 'it returns false'. Refute it at one input. -/
def sightMoreWrong : ChangeSpec := { name := "sightMore", fn := fun _ => fun
  | [d1, d2, d3, d4, d5] => { results := [.lit (.bool false)], args := [d1, d2, d3, d4, d5] }
  | _ => none }
def SightMoreWrongFalsely : Prop := sightMoreRow.holds Try.pinned (OpenSpec.ofChange sightMoreWrong)

/-- 'mustkeep.SightOpen': WHATEVER THE INPUT: true; the input reads as it did. -/
def sightOpenSpec : ChangeSpec := { name := "sightOpen", fn := fun _ => fun
  | [d1, d2, d3] => { results := [.lit (.bool true)], args := [d1, d2, d3] }
  | _ => none }
def sightOpenRow : OpenClaim := { program := "yteemcighpoomhaa", sum := "d30ae7e6437ad43aecbbd8c967a32778e4584bee85e7eb14a69ae6037172dcbe", func := "musterfield/mustkeep.SightOpen", spec := "sightOpen", inPlace := ["internal/bytealg.IndexByteString", "internal/bytealg.IndexString", "internal/bytealg.CountString"], unfollowed := true, recurses := true, named := ["internal/bytealg.MaxLen"], apart := false }
def SightOpenSaid : Prop := sightOpenRow.holds Try.pinned (OpenSpec.ofChange sightOpenSpec)

/-- ITS FALSE NEIGHBOUR: 'it returns false'. Refute it at one input. -/
def sightOpenWrong : ChangeSpec := { name := "sightOpen", fn := fun _ => fun
  | [d1, d2, d3] => { results := [.lit (.bool false)], args := [d1, d2, d3] }
  | _ => none }
def SightOpenWrongFalsely : Prop := sightOpenRow.holds Try.pinned (OpenSpec.ofChange sightOpenWrong)

/- THE SECOND FORM. 'bulk': how many values and letters a reading holds, each counted each time it is reached (what is shared counts as often as it is met; a slice's spare places count too). A statement '..UptoSaid' is the law's where the arguments, and the package variables that the reading takes, are together of bulk at most 1048576: NARROWER than '..Said'. Prove '..Said' where nothing that the law and all that it calls make is longer than what came in: it says more and counts as full. Else prove '..UptoSaid'. A law counts once. -/
mutual
def uptoBulk {H : Type} : DataW H → Nat
  | .lit (.string bytes) => bytes.length + 1
  | .lit _ => 1
  | .nil => 1
  | .ptr d => uptoBulk d + 1
  | .slice elems spare => uptoBulkAll elems + uptoBulkAll spare + 1
  | .agg parts => uptoBulkAll parts + 1
  | .iface _ d => uptoBulk d + 1
  | .map entries => uptoBulkEntries entries + 1
  | .held _ => 1
def uptoBulkAll {H : Type} : List (DataW H) → Nat
  | [] => 0
  | d :: r => uptoBulk d + uptoBulkAll r
def uptoBulkEntries {H : Type} : List (Lit × DataW H) → Nat
  | [] => 0
  | x :: r => uptoBulkEntry x + uptoBulkEntries r
def uptoBulkEntry {H : Type} : Lit × DataW H → Nat
  | (.string bytes, d) => bytes.length + uptoBulk d + 1
  | (_, d) => uptoBulk d + 1
 end
def uptoSmall : (H : Type) → List (DataW H) → Bool := fun _ ds => decide (uptoBulkAll ds ≤ 1048576)
def OpenSpec.upto (s : _root_.Go.ChangeSpec) : _root_.Go.OpenSpec := { _root_.Go.OpenSpec.ofChange s with cond := some uptoSmall }

/-- 'mustlaw.SightSays', WHERE WHAT IT READS IS OF BULK AT MOST 1048576: true; the input reads as it did. -/
def sightSaysUptoRow : OpenClaim := { program := "yteemcighpoomhaa", sum := "d30ae7e6437ad43aecbbd8c967a32778e4584bee85e7eb14a69ae6037172dcbe", func := "musterfield/mustlaw.SightSays", spec := "sightSays", unfollowed := true, recurses := true, apart := false, narrowed := true }
def SightSaysUptoSaid : Prop := sightSaysUptoRow.holds Try.pinned (OpenSpec.upto sightSaysSpec)

/-- 'mustkeep.SightBoth', WHERE WHAT IT READS IS OF BULK AT MOST 1048576: true; the input reads as it did. -/
def sightBothUptoRow : OpenClaim := { program := "yteemcighpoomhaa", sum := "d30ae7e6437ad43aecbbd8c967a32778e4584bee85e7eb14a69ae6037172dcbe", func := "musterfield/mustkeep.SightBoth", spec := "sightBoth", inPlace := ["internal/bytealg.IndexByteString", "internal/bytealg.IndexString", "internal/bytealg.CountString"], unfollowed := true, recurses := true, named := ["internal/bytealg.MaxLen"], apart := false, narrowed := true }
def SightBothUptoSaid : Prop := sightBothUptoRow.holds Try.pinned (OpenSpec.upto sightBothSpec)

/-- 'mustkeep.SightMore', WHERE WHAT IT READS IS OF BULK AT MOST 1048576: true; the input reads as it did. -/
def sightMoreUptoRow : OpenClaim := { program := "yteemcighpoomhaa", sum := "d30ae7e6437ad43aecbbd8c967a32778e4584bee85e7eb14a69ae6037172dcbe", func := "musterfield/mustkeep.SightMore", spec := "sightMore", inPlace := ["internal/bytealg.IndexByteString", "internal/bytealg.IndexString", "internal/bytealg.CountString"], unfollowed := true, recurses := true, named := ["internal/bytealg.MaxLen"], apart := false, narrowed := true }
def SightMoreUptoSaid : Prop := sightMoreUptoRow.holds Try.pinned (OpenSpec.upto sightMoreSpec)

/-- 'mustkeep.SightOpen', WHERE WHAT IT READS IS OF BULK AT MOST 1048576: true; the input reads as it did. -/
def sightOpenUptoRow : OpenClaim := { program := "yteemcighpoomhaa", sum := "d30ae7e6437ad43aecbbd8c967a32778e4584bee85e7eb14a69ae6037172dcbe", func := "musterfield/mustkeep.SightOpen", spec := "sightOpen", inPlace := ["internal/bytealg.IndexByteString", "internal/bytealg.IndexString", "internal/bytealg.CountString"], unfollowed := true, recurses := true, named := ["internal/bytealg.MaxLen"], apart := false, narrowed := true }
def SightOpenUptoSaid : Prop := sightOpenUptoRow.holds Try.pinned (OpenSpec.upto sightOpenSpec)

end Rows
end Go.Proofs.Yteemcighpoomhaa
