/-
  No cell of these rows narrows 'for every input' (looked for: loops, veiled, ifaces, maps, wideKeys, modest, calm, conditions, laid).
  DERIVED. THE GIVEN ROWS OF THIS SEAT. 6 by the template 'for every input the law returns true; each argument reads behind the call as it read before'; 0 by the template 'total and deterministic' (their statements: YtnbbfnlfcncgnaaTotals.lean).
  GIVEN WITH THE SEED: the statements are not yours to turn. If you find one false, say at which input.
  Laid BY PROGRAM, IN A SANDBOX (cutbox-rows.mjs): the forced cells as the released guide's own fill.sh prints them over the translation 5379d25b4ebbc0fa… (all of the seat's roots in one cut). By AI agents, Wed Nov 11 2026. No macro, syntax, notation, axiom, sorry.
-/
import Derived.Test.YtnbbfnlfcncgnaaChecked
import GoSem.Claim
import GoSem.ClaimJoined
import GoSem.ClaimMapViews
import Derived.JoinedTies
import Derived.KernelRfl
namespace Go.Proofs.Ytnbbfnlfcncgnaa
/- THE CELL 'sum', in the pinned program and in every row, IS THE sha256 OF THE DUMP (.gsa) THAT YtnbbfnlfcncgnaaProg.lean LOADS. Nothing in Lean hashes anything: it is a label: what it is worth is what the hold of that sum in a sandbox is worth. -/
noncomputable def Try.pinned : Pinned := { name := "ytnbbfnlfcncgnaa", sum := "5379d25b4ebbc0fa8f543b38e0cf02bdf6a062e456e1d11037bcace8d3692f8a", checked := Try.checked }
namespace Rows
def none {H : Type} : Left H := { results := [], args := [] }

/-- 'mustlaw.MarchSays': WHATEVER THE INPUT: true; the input reads as it did. -/
def marchSaysSpec : ChangeSpec := { name := "marchSays", fn := fun _ => fun
  | [d1, d2, d3, d4, d5] => { results := [.lit (.bool true)], args := [d1, d2, d3, d4, d5] }
  | _ => none }
def marchSaysRow : OpenClaim := { program := "ytnbbfnlfcncgnaa", sum := "5379d25b4ebbc0fa8f543b38e0cf02bdf6a062e456e1d11037bcace8d3692f8a", func := "musterfield/mustlaw.MarchSays", spec := "marchSays", unfollowed := true, recurses := true, plainKeys := false, apart := false }
def MarchSaysSaid : Prop := marchSaysRow.holds Try.pinned (OpenSpec.ofChange marchSaysSpec)

/-- ITS FALSE NEIGHBOUR: 'it returns false'. Refute it at one input. -/
def marchSaysWrong : ChangeSpec := { name := "marchSays", fn := fun _ => fun
  | [d1, d2, d3, d4, d5] => { results := [.lit (.bool false)], args := [d1, d2, d3, d4, d5] }
  | _ => none }
def MarchSaysWrongFalsely : Prop := marchSaysRow.holds Try.pinned (OpenSpec.ofChange marchSaysWrong)

/-- 'mustkeep.MarchRight': WHATEVER THE INPUT: true; the input reads as it did. -/
def marchRightSpec : ChangeSpec := { name := "marchRight", fn := fun _ => fun
  | [d1, d2] => { results := [.lit (.bool true)], args := [d1, d2] }
  | _ => none }
def marchRightRow : OpenClaim := { program := "ytnbbfnlfcncgnaa", sum := "5379d25b4ebbc0fa8f543b38e0cf02bdf6a062e456e1d11037bcace8d3692f8a", func := "musterfield/mustkeep.MarchRight", spec := "marchRight", unfollowed := true, recurses := true, plainKeys := false, apart := false }
def MarchRightSaid : Prop := marchRightRow.holds Try.pinned (OpenSpec.ofChange marchRightSpec)

/-- ITS FALSE NEIGHBOUR: 'it returns false'. Refute it at one input. -/
def marchRightWrong : ChangeSpec := { name := "marchRight", fn := fun _ => fun
  | [d1, d2] => { results := [.lit (.bool false)], args := [d1, d2] }
  | _ => none }
def MarchRightWrongFalsely : Prop := marchRightRow.holds Try.pinned (OpenSpec.ofChange marchRightWrong)

/-- 'mustkeep.MarchAny': WHATEVER THE INPUT: true; the input reads as it did. -/
def marchAnySpec : ChangeSpec := { name := "marchAny", fn := fun _ => fun
  | [d1, d2] => { results := [.lit (.bool true)], args := [d1, d2] }
  | _ => none }
def marchAnyRow : OpenClaim := { program := "ytnbbfnlfcncgnaa", sum := "5379d25b4ebbc0fa8f543b38e0cf02bdf6a062e456e1d11037bcace8d3692f8a", func := "musterfield/mustkeep.MarchAny", spec := "marchAny", unfollowed := true, recurses := true, plainKeys := false, apart := false }
def MarchAnySaid : Prop := marchAnyRow.holds Try.pinned (OpenSpec.ofChange marchAnySpec)

/-- ITS FALSE NEIGHBOUR: 'it returns false'. Refute it at one input. -/
def marchAnyWrong : ChangeSpec := { name := "marchAny", fn := fun _ => fun
  | [d1, d2] => { results := [.lit (.bool false)], args := [d1, d2] }
  | _ => none }
def MarchAnyWrongFalsely : Prop := marchAnyRow.holds Try.pinned (OpenSpec.ofChange marchAnyWrong)

/-- 'mustkeep.MarchComes': WHATEVER THE INPUT: true; the input reads as it did. -/
def marchComesSpec : ChangeSpec := { name := "marchComes", fn := fun _ => fun
  | [d1, d2, d3] => { results := [.lit (.bool true)], args := [d1, d2, d3] }
  | _ => none }
def marchComesRow : OpenClaim := { program := "ytnbbfnlfcncgnaa", sum := "5379d25b4ebbc0fa8f543b38e0cf02bdf6a062e456e1d11037bcace8d3692f8a", func := "musterfield/mustkeep.MarchComes", spec := "marchComes", unfollowed := true, recurses := true, plainKeys := false, apart := false }
def MarchComesSaid : Prop := marchComesRow.holds Try.pinned (OpenSpec.ofChange marchComesSpec)

/-- ITS FALSE NEIGHBOUR: 'it returns false'. Refute it at one input. -/
def marchComesWrong : ChangeSpec := { name := "marchComes", fn := fun _ => fun
  | [d1, d2, d3] => { results := [.lit (.bool false)], args := [d1, d2, d3] }
  | _ => none }
def MarchComesWrongFalsely : Prop := marchComesRow.holds Try.pinned (OpenSpec.ofChange marchComesWrong)

/-- 'mustkeep.MarchCuts': WHATEVER THE INPUT: true; the input reads as it did. -/
def marchCutsSpec : ChangeSpec := { name := "marchCuts", fn := fun _ => fun
  | [d1, d2, d3, d4, d5] => { results := [.lit (.bool true)], args := [d1, d2, d3, d4, d5] }
  | _ => none }
def marchCutsRow : OpenClaim := { program := "ytnbbfnlfcncgnaa", sum := "5379d25b4ebbc0fa8f543b38e0cf02bdf6a062e456e1d11037bcace8d3692f8a", func := "musterfield/mustkeep.MarchCuts", spec := "marchCuts", unfollowed := true, recurses := true, plainKeys := false, apart := false }
def MarchCutsSaid : Prop := marchCutsRow.holds Try.pinned (OpenSpec.ofChange marchCutsSpec)

/-- ITS FALSE NEIGHBOUR: 'it returns false'. Refute it at one input. -/
def marchCutsWrong : ChangeSpec := { name := "marchCuts", fn := fun _ => fun
  | [d1, d2, d3, d4, d5] => { results := [.lit (.bool false)], args := [d1, d2, d3, d4, d5] }
  | _ => none }
def MarchCutsWrongFalsely : Prop := marchCutsRow.holds Try.pinned (OpenSpec.ofChange marchCutsWrong)

/-- 'mustkeep.MarchOwn': WHATEVER THE INPUT: true; the input reads as it did. -/
def marchOwnSpec : ChangeSpec := { name := "marchOwn", fn := fun _ => fun
  | [d1, d2, d3, d4] => { results := [.lit (.bool true)], args := [d1, d2, d3, d4] }
  | _ => none }
def marchOwnRow : OpenClaim := { program := "ytnbbfnlfcncgnaa", sum := "5379d25b4ebbc0fa8f543b38e0cf02bdf6a062e456e1d11037bcace8d3692f8a", func := "musterfield/mustkeep.MarchOwn", spec := "marchOwn", unfollowed := true, recurses := true, plainKeys := false, apart := false }
def MarchOwnSaid : Prop := marchOwnRow.holds Try.pinned (OpenSpec.ofChange marchOwnSpec)

/-- ITS FALSE NEIGHBOUR: 'it returns false'. Refute it at one input. -/
def marchOwnWrong : ChangeSpec := { name := "marchOwn", fn := fun _ => fun
  | [d1, d2, d3, d4] => { results := [.lit (.bool false)], args := [d1, d2, d3, d4] }
  | _ => none }
def MarchOwnWrongFalsely : Prop := marchOwnRow.holds Try.pinned (OpenSpec.ofChange marchOwnWrong)

/- THE SECOND FORM. 'bulk': how many values and letters a reading holds, each counted each time it is reached (what is shared counts as often as it is met; a slice's spare places count too). A statement '..UptoSaid' is the law's where the arguments, and the package variables that the reading takes, are together of bulk at most 1048576: NARROWER than '..Said'. Prove '..Said' where nothing that the law and all that it calls make is longer than what came in: it says more and counts as full. Else prove '..UptoSaid'. A law counts once. -/
mutual
def uptoBulk {H : Type} : DataW H → Nat
  | .lit (.string bytes) => bytes.length + 1
  | .lit _ => 1
  | .nil => 1
  | .ptr d => uptoBulk d + 1
  | .slice elems spare => uptoBulkAll elems + uptoBulkAll spare + 1
  | .agg parts => uptoBulkAll parts + 1
  | .iface _ d => uptoBulk d + 1
  | .map entries => uptoBulkEntries entries + 1
  | .held _ => 1
def uptoBulkAll {H : Type} : List (DataW H) → Nat
  | [] => 0
  | d :: r => uptoBulk d + uptoBulkAll r
def uptoBulkEntries {H : Type} : List (Lit × DataW H) → Nat
  | [] => 0
  | x :: r => uptoBulkEntry x + uptoBulkEntries r
def uptoBulkEntry {H : Type} : Lit × DataW H → Nat
  | (.string bytes, d) => bytes.length + uptoBulk d + 1
  | (_, d) => uptoBulk d + 1
 end
def uptoSmall : (H : Type) → List (DataW H) → Bool := fun _ ds => decide (uptoBulkAll ds ≤ 1048576)
def OpenSpec.upto (s : _root_.Go.ChangeSpec) : _root_.Go.OpenSpec := { _root_.Go.OpenSpec.ofChange s with cond := some uptoSmall }

/-- 'mustlaw.MarchSays', WHERE WHAT IT READS IS OF BULK AT MOST 1048576: true; the input reads as it did. -/
def marchSaysUptoRow : OpenClaim := { program := "ytnbbfnlfcncgnaa", sum := "5379d25b4ebbc0fa8f543b38e0cf02bdf6a062e456e1d11037bcace8d3692f8a", func := "musterfield/mustlaw.MarchSays", spec := "marchSays", unfollowed := true, recurses := true, plainKeys := false, apart := false, narrowed := true }
def MarchSaysUptoSaid : Prop := marchSaysUptoRow.holds Try.pinned (OpenSpec.upto marchSaysSpec)

/-- 'mustkeep.MarchRight', WHERE WHAT IT READS IS OF BULK AT MOST 1048576: true; the input reads as it did. -/
def marchRightUptoRow : OpenClaim := { program := "ytnbbfnlfcncgnaa", sum := "5379d25b4ebbc0fa8f543b38e0cf02bdf6a062e456e1d11037bcace8d3692f8a", func := "musterfield/mustkeep.MarchRight", spec := "marchRight", unfollowed := true, recurses := true, plainKeys := false, apart := false, narrowed := true }
def MarchRightUptoSaid : Prop := marchRightUptoRow.holds Try.pinned (OpenSpec.upto marchRightSpec)

/-- 'mustkeep.MarchAny', WHERE WHAT IT READS IS OF BULK AT MOST 1048576: true; the input reads as it did. -/
def marchAnyUptoRow : OpenClaim := { program := "ytnbbfnlfcncgnaa", sum := "5379d25b4ebbc0fa8f543b38e0cf02bdf6a062e456e1d11037bcace8d3692f8a", func := "musterfield/mustkeep.MarchAny", spec := "marchAny", unfollowed := true, recurses := true, plainKeys := false, apart := false, narrowed := true }
def MarchAnyUptoSaid : Prop := marchAnyUptoRow.holds Try.pinned (OpenSpec.upto marchAnySpec)

/-- 'mustkeep.MarchComes', WHERE WHAT IT READS IS OF BULK AT MOST 1048576: true; the input reads as it did. -/
def marchComesUptoRow : OpenClaim := { program := "ytnbbfnlfcncgnaa", sum := "5379d25b4ebbc0fa8f543b38e0cf02bdf6a062e456e1d11037bcace8d3692f8a", func := "musterfield/mustkeep.MarchComes", spec := "marchComes", unfollowed := true, recurses := true, plainKeys := false, apart := false, narrowed := true }
def MarchComesUptoSaid : Prop := marchComesUptoRow.holds Try.pinned (OpenSpec.upto marchComesSpec)

/-- 'mustkeep.MarchCuts', WHERE WHAT IT READS IS OF BULK AT MOST 1048576: true; the input reads as it did. -/
def marchCutsUptoRow : OpenClaim := { program := "ytnbbfnlfcncgnaa", sum := "5379d25b4ebbc0fa8f543b38e0cf02bdf6a062e456e1d11037bcace8d3692f8a", func := "musterfield/mustkeep.MarchCuts", spec := "marchCuts", unfollowed := true, recurses := true, plainKeys := false, apart := false, narrowed := true }
def MarchCutsUptoSaid : Prop := marchCutsUptoRow.holds Try.pinned (OpenSpec.upto marchCutsSpec)

/-- 'mustkeep.MarchOwn', WHERE WHAT IT READS IS OF BULK AT MOST 1048576: true; the input reads as it did. -/
def marchOwnUptoRow : OpenClaim := { program := "ytnbbfnlfcncgnaa", sum := "5379d25b4ebbc0fa8f543b38e0cf02bdf6a062e456e1d11037bcace8d3692f8a", func := "musterfield/mustkeep.MarchOwn", spec := "marchOwn", unfollowed := true, recurses := true, plainKeys := false, apart := false, narrowed := true }
def MarchOwnUptoSaid : Prop := marchOwnUptoRow.holds Try.pinned (OpenSpec.upto marchOwnSpec)

end Rows
end Go.Proofs.Ytnbbfnlfcncgnaa
