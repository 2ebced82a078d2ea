/-
  No cell of these rows narrows 'for every input' (looked for: loops, veiled, ifaces, maps, wideKeys, modest, calm, conditions, laid).
  DERIVED. THE GIVEN ROWS OF THIS SEAT. 5 by the template 'for every input the law returns true; each argument reads behind the call as it read before'; 0 by the template 'total and deterministic' (their statements: YtjbfnibhmojlfaaTotals.lean).
  GIVEN WITH THE SEED: the statements are not yours to turn. If you find one false, say at which input.
  Laid BY PROGRAM, IN A SANDBOX (cutbox-rows.mjs): the forced cells as the released guide's own fill.sh prints them over the translation 3d9c2e9cde7af7fc… (all of the seat's roots in one cut). By AI agents, Wed Nov 11 2026. No macro, syntax, notation, axiom, sorry.
-/
import Derived.Test.YtjbfnibhmojlfaaChecked
import GoSem.Claim
import GoSem.ClaimJoined
import GoSem.ClaimMapViews
import Derived.JoinedTies
import Derived.KernelRfl
namespace Go.Proofs.Ytjbfnibhmojlfaa
/- THE CELL 'sum', in the pinned program and in every row, IS THE sha256 OF THE DUMP (.gsa) THAT YtjbfnibhmojlfaaProg.lean LOADS. Nothing in Lean hashes anything: it is a label: what it is worth is what the hold of that sum in a sandbox is worth. -/
noncomputable def Try.pinned : Pinned := { name := "ytjbfnibhmojlfaa", sum := "3d9c2e9cde7af7fc2a15bdc2b5b0473805d83cdce017215bae6b7dea8632e6bb", checked := Try.checked }
namespace Rows
def none {H : Type} : Left H := { results := [], args := [] }

/-- 'mustlaw.HitSays': WHATEVER THE INPUT: true; the input reads as it did. -/
def hitSaysSpec : ChangeSpec := { name := "hitSays", fn := fun _ => fun
  | [d1, d2] => { results := [.lit (.bool true)], args := [d1, d2] }
  | _ => none }
def hitSaysRow : OpenClaim := { program := "ytjbfnibhmojlfaa", sum := "3d9c2e9cde7af7fc2a15bdc2b5b0473805d83cdce017215bae6b7dea8632e6bb", func := "musterfield/mustlaw.HitSays", spec := "hitSays", unfollowed := true, recurses := true, plainKeys := false, apart := false }
def HitSaysSaid : Prop := hitSaysRow.holds Try.pinned (OpenSpec.ofChange hitSaysSpec)

/-- ITS FALSE NEIGHBOUR: 'it returns false'. Refute it at one input. -/
def hitSaysWrong : ChangeSpec := { name := "hitSays", fn := fun _ => fun
  | [d1, d2] => { results := [.lit (.bool false)], args := [d1, d2] }
  | _ => none }
def HitSaysWrongFalsely : Prop := hitSaysRow.holds Try.pinned (OpenSpec.ofChange hitSaysWrong)

/-- 'mustkeep.HitAny': WHATEVER THE INPUT: true; the input reads as it did. -/
def hitAnySpec : ChangeSpec := { name := "hitAny", fn := fun _ => fun
  | [d1, d2] => { results := [.lit (.bool true)], args := [d1, d2] }
  | _ => none }
def hitAnyRow : OpenClaim := { program := "ytjbfnibhmojlfaa", sum := "3d9c2e9cde7af7fc2a15bdc2b5b0473805d83cdce017215bae6b7dea8632e6bb", func := "musterfield/mustkeep.HitAny", spec := "hitAny", unfollowed := true, recurses := true, plainKeys := false, apart := false }
def HitAnySaid : Prop := hitAnyRow.holds Try.pinned (OpenSpec.ofChange hitAnySpec)

/-- ITS FALSE NEIGHBOUR: 'it returns false'. Refute it at one input. -/
def hitAnyWrong : ChangeSpec := { name := "hitAny", fn := fun _ => fun
  | [d1, d2] => { results := [.lit (.bool false)], args := [d1, d2] }
  | _ => none }
def HitAnyWrongFalsely : Prop := hitAnyRow.holds Try.pinned (OpenSpec.ofChange hitAnyWrong)

/-- 'mustkeep.HitRight': WHATEVER THE INPUT: true; the input reads as it did. -/
def hitRightSpec : ChangeSpec := { name := "hitRight", fn := fun _ => fun
  | [d1, d2] => { results := [.lit (.bool true)], args := [d1, d2] }
  | _ => none }
def hitRightRow : OpenClaim := { program := "ytjbfnibhmojlfaa", sum := "3d9c2e9cde7af7fc2a15bdc2b5b0473805d83cdce017215bae6b7dea8632e6bb", func := "musterfield/mustkeep.HitRight", spec := "hitRight", unfollowed := true, recurses := true, plainKeys := false, apart := false }
def HitRightSaid : Prop := hitRightRow.holds Try.pinned (OpenSpec.ofChange hitRightSpec)

/-- ITS FALSE NEIGHBOUR: 'it returns false'. Refute it at one input. -/
def hitRightWrong : ChangeSpec := { name := "hitRight", fn := fun _ => fun
  | [d1, d2] => { results := [.lit (.bool false)], args := [d1, d2] }
  | _ => none }
def HitRightWrongFalsely : Prop := hitRightRow.holds Try.pinned (OpenSpec.ofChange hitRightWrong)

/-- 'mustkeep.HitFriends': WHATEVER THE INPUT: true; the input reads as it did. -/
def hitFriendsSpec : ChangeSpec := { name := "hitFriends", fn := fun _ => fun
  | [d1, d2] => { results := [.lit (.bool true)], args := [d1, d2] }
  | _ => none }
def hitFriendsRow : OpenClaim := { program := "ytjbfnibhmojlfaa", sum := "3d9c2e9cde7af7fc2a15bdc2b5b0473805d83cdce017215bae6b7dea8632e6bb", func := "musterfield/mustkeep.HitFriends", spec := "hitFriends", unfollowed := true, recurses := true, plainKeys := false, apart := false }
def HitFriendsSaid : Prop := hitFriendsRow.holds Try.pinned (OpenSpec.ofChange hitFriendsSpec)

/-- ITS FALSE NEIGHBOUR: 'it returns false'. Refute it at one input. -/
def hitFriendsWrong : ChangeSpec := { name := "hitFriends", fn := fun _ => fun
  | [d1, d2] => { results := [.lit (.bool false)], args := [d1, d2] }
  | _ => none }
def HitFriendsWrongFalsely : Prop := hitFriendsRow.holds Try.pinned (OpenSpec.ofChange hitFriendsWrong)

/-- 'mustkeep.HitOwn': WHATEVER THE INPUT: true; the input reads as it did. -/
def hitOwnSpec : ChangeSpec := { name := "hitOwn", fn := fun _ => fun
  | [d1, d2] => { results := [.lit (.bool true)], args := [d1, d2] }
  | _ => none }
def hitOwnRow : OpenClaim := { program := "ytjbfnibhmojlfaa", sum := "3d9c2e9cde7af7fc2a15bdc2b5b0473805d83cdce017215bae6b7dea8632e6bb", func := "musterfield/mustkeep.HitOwn", spec := "hitOwn", unfollowed := true, recurses := true, plainKeys := false, apart := false }
def HitOwnSaid : Prop := hitOwnRow.holds Try.pinned (OpenSpec.ofChange hitOwnSpec)

/-- ITS FALSE NEIGHBOUR: 'it returns false'. Refute it at one input. -/
def hitOwnWrong : ChangeSpec := { name := "hitOwn", fn := fun _ => fun
  | [d1, d2] => { results := [.lit (.bool false)], args := [d1, d2] }
  | _ => none }
def HitOwnWrongFalsely : Prop := hitOwnRow.holds Try.pinned (OpenSpec.ofChange hitOwnWrong)

/- THE SECOND FORM. 'bulk': how many values and letters a reading holds, each counted each time it is reached (what is shared counts as often as it is met; a slice's spare places count too). A statement '..UptoSaid' is the law's where the arguments, and the package variables that the reading takes, are together of bulk at most 1048576: NARROWER than '..Said'. Prove '..Said' where nothing that the law and all that it calls make is longer than what came in: it says more and counts as full. Else prove '..UptoSaid'. A law counts once. -/
mutual
def uptoBulk {H : Type} : DataW H → Nat
  | .lit (.string bytes) => bytes.length + 1
  | .lit _ => 1
  | .nil => 1
  | .ptr d => uptoBulk d + 1
  | .slice elems spare => uptoBulkAll elems + uptoBulkAll spare + 1
  | .agg parts => uptoBulkAll parts + 1
  | .iface _ d => uptoBulk d + 1
  | .map entries => uptoBulkEntries entries + 1
  | .held _ => 1
def uptoBulkAll {H : Type} : List (DataW H) → Nat
  | [] => 0
  | d :: r => uptoBulk d + uptoBulkAll r
def uptoBulkEntries {H : Type} : List (Lit × DataW H) → Nat
  | [] => 0
  | x :: r => uptoBulkEntry x + uptoBulkEntries r
def uptoBulkEntry {H : Type} : Lit × DataW H → Nat
  | (.string bytes, d) => bytes.length + uptoBulk d + 1
  | (_, d) => uptoBulk d + 1
 end
def uptoSmall : (H : Type) → List (DataW H) → Bool := fun _ ds => decide (uptoBulkAll ds ≤ 1048576)
def OpenSpec.upto (s : _root_.Go.ChangeSpec) : _root_.Go.OpenSpec := { _root_.Go.OpenSpec.ofChange s with cond := some uptoSmall }

/-- 'mustlaw.HitSays', WHERE WHAT IT READS IS OF BULK AT MOST 1048576: true; the input reads as it did. -/
def hitSaysUptoRow : OpenClaim := { program := "ytjbfnibhmojlfaa", sum := "3d9c2e9cde7af7fc2a15bdc2b5b0473805d83cdce017215bae6b7dea8632e6bb", func := "musterfield/mustlaw.HitSays", spec := "hitSays", unfollowed := true, recurses := true, plainKeys := false, apart := false, narrowed := true }
def HitSaysUptoSaid : Prop := hitSaysUptoRow.holds Try.pinned (OpenSpec.upto hitSaysSpec)

/-- 'mustkeep.HitAny', WHERE WHAT IT READS IS OF BULK AT MOST 1048576: true; the input reads as it did. -/
def hitAnyUptoRow : OpenClaim := { program := "ytjbfnibhmojlfaa", sum := "3d9c2e9cde7af7fc2a15bdc2b5b0473805d83cdce017215bae6b7dea8632e6bb", func := "musterfield/mustkeep.HitAny", spec := "hitAny", unfollowed := true, recurses := true, plainKeys := false, apart := false, narrowed := true }
def HitAnyUptoSaid : Prop := hitAnyUptoRow.holds Try.pinned (OpenSpec.upto hitAnySpec)

/-- 'mustkeep.HitRight', WHERE WHAT IT READS IS OF BULK AT MOST 1048576: true; the input reads as it did. -/
def hitRightUptoRow : OpenClaim := { program := "ytjbfnibhmojlfaa", sum := "3d9c2e9cde7af7fc2a15bdc2b5b0473805d83cdce017215bae6b7dea8632e6bb", func := "musterfield/mustkeep.HitRight", spec := "hitRight", unfollowed := true, recurses := true, plainKeys := false, apart := false, narrowed := true }
def HitRightUptoSaid : Prop := hitRightUptoRow.holds Try.pinned (OpenSpec.upto hitRightSpec)

/-- 'mustkeep.HitFriends', WHERE WHAT IT READS IS OF BULK AT MOST 1048576: true; the input reads as it did. -/
def hitFriendsUptoRow : OpenClaim := { program := "ytjbfnibhmojlfaa", sum := "3d9c2e9cde7af7fc2a15bdc2b5b0473805d83cdce017215bae6b7dea8632e6bb", func := "musterfield/mustkeep.HitFriends", spec := "hitFriends", unfollowed := true, recurses := true, plainKeys := false, apart := false, narrowed := true }
def HitFriendsUptoSaid : Prop := hitFriendsUptoRow.holds Try.pinned (OpenSpec.upto hitFriendsSpec)

/-- 'mustkeep.HitOwn', WHERE WHAT IT READS IS OF BULK AT MOST 1048576: true; the input reads as it did. -/
def hitOwnUptoRow : OpenClaim := { program := "ytjbfnibhmojlfaa", sum := "3d9c2e9cde7af7fc2a15bdc2b5b0473805d83cdce017215bae6b7dea8632e6bb", func := "musterfield/mustkeep.HitOwn", spec := "hitOwn", unfollowed := true, recurses := true, plainKeys := false, apart := false, narrowed := true }
def HitOwnUptoSaid : Prop := hitOwnUptoRow.holds Try.pinned (OpenSpec.upto hitOwnSpec)

end Rows
end Go.Proofs.Ytjbfnibhmojlfaa
