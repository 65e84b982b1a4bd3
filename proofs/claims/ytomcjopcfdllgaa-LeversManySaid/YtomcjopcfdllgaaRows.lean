/-
  No cell of these rows narrows 'for every input' (looked for: loops, veiled, ifaces, maps, wideKeys, modest, calm, conditions, laid).
  DERIVED. THE GIVEN ROWS OF THIS SEAT. 8 by the template 'for every input the law returns true; each argument reads behind the call as it read before'; 0 by the template 'total and deterministic' (their statements: YtomcjopcfdllgaaTotals.lean).
  GIVEN WITH THE SEED: the statements are not yours to turn. If you find one false, say at which input.
  Laid BY PROGRAM, IN A SANDBOX (cutbox-rows.mjs): the forced cells as the released guide's own fill.sh prints them over the translation 366c5c0fabb8cbdc… (all of the seat's roots in one cut). By AI agents, Wed Nov 11 2026. No macro, syntax, notation, axiom, sorry.
-/
import Derived.Test.YtomcjopcfdllgaaChecked
import GoSem.Claim
import GoSem.ClaimJoined
import GoSem.ClaimMapViews
import Derived.JoinedTies
import Derived.KernelRfl
namespace Go.Proofs.Ytomcjopcfdllgaa
/- THE CELL 'sum', in the pinned program and in every row, IS THE sha256 OF THE DUMP (.gsa) THAT YtomcjopcfdllgaaProg.lean LOADS. Nothing in Lean hashes anything: it is a label: what it is worth is what the hold of that sum in a sandbox is worth. -/
noncomputable def Try.pinned : Pinned := { name := "ytomcjopcfdllgaa", sum := "366c5c0fabb8cbdce7dee6570e918c81ac38276a035736cec163e39f00573e89", checked := Try.checked }
namespace Rows
def none {H : Type} : Left H := { results := [], args := [] }

/-- 'shacklelaw03.LeversTrue': WHATEVER THE INPUT: true; the input reads as it did. -/
def leversTrueSpec : ChangeSpec := { name := "leversTrue", fn := fun _ => fun
  | [d1, d2, d3] => { results := [.lit (.bool true)], args := [d1, d2, d3] }
  | _ => none }
def leversTrueRow : OpenClaim := { program := "ytomcjopcfdllgaa", sum := "366c5c0fabb8cbdce7dee6570e918c81ac38276a035736cec163e39f00573e89", func := "shackle/shacklelaw03.LeversTrue", spec := "leversTrue", unfollowed := true, recurses := true, apart := false }
def LeversTrueSaid : Prop := leversTrueRow.holds Try.pinned (OpenSpec.ofChange leversTrueSpec)

/-- ITS FALSE NEIGHBOUR: 'it returns false'. Refute it at one input. -/
def leversTrueWrong : ChangeSpec := { name := "leversTrue", fn := fun _ => fun
  | [d1, d2, d3] => { results := [.lit (.bool false)], args := [d1, d2, d3] }
  | _ => none }
def LeversTrueWrongFalsely : Prop := leversTrueRow.holds Try.pinned (OpenSpec.ofChange leversTrueWrong)

/-- 'shacklelaw03.LeversMore': WHATEVER THE INPUT: true; the input reads as it did. -/
def leversMoreSpec : ChangeSpec := { name := "leversMore", fn := fun _ => fun
  | [d1, d2, d3] => { results := [.lit (.bool true)], args := [d1, d2, d3] }
  | _ => none }
def leversMoreRow : OpenClaim := { program := "ytomcjopcfdllgaa", sum := "366c5c0fabb8cbdce7dee6570e918c81ac38276a035736cec163e39f00573e89", func := "shackle/shacklelaw03.LeversMore", spec := "leversMore", unfollowed := true, recurses := true, apart := false }
def LeversMoreSaid : Prop := leversMoreRow.holds Try.pinned (OpenSpec.ofChange leversMoreSpec)

/-- ITS FALSE NEIGHBOUR: 'it returns false'. Refute it at one input. -/
def leversMoreWrong : ChangeSpec := { name := "leversMore", fn := fun _ => fun
  | [d1, d2, d3] => { results := [.lit (.bool false)], args := [d1, d2, d3] }
  | _ => none }
def LeversMoreWrongFalsely : Prop := leversMoreRow.holds Try.pinned (OpenSpec.ofChange leversMoreWrong)

/-- 'shacklelaw03.LeversWeights': WHATEVER THE INPUT: true; the input reads as it did. -/
def leversWeightsSpec : ChangeSpec := { name := "leversWeights", fn := fun _ => fun
  | [d1, d2, d3] => { results := [.lit (.bool true)], args := [d1, d2, d3] }
  | _ => none }
def leversWeightsRow : OpenClaim := { program := "ytomcjopcfdllgaa", sum := "366c5c0fabb8cbdce7dee6570e918c81ac38276a035736cec163e39f00573e89", func := "shackle/shacklelaw03.LeversWeights", spec := "leversWeights", unfollowed := true, recurses := true, apart := false }
def LeversWeightsSaid : Prop := leversWeightsRow.holds Try.pinned (OpenSpec.ofChange leversWeightsSpec)

/-- ITS FALSE NEIGHBOUR: 'it returns false'. Refute it at one input. -/
def leversWeightsWrong : ChangeSpec := { name := "leversWeights", fn := fun _ => fun
  | [d1, d2, d3] => { results := [.lit (.bool false)], args := [d1, d2, d3] }
  | _ => none }
def LeversWeightsWrongFalsely : Prop := leversWeightsRow.holds Try.pinned (OpenSpec.ofChange leversWeightsWrong)

/-- 'shacklelaw03.LeversEnough': WHATEVER THE INPUT: true; the input reads as it did. -/
def leversEnoughSpec : ChangeSpec := { name := "leversEnough", fn := fun _ => fun
  | [d1, d2, d3] => { results := [.lit (.bool true)], args := [d1, d2, d3] }
  | _ => none }
def leversEnoughRow : OpenClaim := { program := "ytomcjopcfdllgaa", sum := "366c5c0fabb8cbdce7dee6570e918c81ac38276a035736cec163e39f00573e89", func := "shackle/shacklelaw03.LeversEnough", spec := "leversEnough", unfollowed := true, recurses := true, apart := false }
def LeversEnoughSaid : Prop := leversEnoughRow.holds Try.pinned (OpenSpec.ofChange leversEnoughSpec)

/-- ITS FALSE NEIGHBOUR: 'it returns false'. Refute it at one input. -/
def leversEnoughWrong : ChangeSpec := { name := "leversEnough", fn := fun _ => fun
  | [d1, d2, d3] => { results := [.lit (.bool false)], args := [d1, d2, d3] }
  | _ => none }
def LeversEnoughWrongFalsely : Prop := leversEnoughRow.holds Try.pinned (OpenSpec.ofChange leversEnoughWrong)

/-- 'shacklelaw03.LeversFair': WHATEVER THE INPUT: true; the input reads as it did. -/
def leversFairSpec : ChangeSpec := { name := "leversFair", fn := fun _ => fun
  | [d1, d2, d3] => { results := [.lit (.bool true)], args := [d1, d2, d3] }
  | _ => none }
def leversFairRow : OpenClaim := { program := "ytomcjopcfdllgaa", sum := "366c5c0fabb8cbdce7dee6570e918c81ac38276a035736cec163e39f00573e89", func := "shackle/shacklelaw03.LeversFair", spec := "leversFair", unfollowed := true, recurses := true, apart := false }
def LeversFairSaid : Prop := leversFairRow.holds Try.pinned (OpenSpec.ofChange leversFairSpec)

/-- ITS FALSE NEIGHBOUR: 'it returns false'. Refute it at one input. -/
def leversFairWrong : ChangeSpec := { name := "leversFair", fn := fun _ => fun
  | [d1, d2, d3] => { results := [.lit (.bool false)], args := [d1, d2, d3] }
  | _ => none }
def LeversFairWrongFalsely : Prop := leversFairRow.holds Try.pinned (OpenSpec.ofChange leversFairWrong)

/-- 'shacklelaw03.LeversMany': WHATEVER THE INPUT: true; the input reads as it did. -/
def leversManySpec : ChangeSpec := { name := "leversMany", fn := fun _ => fun
  | [d1, d2] => { results := [.lit (.bool true)], args := [d1, d2] }
  | _ => none }
def leversManyRow : OpenClaim := { program := "ytomcjopcfdllgaa", sum := "366c5c0fabb8cbdce7dee6570e918c81ac38276a035736cec163e39f00573e89", func := "shackle/shacklelaw03.LeversMany", spec := "leversMany", unfollowed := true, recurses := true, apart := false }
def LeversManySaid : Prop := leversManyRow.holds Try.pinned (OpenSpec.ofChange leversManySpec)

/-- ITS FALSE NEIGHBOUR: 'it returns false'. Refute it at one input. -/
def leversManyWrong : ChangeSpec := { name := "leversMany", fn := fun _ => fun
  | [d1, d2] => { results := [.lit (.bool false)], args := [d1, d2] }
  | _ => none }
def LeversManyWrongFalsely : Prop := leversManyRow.holds Try.pinned (OpenSpec.ofChange leversManyWrong)

/-- 'shacklelaw03.LeversLoad': WHATEVER THE INPUT: true; the input reads as it did. -/
def leversLoadSpec : ChangeSpec := { name := "leversLoad", fn := fun _ => fun
  | [d1, d2] => { results := [.lit (.bool true)], args := [d1, d2] }
  | _ => none }
def leversLoadRow : OpenClaim := { program := "ytomcjopcfdllgaa", sum := "366c5c0fabb8cbdce7dee6570e918c81ac38276a035736cec163e39f00573e89", func := "shackle/shacklelaw03.LeversLoad", spec := "leversLoad", unfollowed := true, recurses := true, apart := false }
def LeversLoadSaid : Prop := leversLoadRow.holds Try.pinned (OpenSpec.ofChange leversLoadSpec)

/-- ITS FALSE NEIGHBOUR: 'it returns false'. Refute it at one input. -/
def leversLoadWrong : ChangeSpec := { name := "leversLoad", fn := fun _ => fun
  | [d1, d2] => { results := [.lit (.bool false)], args := [d1, d2] }
  | _ => none }
def LeversLoadWrongFalsely : Prop := leversLoadRow.holds Try.pinned (OpenSpec.ofChange leversLoadWrong)

/-- 'shacklelaw03.LeversWeight': WHATEVER THE INPUT: true; the input reads as it did. -/
def leversWeightSpec : ChangeSpec := { name := "leversWeight", fn := fun _ => fun
  | [d1, d2] => { results := [.lit (.bool true)], args := [d1, d2] }
  | _ => none }
def leversWeightRow : OpenClaim := { program := "ytomcjopcfdllgaa", sum := "366c5c0fabb8cbdce7dee6570e918c81ac38276a035736cec163e39f00573e89", func := "shackle/shacklelaw03.LeversWeight", spec := "leversWeight", unfollowed := true, recurses := true, apart := false }
def LeversWeightSaid : Prop := leversWeightRow.holds Try.pinned (OpenSpec.ofChange leversWeightSpec)

/-- ITS FALSE NEIGHBOUR: 'it returns false'. Refute it at one input. -/
def leversWeightWrong : ChangeSpec := { name := "leversWeight", fn := fun _ => fun
  | [d1, d2] => { results := [.lit (.bool false)], args := [d1, d2] }
  | _ => none }
def LeversWeightWrongFalsely : Prop := leversWeightRow.holds Try.pinned (OpenSpec.ofChange leversWeightWrong)

/- THE SECOND FORM. 'bulk': how many values and letters a reading holds, each counted each time it is reached (what is shared counts as often as it is met; a slice's spare places count too). A statement '..UptoSaid' is the law's where the arguments, and the package variables that the reading takes, are together of bulk at most 1048576: NARROWER than '..Said'. Prove '..Said' where nothing that the law and all that it calls make is longer than what came in: it says more and counts as full. Else prove '..UptoSaid'. A law counts once. -/
mutual
def uptoBulk {H : Type} : DataW H → Nat
  | .lit (.string bytes) => bytes.length + 1
  | .lit _ => 1
  | .nil => 1
  | .ptr d => uptoBulk d + 1
  | .slice elems spare => uptoBulkAll elems + uptoBulkAll spare + 1
  | .agg parts => uptoBulkAll parts + 1
  | .iface _ d => uptoBulk d + 1
  | .map entries => uptoBulkEntries entries + 1
  | .held _ => 1
def uptoBulkAll {H : Type} : List (DataW H) → Nat
  | [] => 0
  | d :: r => uptoBulk d + uptoBulkAll r
def uptoBulkEntries {H : Type} : List (Lit × DataW H) → Nat
  | [] => 0
  | x :: r => uptoBulkEntry x + uptoBulkEntries r
def uptoBulkEntry {H : Type} : Lit × DataW H → Nat
  | (.string bytes, d) => bytes.length + uptoBulk d + 1
  | (_, d) => uptoBulk d + 1
 end
def uptoSmall : (H : Type) → List (DataW H) → Bool := fun _ ds => decide (uptoBulkAll ds ≤ 1048576)
def OpenSpec.upto (s : _root_.Go.ChangeSpec) : _root_.Go.OpenSpec := { _root_.Go.OpenSpec.ofChange s with cond := some uptoSmall }

/-- 'shacklelaw03.LeversTrue', WHERE WHAT IT READS IS OF BULK AT MOST 1048576: true; the input reads as it did. -/
def leversTrueUptoRow : OpenClaim := { program := "ytomcjopcfdllgaa", sum := "366c5c0fabb8cbdce7dee6570e918c81ac38276a035736cec163e39f00573e89", func := "shackle/shacklelaw03.LeversTrue", spec := "leversTrue", unfollowed := true, recurses := true, apart := false, narrowed := true }
def LeversTrueUptoSaid : Prop := leversTrueUptoRow.holds Try.pinned (OpenSpec.upto leversTrueSpec)

/-- 'shacklelaw03.LeversMore', WHERE WHAT IT READS IS OF BULK AT MOST 1048576: true; the input reads as it did. -/
def leversMoreUptoRow : OpenClaim := { program := "ytomcjopcfdllgaa", sum := "366c5c0fabb8cbdce7dee6570e918c81ac38276a035736cec163e39f00573e89", func := "shackle/shacklelaw03.LeversMore", spec := "leversMore", unfollowed := true, recurses := true, apart := false, narrowed := true }
def LeversMoreUptoSaid : Prop := leversMoreUptoRow.holds Try.pinned (OpenSpec.upto leversMoreSpec)

/-- 'shacklelaw03.LeversWeights', WHERE WHAT IT READS IS OF BULK AT MOST 1048576: true; the input reads as it did. -/
def leversWeightsUptoRow : OpenClaim := { program := "ytomcjopcfdllgaa", sum := "366c5c0fabb8cbdce7dee6570e918c81ac38276a035736cec163e39f00573e89", func := "shackle/shacklelaw03.LeversWeights", spec := "leversWeights", unfollowed := true, recurses := true, apart := false, narrowed := true }
def LeversWeightsUptoSaid : Prop := leversWeightsUptoRow.holds Try.pinned (OpenSpec.upto leversWeightsSpec)

/-- 'shacklelaw03.LeversEnough', WHERE WHAT IT READS IS OF BULK AT MOST 1048576: true; the input reads as it did. -/
def leversEnoughUptoRow : OpenClaim := { program := "ytomcjopcfdllgaa", sum := "366c5c0fabb8cbdce7dee6570e918c81ac38276a035736cec163e39f00573e89", func := "shackle/shacklelaw03.LeversEnough", spec := "leversEnough", unfollowed := true, recurses := true, apart := false, narrowed := true }
def LeversEnoughUptoSaid : Prop := leversEnoughUptoRow.holds Try.pinned (OpenSpec.upto leversEnoughSpec)

/-- 'shacklelaw03.LeversFair', WHERE WHAT IT READS IS OF BULK AT MOST 1048576: true; the input reads as it did. -/
def leversFairUptoRow : OpenClaim := { program := "ytomcjopcfdllgaa", sum := "366c5c0fabb8cbdce7dee6570e918c81ac38276a035736cec163e39f00573e89", func := "shackle/shacklelaw03.LeversFair", spec := "leversFair", unfollowed := true, recurses := true, apart := false, narrowed := true }
def LeversFairUptoSaid : Prop := leversFairUptoRow.holds Try.pinned (OpenSpec.upto leversFairSpec)

/-- 'shacklelaw03.LeversMany', WHERE WHAT IT READS IS OF BULK AT MOST 1048576: true; the input reads as it did. -/
def leversManyUptoRow : OpenClaim := { program := "ytomcjopcfdllgaa", sum := "366c5c0fabb8cbdce7dee6570e918c81ac38276a035736cec163e39f00573e89", func := "shackle/shacklelaw03.LeversMany", spec := "leversMany", unfollowed := true, recurses := true, apart := false, narrowed := true }
def LeversManyUptoSaid : Prop := leversManyUptoRow.holds Try.pinned (OpenSpec.upto leversManySpec)

/-- 'shacklelaw03.LeversLoad', WHERE WHAT IT READS IS OF BULK AT MOST 1048576: true; the input reads as it did. -/
def leversLoadUptoRow : OpenClaim := { program := "ytomcjopcfdllgaa", sum := "366c5c0fabb8cbdce7dee6570e918c81ac38276a035736cec163e39f00573e89", func := "shackle/shacklelaw03.LeversLoad", spec := "leversLoad", unfollowed := true, recurses := true, apart := false, narrowed := true }
def LeversLoadUptoSaid : Prop := leversLoadUptoRow.holds Try.pinned (OpenSpec.upto leversLoadSpec)

/-- 'shacklelaw03.LeversWeight', WHERE WHAT IT READS IS OF BULK AT MOST 1048576: true; the input reads as it did. -/
def leversWeightUptoRow : OpenClaim := { program := "ytomcjopcfdllgaa", sum := "366c5c0fabb8cbdce7dee6570e918c81ac38276a035736cec163e39f00573e89", func := "shackle/shacklelaw03.LeversWeight", spec := "leversWeight", unfollowed := true, recurses := true, apart := false, narrowed := true }
def LeversWeightUptoSaid : Prop := leversWeightUptoRow.holds Try.pinned (OpenSpec.upto leversWeightSpec)

end Rows
end Go.Proofs.Ytomcjopcfdllgaa
