/-
  No cell of these rows narrows 'for every input' (looked for: loops, veiled, ifaces, maps, wideKeys, modest, calm, conditions, laid).
  DERIVED. THE GIVEN ROWS OF THIS SEAT. 10 by the template 'for every input the law returns true; each argument reads behind the call as it read before'; 0 by the template 'total and deterministic' (their statements: YtgjikoebneiamaaTotals.lean).
  GIVEN WITH THE SEED: the statements are not yours to turn. If you find one false, say at which input.
  Laid BY PROGRAM, IN A SANDBOX (cutbox-rows.mjs): the forced cells as the released guide's own fill.sh prints them over the translation 103a96c543c4db33… (all of the seat's roots in one cut). By AI agents, Wed Nov 11 2026. No macro, syntax, notation, axiom, sorry.
-/
import Derived.Test.YtgjikoebneiamaaChecked
import GoSem.Claim
import GoSem.ClaimJoined
import GoSem.ClaimMapViews
import Derived.JoinedTies
import Derived.KernelRfl
namespace Go.Proofs.Ytgjikoebneiamaa
/- THE CELL 'sum', in the pinned program and in every row, IS THE sha256 OF THE DUMP (.gsa) THAT YtgjikoebneiamaaProg.lean LOADS. Nothing in Lean hashes anything: it is a label: what it is worth is what the hold of that sum in a sandbox is worth. -/
noncomputable def Try.pinned : Pinned := { name := "ytgjikoebneiamaa", sum := "103a96c543c4db33f3e362132380d5e80039274819454d133123f9bbaa3f6a67", checked := Try.checked }
namespace Rows
def none {H : Type} : Left H := { results := [], args := [] }

/-- 'shacklelaw02.LinksWho': WHATEVER THE INPUT: true; the input reads as it did. -/
def linksWhoSpec : ChangeSpec := { name := "linksWho", fn := fun _ => fun
  | [d1, d2] => { results := [.lit (.bool true)], args := [d1, d2] }
  | _ => none }
def linksWhoRow : OpenClaim := { program := "ytgjikoebneiamaa", sum := "103a96c543c4db33f3e362132380d5e80039274819454d133123f9bbaa3f6a67", func := "shackle/shacklelaw02.LinksWho", spec := "linksWho", inPlace := ["slices.overlaps[int]"], unfollowed := true, recurses := true, plainKeys := false, apart := false }
def LinksWhoSaid : Prop := linksWhoRow.holds Try.pinned (OpenSpec.ofChange linksWhoSpec)

/-- ITS FALSE NEIGHBOUR: 'it returns false'. Refute it at one input. -/
def linksWhoWrong : ChangeSpec := { name := "linksWho", fn := fun _ => fun
  | [d1, d2] => { results := [.lit (.bool false)], args := [d1, d2] }
  | _ => none }
def LinksWhoWrongFalsely : Prop := linksWhoRow.holds Try.pinned (OpenSpec.ofChange linksWhoWrong)

/-- 'shacklelaw02.LinksWhere': WHATEVER THE INPUT: true; the input reads as it did. -/
def linksWhereSpec : ChangeSpec := { name := "linksWhere", fn := fun _ => fun
  | [d1, d2] => { results := [.lit (.bool true)], args := [d1, d2] }
  | _ => none }
def linksWhereRow : OpenClaim := { program := "ytgjikoebneiamaa", sum := "103a96c543c4db33f3e362132380d5e80039274819454d133123f9bbaa3f6a67", func := "shackle/shacklelaw02.LinksWhere", spec := "linksWhere", inPlace := ["slices.overlaps[int]"], unfollowed := true, recurses := true, plainKeys := false, apart := false }
def LinksWhereSaid : Prop := linksWhereRow.holds Try.pinned (OpenSpec.ofChange linksWhereSpec)

/-- ITS FALSE NEIGHBOUR: 'it returns false'. Refute it at one input. -/
def linksWhereWrong : ChangeSpec := { name := "linksWhere", fn := fun _ => fun
  | [d1, d2] => { results := [.lit (.bool false)], args := [d1, d2] }
  | _ => none }
def LinksWhereWrongFalsely : Prop := linksWhereRow.holds Try.pinned (OpenSpec.ofChange linksWhereWrong)

/-- 'shacklelaw02.LinksFirst': WHATEVER THE INPUT: true; the input reads as it did. -/
def linksFirstSpec : ChangeSpec := { name := "linksFirst", fn := fun _ => fun
  | [d] => { results := [.lit (.bool true)], args := [d] }
  | _ => none }
def linksFirstRow : OpenClaim := { program := "ytgjikoebneiamaa", sum := "103a96c543c4db33f3e362132380d5e80039274819454d133123f9bbaa3f6a67", func := "shackle/shacklelaw02.LinksFirst", spec := "linksFirst", inPlace := ["slices.overlaps[int]"], unfollowed := true, recurses := true, plainKeys := false, apart := false }
def LinksFirstSaid : Prop := linksFirstRow.holds Try.pinned (OpenSpec.ofChange linksFirstSpec)

/-- ITS FALSE NEIGHBOUR: 'it returns false'. Refute it at one input. -/
def linksFirstWrong : ChangeSpec := { name := "linksFirst", fn := fun _ => fun
  | [d] => { results := [.lit (.bool false)], args := [d] }
  | _ => none }
def LinksFirstWrongFalsely : Prop := linksFirstRow.holds Try.pinned (OpenSpec.ofChange linksFirstWrong)

/-- 'shacklelaw02.LinksTrue': WHATEVER THE INPUT: true; the input reads as it did. -/
def linksTrueSpec : ChangeSpec := { name := "linksTrue", fn := fun _ => fun
  | [d1, d2, d3] => { results := [.lit (.bool true)], args := [d1, d2, d3] }
  | _ => none }
def linksTrueRow : OpenClaim := { program := "ytgjikoebneiamaa", sum := "103a96c543c4db33f3e362132380d5e80039274819454d133123f9bbaa3f6a67", func := "shackle/shacklelaw02.LinksTrue", spec := "linksTrue", inPlace := ["slices.overlaps[int]"], unfollowed := true, recurses := true, plainKeys := false, apart := false }
def LinksTrueSaid : Prop := linksTrueRow.holds Try.pinned (OpenSpec.ofChange linksTrueSpec)

/-- ITS FALSE NEIGHBOUR: 'it returns false'. Refute it at one input. -/
def linksTrueWrong : ChangeSpec := { name := "linksTrue", fn := fun _ => fun
  | [d1, d2, d3] => { results := [.lit (.bool false)], args := [d1, d2, d3] }
  | _ => none }
def LinksTrueWrongFalsely : Prop := linksTrueRow.holds Try.pinned (OpenSpec.ofChange linksTrueWrong)

/-- 'shacklelaw02.LinksMore': WHATEVER THE INPUT: true; the input reads as it did. -/
def linksMoreSpec : ChangeSpec := { name := "linksMore", fn := fun _ => fun
  | [d1, d2, d3] => { results := [.lit (.bool true)], args := [d1, d2, d3] }
  | _ => none }
def linksMoreRow : OpenClaim := { program := "ytgjikoebneiamaa", sum := "103a96c543c4db33f3e362132380d5e80039274819454d133123f9bbaa3f6a67", func := "shackle/shacklelaw02.LinksMore", spec := "linksMore", inPlace := ["slices.overlaps[int]"], unfollowed := true, recurses := true, plainKeys := false, apart := false }
def LinksMoreSaid : Prop := linksMoreRow.holds Try.pinned (OpenSpec.ofChange linksMoreSpec)

/-- ITS FALSE NEIGHBOUR: 'it returns false'. Refute it at one input. -/
def linksMoreWrong : ChangeSpec := { name := "linksMore", fn := fun _ => fun
  | [d1, d2, d3] => { results := [.lit (.bool false)], args := [d1, d2, d3] }
  | _ => none }
def LinksMoreWrongFalsely : Prop := linksMoreRow.holds Try.pinned (OpenSpec.ofChange linksMoreWrong)

/-- 'shacklelaw02.LinksContradict': WHATEVER THE INPUT: true; the input reads as it did. -/
def linksContradictSpec : ChangeSpec := { name := "linksContradict", fn := fun _ => fun
  | [d] => { results := [.lit (.bool true)], args := [d] }
  | _ => none }
def linksContradictRow : OpenClaim := { program := "ytgjikoebneiamaa", sum := "103a96c543c4db33f3e362132380d5e80039274819454d133123f9bbaa3f6a67", func := "shackle/shacklelaw02.LinksContradict", spec := "linksContradict", inPlace := ["slices.overlaps[int]"], unfollowed := true, recurses := true, plainKeys := false, apart := false }
def LinksContradictSaid : Prop := linksContradictRow.holds Try.pinned (OpenSpec.ofChange linksContradictSpec)

/-- ITS FALSE NEIGHBOUR: 'it returns false'. Refute it at one input. -/
def linksContradictWrong : ChangeSpec := { name := "linksContradict", fn := fun _ => fun
  | [d] => { results := [.lit (.bool false)], args := [d] }
  | _ => none }
def LinksContradictWrongFalsely : Prop := linksContradictRow.holds Try.pinned (OpenSpec.ofChange linksContradictWrong)

/-- 'shacklelaw02.LinksTurned': WHATEVER THE INPUT: true; the input reads as it did. -/
def linksTurnedSpec : ChangeSpec := { name := "linksTurned", fn := fun _ => fun
  | [d1, d2] => { results := [.lit (.bool true)], args := [d1, d2] }
  | _ => none }
def linksTurnedRow : OpenClaim := { program := "ytgjikoebneiamaa", sum := "103a96c543c4db33f3e362132380d5e80039274819454d133123f9bbaa3f6a67", func := "shackle/shacklelaw02.LinksTurned", spec := "linksTurned", inPlace := ["slices.overlaps[int]"], unfollowed := true, recurses := true, plainKeys := false, apart := false }
def LinksTurnedSaid : Prop := linksTurnedRow.holds Try.pinned (OpenSpec.ofChange linksTurnedSpec)

/-- ITS FALSE NEIGHBOUR: 'it returns false'. Refute it at one input. -/
def linksTurnedWrong : ChangeSpec := { name := "linksTurned", fn := fun _ => fun
  | [d1, d2] => { results := [.lit (.bool false)], args := [d1, d2] }
  | _ => none }
def LinksTurnedWrongFalsely : Prop := linksTurnedRow.holds Try.pinned (OpenSpec.ofChange linksTurnedWrong)

/-- 'shacklelaw02.LinksLater': WHATEVER THE INPUT: true; the input reads as it did. -/
def linksLaterSpec : ChangeSpec := { name := "linksLater", fn := fun _ => fun
  | [d1, d2, d3] => { results := [.lit (.bool true)], args := [d1, d2, d3] }
  | _ => none }
def linksLaterRow : OpenClaim := { program := "ytgjikoebneiamaa", sum := "103a96c543c4db33f3e362132380d5e80039274819454d133123f9bbaa3f6a67", func := "shackle/shacklelaw02.LinksLater", spec := "linksLater", inPlace := ["slices.overlaps[int]"], unfollowed := true, recurses := true, plainKeys := false, apart := false }
def LinksLaterSaid : Prop := linksLaterRow.holds Try.pinned (OpenSpec.ofChange linksLaterSpec)

/-- ITS FALSE NEIGHBOUR: 'it returns false'. Refute it at one input. -/
def linksLaterWrong : ChangeSpec := { name := "linksLater", fn := fun _ => fun
  | [d1, d2, d3] => { results := [.lit (.bool false)], args := [d1, d2, d3] }
  | _ => none }
def LinksLaterWrongFalsely : Prop := linksLaterRow.holds Try.pinned (OpenSpec.ofChange linksLaterWrong)

/-- 'shacklelaw02.LinksSure': WHATEVER THE INPUT: true; the input reads as it did. -/
def linksSureSpec : ChangeSpec := { name := "linksSure", fn := fun _ => fun
  | [d] => { results := [.lit (.bool true)], args := [d] }
  | _ => none }
def linksSureRow : OpenClaim := { program := "ytgjikoebneiamaa", sum := "103a96c543c4db33f3e362132380d5e80039274819454d133123f9bbaa3f6a67", func := "shackle/shacklelaw02.LinksSure", spec := "linksSure", inPlace := ["slices.overlaps[int]"], unfollowed := true, recurses := true, plainKeys := false, apart := false }
def LinksSureSaid : Prop := linksSureRow.holds Try.pinned (OpenSpec.ofChange linksSureSpec)

/-- ITS FALSE NEIGHBOUR: 'it returns false'. Refute it at one input. -/
def linksSureWrong : ChangeSpec := { name := "linksSure", fn := fun _ => fun
  | [d] => { results := [.lit (.bool false)], args := [d] }
  | _ => none }
def LinksSureWrongFalsely : Prop := linksSureRow.holds Try.pinned (OpenSpec.ofChange linksSureWrong)

/-- 'shackletop.TopOneBar': WHATEVER THE INPUT: true; the input reads as it did. -/
def topOneBarSpec : ChangeSpec := { name := "topOneBar", fn := fun _ => fun
  | [d] => { results := [.lit (.bool true)], args := [d] }
  | _ => none }
def topOneBarRow : OpenClaim := { program := "ytgjikoebneiamaa", sum := "103a96c543c4db33f3e362132380d5e80039274819454d133123f9bbaa3f6a67", func := "shackle/shackletop.TopOneBar", spec := "topOneBar", inPlace := ["slices.overlaps[int]"], unfollowed := true, recurses := true, plainKeys := false, apart := false }
def TopOneBarSaid : Prop := topOneBarRow.holds Try.pinned (OpenSpec.ofChange topOneBarSpec)

/-- ITS FALSE NEIGHBOUR: 'it returns false'. Refute it at one input. -/
def topOneBarWrong : ChangeSpec := { name := "topOneBar", fn := fun _ => fun
  | [d] => { results := [.lit (.bool false)], args := [d] }
  | _ => none }
def TopOneBarWrongFalsely : Prop := topOneBarRow.holds Try.pinned (OpenSpec.ofChange topOneBarWrong)

/- THE SECOND FORM. 'bulk': how many values and letters a reading holds, each counted each time it is reached (what is shared counts as often as it is met; a slice's spare places count too). A statement '..UptoSaid' is the law's where the arguments, and the package variables that the reading takes, are together of bulk at most 1048576: NARROWER than '..Said'. Prove '..Said' where nothing that the law and all that it calls make is longer than what came in: it says more and counts as full. Else prove '..UptoSaid'. A law counts once. -/
mutual
def uptoBulk {H : Type} : DataW H → Nat
  | .lit (.string bytes) => bytes.length + 1
  | .lit _ => 1
  | .nil => 1
  | .ptr d => uptoBulk d + 1
  | .slice elems spare => uptoBulkAll elems + uptoBulkAll spare + 1
  | .agg parts => uptoBulkAll parts + 1
  | .iface _ d => uptoBulk d + 1
  | .map entries => uptoBulkEntries entries + 1
  | .held _ => 1
def uptoBulkAll {H : Type} : List (DataW H) → Nat
  | [] => 0
  | d :: r => uptoBulk d + uptoBulkAll r
def uptoBulkEntries {H : Type} : List (Lit × DataW H) → Nat
  | [] => 0
  | x :: r => uptoBulkEntry x + uptoBulkEntries r
def uptoBulkEntry {H : Type} : Lit × DataW H → Nat
  | (.string bytes, d) => bytes.length + uptoBulk d + 1
  | (_, d) => uptoBulk d + 1
 end
def uptoSmall : (H : Type) → List (DataW H) → Bool := fun _ ds => decide (uptoBulkAll ds ≤ 1048576)
def OpenSpec.upto (s : _root_.Go.ChangeSpec) : _root_.Go.OpenSpec := { _root_.Go.OpenSpec.ofChange s with cond := some uptoSmall }

/-- 'shacklelaw02.LinksWho', WHERE WHAT IT READS IS OF BULK AT MOST 1048576: true; the input reads as it did. -/
def linksWhoUptoRow : OpenClaim := { program := "ytgjikoebneiamaa", sum := "103a96c543c4db33f3e362132380d5e80039274819454d133123f9bbaa3f6a67", func := "shackle/shacklelaw02.LinksWho", spec := "linksWho", inPlace := ["slices.overlaps[int]"], unfollowed := true, recurses := true, plainKeys := false, apart := false, narrowed := true }
def LinksWhoUptoSaid : Prop := linksWhoUptoRow.holds Try.pinned (OpenSpec.upto linksWhoSpec)

/-- 'shacklelaw02.LinksWhere', WHERE WHAT IT READS IS OF BULK AT MOST 1048576: true; the input reads as it did. -/
def linksWhereUptoRow : OpenClaim := { program := "ytgjikoebneiamaa", sum := "103a96c543c4db33f3e362132380d5e80039274819454d133123f9bbaa3f6a67", func := "shackle/shacklelaw02.LinksWhere", spec := "linksWhere", inPlace := ["slices.overlaps[int]"], unfollowed := true, recurses := true, plainKeys := false, apart := false, narrowed := true }
def LinksWhereUptoSaid : Prop := linksWhereUptoRow.holds Try.pinned (OpenSpec.upto linksWhereSpec)

/-- 'shacklelaw02.LinksFirst', WHERE WHAT IT READS IS OF BULK AT MOST 1048576: true; the input reads as it did. -/
def linksFirstUptoRow : OpenClaim := { program := "ytgjikoebneiamaa", sum := "103a96c543c4db33f3e362132380d5e80039274819454d133123f9bbaa3f6a67", func := "shackle/shacklelaw02.LinksFirst", spec := "linksFirst", inPlace := ["slices.overlaps[int]"], unfollowed := true, recurses := true, plainKeys := false, apart := false, narrowed := true }
def LinksFirstUptoSaid : Prop := linksFirstUptoRow.holds Try.pinned (OpenSpec.upto linksFirstSpec)

/-- 'shacklelaw02.LinksTrue', WHERE WHAT IT READS IS OF BULK AT MOST 1048576: true; the input reads as it did. -/
def linksTrueUptoRow : OpenClaim := { program := "ytgjikoebneiamaa", sum := "103a96c543c4db33f3e362132380d5e80039274819454d133123f9bbaa3f6a67", func := "shackle/shacklelaw02.LinksTrue", spec := "linksTrue", inPlace := ["slices.overlaps[int]"], unfollowed := true, recurses := true, plainKeys := false, apart := false, narrowed := true }
def LinksTrueUptoSaid : Prop := linksTrueUptoRow.holds Try.pinned (OpenSpec.upto linksTrueSpec)

/-- 'shacklelaw02.LinksMore', WHERE WHAT IT READS IS OF BULK AT MOST 1048576: true; the input reads as it did. -/
def linksMoreUptoRow : OpenClaim := { program := "ytgjikoebneiamaa", sum := "103a96c543c4db33f3e362132380d5e80039274819454d133123f9bbaa3f6a67", func := "shackle/shacklelaw02.LinksMore", spec := "linksMore", inPlace := ["slices.overlaps[int]"], unfollowed := true, recurses := true, plainKeys := false, apart := false, narrowed := true }
def LinksMoreUptoSaid : Prop := linksMoreUptoRow.holds Try.pinned (OpenSpec.upto linksMoreSpec)

/-- 'shacklelaw02.LinksContradict', WHERE WHAT IT READS IS OF BULK AT MOST 1048576: true; the input reads as it did. -/
def linksContradictUptoRow : OpenClaim := { program := "ytgjikoebneiamaa", sum := "103a96c543c4db33f3e362132380d5e80039274819454d133123f9bbaa3f6a67", func := "shackle/shacklelaw02.LinksContradict", spec := "linksContradict", inPlace := ["slices.overlaps[int]"], unfollowed := true, recurses := true, plainKeys := false, apart := false, narrowed := true }
def LinksContradictUptoSaid : Prop := linksContradictUptoRow.holds Try.pinned (OpenSpec.upto linksContradictSpec)

/-- 'shacklelaw02.LinksTurned', WHERE WHAT IT READS IS OF BULK AT MOST 1048576: true; the input reads as it did. -/
def linksTurnedUptoRow : OpenClaim := { program := "ytgjikoebneiamaa", sum := "103a96c543c4db33f3e362132380d5e80039274819454d133123f9bbaa3f6a67", func := "shackle/shacklelaw02.LinksTurned", spec := "linksTurned", inPlace := ["slices.overlaps[int]"], unfollowed := true, recurses := true, plainKeys := false, apart := false, narrowed := true }
def LinksTurnedUptoSaid : Prop := linksTurnedUptoRow.holds Try.pinned (OpenSpec.upto linksTurnedSpec)

/-- 'shacklelaw02.LinksLater', WHERE WHAT IT READS IS OF BULK AT MOST 1048576: true; the input reads as it did. -/
def linksLaterUptoRow : OpenClaim := { program := "ytgjikoebneiamaa", sum := "103a96c543c4db33f3e362132380d5e80039274819454d133123f9bbaa3f6a67", func := "shackle/shacklelaw02.LinksLater", spec := "linksLater", inPlace := ["slices.overlaps[int]"], unfollowed := true, recurses := true, plainKeys := false, apart := false, narrowed := true }
def LinksLaterUptoSaid : Prop := linksLaterUptoRow.holds Try.pinned (OpenSpec.upto linksLaterSpec)

/-- 'shacklelaw02.LinksSure', WHERE WHAT IT READS IS OF BULK AT MOST 1048576: true; the input reads as it did. -/
def linksSureUptoRow : OpenClaim := { program := "ytgjikoebneiamaa", sum := "103a96c543c4db33f3e362132380d5e80039274819454d133123f9bbaa3f6a67", func := "shackle/shacklelaw02.LinksSure", spec := "linksSure", inPlace := ["slices.overlaps[int]"], unfollowed := true, recurses := true, plainKeys := false, apart := false, narrowed := true }
def LinksSureUptoSaid : Prop := linksSureUptoRow.holds Try.pinned (OpenSpec.upto linksSureSpec)

/-- 'shackletop.TopOneBar', WHERE WHAT IT READS IS OF BULK AT MOST 1048576: true; the input reads as it did. -/
def topOneBarUptoRow : OpenClaim := { program := "ytgjikoebneiamaa", sum := "103a96c543c4db33f3e362132380d5e80039274819454d133123f9bbaa3f6a67", func := "shackle/shackletop.TopOneBar", spec := "topOneBar", inPlace := ["slices.overlaps[int]"], unfollowed := true, recurses := true, plainKeys := false, apart := false, narrowed := true }
def TopOneBarUptoSaid : Prop := topOneBarUptoRow.holds Try.pinned (OpenSpec.upto topOneBarSpec)

end Rows
end Go.Proofs.Ytgjikoebneiamaa
