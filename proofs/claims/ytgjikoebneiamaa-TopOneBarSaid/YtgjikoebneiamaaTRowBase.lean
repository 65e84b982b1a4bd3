/-
  Opening, more: numbers and small structs; what every row of this seat wants.
-/
import Derived.Test.YtgjikoebneiamaaTOwn
namespace Go.Proofs.Ytgjikoebneiamaa.Tb
open Go.ChangeShapes Go.WideShapes Go.RowKit Go.Joins Go.Deep

theorem Try.own : ownKnob Try.prog.godebug = none := by kernel_rfl
theorem Try.laidOut : laidOutB Try.prog = true := by kernel_rfl

end Go.Proofs.Ytgjikoebneiamaa.Tb