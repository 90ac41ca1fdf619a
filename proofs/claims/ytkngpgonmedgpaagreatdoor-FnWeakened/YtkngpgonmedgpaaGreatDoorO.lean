/- How an argument that is a row of words is opened: its width, its slice, the words that it holds. -/
import Derived.Test.YtkngpgonmedgpaaGreatDoorRows
import Derived.Test.YtkngpgonmedgpaaGreatDoorA
import Derived.ProofKit
import Derived.OpenShut
import Derived.ShutString
import Derived.ChangeOld
import Derived.Below
import Derived.Lib.SmallJoins
namespace Go.Proofs.YtkngpgonmedgpaaGreatDoor
set_option linter.unusedVariables false
set_option linter.unusedSimpArgs false
open Go.ChangeShapes Go.WideShapes Go.ChangeAt Go.RowKit Go.Joins
theorem own : ownKnob Tryz.prog.godebug = none := by kernel_rfl
theorem laidOut : laidOutB Tryz.prog = true := by kernel_rfl
end Go.Proofs.YtkngpgonmedgpaaGreatDoor
