/- What the two Eval answer. -/
import Derived.Test.YtllojnloldhghaaGreatDoorZES
import Derived.Test.YtllojnloldhghaaGreatDoorZQD
import Derived.Test.YtllojnloldhghaaGreatDoorKJ
namespace Go.Proofs.YtllojnloldhghaaGreatDoor
set_option linter.unusedVariables false
set_option linter.unusedSimpArgs false
open Go.RowKit

end Go.Proofs.YtllojnloldhghaaGreatDoor
