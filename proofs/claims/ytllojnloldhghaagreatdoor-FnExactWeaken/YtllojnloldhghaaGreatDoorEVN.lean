/- A word that is an answer: kept, marked. -/
import Derived.Test.YtllojnloldhghaaGreatDoorEVM
namespace Go.Proofs.YtllojnloldhghaaGreatDoor
set_option linter.unusedVariables false
set_option linter.unusedSimpArgs false
open Go.RowKit

end Go.Proofs.YtllojnloldhghaaGreatDoor
