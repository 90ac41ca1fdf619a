/- A word that is an answer: kept, marked. -/
import Derived.Test.YtbbbpbnecgeakaaGreatDoorEVM
namespace Go.Proofs.YtbbbpbnecgeakaaGreatDoor
set_option linter.unusedVariables false
set_option linter.unusedSimpArgs false
open Go.RowKit

end Go.Proofs.YtbbbpbnecgeakaaGreatDoor
