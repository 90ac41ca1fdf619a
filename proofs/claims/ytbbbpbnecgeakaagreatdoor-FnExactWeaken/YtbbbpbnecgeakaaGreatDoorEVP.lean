/- What the two Eval answer. -/
import Derived.Test.YtbbbpbnecgeakaaGreatDoorZES
import Derived.Test.YtbbbpbnecgeakaaGreatDoorZQD
import Derived.Test.YtbbbpbnecgeakaaGreatDoorKJ
namespace Go.Proofs.YtbbbpbnecgeakaaGreatDoor
set_option linter.unusedVariables false
set_option linter.unusedSimpArgs false
open Go.RowKit

end Go.Proofs.YtbbbpbnecgeakaaGreatDoor
