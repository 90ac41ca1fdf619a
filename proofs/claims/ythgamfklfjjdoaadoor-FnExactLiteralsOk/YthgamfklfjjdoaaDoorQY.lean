/- What the program's rightWidths answers. -/
import Derived.Test.YthgamfklfjjdoaaDoorQU
namespace Go.Proofs.YthgamfklfjjdoaaDoor
set_option linter.unusedVariables false
set_option linter.unusedSimpArgs false
open Go.RowKit


end Go.Proofs.YthgamfklfjjdoaaDoor
