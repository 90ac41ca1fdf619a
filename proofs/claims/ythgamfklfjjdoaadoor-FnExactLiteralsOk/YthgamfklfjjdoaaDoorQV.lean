/- What the program's WidthOf answers. -/
import Derived.Test.YthgamfklfjjdoaaDoorQY
namespace Go.Proofs.YthgamfklfjjdoaaDoor
set_option linter.unusedVariables false
set_option linter.unusedSimpArgs false
open Go.RowKit


end Go.Proofs.YthgamfklfjjdoaaDoor
