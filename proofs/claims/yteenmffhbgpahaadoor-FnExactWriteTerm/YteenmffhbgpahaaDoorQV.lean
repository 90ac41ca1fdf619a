/- What the program's WidthOf answers. -/
import Derived.Test.YteenmffhbgpahaaDoorQY
namespace Go.Proofs.YteenmffhbgpahaaDoor
set_option linter.unusedVariables false
set_option linter.unusedSimpArgs false
open Go.RowKit


end Go.Proofs.YteenmffhbgpahaaDoor
