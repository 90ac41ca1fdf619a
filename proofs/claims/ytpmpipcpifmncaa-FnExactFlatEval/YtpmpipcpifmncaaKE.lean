/- Where the marks of words are there: what stands in E. -/
import Derived.Test.YtpmpipcpifmncaaE
namespace Go.Proofs.Ytpmpipcpifmncaa
set_option linter.unusedVariables false
set_option linter.unusedSimpArgs false
end Go.Proofs.Ytpmpipcpifmncaa
