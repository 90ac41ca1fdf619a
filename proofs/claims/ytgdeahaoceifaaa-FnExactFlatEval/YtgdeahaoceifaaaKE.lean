/- Where the marks of words are there: what stands in E. -/
import Derived.Test.YtgdeahaoceifaaaE
namespace Go.Proofs.Ytgdeahaoceifaaa
set_option linter.unusedVariables false
set_option linter.unusedSimpArgs false
end Go.Proofs.Ytgdeahaoceifaaa
