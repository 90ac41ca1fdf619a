/- What the two BitsOk answer: both say just of right rows that they are right. -/
import Derived.Test.YtmfamdonbgmjbaaDoorA
import Derived.Test.YtmfamdonbgmjbaaDoorB
namespace Go.Proofs.YtmfamdonbgmjbaaDoor
set_option linter.unusedVariables false
set_option linter.unusedSimpArgs false
open Go.RowKit

theorem decide_wOk (W : Int) : decide (1 ≤ W ∧ W ≤ 4096) = wOk W := rfl

theorem ret_bool {a b : Bool} (h : a = b) : Ending.returned (.bool a) = .returned (.bool b) := by rw [h]
theorem ret_int {k : IntKind} {a b : Int} (h : a = b) : Ending.returned (.int k a) = .returned (.int k b) := by rw [h]



end Go.Proofs.YtmfamdonbgmjbaaDoor
