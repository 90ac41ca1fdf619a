/- Rows of numbers of one's own, while a reader of draws is turned. -/
import Derived.Test.YtnfagdfaphihhaaYR
import Derived.Test.YtnfagdfaphihhaaDIO
namespace Go.Proofs.Ytnfagdfaphihhaa
set_option linter.unusedVariables false
set_option linter.unusedSimpArgs false
open Go.RowKit

theorem OI.far {w w' : World} {B : Nat} {v : Value} {l : List Int} {β : Nat} (h : OI w B v l) (hd : Dw β w w') (hβ : β < B) : OI w' B v l := h.move fun b hb => hd.block b (h.lt hb).2 (fun e => by cases e; have := (h.lt hb).1; omega)

end Go.Proofs.Ytnfagdfaphihhaa
