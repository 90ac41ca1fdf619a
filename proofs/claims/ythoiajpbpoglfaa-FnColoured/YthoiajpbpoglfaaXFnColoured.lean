/- The law FnColoured, with the draw of a graph. -/
import Derived.Test.YthoiajpbpoglfaaGRAC
import Derived.Test.YthoiajpbpoglfaaHCD
namespace Go.Proofs.Ythoiajpbpoglfaa
set_option linter.unusedVariables false
set_option linter.unusedSimpArgs false
open Go.RowKit

theorem walk_FnColoured (a : Option Addr) (n c : Nat) (hn : n ≤ 9223372036854775807) (w : World) (hx : n ≤ 1048576 → ∃ bs : List Nat, bs.length = n ∧ RdB w a bs) :
    Calls Try.prog 5 #[.slice a n c] w fun e w' => e = .returned (.bool true) ∧ Below w.heap.size w w' := by
  by_cases h : n ≤ 1048576
  · obtain ⟨bs, rfl, hr⟩ := hx h
    exact law_coloured (show GraphAnyC from fun β a c bs w h => Cp.graph_any β a c bs w h) a c bs w hr h
  · go_enter Try.func5, Try.ntmps5
    go_wp2_with fail
    refine (big_any a n c w hn).mono ?_
    rw [show decide (1048576 < n) = true by simp; omega]
    rintro e w ⟨rfl, rfl⟩
    go_wp2
    go_ret
    exact ⟨rfl, Below.refl _ _⟩

end Go.Proofs.Ythoiajpbpoglfaa
