/- A right row is the word of its bits. No program in sight. -/
import Derived.Test.YtiaoncdnkemokaaI
import Derived.Test.YtiaoncdnkemokaaK
namespace Go.Proofs.Ytiaoncdnkemokaa
set_option linter.unusedVariables false
set_option linter.unusedSimpArgs false
open Go.RowKit

theorem bits_getD2 (xs : List Nat) (V i : Nat) (h : i < V) : (bitsTo xs V).getD i 0 = (tb xs i).toNat := by
  simp [bitsTo, List.getD, h]

theorem unpk {V : Nat} {xs : List Nat} (hok : rightB V xs = true) (hx : ∀ x ∈ xs, x < 18446744073709551616) : pack (bitsTo xs V) = xs := by
  have h := right_W hok
  refine (eq_pack (bitsTo_le xs V) (by rw [bitsTo_len]; omega) hx fun i hi => ?_).symm
  by_cases hi' : i < V
  · rw [bits_getD2 xs V i hi']
    cases tb xs i <;> rfl
  · rw [tb_out hok i (by omega)]
    simp [List.getD, List.getElem?_eq_none (show (bitsTo xs V).length ≤ i by rw [bitsTo_len]; omega)]

end Go.Proofs.Ytiaoncdnkemokaa
