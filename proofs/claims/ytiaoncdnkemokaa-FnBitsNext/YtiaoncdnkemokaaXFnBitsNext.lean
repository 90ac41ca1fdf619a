/- The law FnBitsNext returns true, whatever it is handed: with the draw of two words. -/
import Derived.Test.YtiaoncdnkemokaaF9
import Derived.Test.YtiaoncdnkemokaaXNext
namespace Go.Proofs.Ytiaoncdnkemokaa
set_option linter.unusedVariables false
set_option linter.unusedSimpArgs false
open Go.RowKit

theorem drawsTwo : DrawsTwo := fun a c bs w h => drawCmp_any a c bs w h

theorem walk_FnBitsNext (a : Option Addr) (n c : Nat) (hn : n ≤ 9223372036854775807) (w : World) (hx : n ≤ 1048576 → ∃ bs : List Nat, bs.length = n ∧ RdB w a bs) :
    Calls Try.prog 6 #[.slice a n c] w fun e w' => e = .returned (.bool true) ∧ Below w.heap.size w w' := by
  by_cases h : n ≤ 1048576
  · obtain ⟨bs, rfl, hr⟩ := hx h
    exact law_next drawsTwo a c bs w hr h
  · go_enter Try.func6, Try.ntmps6
    go_wp2_with fail
    refine (big_any a n c w hn).mono ?_
    rw [show decide (1048576 < n) = true by simp; omega]
    rintro e w ⟨rfl, rfl⟩
    go_wp2
    go_ret
    exact ⟨rfl, Below.refl _ _⟩

end Go.Proofs.Ytiaoncdnkemokaa
