/- The law FnTreeBack at codes of every length. -/
import Derived.Test.YteainbakfeedpaaYK
import Derived.Test.YteainbakfeedpaaYJ
namespace Go.Proofs.Yteainbakfeedpaa
set_option linter.unusedVariables false
set_option linter.unusedSimpArgs false
open Go.RowKit

theorem walk_FnTreeBack (a : Option Addr) (n c : Nat) (hn : n ≤ 9223372036854775807) (b : Option Addr) (m d : Nat) (hm : m ≤ 9223372036854775807) (w : World) (hx : n ≤ 1048576 → ∃ bs : List Nat, bs.length = n ∧ RdB w a bs) (hy : m ≤ 1048576 → ∃ ds : List Nat, ds.length = m ∧ RdB w b ds) :
    Calls Try.prog 3 #[.slice a n c, .slice b m d] w fun e w' => e = .returned (.bool true) ∧ Below w.heap.size w w' := by
  by_cases h : n ≤ 1048576
  · by_cases h' : m ≤ 1048576
    · obtain ⟨bs, rfl, hr⟩ := hx h
      obtain ⟨ds, rfl, hs⟩ := hy h'
      exact law_back (fun β a c bs w h => tree_any β a c bs w h) a c bs b d ds w hr h hs h'
    · go_enter Try.func3, Try.ntmps3
      go_wp2_with fail
      refine (big_any a n c w hn).mono ?_
      rw [show decide (1048576 < n) = false by simp; omega]
      rintro e w ⟨rfl, rfl⟩
      go_wp2_with fail
      refine (big_any b m d w hm).mono ?_
      rw [show decide (1048576 < m) = true by simp; omega]
      rintro e w ⟨rfl, rfl⟩
      go_wp2
      go_ret
      exact ⟨rfl, Below.refl _ _⟩
  · go_enter Try.func3, Try.ntmps3
    go_wp2_with fail
    refine (big_any a n c w hn).mono ?_
    rw [show decide (1048576 < n) = true by simp; omega]
    rintro e w ⟨rfl, rfl⟩
    go_wp2
    go_ret
    exact ⟨rfl, Below.refl _ _⟩

end Go.Proofs.Yteainbakfeedpaa
