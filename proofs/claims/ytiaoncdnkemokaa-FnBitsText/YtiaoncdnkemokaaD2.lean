/- What l1Hex answers: a digit of 16, or -1. -/
import Derived.Test.YtiaoncdnkemokaaD1
namespace Go.Proofs.Ytiaoncdnkemokaa
set_option linter.unusedVariables false
set_option linter.unusedSimpArgs false
open Go.RowKit

def hexI (c : Nat) : Int := if 48 ≤ c ∧ c ≤ 57 then (c : Int) - 48 else if 97 ≤ c ∧ c ≤ 102 then (c : Int) - 87 else -1

theorem l1Hex_any (c : Nat) (w : World) (hc : c < 256) : Calls Try.prog 68 #[.int .u8 c] w fun e w' => e = .returned (.int .i64 (hexI c)) ∧ w' = w := by
  unfold hexI
  by_cases h1 : 48 ≤ c ∧ c ≤ 57
  · rw [if_pos h1]
    obtain ⟨a1, a2⟩ := h1
    have a1i : (48 : Int) ≤ (c : Int) := by omega
    have a2i : (c : Int) ≤ 57 := by omega
    go_enter Try.func68, Try.ntmps68
    go_wp2
    go_ret
    exact ⟨ret_int (by go_num), rfl⟩
  · rw [if_neg h1]
    have hd : ¬ ((48 : Int) ≤ (c : Int) ∧ (c : Int) ≤ 57) := by omega
    by_cases h2 : 97 ≤ c ∧ c ≤ 102
    · rw [if_pos h2]
      obtain ⟨a1, a2⟩ := h2
      have a1i : (97 : Int) ≤ (c : Int) := by omega
      have a2i : (c : Int) ≤ 102 := by omega
      have a3i : ¬ (c : Int) ≤ 57 := by omega
      have a4i : (48 : Int) ≤ (c : Int) := by omega
      go_enter Try.func68, Try.ntmps68
      go_wp2
      go_ret
      exact ⟨ret_int (by go_num), rfl⟩
    · rw [if_neg h2]
      rcases Nat.lt_or_ge c 48 with b1 | b1
      · have b1i : ¬ (48 : Int) ≤ (c : Int) := by omega
        have b2i : ¬ (97 : Int) ≤ (c : Int) := by omega
        go_enter Try.func68, Try.ntmps68
        go_wp2
        go_ret
        exact ⟨rfl, rfl⟩
      · rcases Nat.lt_or_ge c 97 with b2 | b2
        · have b0i : (48 : Int) ≤ (c : Int) := by omega
          have b1i : ¬ (c : Int) ≤ 57 := by omega
          have b2i : ¬ (97 : Int) ≤ (c : Int) := by omega
          go_enter Try.func68, Try.ntmps68
          go_wp2
          go_ret
          exact ⟨rfl, rfl⟩
        · have b0i : (48 : Int) ≤ (c : Int) := by omega
          have b1i : ¬ (c : Int) ≤ 57 := by omega
          have b2i : (97 : Int) ≤ (c : Int) := by omega
          have b3i : ¬ (c : Int) ≤ 102 := by omega
          go_enter Try.func68, Try.ntmps68
          go_wp2
          go_ret
          exact ⟨rfl, rfl⟩

end Go.Proofs.Ytiaoncdnkemokaa
