/- Plain facts on words of 64 bits as numbers: the bit at a place, what a right row is. No program in sight. -/
import Derived.WalkKit
import Derived.Lib.BitFns
namespace Go.Proofs.YtmfamdonbgmjbaaDoor
set_option linter.unusedVariables false
set_option linter.unusedSimpArgs false
open Go.RowKit

def wOk (W : Int) : Bool := decide (1 ≤ W ∧ W ≤ 4096)

/-- The bit i of a row of words of 64 bits. -/
def tb (xs : List Nat) (i : Nat) : Bool := (xs.getD (i / 64) 0).testBit (i % 64)

theorem tb_div (xs : List Nat) (i : Nat) : xs.getD (i / 64) 0 / 2 ^ (i % 64) % 2 = (tb xs i).toNat := by
  unfold tb
  rw [Nat.testBit_eq_decide_div_mod_eq]
  have := Nat.mod_two_eq_zero_or_one (xs.getD (i / 64) 0 / 2 ^ (i % 64))
  rcases this with h | h <;> rw [h] <;> rfl

/-- Nothing stands from the bit W on. -/
def clear (W : Int) (xs : List Nat) : Bool := (List.range (64 * xs.length)).all fun i => decide ((i : Int) < W) || !tb xs i

theorem clear_iff (W : Int) (xs : List Nat) : clear W xs = true ↔ ∀ i : Nat, W ≤ (i : Int) → i < 64 * xs.length → tb xs i = false := by
  unfold clear
  rw [List.all_eq_true]
  constructor
  · intro h i h1 h2
    have := h i (List.mem_range.2 h2)
    simp at this
    rcases this with h' | h'
    · omega
    · exact h'
  · intro h i hi
    have hi' := List.mem_range.1 hi
    by_cases h1 : (i : Int) < W
    · simp [h1]
    · simp [h i (by omega) hi']

def rightB (W : Int) (xs : List Nat) : Bool := wOk W && decide ((xs.length : Int) = (W + 63) / 64) && clear W xs

theorem rightB_no1 {W : Int} {xs : List Nat} (h : wOk W = false) : rightB W xs = false := by simp [rightB, h]
theorem rightB_no2 {W : Int} {xs : List Nat} (h : ¬ (xs.length : Int) = (W + 63) / 64) : rightB W xs = false := by simp [rightB, h]
theorem rightB_clear {W : Int} {xs : List Nat} (h : wOk W = true) (h2 : (xs.length : Int) = (W + 63) / 64) : rightB W xs = clear W xs := by simp [rightB, h, h2]

/-- The last word alone tells whether a row of just enough words is clear from W on. -/
theorem clear_last {W : Int} {xs : List Nat} (hx : ∀ x ∈ xs, x < 18446744073709551616) (hw : wOk W = true) (hl : (xs.length : Int) = (W + 63) / 64) :
    clear W xs = decide (64 * ((xs.length : Int) - 1) + (Lib.bitLen (xs.getD (xs.length - 1) 0) : Int) ≤ W) := by
  have hW : 1 ≤ W ∧ W ≤ 4096 := by simpa [wOk] using hw
  have hpos : 0 < xs.length := by omega
  have hlast : xs.getD (xs.length - 1) 0 < 18446744073709551616 := by
    have e : xs.getD (xs.length - 1) 0 = xs[xs.length - 1]'(by omega) := by simp [List.getD, show xs.length - 1 < xs.length by omega]
    rw [e]; exact hx _ (List.getElem_mem _)
  obtain ⟨r, hr⟩ : ∃ r : Nat, (r : Int) = W - 64 * ((xs.length : Int) - 1) := ⟨(W - 64 * ((xs.length : Int) - 1)).toNat, by omega⟩
  have hr64 : r ≤ 64 := by omega
  generalize hy : xs.getD (xs.length - 1) 0 = y at hlast ⊢
  have key : Lib.bitLen y ≤ r ↔ clear W xs = true := by
    have hb : Lib.bitLen y ≤ r ↔ y < 2 ^ r := by
      refine ⟨fun h => ?_, Lib.bitLen_le y r hr64⟩
      rcases Nat.lt_or_ge y (2 ^ r) with h' | h'
      · exact h'
      · have s := Lib.bitLen_shift r y h' hlast
        have hp : 0 < y / 2 ^ r := Nat.div_pos h' (Nat.two_pow_pos r)
        have hh := Lib.bitLen_half (y / 2 ^ r) (by omega) (Nat.lt_of_le_of_lt (Nat.div_le_self _ _) hlast)
        omega
    rw [hb, clear_iff]
    constructor
    · intro h i h1 h2
      have e1 : i / 64 = xs.length - 1 := by omega
      unfold tb
      rw [e1, hy]
      refine Nat.testBit_lt_two_pow (Nat.lt_of_lt_of_le h (Nat.pow_le_pow_right (by omega) (by omega)))
    · intro h
      refine Nat.lt_pow_two_of_testBit y fun j hj => ?_
      by_cases h64 : j < 64
      · have := h (64 * (xs.length - 1) + j) (by omega) (by omega)
        unfold tb at this
        rw [show (64 * (xs.length - 1) + j) / 64 = xs.length - 1 by omega, show (64 * (xs.length - 1) + j) % 64 = j by omega, hy] at this
        exact this
      · exact Nat.testBit_lt_two_pow (Nat.lt_of_lt_of_le hlast (show 2 ^ 64 ≤ 2 ^ j from Nat.pow_le_pow_right (by omega) (by omega)))
  by_cases h : Lib.bitLen y ≤ r
  · rw [key.1 h]; symm; simp; omega
  · have : clear W xs = false := by
      cases hc : clear W xs with
      | false => rfl
      | true => exact absurd (key.2 hc) h
    rw [this]; symm; simp; omega

end Go.Proofs.YtmfamdonbgmjbaaDoor
