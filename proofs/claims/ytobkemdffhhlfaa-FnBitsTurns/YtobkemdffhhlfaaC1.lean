/- Comparing two rows: by bits from the top, and by words from the top. No program in sight. -/
import Derived.Test.YtobkemdffhhlfaaK
namespace Go.Proofs.Ytobkemdffhhlfaa
set_option linter.unusedVariables false
set_option linter.unusedSimpArgs false
open Go.RowKit

/-- The order of the lowest k bits of two rows, the higher bit first. -/
def cmpB (xs ys : List Nat) : Nat → Int
  | 0 => 0
  | k + 1 => if (tb xs k).toNat < (tb ys k).toNat then -1 else if (tb ys k).toNat < (tb xs k).toNat then 1 else cmpB xs ys k

def cmpI (W : Int) (xs : List Nat) (V : Int) (ys : List Nat) : Int :=
  if rightB W xs = true ∧ rightB V ys = true ∧ W = V then cmpB xs ys W.toNat else -2

theorem mod_pow_succ (x j : Nat) : x % 2 ^ (j + 1) = x % 2 ^ j + 2 ^ j * (x / 2 ^ j % 2) := by
  rw [Nat.pow_succ, Nat.mod_mul]

theorem cmpB_word (xs ys : List Nat) (k j : Nat) (hj : j ≤ 64) :
    cmpB xs ys (64 * k + j) = if xs.getD k 0 % 2 ^ j < ys.getD k 0 % 2 ^ j then -1 else if ys.getD k 0 % 2 ^ j < xs.getD k 0 % 2 ^ j then 1 else cmpB xs ys (64 * k) := by
  induction j with
  | zero => simp [Nat.mod_one]
  | succ j ih =>
    have ih := ih (by omega)
    rw [← Nat.add_assoc, cmpB, ih]
    have e1 := tb_div xs (64 * k + j)
    have e2 := tb_div ys (64 * k + j)
    rw [show (64 * k + j) / 64 = k by omega, show (64 * k + j) % 64 = j by omega] at e1 e2
    rw [← e1, ← e2, mod_pow_succ, mod_pow_succ]
    have p := Nat.two_pow_pos j
    have l1 := Nat.mod_lt (xs.getD k 0) p
    have l2 := Nat.mod_lt (ys.getD k 0) p
    have b1 := Nat.mod_two_eq_zero_or_one (xs.getD k 0 / 2 ^ j)
    have b2 := Nat.mod_two_eq_zero_or_one (ys.getD k 0 / 2 ^ j)
    generalize xs.getD k 0 / 2 ^ j % 2 = u at *
    generalize ys.getD k 0 / 2 ^ j % 2 = v at *
    generalize xs.getD k 0 % 2 ^ j = x at *
    generalize ys.getD k 0 % 2 ^ j = y at *
    generalize 2 ^ j = q at *
    generalize cmpB xs ys (64 * k) = z
    clear e1 e2 ih
    rcases b1 with rfl | rfl <;> rcases b2 with rfl | rfl <;> simp only [Nat.mul_zero, Nat.mul_one, Nat.add_zero]
    · simp
    · rw [if_pos (by omega), if_pos (by omega)]
    · rw [if_neg (by omega), if_pos (by omega), if_neg (by omega), if_pos (by omega)]
    · simp

theorem cmpB_step {xs ys : List Nat} (hx : ∀ x ∈ xs, x < 18446744073709551616) (hy : ∀ x ∈ ys, x < 18446744073709551616) (k : Nat) :
    cmpB xs ys (64 * (k + 1)) = if xs.getD k 0 < ys.getD k 0 then -1 else if ys.getD k 0 < xs.getD k 0 then 1 else cmpB xs ys (64 * k) := by
  have h := cmpB_word xs ys k 64 (by omega)
  have h1 : xs.getD k 0 % 2 ^ 64 = xs.getD k 0 := Nat.mod_eq_of_lt (getD_lt hx k)
  have h2 : ys.getD k 0 % 2 ^ 64 = ys.getD k 0 := Nat.mod_eq_of_lt (getD_lt hy k)
  rw [h1, h2] at h
  exact h

theorem cmpB_right {V : Nat} {xs ys : List Nat} (hx : rightB V xs = true) (hy : rightB V ys = true) : cmpB xs ys (64 * xs.length) = cmpB xs ys V := by
  have h := right_W hx
  obtain ⟨d, hd⟩ : ∃ d, 64 * xs.length = V + d := ⟨64 * xs.length - V, by omega⟩
  rw [hd]
  clear hd
  induction d with
  | zero => rfl
  | succ d ih =>
    rw [← Nat.add_assoc, cmpB, tb_out hx (V + d) (by omega), tb_out hy (V + d) (by omega), ih]
    simp

theorem cmpB_range (xs ys : List Nat) (k : Nat) : cmpB xs ys k = -1 ∨ cmpB xs ys k = 0 ∨ cmpB xs ys k = 1 := by
  induction k with
  | zero => exact .inr (.inl rfl)
  | succ k ih =>
    rw [cmpB]
    split
    · exact .inl rfl
    · split
      · exact .inr (.inr rfl)
      · exact ih

end Go.Proofs.Ytobkemdffhhlfaa
