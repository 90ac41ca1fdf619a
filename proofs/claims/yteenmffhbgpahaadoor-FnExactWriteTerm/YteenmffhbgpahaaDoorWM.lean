/- Plain facts on the text of a word. No program in sight. -/
import Derived.Test.YteenmffhbgpahaaDoorZWF
namespace Go.Proofs.YteenmffhbgpahaaDoor
set_option linter.unusedVariables false
set_option linter.unusedSimpArgs false
open Go.RowKit

/-- The sign of a digit. -/
def sig (n : Nat) : Nat := ([48, 49, 50, 51, 52, 53, 54, 55, 56, 57, 97, 98, 99, 100, 101, 102] : List Nat).getD n 0

/-- The bit at a place as a number. -/
def bit (xs : List Nat) (i : Nat) : Nat := (tb xs i).toNat

/-- The digit of per bits at a place. -/
def dig (x : Bool) (xs : List Nat) (at_ : Nat) : Nat := if x then 8 * bit xs (at_ + 3) + 4 * bit xs (at_ + 2) + 2 * bit xs (at_ + 1) + bit xs at_ else bit xs at_

/-- The signs of the highest k of c digits, the highest first. -/
def wTo (x : Bool) (xs : List Nat) (c : Nat) : Nat → List Nat
  | 0 => []
  | k + 1 => wTo x xs c k ++ [sig (dig x xs ((c - 1 - k) * (if x then 4 else 1)))]

theorem wTo_len (x : Bool) (xs : List Nat) (c k : Nat) : (wTo x xs c k).length = k := by
  induction k with
  | zero => rfl
  | succ k ih => rw [wTo, List.length_append, ih]; rfl

def writeL (V : Nat) (xs : List Nat) : List Nat := if V % 4 = 0 then [35, 120] ++ wTo true xs (V / 4) (V / 4) else [35, 98] ++ wTo false xs V V

/-- The text of a word. -/
def writeR (W : Int) (xs : List Nat) : List Nat := if rightB W xs = true then writeL W.toNat xs else []

theorem bit_word (xs : List Nat) (T i : Nat) (h : T % 64 + i < 64) : bit xs (T + i) = xs.getD (T / 64) 0 / 2 ^ (T % 64) / 2 ^ i % 2 := by
  unfold bit
  rw [← tb_div xs (T + i), show (T + i) / 64 = T / 64 by omega, show (T + i) % 64 = T % 64 + i by omega, Nat.pow_add, Nat.div_div_eq_div_mul]

theorem dig_word (x : Bool) (xs : List Nat) (m : Nat) (T : Nat) (hT : T = m * (if x then 4 else 1)) : dig x xs T = xs.getD (T / 64) 0 / 2 ^ (T % 64) % (if x then 16 else 2) := by
  cases x with
  | true =>
    simp only [if_true] at hT ⊢
    have b0 := bit_word xs T 0 (by omega)
    have b1 := bit_word xs T 1 (by omega)
    have b2 := bit_word xs T 2 (by omega)
    have b3 := bit_word xs T 3 (by omega)
    simp only [dig, if_true]
    simp only [Nat.add_zero, Nat.pow_zero, Nat.div_one] at b0
    rw [b0, b1, b2, b3]
    generalize xs.getD (T / 64) 0 / 2 ^ (T % 64) = z
    omega
  | false =>
    have b0 := bit_word xs T 0 (by omega)
    simp only [Nat.add_zero, Nat.pow_zero, Nat.div_one] at b0
    simp [dig]
    exact b0

theorem dig_lt (x : Bool) (xs : List Nat) (m : Nat) (T : Nat) (hT : T = m * (if x then 4 else 1)) : dig x xs T < 16 := by
  rw [dig_word x xs m T hT]
  have : ∀ z : Nat, z % (if x then 16 else 2) < 16 := fun z => by
    cases x
    · have := Nat.mod_lt z (show 0 < 2 by omega); simp; omega
    · exact Nat.mod_lt z (by decide)
  exact this _

theorem sig_lt (n : Nat) : sig n < 256 := by
  by_cases h : n < 16
  · have : ∀ n, n < 16 → sig n < 256 := by decide
    exact this n h
  · unfold sig
    simp only [List.getD]
    rw [List.getElem?_eq_none (by simp; omega)]; decide

theorem wTo_lt (x : Bool) (xs : List Nat) (c k : Nat) : ∀ y ∈ wTo x xs c k, y < 256 := by
  induction k with
  | zero => intro y hy; simp [wTo] at hy
  | succ k ih =>
    intro y hy
    rw [wTo] at hy
    rcases List.mem_append.1 hy with h | h
    · exact ih y h
    · simp at h; rw [h]; exact sig_lt _

def txt (l : List Nat) : ByteArray := ⟨(l.map UInt8.ofNat).toArray⟩

end Go.Proofs.YteenmffhbgpahaaDoor
