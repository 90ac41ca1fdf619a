/- Contracts of the program's own small functions on words: zeroBits, clearAbove. -/
import Derived.Test.YteenmffhbgpahaaDoorJ
import Derived.Laws.ShiftsVar
import Derived.Laws.ShiftsVarLaws
namespace Go.Proofs.YteenmffhbgpahaaDoor
set_option linter.unusedVariables false
set_option linter.unusedSimpArgs false
open Go.RowKit

theorem grown_set {w wr : World} {g : Nat} (h : w.grownBy wr (some g)) (i : Nat) (v : Value) : w.grownBy (wr.setCell ⟨g, i, none⟩ v) (some g) :=
  ⟨h.os, h.tape, h.output, by simpa using h.size, fun k hk hne => by rw [heap_setCell_other _ _ _ _ (fun e => hne (by rw [e]))]; exact h.block k hk hne⟩

theorem Own.alloc {w : World} {g : Nat} {xs : List Nat} (h : Own w g xs) (o : Obj) : Own (w.alloc o) g xs := h.later ((Below.refl _ _).alloc (Nat.le_refl _) _) h.lt

/-- The last word without its bits from the width on. -/
def clr (V : Nat) (ys : List Nat) : List Nat := ys.set (ys.length - 1) (ys.getD (ys.length - 1) 0 &&& 18446744073709551615 / 2 ^ (64 * ys.length - V))

theorem clr_len (V : Nat) (ys : List Nat) : (clr V ys).length = ys.length := by simp [clr]
theorem clr_lt (V : Nat) (ys : List Nat) (h : ∀ x ∈ ys, x < 18446744073709551616) : ∀ x ∈ clr V ys, x < 18446744073709551616 := by
  intro x hx
  rcases List.mem_or_eq_of_mem_set hx with h' | h'
  · exact h x h'
  · rw [h']; exact Nat.lt_of_le_of_lt Nat.and_le_left (getD_lt h _)

theorem tb_clr (V : Nat) (ys : List Nat) (h0 : 64 * (ys.length - 1) < V) (h1 : V ≤ 64 * ys.length) (hp : 0 < ys.length) (i : Nat) (hi : i < 64 * ys.length) : tb (clr V ys) i = (decide (i < V) && tb ys i) := by
  rw [clr, tb_set _ _ _ _ (by omega)]
  by_cases h : i / 64 = ys.length - 1
  · rw [if_pos h, Nat.testBit_and, Nat.testBit_div_two_pow, show (18446744073709551615 : Nat) = 2 ^ 64 - 1 by decide, Nat.testBit_two_pow_sub_one]
    unfold tb
    rw [h, Bool.and_comm]
    congr 1
    simp only [decide_eq_decide]
    omega
  · rw [if_neg h]
    have : i < V := by omega
    simp [this]

theorem andMask (y s : Nat) (hy : y < 18446744073709551616) : bits BinOp.and IntKind.u64 (y : Int) (18446744073709551615 / 2 ^ s) = ((y &&& 18446744073709551615 / 2 ^ s : Nat) : Int) := by
  have e : ((18446744073709551615 : Int) / 2 ^ s) = ((18446744073709551615 / 2 ^ s : Nat) : Int) := by simp
  rw [e, bits_and_u64_nat _ _ hy (Nat.lt_of_le_of_lt (Nat.div_le_self _ _) (by decide))]


end Go.Proofs.YteenmffhbgpahaaDoor
