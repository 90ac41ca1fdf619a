/- Contracts of the smallest functions of the words of bits: widthOk, wordsFor, l1In, l1Bit. -/
import Derived.Test.YtjnbapddfhpcnaaProg
import Derived.Test.YtjnbapddfhpcnaaZGAA
import Derived.WalkSpells
import Derived.Deep.QuietTactic
import Derived.BigQuiet
import Derived.Outline
import Derived.WalkSmall
namespace Go.Proofs.Ytjnbapddfhpcnaa
set_option linter.unusedVariables false
set_option linter.unusedSimpArgs false
open Go.RowKit

theorem widthOk_any (W : Int) (w : World) :
    Calls Try.prog 44 #[.int .i64 W] w fun e w' => e = .returned (.bool (wOk W)) ∧ w' = w := by
  by_cases h1 : 1 ≤ W
  · by_cases h2 : W ≤ 4096
    · go_enter Try.func44, Try.ntmps44
      go_wp2
      go_ret
      exact ⟨by simp [wOk, h1, h2], rfl⟩
    · go_enter Try.func44, Try.ntmps44
      go_wp2
      go_ret
      exact ⟨by simp [wOk, h1, h2], rfl⟩
  · go_enter Try.func44, Try.ntmps44
    go_wp2
    go_ret
    exact ⟨by simp [wOk]; omega, rfl⟩


/-- A slice whose words are xs, wherever it lies. -/
def Rd (w : World) (a : Option Addr) (xs : List Nat) : Prop :=
  xs.length ≤ 1048576 ∧ (∀ x ∈ xs, x < 18446744073709551616) ∧ (xs = [] ∨ ∃ b o, a = some ⟨b, o, none⟩ ∧ ∀ i, i < xs.length → w.cell? ⟨b, o + i, none⟩ = some (.int .u64 ((xs.getD i 0 : Nat) : Int)))

theorem Rd.later {w w' : World} {a : Option Addr} {xs : List Nat} (h : Rd w a xs) (hb : Below w.heap.size w w') : Rd w' a xs := by
  obtain ⟨h1, h2, h3⟩ := h
  refine ⟨h1, h2, ?_⟩
  rcases h3 with h3 | ⟨b, o, rfl, hc⟩
  · exact .inl h3
  · refine .inr ⟨b, o, rfl, fun i hi => ?_⟩
    have := hc i hi
    rw [hb.cell (p := ⟨b, o + i, none⟩) (by exact block_lt_of_cell this)]
    exact this

theorem andOne (y k : Nat) (h : y < 18446744073709551616) : bits BinOp.and IntKind.u64 ((y : Int) / 2 ^ k) 1 % 256 = ((y / 2 ^ k % 2 : Nat) : Int) := by
  have e : ((y : Int) / 2 ^ k) = ((y / 2 ^ k : Nat) : Int) := by simp
  have hlt : y / 2 ^ k < 18446744073709551616 := Nat.lt_of_le_of_lt (Nat.div_le_self _ _) h
  rw [e, and_one_u64 _ (Int.natCast_nonneg _) (by omega)]
  omega

theorem l1In_any (n l h : Int) (w : World) :
    Calls Try.prog 32 #[.int .i64 n, .int .i64 l, .int .i64 h] w fun e w' => e = .returned (.bool (decide (l ≤ n ∧ n ≤ h))) ∧ w' = w := by
  by_cases h1 : l ≤ n
  · by_cases h2 : n ≤ h
    · go_enter Try.func32, Try.ntmps32
      go_wp2
      go_ret
      exact ⟨by simp [h1, h2], rfl⟩
    · go_enter Try.func32, Try.ntmps32
      go_wp2
      go_ret
      exact ⟨by simp [h1, h2], rfl⟩
  · go_enter Try.func32, Try.ntmps32
    go_wp2
    go_ret
    exact ⟨by simp; omega, rfl⟩


end Go.Proofs.Ytjnbapddfhpcnaa
