/- Contracts of the smallest functions of the words of bits: widthOk, wordsFor, l1In, l1Bit. -/
import Derived.Test.YthoiajpbpoglfaaProg
import Derived.Test.YthoiajpbpoglfaaZKAA
import Derived.WalkSpells
import Derived.Deep.QuietTactic
import Derived.BigQuiet
import Derived.Outline
import Derived.WalkSmall
namespace Go.Proofs.Ythoiajpbpoglfaa
set_option linter.unusedVariables false
set_option linter.unusedSimpArgs false
open Go.RowKit

theorem widthOk_any (W : Int) (w : World) :
    Calls Try.prog 63 #[.int .i64 W] w fun e w' => e = .returned (.bool (wOk W)) ∧ w' = w := by
  by_cases h1 : 1 ≤ W
  · by_cases h2 : W ≤ 4096
    · go_enter Try.func63, Try.ntmps63
      go_wp2
      go_ret
      exact ⟨by simp [wOk, h1, h2], rfl⟩
    · go_enter Try.func63, Try.ntmps63
      go_wp2
      go_ret
      exact ⟨by simp [wOk, h1, h2], rfl⟩
  · go_enter Try.func63, Try.ntmps63
    go_wp2
    go_ret
    exact ⟨by simp [wOk]; omega, rfl⟩

theorem wordsFor_any (W : Int) (h0 : 1 ≤ W) (h1 : W ≤ 4096) (w : World) :
    Calls Try.prog 78 #[.int .i64 W] w fun e w' => e = .returned (.int .i64 ((W + 63) / 64)) ∧ w' = w := by
  have e : (W + 64 - 1) / 64 = (W + 63) / 64 := by omega
  go_enter Try.func78, Try.ntmps78
  go_wp2
  go_ret
  exact ⟨by simp [e], rfl⟩

/-- A slice whose words are xs, wherever it lies. -/
def Rd (w : World) (a : Option Addr) (xs : List Nat) : Prop :=
  xs.length ≤ 1048576 ∧ (∀ x ∈ xs, x < 18446744073709551616) ∧ (xs = [] ∨ ∃ b o, a = some ⟨b, o, none⟩ ∧ ∀ i, i < xs.length → w.cell? ⟨b, o + i, none⟩ = some (.int .u64 ((xs.getD i 0 : Nat) : Int)))

theorem Rd.later {w w' : World} {a : Option Addr} {xs : List Nat} (h : Rd w a xs) (hb : Below w.heap.size w w') : Rd w' a xs := by
  obtain ⟨h1, h2, h3⟩ := h
  refine ⟨h1, h2, ?_⟩
  rcases h3 with h3 | ⟨b, o, rfl, hc⟩
  · exact .inl h3
  · refine .inr ⟨b, o, rfl, fun i hi => ?_⟩
    have := hc i hi
    rw [hb.cell (p := ⟨b, o + i, none⟩) (by exact block_lt_of_cell this)]
    exact this

theorem andOne (y k : Nat) (h : y < 18446744073709551616) : bits BinOp.and IntKind.u64 ((y : Int) / 2 ^ k) 1 % 256 = ((y / 2 ^ k % 2 : Nat) : Int) := by
  have e : ((y : Int) / 2 ^ k) = ((y / 2 ^ k : Nat) : Int) := by simp
  have hlt : y / 2 ^ k < 18446744073709551616 := Nat.lt_of_le_of_lt (Nat.div_le_self _ _) h
  rw [e, and_one_u64 _ (Int.natCast_nonneg _) (by omega)]
  omega

theorem l1In_any (n l h : Int) (w : World) :
    Calls Try.prog 26 #[.int .i64 n, .int .i64 l, .int .i64 h] w fun e w' => e = .returned (.bool (decide (l ≤ n ∧ n ≤ h))) ∧ w' = w := by
  by_cases h1 : l ≤ n
  · by_cases h2 : n ≤ h
    · go_enter Try.func26, Try.ntmps26
      go_wp2
      go_ret
      exact ⟨by simp [h1, h2], rfl⟩
    · go_enter Try.func26, Try.ntmps26
      go_wp2
      go_ret
      exact ⟨by simp [h1, h2], rfl⟩
  · go_enter Try.func26, Try.ntmps26
    go_wp2
    go_ret
    exact ⟨by simp; omega, rfl⟩

theorem l1Bit_any (W : Int) (a : Option Addr) (c : Nat) (xs : List Nat) (i : Nat) (w : World) (hr : Rd w a xs) (hi : i < 64 * xs.length) :
    Calls Try.prog 77 #[.agg #[.int .i64 W, .slice a xs.length c], .int .i64 i] w fun e w' => e = .returned (.int .u8 (((tb xs i).toNat : Nat) : Int)) ∧ Below w.heap.size w w' := by
  obtain ⟨hl, hx, h | ⟨b, o, rfl, hc⟩⟩ := hr
  · subst h; simp at hi
  have hcell := hc (i / 64) (by omega)
  have hb : b < w.heap.size := block_lt_of_cell hcell
  have htb := tb_div xs i
  have hlt : xs.getD (i / 64) 0 < 18446744073709551616 := by
    have e : xs.getD (i / 64) 0 = xs[i / 64]'(by omega) := by simp [List.getD, show i / 64 < xs.length by omega]
    rw [e]; exact hx _ (List.getElem_mem _)
  generalize hy : xs.getD (i / 64) 0 = y at hcell htb hlt
  generalize (tb xs i).toNat = t at htb ⊢
  have Hb : Hid (bits BinOp.and IntKind.u64 ((y : Int) / 2 ^ (i % 64)) 1 % 256 = (t : Int)) := by rw [andOne y _ hlt, htb]; rfl
  clear hc hx hy hlt htb
  go_enter Try.func77, Try.ntmps77
  go_wp2
  go_ret
  exact ⟨by simp [Hb.out], (Below.refl _ _).alloc (Nat.le_refl _) _⟩

end Go.Proofs.Ythoiajpbpoglfaa
