/- Plain facts: the word of a list of bits, told by its bits. No program in sight. -/
import Derived.Test.YtfanddpncipkkaaH
namespace Go.Proofs.Ytfanddpncipkkaa
set_option linter.unusedVariables false
set_option linter.unusedSimpArgs false
open Go.RowKit

theorem getD_lt {xs : List Nat} (h : ∀ x ∈ xs, x < 18446744073709551616) (i : Nat) : xs.getD i 0 < 18446744073709551616 := by
  simp only [List.getD]
  cases hg : xs[i]? with
  | none => simp
  | some v => exact h v (List.mem_of_getElem? hg)

theorem tb_set (xs : List Nat) (k y i : Nat) (hk : k < xs.length) : tb (xs.set k y) i = if i / 64 = k then y.testBit (i % 64) else tb xs i := by
  unfold tb
  simp only [List.getD, List.getElem?_set]
  by_cases h : i / 64 = k
  · simp [h, hk]
  · rw [if_neg (fun e => h e.symm), if_neg h]

theorem tb_packTo (bs : List Nat) (hb : ∀ x ∈ bs, x ≤ 1) (k i : Nat) (hk : k ≤ bs.length) : tb (packTo bs k) i = (decide (i < k) && decide (bs.getD i 0 = 1)) := by
  induction k with
  | zero => simp [packTo, tb, List.getD, List.getElem?_replicate]; split <;> simp
  | succ k ih =>
    have hlen := packTo_len bs k
    rw [packTo, tb_set _ _ _ _ (by omega)]
    have hbk : bs.getD k 0 ≤ 1 := by
      have e : bs.getD k 0 = bs[k] := by simp [List.getD, show k < bs.length by omega]
      rw [e]; exact hb _ (List.getElem_mem _)
    have hlt : bs.getD k 0 * 2 ^ (k % 64) < 18446744073709551616 := by
      have h1 : 2 ^ (k % 64) ≤ 2 ^ 63 := Nat.pow_le_pow_right (by omega) (by omega)
      have h2 : bs.getD k 0 * 2 ^ (k % 64) ≤ 1 * 2 ^ (k % 64) := Nat.mul_le_mul_right _ hbk
      omega
    by_cases h : i / 64 = k / 64
    · rw [if_pos h, Nat.testBit_or, Nat.mod_eq_of_lt hlt]
      have ih' := ih (by omega)
      unfold tb at ih'
      rw [h] at ih'
      rw [ih']
      by_cases h2 : i = k
      · subst h2
        have h3 : bs.getD i 0 = 0 ∨ bs.getD i 0 = 1 := by omega
        rcases h3 with h3 | h3
        · rw [h3]; simp
        · rw [h3, Nat.one_mul, Nat.testBit_two_pow_self]; simp
      · have h4 : (bs.getD k 0 * 2 ^ (k % 64)).testBit (i % 64) = false := by
          have h3 : bs.getD k 0 = 0 ∨ bs.getD k 0 = 1 := by omega
          rcases h3 with h3 | h3
          · rw [h3]; simp
          · rw [h3, Nat.one_mul]; exact Nat.testBit_two_pow_of_ne (by omega)
        rw [h4, Bool.or_false]
        by_cases h5 : i < k
        · simp [h5, show i < k + 1 by omega]
        · simp [h5, show ¬ i < k + 1 by omega]
    · rw [if_neg h, ih (by omega)]
      by_cases h5 : i < k
      · simp [h5, show i < k + 1 by omega]
      · simp [h5, show ¬ i < k + 1 by omega]

theorem tb_pack (bs : List Nat) (hb : ∀ x ∈ bs, x ≤ 1) (i : Nat) : tb (pack bs) i = decide (bs.getD i 0 = 1) := by
  rw [pack, tb_packTo bs hb _ _ (Nat.le_refl _)]
  by_cases h : i < bs.length
  · simp [h]
  · simp [h, List.getD]

theorem pack_len (bs : List Nat) : (pack bs).length = (bs.length + 63) / 64 := packTo_len bs _
theorem pack_lt (bs : List Nat) : ∀ x ∈ pack bs, x < 18446744073709551616 := packTo_lt bs _

/-- Two rows of as many words that have the same bits are the same. -/
theorem tb_ext {xs ys : List Nat} (hl : xs.length = ys.length) (hx : ∀ x ∈ xs, x < 18446744073709551616) (hy : ∀ x ∈ ys, x < 18446744073709551616)
    (h : ∀ i, i < 64 * xs.length → tb xs i = tb ys i) : xs = ys := by
  refine List.ext_getElem hl fun k h1 h2 => ?_
  have e1 : xs.getD k 0 = xs[k] := by simp [List.getD, h1]
  have e2 : ys.getD k 0 = ys[k] := by simp [List.getD, h2]
  rw [← e1, ← e2]
  refine Nat.eq_of_testBit_eq fun j => ?_
  by_cases hj : j < 64
  · have := h (64 * k + j) (by omega)
    unfold tb at this
    rw [show (64 * k + j) / 64 = k by omega, show (64 * k + j) % 64 = j by omega] at this
    exact this
  · have p : 2 ^ 64 ≤ 2 ^ j := Nat.pow_le_pow_right (by omega) (by omega)
    rw [Nat.testBit_lt_two_pow (Nat.lt_of_lt_of_le (getD_lt hx k) p), Nat.testBit_lt_two_pow (Nat.lt_of_lt_of_le (getD_lt hy k) p)]

/-- A row of words is the word of a list of bits where it has its bits. -/
theorem eq_pack {ys bs : List Nat} (hb : ∀ x ∈ bs, x ≤ 1) (hl : ys.length = (bs.length + 63) / 64) (hy : ∀ x ∈ ys, x < 18446744073709551616)
    (h : ∀ i, i < 64 * ys.length → tb ys i = decide (bs.getD i 0 = 1)) : ys = pack bs :=
  tb_ext (by rw [hl, pack_len]) hy (pack_lt bs) fun i hi => by rw [h i hi, tb_pack bs hb]

/-- Bits from the width on are 0 in a right row; behind its words there are none. -/
theorem tb_out {W : Int} {xs : List Nat} (h : rightB W xs = true) (i : Nat) (hi : W ≤ (i : Int)) : tb xs i = false := by
  simp only [rightB, Bool.and_eq_true] at h
  by_cases hl : i < 64 * xs.length
  · exact (clear_iff W xs).1 h.2 i hi hl
  · unfold tb
    have : xs.getD (i / 64) 0 = 0 := by simp only [List.getD]; rw [List.getElem?_eq_none (by omega)]; rfl
    rw [this]; simp

theorem right_W {W : Int} {xs : List Nat} (h : rightB W xs = true) : 1 ≤ W ∧ W ≤ 4096 ∧ (xs.length : Int) = (W + 63) / 64 := by
  simp [rightB, wOk] at h
  omega

theorem pack_right (bs : List Nat) (hb : ∀ x ∈ bs, x ≤ 1) (h1 : 1 ≤ bs.length) (h2 : bs.length ≤ 4096) : rightB bs.length (pack bs) = true := by
  rw [rightB_clear (by simp [wOk]; omega) (by rw [pack_len]; omega), clear_iff]
  intro i hi _
  rw [tb_pack bs hb]
  simp [List.getD, List.getElem?_eq_none (show bs.length ≤ i by omega)]

end Go.Proofs.Ytfanddpncipkkaa
