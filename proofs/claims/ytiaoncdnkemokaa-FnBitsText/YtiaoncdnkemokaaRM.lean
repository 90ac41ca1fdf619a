/- Plain facts on reading a word from the end of its text: digits, their bits from the lowest on. No program in sight. -/
import Derived.Test.YtiaoncdnkemokaaD5
import Derived.Test.YtiaoncdnkemokaaSH
namespace Go.Proofs.Ytiaoncdnkemokaa
set_option linter.unusedVariables false
set_option linter.unusedSimpArgs false
open Go.RowKit

def perOf (x : Bool) : Nat := if x then 4 else 1

theorem digs_len (x : Bool) (n : Nat) : (digs x n).length = perOf x := by cases x <;> simp [digs, perOf]

theorem readTo_full {x : Bool} {s : ByteArray} {k : Nat} {l : List Nat} (h : readTo x s k = some l) : l.length = k * perOf x := by
  induction k generalizing l with
  | zero => simp [readTo] at h; subst h; simp
  | succ k ih =>
    rw [readTo] at h
    obtain ⟨l0, h0, h1⟩ := Option.bind_eq_some_iff.1 h
    by_cases hd : okDig x (hexI (bn s (k + 2))) = true
    · rw [if_pos hd] at h1
      simp at h1
      subst h1
      rw [List.length_append, ih h0, digs_len, Nat.add_mul, Nat.one_mul]
    · rw [if_neg hd] at h1; cases h1

theorem readTo_bad {x : Bool} {s : ByteArray} {k c : Nat} (hk : k < c) (hd : okDig x (hexI (bn s (k + 2))) = false) : readTo x s c = none := by
  obtain ⟨j, rfl⟩ : ∃ j, c = (k + 1) + j := ⟨c - (k + 1), by omega⟩
  refine readTo_none ?_ j
  rw [readTo]
  cases readTo x s k with
  | none => rfl
  | some l => simp [hd]

theorem readTo_good {x : Bool} {s : ByteArray} {c : Nat} (h : ∀ k, k < c → okDig x (hexI (bn s (k + 2))) = true) : ∃ l, readTo x s c = some l := by
  induction c with
  | zero => exact ⟨[], rfl⟩
  | succ c ih =>
    obtain ⟨l, hl⟩ := ih (fun k hk => h k (by omega))
    exact ⟨l ++ digs x (hexI (bn s (c + 2))).toNat, by rw [readTo, hl]; simp [h c (by omega)]⟩

/-- The bits of the last i of c digits, the lowest first. -/
def lo (x : Bool) (s : ByteArray) (c : Nat) : Nat → List Nat
  | 0 => []
  | i + 1 => lo x s c i ++ (digs x (hexI (bn s (c - 1 - i + 2))).toNat).reverse

theorem lo_len (x : Bool) (s : ByteArray) (c i : Nat) : (lo x s c i).length = i * perOf x := by
  induction i with
  | zero => simp [lo]
  | succ i ih => rw [lo, List.length_append, ih, List.length_reverse, digs_len, Nat.add_mul, Nat.one_mul]

theorem lo_shift (x : Bool) (s : ByteArray) (c i : Nat) (h : i ≤ c) : lo x s (c + 1) (i + 1) = (digs x (hexI (bn s (c + 2))).toNat).reverse ++ lo x s c i := by
  induction i with
  | zero => simp [lo]
  | succ i ih =>
    rw [lo, ih (by omega), lo, List.append_assoc]
    rw [show c + 1 - 1 - (i + 1) = c - 1 - i by omega]

theorem lo_all {x : Bool} {s : ByteArray} {c : Nat} {l : List Nat} (h : readTo x s c = some l) : lo x s c c = l.reverse := by
  induction c generalizing l with
  | zero => simp [readTo] at h; subst h; rfl
  | succ c ih =>
    rw [readTo] at h
    obtain ⟨l0, h0, h1⟩ := Option.bind_eq_some_iff.1 h
    by_cases hd : okDig x (hexI (bn s (c + 2))) = true
    · rw [if_pos hd] at h1
      simp at h1
      subst h1
      rw [lo_shift x s c c (Nat.le_refl _), ih h0, List.reverse_append]
    · rw [if_neg hd] at h1; cases h1

/-- The bits of a digit by its number. -/
theorem digs_get (x : Bool) (n k : Nat) (hn : n < 2 ^ perOf x) : decide (((digs x n).reverse).getD k 0 = 1) = n.testBit k := by
  cases x with
  | true =>
    have hn' : n < 16 := by simpa [perOf] using hn
    by_cases hk : k < 4
    · have : ∀ n, n < 16 → ∀ k, k < 4 → decide (((digs true n).reverse).getD k 0 = 1) = n.testBit k := by decide
      exact this n hn' k hk
    · have e : ((digs true n).reverse).getD k 0 = 0 := by
        simp only [List.getD]
        rw [List.getElem?_eq_none (by rw [List.length_reverse, digs_len]; simp [perOf]; omega)]; rfl
      rw [e, Nat.testBit_lt_two_pow (Nat.lt_of_lt_of_le hn' (show 2 ^ 4 ≤ 2 ^ k from Nat.pow_le_pow_right (by omega) (by omega)))]
      rfl
  | false =>
    have hn' : n < 2 := by simpa [perOf] using hn
    by_cases hk : k < 1
    · have : ∀ n, n < 2 → ∀ k, k < 1 → decide (((digs false n).reverse).getD k 0 = 1) = n.testBit k := by decide
      exact this n hn' k hk
    · have e : ((digs false n).reverse).getD k 0 = 0 := by
        simp only [List.getD]
        rw [List.getElem?_eq_none (by rw [List.length_reverse, digs_len]; simp [perOf]; omega)]; rfl
      rw [e, Nat.testBit_lt_two_pow (Nat.lt_of_lt_of_le hn' (show 2 ^ 1 ≤ 2 ^ k from Nat.pow_le_pow_right (by omega) (by omega)))]
      rfl

/-- A digit's bits put into a row that has none there yet. -/
theorem put_digit {x : Bool} {zs bs : List Nat} {n : Nat} (hn : n < 2 ^ perOf x) (hz : ∀ k, tb zs k = decide (bs.getD k 0 = 1)) (i : Nat) (hb : bs.length = i * perOf x) (hN : i * perOf x / 64 < zs.length) :
    ∀ k, tb (zs.set (i * perOf x / 64) (zs.getD (i * perOf x / 64) 0 ||| n * 2 ^ (i * perOf x % 64) % 18446744073709551616)) k = decide ((bs ++ (digs x n).reverse).getD k 0 = 1) := by
  intro k
  have hfit : i * perOf x % 64 + perOf x ≤ 64 := by cases x <;> simp [perOf] <;> omega
  have hlt : n * 2 ^ (i * perOf x % 64) < 18446744073709551616 := by
    have h1 : n * 2 ^ (i * perOf x % 64) < 2 ^ perOf x * 2 ^ (i * perOf x % 64) := Nat.mul_lt_mul_of_pos_right hn (Nat.two_pow_pos _)
    rw [← Nat.pow_add] at h1
    exact Nat.lt_of_lt_of_le h1 (show 2 ^ (perOf x + i * perOf x % 64) ≤ 2 ^ 64 from Nat.pow_le_pow_right (by omega) (by omega))
  generalize hat : i * perOf x = at_ at *
  rw [tb_set _ _ _ _ hN, Nat.mod_eq_of_lt hlt]
  have hd := digs_get x n
  by_cases hk : k < at_
  · have e : (bs ++ (digs x n).reverse).getD k 0 = bs.getD k 0 := by
      simp only [List.getD]; rw [List.getElem?_append_left (by omega)]
    rw [e, ← hz k]
    split
    · rename_i h64
      rw [Nat.testBit_or, Nat.testBit_mul_two_pow]
      have : ¬ at_ % 64 ≤ k % 64 := by omega
      simp only [this, decide_false, Bool.false_and, Bool.or_false]
      unfold tb; rw [h64]
    · rfl
  · have e : (bs ++ (digs x n).reverse).getD k 0 = ((digs x n).reverse).getD (k - at_) 0 := by
      simp only [List.getD]; rw [List.getElem?_append_right (by omega), hb]
    rw [e, hd _ hn]
    have hzk : tb zs k = false := by
      rw [hz k]
      have : bs.getD k 0 = 0 := by simp only [List.getD]; rw [List.getElem?_eq_none (by omega)]; rfl
      rw [this]; rfl
    split
    · rename_i h64
      rw [Nat.testBit_or, Nat.testBit_mul_two_pow]
      have hz' : (zs.getD (at_ / 64) 0).testBit (k % 64) = false := by
        have := hzk; unfold tb at this; rwa [h64] at this
      have h1 : at_ % 64 ≤ k % 64 := by omega
      have h2 : k % 64 - at_ % 64 = k - at_ := by omega
      rw [hz', h2]
      simp [h1]
    · rename_i h64
      rw [hzk]
      symm
      refine Nat.testBit_lt_two_pow (Nat.lt_of_lt_of_le hn (Nat.pow_le_pow_right (by omega) ?_))
      omega

theorem idx_hex : ∀ c, c < 256 → Lib.indexByte [48, 49, 50, 51, 52, 53, 54, 55, 56, 57, 97, 98, 99, 100, 101, 102] (UInt8.ofNat c) = if okDig true (hexI c) = true then hexI c else -1 := by decide +kernel
theorem idx_bin : ∀ c, c < 256 → Lib.indexByte [48, 49] (UInt8.ofNat c) = if okDig false (hexI c) = true then hexI c else -1 := by decide +kernel

end Go.Proofs.Ytiaoncdnkemokaa
