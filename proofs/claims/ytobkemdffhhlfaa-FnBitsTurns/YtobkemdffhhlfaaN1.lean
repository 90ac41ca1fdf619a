/- Plain facts on the next word: the first bit that is 0, the carry. -/
import Derived.Test.YtobkemdffhhlfaaZ3
namespace Go.Proofs.Ytobkemdffhhlfaa
set_option linter.unusedVariables false
set_option linter.unusedSimpArgs false
open Go.RowKit

def fzFrom (xs : List Nat) (i : Nat) : Nat → Nat
  | 0 => i
  | n + 1 => if tb xs i = true then fzFrom xs (i + 1) n else i

theorem fzFrom_eq (xs : List Nat) (n : Nat) : ∀ i k, i ≤ k → k < i + n → (∀ j, i ≤ j → j < k → tb xs j = true) → tb xs k = false → fzFrom xs i n = k := by
  induction n with
  | zero => intro i k h1 h2; omega
  | succ n ih =>
    intro i k h1 h2 h3 h4
    rw [fzFrom]
    by_cases h : i = k
    · subst h; simp [h4]
    · rw [if_pos (h3 i (Nat.le_refl _) (by omega))]
      exact ih (i + 1) k (by omega) (by omega) (fun j hj hk => h3 j (by omega) hk) h4

theorem fzFrom_all (xs : List Nat) (n : Nat) : ∀ i, (∀ j, i ≤ j → j < i + n → tb xs j = true) → fzFrom xs i n = i + n := by
  induction n with
  | zero => intro i _; rfl
  | succ n ih =>
    intro i h
    rw [fzFrom, if_pos (h i (Nat.le_refl _) (by omega)), ih (i + 1) (fun j h1 h2 => h j (by omega) (by omega))]
    omega

theorem fzFrom_lt (xs : List Nat) (n : Nat) : ∀ i, fzFrom xs i n < i + n → tb xs (fzFrom xs i n) = false ∧ ∀ j, i ≤ j → j < fzFrom xs i n → tb xs j = true := by
  induction n with
  | zero => intro i h; simp [fzFrom] at h
  | succ n ih =>
    intro i h
    rw [fzFrom] at h ⊢
    by_cases hb : tb xs i = true
    · rw [if_pos hb] at h ⊢
      obtain ⟨h1, h2⟩ := ih (i + 1) (by omega)
      refine ⟨h1, fun j hj hk => ?_⟩
      by_cases e : j = i
      · rw [e]; exact hb
      · exact h2 j (by omega) hk
    · rw [if_neg hb]
      exact ⟨by simpa using hb, fun j h1 h2 => by omega⟩

def fz (xs : List Nat) (V : Nat) : Nat := fzFrom xs 0 V

def nxtList (bs : List Nat) (p : Nat) : List Nat := List.replicate p 0 ++ 1 :: bs.drop (p + 1)

def nextR (W : Int) (xs : List Nat) : Int × List Nat × Bool :=
  if rightB W xs = true ∧ fz xs W.toNat < W.toNat then (W, pack (nxtList (bitsTo xs W.toNat) (fz xs W.toNat)), true) else noR

/-- All bits are 1 just where as many are as there are. -/
theorem cnt_full (f : Nat → Nat) (k : Nat) (h1 : ∀ i, f i ≤ 1) (h : cnt f k = k) : ∀ i, i < k → f i = 1 := by
  induction k with
  | zero => intro i hi; omega
  | succ k ih =>
    rw [cnt] at h
    have := h1 k
    have := cnt_le f k h1
    intro i hi
    by_cases e : i = k
    · subst e; omega
    · exact ih (by omega) i (by omega)
theorem ones_full (xs : List Nat) (V : Nat) : ones xs V = V ↔ ∀ i, i < V → tb xs i = true := by
  constructor
  · intro h i hi
    have := cnt_full _ V (fun i => by cases tb xs i <;> decide) h i hi
    cases hb : tb xs i with
    | true => rfl
    | false => rw [hb] at this; exact absurd this (by decide)
  · intro h
    unfold ones
    rw [cnt_congr _ (fun _ => 1) V (fun i hi => by rw [h i hi]; rfl)]
    clear h
    induction V with
    | zero => rfl
    | succ V ih => rw [cnt, ih]

/-- The carry into the word k. -/
def cr (xs : List Nat) : Nat → Nat
  | 0 => 1
  | k + 1 => (xs.getD k 0 + cr xs k) / 18446744073709551616
theorem cr_le (xs : List Nat) (hx : ∀ x ∈ xs, x < 18446744073709551616) (k : Nat) : cr xs k ≤ 1 := by
  induction k with
  | zero => exact Nat.le_refl _
  | succ k ih => rw [cr]; have := getD_lt hx k; omega

def nxWord (xs : List Nat) (k : Nat) : Nat := (xs.getD k 0 + cr xs k) % 18446744073709551616
def nxTo (xs : List Nat) (N k : Nat) : List Nat := (List.range k).map (nxWord xs) ++ List.replicate (N - k) 0
theorem nxTo_len (xs : List Nat) (N k : Nat) (h : k ≤ N) : (nxTo xs N k).length = N := by simp [nxTo]; omega
theorem nxTo_set (xs : List Nat) (N k : Nat) (h : k < N) : (nxTo xs N k).set k (nxWord xs k) = nxTo xs N (k + 1) := by
  unfold nxTo
  rw [List.set_append_right _ _ (by simp)]
  simp only [List.length_map, List.length_range, Nat.sub_self]
  obtain ⟨m, hm⟩ : ∃ m, N - k = m + 1 := ⟨N - k - 1, by omega⟩
  rw [hm, List.replicate_succ, List.set_cons_zero, show N - (k + 1) = m by omega]
  simp [List.range_succ]
theorem nxTo_lt (xs : List Nat) (N k : Nat) : ∀ x ∈ nxTo xs N k, x < 18446744073709551616 := by
  intro x hx
  unfold nxTo at hx
  rcases List.mem_append.1 hx with h | h
  · obtain ⟨i, _, rfl⟩ := List.mem_map.1 h
    exact Nat.mod_lt _ (by decide)
  · have := List.eq_of_mem_replicate h; omega

/-- A word all of whose bits are 1. -/
theorem all_ones (x : Nat) (hx : x < 18446744073709551616) (h : ∀ j, j < 64 → x.testBit j = true) : x = 18446744073709551615 := by
  refine Nat.eq_of_testBit_eq fun j => ?_
  rw [show (18446744073709551615 : Nat) = 2 ^ 64 - 1 by decide, Nat.testBit_two_pow_sub_one]
  by_cases hj : j < 64
  · simp [h j hj, hj]
  · rw [Nat.testBit_lt_two_pow (Nat.lt_of_lt_of_le hx (show 2 ^ 64 ≤ 2 ^ j from Nat.pow_le_pow_right (by omega) (by omega)))]; simp [hj]

theorem cr_one (xs : List Nat) (hx : ∀ x ∈ xs, x < 18446744073709551616) (p : Nat) (h : ∀ i, i < p → tb xs i = true) (k : Nat) (hk : 64 * k ≤ p) : cr xs k = 1 := by
  induction k with
  | zero => rfl
  | succ k ih =>
    have e : xs.getD k 0 = 18446744073709551615 := by
      refine all_ones _ (getD_lt hx k) fun j hj => ?_
      have := h (64 * k + j) (by omega)
      unfold tb at this
      rwa [show (64 * k + j) / 64 = k by omega, show (64 * k + j) % 64 = j by omega] at this
    rw [cr, ih (by omega), e]

/-- A word whose lowest j bits are 1 and whose bit j is 0, and one more. -/
theorem succ_bit (x j i : Nat) (h : ∀ k, k < j → x.testBit k = true) (hj : x.testBit j = false) : (x + 1).testBit i = (if i < j then false else if i = j then true else x.testBit i) := by
  have hlow : x % 2 ^ j = 2 ^ j - 1 := by
    refine Nat.eq_of_testBit_eq fun k => ?_
    rw [Nat.testBit_mod_two_pow, Nat.testBit_two_pow_sub_one]
    by_cases hk : k < j
    · simp [hk, h k hk]
    · simp [hk]
  have hx : x = 2 ^ j * (x / 2 ^ j) + (2 ^ j - 1) := by
    have := Nat.div_add_mod x (2 ^ j)
    omega
  have hp : 0 < 2 ^ j := Nat.two_pow_pos j
  have he : x / 2 ^ j % 2 = 0 := by
    have := Nat.testBit_eq_decide_div_mod_eq (x := x) (i := j)
    rw [hj] at this
    simp at this
    omega
  have hx1 : x + 1 = 2 ^ j * (x / 2 ^ j + 1) + 0 := by rw [Nat.mul_add, Nat.mul_one]; omega
  rw [hx1, Nat.testBit_two_pow_mul_add _ hp]
  by_cases hi : i < j
  · simp [hi]
  · rw [if_neg hi, if_neg hi]
    generalize hq : x / 2 ^ j = q at *
    obtain ⟨r, hr⟩ : ∃ r, q = 2 * r := ⟨q / 2, by omega⟩
    by_cases e : i = j
    · subst e
      rw [if_pos rfl, Nat.sub_self, hr]
      simp [Nat.testBit_zero]
    · rw [if_neg e]
      have e2 : x.testBit i = q.testBit (i - j) := by
        rw [← hq, Nat.testBit_div_two_pow]; congr 1; omega
      rw [e2, hr]
      obtain ⟨s, hs⟩ : ∃ s, i - j = s + 1 := ⟨i - j - 1, by omega⟩
      rw [hs, Nat.testBit_succ, Nat.testBit_succ]
      congr 1
      omega

theorem cr_zero (xs : List Nat) (hx : ∀ x ∈ xs, x < 18446744073709551616) (p : Nat) (h : ∀ i, i < p → tb xs i = true) (hz : tb xs p = false) (k : Nat) (hk : p < 64 * k) : cr xs k = 0 := by
  induction k with
  | zero => omega
  | succ k ih =>
    have hy := getD_lt hx k
    rw [cr]
    by_cases hk2 : p < 64 * k
    · rw [ih hk2]; omega
    · have c1 := cr_one xs hx p h k (by omega)
      have : xs.getD k 0 ≠ 18446744073709551615 := by
        intro e
        unfold tb at hz
        rw [show p / 64 = k by omega, e, show (18446744073709551615 : Nat) = 2 ^ 64 - 1 by decide, Nat.testBit_two_pow_sub_one] at hz
        simp at hz
        omega
      rw [c1]; omega

theorem tb_next (xs : List Nat) (hx : ∀ x ∈ xs, x < 18446744073709551616) (N p : Nat) (hN : xs.length = N) (h : ∀ i, i < p → tb xs i = true) (hz : tb xs p = false) (hp : p < 64 * N) (i : Nat) (hi : i < 64 * N) :
    tb (nxTo xs N N) i = (if i < p then false else if i = p then true else tb xs i) := by
  have hk : i / 64 < N := by omega
  have e : (nxTo xs N N).getD (i / 64) 0 = nxWord xs (i / 64) := by simp [nxTo, List.getD, hk]
  have hy := getD_lt hx (i / 64)
  have tbe : tb (nxTo xs N N) i = (nxWord xs (i / 64)).testBit (i % 64) := by unfold tb; rw [e]
  rw [tbe, nxWord]
  by_cases h1 : i / 64 < p / 64
  · -- all ones below: the word becomes 0
    have c1 := cr_one xs hx p h (i / 64) (by omega)
    have e1 : xs.getD (i / 64) 0 = 18446744073709551615 := by
      refine all_ones _ hy fun j hj => ?_
      have := h (64 * (i / 64) + j) (by omega)
      unfold tb at this
      rwa [show (64 * (i / 64) + j) / 64 = i / 64 by omega, show (64 * (i / 64) + j) % 64 = j by omega] at this
    rw [c1, e1, if_pos (by omega)]
    simp
  · by_cases h2 : i / 64 = p / 64
    · have c1 := cr_one xs hx p h (i / 64) (by omega)
      have hne : xs.getD (i / 64) 0 ≠ 18446744073709551615 := by
        intro e1
        unfold tb at hz
        rw [← h2, e1, show (18446744073709551615 : Nat) = 2 ^ 64 - 1 by decide, Nat.testBit_two_pow_sub_one] at hz
        simp at hz
        omega
      rw [c1, Nat.mod_eq_of_lt (by omega), succ_bit _ (p % 64) (i % 64) ?_ ?_]
      · unfold tb
        by_cases h3 : i < p
        · rw [if_pos h3, if_pos (by omega)]
        · rw [if_neg h3, if_neg (by omega)]
          by_cases h4 : i = p
          · rw [if_pos h4, if_pos (by omega)]
          · rw [if_neg h4, if_neg (by omega)]
      · intro k hk3
        have := h (64 * (p / 64) + k) (by omega)
        unfold tb at this
        rwa [show (64 * (p / 64) + k) / 64 = i / 64 by omega, show (64 * (p / 64) + k) % 64 = k by omega] at this
      · unfold tb at hz
        rwa [← h2] at hz
    · have c0 := cr_zero xs hx p h hz (i / 64) (by omega)
      rw [c0, Nat.add_zero, Nat.mod_eq_of_lt hy, if_neg (by omega), if_neg (by omega)]
      rfl

theorem next_pack {V : Nat} {xs : List Nat} (hok : rightB V xs = true) (hx : ∀ x ∈ xs, x < 18446744073709551616) (p N : Nat) (hN : N = (V + 63) / 64) (h : ∀ i, i < p → tb xs i = true) (hz : tb xs p = false) (hp : p < V) :
    nxTo xs N N = pack (nxtList (bitsTo xs V) p) := by
  have hw := right_W hok
  have hl : xs.length = N := by omega
  have hll : (nxtList (bitsTo xs V) p).length = V := by simp [nxtList, bitsTo_len]; omega
  refine eq_pack (fun x hxm => ?_) (by rw [nxTo_len _ _ _ (Nat.le_refl _), hll, hN]) (nxTo_lt _ _ _) fun i hi => ?_
  · unfold nxtList at hxm
    rcases List.mem_append.1 hxm with h' | h'
    · have := List.eq_of_mem_replicate h'; omega
    · rcases List.mem_cons.1 h' with h'' | h''
      · omega
      · exact bitsTo_le xs V x (List.mem_of_mem_drop h'')
  · rw [nxTo_len _ _ _ (Nat.le_refl _)] at hi
    rw [tb_next xs hx N p hl h hz (by omega) i hi]
    have e : (nxtList (bitsTo xs V) p).getD i 0 = if i < p then 0 else if i = p then 1 else (tb xs i).toNat := by
      unfold nxtList
      simp only [List.getD]
      by_cases h1 : i < p
      · rw [List.getElem?_append_left (by simpa using h1), if_pos h1]
        simp [List.getElem?_replicate, h1]
      · rw [List.getElem?_append_right (by simp; omega), if_neg h1]
        by_cases h2 : i = p
        · subst h2; simp
        · rw [if_neg h2, List.length_replicate]
          obtain ⟨s, hs⟩ : ∃ s, i - p = s + 1 := ⟨i - p - 1, by omega⟩
          rw [hs, List.getElem?_cons_succ, List.getElem?_drop, show p + 1 + s = i by omega]
          by_cases h3 : i < V
          · simp [bitsTo, h3]
          · rw [List.getElem?_eq_none (by rw [bitsTo_len]; omega), tb_out hok i (by omega)]; rfl
    rw [e]
    by_cases h1 : i < p
    · simp [h1]
    · by_cases h2 : i = p
      · simp [h2]
      · simp only [h1, h2, if_false]
        cases tb xs i <;> simp

end Go.Proofs.Ytobkemdffhhlfaa
