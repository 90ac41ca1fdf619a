/- No two words have one text. -/
import Derived.Test.YteenmffhbgpahaaDoorWM
namespace Go.Proofs.YteenmffhbgpahaaDoor
set_option linter.unusedVariables false
set_option linter.unusedSimpArgs false
open Go.RowKit

theorem sig_inj : ∀ m, m < 16 → ∀ n, n < 16 → sig m = sig n → m = n := by decide
theorem wTo_at (x : Bool) (xs : List Nat) (c m k : Nat) (hk : k < m) : (wTo x xs c m).getD k 0 = sig (dig x xs ((c - 1 - k) * (if x then 4 else 1))) := by
  induction m with
  | zero => omega
  | succ m ih =>
    have hl := wTo_len x xs c m
    unfold wTo
    by_cases h : k < m
    · rw [← ih h]
      simp only [List.getD_eq_getElem?_getD]
      rw [List.getElem?_append_left (by omega)]
    · have e : k = m := by omega
      subst e
      simp only [List.getD_eq_getElem?_getD]
      rw [List.getElem?_append_right (by omega), hl]
      simp
theorem bit_01 (xs : List Nat) (i : Nat) : bit xs i ≤ 1 := by unfold bit; cases tb xs i <;> decide
theorem bit_tb {xs ys : List Nat} {i : Nat} (h : bit xs i = bit ys i) : tb xs i = tb ys i := by
  unfold bit at h
  cases hx : tb xs i <;> cases hy : tb ys i <;> simp_all
theorem dig_bits {xs ys : List Nat} {at_ : Nat} (h : dig true xs at_ = dig true ys at_) : ∀ i, i < 4 → bit xs (at_ + i) = bit ys (at_ + i) := by
  simp only [dig, if_true] at h
  have a0 := bit_01 xs at_
  have a1 := bit_01 xs (at_ + 1)
  have a2 := bit_01 xs (at_ + 2)
  have a3 := bit_01 xs (at_ + 3)
  have b0 := bit_01 ys at_
  have b1 := bit_01 ys (at_ + 1)
  have b2 := bit_01 ys (at_ + 2)
  have b3 := bit_01 ys (at_ + 3)
  intro i hi
  rcases (by omega : i = 0 ∨ i = 1 ∨ i = 2 ∨ i = 3) with rfl | rfl | rfl | rfl
  · simp only [Nat.add_zero]; omega
  · omega
  · omega
  · omega
theorem same_bits {V : Nat} {xs ys : List Nat} (hx : rightB V xs = true) (hy : rightB V ys = true) (bx : ∀ x ∈ xs, x < 18446744073709551616) (by_ : ∀ x ∈ ys, x < 18446744073709551616) (h : ∀ i, i < V → tb xs i = tb ys i) : xs = ys := by
  have l1 := (right_W hx).2.2
  have l2 := (right_W hy).2.2
  refine tb_ext (by omega) bx by_ fun i hi => ?_
  by_cases hV : i < V
  · exact h i hV
  · rw [tb_out hx i (by omega), tb_out hy i (by omega)]
theorem writeL_inj {V U : Nat} {xs ys : List Nat} (hx : rightB V xs = true) (hy : rightB U ys = true) (bx : ∀ x ∈ xs, x < 18446744073709551616) (by_ : ∀ x ∈ ys, x < 18446744073709551616) (h : writeL V xs = writeL U ys) : V = U ∧ xs = ys := by
  unfold writeL at h
  by_cases h4 : V % 4 = 0
  · by_cases u4 : U % 4 = 0
    · rw [if_pos h4, if_pos u4] at h
      have h2 := (List.append_right_inj _).1 h
      have hl := congrArg List.length h2
      rw [wTo_len, wTo_len] at hl
      have e : V = U := by omega
      subst e
      refine ⟨rfl, same_bits hx hy bx by_ fun i hi => ?_⟩
      have hk : V / 4 - 1 - i / 4 < V / 4 := by omega
      have e1 := congrArg (fun z => z.getD (V / 4 - 1 - i / 4) 0) h2
      rw [wTo_at _ _ _ _ _ hk, wTo_at _ _ _ _ _ hk] at e1
      simp only [if_true] at e1
      rw [show V / 4 - 1 - (V / 4 - 1 - i / 4) = i / 4 by omega] at e1
      have e2 := sig_inj _ (dig_lt true xs (i / 4) _ (by simp)) _ (dig_lt true ys (i / 4) _ (by simp)) e1
      have e3 := dig_bits e2 (i % 4) (by omega)
      rw [show i / 4 * 4 + i % 4 = i by omega] at e3
      exact bit_tb e3
    · rw [if_pos h4, if_neg u4] at h
      have := congrArg (fun z => z.getD 1 0) h
      simp at this
  · by_cases u4 : U % 4 = 0
    · rw [if_neg h4, if_pos u4] at h
      have := congrArg (fun z => z.getD 1 0) h
      simp at this
    · rw [if_neg h4, if_neg u4] at h
      have h2 := (List.append_right_inj _).1 h
      have hl := congrArg List.length h2
      rw [wTo_len, wTo_len] at hl
      subst hl
      refine ⟨rfl, same_bits hx hy bx by_ fun i hi => ?_⟩
      have hk : V - 1 - i < V := by omega
      have e1 := congrArg (fun z => z.getD (V - 1 - i) 0) h2
      rw [wTo_at _ _ _ _ _ hk, wTo_at _ _ _ _ _ hk] at e1
      rw [show V - 1 - (V - 1 - i) = i by omega] at e1
      simp only [Bool.false_eq_true, if_false, Nat.mul_one] at e1
      have e2 := sig_inj _ (dig_lt false xs i _ (by simp)) _ (dig_lt false ys i _ (by simp)) e1
      simp only [dig, Bool.false_eq_true, if_false] at e2
      exact bit_tb e2
theorem txt_inj {l m : List Nat} (hl : ∀ x ∈ l, x < 256) (hm : ∀ x ∈ m, x < 256) (h : txt l = txt m) : l = m := by
  unfold txt at h
  injection h with h
  have h2 : l.map UInt8.ofNat = m.map UInt8.ofNat := by simpa using h
  have h3 : ∀ (z : List Nat), (∀ x ∈ z, x < 256) → (z.map UInt8.ofNat).map UInt8.toNat = z := fun z hz => by
    rw [List.map_map]
    conv => rhs; rw [← List.map_id z]
    refine List.map_congr_left fun b hb => ?_
    have := hz b hb
    simp [UInt8.toNat_ofNat']
    omega
  rw [← h3 l hl, ← h3 m hm, h2]
theorem writeL_lt (V : Nat) (xs : List Nat) : ∀ x ∈ writeL V xs, x < 256 := by
  intro x hx
  unfold writeL at hx
  split at hx
  · rcases List.mem_append.1 hx with h | h
    · simp at h; omega
    · exact wTo_lt _ _ _ _ x h
  · rcases List.mem_append.1 hx with h | h
    · simp at h; omega
    · exact wTo_lt _ _ _ _ x h
theorem writeR_lt (W : Int) (xs : List Nat) : ∀ x ∈ writeR W xs, x < 256 := by
  intro x hx
  unfold writeR at hx
  split at hx
  · exact writeL_lt _ _ x hx
  · cases hx
theorem writeL_two (V : Nat) (xs : List Nat) : 2 ≤ (writeL V xs).length := by
  unfold writeL
  split <;> simp <;> omega
theorem writeR_size (W : Int) (xs : List Nat) (h : rightB W xs = true ∨ W = 0) : (writeR W xs).length ≤ 5000 := by
  unfold writeR
  split
  · rename_i hr
    have := right_W hr
    unfold writeL
    split <;> simp [wTo_len] <;> omega
  · simp

/-- Right words, or none at all: the text tells which. -/
def okV (W : Int) (xs : List Nat) : Prop := (rightB W xs = true ∨ W = 0 ∧ xs = []) ∧ ∀ x ∈ xs, x < 18446744073709551616
theorem text_inj {W U : Int} {xs ys : List Nat} (hx : okV W xs) (hy : okV U ys) (h : txt (writeR W xs) = txt (writeR U ys)) : W = U ∧ xs = ys := by
  have h2 := txt_inj (writeR_lt _ _) (writeR_lt _ _) h
  have no0 : rightB 0 ([] : List Nat) = false := by decide
  obtain ⟨h1, bx⟩ := hx
  obtain ⟨k1, by_⟩ := hy
  rcases h1 with h1 | ⟨rfl, rfl⟩
  · have w1 := right_W h1
    obtain ⟨V, rfl⟩ := Int.eq_ofNat_of_zero_le (show 0 ≤ W by omega)
    rcases k1 with k1 | ⟨rfl, rfl⟩
    · have w2 := right_W k1
      obtain ⟨Z, rfl⟩ := Int.eq_ofNat_of_zero_le (show 0 ≤ U by omega)
      rw [writeR, if_pos h1, writeR, if_pos k1, Int.toNat_natCast, Int.toNat_natCast] at h2
      obtain ⟨e1, e2⟩ := writeL_inj h1 k1 bx by_ h2
      exact ⟨by rw [e1], e2⟩
    · rw [writeR, if_pos h1, writeR, if_neg (by rw [no0]; decide)] at h2
      have := writeL_two ((V : Int).toNat) xs
      rw [h2] at this
      simp at this
  · rcases k1 with k1 | ⟨rfl, rfl⟩
    · rw [writeR, if_neg (by rw [no0]; decide), writeR, if_pos k1] at h2
      have := writeL_two (U.toNat) ys
      rw [← h2] at this
      simp at this
    · exact ⟨rfl, rfl⟩

end Go.Proofs.YteenmffhbgpahaaDoor
