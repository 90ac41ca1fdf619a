/- The text of a right word is read as that word. No program in sight. -/
import Derived.Test.YtiaoncdnkemokaaRJ
import Derived.Test.YtiaoncdnkemokaaWM
import Derived.Test.YtiaoncdnkemokaaRU
namespace Go.Proofs.Ytiaoncdnkemokaa
set_option linter.unusedVariables false
set_option linter.unusedSimpArgs false
open Go.RowKit

theorem txt_size (l : List Nat) : (txt l).size = l.length := by
  show (l.map UInt8.ofNat).toArray.size = _
  simp

theorem bn_txt (l : List Nat) (h : ∀ x ∈ l, x < 256) (k : Nat) : bn (txt l) k = l.getD k 0 := by
  rw [bn_data]
  show ((l.map UInt8.ofNat)[k]?.map UInt8.toNat).getD 0 = _
  rw [List.getElem?_map]
  simp only [List.getD]
  cases hk : l[k]? with
  | none => rfl
  | some v =>
    have hv := h v (List.mem_of_getElem? hk)
    simp [Nat.mod_eq_of_lt hv]

theorem hex_sig : ∀ n, n < 16 → hexI (sig n) = (n : Int) := by decide

theorem wTo_get (x : Bool) (xs : List Nat) (c m k : Nat) (hk : k < m) : (wTo x xs c m).getD k 0 = sig (dig x xs ((c - 1 - k) * (if x then 4 else 1))) := by
  induction m with
  | zero => omega
  | succ m ih =>
    rw [wTo]
    simp only [List.getD]
    by_cases h : k < m
    · rw [List.getElem?_append_left (by rw [wTo_len]; exact h)]
      have := ih h
      simpa only [List.getD] using this
    · have e : k = m := by omega
      subst e
      rw [List.getElem?_append_right (by rw [wTo_len]; omega), wTo_len]
      simp

theorem bit_le (xs : List Nat) (i : Nat) : bit xs i ≤ 1 := by unfold bit; cases tb xs i <;> decide

theorem digs_dig (x : Bool) (xs : List Nat) (at_ : Nat) : (digs x (dig x xs at_)).reverse = (List.range (if x then 4 else 1)).map fun i => bit xs (at_ + i) := by
  cases x with
  | true =>
    have b0 := bit_le xs at_
    have b1 := bit_le xs (at_ + 1)
    have b2 := bit_le xs (at_ + 2)
    have b3 := bit_le xs (at_ + 3)
    simp only [digs, dig, if_true, List.reverse_cons, List.reverse_nil, List.nil_append, List.cons_append]
    show _ = [bit xs (at_ + 0), bit xs (at_ + 1), bit xs (at_ + 2), bit xs (at_ + 3)]
    simp only [List.cons.injEq, Nat.add_zero, and_true]
    omega
  | false => rfl

theorem text_back {V : Nat} {xs : List Nat} (hok : rightB V xs = true) (hx : ∀ x ∈ xs, x < 18446744073709551616) : readR (txt (writeL V xs)) = ((V : Int), xs, true) := by
  obtain ⟨hV1, hV2, hVl⟩ := right_W hok
  have main : ∀ (x : Bool) (c : Nat), V = c * (if x then 4 else 1) → readR (txt ([35, if x then 120 else 98] ++ wTo x xs c c)) = ((V : Int), xs, true) := by
    intro x c hV
    have hall : ∀ y ∈ [35, if x then 120 else 98] ++ wTo x xs c c, y < 256 := fun y hy => by
      rcases List.mem_append.1 hy with h | h
      · simp at h; cases x <;> simp at h <;> omega
      · exact wTo_lt _ _ _ _ y h
    generalize hs : txt ([35, if x then 120 else 98] ++ wTo x xs c c) = s
    have hsz : s.size = c + 2 := by rw [← hs, txt_size, List.length_append, wTo_len]; simp; omega
    have hc1 : 1 ≤ c := by cases x <;> simp at hV <;> omega
    have e0 : bn s 0 = 35 := by rw [← hs, bn_txt _ hall]; rfl
    have e1 : bn s 1 = if x then 120 else 98 := by rw [← hs, bn_txt _ hall]; rfl
    have ek : ∀ k, k < c → bn s (k + 2) = sig (dig x xs ((c - 1 - k) * (if x then 4 else 1))) := fun k hk => by
      rw [← hs, bn_txt _ hall, ← wTo_get x xs c c k hk]
      rfl
    have hd16 : ∀ k, dig x xs ((c - 1 - k) * (if x then 4 else 1)) < 16 := fun k => dig_lt x xs (c - 1 - k) _ rfl
    have hh : ∀ k, k < c → hexI (bn s (k + 2)) = ((dig x xs ((c - 1 - k) * (if x then 4 else 1)) : Nat) : Int) := fun k hk => by rw [ek k hk, hex_sig _ (hd16 k)]
    have hgood : ∀ k, k < c → okDig x (hexI (bn s (k + 2))) = true := fun k hk => by
      rw [hh k hk]
      cases x with
      | true => simp [okDig]
      | false =>
        have := bit_le xs ((c - 1 - k) * (if false = true then 4 else 1))
        simp [okDig, dig] at this ⊢
        omega
    obtain ⟨l, hl⟩ := readTo_good hgood
    have hlo := lo_all hl
    have hbits : ∀ i, i ≤ c → lo x s c i = bitsTo xs (i * (if x then 4 else 1)) := by
      intro i
      induction i with
      | zero => intro _; simp [lo, bitsTo]
      | succ i ih =>
        intro hi
        rw [lo, ih (by omega), hh (c - 1 - i) (by omega), Int.toNat_natCast, show c - 1 - (c - 1 - i) = i by omega, digs_dig]
        rw [Nat.add_mul, Nat.one_mul]
        unfold bitsTo
        rw [List.range_add, List.map_append, List.map_map]
        rfl
    have hp : perOf x = if x then 4 else 1 := rfl
    rw [readR_x (x := x) (by omega) (by rw [hsz]; cases x <;> simp [perOf] <;> simp at hV <;> omega) e0 e1, show s.size - 2 = c by omega, hl]
    show fromR l.reverse = _
    rw [← hlo, hbits c (Nat.le_refl _), ← hV, fromR, bitsTo_len, if_pos (by omega), unpk hok hx]
  unfold writeL
  split
  · rename_i h4
    exact main true (V / 4) (by simp; omega)
  · exact main false V (by simp)

end Go.Proofs.Ytiaoncdnkemokaa
