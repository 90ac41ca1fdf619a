/- What the given TurnBits answers. -/
import Derived.Test.YtobkemdffhhlfaaT1
import Derived.Test.YtobkemdffhhlfaaN2
namespace Go.Proofs.Ytobkemdffhhlfaa
set_option linter.unusedVariables false
set_option linter.unusedSimpArgs false
open Go.RowKit

theorem OwB.made (w : World) (base n : Nat) (h : base ≤ w.heap.size) (hn : n ≤ 4194304) : OwB (w.alloc (.cells (madeCells #[.int .u8 0] n) 5)) base (.slice (some ⟨w.heap.size, 0, none⟩) n n) (List.replicate n 0) := by
  refine ⟨by simp [u8s], .inr ⟨w.heap.size, n, madeCells #[.int .u8 0] n, by simp, h, heap_alloc_new _ _, by simp, by unfold maxLen; omega, ?_, ?_⟩⟩
  · rw [← Array.length_toList, toList_madeCells_one]; simp
  · rw [toList_madeCells_one]; simp [u8s]

def tuTo (L : List Nat) (m : Nat) : Nat → List Nat
  | 0 => List.replicate L.length 0
  | k + 1 => (tuTo L m k).set ((k + m) % L.length) (L.getD k 0)

theorem tuTo_len (L : List Nat) (m k : Nat) : (tuTo L m k).length = L.length := by
  induction k with
  | zero => simp [tuTo]
  | succ k ih => rw [tuTo, List.length_set, ih]

theorem getD_mem_le {L : List Nat} (h : ∀ x ∈ L, x ≤ 1) (i : Nat) : L.getD i 0 ≤ 1 := by
  by_cases hi : i < L.length
  · have : L.getD i 0 = L[i] := by simp [List.getD, hi]
    rw [this]; exact h _ (List.getElem_mem hi)
  · have : L.getD i 0 = 0 := by simp [List.getD, hi]
    omega

theorem tuTo_le (L : List Nat) (h : ∀ x ∈ L, x ≤ 1) (m k : Nat) : ∀ x ∈ tuTo L m k, x ≤ 1 := by
  induction k with
  | zero => intro x hx; have := List.eq_of_mem_replicate hx; omega
  | succ k ih =>
    intro x hx
    rcases List.mem_or_eq_of_mem_set hx with h' | h'
    · exact ih x h'
    · rw [h']; exact getD_mem_le h k

theorem add_mod_case (k m V : Nat) (hk : k < V) : (k + m) % V = if k + m % V < V then k + m % V else k + m % V - V := by
  have hr : m % V < V := Nat.mod_lt _ (by omega)
  rw [← Nat.add_mod_mod]
  split
  · exact Nat.mod_eq_of_lt (by assumption)
  · rw [Nat.mod_eq_sub_mod (by omega), Nat.mod_eq_of_lt (by omega)]

theorem tuTo_get (L : List Nat) (m k j : Nat) (hk : k ≤ L.length) (hj : j < L.length) :
    (tuTo L m k).getD j 0 = if (if j < m % L.length then j + L.length - m % L.length else j - m % L.length) < k then L.getD (if j < m % L.length then j + L.length - m % L.length else j - m % L.length) 0 else 0 := by
  have hr : m % L.length < L.length := Nat.mod_lt _ (by omega)
  induction k with
  | zero => simp [tuTo, List.getD, hj]
  | succ k ih =>
    have ih := ih (by omega)
    have hp := add_mod_case k m L.length (by omega)
    have hlen := tuTo_len L m k
    rw [tuTo, hp]
    generalize m % L.length = r at *
    generalize hq : (if k + r < L.length then k + r else k + r - L.length) = q
    generalize hs : (if j < r then j + L.length - r else j - r) = s at *
    have hqs : q = j ↔ s = k := by
      rw [← hq, ← hs]
      split <;> split <;> omega
    by_cases e : s = k
    · have e2 := hqs.2 e
      subst e2
      rw [if_pos (by omega), e]
      simp [List.getD, hlen, hj]
    · have e2 : q ≠ j := fun h => e (hqs.1 h)
      have e3 : ((tuTo L m k).set q (L.getD k 0)).getD j 0 = (tuTo L m k).getD j 0 := by
        simp only [List.getD]
        rw [List.getElem?_set_ne e2]
      rw [e3, ih]
      by_cases h5 : s < k
      · rw [if_pos h5, if_pos (by omega)]
      · rw [if_neg h5, if_neg (by omega)]

theorem tuTo_all (L : List Nat) (m : Nat) (hp : 0 < L.length) : tuTo L m L.length = turnL L (m % L.length) := by
  have hr : m % L.length < L.length := Nat.mod_lt _ hp
  refine List.ext_getElem? fun j => ?_
  by_cases hj : j < L.length
  · have h := tuTo_get L m L.length j (Nat.le_refl _) hj
    have h1 : (tuTo L m L.length)[j]? = some ((tuTo L m L.length).getD j 0) := by
      simp [List.getD, tuTo_len, hj]
    have h2 : (turnL L (m % L.length))[j]? = some ((turnL L (m % L.length)).getD j 0) := by
      simp [List.getD, turnL_len, hj]
    rw [h1, h2, h]
    congr 1
    generalize m % L.length = r at *
    unfold turnL
    by_cases c : j < r
    · rw [if_pos c, if_pos (by omega)]
      simp only [List.getD]
      rw [List.getElem?_append_left (by simp; omega), List.getElem?_drop]
      congr 2
      omega
    · rw [if_neg c, if_pos (by omega)]
      simp only [List.getD]
      rw [List.getElem?_append_right (by simp; omega), List.length_drop, List.getElem?_take_of_lt (by omega)]
      congr 2
      omega
  · rw [List.getElem?_eq_none (by rw [tuTo_len]; omega), List.getElem?_eq_none (by rw [turnL_len]; omega)]

end Go.Proofs.Ytobkemdffhhlfaa
