/- Touching: maths: what l7Rising makes rises; it is what Sort and Compact make of the same numbers. -/
import Derived.Test.YtheglnkndjheaaaGreatDoorTQD
namespace Go.Proofs.YtheglnkndjheaaaGreatDoor
set_option linter.unusedVariables false
set_option linter.unusedSimpArgs false
open Go.RowKit

theorem posI_above (out : List Int) (x : Int) : ∀ n j, posI out x n ≤ j → j < n → x < out.getD j 0
  | 0, j, _, h => by omega
  | n + 1, j, h1, h2 => by
    unfold posI at h1
    split at h1
    · rename_i h
      by_cases e : j = n
      · subst e; exact h
      · exact posI_above out x n j h1 (by omega)
    · omega

theorem posI_last (out : List Int) (x : Int) : ∀ n, posI out x n = 0 ∨ out.getD (posI out x n - 1) 0 ≤ x
  | 0 => .inl rfl
  | n + 1 => by
    unfold posI
    split
    · exact posI_last out x n
    · rename_i h
      refine .inr ?_
      rw [Nat.add_sub_cancel]
      omega

theorem insI_rise {out : List Int} {x : Int} (h : out.Pairwise (· < ·)) (hx : x ∉ out) : (insI out x).Pairwise (· < ·) := by
  have hab := posI_above out x out.length
  have hla := posI_last out x out.length
  have hle := posI_le out x out.length
  unfold insI
  generalize posI out x out.length = p at *
  have hup : ∀ y ∈ out.drop p, x < y := fun y hy => by
    obtain ⟨j, hj, e⟩ := List.mem_iff_getElem.1 hy
    have h1 : p + j < out.length := by simp at hj; omega
    have h2 := hab (p + j) (by omega) h1
    rw [List.getElem_drop] at e
    rw [List.getD_eq_getElem?_getD, List.getElem?_eq_getElem h1, Option.getD_some, e] at h2
    exact h2
  have hdn : ∀ y ∈ out.take p, y < x := fun y hy => by
    have hym := List.mem_of_mem_take hy
    obtain ⟨j, hj, e⟩ := List.mem_iff_getElem.1 hy
    rw [List.getElem_take] at e
    have hj2 : j < p := by simp at hj; omega
    have hp : p - 1 < out.length := by omega
    have h2 : out[p - 1] ≤ x := by
      rcases hla with h0 | h0
      · omega
      · rw [List.getD_eq_getElem?_getD, List.getElem?_eq_getElem hp, Option.getD_some] at h0
        exact h0
    have h3 : y ≤ out[p - 1] := by
      by_cases ej : j = p - 1
      · subst ej; omega
      · have := (List.pairwise_iff_getElem.1 h) j (p - 1) (by omega) hp (by omega)
        omega
    have h4 : y ≠ x := fun e => hx (e ▸ hym)
    omega
  refine List.pairwise_append.2 ⟨h.sublist (List.take_sublist _ _), List.pairwise_cons.2 ⟨hup, h.sublist (List.drop_sublist _ _)⟩, fun a ha b hb => ?_⟩
  rcases List.mem_cons.1 hb with rfl | hb
  · exact hdn a ha
  · have := hdn a ha
    have := hup b hb
    omega

theorem risI_rise : ∀ (xs out : List Int), out.Pairwise (· < ·) → (risI out xs).Pairwise (· < ·)
  | [], _, h => h
  | x :: t, out, h => by
    rw [risI]
    by_cases e : x ∈ out
    · rw [if_pos e]; exact risI_rise t out h
    · rw [if_neg e]; exact risI_rise t _ (insI_rise h e)

theorem ris_eq {xs ys : List Int} (h : ∀ x, x ∈ xs ↔ x ∈ ys) : risI [] xs = risL ys := by
  refine rise_ext _ _ (risI_rise xs [] List.Pairwise.nil) (sort_compact ys).1 fun x => ?_
  rw [risI_mem]
  unfold risL
  rw [(sort_compact ys).2 x, ← h x]
  simp

end Go.Proofs.YtheglnkndjheaaaGreatDoor
