/- What is merged may stand in a row of words. -/
import Derived.Test.YtkffjdicmendkaaSK
import Derived.Test.YtkffjdicmendkaaSG
namespace Go.Proofs.Ytkffjdicmendkaa
set_option linter.unusedVariables false
set_option linter.unusedSimpArgs false
open Go.RowKit

theorem okW_mrg {ds : List Dc} {A B : List Wq} {vs : List Int} (hA : okW A) (hB : okW B) : okW (mrgR ds A B vs).1 := by
  have h0 : okW [] := ⟨by simp, by simp⟩
  by_cases h : okM ds A B vs = true
  · have e : mrgR ds A B vs = (mrgL ds.length A B vs, true) := by simp [mrgR, h]
    rw [e]
    simp only [okM, Bool.and_eq_true] at h
    have h60 := (dclR_iff.1 (valR_iff.1 h.1.1).1).1
    refine ⟨by simp [mrgL]; omega, fun x hx => ?_⟩
    obtain ⟨i, -, rfl⟩ := List.mem_map.1 hx
    have key : ∀ C : List Wq, okW C → in64 (C.getD i (0, [])).1 ∧ (C.getD i (0, [])).2.length ≤ 1048576 ∧ ∀ y ∈ (C.getD i (0, [])).2, y < 18446744073709551616 := fun C hC => by
      by_cases hi : i < C.length
      · have e : C.getD i (0, []) = C[i] := by simp [List.getD, hi]
        rw [e]
        exact hC.2 _ (List.getElem_mem hi)
      · have e : C.getD i (0, []) = (0, []) := by simp [List.getD, hi]
        rw [e]
        exact ⟨by unfold in64; omega, by simp, by simp⟩
    split
    · exact key B hB
    · exact key A hA
  · have e : mrgR ds A B vs = ([], false) := by simp [mrgR, h]
    rw [e]
    exact h0

end Go.Proofs.Ytkffjdicmendkaa
