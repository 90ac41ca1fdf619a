/- Touching: what the law asks of contents; rows of numbers in new memory. -/
import Derived.Test.YtheglnkndjheaaaGreatDoorTQJ
import Derived.Test.YtheglnkndjheaaaGreatDoorEFX
import Derived.Test.YtheglnkndjheaaaGreatDoorID
import Derived.Test.YtheglnkndjheaaaGreatDoorZWK
import Derived.Test.YtheglnkndjheaaaGreatDoorTSN
namespace Go.Proofs.YtheglnkndjheaaaGreatDoor
set_option linter.unusedVariables false
set_option linter.unusedSimpArgs false
open Go.RowKit Go.ChangeShapes Go.WideShapes Go.ChangeAt Go.Joins

theorem OwnI.out {w w' : World} {g B1 B2 : Nat} {ks : List Int} (h : OwnI w g ks) (ho : Out B1 B2 w w') (hd : g < B1 ∨ B2 ≤ g) : OwnI w' g ks := by
  unfold OwnI at h ⊢
  rw [ho.2.2.2.2 g (lt_of_block h) hd]
  exact h

theorem lits_le {w : World} {b : Option Addr} {xs : List Lg} (hs : RdL w b xs) : ∀ x ∈ xs, x.ss.length ≤ 1048576 ∧ x.ts.length ≤ 1048576 := fun x hx => by
  obtain ⟨i, hi⟩ := List.getElem?_of_mem hx
  obtain ⟨b3, o3, -, -, r1, r2, -⟩ := hs.at hi
  exact ⟨r1.1, r2.1⟩

theorem tou_bounds (ds : List Dc) (ls : List Lc) (ks : List Int) : (touG ds ls ks).1.length ≤ 1048576 ∧ ∀ y ∈ (touG ds ls ks).1, in64 y := by
  unfold touG
  by_cases hL : litR ds ls = true
  · rw [if_pos hL]
    by_cases hS : smB ls ks = true
    · rw [if_pos hS]
      have h1 := risI_len (gvL ds (smO ls ks)) []
      have h2 := gvL_len ds (smO ls ks)
      have h3 := (sm_some (lit_ris hL) hS).1
      have h4 := List.length_filter_le (fun l : Lc => decide (l.id ∈ ks)) ls
      have h5 := (lit_len hL).1
      refine ⟨?_, fun y hy => ?_⟩
      · rw [h3] at h1 h2
        simp only [List.length_nil] at h1
        rw [h3]
        simp only
        omega
      · rw [risI_mem] at hy
        rcases hy with hy | hy
        · simp at hy
        · exact gvL_in ds _ y hy
    · rw [if_neg hS]; simp
  · rw [if_neg hL]; simp

set_option maxRecDepth 100000 in
theorem open_i64s {H : Type} {enc : TypeId × Value → H} {W : World} {r : Reach} {b0 base : Nat} {v : Value} {d : DataW H} {p : List MemPlace}
    (hv : Value.okWide Tryz.prog W r b0 40 v) (h : DataW.Trod enc Tryz.prog W base (fun _ => true) true 40 v d p) :
    ∃ (a : Option Addr) (n c : Nat), v = .slice a n c ∧ n ≤ 9223372036854775807 ∧ (n ≤ 1048576 → ∃ ks : List Int, ks.length = n ∧ RdI W a ks) := by
  obtain ⟨a1, len1, cap1, rfl⟩ := okWide_slice Tryz.underlying40 hv
  obtain ⟨fuel, hf⟩ := h
  exact open_ks hf

end Go.Proofs.YtheglnkndjheaaaGreatDoor
