/- What the laws of sessions ask of contents. -/
import Derived.Test.YtofdkdaehhpgbaaGreatDoorLTF
import Derived.Test.YtofdkdaehhpgbaaGreatDoorLTC
namespace Go.Proofs.YtofdkdaehhpgbaaGreatDoor
set_option linter.unusedVariables false
set_option linter.unusedSimpArgs false
open Go.RowKit

theorem RdT.okc {w : World} {a : Option Addr} {xs : List Tg} (h : RdT w a xs) : ∀ y ∈ xs.map Tg.ct, okT y := by
  intro y hy
  obtain ⟨x, hx, rfl⟩ := List.mem_map.1 hy
  obtain ⟨i, hi⟩ := List.getElem?_of_mem hx
  obtain ⟨-, h | ⟨b, o, -, hc⟩⟩ := h
  · rw [h] at hi; simp at hi
  · obtain ⟨-, r1, r2, k1, k2, k3, k4, k5⟩ := hc i x hi
    exact ⟨k1, k2, k3, k4, k5, r1.1, r1.2.1, r2.1, r2.2.1⟩

theorem all_ok {w : World} {a : Option Addr} {xs : List Sg} (h : RdS w a xs) (ds : List Dc) (nx : Int) : ∀ y ∈ allR ds (xs.map Sg.ct) nx, okLc y := by
  intro y hy
  unfold allR at hy
  split at hy
  · rw [← allL_map] at hy
    obtain ⟨x, hx, rfl⟩ := List.mem_map.1 hy
    obtain ⟨r1, r2, r3⟩ := flat_mem h x hx
    exact ⟨r3, by simp only [Lg.ct, List.length_map]; exact r1.1, by simp only [Lg.ct, List.length_map]; exact r2.1, r1.okc, r2.okc⟩
  · simp at hy

theorem all_len (ds : List Dc) (ss : List Sc) (nx : Int) : (allR ds ss nx).length ≤ 60 := by
  unfold allR
  split
  · rename_i h
    unfold sesR at h
    simp only [Bool.and_eq_true] at h
    have h2 := h.1.1.2
    unfold idsR at h2
    simp only [Bool.and_eq_true, decide_eq_true_eq] at h2
    exact h2.1
  · simp

theorem sh_of {l : List Lg} {A : List Lc} (e : l.map Lg.ct = A) (h : ∀ y ∈ A, okLc y) : shL l := fun x hx => by
  obtain ⟨-, k2, k3, k4, k5⟩ := h x.ct (by rw [← e]; exact List.mem_map_of_mem hx)
  refine ⟨sh_map rfl k4, sh_map rfl k5, ?_, ?_⟩
  · simpa [Lg.ct] using k2
  · simpa [Lg.ct] using k3

theorem lits_len {w : World} {a : Option Addr} {xs : List Sg} (h : RdS w a xs) : ∀ x ∈ xs, ∀ y ∈ x.ls, y.ss.length ≤ 1048576 ∧ y.ts.length ≤ 1048576 := fun x hx y hy => by
  obtain ⟨r1, r2, -⟩ := flat_mem h y (List.mem_flatMap.2 ⟨x, hx, hy⟩)
  exact ⟨r1.1, r2.1⟩

theorem flat_same {xs ys : List Sg} (h : ys.map Sg.ct = xs.map Sg.ct) : (ys.flatMap Sg.ls).length = (xs.flatMap Sg.ls).length := by
  have h2 := congrArg List.length (allL_map ys)
  rw [h, ← allL_map, List.length_map, List.length_map] at h2
  exact h2

end Go.Proofs.YtofdkdaehhpgbaaGreatDoor
