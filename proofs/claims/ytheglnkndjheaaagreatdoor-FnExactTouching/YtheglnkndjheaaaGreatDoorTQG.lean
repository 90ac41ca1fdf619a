/- Touching: maths: the given side's answer is the program's. -/
import Derived.Test.YtheglnkndjheaaaGreatDoorTQF
namespace Go.Proofs.YtheglnkndjheaaaGreatDoor
set_option linter.unusedVariables false
set_option linter.unusedSimpArgs false
open Go.RowKit

theorem idR_ris : ∀ (ls : List Lc) (last : Int), idR last ls = true → RisC ls ∧ ∀ l ∈ ls, last < l.id
  | [], _, _ => ⟨List.Pairwise.nil, by simp⟩
  | l :: t, last, h => by
    rw [idR] at h
    simp only [Bool.and_eq_true, decide_eq_true_eq] at h
    obtain ⟨h1, h2⟩ := idR_ris t l.id h.2
    refine ⟨List.pairwise_cons.2 ⟨h2, h1⟩, fun x hx => ?_⟩
    rcases List.mem_cons.1 hx with rfl | hx
    · exact h.1.1
    · have := h2 x hx
      have := h.1.1
      omega

theorem lit_ris {ds : List Dc} {ls : List Lc} (h : litR ds ls = true) : RisC ls := by
  rw [litR_eq] at h
  simp only [idsR, Bool.and_eq_true, decide_eq_true_eq] at h
  exact (idR_ris ls 0 h.1.2.2).1

/-- What the given side gathers. -/
def lvR (ds : List Dc) (l : Lc) : List Int := risI [] (varsR ds l.ss ++ varsR ds l.ts)
def gvL (ds : List Dc) (ls : List Lc) : List Int := ls.flatMap (lvR ds)

theorem varsR_mem {ds : List Dc} {ns : List Tc} (h : 0 ≤ widR ds ns) (x : Int) : x ∈ varsR ds ns ↔ x ∈ varL ns := by
  have h0 : ¬ (widthsR ds ns).length = 0 := fun e => by
    unfold widR at h
    rw [if_pos e] at h
    omega
  unfold varsR
  rw [if_neg h0, ← vars_eq h0]
  exact (sort_compact _).2 x

theorem gv_mem {ds : List Dc} {ls : List Lc} (h : ∀ l ∈ ls, sideR ds l = true) (x : Int) : x ∈ gvL ds ls ↔ x ∈ varL (nodC ls) := by
  induction ls with
  | nil => simp [gvL, nodC, varL]
  | cons l t ih =>
    have ih := ih fun l hl => h l (List.mem_cons_of_mem _ hl)
    have hs := h l (by simp)
    simp only [sideR, Bool.and_eq_true, decide_eq_true_eq] at hs
    have e1 : gvL ds (l :: t) = lvR ds l ++ gvL ds t := rfl
    have e2 : nodC (l :: t) = (l.ss ++ l.ts) ++ nodC t := rfl
    rw [e1, e2, varL_append, varL_append, List.mem_append, List.mem_append, List.mem_append, ih, lvR, risI_mem, List.mem_append, varsR_mem hs.1, varsR_mem (ds := ds) (ns := l.ts) (by omega)]
    simp

def touG (ds : List Dc) (ls : List Lc) (ks : List Int) : List Int × Bool :=
  if litR ds ls = true then if smB ls ks = true then (risI [] (gvL ds (smO ls ks)), true) else ([], false) else ([], false)

theorem tou_eq (ds : List Dc) (ls : List Lc) (ks : List Int) : touG ds ls ks = touR ds ls ks := by
  unfold touG touR
  by_cases hL : litR ds ls = true
  · rw [if_pos hL, if_pos hL]
    have hr := lit_ris hL
    by_cases hS : smB ls ks = true
    · obtain ⟨e1, e2⟩ := sm_some hr hS
      rw [if_pos hS, if_pos e2, e1, ris_eq (gv_mem fun l hl => ?_)]
      rw [litR_eq] at hL
      simp only [Bool.and_eq_true, List.all_eq_true] at hL
      exact hL.2 l (List.mem_filter.1 hl).1
    · rw [if_neg hS, if_neg]
      intro e
      rw [sm_iff hr] at hS
      exact hS (decide_eq_true e)
  · rw [if_neg hL, if_neg hL]

end Go.Proofs.YtheglnkndjheaaaGreatDoor
