/- What a right session's bytes rest on: its nodes' words are right, or none. -/
import Derived.Test.YtofdkdaehhpgbaaGreatDoorVSG
import Derived.Test.YtofdkdaehhpgbaaGreatDoorZSA
namespace Go.Proofs.YtofdkdaehhpgbaaGreatDoor
set_option linter.unusedVariables false
set_option linter.unusedSimpArgs false
open Go.RowKit

theorem stepR_form {ds : List Dc} {wide : List Int} {n : Tc} {v : Int} (h : stepR ds wide n = some v) : fieldR n = true ∧ manyR ds.length n = true := by
  unfold stepR at h
  by_cases hc : (kidsR wide.length n.ks && fieldR n && manyR ds.length n) = true
  · simp only [Bool.and_eq_true] at hc
    exact ⟨hc.1.2, hc.2⟩
  · rw [if_neg hc] at h; cases h
theorem goR_form {ds : List Dc} : ∀ (ns : List Tc) (wide r : List Int), goR ds wide ns = some r → ∀ n ∈ ns, fieldR n = true ∧ manyR ds.length n = true
  | [], _, _, _ => by simp
  | m :: t, wide, r, h => by
    rw [goR] at h
    cases hst : stepR ds wide m with
    | none => rw [hst] at h; cases h
    | some v =>
      rw [hst] at h
      intro n hn
      rcases List.mem_cons.1 hn with rfl | hn
      · exact stepR_form hst
      · exact goR_form t _ r h n hn
theorem wid_form {ds : List Dc} {ns : List Tc} (h : 0 ≤ widR ds ns) : ∀ n ∈ ns, fieldR n = true ∧ manyR ds.length n = true := by
  unfold widR at h
  by_cases h0 : (widthsR ds ns).length = 0
  · rw [if_pos h0] at h; omega
  · unfold widthsR at h0
    split at h0
    · cases hg : goR ds [] ns with
      | none => rw [hg] at h0; simp at h0
      | some wide => exact goR_form ns [] wide hg
    · simp at h0
theorem form_okN {nd : Nat} {n : Tc} (h1 : fieldR n = true) (h2 : manyR nd n = true) : okN n ∧ (rightB n.bw n.ws = true ∨ n.bw = 0 ∧ n.ws = []) := by
  by_cases e : n.op = 2
  · unfold manyR at h2
    rw [if_neg (by omega), if_pos e] at h2
    simp only [Bool.and_eq_true] at h2
    have h3 := h2.2
    refine ⟨?_, .inl h3⟩
    unfold rightB wOk at h3
    simp only [Bool.and_eq_true, decide_eq_true_eq] at h3
    obtain ⟨⟨⟨h4, h5⟩, h6⟩, -⟩ := h3
    exact ⟨by omega, h5, by omega⟩
  · unfold fieldR at h1
    simp [e] at h1
    obtain ⟨⟨⟨-, h4, h5⟩, -⟩, -⟩ := h1
    exact ⟨⟨by omega, by omega, by rw [h4, h5]; rfl⟩, .inr ⟨h4, by simpa using h5⟩⟩
/-- Right literals of a right session. -/
theorem ses_sides {ds : List Dc} {cs : List Sc} {nx : Int} (h : sesR ds cs nx = true) : ∀ c ∈ cs, ∀ l ∈ c.ls, ∃ ds', sideR ds' l = true := by
  unfold sesR at h
  simp only [Bool.and_eq_true] at h
  have h2 := h.2
  unfold sidesR at h2
  rw [List.all_eq_true] at h2
  intro c hc l hl
  obtain ⟨i, hi, rfl⟩ := List.getElem_of_mem hc
  have h3 := h2 i (List.mem_range.2 hi)
  unfold sidI at h3
  rw [List.all_eq_true] at h3
  refine ⟨_, h3 l ?_⟩
  unfold scL
  rw [List.getD_eq_getElem?_getD, List.getElem?_eq_getElem hi]
  exact hl
theorem ses_nodes {ds : List Dc} {cs : List Sc} {nx : Int} (h : sesR ds cs nx = true) : ∀ c ∈ cs, ∀ l ∈ c.ls, (∀ n ∈ l.ss, okN n ∧ (rightB n.bw n.ws = true ∨ n.bw = 0 ∧ n.ws = [])) ∧ ∀ n ∈ l.ts, okN n ∧ (rightB n.bw n.ws = true ∨ n.bw = 0 ∧ n.ws = []) := by
  intro c hc l hl
  obtain ⟨ds', hs⟩ := ses_sides h c hc l hl
  unfold sideR at hs
  simp only [Bool.and_eq_true, decide_eq_true_eq] at hs
  exact ⟨fun n hn => (fun q => form_okN q.1 q.2) (wid_form hs.1 n hn), fun n hn => (fun q => form_okN q.1 q.2) (wid_form (ds := ds') (by omega) n hn)⟩
theorem ses_okL {ds : List Dc} {xs : List Sg} {nx : Int} (h : sesR ds (xs.map Sg.ct) nx = true) : ∀ x ∈ xs, ∀ y ∈ x.ls, (∀ z ∈ y.ss, okN z.ct) ∧ ∀ z ∈ y.ts, okN z.ct := by
  intro x hx y hy
  obtain ⟨h1, h2⟩ := ses_nodes h x.ct (List.mem_map_of_mem hx) y.ct (List.mem_map_of_mem hy)
  exact ⟨fun z hz => (h1 z.ct (List.mem_map_of_mem hz)).1, fun z hz => (h2 z.ct (List.mem_map_of_mem hz)).1⟩
theorem ses_names {ds : List Dc} {cs : List Sc} {nx : Int} (h : sesR ds cs nx = true) : ∀ x ∈ ds, x.1.size ≤ 1048576 := by
  unfold sesR at h
  simp only [Bool.and_eq_true] at h
  have h1 := h.1.1.1.1.1
  unfold dclR at h1
  simp only [Bool.and_eq_true, List.all_eq_true] at h1
  intro x hx
  have h2 := h1.1.1.2 x hx
  unfold dcOk nmOk at h2
  simp only [Bool.and_eq_true, decide_eq_true_eq] at h2
  omega
/-- What SaveSession answers. -/
def saveR (ds : List Dc) (cs : List Sc) (nx : Int) : List Nat := if sesR ds cs nx = true then (if ([83, 1] ++ sesB ds cs nx).length ≤ 60000 then [83, 1] ++ sesB ds cs nx else []) else []

end Go.Proofs.YtofdkdaehhpgbaaGreatDoor
