/- That the program's fields, kids and width are what a right node asks. -/
import Derived.Test.YteenmffhbgpahaaDoorQN
namespace Go.Proofs.YteenmffhbgpahaaDoor
set_option linter.unusedVariables false
set_option linter.unusedSimpArgs false
open Go.RowKit

theorem op_cases {x : Int} (h1 : 1 ≤ x) (h9 : x ≤ 9) : x = 1 ∨ x = 2 ∨ x = 3 ∨ x = 4 ∨ x = 5 ∨ x = 6 ∨ x = 7 ∨ x = 8 ∨ x = 9 := by omega

theorem kw_one {wide ks : List Int} (h : ks.length = 1) : (kwR wide ks).getD 0 0 = sumK (kwR wide ks) := by
  match ks, h with
  | [k], _ => simp [kwR, sumK]

/-- A node of which the step tells a width has the fields and kids that the program asks for. -/
theorem step_some {ds : List Dc} {wide : List Int} {n : Tc} {v : Int} (hw : ∀ x ∈ wide, 1 ≤ x ∧ x ≤ 4096) (h : stepR ds wide n = some v) : fldR n = true ∧ kidsR wide.length n.ks = true := by
  have h0 := stepR_kids h
  simp only [Bool.and_eq_true] at h0
  obtain ⟨⟨hk, hf⟩, hm⟩ := h0
  refine ⟨?_, hk⟩
  have hg := kids_get hw hk
  obtain ⟨hs, hl⟩ := sumR_min hg 0 (by omega) (by omega)
  have hr := stepR_range h
  have hwd : wideR ds n (sumR wide n.ks 0) ≤ 4096 := by
    unfold stepR at h
    split at h
    · split at h
      · rename_i hb; exact hb.2
      · cases h
    · cases h
  clear h hr
  obtain ⟨op, vr, a, b, bw, ws, ks⟩ := n
  simp only [] at *
  have hop : 1 ≤ op ∧ op ≤ 9 := by
    unfold manyR at hm
    simp only [] at hm
    split at hm
    · omega
    · split at hm
      · omega
      · split at hm
        · omega
        · split at hm
          · omega
          · cases hm
  rcases op_cases hop.1 hop.2 with rfl | rfl | rfl | rfl | rfl | rfl | rfl | rfl | rfl
  case inr.inr.inl =>
    simp only [fldR, fldT, tabR, manyR, fieldR, wideR] at *
    simp at hf hm hwd ⊢
    rw [hs] at hwd
    refine ⟨⟨⟨⟨hf.1.1.1, hf.2⟩, hf.1.2⟩, hf.1.1.2.1, hf.1.1.2.2⟩, by omega, by omega⟩
  all_goals
    simp only [fldR, fldT, tabR, manyR, fieldR] at *
    simp at hf hm ⊢
    grind

theorem bndR_if (x : Int) : (if (bndR x).2 = 0 then some (bndR x).1 else none) = (if 1 ≤ x ∧ x ≤ 4096 then some x else (none : Option Int)) := by
  by_cases h : 1 ≤ x ∧ x ≤ 4096
  · rw [(bndR_spec x).1 h, if_pos rfl, if_pos h]
  · rw [if_neg ((bndR_spec x).2 h), if_neg h]

theorem fldR_op {n : Tc} (h : fldR n = true) : 1 ≤ n.op ∧ n.op ≤ 9 := by
  simp only [fldR, Bool.and_eq_true, decide_eq_true_eq] at h
  exact h.1

/-- .. and the program's width of such a node is the step's. -/
theorem step_both {ds : List Dc} {wide : List Int} {n : Tc} (hw : ∀ x ∈ wide, 1 ≤ x ∧ x ≤ 4096) (hf : fldR n = true) (hk : kidsR wide.length n.ks = true) :
    stepR ds wide n = (if (nodR ds n (kwR wide n.ks)).2 = 0 then some (nodR ds n (kwR wide n.ks)).1 else none) := by
  have hg := kids_get hw hk
  obtain ⟨hs, hl⟩ := sumR_min hg 0 (by omega) (by omega)
  have hop := fldR_op hf
  unfold stepR
  rw [hk, Bool.true_and]
  obtain ⟨op, vr, a, b, bw, ws, ks⟩ := n
  simp only [] at *
  have hone : ks.length = 1 → (kwR wide ks).getD 0 0 = sumK (kwR wide ks) ∧ sumR wide ks 0 = sumK (kwR wide ks) ∧ 1 ≤ sumK (kwR wide ks) ∧ sumK (kwR wide ks) ≤ 4096 := by
    intro h1
    have e := kw_one (wide := wide) h1
    have : 1 ≤ sumK (kwR wide ks) ∧ sumK (kwR wide ks) ≤ 4096 := by
      match ks, h1 with
      | [k], _ =>
        have := hg k (by simp)
        simpa [kwR, sumK] using this
    exact ⟨e, by rw [hs]; omega, this⟩
  rcases op_cases hop.1 hop.2 with rfl | rfl | rfl | rfl | rfl | rfl | rfl | rfl | rfl
  · -- a variable
    simp only [fldR, fldT, tabR] at hf
    simp at hf
    have hfm : (fieldR ⟨1, vr, a, b, bw, ws, ks⟩ && manyR ds.length ⟨1, vr, a, b, bw, ws, ks⟩) = decide (0 ≤ vr ∧ vr < (ds.length : Int)) := by
      rw [Bool.eq_iff_iff]
      simp [fieldR, manyR]
      grind
    rw [hfm]
    simp only [nodR, wideR, if_true]
    by_cases hv : 0 ≤ vr ∧ vr < (ds.length : Int)
    · simp only [decide_eq_true hv, if_true, if_pos hv]
      rw [bndR_if]
    · simp only [decide_eq_false hv, if_neg hv]
      simp
  · -- bits
    simp only [fldR, fldT, tabR] at hf
    simp at hf
    have hfm : (fieldR ⟨2, vr, a, b, bw, ws, ks⟩ && manyR ds.length ⟨2, vr, a, b, bw, ws, ks⟩) = rightB bw ws := by
      rw [Bool.eq_iff_iff]
      simp [fieldR, manyR]
      grind
    rw [hfm]
    simp only [nodR, wideR]
    cases hR : rightB bw ws with
    | false => simp
    | true =>
      have : 1 ≤ bw ∧ bw ≤ 4096 := by
        simp [rightB, wOk] at hR
        exact hR.1.1
      simp [this]
  · -- a cat
    simp only [fldR, fldT, tabR] at hf
    simp at hf
    have hfm : (fieldR ⟨3, vr, a, b, bw, ws, ks⟩ && manyR ds.length ⟨3, vr, a, b, bw, ws, ks⟩) = true := by
      simp [fieldR, manyR]
      grind
    rw [hfm]
    simp only [nodR, wideR]
    simp
    rw [bndR_if, hs]
    by_cases h : 1 ≤ sumK (kwR wide ks) ∧ sumK (kwR wide ks) ≤ 4096
    · rw [if_pos h, if_pos (by omega)]
      congr 1
      omega
    · rw [if_neg h, if_neg (by omega)]
  all_goals
    simp only [fldR, fldT, tabR] at hf
    simp at hf
    have h1 : ks.length = 1 := by omega
    obtain ⟨o1, o2, o3, o4⟩ := hone h1
    simp only [nodR, wideR, o1, o2]
    clear hone o1 o2 hs hl hg hk hw
    generalize sumK (kwR wide ks) = q at *
  · have hfm : (fieldR ⟨4, vr, a, b, bw, ws, ks⟩ && manyR ds.length ⟨4, vr, a, b, bw, ws, ks⟩) = true := by
      simp [fieldR, manyR]
      grind
    rw [hfm]
    simp
    by_cases h : b < 0 ∨ a < b ∨ q ≤ a
    · simp [h]
    · rw [if_neg h, if_neg h]
      simp
      omega
  · have hfm : (fieldR ⟨5, vr, a, b, bw, ws, ks⟩ && manyR ds.length ⟨5, vr, a, b, bw, ws, ks⟩) = true := by
      simp [fieldR, manyR]
      grind
    rw [hfm]
    simp
    by_cases h : 0 ≤ a ∧ a ≤ 4096
    · simp only [if_pos h]
      rw [bndR_if]
    · simp only [if_neg h]
      simp
  · have hfm : (fieldR ⟨6, vr, a, b, bw, ws, ks⟩ && manyR ds.length ⟨6, vr, a, b, bw, ws, ks⟩) = true := by
      simp [fieldR, manyR]
      grind
    rw [hfm]
    simp
    by_cases h : 0 ≤ a ∧ a ≤ 4096
    · simp only [if_pos h]
      rw [bndR_if]
    · simp only [if_neg h]
      simp
  · have hfm : (fieldR ⟨7, vr, a, b, bw, ws, ks⟩ && manyR ds.length ⟨7, vr, a, b, bw, ws, ks⟩) = true := by
      simp [fieldR, manyR]
      grind
    rw [hfm]
    simp
    by_cases h : 0 ≤ a ∧ a ≤ 4096
    · simp only [if_pos h]
      simp [o3, o4]
    · simp only [if_neg h]
      simp
  · have hfm : (fieldR ⟨8, vr, a, b, bw, ws, ks⟩ && manyR ds.length ⟨8, vr, a, b, bw, ws, ks⟩) = true := by
      simp [fieldR, manyR]
      grind
    rw [hfm]
    simp
    by_cases h : 0 ≤ a ∧ a ≤ 4096
    · simp only [if_pos h]
      simp [o3, o4]
    · simp only [if_neg h]
      simp
  · have hfm : (fieldR ⟨9, vr, a, b, bw, ws, ks⟩ && manyR ds.length ⟨9, vr, a, b, bw, ws, ks⟩) = true := by
      simp [fieldR, manyR]
      grind
    rw [hfm]
    simp
    by_cases h : 1 ≤ a ∧ a ≤ 4096
    · simp only [if_pos h]
      rw [bndR_if]
    · simp only [if_neg h]
      simp

/-- Fields or kids that are not what the program asks for. -/
theorem step_not {ds : List Dc} {wide : List Int} {n : Tc} (hw : ∀ x ∈ wide, 1 ≤ x ∧ x ≤ 4096) (h : fldR n = false ∨ kidsR wide.length n.ks = false) : stepR ds wide n = none := by
  cases hs : stepR ds wide n with
  | none => rfl
  | some v =>
    obtain ⟨h1, h2⟩ := step_some hw hs
    rcases h with h | h
    · rw [h1] at h; cases h
    · rw [h2] at h; cases h

end Go.Proofs.YteenmffhbgpahaaDoor
