/- What a form is by values: plainly. -/
import Derived.Test.YtfanddpncipkkaaZFH
namespace Go.Proofs.Ytfanddpncipkkaa
set_option linter.unusedVariables false
set_option linter.unusedSimpArgs false
open Go.RowKit

abbrev Wr := Int × List Nat
/-- The bit k of a segment by values. -/
def segB (vs : List Wr) (s : Sc) (k : Nat) : Bool := if s.v = -1 then tb s.ws k else tb (vs.getD s.v.toNat (0, [])).2 (s.lo.toNat + k)
def segL (vs : List Wr) (s : Sc) : List Nat := (List.range s.wd.toNat).map fun k => (segB vs s k).toNat
def flatL (vs : List Wr) (fs : List Sc) : List Nat := fs.flatMap (segL vs)
theorem segL_len (vs : List Wr) (s : Sc) : (segL vs s).length = s.wd.toNat := by simp [segL]
theorem segL_le (vs : List Wr) (s : Sc) : ∀ x ∈ segL vs s, x ≤ 1 := by
  intro x hx
  obtain ⟨k, -, rfl⟩ := List.mem_map.1 hx
  cases segB vs s k <;> simp
theorem flatL_le (vs : List Wr) (fs : List Sc) : ∀ x ∈ flatL vs fs, x ≤ 1 := by
  intro x hx
  obtain ⟨s, -, h⟩ := List.mem_flatMap.1 hx
  exact segL_le vs s x h
theorem flatL_len (vs : List Wr) (fs : List Sc) (h : ∀ s ∈ fs, 0 ≤ s.wd) : ((flatL vs fs).length : Int) = sumS fs := by
  induction fs with
  | nil => simp [flatL, sumS]
  | cons s t ih =>
    have h1 := ih fun x hx => h x (List.mem_cons_of_mem _ hx)
    have h2 := h s (by simp)
    have e : flatL vs (s :: t) = segL vs s ++ flatL vs t := by simp [flatL]
    rw [e, List.length_append, segL_len, sumS]
    simp
    omega
theorem flatL_snoc (vs : List Wr) (fs : List Sc) {k : Nat} {s : Sc} (h : fs[k]? = some s) : flatL vs (fs.take (k + 1)) = flatL vs (fs.take k) ++ segL vs s := by
  rw [List.take_add_one, h]
  simp [flatL]

/-- What right segments are. -/
theorem sgOk_cst {ds : List Dc} {s : Sc} (h : sgOk ds s = true) (hv : s.v = -1) : s.lo = 0 ∧ s.wd = s.bw ∧ rightB s.bw s.ws = true := by
  rw [sgOk, if_pos hv] at h
  simp only [Bool.and_eq_true, decide_eq_true_eq] at h
  exact ⟨h.1.1, h.1.2, h.2⟩
theorem sgOk_vr {ds : List Dc} {s : Sc} (h : sgOk ds s = true) (hv : s.v ≠ -1) : 0 ≤ s.v ∧ s.v < ds.length ∧ 1 ≤ s.wd ∧ 0 ≤ s.lo ∧ s.lo + s.wd ≤ (ds.getD s.v.toNat (.empty, 0)).2 := by
  rw [sgOk, if_neg hv] at h
  simp only [Bool.and_eq_true, decide_eq_true_eq] at h
  exact ⟨h.1.1.1.1.1.1, h.1.1.1.1.1.2, h.1.1.2, h.1.2, h.2⟩
theorem sgOk_wdt {ds : List Dc} {s : Sc} (hD : dclR ds = true) (h : sgOk ds s = true) : 1 ≤ s.wd ∧ s.wd ≤ 4096 := by
  by_cases hv : s.v = -1
  · obtain ⟨-, h2, h3⟩ := sgOk_cst h hv
    have := rightB_wd h3
    omega
  · obtain ⟨h1, h2, h3, h4, h5⟩ := sgOk_vr h hv
    have hk : s.v.toNat < ds.length := by omega
    have e : ds.getD s.v.toNat (.empty, 0) = ds[s.v.toNat] := by simp [List.getD, hk]
    rw [e] at h5
    have := dclR_wd hD (List.getElem?_eq_getElem hk)
    omega

theorem formR_sum {ds : List Dc} {fs : List Sc} (hD : dclR ds = true) (h : formR ds fs = true) : (∀ s ∈ fs, sgOk ds s = true ∧ 1 ≤ s.wd ∧ s.wd ≤ 4096) ∧ 1 ≤ sumS fs ∧ sumS fs ≤ 4096 ∧ fs.length ≤ 2000 := by
  simp only [formR, Bool.and_eq_true, decide_eq_true_eq] at h
  obtain ⟨⟨⟨h1, h2⟩, h3⟩, h4⟩ := h
  have ha := all_of_flAt (ds := ds) (fs := fs) 0 (fun i s hi => by omega) h3
  have hb : ∀ s ∈ fs, sgOk ds s = true ∧ 1 ≤ s.wd ∧ s.wd ≤ 4096 := fun s hs => ⟨ha s hs, sgOk_wdt hD (ha s hs)⟩
  refine ⟨hb, ?_, h4, h2⟩
  have gen : ∀ (l : List Sc), (∀ s ∈ l, 1 ≤ s.wd) → (l.length : Int) ≤ sumS l := by
    intro l
    induction l with
    | nil => intro _; simp [sumS]
    | cons s t ih =>
      intro hl
      have := ih fun x hx => hl x (List.mem_cons_of_mem _ hx)
      have := hl s (by simp)
      simp only [sumS, List.length_cons]
      omega
  have := gen fs fun s hs => (hb s hs).2.1
  omega
theorem take_sum {fs : List Sc} (h : ∀ s ∈ fs, 1 ≤ s.wd) (k : Nat) : sumS (fs.take k) ≤ sumS fs := by
  have e : sumS fs = sumS (fs.take k) + sumS (fs.drop k) := by rw [← sumS_append, List.take_append_drop]
  have gen : ∀ (l : List Sc), (∀ s ∈ l, 1 ≤ s.wd) → 0 ≤ sumS l := by
    intro l
    induction l with
    | nil => intro _; simp [sumS]
    | cons s t ih =>
      intro hl
      have := ih fun x hx => hl x (List.mem_cons_of_mem _ hx)
      have := hl s (by simp)
      simp only [sumS]
      omega
  have := gen (fs.drop k) fun s hs => h s (List.mem_of_mem_drop hs)
  omega

end Go.Proofs.Ytfanddpncipkkaa
