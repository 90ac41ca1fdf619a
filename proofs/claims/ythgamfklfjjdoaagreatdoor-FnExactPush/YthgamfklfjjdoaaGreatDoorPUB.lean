/- Push: what its answers are good for. -/
import Derived.Test.YthgamfklfjjdoaaGreatDoorPUA
namespace Go.Proofs.YthgamfklfjjdoaaGreatDoor
set_option linter.unusedVariables false
set_option linter.unusedSimpArgs false
open Go.RowKit

def okR (R : Rv) : Prop := okDs R.ds ∧ (∀ c ∈ R.cs, okSc c ∧ c.ls.length ≤ 60) ∧ R.cs.length ≤ 60
theorem ses_each {ds : List Dc} {cs : List Sc} {nx : Int} (h : sesR ds cs nx = true) : ∀ c ∈ cs, c.ls.length ≤ 60 := fun c hc => by
  have h60 := all_len ds cs nx
  unfold allR at h60
  rw [if_pos h] at h60
  obtain ⟨xs, ys, rfl⟩ := List.append_of_mem hc
  unfold allL at h60
  rw [List.flatMap_append, List.flatMap_cons, List.length_append, List.length_append] at h60
  omega
theorem zero_ok : okR zeSR := ⟨⟨by simp [zeSR], fun x hx => by simp [zeSR] at hx⟩, (fun c hc => by simp [zeSR] at hc), by simp [zeSR]⟩
theorem push_ok {w : World} {a b : Option Addr} {ds : List Dc} {xs : List Sg} (hr : RdD w a ds) (hs : RdS w b xs) (nx : Int) : okR (pushR ds (xs.map Sg.ct) nx) := by
  unfold pushR
  cases hv : sesR ds (xs.map Sg.ct) nx with
  | false => rw [if_neg (by simp)]; exact zero_ok
  | true =>
    rw [if_pos rfl]
    have h1 := hs.okc
    have h2 := ses_each hv
    have h3 := (ses_len hv).2
    split
    · exact ⟨hr.okd, fun c hc => ⟨h1 c hc, h2 c hc⟩, by show (xs.map Sg.ct).length ≤ 60; omega⟩
    · refine ⟨hr.okd, fun c hc => ?_, by show (xs.map Sg.ct ++ _).length ≤ 60; rw [List.length_append]; simp only [List.length_cons, List.length_nil]; omega⟩
      rcases List.mem_append.1 hc with hc | hc
      · exact ⟨h1 c hc, h2 c hc⟩
      · simp at hc
        subst hc
        have := hr.1
        exact ⟨⟨⟨by simp only []; omega, by simp only []; omega⟩, by simp, fun y hy => by simp at hy⟩, by simp⟩

/-- An answer: its session stays readable, and can be marked. -/
def RetG (R : Rv) (rd rn : Nat) (w : World) (e : Ending) (w' : World) : Prop := ∃ a1 c1 a2 c2 l, e = .returned (.tuple #[.agg #[.slice a1 rd c1, .slice a2 rn c2, .int .i64 R.nx], .int .i64 R.code]) ∧ l.map Sg.ct = R.cs ∧ Rs w.heap.size w'.heap.size a1 a2 R.ds l w' ∧ Gs w.heap.size w'.heap.size (.agg #[.slice a1 rd c1, .slice a2 rn c2, .int .i64 R.nx]) w' ∧ Below w.heap.size w w'
theorem RetP.g {R : Rv} {w w' : World} {e : Ending} (h : RetP R w e w') (hk : okR R) : RetG R R.ds.length R.cs.length w e w' := by
  obtain ⟨a1, c1, a2, c2, l, p, M, e, sn, hct, hb⟩ := h
  obtain ⟨k1, k2, k3⟩ := hk
  have hl : l.length = R.cs.length := by rw [← hct, List.length_map]
  refine ⟨a1, c1, a2, c2, l, e, hct, sn.rs k1 (by omega) (fun c hc => (k2 c (by rw [← hct]; exact hc)).1), sn.gs R.nx k1.1 hl k3 (fun x hx => ?_), hb⟩
  obtain ⟨q1, q2⟩ := k2 x.ct (by rw [← hct]; exact List.mem_map_of_mem hx)
  exact ⟨sh_of rfl q1.2.2, by simpa [Sg.ct] using q2⟩
/-- .. of which only the reading is asked. -/
def RetR (R : Rv) (rd rn : Nat) (w : World) (e : Ending) (w' : World) : Prop := ∃ a1 c1 a2 c2 l, e = .returned (.tuple #[.agg #[.slice a1 rd c1, .slice a2 rn c2, .int .i64 R.nx], .int .i64 R.code]) ∧ l.map Sg.ct = R.cs ∧ Rs w.heap.size w'.heap.size a1 a2 R.ds l w' ∧ Below w.heap.size w w'
theorem RetP.r {R : Rv} {w w' : World} {e : Ending} (h : RetP R w e w') (hk : okR R) : RetR R R.ds.length R.cs.length w e w' := by
  obtain ⟨a1, c1, a2, c2, l, e, h1, h2, -, h3⟩ := h.g hk
  exact ⟨a1, c1, a2, c2, l, e, h1, h2, h3⟩

end Go.Proofs.YthgamfklfjjdoaaGreatDoor
