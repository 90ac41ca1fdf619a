/- How long the arguments are: declared variables, words, a term. -/
import Derived.Test.YtllojnloldhghaaGreatDoorKPQ
namespace Go.Proofs.YtllojnloldhghaaGreatDoor
set_option linter.unusedVariables false
set_option linter.unusedSimpArgs false
open Go.RowKit

theorem szBl_sum (hs : List Bh) : ∀ L : Int, 0 ≤ L → 0 ≤ szBl hs L → ((hs.map Bh.n).sum : Int) ≤ L := by
  induction hs with
  | nil => intro L hL _; simpa using hL
  | cons h t ih =>
    intro L hL hz
    rw [szBl] at hz
    split at hz
    · rename_i hc
      have := ih (L - h.n) (by omega) hz
      simp only [List.map_cons, List.sum_cons]
      omega
    · omega

theorem lens_of {W : World} {a : Option Addr} {hs : List Bh} {xs : List Bw} (hr : RdBh W a hs) (hx : RdW W a xs) (hl : xs.length = hs.length) : xs.map (fun x => x.ws.length) = hs.map Bh.n := by
  refine List.ext_getElem (by simp [hl]) fun i h1 h2 => ?_
  simp at h1 h2
  simp only [List.getElem_map]
  obtain ⟨-, h | ⟨b, o, rfl, hc⟩⟩ := hr
  · subst h; simp at h2
  obtain ⟨-, h | ⟨b', o', e, hc'⟩⟩ := hx
  · subst h; simp at h1
  cases e
  obtain ⟨-, p1, -⟩ := hc i _ (List.getElem?_eq_getElem h2)
  obtain ⟨-, p2, -⟩ := hc' i _ (List.getElem?_eq_getElem h1)
  rw [p1] at p2
  simp only [Option.some.injEq, Value.slice.injEq] at p2
  exact p2.2.1.symm

end Go.Proofs.YtllojnloldhghaaGreatDoor
