/- What the given functions on words answer: PartOf, BitsOf. -/
import Derived.Test.YtfanddpncipkkaaI
import Derived.Test.YtfanddpncipkkaaK
namespace Go.Proofs.Ytfanddpncipkkaa
set_option linter.unusedVariables false
set_option linter.unusedSimpArgs false
open Go.RowKit

def noR : Int × List Nat × Bool := (0, [], false)

theorem RetB.no {w w' : World} (hb : Below w.heap.size w w') : RetB w noR (.returned (.tuple #[.agg #[.int .i64 0, .slice none 0 0], .bool false])) w' :=
  ⟨none, 0, rfl, .inl ⟨rfl, rfl⟩, hb⟩

theorem chain {W w1 w2 : World} (h : Below W.heap.size W w1) (k : Below w1.heap.size w1 w2) : Below W.heap.size W w2 := h.trans (k.mono h.size)

theorem Fresh.set2 {w : World} {lo lo' : Nat} {a : Option Addr} {ys : List Nat} (h : Fresh w lo a ys) {g : Nat} (hg : g < lo) (hl : lo' ≤ lo) (i j : Nat) (u v : Value) : Fresh ((w.setCell ⟨g, i, none⟩ u).setCell ⟨g, j, none⟩ v) lo' a ys := by
  rcases h with h | ⟨b, rfl, hb, ho⟩
  · exact .inl h
  · exact .inr ⟨b, rfl, by omega, (ho.other (by simp; omega) _).other (by simp; omega) _⟩

/-- How a function ends that gives back what l1From gave: the answer is stored in its own block, the flag behind it. -/
theorem RetB.close {w w2 w3 : World} {r r' : Int × List Nat × Bool} {a3 : Option Addr} {c3 g : Nat} (hfr : Fresh w3 w2.heap.size a3 r.2.1) (hg : w.heap.size ≤ g) (hg2 : g < w2.heap.size)
    (hb : Below w.heap.size w w3) (he : r = r') (u v : Value) :
    RetB w r' (.returned (.tuple #[.agg #[.int .i64 r.1, .slice a3 r.2.1.length c3], .bool r.2.2])) ((w3.setCell ⟨g, 0, none⟩ u).setCell ⟨g, 1, none⟩ v) := by
  subst he
  exact ⟨a3, c3, rfl, hfr.set2 hg2 (by omega) 0 1 u v, (hb.setCell hg _).setCell hg _⟩

def partR (W : Int) (xs : List Nat) (hi lo : Int) : Int × List Nat × Bool :=
  if rightB W xs = true ∧ 0 ≤ lo ∧ lo ≤ hi ∧ hi < W then (hi - lo + 1, pack (((bitsTo xs W.toNat).drop lo.toNat).take (hi - lo + 1).toNat), true) else noR


end Go.Proofs.Ytfanddpncipkkaa
