/- What the laws on trees have in common: the box of the tree, and the case of a tree that is too long. -/
import Derived.Test.YteainbakfeedpaaTL
import Derived.Test.YteainbakfeedpaaTD
import Derived.Deep.RegionHeld3
namespace Go.Proofs.Yteainbakfeedpaa
set_option linter.unusedVariables false
set_option linter.unusedSimpArgs false
open Go.RowKit

/-- A call's own box of one cell still stands. -/
def Bk (w : World) (v : Value) (t : TypeId) (wk : World) : Prop := Below (w.heap.size + 1) (w.alloc (Obj.cells #[v] t)) wk
theorem Bk.start (w : World) (v : Value) (t : TypeId) : Bk w v t (w.alloc (Obj.cells #[v] t)) := Below.refl _ _
theorem Bk.size {w wk : World} {v : Value} {t : TypeId} (h : Bk w v t wk) : w.heap.size + 1 ≤ wk.heap.size := by have := Below.size h; simpa using this
theorem Bk.next {w wk w1 : World} {v : Value} {t : TypeId} (h : Bk w v t wk) (hb : Below wk.heap.size wk w1) : Bk w v t w1 := Below.trans h (hb.mono h.size)
theorem Bk.below {w wk : World} {v : Value} {t : TypeId} (h : Bk w v t wk) : Below w.heap.size w wk := Below.trans (Below.alloc (Below.refl _ _) (Nat.le_refl _) _) (Below.mono h (by omega))
theorem Bk.cell {w wk : World} {v : Value} {t : TypeId} (h : Bk w v t wk) : wk.cell? ⟨w.heap.size, 0, none⟩ = some v := by
  rw [Below.cell h (by simp)]; simp

theorem RdH.later {w w' : World} {a : Option Addr} {hs : List Hd} (h : RdH w a hs) (hb : Below w.heap.size w w') : RdH w' a hs := by
  refine ⟨h.1, ?_⟩
  rcases h.2 with h | ⟨b, o, rfl, hc⟩
  · exact .inl h
  · refine .inr ⟨b, o, rfl, fun i h hi => ?_⟩
    obtain ⟨f0, f1, f2, f3⟩ := hc i h hi
    exact ⟨by rw [hb.cell (by exact block_lt_of_cell f0)]; exact f0, by rw [hb.cell (by exact block_lt_of_cell f1)]; exact f1, f2, f3⟩

theorem szTree_of (a : Option Addr) (c n : Nat) (hs : List Hd) (hn : n = hs.length) (w : World) (hr : RdH w a hs) :
    Calls Try.prog 18 #[.agg #[.slice a n c], .int .i64 1048576] w fun e w' => e = .returned (.int .i64 (szH hs (1048576 - hs.length))) ∧ Below w.heap.size w w' := by
  subst hn
  exact szTree_in a c hs w hr

theorem eqTree_of (a b : Option Addr) (c n : Nat) (xs ys : List Nd) (h1 : xs.length = n) (h2 : ys.length = n) (h : xs.map Nd.ct = ys.map Nd.ct) (w : World) (hr : RdN w a xs) (hs : RdN w b ys) :
    Calls Try.prog 21 #[.agg #[.slice a n c], .agg #[.slice b n c]] w fun e w' => e = .returned (.bool true) ∧ Below w.heap.size w w' := by
  have := eqTree_any a b c c xs ys w hr hs
  rwa [h1, h2, decide_eq_true h] at this

end Go.Proofs.Yteainbakfeedpaa
