/- Bars as keys of a map. -/
import Derived.Test.YtddgldfjeklhbaaBK
import Derived.Maps.OwnSet
import Derived.DeepKeys4
namespace Go.Proofs.Ytddgldfjeklhbaa
set_option linter.unusedVariables false
set_option linter.unusedSimpArgs false
open Go.RowKit Go.WideMaps Go.Maps

theorem blaid : laidOutB Try.prog = true := by kernel_rfl
theorem brow : (82 : TypeId) < Try.prog.types.size := of_decide_eq_true (by kernel_rfl)
theorem bwide : (match Try.prog.underlying 82 with | some (.array _ _) | some (.struct _) => true | _ => false) = true := by kernel_rfl
set_option maxRecDepth 100000 in
theorem barLaw : KeyLaw Try.prog 82 := deep_law_laid blaid (m := 3) (by omega) brow (by kernel_rfl) bwide
theorem barKeyed : Keyed Try.prog 82 := Keyed.of_law barLaw

theorem pos_of_lt {a b : Nat} (h : a < b) : ∃ m, b = m + 1 := ⟨b - 1, by omega⟩
theorem bsize : ∃ m, Try.prog.types.size = m + 1 := pos_of_lt brow
theorem bkey : Try.prog.keyType 82 = true := by kernel_rfl
theorem bc64 : Try.prog.cellsOf 2 = 1 := by kernel_rfl
theorem bcs : Try.prog.cellsOf 9 = 1 := by kernel_rfl
theorem bcells : Try.prog.cellsOf 82 = 4 := by kernel_rfl

theorem keyOf_bar (x y z : Int) (s : ByteArray) (hx : (Lit.int .i64 x).wf = true) (hy : (Lit.int .i64 y).wf = true) (hz : (Lit.int .i64 z).wf = true) (hs : s.size ≤ maxLen) :
    ∃ l, keyOf Try.prog 82 (.agg #[.int .i64 x, .int .i64 y, .int .i64 z, .string s]) = some l := by
  have hu := Try.underlying82
  have h1 := Try.underlying2
  have h2 := Try.underlying9
  have hf : (Value.agg #[.int .i64 x, .int .i64 y, .int .i64 z, .string s]).formed Try.prog 82 = true := by simp [Value.formed, hu, bcells]
  obtain ⟨m, hm⟩ := bsize
  unfold keyOf
  simp only [hu, bkey, hf, Bool.and_self, if_true]
  rw [hm]
  simp [Program.keyLits, hu, bcells, h1, h2, bc64, bcs, hx, hy, hz, hs, Value.cells]

/-- Bars with the same key are alike. -/
theorem keyOf_bar_inj {x y z x' y' z' : Int} {s s' : ByteArray} {l : Lit} (h : keyOf Try.prog 82 (.agg #[.int .i64 x, .int .i64 y, .int .i64 z, .string s]) = some l) (h' : keyOf Try.prog 82 (.agg #[.int .i64 x', .int .i64 y', .int .i64 z', .string s']) = some l) : x = x' ∧ y = y' ∧ z = z' ∧ s = s' := by
  have e := barLaw.inj h h'
  simp at e
  exact e

end Go.Proofs.Ytddgldfjeklhbaa
