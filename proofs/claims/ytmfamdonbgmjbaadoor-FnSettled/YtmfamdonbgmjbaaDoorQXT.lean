/- From what the listed variable reads as to what the walks want: the table of math/bits. -/
import Derived.Test.YtmfamdonbgmjbaaDoorZGAE
import Derived.Test.YtmfamdonbgmjbaaDoorRows
import Derived.Lib.LaidTab
import Derived.Stop.LaidErr
import Derived.MakeChecks
import Derived.LaidHandle
import Derived.LaidLaws
import Derived.Stop.Joined
import Derived.OpenShut
import Derived.LaidMore
import Derived.ProofKit
namespace Go.Proofs.YtmfamdonbgmjbaaDoor
set_option linter.unusedVariables false
set_option linter.unusedSimpArgs false
open Go.ChangeShapes Go.WideShapes Go.ChangeAt Go.RowKit

theorem tab_laid : (Rows.laid_math_bits_deBruijn64tab : DataW Unit) = Lib.tabData .u8 (Lib.deBruijn64tab.map fun (n : Nat) => (n : Int)) := by kernel_rfl
theorem tab_of_laid {W : World} (h : laidMetH Tryd.prog [("math/bits.deBruijn64tab", Rows.laid_math_bits_deBruijn64tab)] W) : TabAt 0 Lib.deBruijn64tab W := by
  rw [MakeChecks.laidMetH_plain _ _ _ (by kernel_rfl), tab_laid] at h
  have h1 := Lib.tabIs_of_head (g := 0) (t := 117) (e := 5) (n := 64) (by kernel_rfl) (by kernel_rfl) Tryd.underlying117 Tryd.underlying5 (by kernel_rfl) (by kernel_rfl) h
  intro j hj
  have h2 := h1.cell (g := 0) (by kernel_rfl) j (by rw [List.length_map]; exact hj)
  rw [h2]
  simp [List.getD, hj]
end Go.Proofs.YtmfamdonbgmjbaaDoor
