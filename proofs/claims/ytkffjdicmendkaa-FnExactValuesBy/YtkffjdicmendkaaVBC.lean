/- What setBit does. -/
import Derived.Test.YtkffjdicmendkaaVBA
import Derived.Test.YtkffjdicmendkaaL
import Derived.Test.YtkffjdicmendkaaKF
namespace Go.Proofs.Ytkffjdicmendkaa
set_option linter.unusedVariables false
set_option linter.unusedSimpArgs false
open Go.RowKit

theorem setBit_any (W : Int) (g c U : Nat) (ys : List Nat) (w : World) (ho : Own w g ys) (hz : ∀ x ∈ ys, x < 18446744073709551616) (hU : U < 64 * ys.length) (hl : ys.length ≤ 64) :
    Calls Try.prog 46 #[.agg #[.int .i64 W, .slice (some ⟨g, 0, none⟩) ys.length c], .int .i64 (U : Int)] w fun e w' => e = .returned (.tuple #[]) ∧ Own w' g (ys.set (U / 64) (ys.getD (U / 64) 0 ||| 1 * 2 ^ (U % 64) % 18446744073709551616)) ∧ w.grownBy w' (some g) := by
  have hcell := ho.cell (i := U / 64) (by omega)
  have hfr := ho.free (U / 64)
  have hgl := ho.lt
  have hlt := getD_lt hz (U / 64)
  have hlxi : (U : Int) / 64 < (ys.length : Int) := by omega
  have HO : Hid (Own ((w.alloc (Obj.cells #[Value.int .i64 W, Value.slice (some ⟨g, 0, none⟩) ys.length c] 58)).setCell ⟨g, U / 64, none⟩ (.int .u64 (bits BinOp.or IntKind.u64 ((ys.getD (U / 64) 0 : Nat) : Int) (IntKind.u64.wrap (2 ^ (U % 64)))))) g (ys.set (U / 64) (ys.getD (U / 64) 0 ||| 1 * 2 ^ (U % 64) % 18446744073709551616))) := by
    have h := (Own.alloc ho (Obj.cells #[Value.int .i64 W, Value.slice (some ⟨g, 0, none⟩) ys.length c] 58)).put (U / 64) (ys.getD (U / 64) 0 ||| 1 * 2 ^ (U % 64) % 18446744073709551616)
    rw [← orShift _ 1 _ hlt, show ((1 : Nat) : Int) * 2 ^ (U % 64) = 2 ^ (U % 64) by simp] at h
    exact h
  generalize ys.getD (U / 64) 0 = y at *
  generalize ys.set (U / 64) (y ||| 1 * 2 ^ (U % 64) % 18446744073709551616) = zs at *
  have H0 := kide ho
  clear hz ho
  have hb2 : Below w.heap.size w (w.alloc (Obj.cells #[Value.int .i64 W, Value.slice (some ⟨g, 0, none⟩) ys.length c] 58)) := (Below.refl _ _).alloc (Nat.le_refl _) _
  have X2 := kide (Bz.new w #[Value.int .i64 W, Value.slice (some ⟨g, 0, none⟩) ys.length c] 58)
  have hcell2 := (hb2.cell (p := ⟨g, U / 64, none⟩) hgl).trans hcell
  have hfr2 := (H0.out.later hb2 hgl).free (U / 64)
  have HB2 := kide hb2
  have hb1 : (w.alloc (Obj.cells #[Value.int .i64 W, Value.slice (some ⟨g, 0, none⟩) ys.length c] 58)).cell? ⟨w.heap.size, 1, none⟩ = some (.slice (some ⟨g, 0, none⟩) ys.length c) := X2.out.cell 1
  clear hb2 hcell hfr X2
  go_enter Try.func46, Try.ntmps46
  go_wp2_with fail
  generalize w.alloc (Obj.cells #[Value.int .i64 W, Value.slice (some ⟨g, 0, none⟩) ys.length c] 58) = w2 at *
  go_region
  go_wp2
  go_end0
  refine ⟨rfl, HO.out, ⟨HB2.out.os, HB2.out.tape, HB2.out.output, by simpa using HB2.out.size, fun j hj hne => ?_⟩⟩
  have h1 : j ≠ g := fun e => hne (by rw [e])
  show (World.setCell _ _ _).heap[_]? = _
  rw [heap_setCell_other _ _ _ _ (by simpa using h1)]
  exact HB2.out.block j hj

end Go.Proofs.Ytkffjdicmendkaa
