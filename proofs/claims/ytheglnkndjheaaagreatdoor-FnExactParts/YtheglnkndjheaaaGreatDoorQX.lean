/- From what the listed variable reads as to the cells of its block. -/
import Derived.Test.YtheglnkndjheaaaGreatDoorRows
import Derived.Test.YtheglnkndjheaaaGreatDoorZQL
import Derived.ProofKit
import Derived.LaidMore
import Derived.OpenShut
import Derived.Stop.Joined
import Derived.MakeChecks
import Derived.LaidLaws
import Derived.LaidHandle
namespace Go.Proofs.YtheglnkndjheaaaGreatDoor
set_option linter.unusedVariables false
set_option linter.unusedSimpArgs false
open Go.ChangeShapes Go.WideShapes Go.ChangeAt Go.RowKit

theorem gForms : Tryz.prog.globalNamed "loop.example/g00081/impl.forms" = some 0 := by kernel_rfl
theorem tForms : (Tryz.prog.globals[0]?).map (·.type) = some 160 := by kernel_rfl

theorem forms_at (m : Nat) (hm : m < 10) : ∃ s : List UInt8, (match (Rows.laid_loop_example_g00081_impl_forms : DataW Unit) with | .agg l => l | _ => [])[m]? = some (.agg [.lit (.string s), .lit (.int .i64 (tabR m).1), .lit (.int .i64 (tabR m).2.1), .lit (.int .i64 (tabR m).2.2)]) := by
  match m, hm with
  | 0, _ => exact ⟨_, rfl⟩
  | 1, _ => exact ⟨_, rfl⟩
  | 2, _ => exact ⟨_, rfl⟩
  | 3, _ => exact ⟨_, rfl⟩
  | 4, _ => exact ⟨_, rfl⟩
  | 5, _ => exact ⟨_, rfl⟩
  | 6, _ => exact ⟨_, rfl⟩
  | 7, _ => exact ⟨_, rfl⟩
  | 8, _ => exact ⟨_, rfl⟩
  | 9, _ => exact ⟨_, rfl⟩

set_option maxRecDepth 100000 in
theorem gf_of_laid {W : World} (h : laidMetH Tryz.prog [("loop.example/g00081/impl.forms", Rows.laid_loop_example_g00081_impl_forms)] W) : GF W := by
  rw [MakeChecks.laidMetH_plain _ _ _ (by kernel_rfl)] at h
  obtain ⟨ps, ⟨g0, t0, cs0, f0, p0, q0, hg0, ht0, hv0, hd0, _, _⟩, _, _⟩ := h
  obtain rfl := Option.some.inj (gForms.symm.trans hg0)
  obtain rfl := Option.some.inj (tForms.symm.trans ht0)
  obtain ⟨xs, m1, rfl, hx1, hlen, hn, hel⟩ := DataW.trod_array Tryz.underlying160 hd0
  have cF : Tryz.prog.cellsOf 159 = 4 := by kernel_rfl
  have cS : Tryz.prog.cellsOf 9 = 1 := by kernel_rfl
  have cI : Tryz.prog.cellsOf 3 = 1 := by kernel_rfl
  have cA : Tryz.prog.cellsOf 160 = 40 := by kernel_rfl
  rw [cA] at hlen
  have hcell := fun i => World.var?_cell hg0 hv0 i
  intro m hm
  have h0 := hel m hm
  rw [cF] at h0
  obtain ⟨s, hs⟩ := forms_at m hm
  have hxm : (xs.map (·.1))[m]? = some (.agg [.lit (.string s), .lit (.int .i64 (tabR m).1), .lit (.int .i64 (tabR m).2.1), .lit (.int .i64 (tabR m).2.2)]) := by
    simp only [Prod.mk.injEq] at hx1
    have := hx1.1
    rw [this] at hs
    simpa using hs
  rw [List.getElem?_map] at hxm
  cases hx : xs[m]? with
  | none => rw [hx] at hxm; cases hxm
  | some y =>
    rw [hx] at hxm h0
    have hy : y.1 = .agg [.lit (.string s), .lit (.int .i64 (tabR m).1), .lit (.int .i64 (tabR m).2.1), .lit (.int .i64 (tabR m).2.2)] := by simpa using hxm
    obtain ⟨ys, k, hk, hxy, hl4, hyl, hfd⟩ := DataW.trod_struct Tryz.underlying159 h0
    rw [cF] at hl4
    have g0 := hfd 0 _ rfl
    have g1 := hfd 1 _ rfl
    have g2 := hfd 2 _ rfl
    have g3 := hfd 3 _ rfl
    match ys, hyl with
    | [y0, y1, y2, y3], _ =>
      rw [hxy] at hy
      simp only [DataW.agg.injEq, List.map_cons, List.map_nil, List.cons.injEq] at hy
      obtain ⟨a0, a1, a2, a3, -⟩ := hy
      obtain ⟨s', e0, f0, _⟩ := DataW.trod_string Tryz.underlying9 g0
      obtain ⟨n1, e1, f1, _⟩ := DataW.trod_int Tryz.underlying3 g1
      obtain ⟨n2, e2, f2, _⟩ := DataW.trod_int Tryz.underlying3 g2
      obtain ⟨n3, e3, f3, _⟩ := DataW.trod_int Tryz.underlying3 g3
      rw [f0] at a0
      rw [f1] at a1
      rw [f2] at a2
      rw [f3] at a3
      simp at a1 a2 a3
      have gl : ∀ i, i < 4 → cs0[m * 4 + i]? = ((cs0.toList.drop (m * 4)).take 4)[i]? := fun i hi => by
        rw [List.getElem?_take_of_lt hi, List.getElem?_drop]
        simp
      generalize (cs0.toList.drop (m * 4)).take 4 = L at *
      match L, hl4 with
      | [l0, l1, l2, l3], _ =>
        simp [cS, cI] at e0 e1 e2 e3
        have q0 := (hcell (m * 4 + 0)).trans (gl 0 (by omega))
        have q1 := (hcell (m * 4 + 1)).trans (gl 1 (by omega))
        have q2 := (hcell (m * 4 + 2)).trans (gl 2 (by omega))
        have q3 := (hcell (m * 4 + 3)).trans (gl 3 (by omega))
        simp at q0 q1 q2 q3
        refine ⟨⟨s', ?_⟩, ?_, ?_, ?_⟩
        · rw [q0, e0]
        · rw [q1, e1, a1]
        · rw [q2, e2, a2]
        · rw [q3, e3, a3]

end Go.Proofs.YtheglnkndjheaaaGreatDoor
