/- From what the four listed variables read as to what the walks want. -/
import Derived.Test.YteenmffhbgpahaaDoorQX
import Derived.Test.YteenmffhbgpahaaDoorXFnExactWriteTerm
import Derived.Lib.LaidTab
import Derived.Stop.LaidErr
namespace Go.Proofs.YteenmffhbgpahaaDoor
set_option linter.unusedVariables false
set_option linter.unusedSimpArgs false
open Go.ChangeShapes Go.WideShapes Go.ChangeAt Go.RowKit

theorem forms_word (m : Nat) (h5 : 5 ≤ m) (h8 : m ≤ 8) : (match (Rows.laid_loop_example_g00081_impl_forms : DataW Unit) with | .agg l => l | _ => [])[m]? = some (.agg [.lit (.string ((wordN (m : Int)).map UInt8.ofNat)), .lit (.int .i64 (tabR m).1), .lit (.int .i64 (tabR m).2.1), .lit (.int .i64 (tabR m).2.2)]) := by
  obtain rfl | rfl | rfl | rfl : m = 5 ∨ m = 6 ∨ m = 7 ∨ m = 8 := by omega
  all_goals rfl

set_option maxRecDepth 100000 in
theorem gw_of_laid {W : World} (h : laidMetH Tryd.prog [("loop.example/g00081/impl.forms", Rows.laid_loop_example_g00081_impl_forms)] W) : GW W := by
  rw [MakeChecks.laidMetH_plain _ _ _ (by kernel_rfl)] at h
  obtain ⟨ps, ⟨g0, t0, cs0, f0, p0, q0, hg0, ht0, hv0, hd0, _, _⟩, _, _⟩ := h
  obtain rfl := Option.some.inj (gForms.symm.trans hg0)
  obtain rfl := Option.some.inj (tForms.symm.trans ht0)
  obtain ⟨xs, m1, rfl, hx1, hlen, hn, hel⟩ := DataW.trod_array Tryd.underlying93 hd0
  have cF : Tryd.prog.cellsOf 92 = 4 := by kernel_rfl
  have cS : Tryd.prog.cellsOf 9 = 1 := by kernel_rfl
  have cI : Tryd.prog.cellsOf 3 = 1 := by kernel_rfl
  have cA : Tryd.prog.cellsOf 93 = 40 := by kernel_rfl
  rw [cA] at hlen
  have hcell := fun i => World.var?_cell hg0 hv0 i
  intro m hm5 hm8
  have hm : m < 10 := by omega
  have h0 := hel m hm
  rw [cF] at h0
  have hs := forms_word m hm5 hm8
  obtain ⟨s, hsd⟩ : ∃ s, (wordN (m : Int)).map UInt8.ofNat = s := ⟨_, rfl⟩
  rw [hsd] at hs
  have hxm : (xs.map (·.1))[m]? = some (.agg [.lit (.string s), .lit (.int .i64 (tabR m).1), .lit (.int .i64 (tabR m).2.1), .lit (.int .i64 (tabR m).2.2)]) := by
    simp only [Prod.mk.injEq] at hx1
    have := hx1.1
    rw [this] at hs
    simpa using hs
  rw [List.getElem?_map] at hxm
  cases hx : xs[m]? with
  | none => rw [hx] at hxm; cases hxm
  | some y =>
    rw [hx] at hxm h0
    have hy : y.1 = .agg [.lit (.string s), .lit (.int .i64 (tabR m).1), .lit (.int .i64 (tabR m).2.1), .lit (.int .i64 (tabR m).2.2)] := by simpa using hxm
    obtain ⟨ys, k, hk, hxy, hl4, hyl, hfd⟩ := DataW.trod_struct Tryd.underlying92 h0
    rw [cF] at hl4
    have g0 := hfd 0 _ rfl
    have g1 := hfd 1 _ rfl
    have g2 := hfd 2 _ rfl
    have g3 := hfd 3 _ rfl
    match ys, hyl with
    | [y0, y1, y2, y3], _ =>
      rw [hxy] at hy
      simp only [DataW.agg.injEq, List.map_cons, List.map_nil, List.cons.injEq] at hy
      obtain ⟨a0, a1, a2, a3, -⟩ := hy
      obtain ⟨s', e0, f0, _⟩ := DataW.trod_string Tryd.underlying9 g0
      obtain ⟨n1, e1, f1, _⟩ := DataW.trod_int Tryd.underlying3 g1
      obtain ⟨n2, e2, f2, _⟩ := DataW.trod_int Tryd.underlying3 g2
      obtain ⟨n3, e3, f3, _⟩ := DataW.trod_int Tryd.underlying3 g3
      rw [f0] at a0
      rw [f1] at a1
      rw [f2] at a2
      rw [f3] at a3
      simp at a1 a2 a3
      have gl : ∀ i, i < 4 → cs0[m * 4 + i]? = ((cs0.toList.drop (m * 4)).take 4)[i]? := fun i hi => by
        rw [List.getElem?_take_of_lt hi, List.getElem?_drop]
        simp
      generalize (cs0.toList.drop (m * 4)).take 4 = L at *
      match L, hl4 with
      | [l0, l1, l2, l3], _ =>
        simp [cS, cI] at e0 e1 e2 e3
        have q0 := (hcell (m * 4 + 0)).trans (gl 0 (by omega))
        have q1 := (hcell (m * 4 + 1)).trans (gl 1 (by omega))
        have q2 := (hcell (m * 4 + 2)).trans (gl 2 (by omega))
        have q3 := (hcell (m * 4 + 3)).trans (gl 3 (by omega))
        simp at q0 q1 q2 q3
        rw [q0, e0]
        have hse : s'.data.toList = s := by simpa using a0
        congr 2
        show s' = txt (wordN (m : Int))
        unfold txt
        rw [hsd, ← hse]

theorem pow_laid : (Rows.laid_internal_strconv_uint64pow10 : DataW Unit) = Lib.tabData .u64 Lib.pow10Tab := by kernel_rfl

theorem ga_of_laid {W : World} (h : laidMetH Tryd.prog [("math/bits.deBruijn32tab", Rows.laid_math_bits_deBruijn32tab), ("math/bits.deBruijn64tab", Rows.laid_math_bits_deBruijn64tab), ("internal/strconv.uint64pow10", Rows.laid_internal_strconv_uint64pow10), ("loop.example/g00081/impl.forms", Rows.laid_loop_example_g00081_impl_forms)] W) : GA W := by
  rw [MakeChecks.laidMetH_plain _ _ _ (by kernel_rfl)] at h
  have h3 := h.tail.tail
  have h4 : laidMetH Tryd.prog [("loop.example/g00081/impl.forms", Rows.laid_loop_example_g00081_impl_forms)] W := by
    rw [MakeChecks.laidMetH_plain _ _ _ (by kernel_rfl)]
    exact h3.tail
  rw [pow_laid] at h3
  exact ⟨gf_of_laid h4, gw_of_laid h4, Lib.tabIs_of_head (g := 1) (t := 145) (e := 123) (n := 20) (by kernel_rfl) (by kernel_rfl) Tryd.underlying145 Tryd.underlying123 (by kernel_rfl) (by kernel_rfl) h3⟩

end Go.Proofs.YteenmffhbgpahaaDoor
