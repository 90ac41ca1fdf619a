/- How an argument that is a forest is opened. -/
import Derived.Test.YtakicdlfolhhcaaRows
import Derived.Test.YtakicdlfolhhcaaGK
import Derived.ProofKit
import Derived.OpenShut
import Derived.ShutString
import Derived.ChangeOld
import Derived.Below
import Derived.Lib.SmallJoins
import Derived.Deep.SlicePairs
namespace Go.Proofs.Ytakicdlfolhhcaa
set_option linter.unusedVariables false
set_option linter.unusedSimpArgs false
open Go.ChangeShapes Go.WideShapes Go.ChangeAt Go.RowKit Go.Joins

theorem own : ownKnob Try.prog.godebug = none := by kernel_rfl
theorem laidOut : laidOutB Try.prog = true := by kernel_rfl

theorem bounds64 {x : Int} (h : (Lit.int .i64 x).wf = true) : in64 x := bounds_i64 h

set_option maxRecDepth 100000 in
theorem open_forest {H : Type} {enc : TypeId × Value → H} {W : World} {r : Reach} {b0 base : Nat} {v : Value} {d : DataW H} {p : List MemPlace}
    (hv : Value.okWide Try.prog W r b0 24 v) (h : DataW.Trod enc Try.prog W base (fun _ => true) true 24 v d p) :
    ∃ (z : Int) (a : Option Addr) (n c : Nat), v = .agg #[.int .i64 z, .slice a n c] ∧ n ≤ 9223372036854775807 ∧ (n ≤ 1048576 → ∃ ls : List Lk, ls.length = n ∧ RdK W a ls) := by
  obtain ⟨cs, rfl, hsz⟩ := okWide_struct Try.underlying24 hv
  have hC : Try.prog.cellsOf 24 = 2 := by kernel_rfl
  obtain ⟨fuel, hf⟩ := h
  obtain ⟨xs, m, _, _, _, hxl, hx0⟩ := DataW.trod_struct Try.underlying24 hf
  have hS : Try.prog.cellsOf 22 = 1 := by kernel_rfl
  have ce : Try.prog.cellsOf 94 = 3 := by kernel_rfl
  have cI : Try.prog.cellsOf 2 = 1 := by kernel_rfl
  obtain ⟨l⟩ := cs
  match l, hsz.trans hC, xs, hxl with
  | [c0, c1], _, [y0, y1], _ =>
    have g0 := hx0 0 _ rfl
    have g1 := hx0 1 _ rfl
    simp [Value.cells, hS, cI] at g0 g1
    obtain ⟨z, e0, _, wz⟩ := DataW.trod_int Try.underlying2 g0
    simp at e0
    subst e0
    rcases Deep.open_slice Try.underlying22 g1 with ⟨hcs, _⟩ | ⟨x, len, cap, m, n2, D, Pl, hcs, _, hl, hm, hz, _, hx⟩
    · simp at hcs
      subst hcs
      exact ⟨z, none, 0, 0, rfl, by omega, fun _ => ⟨[], rfl, by simp, by simp, .inl rfl⟩⟩
    · simp at hcs
      subst hcs
      refine ⟨z, some x, len, cap, rfl, by unfold maxLen at hm; omega, fun hle => ?_⟩
      have each : ∀ i, i < len → ∃ k : Lk, (W.cell? (x.add (i * 3)) = some (.int .i64 k.1) ∧ W.cell? (x.add (i * 3 + 1)) = some (.int .i64 k.2.1) ∧ W.cell? (x.add (i * 3 + 2)) = some (.int .i64 k.2.2)) ∧ in64 k.1 ∧ in64 k.2.1 ∧ in64 k.2.2 := by
        intro i hi
        simp at hz
        obtain ⟨cs', h1, h2⟩ := hx i (by omega)
        rw [ce] at h1
        obtain ⟨_, hlen, hcell⟩ := World.cells?_some h1
        obtain ⟨ys, k, hk, hxy, _, hxl, hfd⟩ := DataW.trod_struct Try.underlying94 h2
        match ys, hxl, cs', hlen with
        | [y0, y1, y2], _, [v0, v1, v2], _ =>
          have g0 := hfd 0 _ rfl
          have g1 := hfd 1 _ rfl
          have g2 := hfd 2 _ rfl
          simp [cI] at g0 g1 g2
          obtain ⟨n0, e0, _, w0⟩ := DataW.trod_int Try.underlying2 g0
          obtain ⟨n1, e1, _, w1⟩ := DataW.trod_int Try.underlying2 g1
          obtain ⟨n2', e2, _, w2⟩ := DataW.trod_int Try.underlying2 g2
          have c0 := hcell 0 (by omega)
          have c1 := hcell 1 (by omega)
          have c2 := hcell 2 (by omega)
          rw [Deep.add_add] at c0 c1 c2
          simp at e0 e1 e2 c0 c1 c2
          rw [e0] at c0
          rw [e1] at c1
          rw [e2] at c2
          exact ⟨(n0, n1, n2'), ⟨c0, c1, c2⟩, bounds64 w0, bounds64 w1, bounds64 w2⟩
      haveI : Inhabited Lk := ⟨(0, 0, 0)⟩
      obtain ⟨q, hq⟩ := Deep.choose_lt each
      refine ⟨(List.range len).map q, by simp, by simpa using hle, ?_, ?_⟩
      · intro d hd
        obtain ⟨i, hi, rfl⟩ := List.mem_map.1 hd
        exact (hq i (List.mem_range.1 hi)).2
      · by_cases h0 : len = 0
        · left; simp [h0]
        · right
          obtain ⟨b, off, spot⟩ := x
          have hc0 := (hq 0 (by omega)).1.1
          have hspot : spot = none := by simpa [Addr.add] using World.cell?_spot hc0
          subst hspot
          refine ⟨b, off, rfl, fun i h hi => ?_⟩
          have hil : i < len := by have := (List.getElem?_eq_some_iff.1 hi).1; simpa using this
          simp [hil] at hi
          subst hi
          obtain ⟨⟨k0, k1, k2⟩, -⟩ := hq i hil
          rw [Addr.add_lit] at k0 k1 k2
          exact ⟨k0, k1, k2⟩

end Go.Proofs.Ytakicdlfolhhcaa
