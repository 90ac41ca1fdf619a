/- How an argument that is clauses is opened. -/
import Derived.Test.YtpajfeboaeoclaaLOX
import Derived.Test.YtpajfeboaeoclaaCJ
namespace Go.Proofs.Ytpajfeboaeoclaa
set_option linter.unusedVariables false
set_option linter.unusedSimpArgs false
open Go.ChangeShapes Go.WideShapes Go.ChangeAt Go.RowKit Go.Joins

set_option maxRecDepth 100000 in
theorem open_cnf {H : Type} {enc : TypeId × Value → H} {W : World} {r : Reach} {b0 base : Nat} {v : Value} {d : DataW H} {p : List MemPlace}
    (hv : Value.okWide Try.prog W r b0 24 v) (h : DataW.Trod enc Try.prog W base (fun _ => true) true 24 v d p) :
    ∃ (S : Int) (a : Option Addr) (n c : Nat), v = .agg #[.int .i64 S, .slice a n c] ∧ in64 S ∧ n ≤ 9223372036854775807 ∧ (n ≤ 1048576 → ∃ hs : List Ih, hs.length = n ∧ RdIh W a hs ∧ ∀ h ∈ hs, NumsOf W h) := by
  obtain ⟨cs, rfl, hsz⟩ := okWide_struct Try.underlying24 hv
  have hC : Try.prog.cellsOf 24 = 2 := by kernel_rfl
  obtain ⟨fuel, hf⟩ := h
  obtain ⟨xs, m, _, _, _, hxl, hx0⟩ := DataW.trod_struct Try.underlying24 hf
  have hS : Try.prog.cellsOf 22 = 1 := by kernel_rfl
  have cI : Try.prog.cellsOf 2 = 1 := by kernel_rfl
  obtain ⟨l⟩ := cs
  match l, hsz.trans hC, xs, hxl with
  | [c0, c1], _, [y0, y1], _ =>
    have g0 := hx0 0 _ rfl
    have g1 := hx0 1 _ rfl
    simp [Value.cells, hS, cI] at g0 g1
    obtain ⟨z, e0, _, wz⟩ := DataW.trod_int Try.underlying2 g0
    simp at e0
    subst e0
    obtain ⟨a, n, c, rfl, hn, hk⟩ := open_kss g1
    exact ⟨z, a, n, c, rfl, bounds_i64 wz, hn, hk⟩

/-- The size of clauses that are handed in: too long, or all of it is there. -/
theorem size_cnf (S : Int) (b : Option Addr) (n2 c2 : Nat) (w : World) (hn2 : n2 ≤ 9223372036854775807)
    (hy : n2 ≤ 1048576 → ∃ hs : List Ih, hs.length = n2 ∧ RdIh w b hs ∧ ∀ h ∈ hs, NumsOf w h) :
    ∃ Z : Int, Hid (∀ u, Below w.heap.size w u → Calls Try.prog 6 #[.agg #[.int .i64 S, .slice b n2 c2], .int .i64 1048576] u fun e w' => e = .returned (.int .i64 Z) ∧ Below u.heap.size u w') ∧ Z ≤ 1048576 ∧
      (Z < 0 ∨ 0 ≤ Z ∧ ∃ xs : List Iw, xs.length = n2 ∧ RdII w b xs) := by
  by_cases h2 : (n2 : Int) ≤ 1048576
  · obtain ⟨hs, rfl, hh, hk⟩ := hy (by omega)
    have hZ2 := szIl_range hs (1048576 - hs.length) (by omega)
    refine ⟨szIl hs (1048576 - hs.length), fun u hu => szCnf_any S b _ c2 1048576 _ u (by omega) (fun u' hu' => szInt64SS_in b c2 hs 1048576 u' (hh.later (hu.trans (hu'.mono hu.size))) (by omega) (by omega) h2), by omega, ?_⟩
    by_cases h3 : szIl hs (1048576 - hs.length) < 0
    · exact .inl h3
    · obtain ⟨xs, hxl, hxs⟩ := RdII_of hh hk (L := 1048576 - hs.length) (by omega) (by omega) (by omega)
      exact .inr ⟨by omega, xs, hxl, hxs⟩
  · exact ⟨-1, fun u hu => szCnf_any S b _ c2 1048576 _ u (.inl rfl) (fun u' hu' => (szInt64SS_out b n2 c2 1048576 u' (by omega) (by omega) hn2 h2).mono (fun e w' hh => ⟨hh.1, by rw [hh.2]; exact Below.refl _ _⟩)), by omega, .inl (by omega)⟩

end Go.Proofs.Ytpajfeboaeoclaa
