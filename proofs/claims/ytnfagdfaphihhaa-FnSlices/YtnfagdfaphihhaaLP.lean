/- What the laws on variables and cuts have in common: the boxes of the cuts. -/
import Derived.Test.YtnfagdfaphihhaaLC
import Derived.Test.YtnfagdfaphihhaaLO
namespace Go.Proofs.Ytnfagdfaphihhaa
set_option linter.unusedVariables false
set_option linter.unusedSimpArgs false
open Go.RowKit

/-- A call's own box of one cell still stands. -/
def Bq (w : World) (v : Value) (t : TypeId) (wk : World) : Prop := Below (w.heap.size + 1) (w.alloc (Obj.cells #[v] t)) wk
theorem Bq.start (w : World) (v : Value) (t : TypeId) : Bq w v t (w.alloc (Obj.cells #[v] t)) := Below.refl _ _
theorem Bq.size {w wk : World} {v : Value} {t : TypeId} (h : Bq w v t wk) : w.heap.size + 1 ≤ wk.heap.size := by have := Below.size h; simpa using this
theorem Bq.next {w wk w1 : World} {v : Value} {t : TypeId} (h : Bq w v t wk) (hb : Below wk.heap.size wk w1) : Bq w v t w1 := Below.trans h (hb.mono h.size)
theorem Bq.below {w wk : World} {v : Value} {t : TypeId} (h : Bq w v t wk) : Below w.heap.size w wk := Below.trans (Below.alloc (Below.refl _ _) (Nat.le_refl _) _) (Below.mono h (by omega))
theorem Bq.cell {w wk : World} {v : Value} {t : TypeId} (h : Bq w v t wk) : wk.cell? ⟨w.heap.size, 0, none⟩ = some v := by
  rw [Below.cell h (by simp)]; simp

theorem len_of_ks {ms xs : List Iw} {n : Nat} (h : ms.map Iw.ks = xs.map Iw.ks) (hn : xs.length = n) : ms.length = n := by
  have := congrArg List.length h
  simp at this
  rw [this]; exact hn

/-- The sizes of the two arguments: what is left behind both. -/
theorem sizes_cuts (a b : Option Addr) (n c n2 c2 : Nat) (w : World) (hn : n ≤ 9223372036854775807) (hn2 : n2 ≤ 9223372036854775807)
    (hx : n ≤ 1048576 → ∃ ds : List Dc, ds.length = n ∧ RdD w a ds) (hy : n2 ≤ 1048576 → ∃ hs : List Ih, hs.length = n2 ∧ RdIh w b hs ∧ ∀ h ∈ hs, NumsOf w h) :
    ∃ Z Z2 : Int, (∀ u, Below w.heap.size w u → Calls Try.prog 10 #[.slice a n c, .int .i64 1048576] u fun e w' => e = .returned (.int .i64 Z) ∧ Below u.heap.size u w') ∧
      (0 ≤ Z → ∀ u, Below w.heap.size w u → Calls Try.prog 11 #[.agg #[.slice b n2 c2], .int .i64 Z] u fun e w' => e = .returned (.int .i64 Z2) ∧ Below u.heap.size u w') ∧
      (0 ≤ Z → 0 ≤ Z2 → ∃ (ds : List Dc) (xs : List Iw), ds.length = n ∧ xs.length = n2 ∧ RdD w a ds ∧ RdII w b xs) := by
  by_cases h : n ≤ 1048576
  · obtain ⟨ds, rfl, hr⟩ := hx h
    have hZ := szD_range ds (1048576 - ds.length) (by omega)
    have hSZ := fun u (hu : Below w.heap.size w u) => szDeclS_in a c ds 1048576 u (hr.later hu) (by omega) (by omega) (by omega)
    generalize szD ds (1048576 - ds.length) = Z at *
    by_cases hz : Z < 0
    · exact ⟨Z, 0, hSZ, fun h' => by omega, fun h' => by omega⟩
    have hz0 : 0 ≤ Z := by omega
    have hz1 : Z ≤ 1048576 := by omega
    by_cases h2 : (n2 : Int) ≤ Z
    · obtain ⟨hs, rfl, hh, hk⟩ := hy (by omega)
      have hZ2 := szIl_range hs (Z - hs.length) (by omega)
      refine ⟨Z, szIl hs (Z - hs.length), hSZ, fun _ u hu => szCuts_any b _ c2 Z _ u (by omega) (fun u' hu' => szInt64SS_in b c2 hs Z u' (hh.later (hu.trans (hu'.mono hu.size))) hz0 hz1 h2), fun _ hz2 => ?_⟩
      obtain ⟨xs, hxl, hxs⟩ := RdII_of hh hk (L := Z - hs.length) (by omega) (by omega) hz2
      exact ⟨ds, xs, rfl, hxl, hr, hxs⟩
    · refine ⟨Z, -1, hSZ, fun _ u hu => szCuts_any b _ c2 Z _ u (.inl rfl) (fun u' hu' => (szInt64SS_out b n2 c2 Z u' hz0 hz1 hn2 h2).mono (fun e w' hh => ⟨hh.1, by rw [hh.2]; exact Below.refl _ _⟩)), fun _ h' => by omega⟩
  · exact ⟨-1, 0, fun u hu => (szDeclS_out a n c 1048576 u (by omega) (by omega) hn (by omega)).mono (fun e w' hh => ⟨hh.1, by rw [hh.2]; exact Below.refl _ _⟩), fun h' => by omega, fun h' => by omega⟩

end Go.Proofs.Ytnfagdfaphihhaa
