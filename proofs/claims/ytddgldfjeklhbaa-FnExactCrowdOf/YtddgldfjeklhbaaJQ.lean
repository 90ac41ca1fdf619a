/- How long a graph that is handed in is: it is too long, or all of it is there. -/
import Derived.Test.YtddgldfjeklhbaaJO
namespace Go.Proofs.Ytddgldfjeklhbaa
set_option linter.unusedVariables false
set_option linter.unusedSimpArgs false
open Go.RowKit

theorem size_graph (a1 a2 : Option Addr) (n1 c1 n2 c2 : Nat) (w : World) (hz : OpG w a1 a2 n1 n2) :
    ∃ Z : Int, Hid (∀ u, Below w.heap.size w u → Calls Try.prog 14 #[.agg #[.slice a1 n1 c1, .slice a2 n2 c2], .int .i64 1048576] u fun e w' => e = .returned (.int .i64 Z) ∧ Below u.heap.size u w') ∧ Z ≤ 1048576 ∧ (Z < 0 ∨ 0 ≤ Z ∧ ∃ (ks : List Int) (bs : List Yg), ks.length = n1 ∧ bs.length = n2 ∧ RdG w ⟨a1, c1, ks, a2, c2, bs⟩) := by
  obtain ⟨l1, l2, hks, hbars⟩ := hz
  by_cases h1 : (n1 : Int) ≤ 1048576
  · obtain ⟨ks, rfl, hk⟩ := hks (by omega)
    by_cases h2 : (n2 : Int) ≤ 1048576 - ks.length
    · obtain ⟨hs, rfl, hh, hb⟩ := hbars (by omega)
      have hr := szYl_range hs (1048576 - ks.length - hs.length) (by omega)
      refine ⟨_, fun u hu => szGraph_any a1 a2 _ c1 _ c2 _ u l1 (show szYl hs (1048576 - ks.length - hs.length) = -1 ∨ _ by omega) (fun _ u' hu' => szBarS_in a2 c2 hs _ u' (hh.later (hu.trans (hu'.mono hu.size))) (by omega) (by omega) h2), ?_⟩
      rw [if_pos h1]
      refine ⟨by omega, ?_⟩
      by_cases h3 : szYl hs (1048576 - ks.length - hs.length) < 0
      · exact .inl h3
      · obtain ⟨bs, hbl, hbs⟩ := RdBr_of hh hb (L := 1048576 - ks.length - hs.length) (by omega) (by omega) (by omega)
        exact .inr ⟨by omega, ks, bs, rfl, hbl, hk, hbs⟩
    · refine ⟨_, fun u hu => szGraph_any a1 a2 _ c1 _ c2 (-1) u l1 (.inl rfl) (fun _ u' hu' => (szBarS_out a2 n2 c2 _ u' (by omega) (by omega) l2 h2).mono (fun e w' hh => ⟨hh.1, by rw [hh.2]; exact Below.refl _ _⟩)), ?_⟩
      rw [if_pos h1]
      exact ⟨by omega, .inl (by omega)⟩
  · refine ⟨_, fun u hu => szGraph_any a1 a2 _ c1 _ c2 (-1) u l1 (.inl rfl) (fun h => absurd h h1), ?_⟩
    rw [if_neg h1]
    exact ⟨by omega, .inl (by omega)⟩

end Go.Proofs.Ytddgldfjeklhbaa
