/- How long the arguments are: declared variables, words, a term. -/
import Derived.Test.YtllojnloldhghaaGreatDoorKPQ
namespace Go.Proofs.YtllojnloldhghaaGreatDoor
set_option linter.unusedVariables false
set_option linter.unusedSimpArgs false
open Go.RowKit

theorem szBl_sum (hs : List Bh) : ∀ L : Int, 0 ≤ L → 0 ≤ szBl hs L → ((hs.map Bh.n).sum : Int) ≤ L := by
  induction hs with
  | nil => intro L hL _; simpa using hL
  | cons h t ih =>
    intro L hL hz
    rw [szBl] at hz
    split at hz
    · rename_i hc
      have := ih (L - h.n) (by omega) hz
      simp only [List.map_cons, List.sum_cons]
      omega
    · omega

theorem lens_of {W : World} {a : Option Addr} {hs : List Bh} {xs : List Bw} (hr : RdBh W a hs) (hx : RdW W a xs) (hl : xs.length = hs.length) : xs.map (fun x => x.ws.length) = hs.map Bh.n := by
  refine List.ext_getElem (by simp [hl]) fun i h1 h2 => ?_
  simp at h1 h2
  simp only [List.getElem_map]
  obtain ⟨-, h | ⟨b, o, rfl, hc⟩⟩ := hr
  · subst h; simp at h2
  obtain ⟨-, h | ⟨b', o', e, hc'⟩⟩ := hx
  · subst h; simp at h1
  cases e
  obtain ⟨-, p1, -⟩ := hc i _ (List.getElem?_eq_getElem h2)
  obtain ⟨-, p2, -⟩ := hc' i _ (List.getElem?_eq_getElem h1)
  rw [p1] at p2
  simp only [Option.some.injEq, Value.slice.injEq] at p2
  exact p2.2.1.symm

theorem sizes_dv (a va : Option Addr) (n c vn vc : Nat) (w : World) (hn : n ≤ 9223372036854775807) (hvn : vn ≤ 9223372036854775807)
    (hx : n ≤ 1048576 → ∃ ds : List Dc, ds.length = n ∧ RdD w a ds) (hy : vn ≤ 1048576 → ∃ hs : List Bh, hs.length = vn ∧ RdBh w va hs ∧ ∀ h ∈ hs, WordsOf w h) :
    ∃ Z Z2 : Int, (∀ u, Below w.heap.size w u → Calls Tryz.prog 7 #[.slice a n c, .int .i64 1048576] u fun e w' => e = .returned (.int .i64 Z) ∧ Below u.heap.size u w') ∧
      (0 ≤ Z → ∀ u, Below w.heap.size w u → Calls Tryz.prog 9 #[.slice va vn vc, .int .i64 Z] u fun e w' => e = .returned (.int .i64 Z2) ∧ Below u.heap.size u w') ∧
      (0 ≤ Z → 0 ≤ Z2 → Z2 ≤ 1048576 ∧ ∃ (ds : List Dc) (vs : List Bw), ds.length = n ∧ vs.length = vn ∧ RdD w a ds ∧ RdW w va vs ∧ vn + (vs.map fun x => x.ws.length).sum ≤ 1048576) := by
  by_cases h : n ≤ 1048576
  · obtain ⟨ds, rfl, hr⟩ := hx h
    have hZ := szD_range ds (1048576 - ds.length) (by omega)
    have hSZ := fun u (hu : Below w.heap.size w u) => szDeclS_in a c ds 1048576 u (hr.later hu) (by omega) (by omega) (by omega)
    generalize szD ds (1048576 - ds.length) = Z at *
    by_cases hz : Z < 0
    · exact ⟨Z, 0, hSZ, fun h' => by omega, fun h' => by omega⟩
    have hz0 : 0 ≤ Z := by omega
    have hz1 : Z ≤ 1048576 := by omega
    by_cases h2 : (vn : Int) ≤ Z
    · obtain ⟨hs, rfl, hh, hk⟩ := hy (by omega)
      have hZ2 := szBl_range hs (Z - hs.length) (by omega)
      refine ⟨Z, szBl hs (Z - hs.length), hSZ, fun _ u hu => szBitsS_in va vc hs Z u (hh.later hu) hz0 hz1 h2, fun _ hz2 => ⟨by omega, ?_⟩⟩
      obtain ⟨xs, hxl, hxs⟩ := RdW_of hh hk (L := Z - hs.length) (by omega) (by omega) hz2
      have hsum := szBl_sum hs (Z - hs.length) (by omega) hz2
      have hle := lens_of hh hxs hxl
      exact ⟨ds, xs, rfl, hxl, hr, hxs, by rw [hle]; omega⟩
    · exact ⟨Z, -1, hSZ, fun _ u hu => (szBitsS_out va vn vc Z u hz0 hz1 hvn h2).mono (fun e w' hh => ⟨hh.1, by rw [hh.2]; exact Below.refl _ _⟩), fun _ h' => by omega⟩
  · exact ⟨-1, 0, fun u hu => (szDeclS_out a n c 1048576 u (by omega) (by omega) hn (by omega)).mono (fun e w' hh => ⟨hh.1, by rw [hh.2]; exact Below.refl _ _⟩), fun h' => by omega, fun h' => by omega⟩

theorem sizes_tm (b : Option Addr) (n2 c2 : Nat) (L : Int) (w : World) (hL : 0 ≤ L) (hL2 : L ≤ 1048576) (hn2 : n2 ≤ 9223372036854775807)
    (hy : n2 ≤ 1048576 → ∃ hs : List Th, hs.length = n2 ∧ RdTh w b hs ∧ ∀ h ∈ hs, NodeOf w h) :
    ∃ Z : Int, (∀ u, Below w.heap.size w u → Calls Tryz.prog 65 #[.agg #[.slice b n2 c2], .int .i64 L] u fun e w' => e = .returned (.int .i64 Z) ∧ Below u.heap.size u w') ∧ (0 ≤ Z → ∃ xs : List Tg, xs.length = n2 ∧ RdT w b xs) := by
  by_cases h2 : (n2 : Int) ≤ L
  · obtain ⟨hs, rfl, hh, hk⟩ := hy (by omega)
    have hZ2 := szTl_range hs (L - hs.length) (by omega)
    refine ⟨szTl hs (L - hs.length), fun u hu => szTerm_in b c2 hs L u (hh.later hu) hL hL2 h2 _ rfl, fun hz2 => ?_⟩
    obtain ⟨xs, hxl, hxs⟩ := RdT_of hh hk (L := L - hs.length) (by omega) (by omega) hz2
    exact ⟨xs, hxl, hxs⟩
  · exact ⟨-1, fun u hu => szTerm_out b n2 c2 L u hL hL2 hn2 h2, fun h' => by omega⟩

end Go.Proofs.YtllojnloldhghaaGreatDoor
