/- For the law of Weaken: words marked, how long the arguments are, the answer's bounds. -/
import Derived.Test.YtllojnloldhghaaGreatDoorWKG
import Derived.Test.YtllojnloldhghaaGreatDoorWKC
import Derived.Test.YtllojnloldhghaaGreatDoorEF
import Derived.Test.YtllojnloldhghaaGreatDoorZOO
namespace Go.Proofs.YtllojnloldhghaaGreatDoor
set_option linter.unusedVariables false
set_option linter.unusedSimpArgs false
open Go.RowKit

set_option maxHeartbeats 1000000 in
set_option maxRecDepth 100000 in
theorem markBitsS_big (g c n k B1 B2 : Nat) (xs : List Bw) (w : World) (f : Nat → Value) (hr : w.rowIs g 82 (n * 2) f) (hf : BwF f xs) (hx : ∀ x ∈ xs, WrB w B1 B2 x ∧ x.ws.length ≤ 1048576) (hn : xs.length = n) (hn2 : n ≤ 1048576) (hk : k + n + sumB xs ≤ 9000000000000000000) (hg1 : B1 ≤ g) (hg2 : g < B2) :
    Calls Tryz.prog 21 #[.slice (some ⟨g, 0, none⟩) n c, .int .i64 (k : Int)] w fun e w' => e = .returned (.int .i64 ((k + n + sumB xs : Nat) : Int)) ∧ Out B1 B2 w w' := by
  have HN := kide hn
  have HX0 := kide hx
  have hgl : g < w.heap.size := by obtain ⟨cc, hh, -⟩ := hr; exact lt_of_block hh
  go_enter Tryz.func21, Tryz.ntmps21
  go_wp2_with fail
  go_loopw [1, 5] (fun q i wr => ∃ (j : Nat) (f' : Nat → Value), j ≤ n ∧ i = .int .i64 (j : Int) ∧ q = .int .i64 ((k + j + sumB (xs.take j) : Nat) : Int) ∧ wr.rowIs g 82 (n * 2) f' ∧ BwF f' xs ∧ (∀ x ∈ xs, WrB wr B1 B2 x) ∧ Out B1 B2 w wr) (fun _ i _ => n - (intOf i).toNat)
  case atStart => exact ⟨0, f, Nat.zero_le _, rfl, by simp [sumB], hr, hf, fun x hx' => (hx x hx').1, Out.refl _ _ _⟩
  case round =>
    obtain ⟨j, f', hj, rfl, rfl, hrow, hfe, hwr, hout⟩ := hrel
    clear hr hf hx
    have HO := kide hout
    by_cases hlt : j < n
    · obtain ⟨x, hx⟩ : ∃ x, xs[j]? = some x := ⟨xs[j]'(by rw [HN.out]; exact hlt), List.getElem?_eq_getElem _⟩
      obtain ⟨⟨k0, h0⟩, h1⟩ := hfe j x hx
      have hmem := List.mem_of_getElem? hx
      obtain ⟨gx, zs, e, b1, b2, ow, lw⟩ := hwr x hmem
      have hlx := (HX0.out x hmem).2
      have q0 := hrow.cell (i := j * 2) (by omega)
      have q1 := hrow.cell (i := j * 2 + 1) (by omega)
      have r0 := hrow.frozen (j * 2)
      rw [h0] at q0
      rw [h1, e] at q1
      have HTK := kide (sumB_take hx)
      have hle := sumB_le xs (j + 1)
      rw [HTK.out] at hle
      generalize hK : k + j + sumB (xs.take j) = K at *
      have HK := kide hK
      have hKb : K + 1 + x.ws.length ≤ 9000000000000000000 := by omega
      have hKc : K ≤ 8999999999999999999 := by omega
      have hrow2 := hrow.set (j * 2) (.int .i64 (K : Int))
      have hne : gx ≠ g := fun hh => by
        subst hh
        obtain ⟨cc, hc1, -⟩ := hrow
        unfold Own at ow
        rw [hc1] at ow
        cases ow
      have ow2 : Own (wr.setCell ⟨g, j * 2, none⟩ (.int .i64 (K : Int))) gx zs := ow.other (by simpa using hne) _
      have hwr2 := kide (fun y hy => (hwr y hy).set hrow (j * 2) (.int .i64 (K : Int)))
      have HOW := kide ow2
      have HROW := kide hrow2
      have HFE := kide hfe
      have HG1 : Hid (Out B1 B2 w (wr.setCell ⟨g, j * 2, none⟩ (.int .i64 (K : Int)))) := HO.out.trans (Out.grown (grow_set (w := wr) ⟨rfl, rfl, rfl, Nat.le_refl _, fun _ _ _ => rfl⟩ (j * 2) _) hg1 hg2)
      have HCM := kide (markUint64S_big gx x.c x.ws.length (K + 1) zs (wr.setCell ⟨g, j * 2, none⟩ (.int .i64 (K : Int))) ow2 lw hlx (by omega))
      have i0 : (j : Int) < (n : Int) := by omega
      have HB12 : Hid (B1 ≤ gx ∧ gx < B2) := ⟨b1, b2⟩
      have HLW := kide lw
      have HNE : Hid (g ≠ gx) := fun hh => hne hh.symm
      simp only [Int.natCast_add, Int.natCast_one] at HCM
      have q1' : (wr.setCell ⟨g, j * 2, none⟩ (.int .i64 (K : Int))).cell? ⟨g, j * 2 + 1, none⟩ = some (.slice (some ⟨gx, 0, none⟩) x.ws.length x.c) := by
        have := hrow2.cell (i := j * 2 + 1) (by omega)
        rw [this]
        simp [h1, e]
      clear hrow hfe hwr hout hx h0 h1 hmem ow ow2 lw hK hrow2 hne b1 b2
      go_wp2_with fail
      refine Calls.mono HCM.out ?_
      rintro e w1 ⟨rfl, ⟨zs', ow', lz'⟩, hg⟩
      have HO1 := kide (HG1.out.trans (Out.grown hg HB12.out.1 HB12.out.2))
      have HR1 := kide (World.rowIs.of_block HROW.out (hg.block g (by simpa using Nat.lt_of_lt_of_le hgl HO.out.2.2.2.1) (by simpa using HNE.out)))
      have HW1 := kide (fun y hy => (hwr2.out y hy).words hg HOW.out ow' (by rw [lz', HLW.out]))
      clear ow' lz' hg HCM q0 q1 q1' r0
      go_wp2_with fail
      go_roundw
      case rel =>
        refine ⟨j + 1, _, by omega, by go_num, ?_, HR1.out, ?_, HW1.out, HO1.out⟩
        · rw [HTK.out]
          congr 1
          have := HK.out
          omega
        · intro i y hy
          obtain ⟨⟨k1, a1⟩, a2⟩ := HFE.out i y hy
          by_cases hij : i = j
          · subst hij
            exact ⟨⟨K, by simp⟩, by simpa using a2⟩
          · refine ⟨⟨k1, ?_⟩, ?_⟩
            · simp only []
              rw [if_neg (by omega)]; exact a1
            · simp only []
              rw [if_neg (by omega)]; exact a2
      case measure => simp [intOf]; omega
    · have e : j = n := by omega
      subst e
      have hfin : Hid (sumB (xs.take j) = sumB xs) := by show _ = _; rw [List.take_of_length_le (by rw [HN.out]; exact Nat.le_refl _)]
      rw [hfin.out]
      clear hrow hfe hwr hout hfin
      go_wp2_with fail
      go_ret
      exact ⟨rfl, HO.out⟩

theorem wk_bounds (ds : List Dc) (vs : List Wd) (xs : List Lg) {w : World} {b : Option Addr} (hs : RdL w b xs) : (wkR ds vs (xs.map Lg.ct)).1.length ≤ 1048576 ∧ ∀ y ∈ (wkR ds vs (xs.map Lg.ct)).1, in64 y := by
  unfold wkR
  split
  · refine ⟨Nat.le_trans (wkL_len _ _) (by rw [List.length_map]; exact hs.1), fun y hy => ?_⟩
    simp only [← wk_ids] at hy
    obtain ⟨x, hx, rfl⟩ := List.mem_map.1 hy
    obtain ⟨i, hi⟩ := List.getElem?_of_mem (List.mem_filter.1 hx).1
    obtain ⟨b3, o3, -, -, -, -, r⟩ := hs.at hi
    exact r
  · simp

theorem lits_le {w : World} {b : Option Addr} {xs : List Lg} (hs : RdL w b xs) : ∀ x ∈ xs, x.ss.length ≤ 1048576 ∧ x.ts.length ≤ 1048576 := fun x hx => by
  obtain ⟨i, hi⟩ := List.getElem?_of_mem hx
  obtain ⟨b3, o3, -, -, r1, r2, -⟩ := hs.at hi
  exact ⟨r1.1, r2.1⟩

theorem sizes_dlv (a b va : Option Addr) (n0 c n c2 vn vc : Nat) (w : World) (hn0 : n0 ≤ 9223372036854775807) (hn : n ≤ 9223372036854775807) (hvn : vn ≤ 9223372036854775807)
    (hx : n0 ≤ 1048576 → ∃ ds : List Dc, ds.length = n0 ∧ RdD w a ds) (hl : n ≤ 1048576 → ∃ hs : List Lh, hs.length = n ∧ RdLh w b hs ∧ ∀ h ∈ hs, LitOf w h) (hy : vn ≤ 1048576 → ∃ hs : List Bh, hs.length = vn ∧ RdBh w va hs ∧ ∀ h ∈ hs, WordsOf w h) :
    ∃ Z Z2 Z3 : Int, (∀ u, Below w.heap.size w u → Calls Tryz.prog 7 #[.slice a n0 c, .int .i64 1048576] u fun e w' => e = .returned (.int .i64 Z) ∧ Below u.heap.size u w') ∧
      (0 ≤ Z → ∀ u, Below w.heap.size w u → Calls Tryz.prog 8 #[.slice b n c2, .int .i64 Z] u fun e w' => e = .returned (.int .i64 Z2) ∧ Below u.heap.size u w') ∧
      (0 ≤ Z → 0 ≤ Z2 → ∀ u, Below w.heap.size w u → Calls Tryz.prog 9 #[.slice va vn vc, .int .i64 Z2] u fun e w' => e = .returned (.int .i64 Z3) ∧ Below u.heap.size u w') ∧
      (0 ≤ Z → 0 ≤ Z2 → 0 ≤ Z3 → ∃ (ds : List Dc) (xs : List Lg) (vs : List Bw), ds.length = n0 ∧ xs.length = n ∧ vs.length = vn ∧ RdD w a ds ∧ RdL w b xs ∧ RdW w va vs ∧ vn + sumB vs ≤ 1048576) := by
  by_cases h : n0 ≤ 1048576
  · obtain ⟨ds, rfl, hr⟩ := hx h
    have hZ := szD_range ds (1048576 - ds.length) (by omega)
    have hSZ := fun u (hu : Below w.heap.size w u) => szDeclS_in a c ds 1048576 u (hr.later hu) (by omega) (by omega) (by omega)
    generalize szD ds (1048576 - ds.length) = Z at *
    by_cases hz : Z < 0
    · exact ⟨Z, 0, 0, hSZ, fun h' => by omega, fun h' => by omega, fun h' => by omega⟩
    have hz0 : 0 ≤ Z := by omega
    have hz1 : Z ≤ 1048576 := by omega
    by_cases h1 : (n : Int) ≤ Z
    · obtain ⟨ls, rfl, lh, lk⟩ := hl (by omega)
      have hZ2 := szLl_range ls (Z - ls.length) (by omega)
      have hSL := fun u (hu : Below w.heap.size w u) => szLiteralS_in b c2 ls Z u (lh.later hu) hz0 hz1 h1
      have hRL := fun hz2 => RdL_of lh lk (L := Z - ls.length) (by omega) (by omega) hz2
      generalize szLl ls (Z - ls.length) = Z2 at *
      by_cases hz2 : Z2 < 0
      · exact ⟨Z, Z2, 0, hSZ, fun _ => hSL, fun _ h' => by omega, fun _ h' => by omega⟩
      have hz20 : 0 ≤ Z2 := by omega
      have hz21 : Z2 ≤ 1048576 := by omega
      by_cases h2 : (vn : Int) ≤ Z2
      · obtain ⟨hs, rfl, hh, hk⟩ := hy (by omega)
        have hZ3 := szBl_range hs (Z2 - hs.length) (by omega)
        refine ⟨Z, Z2, szBl hs (Z2 - hs.length), hSZ, fun _ => hSL, fun _ _ u hu => szBitsS_in va vc hs Z2 u (hh.later hu) hz20 hz21 h2, fun _ _ hz3 => ?_⟩
        obtain ⟨xs, hxl, hxs⟩ := RdW_of hh hk (L := Z2 - hs.length) (by omega) (by omega) hz3
        obtain ⟨ys, hyl, hys⟩ := hRL hz20
        have hsum := szBl_sum hs (Z2 - hs.length) (by omega) hz3
        have hle := lens_of hh hxs hxl
        exact ⟨ds, ys, xs, rfl, hyl, hxl, hr, hys, hxs, by unfold sumB; rw [hle]; omega⟩
      · exact ⟨Z, Z2, -1, hSZ, fun _ => hSL, fun _ _ u hu => (szBitsS_out va vn vc Z2 u hz20 hz21 hvn h2).mono (fun e w' hh => ⟨hh.1, by rw [hh.2]; exact Below.refl _ _⟩), fun _ _ h' => by omega⟩
    · exact ⟨Z, -1, 0, hSZ, fun _ u hu => (szLiteralS_out b n c2 Z u hz0 hz1 hn h1).mono (fun e w' hh => ⟨hh.1, by rw [hh.2]; exact Below.refl _ _⟩), fun _ h' => by omega, fun _ h' => by omega⟩
  · exact ⟨-1, 0, 0, fun u hu => (szDeclS_out a n0 c 1048576 u (by omega) (by omega) hn0 (by omega)).mono (fun e w' hh => ⟨hh.1, by rw [hh.2]; exact Below.refl _ _⟩), fun h' => by omega, fun h' => by omega, fun h' => by omega⟩

end Go.Proofs.YtllojnloldhghaaGreatDoor
