/- The law FnExactStateOf returns true, whatever it is handed. -/
import Derived.Test.YtpfmnfakaeebdaaJZ
import Derived.Test.YtpfmnfakaeebdaaJY
namespace Go.Proofs.Ytpfmnfakaeebdaa
set_option linter.unusedVariables false
set_option linter.unusedSimpArgs false
open Go.RowKit

theorem len_of_pc {xs ys : List Pg} {n : Nat} (h : xs.map Pg.ct = ys.map Pg.ct) (hn : ys.length = n) : xs.length = n := by
  rw [← hn]; simpa using congrArg List.length h

set_option maxHeartbeats 1000000 in
set_option maxRecDepth 100000 in
theorem law_yes_FnExactStateOf (b : Option Addr) (c n : Nat) (xs : List Pg) (x : Int) (w : World) (hx : RdP w b xs) (hn : xs.length = n) (Z : Int) (hZ : 0 ≤ Z)
    (HSZ : Hid (∀ u, Below w.heap.size w u → Calls Try.prog 6 #[.slice b n c, .int .i64 1048576] u fun e w' => e = .returned (.int .i64 Z) ∧ Below u.heap.size u w')) :
    Calls Try.prog 3 #[.slice b n c, .int .i64 x] w fun e w' => e = .returned (.bool true) ∧ Below w.heap.size w w' := by
  have HTB : Hid (∀ u, Below w.heap.size w u → Calls Try.prog 8 #[.slice b n c] u fun e w' => ∃ (g : Nat) (ms : List Pg), e = .returned (.slice (some ⟨g, 0, none⟩) n n) ∧ ms.map Pg.ct = xs.map Pg.ct ∧ RdP w' (some ⟨g, 0, none⟩) ms ∧ Below u.heap.size u w') := fun u hu => by
    subst hn
    refine (toSplitS_any b c xs u (hx.later hu)).mono ?_
    rintro e w' ⟨ms, rfl, h1, h2, h3⟩
    exact ⟨_, ms, rfl, h1, h2, h3⟩
  have HN := kide hn
  clear hx hn
  go_enter Try.func3, Try.ntmps3
  go_wp2_with fail
  refine Calls.mono (HSZ.out _ (Below.refl _ _)) ?_
  rintro e w1 ⟨rfl, hb1⟩
  have B1 := kide hb1
  clear hb1
  go_wp2_with fail
  refine Calls.mono (HTB.out w1 B1.out) ?_
  rintro e w2 ⟨g2, m2, rfl, hm2, r2, hb2⟩
  have B2 := kide (B1.out.trans (hb2.mono B1.out.size))
  have HSP := kide (specState_any (some ⟨g2, 0, none⟩) n n m2 x w2 r2 (len_of_pc hm2 HN.out))
  rw [hm2] at HSP
  clear hb2 hm2 r2
  go_wp2_with fail
  refine Calls.mono HSP.out ?_
  rintro e w3 ⟨rfl, hb3⟩
  have B3 := kide (B2.out.trans (hb3.mono B2.out.size))
  clear hb3
  go_wp2_with fail
  refine Calls.mono (HTB.out w3 B3.out) ?_
  rintro e w4 ⟨g4, m4, rfl, hm4, r4, hb4⟩
  have B4 := kide (B3.out.trans (hb4.mono B3.out.size))
  have HIM := kide (implState_any (some ⟨g4, 0, none⟩) n n m4 x w4 r4 (len_of_pc hm4 HN.out))
  rw [hm4] at HIM
  have M4 := kide hm4
  have R4 := kide r4
  clear hb4 hm4 r4
  go_wp2_with fail
  refine Calls.mono HIM.out ?_
  rintro e w5 ⟨rfl, hb5⟩
  have B5 := kide (B4.out.trans (hb5.mono B4.out.size))
  have R5 := kide (R4.out.later hb5)
  clear hb5 HIM HSP
  generalize stR x (xs.map Pg.ct) = V at *
  have hVV : (V != V) = false := by simp
  go_wp2_with fail
  refine Calls.mono (HTB.out w5 B5.out) ?_
  rintro e w6 ⟨g6, m6, rfl, hm6, r6, hb6⟩
  have B6 := kide (B5.out.trans (hb6.mono B5.out.size))
  have R6 := kide (R5.out.later hb6)
  have Q6 := kide r6
  have M6 := kide hm6
  clear hb6 hm6 r6
  go_wp2_with fail
  refine Calls.mono (eqSplitS_same (some ⟨g4, 0, none⟩) (some ⟨g6, 0, none⟩) n n m4 m6 w6 R6.out Q6.out (M4.out.trans M6.out.symm) n (len_of_pc M4.out HN.out) (len_of_pc M6.out HN.out)) ?_
  rintro e w7 ⟨rfl, hb7⟩
  go_wp2_with fail
  go_ret
  exact ⟨rfl, B6.out.trans (hb7.mono B6.out.size)⟩

theorem law_no_FnExactStateOf (b : Option Addr) (c n : Nat) (x : Int) (w : World) (Z : Int) (hZ : Z < 0)
    (HSZ : Hid (∀ u, Below w.heap.size w u → Calls Try.prog 6 #[.slice b n c, .int .i64 1048576] u fun e w' => e = .returned (.int .i64 Z) ∧ Below u.heap.size u w')) :
    Calls Try.prog 3 #[.slice b n c, .int .i64 x] w fun e w' => e = .returned (.bool true) ∧ Below w.heap.size w w' := by
  go_enter Try.func3, Try.ntmps3
  go_wp2_with fail
  refine Calls.mono (HSZ.out _ (Below.refl _ _)) ?_
  rintro e w1 ⟨rfl, hb1⟩
  go_wp2_with fail
  go_ret
  exact ⟨rfl, hb1⟩

theorem walk_FnExactStateOf (b : Option Addr) (n c : Nat) (hn : n ≤ 9223372036854775807) (x : Int) (hxw : (Lit.int .i64 x).wf = true) (w : World)
    (hy : n ≤ 1048576 → ∃ hs : List Ph, hs.length = n ∧ RdPh w b hs ∧ ∀ h ∈ hs, SplitOf w h) :
    Calls Try.prog 3 #[.slice b n c, .int .i64 x] w fun e w' => e = .returned (.bool true) ∧ Below w.heap.size w w' := by
  by_cases h : (n : Int) ≤ 1048576
  · obtain ⟨hs, rfl, hh, hk⟩ := hy (by omega)
    have hr := szPl_range hs (1048576 - hs.length) (by omega)
    have HSZ := kide (fun u (hu : Below w.heap.size w u) => szSplitS_in b c hs 1048576 u (hh.later hu) (by omega) (by omega) h)
    by_cases hz : szPl hs (1048576 - hs.length) < 0
    · exact law_no_FnExactStateOf b c _ x w _ hz HSZ
    · obtain ⟨xs, hxl, hxs⟩ := RdP_of hh hk (L := 1048576 - hs.length) (by omega) (by omega) (by omega)
      exact law_yes_FnExactStateOf b c _ xs x w hxs hxl _ (by omega) HSZ
  · exact law_no_FnExactStateOf b c n x w (-1) (by omega) (fun u hu => (szSplitS_out b n c 1048576 u (by omega) (by omega) hn h).mono (fun e w' hh => ⟨hh.1, by rw [hh.2]; exact Below.refl _ _⟩))

end Go.Proofs.Ytpfmnfakaeebdaa
