/- The law FnExactDeclsOk returns true, whatever it is handed. -/
import Derived.Test.YtoghbdkbodmmpaaKD
import Derived.Test.YtoghbdkbodmmpaaKF
namespace Go.Proofs.Ytoghbdkbodmmpaa
set_option linter.unusedVariables false
set_option linter.unusedSimpArgs false
open Go.RowKit

set_option maxHeartbeats 1000000 in
set_option maxRecDepth 100000 in
theorem law_yes_FnExactDeclsOk (a : Option Addr) (c : Nat) (ds : List Dc) (w : World) (hr : RdD w a ds) :
    Calls Try.prog 3 #[.slice a ds.length c] w fun e w' => e = .returned (.bool true) ∧ Below w.heap.size w w' := by
  have hl := hr.1
  have HSZ := kide (szDeclS_in a c ds 1048576 w hr (by omega) (by omega) (by omega))
  have hZ := szD_range ds (1048576 - ds.length) (by omega)
  generalize szD ds (1048576 - ds.length) = Z at *
  have HR := kide hr
  clear hr
  by_cases hz : Z < 0
  · clear hZ
    go_enter Try.func3, Try.ntmps3
    go_wp2_with fail
    refine Calls.mono HSZ.out ?_
    rintro e w1 ⟨rfl, hb1⟩
    go_wp2_with fail
    go_ret
    exact ⟨rfl, hb1⟩
  clear hZ
  go_enter Try.func3, Try.ntmps3
  go_wp2_with fail
  refine Calls.mono HSZ.out ?_
  rintro e w1 ⟨rfl, hb1⟩
  have B1 := kide hb1
  clear hb1
  go_wp2_with fail
  refine Calls.mono (toDeclS_any a c ds w1 (HR.out.later B1.out)) ?_
  rintro e w2 ⟨rfl, r2, hb2⟩
  have B2 := kide (B1.out.trans (hb2.mono B1.out.size))
  have R2 := kide r2
  clear hb2 r2
  go_wp2_with fail
  refine Calls.mono (specDecls_any _ ds.length ds w2 R2.out) ?_
  rintro e w3 ⟨rfl, hb3⟩
  have B3 := kide (B2.out.trans (hb3.mono B2.out.size))
  clear hb3
  go_wp2_with fail
  refine Calls.mono (toDeclS_any a c ds w3 (HR.out.later B3.out)) ?_
  rintro e w4 ⟨rfl, r4, hb4⟩
  have B4 := kide (B3.out.trans (hb4.mono B3.out.size))
  have R4 := kide r4
  clear hb4 r4
  go_wp2_with fail
  refine Calls.mono (implDecls_any _ ds.length ds w4 R4.out) ?_
  rintro e w5 ⟨rfl, hb5⟩
  have B5 := kide (B4.out.trans (hb5.mono B4.out.size))
  have R5 := kide (R4.out.later hb5)
  clear hb5
  generalize dclR ds = V at *
  have hbb : (V != V) = false := by simp
  go_wp2_with fail
  refine Calls.mono (toDeclS_any a c ds w5 (HR.out.later B5.out)) ?_
  rintro e w6 ⟨rfl, r6, hb6⟩
  have B6 := kide (B5.out.trans (hb6.mono B5.out.size))
  have R6 := kide (R5.out.later hb6)
  have S6 := kide r6
  clear hb6 r6
  go_wp2_with fail
  refine Calls.mono (eqDeclS_same _ _ ds.length ds.length ds w6 R6.out S6.out) ?_
  rintro e w7 ⟨rfl, hb7⟩
  have B7 := kide (B6.out.trans (hb7.mono B6.out.size))
  clear hb7
  go_wp2_with fail
  go_ret
  exact ⟨rfl, B7.out⟩

theorem law_big_FnExactDeclsOk (a : Option Addr) (n c : Nat) (w : World) (hn : n ≤ 9223372036854775807) (h : ¬ n ≤ 1048576) :
    Calls Try.prog 3 #[.slice a n c] w fun e w' => e = .returned (.bool true) ∧ Below w.heap.size w w' := by
  have HSZ := kide (szDeclS_out a n c 1048576 w (by omega) (by omega) hn (by omega))
  go_enter Try.func3, Try.ntmps3
  go_wp2_with fail
  refine Calls.mono HSZ.out ?_
  rintro e w1 ⟨rfl, rfl⟩
  go_wp2_with fail
  go_ret
  exact ⟨rfl, Below.refl _ _⟩

theorem walk_FnExactDeclsOk (a : Option Addr) (n c : Nat) (hn : n ≤ 9223372036854775807) (w : World) (hx : n ≤ 1048576 → ∃ ds : List Dc, ds.length = n ∧ RdD w a ds) :
    Calls Try.prog 3 #[.slice a n c] w fun e w' => e = .returned (.bool true) ∧ Below w.heap.size w w' := by
  by_cases h : n ≤ 1048576
  · obtain ⟨ds, rfl, hr⟩ := hx h
    exact law_yes_FnExactDeclsOk a c ds w hr
  · exact law_big_FnExactDeclsOk a n c w hn h

end Go.Proofs.Ytoghbdkbodmmpaa
