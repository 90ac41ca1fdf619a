/- The law FnExactLiteralsOk returns true, whatever it is handed. -/
import Derived.Test.YthgamfklfjjdoaaDoorIG
import Derived.Test.YthgamfklfjjdoaaDoorID
namespace Go.Proofs.YthgamfklfjjdoaaDoor
set_option linter.unusedVariables false
set_option linter.unusedSimpArgs false
open Go.RowKit

set_option maxHeartbeats 1000000 in
set_option maxRecDepth 100000 in
theorem law_yes_FnExactLiteralsOk (a b : Option Addr) (c c2 n : Nat) (ds : List Dc) (xs : List Lg) (w : World) (hr : RdD w a ds) (hs : RdL w b xs) (hn : xs.length = n) (hG : GF w) (Z Z2 : Int)
    (hz : 0 ≤ Z) (hz2 : 0 ≤ Z2)
    (HSZ : Hid (∀ u, Below w.heap.size w u → Calls Tryd.prog 10 #[.slice a ds.length c, .int .i64 1048576] u fun e w' => e = .returned (.int .i64 Z) ∧ Below u.heap.size u w'))
    (HSB : Hid (∀ u, Below w.heap.size w u → Calls Tryd.prog 11 #[.slice b n c2, .int .i64 Z] u fun e w' => e = .returned (.int .i64 Z2) ∧ Below u.heap.size u w')) :
    Calls Tryd.prog 4 #[.slice a ds.length c, .slice b n c2] w fun e w' => e = .returned (.bool true) ∧ Below w.heap.size w w' := by
  have HGF := kide (fun u (hu : Below w.heap.size w u) => hG.later hu)
  have HR := kide hr
  have HS := kide hs
  have HN := kide hn
  have HTB : Hid (∀ u, Below w.heap.size w u → Calls Tryd.prog 14 #[.slice b n c2] u fun e w' => ∃ ms : List Lg, e = .returned (.slice (some ⟨u.heap.size, 0, none⟩) n n) ∧ ms.map Lg.ct = xs.map Lg.ct ∧ RdL w' (some ⟨u.heap.size, 0, none⟩) ms ∧ Below u.heap.size u w') := fun u hu => by
    have := toLiteralS_any b c2 xs u (HS.out.later hu)
    rwa [hn] at this
  clear hr hs hn hG
  go_enter Tryd.func4, Tryd.ntmps4
  go_wp2_with fail
  refine Calls.mono (HSZ.out w (Below.refl _ _)) ?_
  rintro e w1 ⟨rfl, hb1⟩
  have B1 := kide hb1
  clear hb1
  go_wp2_with fail
  refine Calls.mono (HSB.out w1 B1.out) ?_
  rintro e w2 ⟨rfl, hb2⟩
  have B2 := kide (B1.out.trans (hb2.mono B1.out.size))
  clear hb2
  go_wp2_with fail
  refine Calls.mono (toDeclS_any a c ds w2 (HR.out.later B2.out)) ?_
  rintro e w3 ⟨rfl, r3, hb3⟩
  have B3 := kide (B2.out.trans (hb3.mono B2.out.size))
  have R3 := kide r3
  clear hb3 r3
  go_wp2_with fail
  refine Calls.mono (HTB.out w3 B3.out) ?_
  rintro e w4 ⟨m4, rfl, hm4, r4, hb4⟩
  have B4 := kide (B3.out.trans (hb4.mono B3.out.size))
  have R4 := kide (R3.out.later hb4)
  have S4 := kide r4
  have M4 := kide hm4
  clear hb4 r4 hm4
  have hl4 : m4.length = n := by have := congrArg List.length M4.out; simp at this; rw [this]; exact HN.out
  have HSP := kide (specLits_any _ _ ds.length n n ds m4 w4 R4.out S4.out hl4)
  rw [M4.out] at HSP
  clear hl4
  go_wp2_with fail
  refine Calls.mono HSP.out ?_
  rintro e w5 ⟨rfl, hb5⟩
  have B5 := kide (B4.out.trans (hb5.mono B4.out.size))
  clear hb5 HSP
  go_wp2_with fail
  refine Calls.mono (toDeclS_any a c ds w5 (HR.out.later B5.out)) ?_
  rintro e w6 ⟨rfl, r6, hb6⟩
  have B6 := kide (B5.out.trans (hb6.mono B5.out.size))
  have R6 := kide r6
  clear hb6 r6
  go_wp2_with fail
  refine Calls.mono (HTB.out w6 B6.out) ?_
  rintro e w7 ⟨m7, rfl, hm7, r7, hb7⟩
  have B7 := kide (B6.out.trans (hb7.mono B6.out.size))
  have R7 := kide (R6.out.later hb7)
  have S7 := kide r7
  have M7 := kide hm7
  clear hb7 r7 hm7
  have hl7 : m7.length = n := by have := congrArg List.length M7.out; simp at this; rw [this]; exact HN.out
  have HL7 := kide hl7
  have HIM := kide (implLits_any _ _ ds.length n n ds m7 w7 R7.out S7.out hl7 (HGF.out w7 B7.out))
  rw [M7.out] at HIM
  clear hl7
  go_wp2_with fail
  refine Calls.mono HIM.out ?_
  rintro e w8 ⟨rfl, hb8⟩
  have B8 := kide (B7.out.trans (hb8.mono B7.out.size))
  have R8 := kide (R7.out.later hb8)
  have S8 := kide (S7.out.later hb8)
  clear hb8 HIM
  generalize litR ds (xs.map Lg.ct) = V at *
  have hbb : (V != V) = false := by simp
  go_wp2_with fail
  refine Calls.mono (toDeclS_any a c ds w8 (HR.out.later B8.out)) ?_
  rintro e w9 ⟨rfl, r9, hb9⟩
  have B9 := kide (B8.out.trans (hb9.mono B8.out.size))
  have R9 := kide (R8.out.later hb9)
  have S9 := kide (S8.out.later hb9)
  have T9 := kide r9
  clear hb9 r9 hbb
  go_wp2_with fail
  refine Calls.mono (eqDeclS_same _ _ ds.length ds.length ds w9 R9.out T9.out) ?_
  rintro e w10 ⟨rfl, hb10⟩
  have B10 := kide (B9.out.trans (hb10.mono B9.out.size))
  have S10 := kide (S9.out.later hb10)
  clear hb10
  go_wp2_with fail
  refine Calls.mono (HTB.out w10 B10.out) ?_
  rintro e w11 ⟨m11, rfl, hm11, r11, hb11⟩
  have B11 := kide (B10.out.trans (hb11.mono B10.out.size))
  have S11 := kide (S10.out.later hb11)
  have M11 := kide hm11
  have T11 := kide r11
  clear hb11 r11 hm11
  have hl11 : m11.length = n := by have := congrArg List.length M11.out; simp at this; rw [this]; exact HN.out
  have HEQ := kide (eqLiteralS_same _ _ n n m7 m11 w11 S11.out T11.out (M7.out.trans M11.out.symm) n HL7.out hl11)
  clear hl11
  go_wp2_with fail
  refine Calls.mono HEQ.out ?_
  rintro e w12 ⟨rfl, hb12⟩
  have B12 := kide (B11.out.trans (hb12.mono B11.out.size))
  clear hb12
  go_wp2_with fail
  go_ret
  exact ⟨rfl, B12.out⟩

theorem law_no_FnExactLiteralsOk (a b : Option Addr) (n c n2 c2 : Nat) (w : World) (Z Z2 : Int) (h : Z < 0 ∨ 0 ≤ Z ∧ Z2 < 0)
    (HSZ : Hid (∀ u, Below w.heap.size w u → Calls Tryd.prog 10 #[.slice a n c, .int .i64 1048576] u fun e w' => e = .returned (.int .i64 Z) ∧ Below u.heap.size u w'))
    (HSB : Hid (0 ≤ Z → ∀ u, Below w.heap.size w u → Calls Tryd.prog 11 #[.slice b n2 c2, .int .i64 Z] u fun e w' => e = .returned (.int .i64 Z2) ∧ Below u.heap.size u w')) :
    Calls Tryd.prog 4 #[.slice a n c, .slice b n2 c2] w fun e w' => e = .returned (.bool true) ∧ Below w.heap.size w w' := by
  rcases h with h | ⟨h, h2⟩
  · go_enter Tryd.func4, Tryd.ntmps4
    go_wp2_with fail
    refine Calls.mono (HSZ.out w (Below.refl _ _)) ?_
    rintro e w1 ⟨rfl, hb1⟩
    go_wp2_with fail
    go_ret
    exact ⟨rfl, hb1⟩
  · go_enter Tryd.func4, Tryd.ntmps4
    go_wp2_with fail
    refine Calls.mono (HSZ.out w (Below.refl _ _)) ?_
    rintro e w1 ⟨rfl, hb1⟩
    go_wp2_with fail
    refine Calls.mono (HSB.out h w1 hb1) ?_
    rintro e w2 ⟨rfl, hb2⟩
    go_wp2_with fail
    go_ret
    exact ⟨rfl, hb1.trans (hb2.mono hb1.size)⟩

theorem walk_FnExactLiteralsOk (a : Option Addr) (n c : Nat) (hn : n ≤ 9223372036854775807) (b : Option Addr) (n2 c2 : Nat) (hn2 : n2 ≤ 9223372036854775807) (w : World) (hG : GF w)
    (hx : n ≤ 1048576 → ∃ ds : List Dc, ds.length = n ∧ RdD w a ds) (hy : n2 ≤ 1048576 → ∃ hs : List Lh, hs.length = n2 ∧ RdLh w b hs ∧ ∀ h ∈ hs, LitOf w h) :
    Calls Tryd.prog 4 #[.slice a n c, .slice b n2 c2] w fun e w' => e = .returned (.bool true) ∧ Below w.heap.size w w' := by
  obtain ⟨Z, Z2, h1, h2, h3⟩ := sizes_lits a b n c n2 c2 w hn hn2 hx hy
  by_cases hz : Z < 0
  · exact law_no_FnExactLiteralsOk a b n c n2 c2 w Z Z2 (.inl hz) h1 h2
  by_cases hz2 : Z2 < 0
  · exact law_no_FnExactLiteralsOk a b n c n2 c2 w Z Z2 (.inr ⟨by omega, hz2⟩) h1 h2
  obtain ⟨ds, xs, rfl, hxl, hr, hs⟩ := h3 (by omega) (by omega)
  exact law_yes_FnExactLiteralsOk a b c c2 n2 ds xs w hr hs hxl hG Z Z2 (by omega) (by omega) h1 (h2 (by omega))

end Go.Proofs.YthgamfklfjjdoaaDoor
