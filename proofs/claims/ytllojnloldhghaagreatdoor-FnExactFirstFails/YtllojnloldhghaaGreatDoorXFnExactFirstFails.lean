/- The law FnExactFirstFails returns true, whatever it is handed. -/
import Derived.Test.YtllojnloldhghaaGreatDoorZKJ
import Derived.Test.YtllojnloldhghaaGreatDoorZOO
namespace Go.Proofs.YtllojnloldhghaaGreatDoor
set_option linter.unusedVariables false
set_option linter.unusedSimpArgs false
open Go.RowKit

theorem len_of_ct {ms xs : List Bw} {n : Nat} (h : ms.map Bw.ct = xs.map Bw.ct) (hn : xs.length = n) : ms.length = n := by
  rw [← hn]; simpa using congrArg List.length h

set_option maxHeartbeats 2000000 in
set_option maxRecDepth 100000 in
theorem law_yes_FnExactFirstFails (a va b : Option Addr) (c vc c2 vn n : Nat) (ds : List Dc) (vs : List Bw) (xs : List Lg) (w : World) (hr : RdD w a ds) (hv : RdW w va vs) (hs : RdL w b xs) (hvn : vs.length = vn) (hn : xs.length = n) (hG : GF w) (Z Z2 Z3 : Int)
    (hz : 0 ≤ Z) (hz2 : 0 ≤ Z2) (hz3 : 0 ≤ Z3)
    (HSZ : Hid (∀ u, Below w.heap.size w u → Calls Tryz.prog 7 #[.slice a ds.length c, .int .i64 1048576] u fun e w' => e = .returned (.int .i64 Z) ∧ Below u.heap.size u w'))
    (HSV : Hid (∀ u, Below w.heap.size w u → Calls Tryz.prog 9 #[.slice va vn vc, .int .i64 Z] u fun e w' => e = .returned (.int .i64 Z2) ∧ Below u.heap.size u w'))
    (HSL : Hid (∀ u, Below w.heap.size w u → Calls Tryz.prog 8 #[.slice b n c2, .int .i64 Z2] u fun e w' => e = .returned (.int .i64 Z3) ∧ Below u.heap.size u w')) :
    Calls Tryz.prog 4 #[.slice a ds.length c, .slice va vn vc, .slice b n c2] w fun e w' => e = .returned (.bool true) ∧ Below w.heap.size w w' := by
  have HGF := kide (fun u (hu : Below w.heap.size w u) => hG.later hu)
  have HR := kide hr
  have HN := kide hn
  have HVN := kide hvn
  have HTV : Hid (∀ u, Below w.heap.size w u → Calls Tryz.prog 13 #[.slice va vn vc] u fun e w' => ∃ ms : List Bw, e = .returned (.slice (some ⟨u.heap.size, 0, none⟩) vn vn) ∧ ms.map Bw.ct = vs.map Bw.ct ∧ RdW w' (some ⟨u.heap.size, 0, none⟩) ms ∧ Below u.heap.size u w') := fun u hu => by
    have := toBitsS_any va vc vs u (hv.later hu)
    rwa [hvn] at this
  have HTL : Hid (∀ u, Below w.heap.size w u → Calls Tryz.prog 12 #[.slice b n c2] u fun e w' => ∃ ms : List Lg, e = .returned (.slice (some ⟨u.heap.size, 0, none⟩) n n) ∧ ms.map Lg.ct = xs.map Lg.ct ∧ RdL w' (some ⟨u.heap.size, 0, none⟩) ms ∧ Below u.heap.size u w') := fun u hu => by
    have := toLiteralS_any b c2 xs u (hs.later hu)
    rwa [hn] at this
  clear hr hv hs hn hvn hG
  go_enter Tryz.func4, Tryz.ntmps4
  have B0 := kide (Below.refl w.heap.size w)
  go_wp2_with fail
  refine Calls.mono (HSZ.out w B0.out) ?_
  rintro e w1 ⟨rfl, hb1⟩
  have B1 := kide (B0.out.trans (hb1.mono B0.out.size))
  clear hb1
  go_wp2_with fail
  refine Calls.mono (HSV.out w1 B1.out) ?_
  rintro e w2 ⟨rfl, hb2⟩
  have B2 := kide (B1.out.trans (hb2.mono B1.out.size))
  clear hb2
  go_wp2_with fail
  refine Calls.mono (HSL.out w2 B2.out) ?_
  rintro e w3 ⟨rfl, hb3⟩
  have B3 := kide (B2.out.trans (hb3.mono B2.out.size))
  clear hb3
  go_wp2_with fail
  refine Calls.mono (toDeclS_any a c ds w3 (HR.out.later B3.out)) ?_
  rintro e w4 ⟨rfl, r4, hb4⟩
  have B4 := kide (B3.out.trans (hb4.mono B3.out.size))
  have R4 := kide r4
  clear hb4 r4
  go_wp2_with fail
  refine Calls.mono (HTV.out w4 B4.out) ?_
  rintro e w5 ⟨v5, rfl, hv5, r5, hb5⟩
  have B5 := kide (B4.out.trans (hb5.mono B4.out.size))
  have R5 := kide (R4.out.later hb5)
  have S5 := kide r5
  have MV5 := kide hv5
  clear hb5 r5 hv5
  go_wp2_with fail
  refine Calls.mono (HTL.out w5 B5.out) ?_
  rintro e w6 ⟨m6, rfl, hm6, r6, hb6⟩
  have B6 := kide (B5.out.trans (hb6.mono B5.out.size))
  have R6 := kide (R5.out.later hb6)
  have S6 := kide (S5.out.later hb6)
  have T6 := kide r6
  have ML6 := kide hm6
  clear hb6 r6 hm6
  have HSP := kide (specFirst_any _ _ _ ds.length vn n n vn ds v5 m6 w6 R6.out S6.out T6.out (len_of_ct MV5.out HVN.out) (len_of_lc ML6.out HN.out))
  rw [MV5.out, ML6.out] at HSP
  go_wp2_with fail
  refine Calls.mono (HSP.out) ?_
  rintro e w7 ⟨rfl, hb7⟩
  have B7 := kide (B6.out.trans (hb7.mono B6.out.size))
  clear hb7 HSP
  go_wp2_with fail
  refine Calls.mono (toDeclS_any a c ds w7 (HR.out.later B7.out)) ?_
  rintro e w8 ⟨rfl, r8, hb8⟩
  have B8 := kide (B7.out.trans (hb8.mono B7.out.size))
  have R8 := kide r8
  clear hb8 r8
  go_wp2_with fail
  refine Calls.mono (HTV.out w8 B8.out) ?_
  rintro e w9 ⟨v9, rfl, hv9, r9, hb9⟩
  have B9 := kide (B8.out.trans (hb9.mono B8.out.size))
  have R9 := kide (R8.out.later hb9)
  have S9 := kide r9
  have MV9 := kide hv9
  clear hb9 r9 hv9
  go_wp2_with fail
  refine Calls.mono (HTL.out w9 B9.out) ?_
  rintro e w10 ⟨m10, rfl, hm10, r10, hb10⟩
  have B10 := kide (B9.out.trans (hb10.mono B9.out.size))
  have R10 := kide (R9.out.later hb10)
  have S10 := kide (S9.out.later hb10)
  have T10 := kide r10
  have ML10 := kide hm10
  clear hb10 r10 hm10
  have HIM := kide (implFirst_any _ _ _ ds.length vn n n vn ds v9 m10 w10 R10.out S10.out T10.out (len_of_ct MV9.out HVN.out) (len_of_lc ML10.out HN.out) (HGF.out w10 B10.out))
  rw [MV9.out, ML10.out] at HIM
  go_wp2_with fail
  refine Calls.mono (HIM.out) ?_
  rintro e w11 ⟨rfl, hb11⟩
  have B11 := kide (B10.out.trans (hb11.mono B10.out.size))
  have R11 := kide (R10.out.later hb11)
  have S11 := kide (S10.out.later hb11)
  have T11 := kide (T10.out.later hb11)
  clear hb11 HIM
  generalize ffR ds (vs.map Bw.ct) (xs.map Lg.ct) = V at *
  have hbb : (V != V) = false := by simp
  go_wp2_with fail
  refine Calls.mono (toDeclS_any a c ds w11 (HR.out.later B11.out)) ?_
  rintro e w12 ⟨rfl, r12, hb12⟩
  have B12 := kide (B11.out.trans (hb12.mono B11.out.size))
  have R12 := kide (R11.out.later hb12)
  have S12 := kide (S11.out.later hb12)
  have T12 := kide (T11.out.later hb12)
  have Q12 := kide r12
  clear hb12 r12 hbb
  go_wp2_with fail
  refine Calls.mono (eqDeclS_same _ _ ds.length ds.length ds w12 R12.out Q12.out) ?_
  rintro e w13 ⟨rfl, hb13⟩
  have B13 := kide (B12.out.trans (hb13.mono B12.out.size))
  have S13 := kide (S12.out.later hb13)
  have T13 := kide (T12.out.later hb13)
  clear hb13
  go_wp2_with fail
  refine Calls.mono (HTV.out w13 B13.out) ?_
  rintro e w14 ⟨v14, rfl, hv14, r14, hb14⟩
  have B14 := kide (B13.out.trans (hb14.mono B13.out.size))
  have S14 := kide (S13.out.later hb14)
  have T14 := kide (T13.out.later hb14)
  have Q14 := kide r14
  have MV14 := kide hv14
  clear hb14 r14 hv14
  go_wp2_with fail
  refine Calls.mono (eqBitsS_same _ _ vn vn v9 v14 w14 S14.out Q14.out (MV9.out.trans MV14.out.symm) vn (len_of_ct MV9.out HVN.out) (len_of_ct MV14.out HVN.out)) ?_
  rintro e w15 ⟨rfl, hb15⟩
  have B15 := kide (B14.out.trans (hb15.mono B14.out.size))
  have T15 := kide (T14.out.later hb15)
  clear hb15
  go_wp2_with fail
  refine Calls.mono (HTL.out w15 B15.out) ?_
  rintro e w16 ⟨m16, rfl, hm16, r16, hb16⟩
  have B16 := kide (B15.out.trans (hb16.mono B15.out.size))
  have T16 := kide (T15.out.later hb16)
  have Q16 := kide r16
  have ML16 := kide hm16
  clear hb16 r16 hm16
  go_wp2_with fail
  refine Calls.mono (eqLiteralS_same _ _ n n m10 m16 w16 T16.out Q16.out (ML10.out.trans ML16.out.symm) n (len_of_lc ML10.out HN.out) (len_of_lc ML16.out HN.out)) ?_
  rintro e w17 ⟨rfl, hb17⟩
  have B17 := kide (B16.out.trans (hb17.mono B16.out.size))
  clear hb17
  go_wp2_with fail
  go_ret
  exact ⟨rfl, B17.out⟩

theorem law_no_FnExactFirstFails (a va b : Option Addr) (n0 c vn vc n c2 : Nat) (w : World) (Z Z2 Z3 : Int) (h : Z < 0 ∨ 0 ≤ Z ∧ Z2 < 0 ∨ 0 ≤ Z ∧ 0 ≤ Z2 ∧ Z3 < 0)
    (HSZ : Hid (∀ u, Below w.heap.size w u → Calls Tryz.prog 7 #[.slice a n0 c, .int .i64 1048576] u fun e w' => e = .returned (.int .i64 Z) ∧ Below u.heap.size u w'))
    (HSV : Hid (0 ≤ Z → ∀ u, Below w.heap.size w u → Calls Tryz.prog 9 #[.slice va vn vc, .int .i64 Z] u fun e w' => e = .returned (.int .i64 Z2) ∧ Below u.heap.size u w'))
    (HSL : Hid (0 ≤ Z → 0 ≤ Z2 → ∀ u, Below w.heap.size w u → Calls Tryz.prog 8 #[.slice b n c2, .int .i64 Z2] u fun e w' => e = .returned (.int .i64 Z3) ∧ Below u.heap.size u w')) :
    Calls Tryz.prog 4 #[.slice a n0 c, .slice va vn vc, .slice b n c2] w fun e w' => e = .returned (.bool true) ∧ Below w.heap.size w w' := by
  rcases h with h | ⟨h, h2⟩ | ⟨h, h2, h3⟩
  · go_enter Tryz.func4, Tryz.ntmps4
    go_wp2_with fail
    refine Calls.mono (HSZ.out w (Below.refl _ _)) ?_
    rintro e w1 ⟨rfl, hb1⟩
    go_wp2_with fail
    go_ret
    exact ⟨rfl, hb1⟩
  · go_enter Tryz.func4, Tryz.ntmps4
    go_wp2_with fail
    refine Calls.mono (HSZ.out w (Below.refl _ _)) ?_
    rintro e w1 ⟨rfl, hb1⟩
    go_wp2_with fail
    refine Calls.mono (HSV.out h w1 hb1) ?_
    rintro e w2 ⟨rfl, hb2⟩
    go_wp2_with fail
    go_ret
    exact ⟨rfl, hb1.trans (hb2.mono hb1.size)⟩
  · go_enter Tryz.func4, Tryz.ntmps4
    go_wp2_with fail
    refine Calls.mono (HSZ.out w (Below.refl _ _)) ?_
    rintro e w1 ⟨rfl, hb1⟩
    go_wp2_with fail
    refine Calls.mono (HSV.out h w1 hb1) ?_
    rintro e w2 ⟨rfl, hb2⟩
    have B2 := hb1.trans (hb2.mono hb1.size)
    go_wp2_with fail
    refine Calls.mono (HSL.out h h2 w2 B2) ?_
    rintro e w3 ⟨rfl, hb3⟩
    go_wp2_with fail
    go_ret
    exact ⟨rfl, B2.trans (hb3.mono B2.size)⟩

theorem walk_FnExactFirstFails (a : Option Addr) (n0 c : Nat) (hn0 : n0 ≤ 9223372036854775807) (va : Option Addr) (vn vc : Nat) (hvn : vn ≤ 9223372036854775807) (b : Option Addr) (n c2 : Nat) (hn : n ≤ 9223372036854775807) (w : World) (hG : GF w)
    (hx : n0 ≤ 1048576 → ∃ ds : List Dc, ds.length = n0 ∧ RdD w a ds) (hv : vn ≤ 1048576 → ∃ hs : List Bh, hs.length = vn ∧ RdBh w va hs ∧ ∀ h ∈ hs, WordsOf w h) (hy : n ≤ 1048576 → ∃ hs : List Lh, hs.length = n ∧ RdLh w b hs ∧ ∀ h ∈ hs, LitOf w h) :
    Calls Tryz.prog 4 #[.slice a n0 c, .slice va vn vc, .slice b n c2] w fun e w' => e = .returned (.bool true) ∧ Below w.heap.size w w' := by
  obtain ⟨Z, Z2, h1, h2, h3⟩ := sizes_dv a va n0 c vn vc w hn0 hvn hx hv
  by_cases hz : Z < 0
  · exact law_no_FnExactFirstFails a va b n0 c vn vc n c2 w Z Z2 0 (.inl hz) h1 h2 (fun h => by omega)
  by_cases hz2 : Z2 < 0
  · exact law_no_FnExactFirstFails a va b n0 c vn vc n c2 w Z Z2 0 (.inr (.inl ⟨by omega, hz2⟩)) h1 h2 (fun _ h => by omega)
  obtain ⟨hZ2, ds, vs, rfl, hvl, hr, hvr, -⟩ := h3 (by omega) (by omega)
  obtain ⟨Z3, h4, h5⟩ := sizes_ls b n c2 Z2 w (by omega) hZ2 hn hy
  by_cases hz3 : Z3 < 0
  · exact law_no_FnExactFirstFails a va b _ c vn vc n c2 w Z Z2 Z3 (.inr (.inr ⟨by omega, by omega, hz3⟩)) h1 h2 (fun _ _ => h4)
  obtain ⟨xs, hxl, hs⟩ := h5 (by omega)
  exact law_yes_FnExactFirstFails a va b c vc c2 vn n ds vs xs w hr hvr hs hvl hxl hG Z Z2 Z3 (by omega) (by omega) (by omega) h1 (h2 (by omega)) h4

end Go.Proofs.YtllojnloldhghaaGreatDoor
