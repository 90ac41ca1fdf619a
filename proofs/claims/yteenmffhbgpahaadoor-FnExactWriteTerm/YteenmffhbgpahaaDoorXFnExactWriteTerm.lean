/- The law FnExactWriteTerm returns true, whatever it is handed. -/
import Derived.Test.YteenmffhbgpahaaDoorZWN
import Derived.Test.YteenmffhbgpahaaDoorWTF
import Derived.Test.YteenmffhbgpahaaDoorWTM
import Derived.Test.YteenmffhbgpahaaDoorQW
namespace Go.Proofs.YteenmffhbgpahaaDoor
set_option linter.unusedVariables false
set_option linter.unusedSimpArgs false
open Go.RowKit

/-- All that the program keeps of its own, and the library's powers. -/
def GA (w : World) : Prop := GF w ∧ GW w ∧ GP w
theorem GA.later {w w' : World} (h : GA w) (hb : Below w.heap.size w w') : GA w' := ⟨h.1.later hb, h.2.1.later hb, h.2.2.later hb⟩

set_option maxHeartbeats 1000000 in
set_option maxRecDepth 100000 in
theorem law_yes_FnExactWriteTerm (a b : Option Addr) (c c2 n : Nat) (ds : List Dc) (xs : List Tg) (w : World) (hr : RdD w a ds) (hs : RdT w b xs) (hn : xs.length = n) (hG : GA w) (Z Z2 : Int)
    (hz : 0 ≤ Z) (hz2 : 0 ≤ Z2)
    (HSZ : Hid (∀ u, Below w.heap.size w u → Calls Tryd.prog 4 #[.slice a ds.length c, .int .i64 1048576] u fun e w' => e = .returned (.int .i64 Z) ∧ Below u.heap.size u w'))
    (HSC : Hid (∀ u, Below w.heap.size w u → Calls Tryd.prog 5 #[.agg #[.slice b n c2], .int .i64 Z] u fun e w' => e = .returned (.int .i64 Z2) ∧ Below u.heap.size u w')) :
    Calls Tryd.prog 3 #[.slice a ds.length c, .agg #[.slice b n c2]] w fun e w' => e = .returned (.bool true) ∧ Below w.heap.size w w' := by
  have HGF := kide (fun u (hu : Below w.heap.size w u) => hG.later hu)
  have HR := kide hr
  have HS := kide hs
  have HN := kide hn
  have HTC : Hid (∀ u, Below w.heap.size w u → Calls Tryd.prog 8 #[.agg #[.slice b n c2]] u fun e w' => ∃ (g : Nat) (ms : List Tg), e = .returned (.agg #[.slice (some ⟨g, 0, none⟩) n n]) ∧ ms.map Tg.ct = xs.map Tg.ct ∧ RdT w' (some ⟨g, 0, none⟩) ms ∧ Below u.heap.size u w') := fun u hu => (toTerm_far b c2 xs u (HS.out.later hu) n HN.out).mono (fun e w' ⟨g, ms, h1, h2, h3, _, h5⟩ => ⟨g, ms, h1, h2, h3, h5⟩)
  have s0 := Bq.start w (.slice b n c2) 25
  clear hr hs hn hG
  go_enter Tryd.func3, Tryd.ntmps3
  go_wp2_with fail
  refine Calls.mono (HSZ.out _ s0.below) ?_
  rintro e w1 ⟨rfl, hb1⟩
  have s1 := s0.next hb1
  have c1 := s1.cell
  clear hb1 s0
  go_wp2_with fail
  refine Calls.mono (HSC.out w1 s1.below) ?_
  rintro e w2 ⟨rfl, hb2⟩
  have s2 := s1.next hb2
  have c2' := s2.cell
  clear hb2 s1 c1
  have B2 := kide s2.below
  go_wp2_with fail
  go_region_held3 (fun u => u.cell? ⟨w.heap.size, 0, none⟩ = some (Value.slice b n c2)) (simp [*])
    (first
      | (go_at_call 7; refine Calls.mono (toDeclS_any a c ds _ ?_) ?_; exact HR.out.later B2.out.drew; rintro e w3 ⟨rfl, r3, hb3⟩; replace hb3 := kundrew hb3; have s3 := Bq.next (wk := w2) s2 hb3; have c3 := s3.cell; have R3 := kide r3; have B3 := kide s3.below; clear hb3 r3)
      | (go_at_call 8; refine Calls.mono (HTC.out w3 B3.out) ?_; rintro e w4 ⟨g4, m4, rfl, hm4, r4, hb4⟩; have s4 := s3.next hb4; have c4 := s4.cell; have R4 := kide (R3.out.later hb4); have HSP := kide (specWriteT_any _ _ ds.length n n ds m4 w4 R4.out r4 (len_of_tc hm4 HN.out)); rw [hm4] at HSP; clear hb4 r4 hm4)
      | (go_at_call 6; refine Calls.mono HSP.out ?_; rintro e w5 ⟨rfl, hb5⟩; have s5 := s4.next hb5; have c5 := s5.cell; clear hb5))
  clear s3 s4 c3 c4 HSP s2 c2'
  go_wp2_with fail
  refine Calls.mono (toDeclS_any a c ds w5 (HR.out.later s5.below)) ?_
  rintro e w6 ⟨rfl, r6, hb6⟩
  have s6 := s5.next hb6
  have c6 := s6.cell
  have R6 := kide r6
  clear hb6 r6 s5 c5
  go_wp2_with fail
  refine Calls.mono (HTC.out w6 s6.below) ?_
  rintro e w7 ⟨g7, m7, rfl, hm7, r7, hb7⟩
  have s7 := s6.next hb7
  have R7 := kide (R6.out.later hb7)
  have hbx : Below w7.heap.size w7 (w7.alloc (Obj.cells #[Value.slice (some ⟨g7, 0, none⟩) n n] 33)) := (Below.refl _ _).alloc (Nat.le_refl _) _
  have s8 := s7.next hbx
  have t8 := Bq.start w7 (.slice (some ⟨g7, 0, none⟩) n n) 33
  have R8 := kide (R7.out.later hbx)
  have S8 := kide (r7.later hbx)
  have M7 := kide hm7
  have HIM := kide (implWriteT_any _ _ ds.length n n ds m7 _ R8.out S8.out (len_of_tc hm7 HN.out) (HGF.out _ s8.below).1 (HGF.out _ s8.below).2.1 (HGF.out _ s8.below).2.2)
  rw [hm7] at HIM
  clear hb7 r7 s6 c6 s7 hm7 hbx
  go_wp2_with fail
  generalize w7.alloc (Obj.cells #[Value.slice (some ⟨g7, 0, none⟩) n n] 33) = w8 at *
  refine Calls.mono HIM.out ?_
  rintro e w9 ⟨rfl, hb9⟩
  have s9 := s8.next hb9
  have t9 := t8.next hb9
  have c9 := s9.cell
  have d9 := t9.cell
  have R9 := kide (R8.out.later hb9)
  have S9 := kide (S8.out.later hb9)
  clear hb9 s8 t8 HIM
  generalize txt (wtR ds (xs.map Tg.ct)) = V at *
  go_wp2_with fail
  refine Calls.mono (toDeclS_any a c ds w9 (HR.out.later s9.below)) ?_
  rintro e w10 ⟨rfl, r10, hb10⟩
  have s10 := s9.next hb10
  have t10 := t9.next hb10
  have R10 := kide (R9.out.later hb10)
  have S10 := kide (S9.out.later hb10)
  have T10 := kide r10
  clear hb10 r10 s9 t9 c9 d9
  go_wp2_with fail
  refine Calls.mono (eqDeclS_same _ _ ds.length ds.length ds w10 R10.out T10.out) ?_
  rintro e w11 ⟨rfl, hb11⟩
  have s11 := s10.next hb11
  have t11 := t10.next hb11
  have c11 := s11.cell
  have d11 := t11.cell
  have S11 := kide (S10.out.later hb11)
  clear hb11 s10 t10
  have B11 := kide s11.below
  go_wp2_with fail
  go_region_held3 (fun u => u.cell? ⟨w.heap.size, 0, none⟩ = some (Value.slice b n c2) ∧ u.cell? ⟨w7.heap.size, 0, none⟩ = some (Value.slice (some { block := g7, off := 0 }) n n)) (simp [*])
    (first
      | (go_at_call 8; refine Calls.mono (HTC.out _ ?_) ?_; exact B11.out.drew; rintro e w12 ⟨g12, m12, rfl, hm12, r12, hb12⟩; replace hb12 := kundrew hb12; have s12 := Bq.next (wk := w11) s11 hb12; have t12 := Bq.next (wk := w11) t11 hb12; have q12 := kide (RdT.later (w := w11) S11.out hb12); have R12 := kide r12; have c12 := s12.cell; have d12 := t12.cell; have HM12 := kide hm12; clear hm12 r12)
      | (go_at_call 11; refine Calls.mono (eqTerm_same (some ⟨g7, 0, none⟩) (some ⟨g12, 0, none⟩) n n m7 m12 _ q12.out R12.out (M7.out.trans HM12.out.symm) n (len_of_tc M7.out HN.out) (len_of_tc HM12.out HN.out)) ?_; rintro e w13 ⟨rfl, hb13⟩; have s13 := s12.next hb13; have t13 := t12.next hb13; have c13 := s13.cell; have d13 := t13.cell))
  go_wp2_with fail
  go_ret
  exact ⟨rfl, s13.below⟩

theorem law_no_FnExactWriteTerm (a b : Option Addr) (n c n2 c2 : Nat) (w : World) (Z Z2 : Int) (h : Z < 0 ∨ 0 ≤ Z ∧ Z2 < 0)
    (HSZ : Hid (∀ u, Below w.heap.size w u → Calls Tryd.prog 4 #[.slice a n c, .int .i64 1048576] u fun e w' => e = .returned (.int .i64 Z) ∧ Below u.heap.size u w'))
    (HSC : Hid (0 ≤ Z → ∀ u, Below w.heap.size w u → Calls Tryd.prog 5 #[.agg #[.slice b n2 c2], .int .i64 Z] u fun e w' => e = .returned (.int .i64 Z2) ∧ Below u.heap.size u w')) :
    Calls Tryd.prog 3 #[.slice a n c, .agg #[.slice b n2 c2]] w fun e w' => e = .returned (.bool true) ∧ Below w.heap.size w w' := by
  have s0 := Bq.start w (.slice b n2 c2) 25
  rcases h with h | ⟨h, h2⟩
  · go_enter Tryd.func3, Tryd.ntmps3
    go_wp2_with fail
    refine Calls.mono (HSZ.out _ s0.below) ?_
    rintro e w1 ⟨rfl, hb1⟩
    have s1 := s0.next hb1
    go_wp2_with fail
    go_ret
    exact ⟨rfl, s1.below⟩
  · go_enter Tryd.func3, Tryd.ntmps3
    go_wp2_with fail
    refine Calls.mono (HSZ.out _ s0.below) ?_
    rintro e w1 ⟨rfl, hb1⟩
    have s1 := s0.next hb1
    have c1 := s1.cell
    go_wp2_with fail
    refine Calls.mono (HSC.out h w1 s1.below) ?_
    rintro e w2 ⟨rfl, hb2⟩
    have s2 := s1.next hb2
    go_wp2_with fail
    go_ret
    exact ⟨rfl, s2.below⟩

theorem walk_FnExactWriteTerm (a : Option Addr) (n c : Nat) (hn : n ≤ 9223372036854775807) (b : Option Addr) (n2 c2 : Nat) (hn2 : n2 ≤ 9223372036854775807) (w : World) (hG : GA w)
    (hx : n ≤ 1048576 → ∃ ds : List Dc, ds.length = n ∧ RdD w a ds) (hy : n2 ≤ 1048576 → ∃ hs : List Th, hs.length = n2 ∧ RdTh w b hs ∧ ∀ h ∈ hs, NodeOf w h) :
    Calls Tryd.prog 3 #[.slice a n c, .agg #[.slice b n2 c2]] w fun e w' => e = .returned (.bool true) ∧ Below w.heap.size w w' := by
  obtain ⟨Z, Z2, h1, h2, h3⟩ := sizes_term a b n c n2 c2 w hn hn2 hx hy
  by_cases hz : Z < 0
  · exact law_no_FnExactWriteTerm a b n c n2 c2 w Z Z2 (.inl hz) h1 h2
  by_cases hz2 : Z2 < 0
  · exact law_no_FnExactWriteTerm a b n c n2 c2 w Z Z2 (.inr ⟨by omega, hz2⟩) h1 h2
  obtain ⟨ds, xs, rfl, hxl, hr, hs⟩ := h3 (by omega) (by omega)
  exact law_yes_FnExactWriteTerm a b c c2 n2 ds xs w hr hs hxl hG Z Z2 (by omega) (by omega) h1 (h2 (by omega))

end Go.Proofs.YteenmffhbgpahaaDoor
