/- The law FnExactSameWord returns true, whatever it is handed. -/
import Derived.Test.YtckidgpopbpagaaGreatDoorWDB
import Derived.Test.YtckidgpopbpagaaGreatDoorZGAT
import Derived.Test.YtckidgpopbpagaaGreatDoorZGAS
namespace Go.Proofs.YtckidgpopbpagaaGreatDoor
set_option linter.unusedVariables false
set_option linter.unusedSimpArgs false
open Go.RowKit

set_option maxHeartbeats 4000000 in
set_option maxRecDepth 100000 in
theorem law_yes_FnExactSameWord (a b d : Option Addr) (c c2 n c3 m : Nat) (ds : List Dc) (xs ys : List Tg) (w : World) (hr : RdD w a ds) (hs : RdT w b xs) (hn : xs.length = n) (ht : RdT w d ys) (hm : ys.length = m) (hG : GF w) (Z Z2 Z3 : Int)
    (hz : 0 ≤ Z) (hz2 : 0 ≤ Z2) (hz3 : 0 ≤ Z3)
    (HSZ : Hid (∀ u, Below w.heap.size w u → Calls Tryz.prog 4 #[.slice a ds.length c, .int .i64 1048576] u fun e w' => e = .returned (.int .i64 Z) ∧ Below u.heap.size u w'))
    (HSC : Hid (∀ u, Below w.heap.size w u → Calls Tryz.prog 5 #[.agg #[.slice b n c2], .int .i64 Z] u fun e w' => e = .returned (.int .i64 Z2) ∧ Below u.heap.size u w'))
    (HSE : Hid (∀ u, Below w.heap.size w u → Calls Tryz.prog 5 #[.agg #[.slice d m c3], .int .i64 Z2] u fun e w' => e = .returned (.int .i64 Z3) ∧ Below u.heap.size u w')) :
    Calls Tryz.prog 3 #[.slice a ds.length c, .agg #[.slice b n c2], .agg #[.slice d m c3]] w fun e w' => e = .returned (.bool true) ∧ Below w.heap.size w w' := by
  have HR := kide hr
  have HN := kide hn
  have HM := kide hm
  have HGF := kide (fun u (hu : Below w.heap.size w u) => hG.later hu)
  have HTD := kide (fun u (hu : Below w.heap.size w u) => toDeclS_row a c ds u (hr.later hu))
  have HTS := kide (fun u (hu : Below w.heap.size w u) => toTerm_wr b c2 xs u (hs.later hu) n hn)
  have HTT := kide (fun u (hu : Below w.heap.size w u) => toTerm_wr d c3 ys u (ht.later hu) m hm)
  have HSP := kide (fun (da db dd : Option Addr) (e1 e2 e3 : Nat) (ms ks : List Tg) (u : World) (h1 : RdD u da ds) (h2 : RdT u db ms) (h4 : ms.map Tg.ct = xs.map Tg.ct) (h6 : RdT u dd ks) (h8 : ks.map Tg.ct = ys.map Tg.ct) => by
    have h := specSame_any da db dd e1 e2 e3 n m ds ms ks u h1 h2 (len_of_tc h4 hn) h6 (len_of_tc h8 hm)
    rwa [h4, h8] at h)
  have HIM := kide (fun (da db dd : Option Addr) (e1 e2 e3 : Nat) (ms ks : List Tg) (u : World) (h1 : RdD u da ds) (h2 : RdT u db ms) (h4 : ms.map Tg.ct = xs.map Tg.ct) (h6 : RdT u dd ks) (h8 : ks.map Tg.ct = ys.map Tg.ct) (h9 : GF u) (h10 : Wl u ms) (h11 : Wl u ks) => by
    have h := implSame_any da db dd e1 e2 e3 n m ds ms ks u h1 h2 (len_of_tc h4 hn) h6 (len_of_tc h8 hm) h9 h10 h11
    rwa [h4, h8] at h)
  generalize swR ds (xs.map Tg.ct) (ys.map Tg.ct) = ZZ at *
  have s0 := Bb.start w (.cells #[Value.slice b n c2] 25) (.cells #[Value.slice d m c3] 25)
  have hZZ : (ZZ != ZZ) = false := by cases ZZ <;> rfl
  have hZZ2 : (!ZZ == ZZ) = false := by cases ZZ <;> rfl
  generalize hnd : ds.length = nd at *
  have HND := kide hnd
  clear hr hs hn hG ht hm hnd
  go_enter Tryz.func3, Tryz.ntmps3
  go_wp2_with fail
  refine Calls.mono (HSZ.out _ s0.below) ?_
  rintro e w1 ⟨rfl, hb1⟩
  have s1 := s0.next hb1
  have c1 := s1.one 0
  have d1 := s1.two 0
  simp at c1 d1
  clear hb1 s0
  go_wp2_with fail
  refine Calls.mono (HSC.out w1 s1.below) ?_
  rintro e w2 ⟨rfl, hb2⟩
  have s2 := s1.next hb2
  have c2' := s2.one 0
  have d2' := s2.two 0
  simp at c2' d2'
  clear hb2 s1 c1 d1
  go_wp2_with fail
  refine Calls.mono (HSE.out w2 s2.below) ?_
  rintro e w3 ⟨rfl, hb3⟩
  have s3 := s2.next hb3
  have c3' := s3.one 0
  have d3' := s3.two 0
  simp at c3' d3'
  clear hb3 s2 c2' d2'
  have B3 := kide s3.below
  go_wp2_with fail
  go_region_held3 (fun u => u.cell? ⟨w.heap.size, 0, none⟩ = some (Value.slice b n c2) ∧ u.cell? ⟨w.heap.size + 1, 0, none⟩ = some (Value.slice d m c3)) (simp [*])
    (first
      | (go_at_call 6; refine Calls.mono (HSP.out _ _ _ nd n m m5 m6 w6 R6.out S6.out M5.out T6.out M6.out) ?_; rintro e w7 ⟨rfl, hb7⟩; have s7 := s6.next hb7; have c7 := s7.one 0; have d7 := s7.two 0; simp at c7 d7; clear hb7)
      | (go_at_call 8; refine Calls.mono (HTT.out w5 B5.out) ?_; rintro e w6 ⟨g6, m6, rfl, hm6, -, r6, -, -, hb6⟩; have s6 := s5.next hb6; have c6 := s6.one 0; have d6 := s6.two 0; simp at c6 d6; have R6 := kide (R5.out.later hb6); have S6 := kide (S5.out.later hb6); have T6 := kide r6; have M6 := kide hm6; clear hb6 r6 hm6)
      | (go_at_call 8; refine Calls.mono (HTS.out w4 B4.out) ?_; rintro e w5 ⟨g5, m5, rfl, hm5, -, r5, -, -, hb5⟩; have s5 := s4.next hb5; have c5 := s5.one 0; have d5 := s5.two 0; simp at c5 d5; have B5 := kide s5.below; have R5 := kide (R4.out.later hb5); have S5 := kide r5; have M5 := kide hm5; clear hb5 r5 hm5)
      | (go_at_call 7; refine Calls.mono (HTD.out _ ?_) ?_; exact B3.out.drew; rintro e w4 ⟨rfl, r4, -, hb4⟩; replace hb4 := kundrew hb4; have s4 := Bb.next (wk := w3) s3 hb4; have c4 := s4.one 0; have d4 := s4.two 0; simp at c4 d4; have R4 := kide r4; have B4 := kide s4.below; clear hb4 r4))
  clear s3 s4 s5 s6 c3' d3' c4 d4 c5 d5 c6 d6 R4 R5 R6 S5 S6 T6 M5 M6 B3 B4 B5
  go_wp2_with fail
  refine Calls.mono (HTD.out w7 s7.below) ?_
  rintro e w8 ⟨rfl, r8, -, hb8⟩
  have s8 := s7.next hb8
  have c8 := s8.one 0
  have d8 := s8.two 0
  simp at c8 d8
  have R8 := kide r8
  clear hb8 r8 s7 c7 d7
  generalize w7.heap.size = gd at *
  go_wp2_with fail
  refine Calls.mono (HTS.out w8 s8.below) ?_
  rintro e w9 ⟨g9, m9, rfl, hm9, -, r9, -, hw9, hb9⟩
  have s9 := s8.next hb9
  have hbx : Below w9.heap.size w9 (w9.alloc (Obj.cells #[Value.slice (some ⟨g9, 0, none⟩) n n] 33)) := (Below.refl _ _).alloc (Nat.le_refl _) _
  have s10 := s9.next hbx
  have R10 := kide ((R8.out.later hb9).later hbx)
  have S10 := kide (r9.later hbx)
  have X10 := kide (Bz.new w9 #[Value.slice (some ⟨g9, 0, none⟩) n n] 33)
  have W10 : Hid (Wl (w9.alloc (Obj.cells #[Value.slice (some ⟨g9, 0, none⟩) n n] 33)) m9) := (Wl.of hw9 (Nat.le_refl _)).later hbx
  have M9 := kide hm9
  have c10 := s10.one 0
  have d10 := s10.two 0
  simp at c10 d10
  clear hb9 r9 hw9 hbx hm9 s8 s9 c8 d8 R8
  go_wp2_with fail
  generalize w9.alloc (Obj.cells #[Value.slice (some ⟨g9, 0, none⟩) n n] 33) = w10 at *
  generalize w9.heap.size = x9 at *
  refine Calls.mono (HTT.out w10 s10.below) ?_
  rintro e w11 ⟨g11, m11, rfl, hm11, -, r11, -, hw11, hb11⟩
  have s11 := s10.next hb11
  have hbx : Below w11.heap.size w11 (w11.alloc (Obj.cells #[Value.slice (some ⟨g11, 0, none⟩) m m] 33)) := (Below.refl _ _).alloc (Nat.le_refl _) _
  have s12 := s11.next hbx
  have R12 := kide ((R10.out.later hb11).later hbx)
  have S12 := kide ((S10.out.later hb11).later hbx)
  have T12 := kide (r11.later hbx)
  have X12 := kide ((X10.out.later hb11).later hbx)
  have Y12 := kide (Bz.new w11 #[Value.slice (some ⟨g11, 0, none⟩) m m] 33)
  have W12 := kide ((W10.out.later hb11).later hbx)
  have V12 : Hid (Wl (w11.alloc (Obj.cells #[Value.slice (some ⟨g11, 0, none⟩) m m] 33)) m11) := (Wl.of hw11 (Nat.le_refl _)).later hbx
  have M11 := kide hm11
  have c12 := s12.one 0
  have d12 := s12.two 0
  have x12 := X12.out.cell 0
  simp at c12 d12 x12
  have HI := kide (HIM.out _ _ _ nd n m m9 m11 _ R12.out S12.out M9.out T12.out M11.out (HGF.out _ s12.below) W12.out V12.out)
  clear hb11 r11 hw11 hbx hm11 s10 s11 c10 d10 R10 S10 X10 W10
  go_wp2_with fail
  generalize w11.alloc (Obj.cells #[Value.slice (some ⟨g11, 0, none⟩) m m] 33) = w12 at *
  generalize w11.heap.size = x11 at *
  refine Calls.mono HI.out ?_
  rintro e w13 ⟨rfl, hb13⟩
  have s13 := s12.next hb13
  have R13 := kide (R12.out.later hb13)
  have S13 := kide (S12.out.later hb13)
  have T13 := kide (T12.out.later hb13)
  have X13 := kide (X12.out.later hb13)
  have Y13 := kide (Y12.out.later hb13)
  clear hb13 s12 c12 d12 x12 R12 S12 T12 X12 Y12 W12 V12 HI
  go_wp2_with fail
  refine Calls.mono (HTD.out w13 s13.below) ?_
  rintro e w14 ⟨rfl, r14, -, hb14⟩
  have s14 := s13.next hb14
  have R14 := kide (R13.out.later hb14)
  have P14 := kide r14
  have S14 := kide (S13.out.later hb14)
  have T14 := kide (T13.out.later hb14)
  have X14 := kide (X13.out.later hb14)
  have Y14 := kide (Y13.out.later hb14)
  clear hb14 r14 s13 R13 S13 T13 X13 Y13
  have HED := kide (eqDeclS_same _ _ nd nd ds w14 R14.out P14.out)
  rw [HND.out] at HED
  go_wp2_with fail
  refine Calls.mono HED.out ?_
  rintro e w15 ⟨rfl, hb15⟩
  have s15 := s14.next hb15
  have S15 := kide (S14.out.later hb15)
  have T15 := kide (T14.out.later hb15)
  have X15 := kide (X14.out.later hb15)
  have Y15 := kide (Y14.out.later hb15)
  have c15 := s15.one 0
  have d15 := s15.two 0
  have x15 := X15.out.cell 0
  simp at c15 d15 x15
  clear hb15 s14 R14 P14 S14 T14 X14 Y14 HED
  have B15 := kide s15.below
  go_wp2_with fail
  go_region_held3 (fun u => u.cell? ⟨w.heap.size, 0, none⟩ = some (Value.slice b n c2) ∧ u.cell? ⟨x9, 0, none⟩ = some (Value.slice (some { block := g9, off := 0 }) n n)) (simp [*])
    (first
      | (go_at_call 11; refine Calls.mono (eqTerm_same (some ⟨g9, 0, none⟩) (some ⟨g16, 0, none⟩) n n m9 m16 w16 S16.out P16.out (M9.out.trans M16.out.symm) n (len_of_tc M9.out HN.out) (len_of_tc M16.out HN.out)) ?_; rintro e w17 ⟨rfl, hb17⟩; have s17 := s16.next hb17; have T17 := kide (T16.out.later hb17); have Y17 := kide (Y16.out.later hb17); have c17 := s17.one 0; have x17 := (X16.out.later hb17).cell 0; simp at c17 x17; clear hb17)
      | (go_at_call 8; refine Calls.mono (HTS.out _ ?_) ?_; exact B15.out.drew; rintro e w16 ⟨g16, m16, rfl, hm16, -, r16, -, -, hb16⟩; replace hb16 := kundrew hb16; have s16 := Bb.next (wk := w15) s15 hb16; have S16 := kide (RdT.later (w := w15) S15.out hb16); have T16 := kide (RdT.later (w := w15) T15.out hb16); have X16 := kide (Bz.later (u := w15) X15.out hb16); have Y16 := kide (Bz.later (u := w15) Y15.out hb16); have P16 := kide r16; have M16 := kide hm16; have c16 := s16.one 0; have x16 := X16.out.cell 0; simp at c16 x16; clear hb16 r16 hm16))
  clear s15 s16 c15 d15 x15 c16 x16 S15 S16 T15 T16 X15 X16 Y15 Y16 P16 M16 B15 c17 x17
  have c17 := s17.two 0
  have y17 := Y17.out.cell 0
  simp at c17 y17
  have B17 := kide s17.below
  go_wp2_with fail
  go_region_held3 (fun u => u.cell? ⟨w.heap.size + 1, 0, none⟩ = some (Value.slice d m c3) ∧ u.cell? ⟨x11, 0, none⟩ = some (Value.slice (some { block := g11, off := 0 }) m m)) (simp [*])
    (first
      | (go_at_call 11; refine Calls.mono (eqTerm_same (some ⟨g11, 0, none⟩) (some ⟨g18, 0, none⟩) m m m11 m18 w18 T18.out P18.out (M11.out.trans M18.out.symm) m (len_of_tc M11.out HM.out) (len_of_tc M18.out HM.out)) ?_; rintro e w19 ⟨rfl, hb19⟩; have s19 := s18.next hb19; have c19 := s19.two 0; have x19 := (Y18.out.later hb19).cell 0; simp at c19 x19; clear hb19)
      | (go_at_call 8; refine Calls.mono (HTT.out _ ?_) ?_; exact B17.out.drew; rintro e w18 ⟨g18, m18, rfl, hm18, -, r18, -, -, hb18⟩; replace hb18 := kundrew hb18; have s18 := Bb.next (wk := w17) s17 hb18; have T18 := kide (RdT.later (w := w17) T17.out hb18); have Y18 := kide (Bz.later (u := w17) Y17.out hb18); have P18 := kide r18; have M18 := kide hm18; have c18 := s18.two 0; have x18 := Y18.out.cell 0; simp at c18 x18; clear hb18 r18 hm18))
  go_wp2_with fail
  go_ret
  exact ⟨rfl, s19.below⟩

theorem law_no_FnExactSameWord (a b d : Option Addr) (n c n2 c2 n3 c3 : Nat) (w : World) (Z Z2 Z3 : Int) (h : Z < 0 ∨ 0 ≤ Z ∧ (Z2 < 0 ∨ 0 ≤ Z2 ∧ Z3 < 0))
    (HSZ : Hid (∀ u, Below w.heap.size w u → Calls Tryz.prog 4 #[.slice a n c, .int .i64 1048576] u fun e w' => e = .returned (.int .i64 Z) ∧ Below u.heap.size u w'))
    (HSC : Hid (0 ≤ Z → ∀ u, Below w.heap.size w u → Calls Tryz.prog 5 #[.agg #[.slice b n2 c2], .int .i64 Z] u fun e w' => e = .returned (.int .i64 Z2) ∧ Below u.heap.size u w'))
    (HSE : Hid (0 ≤ Z → 0 ≤ Z2 → ∀ u, Below w.heap.size w u → Calls Tryz.prog 5 #[.agg #[.slice d n3 c3], .int .i64 Z2] u fun e w' => e = .returned (.int .i64 Z3) ∧ Below u.heap.size u w')) :
    Calls Tryz.prog 3 #[.slice a n c, .agg #[.slice b n2 c2], .agg #[.slice d n3 c3]] w fun e w' => e = .returned (.bool true) ∧ Below w.heap.size w w' := by
  have s0 := Bb.start w (.cells #[Value.slice b n2 c2] 25) (.cells #[Value.slice d n3 c3] 25)
  rcases h with h | ⟨h, h2 | ⟨h2, h3⟩⟩
  · go_enter Tryz.func3, Tryz.ntmps3
    go_wp2_with fail
    refine Calls.mono (HSZ.out _ s0.below) ?_
    rintro e w1 ⟨rfl, hb1⟩
    have s1 := s0.next hb1
    go_wp2_with fail
    go_ret
    exact ⟨rfl, s1.below⟩
  · go_enter Tryz.func3, Tryz.ntmps3
    go_wp2_with fail
    refine Calls.mono (HSZ.out _ s0.below) ?_
    rintro e w1 ⟨rfl, hb1⟩
    have s1 := s0.next hb1
    have c1 := s1.one 0
    simp at c1
    go_wp2_with fail
    refine Calls.mono (HSC.out h w1 s1.below) ?_
    rintro e w2 ⟨rfl, hb2⟩
    have s2 := s1.next hb2
    go_wp2_with fail
    go_ret
    exact ⟨rfl, s2.below⟩
  · go_enter Tryz.func3, Tryz.ntmps3
    go_wp2_with fail
    refine Calls.mono (HSZ.out _ s0.below) ?_
    rintro e w1 ⟨rfl, hb1⟩
    have s1 := s0.next hb1
    have c1 := s1.one 0
    simp at c1
    clear hb1
    go_wp2_with fail
    refine Calls.mono (HSC.out h w1 s1.below) ?_
    rintro e w2 ⟨rfl, hb2⟩
    have s2 := s1.next hb2
    have c2' := s2.two 0
    simp at c2'
    clear hb2
    go_wp2_with fail
    refine Calls.mono (HSE.out h h2 w2 s2.below) ?_
    rintro e w3 ⟨rfl, hb3⟩
    have s3 := s2.next hb3
    go_wp2_with fail
    go_ret
    exact ⟨rfl, s3.below⟩

theorem sizes_dtt (a b d : Option Addr) (n c n2 c2 n3 c3 : Nat) (w : World) (hn : n ≤ 9223372036854775807) (hn2 : n2 ≤ 9223372036854775807) (hn3 : n3 ≤ 9223372036854775807)
    (hx : n ≤ 1048576 → ∃ ds : List Dc, ds.length = n ∧ RdD w a ds) (hy : n2 ≤ 1048576 → ∃ hs : List Th, hs.length = n2 ∧ RdTh w b hs ∧ ∀ h ∈ hs, NodeOf w h) (hw : n3 ≤ 1048576 → ∃ hs : List Th, hs.length = n3 ∧ RdTh w d hs ∧ ∀ h ∈ hs, NodeOf w h) :
    ∃ Z Z2 Z3 : Int, (∀ u, Below w.heap.size w u → Calls Tryz.prog 4 #[.slice a n c, .int .i64 1048576] u fun e w' => e = .returned (.int .i64 Z) ∧ Below u.heap.size u w') ∧
      (0 ≤ Z → ∀ u, Below w.heap.size w u → Calls Tryz.prog 5 #[.agg #[.slice b n2 c2], .int .i64 Z] u fun e w' => e = .returned (.int .i64 Z2) ∧ Below u.heap.size u w') ∧
      (0 ≤ Z → 0 ≤ Z2 → ∀ u, Below w.heap.size w u → Calls Tryz.prog 5 #[.agg #[.slice d n3 c3], .int .i64 Z2] u fun e w' => e = .returned (.int .i64 Z3) ∧ Below u.heap.size u w') ∧
      (0 ≤ Z → 0 ≤ Z2 → 0 ≤ Z3 → ∃ (ds : List Dc) (xs ys : List Tg), ds.length = n ∧ xs.length = n2 ∧ ys.length = n3 ∧ RdD w a ds ∧ RdT w b xs ∧ RdT w d ys) := by
  by_cases h : n ≤ 1048576
  · obtain ⟨ds, rfl, hr⟩ := hx h
    have hZ := szD_range ds (1048576 - ds.length) (by omega)
    have hSZ := fun u (hu : Below w.heap.size w u) => szDeclS_in a c ds 1048576 u (hr.later hu) (by omega) (by omega) (by omega)
    generalize szD ds (1048576 - ds.length) = Z at *
    by_cases hz : Z < 0
    · exact ⟨Z, 0, 0, hSZ, fun h' => by omega, fun h' => by omega, fun h' => by omega⟩
    have hz0 : 0 ≤ Z := by omega
    have hz1 : Z ≤ 1048576 := by omega
    by_cases h2 : (n2 : Int) ≤ Z
    · obtain ⟨hs, rfl, hh, hk⟩ := hy (by omega)
      have hZ2 := szTl_range hs (Z - hs.length) (by omega)
      have hST := fun u (hu : Below w.heap.size w u) => szTerm_in b c2 hs Z u (hh.later hu) hz0 hz1 h2 _ rfl
      have hRT := fun hz2 => RdT_of hh hk (L := Z - hs.length) (by omega) (by omega) hz2
      generalize szTl hs (Z - hs.length) = Z2 at *
      by_cases hz2 : Z2 < 0
      · exact ⟨Z, Z2, 0, hSZ, fun _ => hST, fun _ h' => by omega, fun _ h' => by omega⟩
      have hz20 : 0 ≤ Z2 := by omega
      have hz21 : Z2 ≤ 1048576 := by omega
      by_cases h3 : (n3 : Int) ≤ Z2
      · obtain ⟨gs, rfl, gh, gk⟩ := hw (by omega)
        refine ⟨Z, Z2, szTl gs (Z2 - gs.length), hSZ, fun _ => hST, fun _ _ u hu => szTerm_in d c3 gs Z2 u (gh.later hu) hz20 hz21 h3 _ rfl, fun _ _ hz3 => ?_⟩
        obtain ⟨xs, hxl, hxs⟩ := hRT hz20
        obtain ⟨ys, hyl, hys⟩ := RdT_of gh gk (L := Z2 - gs.length) (by omega) (by omega) hz3
        exact ⟨ds, xs, ys, rfl, hxl, hyl, hr, hxs, hys⟩
      · exact ⟨Z, Z2, -1, hSZ, fun _ => hST, fun _ _ u hu => szTerm_out d n3 c3 Z2 u hz20 hz21 hn3 h3, fun _ _ h' => by omega⟩
    · exact ⟨Z, -1, 0, hSZ, fun _ u hu => szTerm_out b n2 c2 Z u hz0 hz1 hn2 h2, fun _ h' => by omega, fun _ h' => by omega⟩
  · exact ⟨-1, 0, 0, fun u hu => (szDeclS_out a n c 1048576 u (by omega) (by omega) hn (by omega)).mono (fun e w' hh => ⟨hh.1, by rw [hh.2]; exact Below.refl _ _⟩), fun h' => by omega, fun h' => by omega, fun h' => by omega⟩

theorem walk_FnExactSameWord (a : Option Addr) (n0 c : Nat) (hn0 : n0 ≤ 9223372036854775807) (b : Option Addr) (n c2 : Nat) (hn : n ≤ 9223372036854775807) (d : Option Addr) (m c3 : Nat) (hm : m ≤ 9223372036854775807) (w : World) (hG : GF w)
    (hx : n0 ≤ 1048576 → ∃ ds : List Dc, ds.length = n0 ∧ RdD w a ds) (hy : n ≤ 1048576 → ∃ hs : List Th, hs.length = n ∧ RdTh w b hs ∧ ∀ h ∈ hs, NodeOf w h) (hu : m ≤ 1048576 → ∃ hs : List Th, hs.length = m ∧ RdTh w d hs ∧ ∀ h ∈ hs, NodeOf w h) :
    Calls Tryz.prog 3 #[.slice a n0 c, .agg #[.slice b n c2], .agg #[.slice d m c3]] w fun e w' => e = .returned (.bool true) ∧ Below w.heap.size w w' := by
  obtain ⟨Z, Z2, Z3, h1, h2, h3, h4⟩ := sizes_dtt a b d n0 c n c2 m c3 w hn0 hn hm hx hy hu
  by_cases hz : Z < 0
  · exact law_no_FnExactSameWord a b d n0 c n c2 m c3 w Z Z2 Z3 (.inl hz) h1 h2 h3
  by_cases hz2 : Z2 < 0
  · exact law_no_FnExactSameWord a b d n0 c n c2 m c3 w Z Z2 Z3 (.inr ⟨by omega, .inl hz2⟩) h1 h2 h3
  by_cases hz3 : Z3 < 0
  · exact law_no_FnExactSameWord a b d n0 c n c2 m c3 w Z Z2 Z3 (.inr ⟨by omega, .inr ⟨by omega, hz3⟩⟩) h1 h2 h3
  obtain ⟨ds, xs, ys, rfl, hxl, hyl, hr, hxs, hys⟩ := h4 (by omega) (by omega) (by omega)
  exact law_yes_FnExactSameWord a b d c c2 n c3 m ds xs ys w hr hxs hxl hys hyl hG Z Z2 Z3 (by omega) (by omega) (by omega) h1 (h2 (by omega)) (h3 (by omega) (by omega))
end Go.Proofs.YtckidgpopbpagaaGreatDoor
