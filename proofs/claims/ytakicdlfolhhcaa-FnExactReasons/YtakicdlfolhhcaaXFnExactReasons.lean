/- The law FnExactReasons returns true, whatever it is handed. -/
import Derived.Test.YtakicdlfolhhcaaREJ
namespace Go.Proofs.Ytakicdlfolhhcaa
set_option linter.unusedVariables false
set_option linter.unusedSimpArgs false
open Go.RowKit

set_option maxHeartbeats 2000000 in
set_option maxRecDepth 100000 in
theorem law_yes_FnExactReasons (z : Int) (a : Option Addr) (n c : Nat) (x y : Int) (ls : List Lk) (w : World) (hr : RdK w a ls) (hn : ls.length = n) :
    Calls Try.prog 8 #[.agg #[.int .i64 z, .slice a n c], .int .i64 x, .int .i64 y] w fun e w' => e = .returned (.bool true) ∧ Below w.heap.size w w' := by
  have hn2 : n ≤ 1048576 := by rw [← hn]; exact hr.1
  have HSZ := kide (fun u => szForest_any z a n c u (by omega))
  have HTF := kide (fun u (hu : Below w.heap.size w u) => toForest_own z a c ls u (hr.later hu) n hn)
  obtain ⟨⟨ZL, Zb⟩, hZ, hR1, hR2⟩ := rea_ok z ls x y
  have HSP := kide (fun (g : Nat) (u : World) (hu : RdK u (some ⟨g, 0, none⟩) ls) => (specReasons_any z (some ⟨g, 0, none⟩) n n ls x y _ u hu hn hZ).mono fun e w' h => h.hold hR1 hR2)
  have HIM := kide (fun (g : Nat) (u : World) (hu : RdK u (some ⟨g, 0, none⟩) ls) => (implReasons_any z (some ⟨g, 0, none⟩) n n ls x y _ u hu hn hZ).mono fun e w' h => h.hold hR1 hR2)
  simp only [] at HSP HIM
  have hzz : (Zb != Zb) = false := by simp
  obtain ⟨NL, hNL⟩ : ∃ m, ZL.length = m := ⟨_, rfl⟩
  simp only [hNL] at HSP HIM
  have HNL := kide hNL
  have hi : (n : Int) ≤ 1048576 := by omega
  simp only [if_pos hi] at HSZ
  have hnl : ¬ (1048576 : Int) - n < 0 := by omega
  have X0 := kide (Bx.new w #[.int .i64 z, .slice a n c] 24)
  have B0 : Hid (Below w.heap.size w (w.alloc (Obj.cells #[.int .i64 z, .slice a n c] 24))) := (Below.refl _ _).alloc (Nat.le_refl _) _
  have hNL2 : NL ≤ 1048576 := by rw [← hNL]; exact hR1
  clear hr hn hi hR1 hR2 hNL hZ
  go_enter Try.func8, Try.ntmps8
  go_wp2_with fail
  generalize w.alloc (Obj.cells #[.int .i64 z, .slice a n c] 24) = w0 at *
  refine Calls.mono (HSZ.out _) ?_
  rintro e w1 ⟨rfl, hb1⟩
  have X1 := kide (X0.out.later hb1)
  have B1 := kide (B0.out.trans (hb1.mono B0.out.size))
  have c0 := X1.out.cell 0
  have c1 := X1.out.cell 1
  simp at c0 c1
  clear hb1 X0 B0
  go_wp2_with fail
  refine Calls.mono (HTF.out w1 B1.out) ?_
  rintro e w2 ⟨g2, rfl, h2, -, -, hb2⟩
  have X2 := kide (X1.out.later hb2)
  have B2 := kide (B1.out.trans (hb2.mono B1.out.size))
  have H2 := kide h2
  clear hb2 X1 B1 c0 c1 h2
  go_wp2_with fail
  refine Calls.mono (HSP.out g2 w2 H2.out.rd) ?_
  rintro e w3 ⟨a3, k3, rfl, H3, hb3⟩
  have X3 := kide (X2.out.later hb3)
  have B3 := kide (B2.out.trans (hb3.mono B2.out.size))
  have z3 : w.heap.size < w2.heap.size := X2.out.lt
  have HW3 := kide H3
  have zb3 := hb3.size
  have c0 := X3.out.cell 0
  have c1 := X3.out.cell 1
  simp at c0 c1
  clear hb3 H3 X2 B2 H2 HSP
  go_wp2_with fail
  refine Calls.mono (HTF.out w3 B3.out) ?_
  rintro e w4 ⟨gx, rfl, h4, zg4, zl4, hb4⟩
  have hbx : Below w4.heap.size w4 (w4.alloc (Obj.cells #[.int .i64 z, .slice (some ⟨gx, 0, none⟩) n n] 29)) := (Below.refl _ _).alloc (Nat.le_refl _) _
  have XX := kide (Bx.new w4 #[.int .i64 z, .slice (some ⟨gx, 0, none⟩) n n] 29)
  have X4 := kide ((X3.out.later hb4).later hbx)
  have B4 := kide ((B3.out.trans (hb4.mono B3.out.size)).trans (hbx.mono (Nat.le_trans B3.out.size hb4.size)))
  have HW4 := kide ((HW3.out.later hb4).later hbx)
  have HX4 := kide (h4.later hbx)
  clear hb4 X3 B3 HW3 h4 hbx c0 c1
  go_wp2_with fail
  generalize w4.alloc (Obj.cells #[.int .i64 z, .slice (some ⟨gx, 0, none⟩) n n] 29) = w4a at *
  refine Calls.mono (HIM.out gx w4a HX4.out.rd) ?_
  rintro e w5 ⟨a5, k5, rfl, H5, hb5⟩
  have z4 : w4.heap.size < w4a.heap.size := XX.out.lt
  have z5 := hb5.size
  have Y5 := kide (Cr.mk (X4.out.later hb5) (XX.out.later hb5) (HW4.out.later hb5) (HX4.out.later hb5) H5 (B4.out.trans (hb5.mono B4.out.size)))
  clear hb5 X4 XX B4 HW4 HX4 H5
  go_wp2_with fail
  refine Calls.mono (eqInt64S_hold a5 a3 k5 k3 NL _ _ _ _ ZL w5 Y5.out.hg Y5.out.hw) ?_
  rintro e w6 ⟨rfl, hb6⟩
  have Y6 := kide (Y5.out.later hb6)
  have z6 := hb6.size
  clear hb6 Y5
  have c0 := Y6.out.s.cell 0
  have c1 := Y6.out.s.cell 1
  have d0 := Y6.out.xx.cell 0
  have d1 := Y6.out.xx.cell 1
  simp at c0 c1 d0 d1
  go_wp2_with fail
  go_region_held3 (fun u => u.cell? ⟨w.heap.size, 0, none⟩ = some (Value.int .i64 z) ∧ u.cell? ⟨w.heap.size, 1, none⟩ = some (Value.slice a n c) ∧ u.cell? ⟨w4.heap.size, 0, none⟩ = some (Value.int .i64 z) ∧ u.cell? ⟨w4.heap.size, 1, none⟩ = some (Value.slice (some { block := gx, off := 0 }) n n)) (simp [*])
    (first
      | (go_at_call 15; refine Calls.mono (eqForest_hold z (some ⟨gx, 0, none⟩) (some ⟨g7, 0, none⟩) n n n gx (gx + 1) g7 (g7 + 1) ls _ Y7.out.hx R7.out) ?_; rintro e w8 ⟨rfl, hb8⟩; have z8 := hb8.size; have Y8 := kide (Y7.out.later hb8); have c80 := Y8.out.s.cell 0; have c81 := Y8.out.s.cell 1; have d80 := Y8.out.xx.cell 0; have d81 := Y8.out.xx.cell 1; simp at c80 c81 d80 d81)
      | (go_at_call 13; refine Calls.mono (HTF.out _ ?_) ?_; exact Y6.out.bl.drew; rintro e w7 ⟨g7, rfl, r7, -, -, hb7⟩; replace hb7 := kundrew hb7; have z7 := hb7.size; have Y7 := kide (Cr.later (u := w6) Y6.out hb7); have R7 := kide r7; have c70 := Y7.out.s.cell 0; have c71 := Y7.out.s.cell 1; have d70 := Y7.out.xx.cell 0; have d71 := Y7.out.xx.cell 1; simp at c70 c71 d70 d71))
  clear Y6 Y7 R7 c0 c1 d0 d1 c70 c71 d70 d71 c80 c81
  go_wp2_with fail
  have zl8 : w4.heap.size < w8.heap.size := Y8.out.xx.lt
  refine Calls.mono (markForest_hold z (some ⟨gx, 0, none⟩) n n gx (gx + 1) ls w8 Y8.out.hx (by omega)) ?_
  rintro e w9 ⟨rfl, -, ho9⟩
  have X9 := kide (Y8.out.s.out ho9 (by omega))
  have HW9 := kide (Y8.out.hw.out ho9 (by omega))
  have HG9 := kide (Y8.out.hg.out ho9 (by omega))
  have B9 := kide (belowOut Y8.out.bl ho9 (by omega) (Nat.le_refl _))
  clear ho9 Y8 d80 d81
  generalize hK : 1 + n * 3 = K
  have hK0 : ¬ (K : Int) < 0 := by omega
  clear hK
  go_wp2_with fail
  refine Calls.mono (eqInt64S_hold a5 a3 k5 k3 NL _ _ _ _ ZL w9 HG9.out HW9.out) ?_
  rintro e w10 ⟨rfl, hb10⟩
  have X10 := kide (X9.out.later hb10)
  have HW10 := kide (HW9.out.later hb10)
  have HG10 := kide (HG9.out.later hb10)
  have B10 := kide (B9.out.trans (hb10.mono B9.out.size))
  clear hb10 X9 HW9 HG9 B9
  go_wp2_with fail
  refine Calls.mono (markInt64S_hold a5 k5 NL _ _ ZL w10 HG10.out) ?_
  rintro e w11 ⟨rfl, hm11, ho11⟩
  have X11 := kide (X10.out.out ho11 (by omega))
  have HW11 := kide (HW10.out.out ho11 (by omega))
  have B11 := kide (belowOut B10.out ho11 (by omega) (Nat.le_refl _))
  have M11 := kide hm11
  clear ho11 X10 HW10 HG10 B10 hm11
  have HHL := kide (fun u (hu : MkI u a5 NL) => heldInt64S_mk a5 k5 NL u hu (by omega))
  generalize hV : 1 + NL = V at *
  have hvv : ((V : Int) != (V : Int)) = false := by simp
  have hv0 : ¬ (V : Int) < 0 := by omega
  clear hV
  go_wp2_with fail
  refine Calls.mono (HHL.out w11 M11.out) ?_
  rintro e w12 ⟨rfl, rfl⟩
  have c0 := X11.out.cell 0
  have c1 := X11.out.cell 1
  simp at c0 c1
  go_wp2_with fail
  refine Calls.mono (HTF.out w12 B11.out) ?_
  rintro e w13 ⟨g13, rfl, h13, -, -, hb13⟩
  have HW13 := kide (HW11.out.later hb13)
  have B13 := kide (B11.out.trans (hb13.mono B11.out.size))
  have M13 := kide (M11.out.later hb13)
  have R13 := kide h13
  clear hb13 X11 HW11 B11 M11 h13 c0 c1
  go_wp2_with fail
  refine Calls.mono (HIM.out g13 w13 R13.out.rd) ?_
  rintro e w14 ⟨a14, k14, rfl, H14, hb14⟩
  have HW14 := kide (HW13.out.later hb14)
  have B14 := kide (B13.out.trans (hb14.mono B13.out.size))
  have M14 := kide (M13.out.later hb14)
  have HH14 := kide H14
  clear hb14 HW13 B13 M13 R13 H14
  go_wp2_with fail
  refine Calls.mono (eqInt64S_hold a14 a3 k14 k3 NL _ _ _ _ ZL w14 HH14.out HW14.out) ?_
  rintro e w15 ⟨rfl, hb15⟩
  have B15 := kide (B14.out.trans (hb15.mono B14.out.size))
  have M15 := kide (M14.out.later hb15)
  clear hb15 HW14 B14 M14 HH14
  go_wp2_with fail
  refine Calls.mono (HHL.out w15 M15.out) ?_
  rintro e w16 ⟨rfl, rfl⟩
  go_wp2_with fail
  go_ret
  exact ⟨rfl, B15.out⟩

theorem law_no_FnExactReasons (z : Int) (a : Option Addr) (n c : Nat) (x y : Int) (w : World) (hn : n ≤ 9223372036854775807) (h : ¬ n ≤ 1048576) :
    Calls Try.prog 8 #[.agg #[.int .i64 z, .slice a n c], .int .i64 x, .int .i64 y] w fun e w' => e = .returned (.bool true) ∧ Below w.heap.size w w' := by
  have HSZ := kide (fun u => szForest_any z a n c u hn)
  have hi : ¬ (n : Int) ≤ 1048576 := by omega
  simp only [if_neg hi] at HSZ
  have s0 := St.start w (.cells #[.int .i64 z, .slice a n c] 24)
  go_enter Try.func8, Try.ntmps8
  go_wp2_with fail
  refine Calls.mono (HSZ.out _) ?_
  rintro e w1 ⟨rfl, hb1⟩
  have s1 := s0.next hb1
  go_wp2_with fail
  go_ret
  exact ⟨rfl, s1.below⟩

theorem walk_FnExactReasons (z : Int) (a : Option Addr) (n c : Nat) (hn : n ≤ 9223372036854775807) (x : Int) (_ : (Lit.int .i64 x).wf = true) (y : Int) (_ : (Lit.int .i64 y).wf = true) (w : World) (hx : n ≤ 1048576 → ∃ ls : List Lk, ls.length = n ∧ RdK w a ls) :
    Calls Try.prog 8 #[.agg #[.int .i64 z, .slice a n c], .int .i64 x, .int .i64 y] w fun e w' => e = .returned (.bool true) ∧ Below w.heap.size w w' := by
  by_cases h : n ≤ 1048576
  · obtain ⟨ls, hl, hr⟩ := hx h
    exact law_yes_FnExactReasons z a n c x y ls w hr hl
  · exact law_no_FnExactReasons z a n c x y w hn h

end Go.Proofs.Ytakicdlfolhhcaa
