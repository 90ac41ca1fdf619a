/- The law FnExactUndo returns true, whatever it is handed. -/
import Derived.Test.YtelndjdbfapahaaHJ
namespace Go.Proofs.Ytelndjdbfapahaa
set_option linter.unusedVariables false
set_option linter.unusedSimpArgs false
open Go.RowKit

set_option maxHeartbeats 2000000 in
set_option maxRecDepth 100000 in
theorem law_yes_FnExactUndo (z : Int) (a : Option Addr) (n c : Nat) (ls : List Lk) (x : Int) (w : World) (hr : RdK w a ls) (hn : ls.length = n) :
    Calls Try.prog 7 #[.agg #[.int .i64 z, .slice a n c], .int .i64 x] w fun e w' => e = .returned (.bool true) ∧ Below w.heap.size w w' := by
  have hn2 : n ≤ 1048576 := by rw [← hn]; exact hr.1
  have HSZ := kide (fun u => szForest_any z a n c u (by omega))
  have HTF := kide (fun u (hu : Below w.heap.size w u) => toForest_own z a c ls u (hr.later hu) n hn)
  have HSP := kide (fun (g : Nat) (u : World) (hu : RdK u (some ⟨g, 0, none⟩) ls) => specUndo_any z g n n ls x u hu hn (Nat.le_refl _))
  have HIM := kide (fun (g : Nat) (u : World) (hu : RdK u (some ⟨g, 0, none⟩) ls) => implUndo_any z (some ⟨g, 0, none⟩) n n ls x u hu hn)
  obtain ⟨hRl, hRx⟩ := undoR_ok z ls x hr.1 hr.2.1
  generalize undoR z ls x = R at *
  obtain ⟨Rz, ZL⟩ := R
  unfold RetU at HSP HIM
  simp only [] at HSP HIM hRl hRx
  have hi : (n : Int) ≤ 1048576 := by omega
  simp only [if_pos hi] at HSZ
  have hnl : ¬ (1048576 : Int) - n < 0 := by omega
  have X0 := kide (Bx.new w #[.int .i64 z, .slice a n c] 24)
  have B0 : Hid (Below w.heap.size w (w.alloc (Obj.cells #[.int .i64 z, .slice a n c] 24))) := (Below.refl _ _).alloc (Nat.le_refl _) _
  clear hr hn hi
  go_enter Try.func7, Try.ntmps7
  go_wp2_with fail
  generalize w.alloc (Obj.cells #[.int .i64 z, .slice a n c] 24) = w0 at *
  refine Calls.mono (HSZ.out _) ?_
  rintro e w1 ⟨rfl, hb1⟩
  have X1 := kide (X0.out.later hb1)
  have B1 := kide (B0.out.trans (hb1.mono B0.out.size))
  have c0 := X1.out.cell 0
  have c1 := X1.out.cell 1
  simp at c0 c1
  clear hb1 X0 B0
  go_wp2_with fail
  refine Calls.mono (HTF.out w1 B1.out) ?_
  rintro e w2 ⟨g2, rfl, h2, -, -, hb2⟩
  have X2 := kide (X1.out.later hb2)
  have B2 := kide (B1.out.trans (hb2.mono B1.out.size))
  have H2 := kide h2
  clear hb2 X1 B1 c0 c1 h2
  go_wp2_with fail
  refine Calls.mono (HSP.out g2 w2 H2.out.rd) ?_
  rintro e w3 ⟨v3, rfl, o3, hb3⟩
  obtain ⟨a3, k3, rfl, H3⟩ := OK3.hold o3 hRl hRx
  have X3 := kide (X2.out.later hb3)
  have B3 := kide (B2.out.trans (hb3.mono B2.out.size))
  have z3 : w.heap.size < w2.heap.size := X2.out.lt
  have HW3 := kide H3
  have hbx : Below w3.heap.size w3 (w3.alloc (Obj.cells #[.int .i64 Rz, .slice a3 ZL.length k3] 29)) := (Below.refl _ _).alloc (Nat.le_refl _) _
  have XW := kide (Bx.new w3 #[.int .i64 Rz, .slice a3 ZL.length k3] 29)
  have X3a := kide (X3.out.later hbx)
  have B3a := kide (B3.out.trans (hbx.mono B3.out.size))
  have HW3a := kide (HW3.out.later hbx)
  have zb3 := hb3.size
  have c0 := X3a.out.cell 0
  have c1 := X3a.out.cell 1
  simp at c0 c1
  clear o3 hb3 H3 X2 B2 H2 X3 B3 HW3 hbx HSP
  go_wp2_with fail
  generalize w3.alloc (Obj.cells #[.int .i64 Rz, .slice a3 ZL.length k3] 29) = w3a at *
  refine Calls.mono (HTF.out w3a B3a.out) ?_
  rintro e w4 ⟨gx, rfl, h4, zg4, zl4, hb4⟩
  have zw3 : w3.heap.size < w3a.heap.size := XW.out.lt
  have hbx : Below w4.heap.size w4 (w4.alloc (Obj.cells #[.int .i64 z, .slice (some ⟨gx, 0, none⟩) n n] 29)) := (Below.refl _ _).alloc (Nat.le_refl _) _
  have XX := kide (Bx.new w4 #[.int .i64 z, .slice (some ⟨gx, 0, none⟩) n n] 29)
  have X4 := kide ((X3a.out.later hb4).later hbx)
  have XW4 := kide ((XW.out.later hb4).later hbx)
  have B4 := kide ((B3a.out.trans (hb4.mono B3a.out.size)).trans (hbx.mono (Nat.le_trans B3a.out.size hb4.size)))
  have HW4 := kide ((HW3a.out.later hb4).later hbx)
  have HX4 := kide (h4.later hbx)
  clear hb4 X3a XW B3a HW3a h4 hbx c0 c1
  go_wp2_with fail
  generalize w4.alloc (Obj.cells #[.int .i64 z, .slice (some ⟨gx, 0, none⟩) n n] 29) = w4a at *
  refine Calls.mono (HIM.out gx w4a HX4.out.rd) ?_
  rintro e w5 ⟨v5, rfl, o5, hb5⟩
  obtain ⟨a5, k5, rfl, H5⟩ := OK3.hold o5 hRl hRx
  have z4 : w4.heap.size < w4a.heap.size := XX.out.lt
  have z5 := hb5.size
  have hbx : Below w5.heap.size w5 (w5.alloc (Obj.cells #[.int .i64 Rz, .slice a5 ZL.length k5] 29)) := (Below.refl _ _).alloc (Nat.le_refl _) _
  have XG := kide (Bx.new w5 #[.int .i64 Rz, .slice a5 ZL.length k5] 29)
  have X5 := kide ((X4.out.later hb5).later hbx)
  have XW5 := kide ((XW4.out.later hb5).later hbx)
  have XX5 := kide ((XX.out.later hb5).later hbx)
  have B5 := kide ((B4.out.trans (hb5.mono B4.out.size)).trans (hbx.mono (Nat.le_trans B4.out.size hb5.size)))
  have HW5 := kide ((HW4.out.later hb5).later hbx)
  have HX5 := kide ((HX4.out.later hb5).later hbx)
  have HG5 := kide (H5.later hbx)
  clear hb5 X4 XW4 XX B4 HW4 HX4 o5 H5 hbx
  have Y5 := kide (Cj.mk X5.out XW5.out XX5.out XG.out HW5.out HX5.out HG5.out B5.out)
  clear X5 XW5 XX5 XG HW5 HX5 HG5 B5
  have c0 := Y5.out.xw.cell 0
  have c1 := Y5.out.xw.cell 1
  simp at c0 c1
  go_wp2_with fail
  generalize w5.alloc (Obj.cells #[.int .i64 Rz, .slice a5 ZL.length k5] 29) = w5a at *
  refine Calls.mono (eqForest_hold Rz a5 a3 k5 k3 ZL.length _ _ _ _ ZL w5a Y5.out.hg Y5.out.hw) ?_
  rintro e w6 ⟨rfl, hb6⟩
  have Y6 := kide (Y5.out.later hb6)
  clear hb6 Y5 c0 c1
  have c0 := Y6.out.s.cell 0
  have c1 := Y6.out.s.cell 1
  have d0 := Y6.out.xx.cell 0
  have d1 := Y6.out.xx.cell 1
  simp at c0 c1 d0 d1
  go_wp2_with fail
  go_region_held3 (fun u => u.cell? ⟨w.heap.size, 0, none⟩ = some (Value.int .i64 z) ∧ u.cell? ⟨w.heap.size, 1, none⟩ = some (Value.slice a n c) ∧ u.cell? ⟨w4.heap.size, 0, none⟩ = some (Value.int .i64 z) ∧ u.cell? ⟨w4.heap.size, 1, none⟩ = some (Value.slice (some { block := gx, off := 0 }) n n)) (simp [*])
    (first
      | (go_at_call 15; refine Calls.mono (eqForest_hold z (some ⟨gx, 0, none⟩) (some ⟨g7, 0, none⟩) n n n gx (gx + 1) g7 (g7 + 1) ls _ Y7.out.hx R7.out) ?_; rintro e w8 ⟨rfl, hb8⟩; have Y8 := kide (Y7.out.later hb8); have c80 := Y8.out.s.cell 0; have c81 := Y8.out.s.cell 1; have d80 := Y8.out.xx.cell 0; have d81 := Y8.out.xx.cell 1; simp at c80 c81 d80 d81)
      | (go_at_call 13; refine Calls.mono (HTF.out _ ?_) ?_; exact Y6.out.bl.drew; rintro e w7 ⟨g7, rfl, r7, -, -, hb7⟩; replace hb7 := kundrew hb7; have Y7 := kide (Cj.later (u := w6) Y6.out hb7); have R7 := kide r7; have c70 := Y7.out.s.cell 0; have c71 := Y7.out.s.cell 1; have d70 := Y7.out.xx.cell 0; have d71 := Y7.out.xx.cell 1; simp at c70 c71 d70 d71))
  clear Y6 Y7 R7 c0 c1 d0 d1 c70 c71 d70 d71 c80 c81
  go_wp2_with fail
  have zl8 : w5.heap.size < w8.heap.size := Y8.out.xg.lt
  refine Calls.mono (markForest_hold z (some ⟨gx, 0, none⟩) n n gx (gx + 1) ls w8 Y8.out.hx (by omega)) ?_
  rintro e w9 ⟨rfl, -, ho9⟩
  have X9 := kide (Y8.out.s.out ho9 (by omega))
  have XW9 := kide (Y8.out.xw.out ho9 (by omega))
  have XG9 := kide (Y8.out.xg.out ho9 (by omega))
  have HW9 := kide (Y8.out.hw.out ho9 (by omega))
  have HG9 := kide (Y8.out.hg.out ho9 (by omega))
  have B9 := kide (belowOut Y8.out.bl ho9 (by omega) (Nat.le_refl _))
  clear ho9 Y8 d80 d81
  have c0 := XW9.out.cell 0
  have c1 := XW9.out.cell 1
  have d0 := XG9.out.cell 0
  have d1 := XG9.out.cell 1
  simp at c0 c1 d0 d1
  generalize hK : 1 + n * 3 = K
  have hK0 : ¬ (K : Int) < 0 := by omega
  clear hK
  go_wp2_with fail
  refine Calls.mono (eqForest_hold Rz a5 a3 k5 k3 ZL.length _ _ _ _ ZL w9 HG9.out HW9.out) ?_
  rintro e w10 ⟨rfl, hb10⟩
  have X10 := kide (X9.out.later hb10)
  have XW10 := kide (XW9.out.later hb10)
  have XG10 := kide (XG9.out.later hb10)
  have HW10 := kide (HW9.out.later hb10)
  have HG10 := kide (HG9.out.later hb10)
  have B10 := kide (B9.out.trans (hb10.mono B9.out.size))
  clear hb10 X9 XW9 XG9 HW9 HG9 B9 c0 c1 d0 d1
  have d0 := XG10.out.cell 0
  have d1 := XG10.out.cell 1
  simp at d0 d1
  go_wp2_with fail
  have zl10 : w5.heap.size < w10.heap.size := XG10.out.lt
  refine Calls.mono (markForest_hold Rz a5 k5 ZL.length _ _ ZL w10 HG10.out (by omega)) ?_
  rintro e w11 ⟨rfl, hm11, ho11⟩
  have X11 := kide (X10.out.out ho11 (by omega))
  have XW11 := kide (XW10.out.out ho11 (by omega))
  have XG11 := kide (XG10.out.out ho11 (by omega))
  have HW11 := kide (HW10.out.out ho11 (by omega))
  have B11 := kide (belowOut B10.out ho11 (by omega) (Nat.le_refl _))
  have M11 := kide hm11
  clear ho11 X10 XW10 XG10 HW10 HG10 B10 hm11 d0 d1
  have d0 := XG11.out.cell 0
  have d1 := XG11.out.cell 1
  simp at d0 d1
  have HHL := kide (fun u (hu : MkK u a5 ZL.length 1) => heldForest_hold Rz a5 k5 ZL.length u hu (by omega))
  generalize hV : 1 + ZL.length * 3 = V at *
  have hvv : ((V : Int) != (V : Int)) = false := by simp
  have hv0 : ¬ (V : Int) < 0 := by omega
  clear hV
  go_wp2_with fail
  refine Calls.mono (HHL.out w11 M11.out) ?_
  rintro e w12 ⟨rfl, hb12⟩
  have X12 := kide (X11.out.later hb12)
  have XW12 := kide (XW11.out.later hb12)
  have XG12 := kide (XG11.out.later hb12)
  have HW12 := kide (HW11.out.later hb12)
  have B12 := kide (B11.out.trans (hb12.mono B11.out.size))
  have M12 := kide (M11.out.later hb12)
  clear hb12 X11 XW11 XG11 HW11 B11 M11 d0 d1
  have c0 := X12.out.cell 0
  have c1 := X12.out.cell 1
  simp at c0 c1
  go_wp2_with fail
  refine Calls.mono (HTF.out w12 B12.out) ?_
  rintro e w13 ⟨g13, rfl, h13, -, -, hb13⟩
  have XW13 := kide (XW12.out.later hb13)
  have XG13 := kide (XG12.out.later hb13)
  have HW13 := kide (HW12.out.later hb13)
  have B13 := kide (B12.out.trans (hb13.mono B12.out.size))
  have M13 := kide (M12.out.later hb13)
  have R13 := kide h13
  clear hb13 X12 XW12 XG12 HW12 B12 M12 h13 c0 c1
  go_wp2_with fail
  refine Calls.mono (HIM.out g13 w13 R13.out.rd) ?_
  rintro e w14 ⟨v14, rfl, o14, hb14⟩
  obtain ⟨a14, k14, rfl, H14⟩ := OK3.hold o14 hRl hRx
  have hbx : Below w14.heap.size w14 (w14.alloc (Obj.cells #[.int .i64 Rz, .slice a14 ZL.length k14] 29)) := (Below.refl _ _).alloc (Nat.le_refl _) _
  have XW14 := kide ((XW13.out.later hb14).later hbx)
  have XG14 := kide ((XG13.out.later hb14).later hbx)
  have HW14 := kide ((HW13.out.later hb14).later hbx)
  have B14 := kide ((B13.out.trans (hb14.mono B13.out.size)).trans (hbx.mono (Nat.le_trans B13.out.size hb14.size)))
  have M14 := kide ((M13.out.later hb14).later hbx)
  have HH14 := kide (H14.later hbx)
  clear hb14 XW13 XG13 HW13 B13 M13 R13 o14 H14 hbx
  have c0 := XW14.out.cell 0
  have c1 := XW14.out.cell 1
  simp at c0 c1
  go_wp2_with fail
  generalize w14.alloc (Obj.cells #[.int .i64 Rz, .slice a14 ZL.length k14] 29) = w14a at *
  refine Calls.mono (eqForest_hold Rz a14 a3 k14 k3 ZL.length _ _ _ _ ZL w14a HH14.out HW14.out) ?_
  rintro e w15 ⟨rfl, hb15⟩
  have XG15 := kide (XG14.out.later hb15)
  have B15 := kide (B14.out.trans (hb15.mono B14.out.size))
  have M15 := kide (M14.out.later hb15)
  clear hb15 XW14 XG14 HW14 B14 M14 HH14 c0 c1
  have d0 := XG15.out.cell 0
  have d1 := XG15.out.cell 1
  simp at d0 d1
  go_wp2_with fail
  refine Calls.mono (HHL.out w15 M15.out) ?_
  rintro e w16 ⟨rfl, hb16⟩
  have B16 := kide (B15.out.trans (hb16.mono B15.out.size))
  clear hb16
  go_wp2_with fail
  go_ret
  exact ⟨rfl, B16.out⟩

theorem law_no_FnExactUndo (z : Int) (a : Option Addr) (n c : Nat) (x : Int) (w : World) (hn : n ≤ 9223372036854775807) (h : ¬ n ≤ 1048576) :
    Calls Try.prog 7 #[.agg #[.int .i64 z, .slice a n c], .int .i64 x] w fun e w' => e = .returned (.bool true) ∧ Below w.heap.size w w' := by
  have HSZ := kide (fun u => szForest_any z a n c u hn)
  have hi : ¬ (n : Int) ≤ 1048576 := by omega
  simp only [if_neg hi] at HSZ
  have s0 := St.start w (.cells #[.int .i64 z, .slice a n c] 24)
  go_enter Try.func7, Try.ntmps7
  go_wp2_with fail
  refine Calls.mono (HSZ.out _) ?_
  rintro e w1 ⟨rfl, hb1⟩
  have s1 := s0.next hb1
  go_wp2_with fail
  go_ret
  exact ⟨rfl, s1.below⟩

theorem walk_FnExactUndo (z : Int) (a : Option Addr) (n c : Nat) (hn : n ≤ 9223372036854775807) (x : Int) (wx : (Lit.int .i64 x).wf = true) (w : World) (hx : n ≤ 1048576 → ∃ ls : List Lk, ls.length = n ∧ RdK w a ls) :
    Calls Try.prog 7 #[.agg #[.int .i64 z, .slice a n c], .int .i64 x] w fun e w' => e = .returned (.bool true) ∧ Below w.heap.size w w' := by
  by_cases h : n ≤ 1048576
  · obtain ⟨ls, hl, hr⟩ := hx h
    exact law_yes_FnExactUndo z a n c ls x w hr hl
  · exact law_no_FnExactUndo z a n c x w hn h

end Go.Proofs.Ytelndjdbfapahaa
