/- The law FnExactSaveSession returns true, whatever it is handed. -/
import Derived.Test.YtofdkdaehhpgbaaGreatDoorVSQ
import Derived.Test.YtofdkdaehhpgbaaGreatDoorWSB
import Derived.Test.YtofdkdaehhpgbaaGreatDoorZKO
import Derived.Test.YtofdkdaehhpgbaaGreatDoorSSJ
import Derived.Test.YtofdkdaehhpgbaaGreatDoorSSK
namespace Go.Proofs.YtofdkdaehhpgbaaGreatDoor
set_option linter.unusedVariables false
set_option linter.unusedSimpArgs false
open Go.RowKit

theorem same_flat {xs ms : List Sg} (h : ms.map Sg.ct = xs.map Sg.ct) : (ms.flatMap Sg.ls).length = (xs.flatMap Sg.ls).length := by
  have e : ∀ l : List Sg, (l.flatMap Sg.ls).length = ((l.map Sg.ct).flatMap Sc.ls).length := fun l => by
    induction l with
    | nil => rfl
    | cons y t ih => rw [List.flatMap_cons, List.map_cons, List.flatMap_cons, List.length_append, List.length_append, ih]; simp [Sg.ct]
  rw [e, e, h]
theorem len_lits {w : World} {a : Option Addr} {xs : List Sg} (h : RdS w a xs) : ∀ x ∈ xs, ∀ y ∈ x.ls, y.ss.length ≤ 1048576 ∧ y.ts.length ≤ 1048576 := fun x hx y hy => by
  obtain ⟨r1, r2, -⟩ := flat_mem h y (List.mem_flatMap.2 ⟨x, hx, hy⟩)
  exact ⟨r1.1, r2.1⟩
set_option maxHeartbeats 4000000 in
set_option maxRecDepth 100000 in
theorem law_yes_FnExactSaveSession (a b : Option Addr) (c e m : Nat) (nx Z : Int) (ds : List Dc) (xs : List Sg) (w : World) (hr : RdD w a ds) (hs : RdS w b xs) (hm : xs.length = m) (hT : (xs.flatMap Sg.ls).length ≤ 1048576) (hG : GF w) (hnx : in64 nx) (hz : 0 ≤ Z)
    (HSZ : Hid (∀ u, Below w.heap.size w u → Calls Tryz.prog 5 #[.agg #[.slice a ds.length c, .slice b m e, .int .i64 nx], .int .i64 1048576] u fun e w' => e = .returned (.int .i64 Z) ∧ Below u.heap.size u w')) :
    Calls Tryz.prog 4 #[.agg #[.slice a ds.length c, .slice b m e, .int .i64 nx]] w fun e w' => e = .returned (.bool true) ∧ Below w.heap.size w w' := by
  have HG := kide (fun u (hu : Below w.heap.size w u) => hG.later hu)
  have HTS := kide (fun u (hu : Below w.heap.size w u) => toSession_own a b c e m nx ds xs u (hr.later hu) (hs.later hu) hm)
  have HM := kide hm
  have HT := kide hT
  have hm2 : m ≤ 1048576 := by rw [← hm]; exact hs.1
  have hd2 : ds.length ≤ 1048576 := hr.1
  have B0 := kide (ses_box w (.cells #[Value.slice a ds.length c, Value.slice b m e, Value.int .i64 nx] 25))
  have X0 : Hid (Bz (w.alloc (.cells #[Value.slice a ds.length c, Value.slice b m e, Value.int .i64 nx] 25)) w.heap.size #[Value.slice a ds.length c, Value.slice b m e, Value.int .i64 nx] 25) := Bz.new _ _ _
  have HDL : Hid (∃ dn, ds.length = dn) := ⟨_, rfl⟩
  clear hr hs hm hT hG
  obtain ⟨dn, hdn⟩ := HDL.out
  have HDN := kide hdn
  rw [hdn] at HSZ HTS B0 X0 hd2
  rw [hdn]
  clear hdn HDL
  have HLR := kide (save_len ds (xs.map Sg.ct) nx)
  have HSPE : Hid (∀ (u : World) (g1 g2 : Nat) (ms : List Sg), Below w.heap.size w u → ms.map Sg.ct = xs.map Sg.ct → RdD u (some ⟨g1, 0, none⟩) ds → RdS u (some ⟨g2, 0, none⟩) ms → Calls Tryz.prog 12 #[.agg #[.slice (some ⟨g1, 0, none⟩) dn dn, .slice (some ⟨g2, 0, none⟩) m m, .int .i64 nx]] u (RetGB (saveR ds (xs.map Sg.ct) nx) (saveR ds (xs.map Sg.ct) nx).length u)) := fun u g1 g2 ms hu hms hd hs => by
    have hmm : ms.length = m := by have := congrArg List.length hms; simp at this; rw [this]; exact HM.out
    have := specSave_any g1 0 dn dn g2 0 m m nx ds ms u hd HDN.out hs hmm hnx (fun u' hu' => by
      have := specSession_any (some ⟨g1, 0, none⟩) (some ⟨g2, 0, none⟩) dn m m nx ds ms u' (hd.later hu') (hs.later hu') hmm (by rw [same_flat hms]; exact HT.out) hnx (by rw [HDN.out]; exact Nat.le_refl _)
      rw [HDN.out] at this
      exact this)
    rw [hms] at this
    exact Calls.mono this fun e w' h => h.g HLR.out
  have HIMP : Hid (∀ (u : World) (g1 g2 : Nat) (ms : List Sg), Below w.heap.size w u → ms.map Sg.ct = xs.map Sg.ct → RdD u (some ⟨g1, 0, none⟩) ds → RdS u (some ⟨g2, 0, none⟩) ms → (∀ x ∈ ms, x.la ≠ none) → Calls Tryz.prog 13 #[.agg #[.slice (some ⟨g1, 0, none⟩) dn dn, .slice (some ⟨g2, 0, none⟩) m m, .int .i64 nx]] u (RetGB (saveR ds (xs.map Sg.ct) nx) (saveR ds (xs.map Sg.ct) nx).length u)) := fun u g1 g2 ms hu hms hd hs hnn => by
    have hmm : ms.length = m := by have := congrArg List.length hms; simp at this; rw [this]; exact HM.out
    have := implSave_any (some ⟨g1, 0, none⟩) (some ⟨g2, 0, none⟩) dn dn m m nx ds ms u hd HDN.out hs hmm hnx (fun u' hu' => by
      have := implSession_any (some ⟨g1, 0, none⟩) (some ⟨g2, 0, none⟩) dn m m nx ds ms u' (hd.later hu') (hs.later hu') hmm (by rw [same_flat hms]; exact HT.out) hnn ((HG.out u hu).later hu') hnx (by rw [HDN.out]; exact Nat.le_refl _)
      rw [HDN.out] at this
      exact this)
    rw [hms] at this
    exact Calls.mono this fun e w' h => h.g HLR.out
  generalize saveR ds (xs.map Sg.ct) nx = R at *
  obtain ⟨rn, hrn⟩ : ∃ x, R.length = x := ⟨_, rfl⟩
  have HEQ : Hid (∀ (u : World) (c1 c2 : Nat) (a1 a2 : Option Addr), RdB u a1 R → RdB u a2 R → Calls Tryz.prog 14 #[.slice a1 rn c1, .slice a2 rn c2] u fun e w' => e = .returned (.bool true) ∧ Below u.heap.size u w') := fun u c1 c2 a1 a2 r1 r2 => eqByteS_same a1 a2 c1 c2 rn R u r1 r2 hrn (by rw [← hrn]; exact HLR.out)
  rw [hrn] at HSPE HIMP
  unfold RetGB at HSPE HIMP
  clear hrn HLR
  go_enter Tryz.func4, Tryz.ntmps4
  go_wp2_with fail
  generalize w.alloc (.cells #[Value.slice a dn c, Value.slice b m e, Value.int .i64 nx] 25) = w0 at *
  refine Calls.mono (HSZ.out _ B0.out) ?_
  rintro e1 w1 ⟨rfl, hb1⟩
  have B1 := kide (B0.out.trans (hb1.mono B0.out.size))
  have X1 := kide (X0.out.later hb1)
  clear hb1  B0 X0
  have x0 := X1.out.cell 0
  have x1 := X1.out.cell 1
  have x2 := X1.out.cell 2
  have xl := X1.out.lt
  simp at x0 x1 x2
  go_wp2_with fail
  refine Calls.mono (HTS.out _ B1.out) ?_
  rintro e2 w2 ⟨g1, g2, m2, rfl, hm2, r2, s2, nn2, hb2, -, -, -, fz, rz, rs2⟩
  have B2 := kide (B1.out.trans (hb2.mono B1.out.size))
  have X2 := kide (X1.out.later hb2)
  have HSP := kide (HSPE.out w2 g1 g2 m2 B2.out hm2 r2 s2)
  clear hb2 r2 s2 nn2 hm2 rs2 B1 X1
  clear x0 x1 x2 xl
  go_wp2_with fail
  refine Calls.mono (HSP.out) ?_
  rintro e3 w3 ⟨va, vc, rfl, hrs, -, hb3⟩
  have B3 := kide (B2.out.trans (hb3.mono B2.out.size))
  have X3 := kide (X2.out.later hb3)
  unfold RbB at hrs
  have WR3 := kide hrs
  obtain ⟨hw, hhw⟩ : ∃ x, w3.heap.size = x := ⟨_, rfl⟩
  obtain ⟨lw, hlw⟩ : ∃ x, w2.heap.size = x := ⟨_, rfl⟩
  rw [hhw, hlw] at WR3
  have HHW := kide hhw
  have HBW0 : Hid (w.heap.size ≤ hw) := by show _ ≤ _; rw [← hhw]; exact B3.out.size
  have HBW1 : Hid (w.heap.size < hw) := by show _ < _; rw [← hhw]; exact X3.out.lt
  clear hb3 hrs hhw hlw HSP B2 X2
  have x0 := X3.out.cell 0
  have x1 := X3.out.cell 1
  have x2 := X3.out.cell 2
  have xl := X3.out.lt
  simp at x0 x1 x2
  go_wp2_with fail
  refine Calls.mono (HTS.out _ B3.out) ?_
  rintro e5 w5 ⟨h1, h2, m4, rfl, hm4, r4, s4, nn4, hb5, q1, q2, ⟨fd, rd4⟩, fs4, rg4, rs4⟩
  have B5 := kide (B3.out.trans (hb5.mono B3.out.size))
  have X5 := kide (X3.out.later hb5)
  have WR5 := kide (Keep.later WR3.out hb5)
  have M4 := kide hm4
  have RD5 := kide r4
  have RS5 := kide s4
  have NN4 := kide nn4
  have RW5 := kide rd4
  have RO5 := kide rs4
  have HUH : Hid (hw ≤ h1) := by show _ ≤ _; rw [← HHW.out]; exact q1
  have HQ2 := kide q2
  obtain ⟨hx, hhx⟩ : ∃ x, w5.heap.size = x := ⟨_, rfl⟩
  rw [hhx] at RO5
  have HHX := kide hhx
  have RGX : Hid (h1 < hx) := by show _ < _; rw [← hhx]; exact rowIs_lt RW5.out
  clear hb5 r4 s4 nn4 hm4 rd4 rs4 q1 q2 hhx B3 X3 WR3
  clear x0 x1 x2 xl
  have hbx := ses_box w5 (.cells #[Value.slice (some ⟨h1, 0, none⟩) dn dn, Value.slice (some ⟨h2, 0, none⟩) m m, Value.int .i64 nx] 30)
  have B6 := kide (B5.out.trans (hbx.mono B5.out.size))
  have X6 := kide (X5.out.later hbx)
  have WR6 := kide (Keep.later WR5.out hbx)
  have RD6 := kide (RD5.out.later hbx)
  have RS6 := kide (RS5.out.later hbx)
  have RW6 := kide (rowIs_later RW5.out hbx)
  have RO6 := kide (RO5.out.later hbx)
  have Y6 : Hid (Bz (w5.alloc (.cells #[Value.slice (some ⟨h1, 0, none⟩) dn dn, Value.slice (some ⟨h2, 0, none⟩) m m, Value.int .i64 nx] 30)) w5.heap.size #[Value.slice (some ⟨h1, 0, none⟩) dn dn, Value.slice (some ⟨h2, 0, none⟩) m m, Value.int .i64 nx] 30) := Bz.new _ _ _
  clear hbx B5 X5 WR5 RD5 RS5 RW5 RO5
  go_wp2_with fail
  obtain ⟨kY, hkY⟩ : ∃ x, w5.heap.size = x := ⟨_, rfl⟩
  have HKY := kide hkY
  rw [hkY] at Y6
  try simp only [hkY]
  clear hkY
  generalize w5.alloc (.cells #[Value.slice (some ⟨h1, 0, none⟩) dn dn, Value.slice (some ⟨h2, 0, none⟩) m m, Value.int .i64 nx] 30) = w6 at *
  have HYX : Hid (kY = hx) := HKY.out.symm.trans HHX.out
  have HI6 := kide (HIMP.out w6 h1 h2 m4 B6.out M4.out RD6.out RS6.out NN4.out)
  have HY6 : Hid (kY < w6.heap.size) := Y6.out.lt
  refine Calls.mono (HI6.out) ?_
  rintro e7 w7 ⟨ga, gc, rfl, hrs7, hgs7, hb7⟩
  have B7 := kide (B6.out.trans (hb7.mono B6.out.size))
  have X7 := kide (X6.out.later hb7)
  have WR7 := kide (Keep.later WR6.out hb7)
  have RD7 := kide (RD6.out.later hb7)
  have RS7 := kide (RS6.out.later hb7)
  have RW7 := kide (rowIs_later RW6.out hb7)
  have RO7 := kide (RO6.out.later hb7)
  have Y7 := kide (Y6.out.later hb7)
  unfold RbB at hrs7
  unfold GbB at hgs7
  have GR7 := kide hrs7
  have GG7 := kide hgs7
  obtain ⟨hg, hhg⟩ : ∃ x, w7.heap.size = x := ⟨_, rfl⟩
  obtain ⟨lg, hlg⟩ : ∃ x, w6.heap.size = x := ⟨_, rfl⟩
  have HGL : Hid (lg ≤ hg) := by show _ ≤ _; rw [← hlg, ← hhg]; exact hb7.size
  rw [hhg, hlg] at GR7 GG7
  have HLG : Hid (hx < lg) := by show _ < _; rw [← hlg, ← HYX.out]; exact HY6.out
  clear hb7 hrs7 hgs7 hhg hlg HI6 B6 X6 WR6 RD6 RS6 RW6 RO6 Y6
  go_wp2_with fail
  refine Calls.mono (HEQ.out w7 gc vc ga va GR7.out.now WR7.out.now) ?_
  rintro e9 w9 ⟨rfl, hb9⟩
  have B9 := kide (B7.out.trans (hb9.mono B7.out.size))
  have X9 := kide (X7.out.later hb9)
  have WR9 := kide (Keep.later WR7.out hb9)
  have RD9 := kide (RD7.out.later hb9)
  have RS9 := kide (RS7.out.later hb9)
  have RW9 := kide (rowIs_later RW7.out hb9)
  have RO9 := kide (RO7.out.later hb9)
  have Y9 := kide (Y7.out.later hb9)
  have GR9 := kide (Keep.later GR7.out hb9)
  have GG9 := kide (Keep.later GG7.out hb9)
  clear hb9  B7 X7 WR7 RD7 RS7 RW7 RO7 Y7 GR7 GG7
  have x0 := X9.out.cell 0
  have x1 := X9.out.cell 1
  have x2 := X9.out.cell 2
  have xl := X9.out.lt
  have y0 := Y9.out.cell 0
  have y1 := Y9.out.cell 1
  have y2 := Y9.out.cell 2
  have yl := Y9.out.lt
  simp at x0 x1 x2 y0 y1 y2
  go_wp2_with fail
  have HEQS : Hid (∀ (u : World) (k1 k2 : Nat) (m7 : List Sg), RdD u (some ⟨h1, 0, none⟩) ds → RdD u (some ⟨k1, 0, none⟩) ds → RdS u (some ⟨h2, 0, none⟩) m4 → RdS u (some ⟨k2, 0, none⟩) m7 → m7.map Sg.ct = xs.map Sg.ct → Calls Tryz.prog 9 #[.agg #[.slice (some ⟨h1, 0, none⟩) dn dn, .slice (some ⟨h2, 0, none⟩) m m, .int .i64 nx], .agg #[.slice (some ⟨k1, 0, none⟩) dn dn, .slice (some ⟨k2, 0, none⟩) m m, .int .i64 nx]] u fun e w' => e = .returned (.bool true) ∧ Below u.heap.size u w') := fun u k1 k2 m7 a1 a2 a3 a4 a5 => by
    have h4 : m4.length = m := by have := congrArg List.length M4.out; simp at this; rw [this]; exact HM.out
    have h7 : m7.length = m := by have := congrArg List.length a5; simp at this; rw [this]; exact HM.out
    have := eqSession_same nx (some ⟨h1, 0, none⟩) (some ⟨k1, 0, none⟩) (some ⟨h2, 0, none⟩) (some ⟨k2, 0, none⟩) dn dn m m m ds m4 m7 u a1 a2 a3 a4 (M4.out.trans a5.symm) h4 h7
    rw [HDN.out] at this
    exact this
  go_region_held3 (fun u => u.cell? ⟨w.heap.size, 0, none⟩ = some (Value.slice a dn c) ∧ u.cell? ⟨w.heap.size, 1, none⟩ = some (Value.slice b m e) ∧ u.cell? ⟨w.heap.size, 2, none⟩ = some (Value.int .i64 nx) ∧ u.cell? ⟨kY, 0, none⟩ = some (Value.slice (some ⟨h1, 0, none⟩) dn dn) ∧ u.cell? ⟨kY, 1, none⟩ = some (Value.slice (some ⟨h2, 0, none⟩) m m) ∧ u.cell? ⟨kY, 2, none⟩ = some (Value.int .i64 nx)) (simp [*])
    (first
      | (go_at_call 9; refine Calls.mono (HEQS.out _ k1 k2 m8 RD10.out Q8.out RS10.out T8.out M8.out) ?_; rintro e9 w11 ⟨rfl, hb9⟩; have B11 := kide (B10.out.trans (hb9.mono B10.out.size)); have X11 := kide (X10.out.later hb9); have WR11 := kide (Keep.later WR10.out hb9); have RD11 := kide (RD10.out.later hb9); have RS11 := kide (RS10.out.later hb9); have RW11 := kide (rowIs_later RW10.out hb9); have RO11 := kide (RO10.out.later hb9); have Y11 := kide (Y10.out.later hb9); have GR11 := kide (Keep.later GR10.out hb9); have GG11 := kide (Keep.later GG10.out hb9); have vx0 := (kcell hb9 w.heap.size 0 xl8).trans ux0; have vx1 := (kcell hb9 w.heap.size 1 xl8).trans ux1; have vx2 := (kcell hb9 w.heap.size 2 xl8).trans ux2; have vy0 := (kcell hb9 kY 0 yl8).trans uy0; have vy1 := (kcell hb9 kY 1 yl8).trans uy1; have vy2 := (kcell hb9 kY 2 yl8).trans uy2)
      | (go_at_call 7; refine Calls.mono (HTS.out _ ?_) ?_; exact B9.out.drew; rintro e8 w10 ⟨k1, k2, m8, rfl, hm8, r8, s8, nn8, hb8, -, -, -, fz, rz, -⟩; replace hb8 := kundrew hb8; have B10 := kide (B9.out.trans (hb8.mono B9.out.size)); have X10 := kide (X9.out.later hb8); have WR10 := kide (Keep.later WR9.out hb8); have RD10 := kide (RD9.out.later hb8); have RS10 := kide (RS9.out.later hb8); have RW10 := kide (rowIs_later RW9.out hb8); have RO10 := kide (RO9.out.later hb8); have Y10 := kide (Y9.out.later hb8); have GR10 := kide (Keep.later GR9.out hb8); have GG10 := kide (Keep.later GG9.out hb8); have Q8 := kide r8; have T8 := kide s8; have M8 := kide hm8; have xl8 := Nat.lt_of_lt_of_le xl hb8.size; have yl8 := Nat.lt_of_lt_of_le yl hb8.size; have ux0 := (kcell hb8 w.heap.size 0 xl).trans x0; have ux1 := (kcell hb8 w.heap.size 1 xl).trans x1; have ux2 := (kcell hb8 w.heap.size 2 xl).trans x2; have uy0 := (kcell hb8 kY 0 yl).trans y0; have uy1 := (kcell hb8 kY 1 yl).trans y1; have uy2 := (kcell hb8 kY 2 yl).trans y2; clear r8 s8 hm8 nn8))
  clear hb8 hb9 HEQS Q8 T8 M8 xl8 yl8 ux0 ux1 ux2 uy0 uy1 uy2 vx0 vx1 vx2 vy0 vy1 vy2 B9 B10 X9 X10 WR9 WR10 RD9 RD10 RS9 RS10 RW9 RW10 RO9 RO10 Y9 Y10 GR9 GR10 GG9 GG10
  clear x0 x1 x2 xl y0 y1 y2 yl
  have x0 := X11.out.cell 0
  have x1 := X11.out.cell 1
  have x2 := X11.out.cell 2
  have xl := X11.out.lt
  have y0 := Y11.out.cell 0
  have y1 := Y11.out.cell 1
  have y2 := Y11.out.cell 2
  have yl := Y11.out.lt
  simp at x0 x1 x2 y0 y1 y2
  go_wp2_with fail
  have HB1 : Hid (w.heap.size ≤ h1) := by show _ ≤ _; have := HBW0.out; have := HUH.out; omega
  have HB2 : Hid (w.heap.size < h1) := by show _ < _; have := HBW1.out; have := HUH.out; omega
  have HB3 : Hid (hw ≤ h1) := HUH.out
  have HMK := kide (markSession_any h1 h2 dn m hx h1 nx m4 w11 fd fs4 rg4 RW11.out RO11.out (Nat.le_refl _) HQ2.out hd2 (by have := congrArg List.length M4.out; simp at this; rw [this]; exact HM.out) hm2 (by rw [same_flat M4.out]; exact HT.out) (len_lits RS11.out))
  refine Calls.mono HMK.out ?_
  rintro e12 w12 ⟨⟨r12, rfl⟩, ho12⟩
  have B12 := kide (Out.bel B11.out ho12 HB1.out)
  have X12 := kide (X11.out.outs ho12 (.inl HB2.out))
  have WR12 := kide (Keep.out WR11.out ho12 (.inl HB3.out))
  have GR12 := kide (Keep.out GR11.out ho12 (.inr (Nat.le_of_lt HLG.out)))
  have GG12 := kide (Keep.out GG11.out ho12 (.inr (Nat.le_of_lt HLG.out)))
  have p12 : ¬ (r12 : Int) < 0 := by omega
  clear ho12 HMK B11 X11 WR11 RD11 RS11 RW11 RO11 Y11 GR11 GG11
  clear x0 x1 x2 xl y0 y1 y2 yl
  go_wp2_with fail
  refine Calls.mono (HEQ.out w12 gc vc ga va GR12.out.now WR12.out.now) ?_
  rintro e13 w13 ⟨rfl, hb13⟩
  have B13 := kide (B12.out.trans (hb13.mono B12.out.size))
  have X13 := kide (X12.out.later hb13)
  have WR13 := kide (Keep.later WR12.out hb13)
  have GR13 := kide (Keep.later GR12.out hb13)
  have GG13 := kide (Keep.later GG12.out hb13)
  clear hb13  B12 X12 WR12 GR12 GG12
  go_wp2_with fail
  have HBG : Hid (w.heap.size < lg) := by show _ < _; have := HB2.out; have := RGX.out; have := HLG.out; omega
  have HWL : Hid (hw ≤ lg) := by show _ ≤ _; have := HB3.out; have := RGX.out; have := HLG.out; omega
  refine Calls.mono GG13.out.now ?_
  rintro e14 w14 ⟨K, rfl, ho14, hk14⟩
  have HL14 := kide hk14
  have B14 := kide (Out.bel B13.out ho14 (Nat.le_of_lt HBG.out))
  have X14 := kide (X13.out.outs ho14 (.inl HBG.out))
  have WR14 := kide (Keep.out WR13.out ho14 (.inl HWL.out))
  have hmm : ((K : Int) != (K : Int)) = false := by simp
  have pmk : ¬ (K : Int) < 0 := by omega
  clear ho14 hk14 B13 X13 WR13 GR13 GG13
  go_wp2_with fail
  refine Calls.mono (HL14.out.now) ?_
  rintro e15 w15 ⟨rfl, hb15⟩
  have B15 := kide (B14.out.trans (hb15.mono B14.out.size))
  have X15 := kide (X14.out.later hb15)
  have WR15 := kide (Keep.later WR14.out hb15)
  have HL15 := kide (Keep.later HL14.out hb15)
  clear hb15  B14 X14 WR14 HL14
  have x0 := X15.out.cell 0
  have x1 := X15.out.cell 1
  have x2 := X15.out.cell 2
  have xl := X15.out.lt
  simp at x0 x1 x2
  go_wp2_with fail
  refine Calls.mono (HTS.out _ B15.out) ?_
  rintro e16 w16 ⟨k1, k2, m16, rfl, hm16, r16, s16, nn16, hb16, -, -, -, fz2, rz2, rs16⟩
  have B16 := kide (B15.out.trans (hb16.mono B15.out.size))
  have X16 := kide (X15.out.later hb16)
  have WR16 := kide (Keep.later WR15.out hb16)
  have HL16 := kide (Keep.later HL15.out hb16)
  have HI16 := kide (HIMP.out w16 k1 k2 m16 B16.out hm16 r16 s16 nn16)
  clear hb16 r16 s16 nn16 hm16 rs16 B15 X15 WR15 HL15
  clear x0 x1 x2 xl
  go_wp2_with fail
  refine Calls.mono (HI16.out) ?_
  rintro e17 w17 ⟨ha, hc, rfl, hrs17, -, hb17⟩
  have B17 := kide (B16.out.trans (hb17.mono B16.out.size))
  have X17 := kide (X16.out.later hb17)
  have WR17 := kide (Keep.later WR16.out hb17)
  have HL17 := kide (Keep.later HL16.out hb17)
  unfold RbB at hrs17
  have KR17 := kide hrs17
  clear hb17 hrs17 HI16 B16 X16 WR16 HL16
  go_wp2_with fail
  refine Calls.mono (HEQ.out w17 hc vc ha va KR17.out.now WR17.out.now) ?_
  rintro e19 w19 ⟨rfl, hb19⟩
  have B19 := kide (B17.out.trans (hb19.mono B17.out.size))
  have X19 := kide (X17.out.later hb19)
  have WR19 := kide (Keep.later WR17.out hb19)
  have HL19 := kide (Keep.later HL17.out hb19)
  have KR19 := kide (Keep.later KR17.out hb19)
  clear hb19  B17 X17 WR17 HL17 KR17
  go_wp2_with fail
  refine Calls.mono (HL19.out.now) ?_
  rintro e20 w20 ⟨rfl, hb20⟩
  have B20 := kide (B19.out.trans (hb20.mono B19.out.size))
  have X20 := kide (X19.out.later hb20)
  have WR20 := kide (Keep.later WR19.out hb20)
  have HL20 := kide (Keep.later HL19.out hb20)
  have KR20 := kide (Keep.later KR19.out hb20)
  clear hb20  B19 X19 WR19 HL19 KR19
  go_wp2_with fail
  go_ret
  exact ⟨rfl, B20.out⟩

theorem law_big_FnExactSaveSession (a b : Option Addr) (n c e m : Nat) (nx Z : Int) (w : World) (hz : Z < 0)
    (HSZ : Hid (∀ u, Below w.heap.size w u → Calls Tryz.prog 5 #[.agg #[.slice a n c, .slice b m e, .int .i64 nx], .int .i64 1048576] u fun e w' => e = .returned (.int .i64 Z) ∧ Below u.heap.size u w')) :
    Calls Tryz.prog 4 #[.agg #[.slice a n c, .slice b m e, .int .i64 nx]] w fun e w' => e = .returned (.bool true) ∧ Below w.heap.size w w' := by
  have B0 := kide (ses_box w (.cells #[Value.slice a n c, Value.slice b m e, Value.int .i64 nx] 25))
  go_enter Tryz.func4, Tryz.ntmps4
  go_wp2_with fail
  refine Calls.mono (HSZ.out _ B0.out) ?_
  rintro e1 w1 ⟨rfl, hb1⟩
  go_wp2_with fail
  go_ret
  exact ⟨rfl, B0.out.trans (hb1.mono B0.out.size)⟩

theorem walk_FnExactSaveSession (a : Option Addr) (n c : Nat) (b : Option Addr) (m e : Nat) (nx : Int) (W : World) (hG : GF W) (hnx : in64 nx) (hn : n ≤ 9223372036854775807) (hm : m ≤ 9223372036854775807)
    (hx : n ≤ 1048576 → ∃ ds : List Dc, ds.length = n ∧ RdD W a ds) (hy : m ≤ 1048576 → ∃ hs : List Sh, hs.length = m ∧ RdSh W b hs ∧ ∀ h ∈ hs, ScpOf W h) :
    Calls Tryz.prog 4 #[.agg #[.slice a n c, .slice b m e, .int .i64 nx]] W fun e w' => e = .returned (.bool true) ∧ Below W.heap.size W w' := by
  obtain ⟨Z, HSZ, hZ | ⟨hZ, ds, xs, rfl, hxl, hT, hr, hs⟩⟩ := size_session a n c b m e nx W hn hm hx hy
  · exact law_big_FnExactSaveSession a b n c e m nx Z W hZ HSZ
  · exact law_yes_FnExactSaveSession a b c e m nx Z ds xs W hr hs hxl hT hG hnx hZ HSZ

end Go.Proofs.YtofdkdaehhpgbaaGreatDoor
