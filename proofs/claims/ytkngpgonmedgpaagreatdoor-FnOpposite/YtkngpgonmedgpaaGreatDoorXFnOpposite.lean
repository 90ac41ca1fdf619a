/- The law FnOpposite returns true, whatever it is handed. -/
import Derived.Test.YtkngpgonmedgpaaGreatDoorGAS
import Derived.Test.YtkngpgonmedgpaaGreatDoorOPF
import Derived.Test.YtkngpgonmedgpaaGreatDoorOPC
import Derived.Test.YtkngpgonmedgpaaGreatDoorGBG
namespace Go.Proofs.YtkngpgonmedgpaaGreatDoor
set_option linter.unusedVariables false
set_option linter.unusedSimpArgs false
open Go.RowKit
theorem odd_lit : OddLitAny := fun w0 w β a c bs da ds dc n most h hn h1 h6 hw hm1 hm2 => oddLiterals_any l3Grow_any (fun w0 w β a c bs da ds dc n want h hn h1 h6 hw hv1 hv2 => oddTerm_any l3Grow_any w0 w β a c bs da ds dc n want h hn h1 h6 hw hv1 hv2) w0 w β a c bs da ds dc n most h hn h1 h6 hw hm1 hm2
theorem lit_flip (ds : List Dc) (l : Lc) : litR ds [{ l with eq := !l.eq }] = litR ds [l] := rfl
theorem hld_flip (vs : List Wd) (l : Lc) : hldR vs { l with eq := !l.eq } = !hldR vs l := by
 unfold hldR
 simp only []
 cases decide (evalR vs l.ss = evalR vs l.ts) <;> cases l.eq <;> rfl
theorem lit_two {ds : List Dc} {l : Lc} (h : litR ds [l] = true) (h2 : l.id + 1 ≤ 1000000) : litR ds [l, { l with eq := !l.eq, id := l.id + 1 }] = true := by
 simp only [litR, goL, Bool.and_eq_true, decide_eq_true_eq, Bool.and_true] at h ⊢
 obtain ⟨⟨h1, -⟩, ⟨h3, h4⟩⟩ := h
 exact ⟨⟨h1, by simp⟩, ⟨h3, h4⟩, ⟨by omega, h2⟩, h4⟩
theorem ff_two {vs : List Wd} {l : Lc} : ffL vs [l, { l with eq := !l.eq, id := l.id + 1 }] = if hldR vs l = true then l.id + 1 else l.id := by
 have h : hldR vs { l with eq := !l.eq, id := l.id + 1 } = !hldR vs l := hld_flip vs l
 simp only [ffL, h]
 cases hldR vs l <;> rfl
set_option maxHeartbeats 1000000 in
set_option maxRecDepth 100000 in
theorem law_FnOpposite (a : Option Addr) (c : Nat) (bs : List Nat) (n : Nat) (hn : bs.length = n) (hn2 : n ≤ 1048576) (w : World) (h : RdB w a bs) (hG : GF w) :
  Calls Tryz.prog 3 #[.slice a n c] w fun e w' => e = .returned (.bool true) ∧ Below w.heap.size w w' := by
 have HBG := kide (big_any a n c w (by omega))
 rw [decide_eq_false (by omega)] at HBG
 have HDR := kide (drawHolds_any odd_lit a c bs w h)
 rw [hn] at HDR
 have HG := kide hG
 clear h hn hG
 go_enter Tryz.func3, Tryz.ntmps3
 go_wp2_with fail
 refine Calls.mono HBG.out ?_
 rintro e wq ⟨rfl, hwq⟩
 obtain rfl := hwq.symm
 go_wp2_with fail
 refine Calls.mono HDR.out ?_
 rintro e w1 ⟨a1, c1, ds, a2, c2, xs, x, rfl, rd, rx, rs, rt, ri, hb1⟩
 have B1 := kide hb1
 have HGF := kide (fun u (hu : Below w1.heap.size w1 u) => (HG.out.later hb1).later hu)
 have HSP := kide (fun u (hu : Below w1.heap.size w1 u) => specHolds_any a1 a2 c1 c2 xs.length ds xs x u (rd.later hu) (rx.later hu) rfl (rs.later hu) (rt.later hu) ri)
 have HIM := kide (fun u (hu : Below w1.heap.size w1 u) => implHolds_any a1 a2 c1 c2 xs.length ds xs x u (rd.later hu) (rx.later hu) rfl (rs.later hu) (rt.later hu) ri (HGF.out u hu))
 have HIO := kide (fun u (hu : Below w1.heap.size w1 u) => implHolds_any a1 a2 c1 c2 xs.length ds xs { x with eq := !x.eq } u (rd.later hu) (rx.later hu) rfl (rs.later hu) (rt.later hu) ri (HGF.out u hu))
 have HFF := kide (fun u (hu : Below w1.heap.size w1 u) (b : Nat) (i : Int) (hi : in64 i) (hb : RdL u (some ⟨b, 0, none⟩) [x, { x with eq := !x.eq, id := i }]) => implFirst_any a1 a2 (some ⟨b, 0, none⟩) c1 c2 2 2 xs.length ds xs [x, { x with eq := !x.eq, id := i }] u (rd.later hu) (rx.later hu) hb rfl rfl (HGF.out u hu))
 have HRL := kide (fun u (hu : Below w1.heap.size w1 u) => And.intro (rs.later hu) (rt.later hu))
 have RI := kide ri
 obtain ⟨nd, hnd⟩ : ∃ nd, ds.length = nd := ⟨_, rfl⟩
 obtain ⟨nx, hnx⟩ : ∃ nx, xs.length = nx := ⟨_, rfl⟩
 rw [hnd, hnx] at HSP HIM HIO HFF ⊢
 have HO : Hid (holR ds (xs.map Bw.ct) ({ x with eq := !x.eq } : Lg).ct = (if valR ds (xs.map Bw.ct) = true ∧ litR ds [x.ct] = true then (!hldR (xs.map Bw.ct) x.ct, true) else (false, false))) := by
  have h1 := lit_flip ds x.ct
  have h2 := hld_flip (xs.map Bw.ct) x.ct
  show holR ds _ { x.ct with eq := !x.ct.eq } = _
  unfold holR
  rw [h1, h2]
 rw [HO.out] at HIO
 have HB0 : Hid (Below w1.heap.size w1 w1) := Below.refl _ _
 unfold Lg.val at *
 simp only [] at *
 clear rd rx rs rt ri hb1 HDR HBG HO hnd hnx
 go_wp2_with fail
 have B2 : Hid (Below w1.heap.size w1 (w1.alloc (Obj.cells #[.int .i64 x.id, .bool x.eq, .slice x.sa x.ss.length x.sc, .slice x.ta x.ts.length x.tc] 30))) := (Below.refl _ _).alloc (Nat.le_refl _) _
 have X2 := kide (Bz.new w1 #[.int .i64 x.id, .bool x.eq, .slice x.sa x.ss.length x.sc, .slice x.ta x.ts.length x.tc] 30)
 obtain ⟨lb, hlb⟩ : ∃ lb, w1.heap.size = lb := ⟨_, rfl⟩
 rw [hlb] at X2
 simp only [hlb]
 have HLB := kide hlb
 clear hlb
 generalize w1.alloc (Obj.cells #[.int .i64 x.id, .bool x.eq, .slice x.sa x.ss.length x.sc, .slice x.ta x.ts.length x.tc] 30) = w2 at *
 by_cases hP : valR ds (xs.map Bw.ct) = true ∧ litR ds [x.ct] = true
 ·have e1 : holR ds (xs.map Bw.ct) x.ct = (hldR (xs.map Bw.ct) x.ct, true) := if_pos hP
  rw [e1] at HSP HIM
  rw [if_pos hP] at HIO
  have HFR : Hid (x.id + 1 ≤ 1000000 → ffR ds (xs.map Bw.ct) [x.ct, ({ x with eq := !x.eq, id := x.id + 1 } : Lg).ct] = if hldR (xs.map Bw.ct) x.ct = true then x.id + 1 else x.id) := fun h9 => by
   have h2 := lit_two hP.2 (show x.ct.id + 1 ≤ 1000000 from h9)
   show ffR ds _ [x.ct, { x.ct with eq := !x.ct.eq, id := x.ct.id + 1 }] = _
   unfold ffR
   rw [if_pos ⟨hP.1, h2⟩]
   exact ff_two
  have hid : 0 < x.id ∧ x.id ≤ 1000000 := by
   have h3 := hP.2
   simp only [litR, goL, Bool.and_eq_true, decide_eq_true_eq] at h3
   exact h3.2.1.1
  generalize hldR (xs.map Bw.ct) x.ct = H at *
  simp only [] at HSP HIM HIO
  clear e1 hP
  refine Calls.mono (HSP.out w2 B2.out) ?_
  rintro e w3 ⟨rfl, hb3⟩
  have B3 : Hid (Below w1.heap.size w1 w3) := B2.out.trans (hb3.mono B2.out.size)
  have X3 := kide (X2.out.later hb3)
  have p0 := X3.out.cell 0
  have p1 := X3.out.cell 1
  have p2 := X3.out.cell 2
  have p3 := X3.out.cell 3
  simp at p0 p1 p2 p3
  clear hb3 X2 B2
  go_wp2_with fail
  refine Calls.mono (HIM.out w3 B3.out) ?_
  rintro e w4 ⟨rfl, hb4⟩
  have B4 : Hid (Below w1.heap.size w1 w4) := B3.out.trans (hb4.mono B3.out.size)
  have X4 := kide (X3.out.later hb4)
  have q0 := X4.out.cell 0
  have q1 := X4.out.cell 1
  have q2 := X4.out.cell 2
  have q3 := X4.out.cell 3
  have hlt := X4.out.lt
  simp at q0 q1 q2 q3
  clear hb4 X3 B3 p0 p1 p2 p3
  go_wp2_with fail
  have hb5 : Below w4.heap.size w4 (w4.alloc (Obj.cells #[.int .i64 x.id, .bool (!x.eq), .slice x.sa x.ss.length x.sc, .slice x.ta x.ts.length x.tc] 30)) := (Below.refl _ _).alloc (Nat.le_refl _) _
  have B5 : Hid (Below w1.heap.size w1 (w4.alloc (Obj.cells #[.int .i64 x.id, .bool (!x.eq), .slice x.sa x.ss.length x.sc, .slice x.ta x.ts.length x.tc] 30))) := B4.out.trans (hb5.mono B4.out.size)
  have X5 := kide (X4.out.later hb5)
  have Y5 := kide (Bz.new w4 #[.int .i64 x.id, .bool (!x.eq), .slice x.sa x.ss.length x.sc, .slice x.ta x.ts.length x.tc] 30)
  obtain ⟨ob, hob⟩ : ∃ ob, w4.heap.size = ob := ⟨_, rfl⟩
  rw [hob] at Y5 hlt
  simp only [hob]
  have hlo : lb ≠ ob := by omega
  clear hob hb5 X4 B4 q0 q1 q2 q3
  generalize w4.alloc (Obj.cells #[.int .i64 x.id, .bool (!x.eq), .slice x.sa x.ss.length x.sc, .slice x.ta x.ts.length x.tc] 30) = w5 at *
  refine Calls.mono (HIO.out w5 B5.out) ?_
  rintro e w6 ⟨rfl, hb6⟩
  have B6 : Hid (Below w1.heap.size w1 w6) := B5.out.trans (hb6.mono B5.out.size)
  have X6 := kide (X5.out.later hb6)
  have Y6 := kide (Y5.out.later hb6)
  clear hb6 X5 Y5 B5

  have p0 := X6.out.cell 0
  have r0 := Y6.out.cell 0
  have f0 := Y6.out.froz 0
  have hiw : IntKind.i64.wrap (x.id + 1) = x.id + 1 := by rw [IntKind.wrap_i64]; first | omega | (unfold wrap64; omega)
  simp at p0 r0
  have Z0 : Hid (Below w1.heap.size w1 (w6.setCell ⟨ob, 0, none⟩ (.int .i64 (x.id + 1)))) := B6.out.setCell (by have := HLB.out; simp only []; omega) _
  have Z1 := kide (Y6.out.set 0 (.int .i64 (x.id + 1)))
  have Z2 := kide (X6.out.other hlo 0 (.int .i64 (x.id + 1)))
  have z0 := Z1.out.cell 0
  have z1 := Z1.out.cell 1
  have z2 := Z1.out.cell 2
  have z3 := Z1.out.cell 3
  have y0 := Z2.out.cell 0
  have y1 := Z2.out.cell 1
  have y2 := Z2.out.cell 2
  have y3 := Z2.out.cell 3
  simp at z0 z1 z2 z3 y0 y1 y2 y3
  by_cases hbig : x.id + 1 > 1000000
  ·go_wp2_with fail
   go_ret
   exact ⟨by cases H <;> rfl, B1.out.trans (Z0.out.mono B1.out.size)⟩
  have B7 : Hid (Below w1.heap.size w1 ((w6.setCell ⟨ob, 0, none⟩ (.int .i64 (x.id + 1))).alloc (Obj.cells #[.int .i64 x.id, .bool x.eq, .slice x.sa x.ss.length x.sc, .slice x.ta x.ts.length x.tc, .int .i64 (x.id + 1), .bool (!x.eq), .slice x.sa x.ss.length x.sc, .slice x.ta x.ts.length x.tc] 30))) := Z0.out.alloc Z0.out.size _
  have RL : Hid (RdL ((w6.setCell ⟨ob, 0, none⟩ (.int .i64 (x.id + 1))).alloc (Obj.cells #[.int .i64 x.id, .bool x.eq, .slice x.sa x.ss.length x.sc, .slice x.ta x.ts.length x.tc, .int .i64 (x.id + 1), .bool (!x.eq), .slice x.sa x.ss.length x.sc, .slice x.ta x.ts.length x.tc] 30)) (some ⟨w6.heap.size, 0, none⟩) [x, { x with eq := !x.eq, id := x.id + 1 }]) := by
   obtain ⟨h1, h2⟩ := HRL.out _ B7.out
   have hi2 : in64 (x.id + 1) := by unfold in64; omega
   have hi1 := RI.out
   have BZ := Bz.new (w6.setCell ⟨ob, 0, none⟩ (.int .i64 (x.id + 1))) #[.int .i64 x.id, .bool x.eq, .slice x.sa x.ss.length x.sc, .slice x.ta x.ts.length x.tc, .int .i64 (x.id + 1), .bool (!x.eq), .slice x.sa x.ss.length x.sc, .slice x.ta x.ts.length x.tc] 30
   rw [show (w6.setCell ⟨ob, 0, none⟩ (.int .i64 (x.id + 1))).heap.size = w6.heap.size by simp] at BZ
   refine ⟨by simp, .inr ⟨w6.heap.size, 0, rfl, fun i y hy => ?_⟩⟩
   match i, hy with
   | 0, hy =>
    obtain rfl : x = y := by simpa using hy
    exact ⟨⟨BZ.cell 0, BZ.cell 1, BZ.cell 2, BZ.cell 3⟩, h1, h2, hi1⟩
   | 1, hy =>
    obtain rfl : ({ x with eq := !x.eq, id := x.id + 1 } : Lg) = y := by simpa using hy
    exact ⟨⟨BZ.cell 4, BZ.cell 5, BZ.cell 6, BZ.cell 7⟩, h1, h2, hi2⟩
   | i + 2, hy => simp at hy
  have HF1 := kide (HFF.out _ B7.out w6.heap.size (x.id + 1) (by unfold in64; omega) RL.out)
  have HF2 : Hid (ffR ds (xs.map Bw.ct) ([x, { x with eq := !x.eq, id := x.id + 1 }].map Lg.ct) = if H = true then x.id + 1 else x.id) := HFR.out (by omega)
  rw [HF2.out] at HF1
  go_wp2_with fail
  refine Calls.mono HF1.out ?_
  rintro e w8 ⟨rfl, hb8⟩
  have B8 : Hid (Below w1.heap.size w1 w8) := B7.out.trans (hb8.mono B7.out.size)
  have X8 := kide (((Z2.out.later ((Below.refl _ _).alloc (Nat.le_refl _) (Obj.cells #[.int .i64 x.id, .bool x.eq, .slice x.sa x.ss.length x.sc, .slice x.ta x.ts.length x.tc, .int .i64 (x.id + 1), .bool (!x.eq), .slice x.sa x.ss.length x.sc, .slice x.ta x.ts.length x.tc] 30))).later hb8))
  have Y8 := kide (((Z1.out.later ((Below.refl _ _).alloc (Nat.le_refl _) (Obj.cells #[.int .i64 x.id, .bool x.eq, .slice x.sa x.ss.length x.sc, .slice x.ta x.ts.length x.tc, .int .i64 (x.id + 1), .bool (!x.eq), .slice x.sa x.ss.length x.sc, .slice x.ta x.ts.length x.tc] 30))).later hb8))
  have m0 := X8.out.cell 0
  have n0 := Y8.out.cell 0
  simp at m0 n0
  clear hb8 X8 Y8 HF1 HF2 RL B7 Z0 Z1 Z2 B6 X6 Y6 p0 r0 f0 z0 z1 z2 z3 y0 y1 y2 y3 HFF HFR HSP HIM HIO
  cases H with
  | true =>
   have k1 : ((x.id + 1) == (x.id + 1)) = true := by simp
   simp only [if_true] at *
   go_wp2_with fail
   go_ret
   exact ⟨rfl, B1.out.trans (B8.out.mono B1.out.size)⟩
  | false =>
   have k1 : (x.id == x.id) = true := by simp
   have k2 : (false = true) = False := by simp
   simp only [k2, if_false] at *
   go_wp2_with fail
   go_ret
   exact ⟨rfl, B1.out.trans (B8.out.mono B1.out.size)⟩
 ·have e1 : holR ds (xs.map Bw.ct) x.ct = (false, false) := if_neg hP
  rw [e1] at HSP HIM
  rw [if_neg hP] at HIO
  simp only [] at HSP HIM HIO
  clear e1 hP HFF
  refine Calls.mono (HSP.out w2 B2.out) ?_
  rintro e w3 ⟨rfl, hb3⟩
  have B3 : Hid (Below w1.heap.size w1 w3) := B2.out.trans (hb3.mono B2.out.size)
  have X3 := kide (X2.out.later hb3)
  have p0 := X3.out.cell 0
  have p1 := X3.out.cell 1
  have p2 := X3.out.cell 2
  have p3 := X3.out.cell 3
  simp at p0 p1 p2 p3
  clear hb3 X2 B2
  go_wp2_with fail
  refine Calls.mono (HIM.out w3 B3.out) ?_
  rintro e w4 ⟨rfl, hb4⟩
  have B4 : Hid (Below w1.heap.size w1 w4) := B3.out.trans (hb4.mono B3.out.size)
  have X4 := kide (X3.out.later hb4)
  have q0 := X4.out.cell 0
  have q1 := X4.out.cell 1
  have q2 := X4.out.cell 2
  have q3 := X4.out.cell 3
  have hlt := X4.out.lt
  simp at q0 q1 q2 q3
  clear hb4 X3 B3 p0 p1 p2 p3
  go_wp2_with fail
  have hb5 : Below w4.heap.size w4 (w4.alloc (Obj.cells #[.int .i64 x.id, .bool (!x.eq), .slice x.sa x.ss.length x.sc, .slice x.ta x.ts.length x.tc] 30)) := (Below.refl _ _).alloc (Nat.le_refl _) _
  have B5 : Hid (Below w1.heap.size w1 (w4.alloc (Obj.cells #[.int .i64 x.id, .bool (!x.eq), .slice x.sa x.ss.length x.sc, .slice x.ta x.ts.length x.tc] 30))) := B4.out.trans (hb5.mono B4.out.size)
  have X5 := kide (X4.out.later hb5)
  have Y5 := kide (Bz.new w4 #[.int .i64 x.id, .bool (!x.eq), .slice x.sa x.ss.length x.sc, .slice x.ta x.ts.length x.tc] 30)
  obtain ⟨ob, hob⟩ : ∃ ob, w4.heap.size = ob := ⟨_, rfl⟩
  rw [hob] at Y5 hlt
  simp only [hob]
  have hlo : lb ≠ ob := by omega
  clear hob hb5 X4 B4 q0 q1 q2 q3
  generalize w4.alloc (Obj.cells #[.int .i64 x.id, .bool (!x.eq), .slice x.sa x.ss.length x.sc, .slice x.ta x.ts.length x.tc] 30) = w5 at *
  refine Calls.mono (HIO.out w5 B5.out) ?_
  rintro e w6 ⟨rfl, hb6⟩
  have B6 : Hid (Below w1.heap.size w1 w6) := B5.out.trans (hb6.mono B5.out.size)
  have X6 := kide (X5.out.later hb6)
  have Y6 := kide (Y5.out.later hb6)
  clear hb6 X5 Y5 B5

  go_wp2_with fail
  go_ret
  exact ⟨rfl, B1.out.trans (B6.out.mono B1.out.size)⟩
theorem walk_FnOpposite (a : Option Addr) (n c : Nat) (hn : n ≤ 9223372036854775807) (w : World) (hG : GF w) (hx : n ≤ 1048576 → ∃ bs : List Nat, bs.length = n ∧ RdB w a bs) :
  Calls Tryz.prog 3 #[.slice a n c] w fun e w' => e = .returned (.bool true) ∧ Below w.heap.size w w' := by
 by_cases hle : n ≤ 1048576
 ·obtain ⟨bs, hb, hr⟩ := hx hle
  exact law_FnOpposite a c bs n hb hle w hr hG
 ·have HBG := kide (big_any a n c w (by omega))
  rw [decide_eq_true (by omega)] at HBG
  clear hx
  go_enter Tryz.func3, Tryz.ntmps3
  go_wp2_with fail
  refine Calls.mono HBG.out ?_
  rintro e wq ⟨rfl, hwq⟩
  obtain rfl := hwq.symm
  go_wp2_with fail
  go_ret
  exact ⟨rfl, Below.refl _ _⟩

end Go.Proofs.YtkngpgonmedgpaaGreatDoor
