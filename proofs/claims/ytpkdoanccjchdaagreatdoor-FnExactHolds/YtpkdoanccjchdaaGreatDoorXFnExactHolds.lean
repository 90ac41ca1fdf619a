/- The law FnExactHolds returns true, whatever it is handed. -/
import Derived.Test.YtpkdoanccjchdaaGreatDoorZKJ
import Derived.Test.YtpkdoanccjchdaaGreatDoorEZH
namespace Go.Proofs.YtpkdoanccjchdaaGreatDoor
set_option linter.unusedVariables false
set_option linter.unusedSimpArgs false
open Go.RowKit

theorem len_of_ct {ms xs : List Bw} {n : Nat} (h : ms.map Bw.ct = xs.map Bw.ct) (hn : xs.length = n) : ms.length = n := by
  rw [← hn]; simpa using congrArg List.length h

theorem id_of {x y : Lg} (h : y.ct = x.ct) (hi : in64 x.id) : in64 y.id := by
  have : y.id = x.id := congrArg Lc.id h
  rw [this]; exact hi

theorem eqLit_ct (x y : Lg) (w : World) (h : x.ct = y.ct) (h1 : RdT w x.sa x.ss) (h2 : RdT w y.sa y.ss) (h3 : RdT w x.ta x.ts) (h4 : RdT w y.ta y.ts) :
    Calls Tryz.prog 47 #[x.val, y.val] w fun e w' => e = .returned (.bool true) ∧ Below w.heap.size w w' := by
  obtain ⟨id, q, ss, sa, sc, ts, ta, tc⟩ := x
  obtain ⟨id', q', ss', sa', sc', ts', ta', tc'⟩ := y
  simp only [Lg.ct, Lc.mk.injEq] at h
  obtain ⟨rfl, rfl, e1, e2⟩ := h
  simp only [Lg.val] at *
  have l1 : ss'.length = ss.length := by simpa using (congrArg List.length e1).symm
  have l2 : ts'.length = ts.length := by simpa using (congrArg List.length e2).symm
  rw [l1, l2]
  exact eqLiteral_same id q sa sa' ta ta' sc sc' tc tc' ss.length ts.length ss ss' ts ts' w h1 h2 h3 h4 e1 e2 rfl l1 rfl l2

set_option maxHeartbeats 4000000 in
set_option maxRecDepth 100000 in
theorem law_yes_FnExactHolds (a va : Option Addr) (c vc vn : Nat) (ds : List Dc) (vs : List Bw) (x : Lg) (w : World) (hr : RdD w a ds) (hv : RdW w va vs) (hs : RdT w x.sa x.ss) (ht : RdT w x.ta x.ts) (hid : in64 x.id) (hvn : vs.length = vn) (hG : GF w) (Z Z2 Z3 : Int)
    (hz : 0 ≤ Z) (hz2 : 0 ≤ Z2) (hz3 : 0 ≤ Z3)
    (HSZ : Hid (∀ u, Below w.heap.size w u → Calls Tryz.prog 9 #[.slice a ds.length c, .int .i64 1048576] u fun e w' => e = .returned (.int .i64 Z) ∧ Below u.heap.size u w'))
    (HSV : Hid (∀ u, Below w.heap.size w u → Calls Tryz.prog 28 #[.slice va vn vc, .int .i64 Z] u fun e w' => e = .returned (.int .i64 Z2) ∧ Below u.heap.size u w'))
    (HSL : Hid (∀ u, Below w.heap.size w u → Calls Tryz.prog 43 #[x.val, .int .i64 Z2] u fun e w' => e = .returned (.int .i64 Z3) ∧ Below u.heap.size u w')) :
    Calls Tryz.prog 7 #[.slice a ds.length c, .slice va vn vc, x.val] w fun e w' => e = .returned (.bool true) ∧ Below w.heap.size w w' := by
  have HGF := kide (fun u (hu : Below w.heap.size w u) => hG.later hu)
  have HR := kide hr
  have HVN := kide hvn
  have HID := kide hid
  have HTV : Hid (∀ u, Below w.heap.size w u → Calls Tryz.prog 30 #[.slice va vn vc] u fun e w' => ∃ ms : List Bw, e = .returned (.slice (some ⟨u.heap.size, 0, none⟩) vn vn) ∧ ms.map Bw.ct = vs.map Bw.ct ∧ RdW w' (some ⟨u.heap.size, 0, none⟩) ms ∧ Below u.heap.size u w') := fun u hu => by
    have := toBitsS_any va vc vs u (hv.later hu)
    rwa [hvn] at this
  have HTL : Hid (∀ u, Below w.heap.size w u → Calls Tryz.prog 45 #[x.val] u fun e w' => ∃ y : Lg, e = .returned y.val ∧ y.ct = x.ct ∧ RdT w' y.sa y.ss ∧ RdT w' y.ta y.ts ∧ Below u.heap.size u w') := fun u hu =>
    (toLiteral_far x u (hs.later hu) (ht.later hu)).mono (fun e w' ⟨y, h1, h2, h3, _, h5, _, h7⟩ => ⟨y, h1, h2, h3, h5, h7⟩)
  have s0 := St.start w (.cells #[.int .i64 x.id, .bool x.eq, .slice x.sa x.ss.length x.sc, .slice x.ta x.ts.length x.tc] 74)
  clear hr hv hs ht hid hvn hG
  simp only [Lg.val] at *
  go_enter Tryz.func7, Tryz.ntmps7
  go_wp2_with fail
  refine Calls.mono (HSZ.out _ s0.below) ?_
  rintro e w1 ⟨rfl, hb1⟩
  have s1 := s0.next hb1
  clear hb1
  go_wp2_with fail
  refine Calls.mono (HSV.out w1 s1.below) ?_
  rintro e w2 ⟨rfl, hb2⟩
  have s2 := s1.next hb2
  clear hb2
  have c0 : w2.cell? ⟨w.heap.size, 0, none⟩ = some (.int .i64 x.id) := s2.cell 0
  have c1 : w2.cell? ⟨w.heap.size, 1, none⟩ = some (.bool x.eq) := s2.cell 1
  have c2 : w2.cell? ⟨w.heap.size, 2, none⟩ = some (.slice x.sa x.ss.length x.sc) := s2.cell 2
  have c3 : w2.cell? ⟨w.heap.size, 3, none⟩ = some (.slice x.ta x.ts.length x.tc) := s2.cell 3
  go_wp2_with fail
  refine Calls.mono (HSL.out w2 s2.below) ?_
  rintro e w3 ⟨rfl, hb3⟩
  have s3 := s2.next hb3
  clear hb3 c0 c1 c2 c3
  have c0 : w3.cell? ⟨w.heap.size, 0, none⟩ = some (.int .i64 x.id) := s3.cell 0
  have c1 : w3.cell? ⟨w.heap.size, 1, none⟩ = some (.bool x.eq) := s3.cell 1
  have c2 : w3.cell? ⟨w.heap.size, 2, none⟩ = some (.slice x.sa x.ss.length x.sc) := s3.cell 2
  have c3 : w3.cell? ⟨w.heap.size, 3, none⟩ = some (.slice x.ta x.ts.length x.tc) := s3.cell 3
  have B3 := kide s3.below
  go_wp2_with fail
  go_region_held3 (fun z => z.cell? ⟨w.heap.size, 0, none⟩ = some (.int .i64 x.id) ∧ z.cell? ⟨w.heap.size, 1, none⟩ = some (.bool x.eq) ∧ z.cell? ⟨w.heap.size, 2, none⟩ = some (.slice x.sa x.ss.length x.sc) ∧ z.cell? ⟨w.heap.size, 3, none⟩ = some (.slice x.ta x.ts.length x.tc)) (simp [*])
    (first
      | (go_at_call 12; refine Calls.mono (toDeclS_any a c ds _ ?_) ?_; exact HR.out.later B3.out.drew; rintro e w4 ⟨rfl, r4, hb4⟩; replace hb4 := kundrew hb4; have s4 := St.next (wk := w3) s3 hb4; have d0 := s4.cell 0; have d1 := s4.cell 1; have d2 := s4.cell 2; have d3 := s4.cell 3; simp at d0 d1 d2 d3; have R4 := kide r4; have B4 := kide s4.below; clear hb4 r4)
      | (go_at_call 30; refine Calls.mono (HTV.out w4 B4.out) ?_; rintro e w5 ⟨v5, rfl, hv5, r5, hb5⟩; have s5 := s4.next hb5; have f0 := s5.cell 0; have f1 := s5.cell 1; have f2 := s5.cell 2; have f3 := s5.cell 3; simp at f0 f1 f2 f3; have R5 := kide (R4.out.later hb5); have S5 := kide r5; have MV5 := kide hv5; have B5 := kide s5.below; clear hb5 r5 hv5)
      | (go_at_call 45; refine Calls.mono (HTL.out w5 B5.out) ?_; rintro e w6 ⟨y6, rfl, hy6, r61, r62, hb6⟩; have s6 := s5.next hb6; have g0 := s6.cell 0; have g1 := s6.cell 1; have g2 := s6.cell 2; have g3 := s6.cell 3; simp at g0 g1 g2 g3; have R6 := kide (R5.out.later hb6); have S6 := kide (S5.out.later hb6); have HSP := kide (specHolds_any _ _ ds.length vn vn ds v5 y6 w6 R6.out S6.out (len_of_ct MV5.out HVN.out) r61 r62 (id_of hy6 HID.out)); rw [MV5.out, hy6] at HSP; clear hb6 r61 r62)
      | (go_at_call 44; refine Calls.mono HSP.out ?_; rintro e w7 ⟨rfl, hb7⟩; have s7 := s6.next hb7; have h0 := s7.cell 0; have h1 := s7.cell 1; have h2 := s7.cell 2; have h3 := s7.cell 3; simp at h0 h1 h2 h3; clear hb7))
  clear s4 s5 s6 d0 d1 d2 d3 f0 f1 f2 f3 g0 g1 g2 g3 HSP c0 c1 c2 c3 s3
  go_wp2_with fail
  refine Calls.mono (toDeclS_any a c ds w7 (HR.out.later s7.below)) ?_
  rintro e w8 ⟨rfl, r8, hb8⟩
  have s8 := s7.next hb8
  have R8 := kide r8
  clear hb8 r8 h0 h1 h2 h3
  go_wp2_with fail
  refine Calls.mono (HTV.out w8 s8.below) ?_
  rintro e w9 ⟨v9, rfl, hv9, r9, hb9⟩
  have s9 := s8.next hb9
  have R9 := kide (R8.out.later hb9)
  have S9 := kide r9
  have MV9 := kide hv9
  clear hb9 r9 hv9
  have c0 : w9.cell? ⟨w.heap.size, 0, none⟩ = some (.int .i64 x.id) := s9.cell 0
  have c1 : w9.cell? ⟨w.heap.size, 1, none⟩ = some (.bool x.eq) := s9.cell 1
  have c2 : w9.cell? ⟨w.heap.size, 2, none⟩ = some (.slice x.sa x.ss.length x.sc) := s9.cell 2
  have c3 : w9.cell? ⟨w.heap.size, 3, none⟩ = some (.slice x.ta x.ts.length x.tc) := s9.cell 3
  go_wp2_with fail
  refine Calls.mono (HTL.out w9 s9.below) ?_
  rintro e w10 ⟨y10, rfl, hy10, r101, r102, hb10⟩
  have s10 := s9.next hb10
  have R10 := kide (R9.out.later hb10)
  have S10 := kide (S9.out.later hb10)
  have MY10 := kide hy10
  have P10 := kide r101
  have Q10 := kide r102
  clear hb10 r101 r102 hy10 c0 c1 c2 c3
  have hbx : Below w10.heap.size w10 (w10.alloc (Obj.cells #[Value.int .i64 y10.id, Value.bool y10.eq, Value.slice y10.sa y10.ss.length y10.sc, Value.slice y10.ta y10.ts.length y10.tc] 79)) := (Below.refl _ _).alloc (Nat.le_refl _) _
  have s11 := s10.next hbx
  have t11 := St.start w10 (.cells #[.int .i64 y10.id, .bool y10.eq, .slice y10.sa y10.ss.length y10.sc, .slice y10.ta y10.ts.length y10.tc] 79)
  have R11 := kide (R10.out.later hbx)
  have S11 := kide (S10.out.later hbx)
  have P11 := kide (P10.out.later hbx)
  have Q11 := kide (Q10.out.later hbx)
  have HIM := kide (implHolds_any _ _ ds.length vn vn ds v9 y10 _ R11.out S11.out (len_of_ct MV9.out HVN.out) P11.out Q11.out (id_of MY10.out HID.out) (HGF.out _ s11.below))
  rw [MV9.out, MY10.out] at HIM
  clear hbx
  go_wp2_with fail
  generalize w10.alloc (Obj.cells #[Value.int .i64 y10.id, Value.bool y10.eq, Value.slice y10.sa y10.ss.length y10.sc, Value.slice y10.ta y10.ts.length y10.tc] 79) = w11 at *
  refine Calls.mono HIM.out ?_
  rintro e w12 ⟨rfl, hb12⟩
  have s12 := s11.next hb12
  have t12 := t11.next hb12
  have R12 := kide (R11.out.later hb12)
  have S12 := kide (S11.out.later hb12)
  have P12 := kide (P11.out.later hb12)
  have Q12 := kide (Q11.out.later hb12)
  clear hb12 HIM s11 t11
  generalize holR ds (vs.map Bw.ct) x.ct = V at *
  have hbb : (V.1 != V.1) = false := by simp
  have hbc : (V.2 != V.2) = false := by simp
  go_wp2_with fail
  refine Calls.mono (toDeclS_any a c ds w12 (HR.out.later s12.below)) ?_
  rintro e w13 ⟨rfl, r13, hb13⟩
  have s13 := s12.next hb13
  have t13 := t12.next hb13
  have R13 := kide (R12.out.later hb13)
  have S13 := kide (S12.out.later hb13)
  have P13 := kide (P12.out.later hb13)
  have Q13 := kide (Q12.out.later hb13)
  have U13 := kide r13
  clear hb13 r13 hbb hbc
  go_wp2_with fail
  refine Calls.mono (eqDeclS_same _ _ ds.length ds.length ds w13 R13.out U13.out) ?_
  rintro e w14 ⟨rfl, hb14⟩
  have s14 := s13.next hb14
  have t14 := t13.next hb14
  have S14 := kide (S13.out.later hb14)
  have P14 := kide (P13.out.later hb14)
  have Q14 := kide (Q13.out.later hb14)
  clear hb14
  go_wp2_with fail
  refine Calls.mono (HTV.out w14 s14.below) ?_
  rintro e w15 ⟨v15, rfl, hv15, r15, hb15⟩
  have s15 := s14.next hb15
  have t15 := t14.next hb15
  have S15 := kide (S14.out.later hb15)
  have P15 := kide (P14.out.later hb15)
  have Q15 := kide (Q14.out.later hb15)
  have U15 := kide r15
  have MV15 := kide hv15
  clear hb15 r15 hv15
  go_wp2_with fail
  refine Calls.mono (eqBitsS_same _ _ vn vn v9 v15 w15 S15.out U15.out (MV9.out.trans MV15.out.symm) vn (len_of_ct MV9.out HVN.out) (len_of_ct MV15.out HVN.out)) ?_
  rintro e w16 ⟨rfl, hb16⟩
  have s16 := s15.next hb16
  have t16 := t15.next hb16
  have P16 := kide (P15.out.later hb16)
  have Q16 := kide (Q15.out.later hb16)
  clear hb16
  have c0 : w16.cell? ⟨w.heap.size, 0, none⟩ = some (.int .i64 x.id) := s16.cell 0
  have c1 : w16.cell? ⟨w.heap.size, 1, none⟩ = some (.bool x.eq) := s16.cell 1
  have c2 : w16.cell? ⟨w.heap.size, 2, none⟩ = some (.slice x.sa x.ss.length x.sc) := s16.cell 2
  have c3 : w16.cell? ⟨w.heap.size, 3, none⟩ = some (.slice x.ta x.ts.length x.tc) := s16.cell 3
  have d0 : w16.cell? ⟨w10.heap.size, 0, none⟩ = some (.int .i64 y10.id) := t16.cell 0
  have d1 : w16.cell? ⟨w10.heap.size, 1, none⟩ = some (.bool y10.eq) := t16.cell 1
  have d2 : w16.cell? ⟨w10.heap.size, 2, none⟩ = some (.slice y10.sa y10.ss.length y10.sc) := t16.cell 2
  have d3 : w16.cell? ⟨w10.heap.size, 3, none⟩ = some (.slice y10.ta y10.ts.length y10.tc) := t16.cell 3
  have B16 := kide s16.below
  go_wp2_with fail
  go_region_held3 (fun z => z.cell? ⟨w.heap.size, 0, none⟩ = some (.int .i64 x.id) ∧ z.cell? ⟨w.heap.size, 1, none⟩ = some (.bool x.eq) ∧ z.cell? ⟨w.heap.size, 2, none⟩ = some (.slice x.sa x.ss.length x.sc) ∧ z.cell? ⟨w.heap.size, 3, none⟩ = some (.slice x.ta x.ts.length x.tc) ∧ z.cell? ⟨w10.heap.size, 0, none⟩ = some (.int .i64 y10.id) ∧ z.cell? ⟨w10.heap.size, 1, none⟩ = some (.bool y10.eq) ∧ z.cell? ⟨w10.heap.size, 2, none⟩ = some (.slice y10.sa y10.ss.length y10.sc) ∧ z.cell? ⟨w10.heap.size, 3, none⟩ = some (.slice y10.ta y10.ts.length y10.tc)) (simp [*])
    (first
      | (go_at_call 45; refine Calls.mono (HTL.out _ ?_) ?_; exact B16.out.drew; rintro e w17 ⟨y17, rfl, hy17, r171, r172, hb17⟩; replace hb17 := kundrew hb17; have s17 := St.next (wk := w16) s16 hb17; have t17 := St.next (wk := w16) t16 hb17; have f0 := s17.cell 0; have f1 := s17.cell 1; have f2 := s17.cell 2; have f3 := s17.cell 3; simp at f0 f1 f2 f3; have g0 := t17.cell 0; have g1 := t17.cell 1; have g2 := t17.cell 2; have g3 := t17.cell 3; simp at g0 g1 g2 g3; have P17 := kide (RdT.later (w := w16) P16.out hb17); have Q17 := kide (RdT.later (w := w16) Q16.out hb17); have MY17 := kide hy17; have P18 := kide r171; have Q18 := kide r172; clear hy17 r171 r172)
      | (go_at_call 47; refine Calls.mono (eqLit_ct y10 y17 _ (MY10.out.trans MY17.out.symm) P17.out P18.out Q17.out Q18.out) ?_; rintro e w18 ⟨rfl, hb18⟩; have s18 := s17.next hb18; have t18 := t17.next hb18; have h0 := s18.cell 0; have h1 := s18.cell 1; have h2 := s18.cell 2; have h3 := s18.cell 3; simp at h0 h1 h2 h3; have k0 := t18.cell 0; have k1 := t18.cell 1; have k2 := t18.cell 2; have k3 := t18.cell 3; simp at k0 k1 k2 k3))
  go_wp2_with fail
  go_ret
  exact ⟨rfl, s18.below⟩

theorem law_no_FnExactHolds (a va : Option Addr) (n0 c vn vc : Nat) (x : Lh) (w : World) (Z Z2 Z3 : Int) (h : Z < 0 ∨ 0 ≤ Z ∧ Z2 < 0 ∨ 0 ≤ Z ∧ 0 ≤ Z2 ∧ Z3 < 0)
    (HSZ : Hid (∀ u, Below w.heap.size w u → Calls Tryz.prog 9 #[.slice a n0 c, .int .i64 1048576] u fun e w' => e = .returned (.int .i64 Z) ∧ Below u.heap.size u w'))
    (HSV : Hid (0 ≤ Z → ∀ u, Below w.heap.size w u → Calls Tryz.prog 28 #[.slice va vn vc, .int .i64 Z] u fun e w' => e = .returned (.int .i64 Z2) ∧ Below u.heap.size u w'))
    (HSL : Hid (0 ≤ Z → 0 ≤ Z2 → ∀ u, Below w.heap.size w u → Calls Tryz.prog 43 #[x.val, .int .i64 Z2] u fun e w' => e = .returned (.int .i64 Z3) ∧ Below u.heap.size u w')) :
    Calls Tryz.prog 7 #[.slice a n0 c, .slice va vn vc, x.val] w fun e w' => e = .returned (.bool true) ∧ Below w.heap.size w w' := by
  have s0 := St.start w (.cells #[.int .i64 x.id, .bool x.eq, .slice x.sa x.sn x.sc, .slice x.ta x.tn x.tc] 74)
  simp only [Lh.val] at *
  rcases h with h | ⟨h, h2⟩ | ⟨h, h2, h3⟩
  · go_enter Tryz.func7, Tryz.ntmps7
    go_wp2_with fail
    refine Calls.mono (HSZ.out _ s0.below) ?_
    rintro e w1 ⟨rfl, hb1⟩
    have s1 := s0.next hb1
    go_wp2_with fail
    go_ret
    exact ⟨rfl, s1.below⟩
  · go_enter Tryz.func7, Tryz.ntmps7
    go_wp2_with fail
    refine Calls.mono (HSZ.out _ s0.below) ?_
    rintro e w1 ⟨rfl, hb1⟩
    have s1 := s0.next hb1
    go_wp2_with fail
    refine Calls.mono (HSV.out h w1 s1.below) ?_
    rintro e w2 ⟨rfl, hb2⟩
    have s2 := s1.next hb2
    have c0 : w2.cell? ⟨w.heap.size, 0, none⟩ = some (.int .i64 x.id) := s2.cell 0
    have c1 : w2.cell? ⟨w.heap.size, 1, none⟩ = some (.bool x.eq) := s2.cell 1
    have c2 : w2.cell? ⟨w.heap.size, 2, none⟩ = some (.slice x.sa x.sn x.sc) := s2.cell 2
    have c3 : w2.cell? ⟨w.heap.size, 3, none⟩ = some (.slice x.ta x.tn x.tc) := s2.cell 3
    go_wp2_with fail
    go_ret
    exact ⟨rfl, s2.below⟩
  · go_enter Tryz.func7, Tryz.ntmps7
    go_wp2_with fail
    refine Calls.mono (HSZ.out _ s0.below) ?_
    rintro e w1 ⟨rfl, hb1⟩
    have s1 := s0.next hb1
    go_wp2_with fail
    refine Calls.mono (HSV.out h w1 s1.below) ?_
    rintro e w2 ⟨rfl, hb2⟩
    have s2 := s1.next hb2
    have c0 : w2.cell? ⟨w.heap.size, 0, none⟩ = some (.int .i64 x.id) := s2.cell 0
    have c1 : w2.cell? ⟨w.heap.size, 1, none⟩ = some (.bool x.eq) := s2.cell 1
    have c2 : w2.cell? ⟨w.heap.size, 2, none⟩ = some (.slice x.sa x.sn x.sc) := s2.cell 2
    have c3 : w2.cell? ⟨w.heap.size, 3, none⟩ = some (.slice x.ta x.tn x.tc) := s2.cell 3
    go_wp2_with fail
    refine Calls.mono (HSL.out h h2 w2 s2.below) ?_
    rintro e w3 ⟨rfl, hb3⟩
    have s3 := s2.next hb3
    go_wp2_with fail
    go_ret
    exact ⟨rfl, s3.below⟩

theorem walk_FnExactHolds (a : Option Addr) (n0 c : Nat) (hn0 : n0 ≤ 9223372036854775807) (va : Option Addr) (vn vc : Nat) (hvn : vn ≤ 9223372036854775807) (h : Lh) (w : World) (hG : GF w)
    (hx : n0 ≤ 1048576 → ∃ ds : List Dc, ds.length = n0 ∧ RdD w a ds) (hv : vn ≤ 1048576 → ∃ hs : List Bh, hs.length = vn ∧ RdBh w va hs ∧ ∀ h ∈ hs, WordsOf w h) (hs : TmOk w h.sa h.sn h.ss) (ht : TmOk w h.ta h.tn h.ts) (hl : LitOf w h) :
    Calls Tryz.prog 7 #[.slice a n0 c, .slice va vn vc, h.val] w fun e w' => e = .returned (.bool true) ∧ Below w.heap.size w w' := by
  obtain ⟨Z, Z2, h1, h2, h3⟩ := sizes_dv a va n0 c vn vc w hn0 hvn hx hv
  by_cases hz : Z < 0
  · exact law_no_FnExactHolds a va n0 c vn vc h w Z Z2 0 (.inl hz) h1 h2 (fun h => by omega)
  by_cases hz2 : Z2 < 0
  · exact law_no_FnExactHolds a va n0 c vn vc h w Z Z2 0 (.inr (.inl ⟨by omega, hz2⟩)) h1 h2 (fun _ h => by omega)
  obtain ⟨hZ2, ds, vs, rfl, hvl, hr, hvr, -⟩ := h3 (by omega) (by omega)
  obtain ⟨Z3, h4, h5⟩ := sizes_lt h Z2 w (by omega) hZ2 hs ht hl
  by_cases hz3 : Z3 < 0
  · exact law_no_FnExactHolds a va _ c vn vc h w Z Z2 Z3 (.inr (.inr ⟨by omega, by omega, hz3⟩)) h1 h2 (fun _ _ => h4)
  obtain ⟨x, hxv, hs1, ht1, hid⟩ := h5 (by omega)
  rw [← hxv] at h4 ⊢
  exact law_yes_FnExactHolds a va c vc vn ds vs x w hr hvr hs1 ht1 hid hvl hG Z Z2 Z3 (by omega) (by omega) (by omega) h1 (h2 (by omega)) h4

end Go.Proofs.YtpkdoanccjchdaaGreatDoor
