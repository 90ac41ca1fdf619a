/- The law FnExactMerge returns true, whatever it is handed. -/
import Derived.Test.YtkffjdicmendkaaSL
import Derived.Test.YtkffjdicmendkaaCQ
namespace Go.Proofs.Ytkffjdicmendkaa
set_option linter.unusedVariables false
set_option linter.unusedSimpArgs false
open Go.RowKit

set_option maxHeartbeats 2000000 in
set_option maxRecDepth 100000 in
theorem law_yes_FnExactMerge (a b d f : Option Addr) (c n c2 n2 c3 m c4 : Nat) (n0 : Nat) (ds : List Dc) (xs ys : List Bw) (vs : List Int) (w : World) (hr : RdD w a ds) (hn0 : ds.length = n0) (hs : RdW w b xs) (hn : xs.length = n) (ht : RdW w d ys) (hn2 : ys.length = n2) (hv : RdI w f vs) (hm : vs.length = m) (Z Z2 Z3 : Int) (hZ : 0 ≤ Z) (hZ2 : 0 ≤ Z2) (hZ3 : 0 ≤ Z3)
    (HZ1 : Hid (∀ u, Below w.heap.size w u → Calls Try.prog 6 #[.slice a n0 c, .int .i64 1048576] u fun e w' => e = .returned (.int .i64 Z) ∧ Below u.heap.size u w'))
    (HZ2 : Hid (∀ u, Below w.heap.size w u → Calls Try.prog 7 #[.slice b n c2, .int .i64 Z] u fun e w' => e = .returned (.int .i64 Z2) ∧ Below u.heap.size u w'))
    (HZ3 : Hid (∀ u, Below w.heap.size w u → Calls Try.prog 7 #[.slice d n2 c3, .int .i64 Z2] u fun e w' => e = .returned (.int .i64 Z3) ∧ Below u.heap.size u w')) :
    Calls Try.prog 5 #[.slice a n0 c, .slice b n c2, .slice d n2 c3, .slice f m c4] w fun e w' => e = .returned (.bool true) ∧ Below w.heap.size w w' := by
  have HTD : Hid (∀ u, Below w.heap.size w u → Calls Try.prog 9 #[.slice a n0 c] u fun e w' => e = .returned (.slice (some ⟨u.heap.size, 0, none⟩) n0 n0) ∧ RdD w' (some ⟨u.heap.size, 0, none⟩) ds ∧ (∃ f, w'.rowIs u.heap.size 60 (n0 * 2) f) ∧ Below u.heap.size u w') := fun u hu => by
    subst hn0
    exact toDeclS_row a c ds u (hr.later hu)
  have HTA := kide (fun u (hu : Below w.heap.size w u) => toBitsS_ty b c2 n xs u (hs.later hu) hn)
  have HTB := kide (fun u (hu : Below w.heap.size w u) => toBitsS_ty d c3 n2 ys u (ht.later hu) hn2)
  have HTV := kide (fun u (hu : Below w.heap.size w u) => toInt64S_ti f c4 m vs u (hv.later hu) hm)
  have HOK := kide (okW_mrg (ds := ds) (vs := vs) (okW.of hs) (okW.of ht))
  have hm2 := hv.1
  rw [hm] at hm2
  have hn02 := hr.1
  rw [hn0] at hn02
  have hnn := hs.1
  rw [hn] at hnn
  have hnn2 := ht.1
  rw [hn2] at hnn2
  have HN0 := kide hn0
  have HN := kide hn
  have HN2 := kide hn2
  have HM := kide hm
  have LEN : Hid (∀ {ms zs : List Bw} {k : Nat}, ms.map Bw.ct = zs.map Bw.ct → zs.length = k → ms.length = k) := fun {ms zs k} h h2 => by
    have := congrArg List.length h
    simp at this
    omega
  have HSP : Hid (∀ u (a b d f : Option Addr) (xs' ys' : List Bw), RdD u a ds → RdW u b xs' → xs'.map Bw.ct = xs.map Bw.ct → RdW u d ys' → ys'.map Bw.ct = ys.map Bw.ct → RdI u f vs → Calls Try.prog 23 #[.slice a n0 n0, .slice b n n, .slice d n2 n2, .slice f m m] u (RetM u (mrgR ds (xs.map Bw.ct) (ys.map Bw.ct) vs))) := fun u a b d f xs' ys' h1 h2 e2 h3 e3 h4 => by
    have h := specMerge_any a b d f n0 n n n2 n2 m m ds xs' ys' vs u h1 h2 (LEN.out e2 HN.out) h3 (LEN.out e3 HN2.out) h4 HM.out
    rw [HN0.out, e2, e3] at h
    exact h
  have HIM : Hid (∀ u (a b d f : Option Addr) (xs' ys' : List Bw), RdD u a ds → RdW u b xs' → xs'.map Bw.ct = xs.map Bw.ct → RdW u d ys' → ys'.map Bw.ct = ys.map Bw.ct → RdI u f vs → Calls Try.prog 25 #[.slice a n0 n0, .slice b n n, .slice d n2 n2, .slice f m m] u (RetM u (mrgR ds (xs.map Bw.ct) (ys.map Bw.ct) vs))) := fun u a b d f xs' ys' h1 h2 e2 h3 e3 h4 => by
    have h := implMerge_any a b d f n0 n n n2 n2 m m ds xs' ys' vs u h1 h2 (LEN.out e2 HN.out) h3 (LEN.out e3 HN2.out) h4 HM.out
    rw [HN0.out, e2, e3] at h
    exact h
  have HED : Hid (∀ u (a b : Option Addr), RdD u a ds → RdD u b ds → Calls Try.prog 13 #[.slice a n0 n0, .slice b n0 n0] u fun e w' => e = .returned (.bool true) ∧ Below u.heap.size u w') := fun u a b h1 h2 => by
    have h := eqDeclS_same a b n0 n0 ds u h1 h2
    rw [HN0.out] at h
    exact h
  have HEV : Hid (∀ u (a b : Option Addr), RdI u a vs → RdI u b vs → Calls Try.prog 26 #[.slice a m m, .slice b m m] u fun e w' => e = .returned (.bool true) ∧ Below u.heap.size u w') := fun u a b h1 h2 => by
    have h := eqInt64S_any a b m m vs vs u h1 h2
    rw [HM.out, decide_eq_true rfl] at h
    exact h
  generalize mrgR ds (xs.map Bw.ct) (ys.map Bw.ct) vs = X at *
  clear hr hn0 hs hn ht hn2 hv hm
  have hXX : (!X.2 == X.2) = false := by cases X.2 <;> rfl
  have hXX2 : (X.2 != X.2) = false := by cases X.2 <;> rfl
  generalize hX2 : X.2 = xb at hXX hXX2
  have HX2 := kide hX2
  clear hX2
  go_enter Try.func5, Try.ntmps5
  have B0 := kide (Below.refl w.heap.size w)
  go_wp2_with fail
  refine Calls.mono (HZ1.out _ B0.out) ?_
  rintro e w1 ⟨rfl, hb⟩
  have B1 := kide (B0.out.trans (hb.mono B0.out.size))
  have z1 : w.heap.size ≤ w1.heap.size := hb.size
  clear hb B0
  go_wp2_with fail
  refine Calls.mono (HZ2.out _ B1.out) ?_
  rintro e w2 ⟨rfl, hb⟩
  have B2 := kide (B1.out.trans (hb.mono B1.out.size))
  have z2 : w1.heap.size ≤ w2.heap.size := hb.size
  clear hb B1
  go_wp2_with fail
  refine Calls.mono (HZ3.out _ B2.out) ?_
  rintro e w3 ⟨rfl, hb⟩
  have B3 := kide (B2.out.trans (hb.mono B2.out.size))
  have z3 : w2.heap.size ≤ w3.heap.size := hb.size
  clear hb B2
  go_wp2_with fail
  refine Calls.mono (HTD.out _ B3.out) ?_
  rintro e w4 ⟨rfl, r, -, hb⟩
  have B4 := kide (B3.out.trans (hb.mono B3.out.size))
  have z4 : w3.heap.size ≤ w4.heap.size := hb.size
  have RD4 := kide r
  clear r
  clear hb B3
  go_wp2_with fail
  refine Calls.mono (HTA.out _ B4.out) ?_
  rintro e w5 ⟨m5, rfl, e5, r, -, hb⟩
  have B5 := kide (B4.out.trans (hb.mono B4.out.size))
  have z5 : w4.heap.size ≤ w5.heap.size := hb.size
  have RD5 := kide (RD4.out.later hb)
  have RA5 := kide r
  have E5 := kide e5
  clear r e5
  clear hb B4 RD4
  go_wp2_with fail
  refine Calls.mono (HTB.out _ B5.out) ?_
  rintro e w6 ⟨m6, rfl, e6, r, -, hb⟩
  have B6 := kide (B5.out.trans (hb.mono B5.out.size))
  have z6 : w5.heap.size ≤ w6.heap.size := hb.size
  have RD6 := kide (RD5.out.later hb)
  have RA6 := kide (RA5.out.later hb)
  have RB6 := kide r
  have E6 := kide e6
  clear r e6
  clear hb B5 RD5 RA5
  go_wp2_with fail
  refine Calls.mono (HTV.out _ B6.out) ?_
  rintro e w7 ⟨rfl, r, -, hb⟩
  have B7 := kide (B6.out.trans (hb.mono B6.out.size))
  have z7 : w6.heap.size ≤ w7.heap.size := hb.size
  have RD7 := kide (RD6.out.later hb)
  have RA7 := kide (RA6.out.later hb)
  have RB7 := kide (RB6.out.later hb)
  have RV7 := kide r
  clear r
  clear hb B6 RD6 RA6 RB6
  go_wp2_with fail
  refine Calls.mono (HSP.out w7 _ _ _ _ m5 m6 RD7.out RA7.out E5.out RB7.out E6.out RV7.out) ?_
  rintro e w8 ⟨v8, l8, rfl, bs8, el8, hb⟩
  have B8 := kide (B7.out.trans (hb.mono B7.out.size))
  have z8 : w7.heap.size ≤ w8.heap.size := hb.size
  have S8 := kide (Tb.of bs8)
  have EL8 := kide el8
  rw [HX2.out]
  clear bs8 el8 E5 E6
  clear hb B7 RD7 RA7 RB7 RV7
  go_wp2_with fail
  refine Calls.mono (HTD.out _ B8.out) ?_
  rintro e w9 ⟨rfl, r, ⟨fd, q⟩, hb⟩
  have B9 := kide (B8.out.trans (hb.mono B8.out.size))
  have z9 : w8.heap.size ≤ w9.heap.size := hb.size
  have S9 := kide (S8.out.later hb)
  have RD9 := kide r
  have QD9 := kide q
  have zl9 : w8.heap.size < w9.heap.size := q.lt
  clear r q
  clear hb B8 S8
  go_wp2_with fail
  refine Calls.mono (HTA.out _ B9.out) ?_
  rintro e w10 ⟨m10, rfl, e10, r, q, hb⟩
  have B10 := kide (B9.out.trans (hb.mono B9.out.size))
  have z10 : w9.heap.size ≤ w10.heap.size := hb.size
  have S10 := kide (S9.out.later hb)
  have RD10 := kide (RD9.out.later hb)
  have QD10 := kide (rowIs_out QD9.out (Out.of (B1 := 0) (B2 := 0) hb) (.inr (Nat.zero_le _)))
  have RA10 := kide r
  have QA10 := kide q
  have E10 := kide e10
  clear r q e10
  clear hb B9 S9 RD9 QD9
  go_wp2_with fail
  refine Calls.mono (HTB.out _ B10.out) ?_
  rintro e w11 ⟨m11, rfl, e11, r, q, hb⟩
  have B11 := kide (B10.out.trans (hb.mono B10.out.size))
  have z11 : w10.heap.size ≤ w11.heap.size := hb.size
  have S11 := kide (S10.out.later hb)
  have RD11 := kide (RD10.out.later hb)
  have QD11 := kide (rowIs_out QD10.out (Out.of (B1 := 0) (B2 := 0) hb) (.inr (Nat.zero_le _)))
  have RA11 := kide (RA10.out.later hb)
  have QA11 := kide (QA10.out.shp (Shp.of hb))
  have RB11 := kide r
  have QB11 := kide q
  have E11 := kide e11
  clear r q e11
  clear hb B10 S10 RD10 QD10 RA10 QA10
  go_wp2_with fail
  refine Calls.mono (HTV.out _ B11.out) ?_
  rintro e w12 ⟨rfl, r, q, hb⟩
  have B12 := kide (B11.out.trans (hb.mono B11.out.size))
  have z12 : w11.heap.size ≤ w12.heap.size := hb.size
  have S12 := kide (S11.out.later hb)
  have RD12 := kide (RD11.out.later hb)
  have QD12 := kide (rowIs_out QD11.out (Out.of (B1 := 0) (B2 := 0) hb) (.inr (Nat.zero_le _)))
  have RA12 := kide (RA11.out.later hb)
  have QA12 := kide (QA11.out.shp (Shp.of hb))
  have RB12 := kide (RB11.out.later hb)
  have QB12 := kide (QB11.out.shp (Shp.of hb))
  have RV12 := kide r
  have QV12 := kide q
  clear r q
  clear hb B11 S11 RD11 QD11 RA11 QA11 RB11 QB11
  go_wp2_with fail
  refine Calls.mono (HIM.out w12 _ _ _ _ m10 m11 RD12.out RA12.out E10.out RB12.out E11.out RV12.out) ?_
  rintro e w13 ⟨v13, l13, rfl, bs13, el13, hb⟩
  have B13 := kide (B12.out.trans (hb.mono B12.out.size))
  have z13 : w12.heap.size ≤ w13.heap.size := hb.size
  have S13 := kide (S12.out.later hb)
  have RD13 := kide (RD12.out.later hb)
  have QD13 := kide (rowIs_out QD12.out (Out.of (B1 := 0) (B2 := 0) hb) (.inr (Nat.zero_le _)))
  have RA13 := kide (RA12.out.later hb)
  have QA13 := kide (QA12.out.shp (Shp.of hb))
  have RB13 := kide (RB12.out.later hb)
  have QB13 := kide (QB12.out.shp (Shp.of hb))
  have RV13 := kide (RV12.out.later hb)
  have QV13 := kide (QV12.out.out (Out.of (B1 := w12.heap.size) (B2 := w12.heap.size) hb) (.inl (Nat.le_refl _)))
  have G13 := kide (Tb.of bs13)
  have EL13 := kide el13
  rw [HX2.out]
  clear bs13 el13
  clear hb B12 S12 RD12 QD12 RA12 QA12 RB12 QB12 RV12 QV12
  go_wp2_with fail
  refine Calls.mono (eqBs G13.out.bs S13.out.bs (by rw [EL13.out]; exact HOK.out) (EL8.out.trans EL13.out.symm)) ?_
  rintro e w14 ⟨rfl, hb⟩
  have B14 := kide (B13.out.trans (hb.mono B13.out.size))
  have z14 : w13.heap.size ≤ w14.heap.size := hb.size
  have S14 := kide (S13.out.later hb)
  have RD14 := kide (RD13.out.later hb)
  have QD14 := kide (rowIs_out QD13.out (Out.of (B1 := 0) (B2 := 0) hb) (.inr (Nat.zero_le _)))
  have RA14 := kide (RA13.out.later hb)
  have QA14 := kide (QA13.out.shp (Shp.of hb))
  have RB14 := kide (RB13.out.later hb)
  have QB14 := kide (QB13.out.shp (Shp.of hb))
  have RV14 := kide (RV13.out.later hb)
  have QV14 := kide (QV13.out.out (Out.of (B1 := w12.heap.size) (B2 := w12.heap.size) hb) (.inl (Nat.le_refl _)))
  have G14 := kide (G13.out.later hb)
  clear hb B13 S13 RD13 QD13 RA13 QA13 RB13 QB13 RV13 QV13 G13
  go_wp2_with fail
  refine Calls.mono (HTD.out _ B14.out) ?_
  rintro e w15 ⟨rfl, r, -, hb⟩
  have B15 := kide (B14.out.trans (hb.mono B14.out.size))
  have z15 : w14.heap.size ≤ w15.heap.size := hb.size
  have S15 := kide (S14.out.later hb)
  have RD15 := kide (RD14.out.later hb)
  have QD15 := kide (rowIs_out QD14.out (Out.of (B1 := 0) (B2 := 0) hb) (.inr (Nat.zero_le _)))
  have RA15 := kide (RA14.out.later hb)
  have QA15 := kide (QA14.out.shp (Shp.of hb))
  have RB15 := kide (RB14.out.later hb)
  have QB15 := kide (QB14.out.shp (Shp.of hb))
  have RV15 := kide (RV14.out.later hb)
  have QV15 := kide (QV14.out.out (Out.of (B1 := w12.heap.size) (B2 := w12.heap.size) hb) (.inl (Nat.le_refl _)))
  have G15 := kide (G14.out.later hb)
  have P15 := kide r
  clear r
  clear hb B14 S14 RD14 QD14 RA14 QA14 RB14 QB14 RV14 QV14 G14
  go_wp2_with fail
  refine Calls.mono (HED.out _ _ _ RD15.out P15.out) ?_
  rintro e w16 ⟨rfl, hb⟩
  have B16 := kide (B15.out.trans (hb.mono B15.out.size))
  have z16 : w15.heap.size ≤ w16.heap.size := hb.size
  have S16 := kide (S15.out.later hb)
  have QD16 := kide (rowIs_out QD15.out (Out.of (B1 := 0) (B2 := 0) hb) (.inr (Nat.zero_le _)))
  have RA16 := kide (RA15.out.later hb)
  have QA16 := kide (QA15.out.shp (Shp.of hb))
  have RB16 := kide (RB15.out.later hb)
  have QB16 := kide (QB15.out.shp (Shp.of hb))
  have RV16 := kide (RV15.out.later hb)
  have QV16 := kide (QV15.out.out (Out.of (B1 := w12.heap.size) (B2 := w12.heap.size) hb) (.inl (Nat.le_refl _)))
  have G16 := kide (G15.out.later hb)
  clear hb B15 S15 QD15 RA15 QA15 RB15 QB15 RV15 QV15 G15 RD15 P15
  go_wp2_with fail
  refine Calls.mono (HTA.out _ B16.out) ?_
  rintro e w17 ⟨m17, rfl, e17, r, -, hb⟩
  have B17 := kide (B16.out.trans (hb.mono B16.out.size))
  have z17 : w16.heap.size ≤ w17.heap.size := hb.size
  have S17 := kide (S16.out.later hb)
  have QD17 := kide (rowIs_out QD16.out (Out.of (B1 := 0) (B2 := 0) hb) (.inr (Nat.zero_le _)))
  have RA17 := kide (RA16.out.later hb)
  have QA17 := kide (QA16.out.shp (Shp.of hb))
  have RB17 := kide (RB16.out.later hb)
  have QB17 := kide (QB16.out.shp (Shp.of hb))
  have RV17 := kide (RV16.out.later hb)
  have QV17 := kide (QV16.out.out (Out.of (B1 := w12.heap.size) (B2 := w12.heap.size) hb) (.inl (Nat.le_refl _)))
  have G17 := kide (G16.out.later hb)
  have P17 := kide r
  have E17 := kide e17
  clear r e17
  clear hb B16 S16 QD16 RA16 QA16 RB16 QB16 RV16 QV16 G16
  go_wp2_with fail
  refine Calls.mono (eqBitsS_same _ _ n n m10 m17 w17 RA17.out P17.out (E10.out.trans E17.out.symm) n (LEN.out E10.out HN.out) (LEN.out E17.out HN.out)) ?_
  rintro e w18 ⟨rfl, hb⟩
  have B18 := kide (B17.out.trans (hb.mono B17.out.size))
  have z18 : w17.heap.size ≤ w18.heap.size := hb.size
  have S18 := kide (S17.out.later hb)
  have QD18 := kide (rowIs_out QD17.out (Out.of (B1 := 0) (B2 := 0) hb) (.inr (Nat.zero_le _)))
  have QA18 := kide (QA17.out.shp (Shp.of hb))
  have RB18 := kide (RB17.out.later hb)
  have QB18 := kide (QB17.out.shp (Shp.of hb))
  have RV18 := kide (RV17.out.later hb)
  have QV18 := kide (QV17.out.out (Out.of (B1 := w12.heap.size) (B2 := w12.heap.size) hb) (.inl (Nat.le_refl _)))
  have G18 := kide (G17.out.later hb)
  clear E17
  clear hb B17 S17 QD17 QA17 RB17 QB17 RV17 QV17 G17 RA17 P17
  go_wp2_with fail
  refine Calls.mono (HTB.out _ B18.out) ?_
  rintro e w19 ⟨m19, rfl, e19, r, -, hb⟩
  have B19 := kide (B18.out.trans (hb.mono B18.out.size))
  have z19 : w18.heap.size ≤ w19.heap.size := hb.size
  have S19 := kide (S18.out.later hb)
  have QD19 := kide (rowIs_out QD18.out (Out.of (B1 := 0) (B2 := 0) hb) (.inr (Nat.zero_le _)))
  have QA19 := kide (QA18.out.shp (Shp.of hb))
  have RB19 := kide (RB18.out.later hb)
  have QB19 := kide (QB18.out.shp (Shp.of hb))
  have RV19 := kide (RV18.out.later hb)
  have QV19 := kide (QV18.out.out (Out.of (B1 := w12.heap.size) (B2 := w12.heap.size) hb) (.inl (Nat.le_refl _)))
  have G19 := kide (G18.out.later hb)
  have P19 := kide r
  have E19 := kide e19
  clear r e19
  clear hb B18 S18 QD18 QA18 RB18 QB18 RV18 QV18 G18
  go_wp2_with fail
  refine Calls.mono (eqBitsS_same _ _ n2 n2 m11 m19 w19 RB19.out P19.out (E11.out.trans E19.out.symm) n2 (LEN.out E11.out HN2.out) (LEN.out E19.out HN2.out)) ?_
  rintro e w20 ⟨rfl, hb⟩
  have B20 := kide (B19.out.trans (hb.mono B19.out.size))
  have z20 : w19.heap.size ≤ w20.heap.size := hb.size
  have S20 := kide (S19.out.later hb)
  have QD20 := kide (rowIs_out QD19.out (Out.of (B1 := 0) (B2 := 0) hb) (.inr (Nat.zero_le _)))
  have QA20 := kide (QA19.out.shp (Shp.of hb))
  have QB20 := kide (QB19.out.shp (Shp.of hb))
  have RV20 := kide (RV19.out.later hb)
  have QV20 := kide (QV19.out.out (Out.of (B1 := w12.heap.size) (B2 := w12.heap.size) hb) (.inl (Nat.le_refl _)))
  have G20 := kide (G19.out.later hb)
  clear E19
  clear hb B19 S19 QD19 QA19 QB19 RV19 QV19 G19 RB19 P19
  go_wp2_with fail
  refine Calls.mono (HTV.out _ B20.out) ?_
  rintro e w21 ⟨rfl, r, -, hb⟩
  have B21 := kide (B20.out.trans (hb.mono B20.out.size))
  have z21 : w20.heap.size ≤ w21.heap.size := hb.size
  have S21 := kide (S20.out.later hb)
  have QD21 := kide (rowIs_out QD20.out (Out.of (B1 := 0) (B2 := 0) hb) (.inr (Nat.zero_le _)))
  have QA21 := kide (QA20.out.shp (Shp.of hb))
  have QB21 := kide (QB20.out.shp (Shp.of hb))
  have RV21 := kide (RV20.out.later hb)
  have QV21 := kide (QV20.out.out (Out.of (B1 := w12.heap.size) (B2 := w12.heap.size) hb) (.inl (Nat.le_refl _)))
  have G21 := kide (G20.out.later hb)
  have P21 := kide r
  clear r
  clear hb B20 S20 QD20 QA20 QB20 RV20 QV20 G20
  go_wp2_with fail
  refine Calls.mono (HEV.out _ _ _ RV21.out P21.out) ?_
  rintro e w22 ⟨rfl, hb⟩
  have B22 := kide (B21.out.trans (hb.mono B21.out.size))
  have z22 : w21.heap.size ≤ w22.heap.size := hb.size
  have S22 := kide (S21.out.later hb)
  have QD22 := kide (rowIs_out QD21.out (Out.of (B1 := 0) (B2 := 0) hb) (.inr (Nat.zero_le _)))
  have QA22 := kide (QA21.out.shp (Shp.of hb))
  have QB22 := kide (QB21.out.shp (Shp.of hb))
  have QV22 := kide (QV21.out.out (Out.of (B1 := w12.heap.size) (B2 := w12.heap.size) hb) (.inl (Nat.le_refl _)))
  have G22 := kide (G21.out.later hb)
  clear hb B21 S21 QD21 QA21 QB21 QV21 G21 RV21 P21
  go_wp2_with fail
  refine Calls.mono (markDeclS_one w8.heap.size n0 n0 fd w22 QD22.out hn02) ?_
  rintro e w23 ⟨rfl, ho⟩
  have B23 := kide (Out.bel B22.out ho (by omega))
  have z23 : w22.heap.size ≤ w23.heap.size := ho.2.2.2.1
  have S23 := kide (S22.out.keep ho (by omega))
  have QA23 := kide (QA22.out.out ho (by omega))
  have QB23 := kide (QB22.out.out ho (by omega))
  have QV23 := kide (QV22.out.out ho (by omega))
  have G23 := kide (G22.out.keep ho (by omega))
  obtain ⟨K1, hK1, hK1b⟩ : ∃ K1 : Nat, ((1 + n0 * 2 : Nat) : Int) = (K1 : Int) ∧ K1 ≤ 100000000 := ⟨_, rfl, by omega⟩
  rw [hK1]
  clear hK1
  clear ho B22 S22 QA22 QB22 QV22 G22 QD22
  go_wp2_with fail
  refine Calls.mono (markBitsS_ty w9.heap.size w10.heap.size n n K1 _ w23 QA23.out (by omega)) ?_
  rintro e w24 ⟨K2, rfl, hK2, -, ho⟩
  have B24 := kide (Out.bel B23.out ho (by omega))
  have z24 : w23.heap.size ≤ w24.heap.size := ho.2.2.2.1
  have S24 := kide (S23.out.keep ho (by omega))
  have QB24 := kide (QB23.out.out ho (by omega))
  have QV24 := kide (QV23.out.out ho (by omega))
  have G24 := kide (G23.out.keep ho (by omega))
  have hK2b : K2 ≤ 100000000000000 := by omega
  clear hK2
  clear ho B23 S23 QB23 QV23 G23 QA23
  go_wp2_with fail
  refine Calls.mono (markBitsS_ty w10.heap.size w11.heap.size n2 n2 K2 _ w24 QB24.out (by omega)) ?_
  rintro e w25 ⟨K3, rfl, hK3, -, ho⟩
  have B25 := kide (Out.bel B24.out ho (by omega))
  have z25 : w24.heap.size ≤ w25.heap.size := ho.2.2.2.1
  have S25 := kide (S24.out.keep ho (by omega))
  have QV25 := kide (QV24.out.out ho (by omega))
  have G25 := kide (G24.out.keep ho (by omega))
  have hK3b : K3 ≤ 1000000000000000 := by omega
  clear hK3
  clear ho B24 S24 QV24 G24 QB24
  go_wp2_with fail
  refine Calls.mono (markInt64S_ti w11.heap.size w12.heap.size m m K3 _ w25 QV25.out hm2 (by omega)) ?_
  rintro e w26 ⟨rfl, ho⟩
  have B26 := kide (Out.bel B25.out ho (by omega))
  have z26 : w25.heap.size ≤ w26.heap.size := ho.2.2.2.1
  have S26 := kide (S25.out.keep ho (by omega))
  have G26 := kide (G25.out.keep ho (by omega))
  obtain ⟨K4, hK4⟩ : ∃ K4 : Nat, K3 + m = K4 := ⟨_, rfl⟩
  rw [hK4]
  have hK4b : ¬ (K4 : Int) < 0 := by omega
  clear hK4
  clear ho B25 S25 G25 QV25
  go_wp2_with fail
  refine Calls.mono (eqBs G26.out.bs S26.out.bs (by rw [EL13.out]; exact HOK.out) (EL8.out.trans EL13.out.symm)) ?_
  rintro e w27 ⟨rfl, hb⟩
  have B27 := kide (B26.out.trans (hb.mono B26.out.size))
  have z27 : w26.heap.size ≤ w27.heap.size := hb.size
  have S27 := kide (S26.out.later hb)
  have G27 := kide (G26.out.later hb)
  clear hb B26 S26 G26
  obtain ⟨ga, gc, rfl⟩ := G27.out.bs.form
  have hgl : l13.length ≤ 1048576 := by have := HOK.out.1; rw [← EL13.out] at this; simpa using this
  have HGW : Hid (∀ x ∈ l13, x.ws.length ≤ 1048576) := fun x hx => (HOK.out.2 x.ct (by rw [← EL13.out]; exact List.mem_map_of_mem hx)).2.1
  have HLE := kide (mkAt_le (k := 1) HGW.out l13.length)
  go_wp2_with fail
  refine Calls.mono (markV_any w12.heap.size w27.heap.size l13.length gc ga l13 w27 G27.out.bs HGW.out rfl hgl (Nat.le_refl _)) ?_
  rintro e w28 ⟨rfl, hh, ho⟩
  have B28 := kide (Out.bel B27.out ho (by omega))
  have z28 : w27.heap.size ≤ w28.heap.size := ho.2.2.2.1
  have S28 := kide (S27.out.keep ho (by omega))
  have HH28 := kide hh
  obtain ⟨V, hV⟩ : ∃ V, mkAt l13 1 l13.length = V := ⟨_, rfl⟩
  have HVV := kide (fun u (hu : HeldV u (.slice ga l13.length gc) l13 1) => heldV_any l13.length gc ga l13 u hu HGW.out rfl hgl)
  rw [hV] at HVV
  rw [hV]
  have hv0 : ¬ (V : Int) < 0 := by omega
  have hvv : ((V : Int) != (V : Int)) = false := by simp
  clear hh hV
  clear ho B27 S27 G27
  go_wp2_with fail
  refine Calls.mono (HVV.out w28 HH28.out) ?_
  rintro e wq ⟨rfl, hwq⟩
  obtain rfl := hwq.symm
  clear hwq
  go_wp2_with fail
  refine Calls.mono (HTD.out _ B28.out) ?_
  rintro e w29 ⟨rfl, r, -, hb⟩
  have B29 := kide (B28.out.trans (hb.mono B28.out.size))
  have z29 : w28.heap.size ≤ w29.heap.size := hb.size
  have S29 := kide (S28.out.later hb)
  have HH29 := kide (HH28.out.later hb)
  have RD29 := kide r
  clear r
  clear hb B28 S28 HH28
  go_wp2_with fail
  refine Calls.mono (HTA.out _ B29.out) ?_
  rintro e w30 ⟨m30, rfl, e30, r, -, hb⟩
  have B30 := kide (B29.out.trans (hb.mono B29.out.size))
  have z30 : w29.heap.size ≤ w30.heap.size := hb.size
  have S30 := kide (S29.out.later hb)
  have HH30 := kide (HH29.out.later hb)
  have RD30 := kide (RD29.out.later hb)
  have RA30 := kide r
  have E30 := kide e30
  clear r e30
  clear hb B29 S29 HH29 RD29
  go_wp2_with fail
  refine Calls.mono (HTB.out _ B30.out) ?_
  rintro e w31 ⟨m31, rfl, e31, r, -, hb⟩
  have B31 := kide (B30.out.trans (hb.mono B30.out.size))
  have z31 : w30.heap.size ≤ w31.heap.size := hb.size
  have S31 := kide (S30.out.later hb)
  have HH31 := kide (HH30.out.later hb)
  have RD31 := kide (RD30.out.later hb)
  have RA31 := kide (RA30.out.later hb)
  have RB31 := kide r
  have E31 := kide e31
  clear r e31
  clear hb B30 S30 HH30 RD30 RA30
  go_wp2_with fail
  refine Calls.mono (HTV.out _ B31.out) ?_
  rintro e w32 ⟨rfl, r, -, hb⟩
  have B32 := kide (B31.out.trans (hb.mono B31.out.size))
  have z32 : w31.heap.size ≤ w32.heap.size := hb.size
  have S32 := kide (S31.out.later hb)
  have HH32 := kide (HH31.out.later hb)
  have RD32 := kide (RD31.out.later hb)
  have RA32 := kide (RA31.out.later hb)
  have RB32 := kide (RB31.out.later hb)
  have RV32 := kide r
  clear r
  clear hb B31 S31 HH31 RD31 RA31 RB31
  go_wp2_with fail
  refine Calls.mono (HIM.out w32 _ _ _ _ m30 m31 RD32.out RA32.out E30.out RB32.out E31.out RV32.out) ?_
  rintro e w33 ⟨v33, l33, rfl, bs33, el33, hb⟩
  have B33 := kide (B32.out.trans (hb.mono B32.out.size))
  have z33 : w32.heap.size ≤ w33.heap.size := hb.size
  have S33 := kide (S32.out.later hb)
  have HH33 := kide (HH32.out.later hb)
  have H33 := kide (Tb.of bs33)
  have EL33 := kide el33
  rw [HX2.out]
  clear bs33 el33
  clear hb B32 S32 HH32 RD32 RA32 RB32 RV32
  go_wp2_with fail
  refine Calls.mono (eqBs H33.out.bs S33.out.bs (by rw [EL33.out]; exact HOK.out) (EL8.out.trans EL33.out.symm)) ?_
  rintro e w34 ⟨rfl, hb⟩
  have B34 := kide (B33.out.trans (hb.mono B33.out.size))
  have z34 : w33.heap.size ≤ w34.heap.size := hb.size
  have HH34 := kide (HH33.out.later hb)
  clear hb B33 HH33 H33 S33
  go_wp2_with fail
  refine Calls.mono (HVV.out w34 HH34.out) ?_
  rintro e wq ⟨rfl, hwq⟩
  obtain rfl := hwq.symm
  clear hwq
  go_wp2_with fail
  go_ret
  exact ⟨rfl, B34.out⟩

theorem walk_FnExactMerge (a : Option Addr) (n0 c : Nat) (hn0 : n0 ≤ 9223372036854775807) (b : Option Addr) (n c2 : Nat) (hn : n ≤ 9223372036854775807) (d : Option Addr) (n2 c3 : Nat) (hn2 : n2 ≤ 9223372036854775807) (f : Option Addr) (m c4 : Nat) (hm : m ≤ 9223372036854775807) (w : World)
    (hx : n0 ≤ 1048576 → ∃ ds : List Dc, ds.length = n0 ∧ RdD w a ds) (hy : n ≤ 1048576 → ∃ hs : List Bh, hs.length = n ∧ RdBh w b hs ∧ ∀ h ∈ hs, WordsOf w h) (hz : n2 ≤ 1048576 → ∃ hs : List Bh, hs.length = n2 ∧ RdBh w d hs ∧ ∀ h ∈ hs, WordsOf w h) (hv : m ≤ 1048576 → ∃ ks : List Int, ks.length = m ∧ RdI w f ks) :
    Calls Try.prog 5 #[.slice a n0 c, .slice b n c2, .slice d n2 c3, .slice f m c4] w fun e w' => e = .returned (.bool true) ∧ Below w.heap.size w w' := by
  by_cases h1 : m ≤ 1048576
  · obtain ⟨Z, HZ1, hZb, hneg | ⟨hZ, ds, hdl, hr⟩⟩ := size_ds a n0 c w hn0 hx
    · clear hx hy hz hv
      go_enter Try.func5, Try.ntmps5
      go_wp2_with fail
      refine Calls.mono (HZ1.out _ (Below.refl _ _)) ?_
      rintro e w1 ⟨rfl, hb1⟩
      go_wp2_with fail
      go_ret
      exact ⟨rfl, hb1⟩
    · obtain ⟨Z2, HZ2, hZ2b, hneg | ⟨hZ2, xs, hxl, hs⟩⟩ := size_bs b n c2 Z w hZ hZb hn hy
      · clear hx hy hz hv hr
        go_enter Try.func5, Try.ntmps5
        go_wp2_with fail
        refine Calls.mono (HZ1.out _ (Below.refl _ _)) ?_
        rintro e w1 ⟨rfl, hb1⟩
        go_wp2_with fail
        refine Calls.mono (HZ2.out _ hb1) ?_
        rintro e w2 ⟨rfl, hb2⟩
        go_wp2_with fail
        go_ret
        exact ⟨rfl, hb1.trans (hb2.mono hb1.size)⟩
      · obtain ⟨Z3, HZ3, hZ3b, hneg | ⟨hZ3, ys, hyl, ht⟩⟩ := size_bs d n2 c3 Z2 w hZ2 hZ2b hn2 hz
        · clear hx hy hz hv hr hs
          go_enter Try.func5, Try.ntmps5
          go_wp2_with fail
          refine Calls.mono (HZ1.out _ (Below.refl _ _)) ?_
          rintro e w1 ⟨rfl, hb1⟩
          go_wp2_with fail
          refine Calls.mono (HZ2.out _ hb1) ?_
          rintro e w2 ⟨rfl, hb2⟩
          have hb12 := hb1.trans (hb2.mono hb1.size)
          go_wp2_with fail
          refine Calls.mono (HZ3.out _ hb12) ?_
          rintro e w3 ⟨rfl, hb3⟩
          go_wp2_with fail
          go_ret
          exact ⟨rfl, hb12.trans (hb3.mono hb12.size)⟩
        · obtain ⟨vs, hvl, hvv⟩ := hv h1
          exact law_yes_FnExactMerge a b d f c n c2 n2 c3 m c4 n0 ds xs ys vs w hr hdl hs hxl ht hyl hvv hvl Z Z2 Z3 hZ hZ2 hZ3 HZ1 HZ2 HZ3
  · clear hx hy hz hv
    go_enter Try.func5, Try.ntmps5
    go_wp2_with fail
    go_ret
    exact ⟨rfl, Below.refl _ _⟩

end Go.Proofs.Ytkffjdicmendkaa
