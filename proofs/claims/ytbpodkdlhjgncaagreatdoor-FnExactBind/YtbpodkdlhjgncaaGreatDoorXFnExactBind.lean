/- The law FnExactBind returns true, whatever it is handed. -/
import Derived.Test.YtbpodkdlhjgncaaGreatDoorBNI
import Derived.Test.YtbpodkdlhjgncaaGreatDoorZVT
import Derived.Test.YtbpodkdlhjgncaaGreatDoorQX
namespace Go.Proofs.YtbpodkdlhjgncaaGreatDoor
set_option linter.unusedVariables false
set_option linter.unusedSimpArgs false
open Go.RowKit

/-- A row of copied bindings, as the law marks it. -/
def RvX (w : World) (G H n : Nat) (xs : List Vg) : Prop := xs.length = n ∧ (∀ x ∈ xs, x.ts.length ≤ 1048576) ∧ ∃ f rg, RowV w G H n xs f rg
theorem RvX.out {w w' : World} {G H n C1 C2 : Nat} {xs : List Vg} (h : RvX w G H n xs) (ho : Out C1 C2 w w') (hd : C2 ≤ G ∨ H ≤ C1) : RvX w' G H n xs := by
  obtain ⟨h1, h2, f, rg, h3⟩ := h
  exact ⟨h1, h2, f, rg, h3.out h1 ho hd⟩
theorem RvX.later {w w' : World} {G H n : Nat} {xs : List Vg} (h : RvX w G H n xs) (hb : Below w.heap.size w w') : RvX w' G H n xs := by
  obtain ⟨h1, h2, f, rg, h3⟩ := h
  exact ⟨h1, h2, f, rg, h3.later h1 hb⟩
theorem markBindingS_x (G c n k H : Nat) (xs : List Vg) (w : World) (h : RvX w G H n xs) (hn2 : n ≤ 1048576) (hk : k + n * 4398056996866 ≤ 5000000000000000000) :
    Calls Tryz.prog 16 #[.slice (some ⟨G, 0, none⟩) n c, .int .i64 (k : Int)] w fun e w' => ∃ r : Nat, e = .returned (.int .i64 (r : Int)) ∧ r ≤ k + n * 4398056996866 ∧ Out G H w w' := by
  obtain ⟨h1, h2, f, rg, h3⟩ := h
  refine (markBindingS_any G c n k H xs w f rg h3 h1 hn2 h2 hk).mono ?_
  rintro e w' ⟨⟨r, hr, he⟩, ho⟩
  exact ⟨r, he, hr, ho⟩
theorem toBindingS_x (a : Option Addr) (c n : Nat) (xs : List Vg) (w : World) (hr : RdV w a xs) (hn : xs.length = n) :
    Calls Tryz.prog 9 #[.slice a n c] w fun e w' => ∃ ms : List Vg, e = .returned (.slice (some ⟨w.heap.size, 0, none⟩) n n) ∧ ms.map Vg.ct = xs.map Vg.ct ∧ RdV w' (some ⟨w.heap.size, 0, none⟩) ms ∧ RvX w' w.heap.size w'.heap.size n ms ∧ Below w.heap.size w w' := by
  subst hn
  refine (toBindingS_own a c xs w hr).mono ?_
  rintro e w' ⟨ms, rfl, hm, hrd, hb, f, rg, hw⟩
  refine ⟨ms, rfl, hm, hrd, ⟨len_of_vc hm rfl, fun x hx => ?_, f, rg, hw⟩, hb⟩
  obtain ⟨i, hi, e⟩ := List.getElem_of_mem hx
  rcases hrd.2 with h0 | ⟨b, o, -, hc⟩
  · rw [h0] at hi; simp at hi
  · exact (hc i x (by rw [List.getElem?_eq_getElem hi, e])).2.1.1

set_option maxHeartbeats 4000000 in
set_option maxRecDepth 100000 in
theorem law_yes_FnExactBind (a b d : Option Addr) (c n c2 m c3 : Nat) (n0 : Nat) (ds : List Dc) (xs : List Vg) (ys : List Bw) (w : World) (hr : RdD w a ds) (hn0 : ds.length = n0) (hs : RdV w b xs) (hn : xs.length = n) (ht : RdW w d ys) (hm : ys.length = m) (hG : GF w) (Z Z2 Z3 : Int) (hZ : 0 ≤ Z) (hZ2 : 0 ≤ Z2) (hZ3 : 0 ≤ Z3)
    (HZ1 : Hid (∀ u, Below w.heap.size w u → Calls Tryz.prog 4 #[.slice a n0 c, .int .i64 1048576] u fun e w' => e = .returned (.int .i64 Z) ∧ Below u.heap.size u w'))
    (HZ2 : Hid (∀ u, Below w.heap.size w u → Calls Tryz.prog 5 #[.slice b n c2, .int .i64 Z] u fun e w' => e = .returned (.int .i64 Z2) ∧ Below u.heap.size u w'))
    (HZ3 : Hid (∀ u, Below w.heap.size w u → Calls Tryz.prog 6 #[.slice d m c3, .int .i64 Z2] u fun e w' => e = .returned (.int .i64 Z3) ∧ Below u.heap.size u w')) :
    Calls Tryz.prog 3 #[.slice a n0 c, .slice b n c2, .slice d m c3] w fun e w' => e = .returned (.bool true) ∧ Below w.heap.size w w' := by
  have HTD : Hid (∀ u, Below w.heap.size w u → Calls Tryz.prog 8 #[.slice a n0 c] u fun e w' => e = .returned (.slice (some ⟨u.heap.size, 0, none⟩) n0 n0) ∧ RdD w' (some ⟨u.heap.size, 0, none⟩) ds ∧ (∃ f, w'.rowIs u.heap.size 66 (n0 * 2) f) ∧ Below u.heap.size u w') := fun u hu => by
    subst hn0
    exact toDeclS_row a c ds u (hr.later hu)
  have HTB := kide (fun u (hu : Below w.heap.size w u) => toBindingS_x b c2 n xs u (hs.later hu) hn)
  have HTA := kide (fun u (hu : Below w.heap.size w u) => toBitsS_ty d c3 m ys u (ht.later hu) hm)
  have HOK := kide (bnfR_ok (ds := ds) (bs := xs.map Vg.ct) ht.words hs.words)
  have hn02 := hr.1
  rw [hn0] at hn02
  have hnn := hs.1
  rw [hn] at hnn
  have hmm := ht.1
  rw [hm] at hmm
  have HN0 := kide hn0
  have HN := kide hn
  have HM := kide hm
  have LEN : Hid (∀ {ms zs : List Bw} {k : Nat}, ms.map Bw.ct = zs.map Bw.ct → zs.length = k → ms.length = k) := fun {ms zs k} h h2 => by
    have := congrArg List.length h
    simp at this
    omega
  have HSP : Hid (∀ u (a b d : Option Addr) (xs' : List Vg) (ys' : List Bw), RdD u a ds → RdV u b xs' → xs'.map Vg.ct = xs.map Vg.ct → RdW u d ys' → ys'.map Bw.ct = ys.map Bw.ct → Calls Tryz.prog 7 #[.slice a n0 n0, .slice b n n, .slice d m m] u (RetBn u (bnfR ds (xs.map Vg.ct) (ys.map Bw.ct)))) := fun u a b d xs' ys' h1 h2 e2 h3 e3 => by
    have h := specBind_any a b d n0 n n m m ds xs' ys' u h1 h2 (len_of_vc e2 HN.out) h3 (LEN.out e3 HM.out)
    rw [HN0.out, e2, e3] at h
    exact h
  have HIM : Hid (∀ u (a b d : Option Addr) (xs' : List Vg) (ys' : List Bw), Below w.heap.size w u → RdD u a ds → RdV u b xs' → xs'.map Vg.ct = xs.map Vg.ct → RdW u d ys' → ys'.map Bw.ct = ys.map Bw.ct → Calls Tryz.prog 11 #[.slice a n0 n0, .slice b n n, .slice d m m] u (RetBn u (bnfR ds (xs.map Vg.ct) (ys.map Bw.ct)))) := fun u a b d xs' ys' hu h1 h2 e2 h3 e3 => by
    have h := implBind_any a b d n0 n n m m ds xs' ys' u h1 h2 (len_of_vc e2 HN.out) h3 (LEN.out e3 HM.out) (hG.later hu)
    rw [HN0.out, e2, e3] at h
    exact h
  have HED : Hid (∀ u (a b : Option Addr), RdD u a ds → RdD u b ds → Calls Tryz.prog 13 #[.slice a n0 n0, .slice b n0 n0] u fun e w' => e = .returned (.bool true) ∧ Below u.heap.size u w') := fun u a b h1 h2 => by
    have h := eqDeclS_same a b n0 n0 ds u h1 h2
    rw [HN0.out] at h
    exact h
  generalize bnfR ds (xs.map Vg.ct) (ys.map Bw.ct) = X at *
  clear hr hn0 hs hn ht hm hG
  have hXX : (!X.2 == X.2) = false := by cases X.2 <;> rfl
  have hXX2 : (X.2 != X.2) = false := by cases X.2 <;> rfl
  generalize hX2 : X.2 = xb at hXX hXX2
  have HX2 := kide hX2
  clear hX2
  have HNN := kide hnn
  go_enter Tryz.func3, Tryz.ntmps3
  have B0 := kide (Below.refl w.heap.size w)
  go_wp2_with fail
  refine Calls.mono (HZ1.out _ B0.out) ?_
  rintro e w1 ⟨rfl, hb⟩
  have B1 := kide (B0.out.trans (hb.mono B0.out.size))
  have z1 : w.heap.size ≤ w1.heap.size := hb.size
  clear hb B0
  go_wp2_with fail
  refine Calls.mono (HZ2.out _ B1.out) ?_
  rintro e w2 ⟨rfl, hb⟩
  have B2 := kide (B1.out.trans (hb.mono B1.out.size))
  have z2 : w1.heap.size ≤ w2.heap.size := hb.size
  clear hb B1
  go_wp2_with fail
  refine Calls.mono (HZ3.out _ B2.out) ?_
  rintro e w3 ⟨rfl, hb⟩
  have B3 := kide (B2.out.trans (hb.mono B2.out.size))
  have z3 : w2.heap.size ≤ w3.heap.size := hb.size
  clear hb B2
  go_wp2_with fail
  refine Calls.mono (HTD.out _ B3.out) ?_
  rintro e w4 ⟨rfl, r, -, hb⟩
  have B4 := kide (B3.out.trans (hb.mono B3.out.size))
  have z4 : w3.heap.size ≤ w4.heap.size := hb.size
  have RD4 := kide r
  clear r
  clear hb B3
  go_wp2_with fail
  refine Calls.mono (HTB.out _ B4.out) ?_
  rintro e w5 ⟨m5, rfl, e5, r, -, hb⟩
  have B5 := kide (B4.out.trans (hb.mono B4.out.size))
  have z5 : w4.heap.size ≤ w5.heap.size := hb.size
  have RD5 := kide (RD4.out.later hb)
  have RB5 := kide r
  have E5 := kide e5
  clear r e5
  clear hb B4 RD4
  go_wp2_with fail
  refine Calls.mono (HTA.out _ B5.out) ?_
  rintro e w6 ⟨m6, rfl, e6, r, -, hb⟩
  have B6 := kide (B5.out.trans (hb.mono B5.out.size))
  have z6 : w5.heap.size ≤ w6.heap.size := hb.size
  have RD6 := kide (RD5.out.later hb)
  have RB6 := kide (RB5.out.later hb)
  have RA6 := kide r
  have E6 := kide e6
  clear r e6
  clear hb B5 RD5 RB5
  go_wp2_with fail
  refine Calls.mono (HSP.out w6 _ _ _ m5 m6 RD6.out RB6.out E5.out RA6.out E6.out) ?_
  rintro e w7 ⟨v7, l7, rfl, bs7, el7, hb⟩
  have B7 := kide (B6.out.trans (hb.mono B6.out.size))
  have z7 : w6.heap.size ≤ w7.heap.size := hb.size
  have S7 := kide (Tb.of bs7)
  have EL7 := kide el7
  rw [HX2.out]
  clear bs7 el7 E5 E6
  clear hb B6 RD6 RA6 RB6
  go_wp2_with fail
  refine Calls.mono (HTD.out _ B7.out) ?_
  rintro e w8 ⟨rfl, r, ⟨fd, q⟩, hb⟩
  have B8 := kide (B7.out.trans (hb.mono B7.out.size))
  have z8 : w7.heap.size ≤ w8.heap.size := hb.size
  have S8 := kide (S7.out.later hb)
  have RD8 := kide r
  have QD8 := kide q
  have zl8 : w7.heap.size < w8.heap.size := q.lt
  clear r q
  clear hb B7 S7
  go_wp2_with fail
  refine Calls.mono (HTB.out _ B8.out) ?_
  rintro e w9 ⟨m9, rfl, e9, r, q, hb⟩
  have B9 := kide (B8.out.trans (hb.mono B8.out.size))
  have z9 : w8.heap.size ≤ w9.heap.size := hb.size
  have S9 := kide (S8.out.later hb)
  have RD9 := kide (RD8.out.later hb)
  have QD9 := kide (rowIs_out QD8.out (Out.of (B1 := 0) (B2 := 0) hb) (.inr (Nat.zero_le _)))
  have RB9 := kide r
  have QB9 := kide q
  have E9 := kide e9
  clear r q e9
  clear hb B8 S8 RD8 QD8
  go_wp2_with fail
  refine Calls.mono (HTA.out _ B9.out) ?_
  rintro e w10 ⟨m10, rfl, e10, r, q, hb⟩
  have B10 := kide (B9.out.trans (hb.mono B9.out.size))
  have z10 : w9.heap.size ≤ w10.heap.size := hb.size
  have S10 := kide (S9.out.later hb)
  have RD10 := kide (RD9.out.later hb)
  have QD10 := kide (rowIs_out QD9.out (Out.of (B1 := 0) (B2 := 0) hb) (.inr (Nat.zero_le _)))
  have RB10 := kide (RB9.out.later hb)
  have QB10 := kide (QB9.out.later hb)
  have RA10 := kide r
  have QA10 := kide q
  have E10 := kide e10
  clear r q e10
  clear hb B9 S9 RD9 QD9 RB9 QB9
  go_wp2_with fail
  refine Calls.mono (HIM.out w10 _ _ _ m9 m10 B10.out RD10.out RB10.out E9.out RA10.out E10.out) ?_
  rintro e w11 ⟨v11, l11, rfl, bs11, el11, hb⟩
  have B11 := kide (B10.out.trans (hb.mono B10.out.size))
  have z11 : w10.heap.size ≤ w11.heap.size := hb.size
  have S11 := kide (S10.out.later hb)
  have RD11 := kide (RD10.out.later hb)
  have QD11 := kide (rowIs_out QD10.out (Out.of (B1 := 0) (B2 := 0) hb) (.inr (Nat.zero_le _)))
  have RB11 := kide (RB10.out.later hb)
  have QB11 := kide (QB10.out.later hb)
  have RA11 := kide (RA10.out.later hb)
  have QA11 := kide (QA10.out.shp (Shp.of hb))
  have G11 := kide (Tb.of bs11)
  have EL11 := kide el11
  rw [HX2.out]
  clear bs11 el11
  clear hb B10 S10 RD10 QD10 RB10 QB10 RA10 QA10
  go_wp2_with fail
  refine Calls.mono (eqBs G11.out.bs S11.out.bs (by rw [EL11.out]; exact HOK.out) (EL7.out.trans EL11.out.symm)) ?_
  rintro e w12 ⟨rfl, hb⟩
  have B12 := kide (B11.out.trans (hb.mono B11.out.size))
  have z12 : w11.heap.size ≤ w12.heap.size := hb.size
  have S12 := kide (S11.out.later hb)
  have RD12 := kide (RD11.out.later hb)
  have QD12 := kide (rowIs_out QD11.out (Out.of (B1 := 0) (B2 := 0) hb) (.inr (Nat.zero_le _)))
  have RB12 := kide (RB11.out.later hb)
  have QB12 := kide (QB11.out.later hb)
  have RA12 := kide (RA11.out.later hb)
  have QA12 := kide (QA11.out.shp (Shp.of hb))
  have G12 := kide (G11.out.later hb)
  clear hb B11 S11 RD11 QD11 RB11 QB11 RA11 QA11 G11
  go_wp2_with fail
  refine Calls.mono (HTD.out _ B12.out) ?_
  rintro e w13 ⟨rfl, r, -, hb⟩
  have B13 := kide (B12.out.trans (hb.mono B12.out.size))
  have z13 : w12.heap.size ≤ w13.heap.size := hb.size
  have S13 := kide (S12.out.later hb)
  have RD13 := kide (RD12.out.later hb)
  have QD13 := kide (rowIs_out QD12.out (Out.of (B1 := 0) (B2 := 0) hb) (.inr (Nat.zero_le _)))
  have RB13 := kide (RB12.out.later hb)
  have QB13 := kide (QB12.out.later hb)
  have RA13 := kide (RA12.out.later hb)
  have QA13 := kide (QA12.out.shp (Shp.of hb))
  have G13 := kide (G12.out.later hb)
  have P13 := kide r
  clear r
  clear hb B12 S12 RD12 QD12 RB12 QB12 RA12 QA12 G12
  go_wp2_with fail
  refine Calls.mono (HED.out _ _ _ RD13.out P13.out) ?_
  rintro e w14 ⟨rfl, hb⟩
  have B14 := kide (B13.out.trans (hb.mono B13.out.size))
  have z14 : w13.heap.size ≤ w14.heap.size := hb.size
  have S14 := kide (S13.out.later hb)
  have QD14 := kide (rowIs_out QD13.out (Out.of (B1 := 0) (B2 := 0) hb) (.inr (Nat.zero_le _)))
  have RB14 := kide (RB13.out.later hb)
  have QB14 := kide (QB13.out.later hb)
  have RA14 := kide (RA13.out.later hb)
  have QA14 := kide (QA13.out.shp (Shp.of hb))
  have G14 := kide (G13.out.later hb)
  clear hb B13 S13 QD13 RB13 QB13 RA13 QA13 G13 RD13 P13
  go_wp2_with fail
  refine Calls.mono (HTB.out _ B14.out) ?_
  rintro e w15 ⟨m15, rfl, e15, r, -, hb⟩
  have B15 := kide (B14.out.trans (hb.mono B14.out.size))
  have z15 : w14.heap.size ≤ w15.heap.size := hb.size
  have S15 := kide (S14.out.later hb)
  have QD15 := kide (rowIs_out QD14.out (Out.of (B1 := 0) (B2 := 0) hb) (.inr (Nat.zero_le _)))
  have RB15 := kide (RB14.out.later hb)
  have QB15 := kide (QB14.out.later hb)
  have RA15 := kide (RA14.out.later hb)
  have QA15 := kide (QA14.out.shp (Shp.of hb))
  have G15 := kide (G14.out.later hb)
  have P15 := kide r
  have E15 := kide e15
  clear r e15
  clear hb B14 S14 QD14 RB14 QB14 RA14 QA14 G14
  go_wp2_with fail
  refine Calls.mono (eqBindingS_same _ _ n n m9 m15 w15 RB15.out P15.out (E9.out.trans E15.out.symm) n (len_of_vc E9.out HN.out) (len_of_vc E15.out HN.out)) ?_
  rintro e w16 ⟨rfl, hb⟩
  have B16 := kide (B15.out.trans (hb.mono B15.out.size))
  have z16 : w15.heap.size ≤ w16.heap.size := hb.size
  have S16 := kide (S15.out.later hb)
  have QD16 := kide (rowIs_out QD15.out (Out.of (B1 := 0) (B2 := 0) hb) (.inr (Nat.zero_le _)))
  have QB16 := kide (QB15.out.later hb)
  have RA16 := kide (RA15.out.later hb)
  have QA16 := kide (QA15.out.shp (Shp.of hb))
  have G16 := kide (G15.out.later hb)
  clear E15
  clear hb B15 S15 QD15 QB15 RA15 QA15 G15 RB15 P15
  go_wp2_with fail
  refine Calls.mono (HTA.out _ B16.out) ?_
  rintro e w17 ⟨m17, rfl, e17, r, -, hb⟩
  have B17 := kide (B16.out.trans (hb.mono B16.out.size))
  have z17 : w16.heap.size ≤ w17.heap.size := hb.size
  have S17 := kide (S16.out.later hb)
  have QD17 := kide (rowIs_out QD16.out (Out.of (B1 := 0) (B2 := 0) hb) (.inr (Nat.zero_le _)))
  have QB17 := kide (QB16.out.later hb)
  have RA17 := kide (RA16.out.later hb)
  have QA17 := kide (QA16.out.shp (Shp.of hb))
  have G17 := kide (G16.out.later hb)
  have P17 := kide r
  have E17 := kide e17
  clear r e17
  clear hb B16 S16 QD16 QB16 RA16 QA16 G16
  go_wp2_with fail
  refine Calls.mono (eqBitsS_same _ _ m m m10 m17 w17 RA17.out P17.out (E10.out.trans E17.out.symm) m (LEN.out E10.out HM.out) (LEN.out E17.out HM.out)) ?_
  rintro e w18 ⟨rfl, hb⟩
  have B18 := kide (B17.out.trans (hb.mono B17.out.size))
  have z18 : w17.heap.size ≤ w18.heap.size := hb.size
  have S18 := kide (S17.out.later hb)
  have QD18 := kide (rowIs_out QD17.out (Out.of (B1 := 0) (B2 := 0) hb) (.inr (Nat.zero_le _)))
  have QB18 := kide (QB17.out.later hb)
  have QA18 := kide (QA17.out.shp (Shp.of hb))
  have G18 := kide (G17.out.later hb)
  clear E17
  clear hb B17 S17 QD17 QB17 QA17 G17 RA17 P17
  go_wp2_with fail
  refine Calls.mono (markDeclS_one w7.heap.size n0 n0 fd w18 QD18.out hn02) ?_
  rintro e w19 ⟨rfl, ho⟩
  have B19 := kide (Out.bel B18.out ho (by omega))
  have z19 : w18.heap.size ≤ w19.heap.size := ho.2.2.2.1
  have S19 := kide (S18.out.keep ho (by omega))
  have QB19 := kide (QB18.out.out ho (by omega))
  have QA19 := kide (QA18.out.out ho (by omega))
  have G19 := kide (G18.out.keep ho (by omega))
  obtain ⟨K1, hK1, hK1b⟩ : ∃ K1 : Nat, ((1 + n0 * 2 : Nat) : Int) = (K1 : Int) ∧ K1 ≤ 100000000 := ⟨_, rfl, by omega⟩
  rw [hK1]
  clear hK1
  clear ho B18 S18 QB18 QA18 G18 QD18
  go_wp2_with fail
  refine Calls.mono (markBindingS_x w8.heap.size n n K1 w9.heap.size m9 w19 QB19.out HNN.out (by have := HNN.out; omega)) ?_
  rintro e w20 ⟨K2, rfl, hK2, ho⟩
  have B20 := kide (Out.bel B19.out ho (by omega))
  have z20 : w19.heap.size ≤ w20.heap.size := ho.2.2.2.1
  have S20 := kide (S19.out.keep ho (by omega))
  have QA20 := kide (QA19.out.out ho (by omega))
  have G20 := kide (G19.out.keep ho (by omega))
  have hK2b : K2 ≤ 5000000000000000000 := by have := HNN.out; omega
  clear hK2
  clear ho B19 S19 QA19 G19 QB19
  go_wp2_with fail
  refine Calls.mono (markBitsS_ty w9.heap.size w10.heap.size m m K2 _ w20 QA20.out hK2b) ?_
  rintro e w21 ⟨K3, rfl, hK3, -, ho⟩
  have B21 := kide (Out.bel B20.out ho (by omega))
  have z21 : w20.heap.size ≤ w21.heap.size := ho.2.2.2.1
  have S21 := kide (S20.out.keep ho (by omega))
  have G21 := kide (G20.out.keep ho (by omega))
  have hK3b : ¬ (K3 : Int) < 0 := by omega
  clear hK3
  clear ho B20 S20 G20 QA20
  go_wp2_with fail
  refine Calls.mono (eqBs G21.out.bs S21.out.bs (by rw [EL11.out]; exact HOK.out) (EL7.out.trans EL11.out.symm)) ?_
  rintro e w22 ⟨rfl, hb⟩
  have B22 := kide (B21.out.trans (hb.mono B21.out.size))
  have z22 : w21.heap.size ≤ w22.heap.size := hb.size
  have S22 := kide (S21.out.later hb)
  have G22 := kide (G21.out.later hb)
  clear hb B21 S21 G21
  obtain ⟨ga, gc, rfl⟩ := G22.out.bs.form
  have hgl : l11.length ≤ 1048576 := by have := HOK.out.1; rw [← EL11.out] at this; simpa using this
  have HGW : Hid (∀ x ∈ l11, x.ws.length ≤ 1048576) := fun x hx => (HOK.out.2 x.ct (by rw [← EL11.out]; exact List.mem_map_of_mem hx)).2.1
  have HLE := kide (mkAt_le (k := 1) HGW.out l11.length)
  go_wp2_with fail
  refine Calls.mono (markV_any w10.heap.size w22.heap.size l11.length gc ga l11 w22 G22.out.bs HGW.out rfl hgl (Nat.le_refl _)) ?_
  rintro e w23 ⟨rfl, hh, ho⟩
  have B23 := kide (Out.bel B22.out ho (by omega))
  have z23 : w22.heap.size ≤ w23.heap.size := ho.2.2.2.1
  have S23 := kide (S22.out.keep ho (by omega))
  have HH23 := kide hh
  obtain ⟨V, hV⟩ : ∃ V, mkAt l11 1 l11.length = V := ⟨_, rfl⟩
  have HVV := kide (fun u (hu : HeldV u (.slice ga l11.length gc) l11 1) => heldV_any l11.length gc ga l11 u hu HGW.out rfl hgl)
  rw [hV] at HVV
  rw [hV]
  have hv0 : ¬ (V : Int) < 0 := by omega
  have hvv : ((V : Int) != (V : Int)) = false := by simp
  clear hh hV
  clear ho B22 S22 G22
  go_wp2_with fail
  refine Calls.mono (HVV.out w23 HH23.out) ?_
  rintro e wq ⟨rfl, hwq⟩
  obtain rfl := hwq.symm
  clear hwq
  go_wp2_with fail
  refine Calls.mono (HTD.out _ B23.out) ?_
  rintro e w24 ⟨rfl, r, -, hb⟩
  have B24 := kide (B23.out.trans (hb.mono B23.out.size))
  have z24 : w23.heap.size ≤ w24.heap.size := hb.size
  have S24 := kide (S23.out.later hb)
  have HH24 := kide (HH23.out.later hb)
  have RD24 := kide r
  clear r
  clear hb B23 S23 HH23
  go_wp2_with fail
  refine Calls.mono (HTB.out _ B24.out) ?_
  rintro e w25 ⟨m25, rfl, e25, r, -, hb⟩
  have B25 := kide (B24.out.trans (hb.mono B24.out.size))
  have z25 : w24.heap.size ≤ w25.heap.size := hb.size
  have S25 := kide (S24.out.later hb)
  have HH25 := kide (HH24.out.later hb)
  have RD25 := kide (RD24.out.later hb)
  have RB25 := kide r
  have E25 := kide e25
  clear r e25
  clear hb B24 S24 HH24 RD24
  go_wp2_with fail
  refine Calls.mono (HTA.out _ B25.out) ?_
  rintro e w26 ⟨m26, rfl, e26, r, -, hb⟩
  have B26 := kide (B25.out.trans (hb.mono B25.out.size))
  have z26 : w25.heap.size ≤ w26.heap.size := hb.size
  have S26 := kide (S25.out.later hb)
  have HH26 := kide (HH25.out.later hb)
  have RD26 := kide (RD25.out.later hb)
  have RB26 := kide (RB25.out.later hb)
  have RA26 := kide r
  have E26 := kide e26
  clear r e26
  clear hb B25 S25 HH25 RD25 RB25
  go_wp2_with fail
  refine Calls.mono (HIM.out w26 _ _ _ m25 m26 B26.out RD26.out RB26.out E25.out RA26.out E26.out) ?_
  rintro e w27 ⟨v27, l27, rfl, bs27, el27, hb⟩
  have B27 := kide (B26.out.trans (hb.mono B26.out.size))
  have z27 : w26.heap.size ≤ w27.heap.size := hb.size
  have S27 := kide (S26.out.later hb)
  have HH27 := kide (HH26.out.later hb)
  have H27 := kide (Tb.of bs27)
  have EL27 := kide el27
  rw [HX2.out]
  clear bs27 el27
  clear hb B26 S26 HH26 RD26 RA26 RB26
  go_wp2_with fail
  refine Calls.mono (eqBs H27.out.bs S27.out.bs (by rw [EL27.out]; exact HOK.out) (EL7.out.trans EL27.out.symm)) ?_
  rintro e w28 ⟨rfl, hb⟩
  have B28 := kide (B27.out.trans (hb.mono B27.out.size))
  have z28 : w27.heap.size ≤ w28.heap.size := hb.size
  have HH28 := kide (HH27.out.later hb)
  clear hb B27 HH27 H27 S27
  go_wp2_with fail
  refine Calls.mono (HVV.out w28 HH28.out) ?_
  rintro e wq ⟨rfl, hwq⟩
  obtain rfl := hwq.symm
  clear hwq
  go_wp2_with fail
  go_ret
  exact ⟨rfl, B28.out⟩

theorem walk_FnExactBind (a : Option Addr) (n0 c : Nat) (hn0 : n0 ≤ 9223372036854775807) (b : Option Addr) (n c2 : Nat) (hn : n ≤ 9223372036854775807) (d : Option Addr) (m c3 : Nat) (hm : m ≤ 9223372036854775807) (w : World) (hG : GF w)
    (hx : n0 ≤ 1048576 → ∃ ds : List Dc, ds.length = n0 ∧ RdD w a ds) (hy : n ≤ 1048576 → ∃ hs : List Vh, hs.length = n ∧ RdVh w b hs ∧ ∀ h ∈ hs, BndOf w h) (hz : m ≤ 1048576 → ∃ hs : List Bh, hs.length = m ∧ RdBh w d hs ∧ ∀ h ∈ hs, WordsOf w h) :
    Calls Tryz.prog 3 #[.slice a n0 c, .slice b n c2, .slice d m c3] w fun e w' => e = .returned (.bool true) ∧ Below w.heap.size w w' := by
  obtain ⟨Z, HZ1, hZb, hneg | ⟨hZ, ds, hdl, hr⟩⟩ := size_ds a n0 c w hn0 hx
  · clear hx hy hz
    go_enter Tryz.func3, Tryz.ntmps3
    go_wp2_with fail
    refine Calls.mono (HZ1.out _ (Below.refl _ _)) ?_
    rintro e w1 ⟨rfl, hb1⟩
    go_wp2_with fail
    go_ret
    exact ⟨rfl, hb1⟩
  · obtain ⟨Z2, HZ2, hZ2b, hneg | ⟨hZ2, xs, hxl, hs⟩⟩ := size_vs b n c2 Z w hZ hZb hn hy
    · clear hx hy hz hr
      go_enter Tryz.func3, Tryz.ntmps3
      go_wp2_with fail
      refine Calls.mono (HZ1.out _ (Below.refl _ _)) ?_
      rintro e w1 ⟨rfl, hb1⟩
      go_wp2_with fail
      refine Calls.mono (HZ2.out _ hb1) ?_
      rintro e w2 ⟨rfl, hb2⟩
      go_wp2_with fail
      go_ret
      exact ⟨rfl, hb1.trans (hb2.mono hb1.size)⟩
    · obtain ⟨Z3, HZ3, hZ3b, hneg | ⟨hZ3, ys, hyl, ht⟩⟩ := size_bs d m c3 Z2 w hZ2 hZ2b hm hz
      · clear hx hy hz hr hs
        go_enter Tryz.func3, Tryz.ntmps3
        go_wp2_with fail
        refine Calls.mono (HZ1.out _ (Below.refl _ _)) ?_
        rintro e w1 ⟨rfl, hb1⟩
        go_wp2_with fail
        refine Calls.mono (HZ2.out _ hb1) ?_
        rintro e w2 ⟨rfl, hb2⟩
        have hb12 := hb1.trans (hb2.mono hb1.size)
        go_wp2_with fail
        refine Calls.mono (HZ3.out _ hb12) ?_
        rintro e w3 ⟨rfl, hb3⟩
        go_wp2_with fail
        go_ret
        exact ⟨rfl, hb12.trans (hb3.mono hb12.size)⟩
      · exact law_yes_FnExactBind a b d c n c2 m c3 n0 ds xs ys w hr hdl hs hxl ht hyl hG Z Z2 Z3 hZ hZ2 hZ3 HZ1 HZ2 HZ3

end Go.Proofs.YtbpodkdlhjgncaaGreatDoor
