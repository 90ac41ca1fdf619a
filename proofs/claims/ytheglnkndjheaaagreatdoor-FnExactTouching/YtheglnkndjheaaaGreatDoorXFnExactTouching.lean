/- The law FnExactTouching returns true, whatever it is handed. -/
import Derived.Test.YtheglnkndjheaaaGreatDoorTQK
namespace Go.Proofs.YtheglnkndjheaaaGreatDoor
set_option linter.unusedVariables false
set_option linter.unusedSimpArgs false
open Go.RowKit

set_option maxHeartbeats 4000000 in
set_option maxRecDepth 100000 in
theorem law_yes_FnExactTouching (a b ka : Option Addr) (c c2 kc n kn : Nat) (ds : List Dc) (xs : List Lg) (ks : List Int) (w : World) (hr : RdD w a ds) (hs : RdL w b xs) (hk : RdI w ka ks) (hn : xs.length = n) (hkn : ks.length = kn) (hG : GF w) (Z Z2 : Int)
    (hz : 0 ≤ Z) (hz2 : 0 ≤ Z2)
    (HSZ : Hid (∀ u, Below w.heap.size w u → Calls Tryz.prog 5 #[.slice a ds.length c, .int .i64 1048576] u fun e w' => e = .returned (.int .i64 Z) ∧ Below u.heap.size u w'))
    (HSL : Hid (∀ u, Below w.heap.size w u → Calls Tryz.prog 6 #[.slice b n c2, .int .i64 Z] u fun e w' => e = .returned (.int .i64 Z2) ∧ Below u.heap.size u w')) :
    Calls Tryz.prog 4 #[.slice a ds.length c, .slice b n c2, .slice ka kn kc] w fun e w' => e = .returned (.bool true) ∧ Below w.heap.size w w' := by
  have HN := kide hn
  have hd2 : ds.length ≤ 1048576 := hr.1
  have hn2 : n ≤ 1048576 := by rw [← hn]; exact hs.1
  have hk2 : kn ≤ 1048576 := by rw [← hkn]; exact hk.1
  obtain ⟨hXl, hXx⟩ := tou_bounds ds (xs.map Lg.ct) ks
  have HTD := kide (fun u (hu : Below w.heap.size w u) => toDeclS_row a c ds u (hr.later hu))
  have HTI : Hid (∀ u, Below w.heap.size w u → Calls Tryz.prog 19 #[.slice ka kn kc] u fun e w' => e = .returned (.slice (some ⟨u.heap.size, 0, none⟩) kn kn) ∧ OwnI w' u.heap.size ks ∧ Below u.heap.size u w') := fun u hu => by
    have := toInt64S_any ka kc ks u (hk.later hu)
    rwa [hkn] at this
  have HEI : Hid (∀ u g g', OwnI u g ks → OwnI u g' ks → Calls Tryz.prog 21 #[.slice (some ⟨g, 0, none⟩) kn kn, .slice (some ⟨g', 0, none⟩) kn kn] u fun e w' => e = .returned (.bool true) ∧ Below u.heap.size u w') := fun u g g' h1 h2 => by
    have := eqInt64S_any (some ⟨g, 0, none⟩) (some ⟨g', 0, none⟩) kn kn ks ks u (h1.rd hk.1 hk.2.1) (h2.rd hk.1 hk.2.1)
    rw [hkn] at this
    simpa using this
  have HMI : Hid (∀ (u : World) (g k lo hi : Nat), OwnI u g ks → lo ≤ g → g < hi → k ≤ 5000000000000000000 → Calls Tryz.prog 22 #[.slice (some ⟨g, 0, none⟩) kn kn, .int .i64 (k : Int)] u fun e w' => e = .returned (.int .i64 ((k + kn : Nat) : Int)) ∧ Out lo hi u w') := fun u g k lo hi h1 h2 h3 h4 => by
    refine Calls.mono (markInt64S_big g kn kn k ks u h1 hkn hk2 (by omega)) ?_
    rintro e w' ⟨rfl, -, hg⟩
    exact ⟨rfl, Out.grown hg h2 h3⟩
  have HTLO : Hid (∀ u, Below w.heap.size w u → Calls Tryz.prog 9 #[.slice b n c2] u fun e w' => ∃ ms : List Lg, e = .returned (.slice (some ⟨u.heap.size, 0, none⟩) n n) ∧ ms.map Lg.ct = xs.map Lg.ct ∧ RdL w' (some ⟨u.heap.size, 0, none⟩) ms ∧ Below u.heap.size u w' ∧ ∃ f rg, RowL w' u.heap.size w'.heap.size n ms f rg) := fun u hu => by
    have := toLiteralS_own b c2 xs u (hs.later hu)
    rwa [hn] at this
  have HTL : Hid (∀ u, Below w.heap.size w u → Calls Tryz.prog 9 #[.slice b n c2] u fun e w' => ∃ ms : List Lg, e = .returned (.slice (some ⟨u.heap.size, 0, none⟩) n n) ∧ ms.map Lg.ct = xs.map Lg.ct ∧ RdL w' (some ⟨u.heap.size, 0, none⟩) ms ∧ Below u.heap.size u w') := fun u hu => (HTLO.out u hu).mono (fun e w' ⟨ms, h1, h2, h3, h4, _⟩ => ⟨ms, h1, h2, h3, h4⟩)
  have HDA : Hid (∀ u, Below w.heap.size w u → Calls Tryz.prog 8 #[.slice a ds.length c] u fun e w' => e = .returned (.slice (some ⟨u.heap.size, 0, none⟩) ds.length ds.length) ∧ RdD w' (some ⟨u.heap.size, 0, none⟩) ds ∧ Below u.heap.size u w') := fun u hu => (HTD.out u hu).mono (fun e w' ⟨h1, h2, _, h4⟩ => ⟨h1, h2, h4⟩)
  have HSP : Hid (∀ (u : World) (gd gl gv : Nat) (ml : List Lg), Below w.heap.size w u → RdD u (some ⟨gd, 0, none⟩) ds → RdL u (some ⟨gl, 0, none⟩) ml → OwnI u gv ks → ml.map Lg.ct = xs.map Lg.ct →
      Calls Tryz.prog 18 #[.slice (some ⟨gd, 0, none⟩) ds.length ds.length, .slice (some ⟨gl, 0, none⟩) n n, .slice (some ⟨gv, 0, none⟩) kn kn] u fun e w' => ∃ ag cg, e = .returned (.tuple #[.slice ag (touG ds (xs.map Lg.ct) ks).1.length cg, .bool (touG ds (xs.map Lg.ct) ks).2]) ∧ HoldI w' u.heap.size w'.heap.size ag (touG ds (xs.map Lg.ct) ks).1.length (touG ds (xs.map Lg.ct) ks).1 ∧ Below u.heap.size u w') := fun u gd gl gv ml hu h1 h2 h3 e1 => by
    have h := specTou_any (some ⟨gd, 0, none⟩) (some ⟨gl, 0, none⟩) (some ⟨gv, 0, none⟩) ds.length n n kn kn ds ml ks u h1 h2 (len_of_lc e1 hn) (h3.rd hk.1 hk.2.1) hkn
    rw [e1] at h
    refine Calls.mono h ?_
    rintro e w' ⟨v, rfl, ho, hb⟩
    obtain ⟨ag, cg, rfl, hh⟩ := ho.hold hXl hXx
    exact ⟨ag, cg, rfl, hh, hb⟩
  have HIM : Hid (∀ (u : World) (gd gl gv : Nat) (ml : List Lg), Below w.heap.size w u → RdD u (some ⟨gd, 0, none⟩) ds → RdL u (some ⟨gl, 0, none⟩) ml → OwnI u gv ks → ml.map Lg.ct = xs.map Lg.ct →
      Calls Tryz.prog 20 #[.slice (some ⟨gd, 0, none⟩) ds.length ds.length, .slice (some ⟨gl, 0, none⟩) n n, .slice (some ⟨gv, 0, none⟩) kn kn] u fun e w' => ∃ ag cg, e = .returned (.tuple #[.slice ag (touG ds (xs.map Lg.ct) ks).1.length cg, .bool (touG ds (xs.map Lg.ct) ks).2]) ∧ HoldI w' u.heap.size w'.heap.size ag (touG ds (xs.map Lg.ct) ks).1.length (touG ds (xs.map Lg.ct) ks).1 ∧ Below u.heap.size u w') := fun u gd gl gv ml hu h1 h2 h3 e1 => by
    have h := implTou_any (some ⟨gd, 0, none⟩) (some ⟨gl, 0, none⟩) (some ⟨gv, 0, none⟩) ds.length n n kn kn ds ml ks u h1 h2 (len_of_lc e1 hn) (h3.rd hk.1 hk.2.1) hkn (hG.later hu)
    rw [e1, ← tou_eq] at h
    refine Calls.mono h ?_
    rintro e w' ⟨v, rfl, ho, hb⟩
    obtain ⟨ag, cg, rfl, hh⟩ := ho.hold hXl hXx
    exact ⟨ag, cg, rfl, hh, hb⟩
  generalize (touG ds (xs.map Lg.ct) ks).2 = X2 at *
  generalize (touG ds (xs.map Lg.ct) ks).1 = X1 at *
  generalize X1.length = xn at *
  have hkl : ¬ (kn : Int) > 1048576 := by omega
  clear hr hs hk hn hkn hG hXx
  go_enter Tryz.func4, Tryz.ntmps4
  have B0 := kide (Below.refl w.heap.size w)
  go_wp2_with fail
  refine Calls.mono (HSZ.out w B0.out) ?_
  rintro e w1 ⟨rfl, hb1⟩
  have B1 := kide (B0.out.trans (hb1.mono B0.out.size))
  clear hb1
  go_wp2_with fail
  refine Calls.mono (HSL.out w1 B1.out) ?_
  rintro e w2 ⟨rfl, hb2⟩
  have B2 := kide (B1.out.trans (hb2.mono B1.out.size))
  clear hb2
  go_wp2_with fail
  refine Calls.mono (HDA.out w2 B2.out) ?_
  rintro e w3 ⟨rfl, r3, hb3⟩
  have B3 := kide (B2.out.trans (hb3.mono B2.out.size))
  have RD3 := kide r3
  clear r3
  clear hb3
  go_wp2_with fail
  refine Calls.mono (HTL.out w3 B3.out) ?_
  rintro e w4 ⟨m4, rfl, hm4, r4, hb4⟩
  have B4 := kide (B3.out.trans (hb4.mono B3.out.size))
  have RD4 := kide (RD3.out.later hb4)
  have RL4 := kide r4
  have ML4 := kide hm4
  clear r4 hm4
  clear hb4 RD3
  go_wp2_with fail
  refine Calls.mono (HTI.out w4 B4.out) ?_
  rintro e w5 ⟨rfl, r5, hb5⟩
  have B5 := kide (B4.out.trans (hb5.mono B4.out.size))
  have RD5 := kide (RD4.out.later hb5)
  have RL5 := kide (RL4.out.later hb5)
  have RI5 := kide r5
  clear r5
  clear hb5 RD4 RL4
  go_wp2_with fail
  refine Calls.mono (HSP.out w5 w2.heap.size w3.heap.size w4.heap.size m4 B5.out RD5.out RL5.out RI5.out ML4.out) ?_
  rintro e w6 ⟨aw, cw, rfl, h6, hb6⟩
  have B6 := kide (B5.out.trans (hb6.mono B5.out.size))
  have WH6 := kide h6
  have z5 := hb6.size
  have z0 := B6.out.size
  clear h6 HSP RD5 RL5 RI5 ML4
  clear hb6
  go_wp2_with fail
  refine Calls.mono (HTD.out w6 B6.out) ?_
  rintro e w7 ⟨rfl, r7, ⟨fd, q7⟩, hb7⟩
  have B7 := kide (B6.out.trans (hb7.mono B6.out.size))
  have WH7 := kide (WH6.out.later hb7)
  have RD7 := kide r7
  have QD7 := kide q7
  have z7 := rowIs_lt q7
  clear r7 q7
  clear hb7 WH6
  go_wp2_with fail
  refine Calls.mono (HTLO.out w7 B7.out) ?_
  rintro e w8 ⟨ml, rfl, hml, r8, hb8, fl, rg, q8⟩
  have B8 := kide (B7.out.trans (hb8.mono B7.out.size))
  have WH8 := kide (WH7.out.later hb8)
  have RD8 := kide (RD7.out.later hb8)
  have QD8 := kide (rowIs_later QD7.out hb8)
  have RL8 := kide r8
  have QL8 := kide q8
  have z8 := rowIs_lt q8.row
  have HML := kide (len_of_lc hml HN.out)
  have ML := kide hml
  clear r8 q8 hml
  clear hb8 WH7 RD7 QD7
  go_wp2_with fail
  refine Calls.mono (HTI.out w8 B8.out) ?_
  rintro e w9 ⟨rfl, r9, hb9⟩
  have B9 := kide (B8.out.trans (hb9.mono B8.out.size))
  have WH9 := kide (WH8.out.later hb9)
  have RD9 := kide (RD8.out.later hb9)
  have QD9 := kide (rowIs_later QD8.out hb9)
  have RL9 := kide (RL8.out.later hb9)
  have QL9 := kide (QL8.out.later HML.out hb9)
  have QI9 := kide r9
  have z9 := r9.lt
  clear r9
  clear hb9 WH8 RD8 QD8 RL8 QL8
  go_wp2_with fail
  refine Calls.mono (HIM.out w9 w6.heap.size w7.heap.size w8.heap.size ml B9.out RD9.out RL9.out QI9.out ML.out) ?_
  rintro e w10 ⟨ag, cg, rfl, h10, hb10⟩
  have B10 := kide (B9.out.trans (hb10.mono B9.out.size))
  have WH10 := kide (WH9.out.later hb10)
  have RD10 := kide (RD9.out.later hb10)
  have QD10 := kide (rowIs_later QD9.out hb10)
  have RL10 := kide (RL9.out.later hb10)
  have QL10 := kide (QL9.out.later HML.out hb10)
  have QI10 := kide (QI9.out.later hb10 QI9.out.lt)
  have GH10 := kide h10
  have z10 := hb10.size
  clear h10
  clear hb10 WH9 RD9 QD9 RL9 QL9 QI9
  have hbb : (X2 != X2) = false := by simp
  go_wp2_with fail
  refine Calls.mono (eqInt64S_hold ag aw cg cw xn _ _ _ _ X1 w10 GH10.out WH10.out) ?_
  rintro e w11 ⟨rfl, hb11⟩
  have B11 := kide (B10.out.trans (hb11.mono B10.out.size))
  have WH11 := kide (WH10.out.later hb11)
  have RD11 := kide (RD10.out.later hb11)
  have QD11 := kide (rowIs_later QD10.out hb11)
  have RL11 := kide (RL10.out.later hb11)
  have QL11 := kide (QL10.out.later HML.out hb11)
  have QI11 := kide (QI10.out.later hb11 QI10.out.lt)
  have GH11 := kide (GH10.out.later hb11)
  clear hb11 WH10 RD10 QD10 RL10 QL10 QI10 GH10
  go_wp2_with fail
  refine Calls.mono (HDA.out w11 B11.out) ?_
  rintro e w12 ⟨rfl, r12, hb12⟩
  have B12 := kide (B11.out.trans (hb12.mono B11.out.size))
  have WH12 := kide (WH11.out.later hb12)
  have RD12 := kide (RD11.out.later hb12)
  have QD12 := kide (rowIs_later QD11.out hb12)
  have RL12 := kide (RL11.out.later hb12)
  have QL12 := kide (QL11.out.later HML.out hb12)
  have QI12 := kide (QI11.out.later hb12 QI11.out.lt)
  have GH12 := kide (GH11.out.later hb12)
  have P12 := kide r12
  clear r12 hbb
  clear hb12 WH11 RD11 QD11 RL11 QL11 QI11 GH11
  go_wp2_with fail
  refine Calls.mono (eqDeclS_same _ _ ds.length ds.length ds w12 RD12.out P12.out) ?_
  rintro e w13 ⟨rfl, hb13⟩
  have B13 := kide (B12.out.trans (hb13.mono B12.out.size))
  have WH13 := kide (WH12.out.later hb13)
  have QD13 := kide (rowIs_later QD12.out hb13)
  have RL13 := kide (RL12.out.later hb13)
  have QL13 := kide (QL12.out.later HML.out hb13)
  have QI13 := kide (QI12.out.later hb13 QI12.out.lt)
  have GH13 := kide (GH12.out.later hb13)
  clear RD12 P12
  clear hb13 WH12 QD12 RL12 QL12 QI12 GH12
  go_wp2_with fail
  refine Calls.mono (HTL.out w13 B13.out) ?_
  rintro e w14 ⟨m14, rfl, hm14, r14, hb14⟩
  have B14 := kide (B13.out.trans (hb14.mono B13.out.size))
  have WH14 := kide (WH13.out.later hb14)
  have QD14 := kide (rowIs_later QD13.out hb14)
  have RL14 := kide (RL13.out.later hb14)
  have QL14 := kide (QL13.out.later HML.out hb14)
  have QI14 := kide (QI13.out.later hb14 QI13.out.lt)
  have GH14 := kide (GH13.out.later hb14)
  have P14 := kide r14
  have M14 := kide hm14
  clear r14 hm14
  clear hb14 WH13 QD13 RL13 QL13 QI13 GH13
  go_wp2_with fail
  refine Calls.mono (eqLiteralS_same _ _ n n ml m14 w14 RL14.out P14.out (ML.out.trans M14.out.symm) n (len_of_lc ML.out HN.out) (len_of_lc M14.out HN.out)) ?_
  rintro e w15 ⟨rfl, hb15⟩
  have B15 := kide (B14.out.trans (hb15.mono B14.out.size))
  have WH15 := kide (WH14.out.later hb15)
  have QD15 := kide (rowIs_later QD14.out hb15)
  have QL15 := kide (QL14.out.later HML.out hb15)
  have QI15 := kide (QI14.out.later hb15 QI14.out.lt)
  have GH15 := kide (GH14.out.later hb15)
  have HLL := kide (lits_le RL14.out)
  clear RL14 P14 M14
  clear hb15 WH14 QD14 QL14 QI14 GH14
  go_wp2_with fail
  refine Calls.mono (HTI.out w15 B15.out) ?_
  rintro e w16 ⟨rfl, r16, hb16⟩
  have B16 := kide (B15.out.trans (hb16.mono B15.out.size))
  have WH16 := kide (WH15.out.later hb16)
  have QD16 := kide (rowIs_later QD15.out hb16)
  have QL16 := kide (QL15.out.later HML.out hb16)
  have QI16 := kide (QI15.out.later hb16 QI15.out.lt)
  have GH16 := kide (GH15.out.later hb16)
  have PI16 := kide r16
  clear r16
  clear hb16 WH15 QD15 QL15 QI15 GH15
  go_wp2_with fail
  refine Calls.mono (HEI.out w16 w8.heap.size w15.heap.size QI16.out PI16.out) ?_
  rintro e w17 ⟨rfl, hb17⟩
  have B17 := kide (B16.out.trans (hb17.mono B16.out.size))
  have WH17 := kide (WH16.out.later hb17)
  have QD17 := kide (rowIs_later QD16.out hb17)
  have QL17 := kide (QL16.out.later HML.out hb17)
  have QI17 := kide (QI16.out.later hb17 QI16.out.lt)
  have GH17 := kide (GH16.out.later hb17)
  clear PI16
  clear hb17 WH16 QD16 QL16 QI16 GH16
  go_wp2_with fail
  refine Calls.mono (markDeclS_one w6.heap.size ds.length ds.length fd w17 QD17.out hd2) ?_
  rintro e w18 ⟨rfl, ho18⟩
  have B18 := kide (Out.bel B17.out ho18 (by omega))
  have WH18 := kide (WH17.out.out ho18 (by omega))
  have QL18 := kide (QL17.out.out HML.out ho18 (by omega))
  have QI18 := kide (QI17.out.out ho18 (by omega))
  have GH18 := kide (GH17.out.out ho18 (by omega))
  clear QD17
  generalize hK1 : 1 + ds.length * 2 = K1
  have hK1b : K1 ≤ 100000000 := by omega
  clear ho18 WH17 QL17 QI17 GH17
  go_wp2_with fail
  refine Calls.mono (markLiteralS_any w7.heap.size n n K1 w8.heap.size ml w18 fl rg QL18.out HML.out hn2 HLL.out (by omega)) ?_
  rintro e w19 ⟨⟨r19, hr19, rfl⟩, ho19⟩
  have B19 := kide (Out.bel B18.out ho19 (by omega))
  have WH19 := kide (WH18.out.out ho19 (by omega))
  have QI19 := kide (QI18.out.out ho19 (by omega))
  have GH19 := kide (GH18.out.out ho19 (by omega))
  clear QL18
  have hr19b : r19 ≤ 5000000000000000000 := by omega
  clear hr19
  clear ho19 WH18 QI18 GH18
  go_wp2_with fail
  refine Calls.mono (HMI.out w19 w8.heap.size r19 w8.heap.size w9.heap.size QI19.out (Nat.le_refl _) z9 hr19b) ?_
  rintro e w20 ⟨rfl, ho20⟩
  have B20 := kide (Out.bel B19.out ho20 (by omega))
  have WH20 := kide (WH19.out.out ho20 (by omega))
  have GH20 := kide (GH19.out.out ho20 (by omega))
  clear QI19
  generalize r19 + kn = K3 at *
  have hk3 : ¬ (K3 : Int) < 0 := by omega
  have hbb : (X2 != X2) = false := by simp
  clear ho20 WH19 GH19
  go_wp2_with fail
  refine Calls.mono (eqInt64S_hold ag aw cg cw xn _ _ _ _ X1 w20 GH20.out WH20.out) ?_
  rintro e w21 ⟨rfl, hb21⟩
  have B21 := kide (B20.out.trans (hb21.mono B20.out.size))
  have WH21 := kide (WH20.out.later hb21)
  have GH21 := kide (GH20.out.later hb21)
  clear hb21 WH20 GH20
  go_wp2_with fail
  refine Calls.mono (markInt64S_hold ag cg xn w9.heap.size w10.heap.size X1 w21 GH21.out) ?_
  rintro e w22 ⟨rfl, mk22, ho22⟩
  have B22 := kide (Out.bel B21.out ho22 (by omega))
  have WH22 := kide (WH21.out.out ho22 (by omega))
  have MK22 := kide mk22
  clear GH21 mk22
  clear ho22 WH21
  have HHM := kide (fun u (hu : MkI u ag xn) => heldInt64S_mk ag cg xn u hu (by omega))
  generalize hV : 1 + xn = V at *
  have hvv : ((V : Int) != (V : Int)) = false := by simp
  have hv0 : ¬ (V : Int) < 0 := by omega
  go_wp2_with fail
  refine Calls.mono (HHM.out w22 MK22.out) ?_
  rintro e w23 ⟨rfl, hw23⟩
  obtain rfl := hw23.symm
  go_wp2_with fail
  refine Calls.mono (HDA.out w22 B22.out) ?_
  rintro e w23 ⟨rfl, r23, hb23⟩
  have B23 := kide (B22.out.trans (hb23.mono B22.out.size))
  have WH23 := kide (WH22.out.later hb23)
  have MK23 := kide (MK22.out.later hb23)
  have RD23 := kide r23
  clear r23
  clear hb23 WH22 MK22
  go_wp2_with fail
  refine Calls.mono (HTL.out w23 B23.out) ?_
  rintro e w24 ⟨m24, rfl, hm24, r24, hb24⟩
  have B24 := kide (B23.out.trans (hb24.mono B23.out.size))
  have WH24 := kide (WH23.out.later hb24)
  have MK24 := kide (MK23.out.later hb24)
  have RD24 := kide (RD23.out.later hb24)
  have RL24 := kide r24
  have M24 := kide hm24
  clear r24 hm24
  clear hb24 WH23 MK23 RD23
  go_wp2_with fail
  refine Calls.mono (HTI.out w24 B24.out) ?_
  rintro e w25 ⟨rfl, r25, hb25⟩
  have B25 := kide (B24.out.trans (hb25.mono B24.out.size))
  have WH25 := kide (WH24.out.later hb25)
  have MK25 := kide (MK24.out.later hb25)
  have RD25 := kide (RD24.out.later hb25)
  have RL25 := kide (RL24.out.later hb25)
  have RI25 := kide r25
  clear r25
  clear hb25 WH24 MK24 RD24 RL24
  go_wp2_with fail
  refine Calls.mono (HIM.out w25 w22.heap.size w23.heap.size w24.heap.size m24 B25.out RD25.out RL25.out RI25.out M24.out) ?_
  rintro e w26 ⟨ah, ch, rfl, h26, hb26⟩
  have B26 := kide (B25.out.trans (hb26.mono B25.out.size))
  have WH26 := kide (WH25.out.later hb26)
  have MK26 := kide (MK25.out.later hb26)
  have HH26 := kide h26
  clear h26 RD25 RL25 RI25 M24
  clear hb26 WH25 MK25
  go_wp2_with fail
  refine Calls.mono (eqInt64S_hold ah aw ch cw xn _ _ _ _ X1 w26 HH26.out WH26.out) ?_
  rintro e w27 ⟨rfl, hb27⟩
  have B27 := kide (B26.out.trans (hb27.mono B26.out.size))
  have MK27 := kide (MK26.out.later hb27)
  clear HH26 WH26
  clear hb27 MK26
  go_wp2_with fail
  refine Calls.mono (HHM.out w27 MK27.out) ?_
  rintro e w28 ⟨rfl, hw28⟩
  obtain rfl := hw28.symm
  go_wp2_with fail
  go_ret
  exact ⟨rfl, B27.out⟩

theorem law_big_FnExactTouching (a b ka : Option Addr) (n0 c n c2 kn kc : Nat) (w : World) (h : (kn : Int) > 1048576) :
    Calls Tryz.prog 4 #[.slice a n0 c, .slice b n c2, .slice ka kn kc] w fun e w' => e = .returned (.bool true) ∧ Below w.heap.size w w' := by
  go_enter Tryz.func4, Tryz.ntmps4
  go_wp2_with fail
  go_ret
  exact ⟨rfl, Below.refl _ _⟩

theorem law_no_FnExactTouching (a b ka : Option Addr) (n0 c n c2 kn kc : Nat) (w : World) (Z Z2 : Int) (hkl : ¬ (kn : Int) > 1048576) (h : Z < 0 ∨ 0 ≤ Z ∧ Z2 < 0)
    (HSZ : Hid (∀ u, Below w.heap.size w u → Calls Tryz.prog 5 #[.slice a n0 c, .int .i64 1048576] u fun e w' => e = .returned (.int .i64 Z) ∧ Below u.heap.size u w'))
    (HSL : Hid (0 ≤ Z → ∀ u, Below w.heap.size w u → Calls Tryz.prog 6 #[.slice b n c2, .int .i64 Z] u fun e w' => e = .returned (.int .i64 Z2) ∧ Below u.heap.size u w')) :
    Calls Tryz.prog 4 #[.slice a n0 c, .slice b n c2, .slice ka kn kc] w fun e w' => e = .returned (.bool true) ∧ Below w.heap.size w w' := by
  rcases h with h | ⟨h, h2⟩
  · go_enter Tryz.func4, Tryz.ntmps4
    go_wp2_with fail
    refine Calls.mono (HSZ.out w (Below.refl _ _)) ?_
    rintro e w1 ⟨rfl, hb1⟩
    go_wp2_with fail
    go_ret
    exact ⟨rfl, hb1⟩
  · go_enter Tryz.func4, Tryz.ntmps4
    go_wp2_with fail
    refine Calls.mono (HSZ.out w (Below.refl _ _)) ?_
    rintro e w1 ⟨rfl, hb1⟩
    go_wp2_with fail
    refine Calls.mono (HSL.out h w1 hb1) ?_
    rintro e w2 ⟨rfl, hb2'⟩
    have hb2 := hb1.trans (hb2'.mono hb1.size)
    clear hb2'
    go_wp2_with fail
    go_ret
    exact ⟨rfl, hb2⟩

theorem walk_FnExactTouching (a : Option Addr) (n0 c : Nat) (hn0 : n0 ≤ 9223372036854775807) (b : Option Addr) (n c2 : Nat) (hn : n ≤ 9223372036854775807) (ka : Option Addr) (kn kc : Nat) (hkn : kn ≤ 9223372036854775807) (w : World) (hG : GF w)
    (hx : n0 ≤ 1048576 → ∃ ds : List Dc, ds.length = n0 ∧ RdD w a ds) (hl : n ≤ 1048576 → ∃ hs : List Lh, hs.length = n ∧ RdLh w b hs ∧ ∀ h ∈ hs, LitOf w h) (hy : kn ≤ 1048576 → ∃ ks : List Int, ks.length = kn ∧ RdI w ka ks) :
    Calls Tryz.prog 4 #[.slice a n0 c, .slice b n c2, .slice ka kn kc] w fun e w' => e = .returned (.bool true) ∧ Below w.heap.size w w' := by
  by_cases hkb : (kn : Int) > 1048576
  · exact law_big_FnExactTouching a b ka n0 c n c2 kn kc w hkb
  obtain ⟨Z, Z2, h1, h2, h3⟩ := sizes_lits a b n0 c n c2 w hn0 hn hx hl
  by_cases hz : Z < 0
  · exact law_no_FnExactTouching a b ka n0 c n c2 kn kc w Z Z2 hkb (.inl hz) h1 h2
  by_cases hz2 : Z2 < 0
  · exact law_no_FnExactTouching a b ka n0 c n c2 kn kc w Z Z2 hkb (.inr ⟨by omega, hz2⟩) h1 h2
  obtain ⟨ds, xs, rfl, hxl, hr, hs⟩ := h3 (by omega) (by omega)
  obtain ⟨ks, hkl, hk⟩ := hy (by omega)
  exact law_yes_FnExactTouching a b ka c c2 kc n kn ds xs ks w hr hs hk hxl hkl hG Z Z2 (by omega) (by omega) h1 (h2 (by omega))

end Go.Proofs.YtheglnkndjheaaaGreatDoor
