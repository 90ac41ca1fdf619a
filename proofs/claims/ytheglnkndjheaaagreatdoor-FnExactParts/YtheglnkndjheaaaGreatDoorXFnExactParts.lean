/- The law FnExactParts returns true, whatever it is handed. -/
import Derived.Test.YtheglnkndjheaaaGreatDoorPTI
namespace Go.Proofs.YtheglnkndjheaaaGreatDoor
set_option linter.unusedVariables false
set_option linter.unusedSimpArgs false
open Go.RowKit

set_option maxHeartbeats 4000000 in
set_option maxRecDepth 100000 in
theorem law_yes_FnExactParts (a b : Option Addr) (c c2 n : Nat) (ds : List Dc) (xs : List Lg) (w : World) (hr : RdD w a ds) (hs : RdL w b xs) (hn : xs.length = n) (hG : GF w) (Z Z2 : Int)
    (hz : 0 ≤ Z) (hz2 : 0 ≤ Z2)
    (HSZ : Hid (∀ u, Below w.heap.size w u → Calls Tryz.prog 5 #[.slice a ds.length c, .int .i64 1048576] u fun e w' => e = .returned (.int .i64 Z) ∧ Below u.heap.size u w'))
    (HSL : Hid (∀ u, Below w.heap.size w u → Calls Tryz.prog 6 #[.slice b n c2, .int .i64 Z] u fun e w' => e = .returned (.int .i64 Z2) ∧ Below u.heap.size u w')) :
    Calls Tryz.prog 3 #[.slice a ds.length c, .slice b n c2] w fun e w' => e = .returned (.bool true) ∧ Below w.heap.size w w' := by
  have HN := kide hn
  have hd2 : ds.length ≤ 1048576 := hr.1
  have hn2 : n ≤ 1048576 := by rw [← hn]; exact hs.1
  obtain ⟨hXl, hXx⟩ := pt_bounds ds (xs.map Lg.ct)
  have HTT : Hid (Fo.tot (ptR ds (xs.map Lg.ct)).1 ≤ 3600) := by
    show _ ≤ _
    have h9 := tot_60 (fun xs hx => (hXx xs hx).2)
    omega
  have HTD := kide (fun u (hu : Below w.heap.size w u) => toDeclS_row a c ds u (hr.later hu))
  have HTLO : Hid (∀ u, Below w.heap.size w u → Calls Tryz.prog 9 #[.slice b n c2] u fun e w' => ∃ ms : List Lg, e = .returned (.slice (some ⟨u.heap.size, 0, none⟩) n n) ∧ ms.map Lg.ct = xs.map Lg.ct ∧ RdL w' (some ⟨u.heap.size, 0, none⟩) ms ∧ Below u.heap.size u w' ∧ ∃ f rg, RowL w' u.heap.size w'.heap.size n ms f rg) := fun u hu => by
    have := toLiteralS_own b c2 xs u (hs.later hu)
    rwa [hn] at this
  have HTL : Hid (∀ u, Below w.heap.size w u → Calls Tryz.prog 9 #[.slice b n c2] u fun e w' => ∃ ms : List Lg, e = .returned (.slice (some ⟨u.heap.size, 0, none⟩) n n) ∧ ms.map Lg.ct = xs.map Lg.ct ∧ RdL w' (some ⟨u.heap.size, 0, none⟩) ms ∧ Below u.heap.size u w') := fun u hu => (HTLO.out u hu).mono (fun e w' ⟨ms, h1, h2, h3, h4, _⟩ => ⟨ms, h1, h2, h3, h4⟩)
  have HDA : Hid (∀ u, Below w.heap.size w u → Calls Tryz.prog 8 #[.slice a ds.length c] u fun e w' => e = .returned (.slice (some ⟨u.heap.size, 0, none⟩) ds.length ds.length) ∧ RdD w' (some ⟨u.heap.size, 0, none⟩) ds ∧ Below u.heap.size u w') := fun u hu => (HTD.out u hu).mono (fun e w' ⟨h1, h2, _, h4⟩ => ⟨h1, h2, h4⟩)
  have HSP : Hid (∀ (u : World) (gd gl : Nat) (ml : List Lg), Below w.heap.size w u → RdD u (some ⟨gd, 0, none⟩) ds → RdL u (some ⟨gl, 0, none⟩) ml → ml.map Lg.ct = xs.map Lg.ct →
      Calls Tryz.prog 7 #[.slice (some ⟨gd, 0, none⟩) ds.length ds.length, .slice (some ⟨gl, 0, none⟩) n n] u fun e w' => ∃ ag cg vg, e = .returned (.tuple #[.slice ag (ptR ds (xs.map Lg.ct)).1.length cg, .bool (ptR ds (xs.map Lg.ct)).2]) ∧ Fo.HoldR w' u.heap.size w'.heap.size ag vg (ptR ds (xs.map Lg.ct)).1 ∧ Below u.heap.size u w') := fun u gd gl ml hu h1 h2 e1 => by
    have h := specParts_any (some ⟨gd, 0, none⟩) (some ⟨gl, 0, none⟩) ds.length n n ds ml u h1 h2 (len_of_lc e1 hn)
    rw [e1] at h
    refine Calls.mono h ?_
    rintro e w' ⟨v, vs, rfl, ho, hb⟩
    obtain ⟨ag, cg, rfl, hh⟩ := ho.hold hXl hXx
    exact ⟨ag, cg, vs, rfl, hh, hb⟩
  have HIM : Hid (∀ (u : World) (gd gl : Nat) (ml : List Lg), Below w.heap.size w u → RdD u (some ⟨gd, 0, none⟩) ds → RdL u (some ⟨gl, 0, none⟩) ml → ml.map Lg.ct = xs.map Lg.ct →
      Calls Tryz.prog 10 #[.slice (some ⟨gd, 0, none⟩) ds.length ds.length, .slice (some ⟨gl, 0, none⟩) n n] u fun e w' => ∃ ag cg vg, e = .returned (.tuple #[.slice ag (ptR ds (xs.map Lg.ct)).1.length cg, .bool (ptR ds (xs.map Lg.ct)).2]) ∧ Fo.HoldR w' u.heap.size w'.heap.size ag vg (ptR ds (xs.map Lg.ct)).1 ∧ Below u.heap.size u w') := fun u gd gl ml hu h1 h2 e1 => by
    have h := implParts_any (some ⟨gd, 0, none⟩) (some ⟨gl, 0, none⟩) ds.length n n ds ml u h1 h2 (len_of_lc e1 hn) (hG.later hu) (Nat.le_refl _)
    rw [e1] at h
    refine Calls.mono h ?_
    rintro e w' ⟨v, vs, rfl, ho, hb⟩
    obtain ⟨ag, cg, rfl, hh⟩ := ho.hold hXl hXx
    exact ⟨ag, cg, vs, rfl, hh, hb⟩
  generalize (ptR ds (xs.map Lg.ct)).2 = X2 at *
  generalize (ptR ds (xs.map Lg.ct)).1 = X1 at *
  obtain ⟨xn, hxn⟩ : ∃ xn, X1.length = xn := ⟨_, rfl⟩
  have HXN := kide hxn
  rw [hxn] at hXl HSP HIM
  clear hr hs hn hG hXx hxn
  go_enter Tryz.func3, Tryz.ntmps3
  have B0 := kide (Below.refl w.heap.size w)
  go_wp2_with fail
  refine Calls.mono (HSZ.out w B0.out) ?_
  rintro e w1 ⟨rfl, hb1⟩
  have B1 := kide (B0.out.trans (hb1.mono B0.out.size))
  clear hb1
  go_wp2_with fail
  refine Calls.mono (HSL.out w1 B1.out) ?_
  rintro e w2 ⟨rfl, hb2⟩
  have B2 := kide (B1.out.trans (hb2.mono B1.out.size))
  clear hb2
  go_wp2_with fail
  refine Calls.mono (HDA.out w2 B2.out) ?_
  rintro e w3 ⟨rfl, r3, hb3⟩
  have B3 := kide (B2.out.trans (hb3.mono B2.out.size))
  have RD3 := kide r3
  clear r3
  clear hb3
  go_wp2_with fail
  refine Calls.mono (HTL.out w3 B3.out) ?_
  rintro e w4 ⟨m4, rfl, hm4, r4, hb4⟩
  have B4 := kide (B3.out.trans (hb4.mono B3.out.size))
  have RD4 := kide (RD3.out.later hb4)
  have RL4 := kide r4
  have ML4 := kide hm4
  clear r4 hm4
  clear hb4 RD3
  go_wp2_with fail
  refine Calls.mono (HSP.out w4 w2.heap.size w3.heap.size m4 B4.out RD4.out RL4.out ML4.out) ?_
  rintro e w5 ⟨aw, cw, vw, rfl, h5, hb5⟩
  have B5 := kide (B4.out.trans (hb5.mono B4.out.size))
  have WH5 := kide h5
  have z5 := hb5.size
  have z0 := B5.out.size
  clear h5 HSP RD4 RL4 ML4
  clear hb5
  go_wp2_with fail
  refine Calls.mono (HTD.out w5 B5.out) ?_
  rintro e w6 ⟨rfl, r6, ⟨fd, q6⟩, hb6⟩
  have B6 := kide (B5.out.trans (hb6.mono B5.out.size))
  have WH6 := kide (WH5.out.later hb6)
  have RD6 := kide r6
  have QD6 := kide q6
  have z6 := rowIs_lt q6
  clear r6 q6
  clear hb6 WH5
  go_wp2_with fail
  refine Calls.mono (HTLO.out w6 B6.out) ?_
  rintro e w7 ⟨ml, rfl, hml, r7, hb7, fl, rg, q7⟩
  have B7 := kide (B6.out.trans (hb7.mono B6.out.size))
  have WH7 := kide (WH6.out.later hb7)
  have RD7 := kide (RD6.out.later hb7)
  have QD7 := kide (rowIs_later QD6.out hb7)
  have RL7 := kide r7
  have QL7 := kide q7
  have z7 := rowIs_lt q7.row
  have HML := kide (len_of_lc hml HN.out)
  have ML := kide hml
  clear r7 q7 hml
  clear hb7 WH6 RD6 QD6
  go_wp2_with fail
  refine Calls.mono (HIM.out w7 w5.heap.size w6.heap.size ml B7.out RD7.out RL7.out ML.out) ?_
  rintro e w8 ⟨ag, cg, vg, rfl, h8, hb8⟩
  have B8 := kide (B7.out.trans (hb8.mono B7.out.size))
  have WH8 := kide (WH7.out.later hb8)
  have RD8 := kide (RD7.out.later hb8)
  have QD8 := kide (rowIs_later QD7.out hb8)
  have RL8 := kide (RL7.out.later hb8)
  have QL8 := kide (QL7.out.later HML.out hb8)
  have GH8 := kide h8
  have z8 := hb8.size
  clear h8
  clear hb8 WH7 RD7 QD7 RL7 QL7
  have hbb : (X2 != X2) = false := by simp
  go_wp2_with fail
  refine Calls.mono (Fo.eqInt64SS_hold ag aw cg cw xn _ _ _ _ vg vw X1 w8 GH8.out WH8.out HXN.out) ?_
  rintro e w9 ⟨rfl, hb9⟩
  have B9 := kide (B8.out.trans (hb9.mono B8.out.size))
  have WH9 := kide (WH8.out.later hb9)
  have RD9 := kide (RD8.out.later hb9)
  have QD9 := kide (rowIs_later QD8.out hb9)
  have RL9 := kide (RL8.out.later hb9)
  have QL9 := kide (QL8.out.later HML.out hb9)
  have GH9 := kide (GH8.out.later hb9)
  clear hb9 WH8 RD8 QD8 RL8 QL8 GH8
  go_wp2_with fail
  refine Calls.mono (HDA.out w9 B9.out) ?_
  rintro e w10 ⟨rfl, r10, hb10⟩
  have B10 := kide (B9.out.trans (hb10.mono B9.out.size))
  have WH10 := kide (WH9.out.later hb10)
  have RD10 := kide (RD9.out.later hb10)
  have QD10 := kide (rowIs_later QD9.out hb10)
  have RL10 := kide (RL9.out.later hb10)
  have QL10 := kide (QL9.out.later HML.out hb10)
  have GH10 := kide (GH9.out.later hb10)
  have P10 := kide r10
  clear r10 hbb
  clear hb10 WH9 RD9 QD9 RL9 QL9 GH9
  go_wp2_with fail
  refine Calls.mono (eqDeclS_same _ _ ds.length ds.length ds w10 RD10.out P10.out) ?_
  rintro e w11 ⟨rfl, hb11⟩
  have B11 := kide (B10.out.trans (hb11.mono B10.out.size))
  have WH11 := kide (WH10.out.later hb11)
  have QD11 := kide (rowIs_later QD10.out hb11)
  have RL11 := kide (RL10.out.later hb11)
  have QL11 := kide (QL10.out.later HML.out hb11)
  have GH11 := kide (GH10.out.later hb11)
  clear RD10 P10
  clear hb11 WH10 QD10 RL10 QL10 GH10
  go_wp2_with fail
  refine Calls.mono (HTL.out w11 B11.out) ?_
  rintro e w12 ⟨m12, rfl, hm12, r12, hb12⟩
  have B12 := kide (B11.out.trans (hb12.mono B11.out.size))
  have WH12 := kide (WH11.out.later hb12)
  have QD12 := kide (rowIs_later QD11.out hb12)
  have RL12 := kide (RL11.out.later hb12)
  have QL12 := kide (QL11.out.later HML.out hb12)
  have GH12 := kide (GH11.out.later hb12)
  have P12 := kide r12
  have M12 := kide hm12
  clear r12 hm12
  clear hb12 WH11 QD11 RL11 QL11 GH11
  go_wp2_with fail
  refine Calls.mono (eqLiteralS_same _ _ n n ml m12 w12 RL12.out P12.out (ML.out.trans M12.out.symm) n (len_of_lc ML.out HN.out) (len_of_lc M12.out HN.out)) ?_
  rintro e w13 ⟨rfl, hb13⟩
  have B13 := kide (B12.out.trans (hb13.mono B12.out.size))
  have WH13 := kide (WH12.out.later hb13)
  have QD13 := kide (rowIs_later QD12.out hb13)
  have QL13 := kide (QL12.out.later HML.out hb13)
  have GH13 := kide (GH12.out.later hb13)
  have HLL := kide (lits_le RL12.out)
  clear RL12 P12 M12
  clear hb13 WH12 QD12 QL12 GH12
  go_wp2_with fail
  refine Calls.mono (markDeclS_one w5.heap.size ds.length ds.length fd w13 QD13.out hd2) ?_
  rintro e w14 ⟨rfl, ho14⟩
  have B14 := kide (Out.bel B13.out ho14 (by omega))
  have WH14 := kide (WH13.out.out ho14 (by omega))
  have QL14 := kide (QL13.out.out HML.out ho14 (by omega))
  have GH14 := kide (GH13.out.out ho14 (by omega))
  clear QD13
  generalize hK1 : 1 + ds.length * 2 = K1
  have hK1b : K1 ≤ 100000000 := by omega
  clear ho14 WH13 QL13 GH13
  go_wp2_with fail
  refine Calls.mono (markLiteralS_any w6.heap.size n n K1 w7.heap.size ml w14 fl rg QL14.out HML.out hn2 HLL.out (by omega)) ?_
  rintro e w15 ⟨⟨r15, hr15, rfl⟩, ho15⟩
  have B15 := kide (Out.bel B14.out ho15 (by omega))
  have WH15 := kide (WH14.out.out ho15 (by omega))
  have GH15 := kide (GH14.out.out ho15 (by omega))
  clear QL14
  have hk3 : ¬ (r15 : Int) < 0 := by omega
  have hbb : (X2 != X2) = false := by simp
  clear hr15
  clear ho15 WH14 GH14
  go_wp2_with fail
  refine Calls.mono (Fo.eqInt64SS_hold ag aw cg cw xn _ _ _ _ vg vw X1 w15 GH15.out WH15.out HXN.out) ?_
  rintro e w16 ⟨rfl, hb16⟩
  have B16 := kide (B15.out.trans (hb16.mono B15.out.size))
  have WH16 := kide (WH15.out.later hb16)
  have GH16 := kide (GH15.out.later hb16)
  clear hb16 WH15 GH15
  go_wp2_with fail
  refine Calls.mono (Fo.markInt64SS_hold ag cg xn w7.heap.size w8.heap.size vg X1 w16 GH16.out HXN.out) ?_
  rintro e w17 ⟨rfl, mk17, ho17⟩
  have B17 := kide (Out.bel B16.out ho17 (by omega))
  have WH17 := kide (WH16.out.out ho17 (by omega))
  have MK17 := kide mk17
  clear GH16 mk17
  clear ho17 WH16
  have HHM := kide (fun u (hu : Fo.MkR u 1 ag vg X1) => Fo.heldInt64SS_hold ag cg xn vg X1 u hu HXN.out)
  have hVb : 1 + Fo.tot X1 ≤ 1000000 := by have := HTT.out; omega
  generalize hV : 1 + Fo.tot X1 = V at *
  have hvv : ((V : Int) != (V : Int)) = false := by simp
  have hv0 : ¬ (V : Int) < 0 := by omega
  go_wp2_with fail
  refine Calls.mono (HHM.out w17 MK17.out) ?_
  rintro e w18 ⟨rfl, hw18⟩
  obtain rfl := hw18.symm
  go_wp2_with fail
  refine Calls.mono (HDA.out w17 B17.out) ?_
  rintro e w18 ⟨rfl, r18, hb18⟩
  have B18 := kide (B17.out.trans (hb18.mono B17.out.size))
  have WH18 := kide (WH17.out.later hb18)
  have MK18 := kide (MK17.out.later hb18)
  have RD18 := kide r18
  clear r18
  clear hb18 WH17 MK17
  go_wp2_with fail
  refine Calls.mono (HTL.out w18 B18.out) ?_
  rintro e w19 ⟨m19, rfl, hm19, r19, hb19⟩
  have B19 := kide (B18.out.trans (hb19.mono B18.out.size))
  have WH19 := kide (WH18.out.later hb19)
  have MK19 := kide (MK18.out.later hb19)
  have RD19 := kide (RD18.out.later hb19)
  have RL19 := kide r19
  have M19 := kide hm19
  clear r19 hm19
  clear hb19 WH18 MK18 RD18
  go_wp2_with fail
  refine Calls.mono (HIM.out w19 w17.heap.size w18.heap.size m19 B19.out RD19.out RL19.out M19.out) ?_
  rintro e w20 ⟨ah, ch, vh, rfl, h20, hb20⟩
  have B20 := kide (B19.out.trans (hb20.mono B19.out.size))
  have WH20 := kide (WH19.out.later hb20)
  have MK20 := kide (MK19.out.later hb20)
  have HH20 := kide h20
  clear h20 RD19 RL19 M19
  clear hb20 WH19 MK19
  go_wp2_with fail
  refine Calls.mono (Fo.eqInt64SS_hold ah aw ch cw xn _ _ _ _ vh vw X1 w20 HH20.out WH20.out HXN.out) ?_
  rintro e w21 ⟨rfl, hb21⟩
  have B21 := kide (B20.out.trans (hb21.mono B20.out.size))
  have MK21 := kide (MK20.out.later hb21)
  clear HH20 WH20
  clear hb21 MK20
  go_wp2_with fail
  refine Calls.mono (HHM.out w21 MK21.out) ?_
  rintro e w22 ⟨rfl, hw22⟩
  obtain rfl := hw22.symm
  go_wp2_with fail
  go_ret
  exact ⟨rfl, B21.out⟩

theorem law_no_FnExactParts (a b : Option Addr) (n0 c n c2 : Nat) (w : World) (Z Z2 : Int) (h : Z < 0 ∨ 0 ≤ Z ∧ Z2 < 0)
    (HSZ : Hid (∀ u, Below w.heap.size w u → Calls Tryz.prog 5 #[.slice a n0 c, .int .i64 1048576] u fun e w' => e = .returned (.int .i64 Z) ∧ Below u.heap.size u w'))
    (HSL : Hid (0 ≤ Z → ∀ u, Below w.heap.size w u → Calls Tryz.prog 6 #[.slice b n c2, .int .i64 Z] u fun e w' => e = .returned (.int .i64 Z2) ∧ Below u.heap.size u w')) :
    Calls Tryz.prog 3 #[.slice a n0 c, .slice b n c2] w fun e w' => e = .returned (.bool true) ∧ Below w.heap.size w w' := by
  rcases h with h | ⟨h, h2⟩
  · go_enter Tryz.func3, Tryz.ntmps3
    go_wp2_with fail
    refine Calls.mono (HSZ.out w (Below.refl _ _)) ?_
    rintro e w1 ⟨rfl, hb1⟩
    go_wp2_with fail
    go_ret
    exact ⟨rfl, hb1⟩
  · go_enter Tryz.func3, Tryz.ntmps3
    go_wp2_with fail
    refine Calls.mono (HSZ.out w (Below.refl _ _)) ?_
    rintro e w1 ⟨rfl, hb1⟩
    go_wp2_with fail
    refine Calls.mono (HSL.out h w1 hb1) ?_
    rintro e w2 ⟨rfl, hb2'⟩
    have hb2 := hb1.trans (hb2'.mono hb1.size)
    clear hb2'
    go_wp2_with fail
    go_ret
    exact ⟨rfl, hb2⟩

theorem walk_FnExactParts (a : Option Addr) (n0 c : Nat) (hn0 : n0 ≤ 9223372036854775807) (b : Option Addr) (n c2 : Nat) (hn : n ≤ 9223372036854775807) (w : World) (hG : GF w)
    (hx : n0 ≤ 1048576 → ∃ ds : List Dc, ds.length = n0 ∧ RdD w a ds) (hl : n ≤ 1048576 → ∃ hs : List Lh, hs.length = n ∧ RdLh w b hs ∧ ∀ h ∈ hs, LitOf w h) :
    Calls Tryz.prog 3 #[.slice a n0 c, .slice b n c2] w fun e w' => e = .returned (.bool true) ∧ Below w.heap.size w w' := by
  obtain ⟨Z, Z2, h1, h2, h3⟩ := sizes_lits a b n0 c n c2 w hn0 hn hx hl
  by_cases hz : Z < 0
  · exact law_no_FnExactParts a b n0 c n c2 w Z Z2 (.inl hz) h1 h2
  by_cases hz2 : Z2 < 0
  · exact law_no_FnExactParts a b n0 c n c2 w Z Z2 (.inr ⟨by omega, hz2⟩) h1 h2
  obtain ⟨ds, xs, rfl, hxl, hr, hs⟩ := h3 (by omega) (by omega)
  exact law_yes_FnExactParts a b c c2 n ds xs w hr hs hxl hG Z Z2 (by omega) (by omega) h1 (h2 (by omega))

end Go.Proofs.YtheglnkndjheaaaGreatDoor
