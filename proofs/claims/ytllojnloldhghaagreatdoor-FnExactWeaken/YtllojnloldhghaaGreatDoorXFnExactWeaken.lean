/- The law FnExactWeaken returns true, whatever it is handed. -/
import Derived.Test.YtllojnloldhghaaGreatDoorWKH
namespace Go.Proofs.YtllojnloldhghaaGreatDoor
set_option linter.unusedVariables false
set_option linter.unusedSimpArgs false
open Go.RowKit

theorem len_of_ct {ms xs : List Bw} {n : Nat} (h : ms.map Bw.ct = xs.map Bw.ct) (hn : xs.length = n) : ms.length = n := by
  rw [← hn]; simpa using congrArg List.length h

theorem words_le {w : World} {a : Option Addr} {vs mv : List Bw} (hv : RdW w a vs) (h : mv.map Bw.ct = vs.map Bw.ct) : ∀ x ∈ mv, x.ws.length ≤ 1048576 := fun x hx => by
  have : x.ct ∈ vs.map Bw.ct := by rw [← h]; exact List.mem_map_of_mem hx
  obtain ⟨y, hy, e⟩ := List.mem_map.1 this
  obtain ⟨i, hi, rfl⟩ := List.mem_iff_getElem.1 hy
  obtain ⟨-, h | ⟨b, o, -, hc⟩⟩ := hv
  · subst h; simp at hi
  · have r := (hc i _ (List.getElem?_eq_getElem hi)).2.2.1.1
    have e2 : (vs[i]).ws = x.ws := congrArg Prod.snd e
    rw [e2] at r
    exact r

set_option maxHeartbeats 4000000 in
set_option maxRecDepth 100000 in
theorem law_yes_FnExactWeaken (a b va : Option Addr) (c c2 vc n vn : Nat) (ds : List Dc) (xs : List Lg) (vs : List Bw) (w : World) (hr : RdD w a ds) (hs : RdL w b xs) (hv : RdW w va vs) (hn : xs.length = n) (hvn : vs.length = vn) (hsum : vn + sumB vs ≤ 1048576) (hG : GF w) (Z Z2 Z3 : Int)
    (hz : 0 ≤ Z) (hz2 : 0 ≤ Z2) (hz3 : 0 ≤ Z3)
    (HSZ : Hid (∀ u, Below w.heap.size w u → Calls Tryz.prog 7 #[.slice a ds.length c, .int .i64 1048576] u fun e w' => e = .returned (.int .i64 Z) ∧ Below u.heap.size u w'))
    (HSL : Hid (∀ u, Below w.heap.size w u → Calls Tryz.prog 8 #[.slice b n c2, .int .i64 Z] u fun e w' => e = .returned (.int .i64 Z2) ∧ Below u.heap.size u w'))
    (HSV : Hid (∀ u, Below w.heap.size w u → Calls Tryz.prog 9 #[.slice va vn vc, .int .i64 Z2] u fun e w' => e = .returned (.int .i64 Z3) ∧ Below u.heap.size u w')) :
    Calls Tryz.prog 3 #[.slice a ds.length c, .slice b n c2, .slice va vn vc] w fun e w' => e = .returned (.bool true) ∧ Below w.heap.size w w' := by
  have HR := kide hr
  have HN := kide hn
  have HVN := kide hvn
  have HSUM := kide hsum
  have hd2 : ds.length ≤ 1048576 := hr.1
  have hn2 : n ≤ 1048576 := by rw [← hn]; exact hs.1
  have hv2 : vn ≤ 1048576 := by rw [← hvn]; exact hv.1
  have HVL := kide (fun mv hmv => words_le (mv := mv) hv hmv)
  obtain ⟨hXl, hXx⟩ := wk_bounds ds (vs.map Bw.ct) xs hs
  have HTD := kide (fun u (hu : Below w.heap.size w u) => toDeclS_row a c ds u (hr.later hu))
  have HTB : Hid (∀ u, Below w.heap.size w u → Calls Tryz.prog 13 #[.slice va vn vc] u fun e w' => ∃ ms : List Bw, e = .returned (.slice (some ⟨u.heap.size, 0, none⟩) vn vn) ∧ ms.map Bw.ct = vs.map Bw.ct ∧ RdW w' (some ⟨u.heap.size, 0, none⟩) ms ∧ (∃ f, w'.rowIs u.heap.size 82 (vn * 2) f ∧ ∀ j x, ms[j]? = some x → BwOwn w' u.heap.size f j x) ∧ Below u.heap.size u w') := fun u hu => by
    have := toBitsS_own va vc vs u (hv.later hu)
    rwa [hvn] at this
  have HTLO : Hid (∀ u, Below w.heap.size w u → Calls Tryz.prog 12 #[.slice b n c2] u fun e w' => ∃ ms : List Lg, e = .returned (.slice (some ⟨u.heap.size, 0, none⟩) n n) ∧ ms.map Lg.ct = xs.map Lg.ct ∧ RdL w' (some ⟨u.heap.size, 0, none⟩) ms ∧ Below u.heap.size u w' ∧ ∃ f rg, RowL w' u.heap.size w'.heap.size n ms f rg) := fun u hu => by
    have := toLiteralS_own b c2 xs u (hs.later hu)
    rwa [hn] at this
  have HTV : Hid (∀ u, Below w.heap.size w u → Calls Tryz.prog 13 #[.slice va vn vc] u fun e w' => ∃ ms : List Bw, e = .returned (.slice (some ⟨u.heap.size, 0, none⟩) vn vn) ∧ ms.map Bw.ct = vs.map Bw.ct ∧ RdW w' (some ⟨u.heap.size, 0, none⟩) ms ∧ Below u.heap.size u w') := fun u hu => (HTB.out u hu).mono (fun e w' ⟨ms, h1, h2, h3, _, h5⟩ => ⟨ms, h1, h2, h3, h5⟩)
  have HTL : Hid (∀ u, Below w.heap.size w u → Calls Tryz.prog 12 #[.slice b n c2] u fun e w' => ∃ ms : List Lg, e = .returned (.slice (some ⟨u.heap.size, 0, none⟩) n n) ∧ ms.map Lg.ct = xs.map Lg.ct ∧ RdL w' (some ⟨u.heap.size, 0, none⟩) ms ∧ Below u.heap.size u w') := fun u hu => (HTLO.out u hu).mono (fun e w' ⟨ms, h1, h2, h3, h4, _⟩ => ⟨ms, h1, h2, h3, h4⟩)
  have HDA : Hid (∀ u, Below w.heap.size w u → Calls Tryz.prog 11 #[.slice a ds.length c] u fun e w' => e = .returned (.slice (some ⟨u.heap.size, 0, none⟩) ds.length ds.length) ∧ RdD w' (some ⟨u.heap.size, 0, none⟩) ds ∧ Below u.heap.size u w') := fun u hu => (HTD.out u hu).mono (fun e w' ⟨h1, h2, _, h4⟩ => ⟨h1, h2, h4⟩)
  have HSP : Hid (∀ (u : World) (gd gl gv : Nat) (ml : List Lg) (mv : List Bw), Below w.heap.size w u → RdD u (some ⟨gd, 0, none⟩) ds → RdL u (some ⟨gl, 0, none⟩) ml → RdW u (some ⟨gv, 0, none⟩) mv → ml.map Lg.ct = xs.map Lg.ct → mv.map Bw.ct = vs.map Bw.ct →
      Calls Tryz.prog 10 #[.slice (some ⟨gd, 0, none⟩) ds.length ds.length, .slice (some ⟨gl, 0, none⟩) n n, .slice (some ⟨gv, 0, none⟩) vn vn] u fun e w' => ∃ ag cg, e = .returned (.tuple #[.slice ag (wkR ds (vs.map Bw.ct) (xs.map Lg.ct)).1.length cg, .bool (wkR ds (vs.map Bw.ct) (xs.map Lg.ct)).2]) ∧ HoldI w' u.heap.size w'.heap.size ag (wkR ds (vs.map Bw.ct) (xs.map Lg.ct)).1.length (wkR ds (vs.map Bw.ct) (xs.map Lg.ct)).1 ∧ Below u.heap.size u w') := fun u gd gl gv ml mv hu h1 h2 h3 e1 e2 => by
    have h := specWeaken_any (some ⟨gd, 0, none⟩) (some ⟨gv, 0, none⟩) (some ⟨gl, 0, none⟩) ds.length vn n n vn ds mv ml u h1 h3 h2 (len_of_ct e2 hvn) (len_of_lc e1 hn)
    rw [e1, e2] at h
    refine Calls.mono h ?_
    rintro e w' ⟨v, rfl, ho, hb⟩
    obtain ⟨ag, cg, rfl, hh⟩ := ho.hold hXl hXx
    exact ⟨ag, cg, rfl, hh, hb⟩
  have HIM : Hid (∀ (u : World) (gd gl gv : Nat) (ml : List Lg) (mv : List Bw), Below w.heap.size w u → RdD u (some ⟨gd, 0, none⟩) ds → RdL u (some ⟨gl, 0, none⟩) ml → RdW u (some ⟨gv, 0, none⟩) mv → ml.map Lg.ct = xs.map Lg.ct → mv.map Bw.ct = vs.map Bw.ct →
      Calls Tryz.prog 14 #[.slice (some ⟨gd, 0, none⟩) ds.length ds.length, .slice (some ⟨gl, 0, none⟩) n n, .slice (some ⟨gv, 0, none⟩) vn vn] u fun e w' => ∃ ag cg, e = .returned (.tuple #[.slice ag (wkR ds (vs.map Bw.ct) (xs.map Lg.ct)).1.length cg, .bool (wkR ds (vs.map Bw.ct) (xs.map Lg.ct)).2]) ∧ HoldI w' u.heap.size w'.heap.size ag (wkR ds (vs.map Bw.ct) (xs.map Lg.ct)).1.length (wkR ds (vs.map Bw.ct) (xs.map Lg.ct)).1 ∧ Below u.heap.size u w') := fun u gd gl gv ml mv hu h1 h2 h3 e1 e2 => by
    have h := implWeaken_any (some ⟨gd, 0, none⟩) (some ⟨gv, 0, none⟩) (some ⟨gl, 0, none⟩) ds.length vn n n vn ds mv ml u h1 h3 h2 (len_of_ct e2 hvn) (len_of_lc e1 hn) (hG.later hu)
    rw [e1, e2] at h
    refine Calls.mono h ?_
    rintro e w' ⟨v, rfl, ho, hb⟩
    obtain ⟨ag, cg, rfl, hh⟩ := ho.hold hXl hXx
    exact ⟨ag, cg, rfl, hh, hb⟩
  generalize (wkR ds (vs.map Bw.ct) (xs.map Lg.ct)).2 = X2 at *
  generalize (wkR ds (vs.map Bw.ct) (xs.map Lg.ct)).1 = X1 at *
  generalize X1.length = xn at *
  clear hr hs hv hn hvn hsum hG hXx
  go_enter Tryz.func3, Tryz.ntmps3
  have B0 := kide (Below.refl w.heap.size w)
  go_wp2_with fail
  refine Calls.mono (HSZ.out w B0.out) ?_
  rintro e w1 ⟨rfl, hb1⟩
  have B1 := kide (B0.out.trans (hb1.mono B0.out.size))
  clear hb1
  go_wp2_with fail
  refine Calls.mono (HSL.out w1 B1.out) ?_
  rintro e w2 ⟨rfl, hb2⟩
  have B2 := kide (B1.out.trans (hb2.mono B1.out.size))
  clear hb2
  go_wp2_with fail
  refine Calls.mono (HSV.out w2 B2.out) ?_
  rintro e w3 ⟨rfl, hb3⟩
  have B3 := kide (B2.out.trans (hb3.mono B2.out.size))
  clear hb3
  go_wp2_with fail
  refine Calls.mono (HDA.out w3 B3.out) ?_
  rintro e w4 ⟨rfl, r4, hb4⟩
  have B4 := kide (B3.out.trans (hb4.mono B3.out.size))
  have RD4 := kide r4
  clear r4
  clear hb4
  go_wp2_with fail
  refine Calls.mono (HTL.out w4 B4.out) ?_
  rintro e w5 ⟨m5, rfl, hm5, r5, hb5⟩
  have B5 := kide (B4.out.trans (hb5.mono B4.out.size))
  have RD5 := kide (RD4.out.later hb5)
  have RL5 := kide r5
  have ML5 := kide hm5
  clear r5 hm5
  clear hb5 RD4
  go_wp2_with fail
  refine Calls.mono (HTV.out w5 B5.out) ?_
  rintro e w6 ⟨v6, rfl, hm6, r6, hb6⟩
  have B6 := kide (B5.out.trans (hb6.mono B5.out.size))
  have RD6 := kide (RD5.out.later hb6)
  have RL6 := kide (RL5.out.later hb6)
  have RV6 := kide r6
  have MV6 := kide hm6
  clear r6 hm6
  clear hb6 RD5 RL5
  go_wp2_with fail
  refine Calls.mono (HSP.out w6 w3.heap.size w4.heap.size w5.heap.size m5 v6 B6.out RD6.out RL6.out RV6.out ML5.out MV6.out) ?_
  rintro e w7 ⟨aw, cw, rfl, h7, hb7⟩
  have B7 := kide (B6.out.trans (hb7.mono B6.out.size))
  have WH7 := kide h7
  have z6 := hb7.size
  have z0 := B7.out.size
  clear h7 HSP RD6 RL6 RV6 ML5 MV6
  clear hb7
  go_wp2_with fail
  refine Calls.mono (HTD.out w7 B7.out) ?_
  rintro e w8 ⟨rfl, r8, ⟨fd, q8⟩, hb8⟩
  have B8 := kide (B7.out.trans (hb8.mono B7.out.size))
  have WH8 := kide (WH7.out.later hb8)
  have RD8 := kide r8
  have QD8 := kide q8
  have z8 := rowIs_lt q8
  clear r8 q8
  clear hb8 WH7
  go_wp2_with fail
  refine Calls.mono (HTLO.out w8 B8.out) ?_
  rintro e w9 ⟨ml, rfl, hml, r9, hb9, fl, rg, q9⟩
  have B9 := kide (B8.out.trans (hb9.mono B8.out.size))
  have WH9 := kide (WH8.out.later hb9)
  have RD9 := kide (RD8.out.later hb9)
  have QD9 := kide (rowIs_later QD8.out hb9)
  have RL9 := kide r9
  have QL9 := kide q9
  have z9 := rowIs_lt q9.row
  have HML := kide (len_of_lc hml HN.out)
  have ML := kide hml
  clear r9 q9 hml
  clear hb9 WH8 RD8 QD8
  go_wp2_with fail
  refine Calls.mono (HTB.out w9 B9.out) ?_
  rintro e w10 ⟨mv, rfl, hmv, r10, ⟨fv, q10, ho10⟩, hb10⟩
  have B10 := kide (B9.out.trans (hb10.mono B9.out.size))
  have WH10 := kide (WH9.out.later hb10)
  have RD10 := kide (RD9.out.later hb10)
  have QD10 := kide (rowIs_later QD9.out hb10)
  have RL10 := kide (RL9.out.later hb10)
  have QL10 := kide (QL9.out.later HML.out hb10)
  have RV10 := kide r10
  have QV10 := kide q10
  have WV10 := kide (fun x hx => And.intro (BwOwn.wr ho10 (B := w9.heap.size) (Nat.le_refl _) x hx) (HVL.out mv hmv x hx))
  have z10 := rowIs_lt q10
  have FV := kide (BwOwn.f ho10)
  have MV := kide hmv
  clear r10 q10 ho10 hmv
  clear hb10 WH9 RD9 QD9 RL9 QL9
  go_wp2_with fail
  refine Calls.mono (HIM.out w10 w7.heap.size w8.heap.size w9.heap.size ml mv B10.out RD10.out RL10.out RV10.out ML.out MV.out) ?_
  rintro e w11 ⟨ag, cg, rfl, h11, hb11⟩
  have B11 := kide (B10.out.trans (hb11.mono B10.out.size))
  have WH11 := kide (WH10.out.later hb11)
  have RD11 := kide (RD10.out.later hb11)
  have QD11 := kide (rowIs_later QD10.out hb11)
  have RL11 := kide (RL10.out.later hb11)
  have QL11 := kide (QL10.out.later HML.out hb11)
  have RV11 := kide (RV10.out.later hb11)
  have QV11 := kide (rowIs_later QV10.out hb11)
  have WV11 := kide (fun x hx => And.intro ((WV10.out x hx).1.out (Out.below (B1 := w10.heap.size) (B2 := w10.heap.size) hb11) (.inr (Nat.le_refl _))) (WV10.out x hx).2)
  have GH11 := kide h11
  have z11 := hb11.size
  clear h11
  clear hb11 WH10 RD10 QD10 RL10 QL10 RV10 QV10 WV10
  have hbb : (X2 != X2) = false := by simp
  go_wp2_with fail
  refine Calls.mono (eqInt64S_hold ag aw cg cw xn _ _ _ _ X1 w11 GH11.out WH11.out) ?_
  rintro e w12 ⟨rfl, hb12⟩
  have B12 := kide (B11.out.trans (hb12.mono B11.out.size))
  have WH12 := kide (WH11.out.later hb12)
  have RD12 := kide (RD11.out.later hb12)
  have QD12 := kide (rowIs_later QD11.out hb12)
  have RL12 := kide (RL11.out.later hb12)
  have QL12 := kide (QL11.out.later HML.out hb12)
  have RV12 := kide (RV11.out.later hb12)
  have QV12 := kide (rowIs_later QV11.out hb12)
  have WV12 := kide (fun x hx => And.intro ((WV11.out x hx).1.out (Out.below (B1 := w10.heap.size) (B2 := w10.heap.size) hb12) (.inr (Nat.le_refl _))) (WV11.out x hx).2)
  have GH12 := kide (GH11.out.later hb12)
  clear hb12 WH11 RD11 QD11 RL11 QL11 RV11 QV11 WV11 GH11
  go_wp2_with fail
  refine Calls.mono (HDA.out w12 B12.out) ?_
  rintro e w13 ⟨rfl, r13, hb13⟩
  have B13 := kide (B12.out.trans (hb13.mono B12.out.size))
  have WH13 := kide (WH12.out.later hb13)
  have RD13 := kide (RD12.out.later hb13)
  have QD13 := kide (rowIs_later QD12.out hb13)
  have RL13 := kide (RL12.out.later hb13)
  have QL13 := kide (QL12.out.later HML.out hb13)
  have RV13 := kide (RV12.out.later hb13)
  have QV13 := kide (rowIs_later QV12.out hb13)
  have WV13 := kide (fun x hx => And.intro ((WV12.out x hx).1.out (Out.below (B1 := w10.heap.size) (B2 := w10.heap.size) hb13) (.inr (Nat.le_refl _))) (WV12.out x hx).2)
  have GH13 := kide (GH12.out.later hb13)
  have P13 := kide r13
  clear r13 hbb
  clear hb13 WH12 RD12 QD12 RL12 QL12 RV12 QV12 WV12 GH12
  go_wp2_with fail
  refine Calls.mono (eqDeclS_same _ _ ds.length ds.length ds w13 RD13.out P13.out) ?_
  rintro e w14 ⟨rfl, hb14⟩
  have B14 := kide (B13.out.trans (hb14.mono B13.out.size))
  have WH14 := kide (WH13.out.later hb14)
  have QD14 := kide (rowIs_later QD13.out hb14)
  have RL14 := kide (RL13.out.later hb14)
  have QL14 := kide (QL13.out.later HML.out hb14)
  have RV14 := kide (RV13.out.later hb14)
  have QV14 := kide (rowIs_later QV13.out hb14)
  have WV14 := kide (fun x hx => And.intro ((WV13.out x hx).1.out (Out.below (B1 := w10.heap.size) (B2 := w10.heap.size) hb14) (.inr (Nat.le_refl _))) (WV13.out x hx).2)
  have GH14 := kide (GH13.out.later hb14)
  clear RD13 P13
  clear hb14 WH13 QD13 RL13 QL13 RV13 QV13 WV13 GH13
  go_wp2_with fail
  refine Calls.mono (HTL.out w14 B14.out) ?_
  rintro e w15 ⟨m15, rfl, hm15, r15, hb15⟩
  have B15 := kide (B14.out.trans (hb15.mono B14.out.size))
  have WH15 := kide (WH14.out.later hb15)
  have QD15 := kide (rowIs_later QD14.out hb15)
  have RL15 := kide (RL14.out.later hb15)
  have QL15 := kide (QL14.out.later HML.out hb15)
  have RV15 := kide (RV14.out.later hb15)
  have QV15 := kide (rowIs_later QV14.out hb15)
  have WV15 := kide (fun x hx => And.intro ((WV14.out x hx).1.out (Out.below (B1 := w10.heap.size) (B2 := w10.heap.size) hb15) (.inr (Nat.le_refl _))) (WV14.out x hx).2)
  have GH15 := kide (GH14.out.later hb15)
  have P15 := kide r15
  have M15 := kide hm15
  clear r15 hm15
  clear hb15 WH14 QD14 RL14 QL14 RV14 QV14 WV14 GH14
  go_wp2_with fail
  refine Calls.mono (eqLiteralS_same _ _ n n ml m15 w15 RL15.out P15.out (ML.out.trans M15.out.symm) n (len_of_lc ML.out HN.out) (len_of_lc M15.out HN.out)) ?_
  rintro e w16 ⟨rfl, hb16⟩
  have B16 := kide (B15.out.trans (hb16.mono B15.out.size))
  have WH16 := kide (WH15.out.later hb16)
  have QD16 := kide (rowIs_later QD15.out hb16)
  have QL16 := kide (QL15.out.later HML.out hb16)
  have RV16 := kide (RV15.out.later hb16)
  have QV16 := kide (rowIs_later QV15.out hb16)
  have WV16 := kide (fun x hx => And.intro ((WV15.out x hx).1.out (Out.below (B1 := w10.heap.size) (B2 := w10.heap.size) hb16) (.inr (Nat.le_refl _))) (WV15.out x hx).2)
  have GH16 := kide (GH15.out.later hb16)
  have HLL := kide (lits_le RL15.out)
  clear RL15 P15 M15
  clear hb16 WH15 QD15 QL15 RV15 QV15 WV15 GH15
  go_wp2_with fail
  refine Calls.mono (HTV.out w16 B16.out) ?_
  rintro e w17 ⟨v17, rfl, hm17, r17, hb17⟩
  have B17 := kide (B16.out.trans (hb17.mono B16.out.size))
  have WH17 := kide (WH16.out.later hb17)
  have QD17 := kide (rowIs_later QD16.out hb17)
  have QL17 := kide (QL16.out.later HML.out hb17)
  have RV17 := kide (RV16.out.later hb17)
  have QV17 := kide (rowIs_later QV16.out hb17)
  have WV17 := kide (fun x hx => And.intro ((WV16.out x hx).1.out (Out.below (B1 := w10.heap.size) (B2 := w10.heap.size) hb17) (.inr (Nat.le_refl _))) (WV16.out x hx).2)
  have GH17 := kide (GH16.out.later hb17)
  have P17 := kide r17
  have M17 := kide hm17
  clear r17 hm17
  clear hb17 WH16 QD16 QL16 RV16 QV16 WV16 GH16
  go_wp2_with fail
  refine Calls.mono (eqBitsS_same _ _ vn vn mv v17 w17 RV17.out P17.out (MV.out.trans M17.out.symm) vn (len_of_ct MV.out HVN.out) (len_of_ct M17.out HVN.out)) ?_
  rintro e w18 ⟨rfl, hb18⟩
  have B18 := kide (B17.out.trans (hb18.mono B17.out.size))
  have WH18 := kide (WH17.out.later hb18)
  have QD18 := kide (rowIs_later QD17.out hb18)
  have QL18 := kide (QL17.out.later HML.out hb18)
  have QV18 := kide (rowIs_later QV17.out hb18)
  have WV18 := kide (fun x hx => And.intro ((WV17.out x hx).1.out (Out.below (B1 := w10.heap.size) (B2 := w10.heap.size) hb18) (.inr (Nat.le_refl _))) (WV17.out x hx).2)
  have GH18 := kide (GH17.out.later hb18)
  clear RV17 P17 M17
  clear hb18 WH17 QD17 QL17 QV17 WV17 GH17
  go_wp2_with fail
  refine Calls.mono (markDeclS_one w7.heap.size ds.length ds.length fd w18 QD18.out hd2) ?_
  rintro e w19 ⟨rfl, ho19⟩
  have B19 := kide (Out.bel B18.out ho19 (by omega))
  have WH19 := kide (WH18.out.out ho19 (by omega))
  have QL19 := kide (QL18.out.out HML.out ho19 (by omega))
  have QV19 := kide (rowIs_out QV18.out ho19 (by omega))
  have WV19 := kide (fun x hx => And.intro ((WV18.out x hx).1.out ho19 (by omega)) (WV18.out x hx).2)
  have GH19 := kide (GH18.out.out ho19 (by omega))
  clear QD18
  generalize hK1 : 1 + ds.length * 2 = K1
  have hK1b : K1 ≤ 100000000 := by omega
  clear ho19 WH18 QL18 QV18 WV18 GH18
  go_wp2_with fail
  refine Calls.mono (markLiteralS_any w8.heap.size n n K1 w9.heap.size ml w19 fl rg QL19.out HML.out hn2 HLL.out hK1b) ?_
  rintro e w20 ⟨⟨r20, hr20, rfl⟩, ho20⟩
  have B20 := kide (Out.bel B19.out ho20 (by omega))
  have WH20 := kide (WH19.out.out ho20 (by omega))
  have QV20 := kide (rowIs_out QV19.out ho20 (by omega))
  have WV20 := kide (fun x hx => And.intro ((WV19.out x hx).1.out ho20 (by omega)) (WV19.out x hx).2)
  have GH20 := kide (GH19.out.out ho20 (by omega))
  clear QL19
  have hr20b : r20 ≤ 5000000000000000000 := by omega
  clear hr20
  clear ho20 WH19 QV19 WV19 GH19
  have hk21 : Hid (r20 + vn + sumB mv ≤ 9000000000000000000) := by show _ ≤ _; rw [sumB_ct MV.out]; have := HSUM.out; omega
  go_wp2_with fail
  refine Calls.mono (markBitsS_big w9.heap.size vn vn r20 w9.heap.size w10.heap.size mv w20 fv QV20.out FV.out WV20.out (len_of_ct MV.out HVN.out) hv2 hk21.out (Nat.le_refl _) z10) ?_
  rintro e w21 ⟨rfl, ho21⟩
  have B21 := kide (Out.bel B20.out ho21 (by omega))
  have WH21 := kide (WH20.out.out ho21 (by omega))
  have GH21 := kide (GH20.out.out ho21 (by omega))
  clear QV20 WV20
  generalize r20 + vn + sumB mv = K3 at *
  have hk3 : ¬ (K3 : Int) < 0 := by omega
  have hbb : (X2 != X2) = false := by simp
  clear ho21 WH20 GH20
  go_wp2_with fail
  refine Calls.mono (eqInt64S_hold ag aw cg cw xn _ _ _ _ X1 w21 GH21.out WH21.out) ?_
  rintro e w22 ⟨rfl, hb22⟩
  have B22 := kide (B21.out.trans (hb22.mono B21.out.size))
  have WH22 := kide (WH21.out.later hb22)
  have GH22 := kide (GH21.out.later hb22)
  clear hb22 WH21 GH21
  go_wp2_with fail
  refine Calls.mono (markInt64S_hold ag cg xn w10.heap.size w11.heap.size X1 w22 GH22.out) ?_
  rintro e w23 ⟨rfl, mk23, ho23⟩
  have B23 := kide (Out.bel B22.out ho23 (by omega))
  have WH23 := kide (WH22.out.out ho23 (by omega))
  have MK23 := kide mk23
  clear GH22 mk23
  clear ho23 WH22
  have HHM := kide (fun u (hu : MkI u ag xn) => heldInt64S_mk ag cg xn u hu (by omega))
  generalize hV : 1 + xn = V at *
  have hvv : ((V : Int) != (V : Int)) = false := by simp
  have hv0 : ¬ (V : Int) < 0 := by omega
  go_wp2_with fail
  refine Calls.mono (HHM.out w23 MK23.out) ?_
  rintro e w24 ⟨rfl, hw24⟩
  obtain rfl := hw24.symm
  go_wp2_with fail
  refine Calls.mono (HDA.out w23 B23.out) ?_
  rintro e w24 ⟨rfl, r24, hb24⟩
  have B24 := kide (B23.out.trans (hb24.mono B23.out.size))
  have WH24 := kide (WH23.out.later hb24)
  have MK24 := kide (MK23.out.later hb24)
  have RD24 := kide r24
  clear r24
  clear hb24 WH23 MK23
  go_wp2_with fail
  refine Calls.mono (HTL.out w24 B24.out) ?_
  rintro e w25 ⟨m25, rfl, hm25, r25, hb25⟩
  have B25 := kide (B24.out.trans (hb25.mono B24.out.size))
  have WH25 := kide (WH24.out.later hb25)
  have MK25 := kide (MK24.out.later hb25)
  have RD25 := kide (RD24.out.later hb25)
  have RL25 := kide r25
  have M25 := kide hm25
  clear r25 hm25
  clear hb25 WH24 MK24 RD24
  go_wp2_with fail
  refine Calls.mono (HTV.out w25 B25.out) ?_
  rintro e w26 ⟨v26, rfl, hm26, r26, hb26⟩
  have B26 := kide (B25.out.trans (hb26.mono B25.out.size))
  have WH26 := kide (WH25.out.later hb26)
  have MK26 := kide (MK25.out.later hb26)
  have RD26 := kide (RD25.out.later hb26)
  have RL26 := kide (RL25.out.later hb26)
  have RV26 := kide r26
  have M26 := kide hm26
  clear r26 hm26
  clear hb26 WH25 MK25 RD25 RL25
  go_wp2_with fail
  refine Calls.mono (HIM.out w26 w23.heap.size w24.heap.size w25.heap.size m25 v26 B26.out RD26.out RL26.out RV26.out M25.out M26.out) ?_
  rintro e w27 ⟨ah, ch, rfl, h27, hb27⟩
  have B27 := kide (B26.out.trans (hb27.mono B26.out.size))
  have WH27 := kide (WH26.out.later hb27)
  have MK27 := kide (MK26.out.later hb27)
  have HH27 := kide h27
  clear h27 RD26 RL26 RV26 M25 M26
  clear hb27 WH26 MK26
  go_wp2_with fail
  refine Calls.mono (eqInt64S_hold ah aw ch cw xn _ _ _ _ X1 w27 HH27.out WH27.out) ?_
  rintro e w28 ⟨rfl, hb28⟩
  have B28 := kide (B27.out.trans (hb28.mono B27.out.size))
  have MK28 := kide (MK27.out.later hb28)
  clear HH27 WH27
  clear hb28 MK27
  go_wp2_with fail
  refine Calls.mono (HHM.out w28 MK28.out) ?_
  rintro e w29 ⟨rfl, hw29⟩
  obtain rfl := hw29.symm
  go_wp2_with fail
  go_ret
  exact ⟨rfl, B28.out⟩

theorem law_no_FnExactWeaken (a b va : Option Addr) (n0 c n c2 vn vc : Nat) (w : World) (Z Z2 Z3 : Int) (h : Z < 0 ∨ 0 ≤ Z ∧ Z2 < 0 ∨ 0 ≤ Z ∧ 0 ≤ Z2 ∧ Z3 < 0)
    (HSZ : Hid (∀ u, Below w.heap.size w u → Calls Tryz.prog 7 #[.slice a n0 c, .int .i64 1048576] u fun e w' => e = .returned (.int .i64 Z) ∧ Below u.heap.size u w'))
    (HSL : Hid (0 ≤ Z → ∀ u, Below w.heap.size w u → Calls Tryz.prog 8 #[.slice b n c2, .int .i64 Z] u fun e w' => e = .returned (.int .i64 Z2) ∧ Below u.heap.size u w'))
    (HSV : Hid (0 ≤ Z → 0 ≤ Z2 → ∀ u, Below w.heap.size w u → Calls Tryz.prog 9 #[.slice va vn vc, .int .i64 Z2] u fun e w' => e = .returned (.int .i64 Z3) ∧ Below u.heap.size u w')) :
    Calls Tryz.prog 3 #[.slice a n0 c, .slice b n c2, .slice va vn vc] w fun e w' => e = .returned (.bool true) ∧ Below w.heap.size w w' := by
  rcases h with h | ⟨h, h2⟩ | ⟨h, h2, h3⟩
  · go_enter Tryz.func3, Tryz.ntmps3
    go_wp2_with fail
    refine Calls.mono (HSZ.out w (Below.refl _ _)) ?_
    rintro e w1 ⟨rfl, hb1⟩
    go_wp2_with fail
    go_ret
    exact ⟨rfl, hb1⟩
  · go_enter Tryz.func3, Tryz.ntmps3
    go_wp2_with fail
    refine Calls.mono (HSZ.out w (Below.refl _ _)) ?_
    rintro e w1 ⟨rfl, hb1⟩
    go_wp2_with fail
    refine Calls.mono (HSL.out h w1 hb1) ?_
    rintro e w2 ⟨rfl, hb2'⟩
    have hb2 := hb1.trans (hb2'.mono hb1.size)
    clear hb2'
    go_wp2_with fail
    go_ret
    exact ⟨rfl, hb2⟩
  · go_enter Tryz.func3, Tryz.ntmps3
    go_wp2_with fail
    refine Calls.mono (HSZ.out w (Below.refl _ _)) ?_
    rintro e w1 ⟨rfl, hb1⟩
    go_wp2_with fail
    refine Calls.mono (HSL.out h w1 hb1) ?_
    rintro e w2 ⟨rfl, hb2'⟩
    have hb2 := hb1.trans (hb2'.mono hb1.size)
    clear hb2'
    go_wp2_with fail
    refine Calls.mono (HSV.out h h2 w2 hb2) ?_
    rintro e w3 ⟨rfl, hb3'⟩
    have hb3 := hb2.trans (hb3'.mono hb2.size)
    clear hb3'
    go_wp2_with fail
    go_ret
    exact ⟨rfl, hb3⟩

theorem walk_FnExactWeaken (a : Option Addr) (n0 c : Nat) (hn0 : n0 ≤ 9223372036854775807) (b : Option Addr) (n c2 : Nat) (hn : n ≤ 9223372036854775807) (va : Option Addr) (vn vc : Nat) (hvn : vn ≤ 9223372036854775807) (w : World) (hG : GF w)
    (hx : n0 ≤ 1048576 → ∃ ds : List Dc, ds.length = n0 ∧ RdD w a ds) (hl : n ≤ 1048576 → ∃ hs : List Lh, hs.length = n ∧ RdLh w b hs ∧ ∀ h ∈ hs, LitOf w h) (hy : vn ≤ 1048576 → ∃ hs : List Bh, hs.length = vn ∧ RdBh w va hs ∧ ∀ h ∈ hs, WordsOf w h) :
    Calls Tryz.prog 3 #[.slice a n0 c, .slice b n c2, .slice va vn vc] w fun e w' => e = .returned (.bool true) ∧ Below w.heap.size w w' := by
  obtain ⟨Z, Z2, Z3, h1, h2, h3, h4⟩ := sizes_dlv a b va n0 c n c2 vn vc w hn0 hn hvn hx hl hy
  by_cases hz : Z < 0
  · exact law_no_FnExactWeaken a b va n0 c n c2 vn vc w Z Z2 Z3 (.inl hz) h1 h2 h3
  by_cases hz2 : Z2 < 0
  · exact law_no_FnExactWeaken a b va n0 c n c2 vn vc w Z Z2 Z3 (.inr (.inl ⟨by omega, hz2⟩)) h1 h2 h3
  by_cases hz3 : Z3 < 0
  · exact law_no_FnExactWeaken a b va n0 c n c2 vn vc w Z Z2 Z3 (.inr (.inr ⟨by omega, by omega, hz3⟩)) h1 h2 h3
  obtain ⟨ds, xs, vs, rfl, hxl, hvl, hr, hs, hv, hsum⟩ := h4 (by omega) (by omega) (by omega)
  exact law_yes_FnExactWeaken a b va c c2 vc n vn ds xs vs w hr hs hv hxl hvl hsum hG Z Z2 Z3 (by omega) (by omega) (by omega) h1 (h2 (by omega)) (h3 (by omega) (by omega))

end Go.Proofs.YtllojnloldhghaaGreatDoor
