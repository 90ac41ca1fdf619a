/- The law FnExactSwitchesOf returns true, whatever it is handed. -/
import Derived.Test.YtkffjdicmendkaaSWB
import Derived.Test.YtkffjdicmendkaaSWC
import Derived.Test.YtkffjdicmendkaaSWD
namespace Go.Proofs.Ytkffjdicmendkaa
set_option linter.unusedVariables false
set_option linter.unusedSimpArgs false
open Go.RowKit

set_option maxHeartbeats 2000000 in
set_option maxRecDepth 100000 in
theorem law_yes_FnExactSwitchesOf (a b : Option Addr) (c n c2 : Nat) (n0 : Nat) (ds : List Dc) (xs : List Bw) (w : World) (hr : RdD w a ds) (hn0 : ds.length = n0) (hs : RdW w b xs) (hn : xs.length = n) (Z Z2 : Int) (hZ : 0 ≤ Z) (hZ2 : 0 ≤ Z2)
    (HZ1 : Hid (∀ u, Below w.heap.size w u → Calls Try.prog 6 #[.slice a n0 c, .int .i64 1048576] u fun e w' => e = .returned (.int .i64 Z) ∧ Below u.heap.size u w'))
    (HZ2 : Hid (∀ u, Below w.heap.size w u → Calls Try.prog 7 #[.slice b n c2, .int .i64 Z] u fun e w' => e = .returned (.int .i64 Z2) ∧ Below u.heap.size u w')) :
    Calls Try.prog 3 #[.slice a n0 c, .slice b n c2] w fun e w' => e = .returned (.bool true) ∧ Below w.heap.size w w' := by
  have HTD : Hid (∀ u, Below w.heap.size w u → Calls Try.prog 9 #[.slice a n0 c] u fun e w' => e = .returned (.slice (some ⟨u.heap.size, 0, none⟩) n0 n0) ∧ RdD w' (some ⟨u.heap.size, 0, none⟩) ds ∧ (∃ f, w'.rowIs u.heap.size 60 (n0 * 2) f) ∧ Below u.heap.size u w') := fun u hu => by
    subst hn0
    exact toDeclS_row a c ds u (hr.later hu)
  have HTA := kide (fun u (hu : Below w.heap.size w u) => toBitsS_ty b c2 n xs u (hs.later hu) hn)
  have HOK := kide (swR_ok ds (xs.map Bw.ct))
  have hn02 := hr.1
  rw [hn0] at hn02
  have hnn := hs.1
  rw [hn] at hnn
  have HN0 := kide hn0
  have HN := kide hn
  have LEN : Hid (∀ {ms zs : List Bw} {k : Nat}, ms.map Bw.ct = zs.map Bw.ct → zs.length = k → ms.length = k) := fun {ms zs k} h h2 => by
    have := congrArg List.length h
    simp at this
    omega
  have HSP : Hid (∀ u (a b : Option Addr) (xs' : List Bw), RdD u a ds → RdW u b xs' → xs'.map Bw.ct = xs.map Bw.ct → Calls Try.prog 8 #[.slice a n0 n0, .slice b n n] u (RetF u (swR ds (xs.map Bw.ct)))) := fun u a b xs' h1 h2 e2 => by
    have h := specSw_any a b n0 n n ds xs' u h1 h2 (LEN.out e2 HN.out)
    rw [HN0.out, e2] at h
    exact h
  have HIM : Hid (∀ u (a b : Option Addr) (xs' : List Bw), RdD u a ds → RdW u b xs' → xs'.map Bw.ct = xs.map Bw.ct → Calls Try.prog 11 #[.slice a n0 n0, .slice b n n] u (RetF u (swR ds (xs.map Bw.ct)))) := fun u a b xs' h1 h2 e2 => by
    have h := implSw_any a b n0 n n ds xs' u h1 h2 (LEN.out e2 HN.out)
    rw [HN0.out, e2] at h
    exact h
  have HED : Hid (∀ u (a b : Option Addr), RdD u a ds → RdD u b ds → Calls Try.prog 13 #[.slice a n0 n0, .slice b n0 n0] u fun e w' => e = .returned (.bool true) ∧ Below u.heap.size u w') := fun u a b h1 h2 => by
    have h := eqDeclS_same a b n0 n0 ds u h1 h2
    rw [HN0.out] at h
    exact h
  generalize swR ds (xs.map Bw.ct) = X at *
  clear hr hn0 hs hn
  obtain ⟨Y, xb⟩ := X
  simp only at HOK HSP HIM
  have hXX : (!xb == xb) = false := by cases xb <;> rfl
  have hXX2 : (xb != xb) = false := by cases xb <;> rfl
  obtain ⟨ny, hny⟩ : ∃ ny, Y.length = ny := ⟨_, rfl⟩
  have HNY := kide hny
  have hny2 : ny ≤ 1048576 := by have := HOK.out; omega
  clear hny
  go_enter Try.func3, Try.ntmps3
  have B0 := kide (Below.refl w.heap.size w)
  go_wp2_with fail
  refine Calls.mono (HZ1.out _ B0.out) ?_
  rintro e w1 ⟨rfl, hb⟩
  have B1 := kide (B0.out.trans (hb.mono B0.out.size))
  have z1 : w.heap.size ≤ w1.heap.size := hb.size
  clear hb B0
  go_wp2_with fail
  refine Calls.mono (HZ2.out _ B1.out) ?_
  rintro e w2 ⟨rfl, hb⟩
  have B2 := kide (B1.out.trans (hb.mono B1.out.size))
  have z2 : w1.heap.size ≤ w2.heap.size := hb.size
  clear hb B1
  go_wp2_with fail
  refine Calls.mono (HTD.out _ B2.out) ?_
  rintro e w3 ⟨rfl, r, -, hb⟩
  have B3 := kide (B2.out.trans (hb.mono B2.out.size))
  have z3 : w2.heap.size ≤ w3.heap.size := hb.size
  have RD3 := kide r
  clear r
  clear hb B2
  go_wp2_with fail
  refine Calls.mono (HTA.out _ B3.out) ?_
  rintro e w4 ⟨m4, rfl, e4, r, -, hb⟩
  have B4 := kide (B3.out.trans (hb.mono B3.out.size))
  have z4 : w3.heap.size ≤ w4.heap.size := hb.size
  have RD4 := kide (RD3.out.later hb)
  have RA4 := kide r
  have E4 := kide e4
  clear r e4
  clear hb B3 RD3
  go_wp2_with fail
  refine Calls.mono (HSP.out w4 _ _ m4 RD4.out RA4.out E4.out) ?_
  rintro e w5 ⟨v5, rfl, o5, hb⟩
  have B5 := kide (B4.out.trans (hb.mono B4.out.size))
  have z5 : w4.heap.size ≤ w5.heap.size := hb.size
  obtain ⟨a5, c5, rfl, hh5⟩ := o5.hold (by rw [HNY.out]; exact hny2)
  rw [HNY.out] at hh5 ⊢
  have S5 := kide hh5
  clear o5 hh5
  clear E4
  clear hb B4 RD4 RA4
  go_wp2_with fail
  refine Calls.mono (HTD.out _ B5.out) ?_
  rintro e w6 ⟨rfl, r, ⟨fd, q⟩, hb⟩
  have B6 := kide (B5.out.trans (hb.mono B5.out.size))
  have z6 : w5.heap.size ≤ w6.heap.size := hb.size
  have S6 := kide (S5.out.later hb)
  have RD6 := kide r
  have QD6 := kide q
  have zl6 : w5.heap.size < w6.heap.size := q.lt
  clear r q
  clear hb B5 S5
  go_wp2_with fail
  refine Calls.mono (HTA.out _ B6.out) ?_
  rintro e w7 ⟨m7, rfl, e7, r, q, hb⟩
  have B7 := kide (B6.out.trans (hb.mono B6.out.size))
  have z7 : w6.heap.size ≤ w7.heap.size := hb.size
  have S7 := kide (S6.out.later hb)
  have RD7 := kide (RD6.out.later hb)
  have QD7 := kide (rowIs_out QD6.out (Out.of (B1 := 0) (B2 := 0) hb) (.inr (Nat.zero_le _)))
  have RA7 := kide r
  have QA7 := kide q
  have E7 := kide e7
  clear r q e7
  clear hb B6 S6 RD6 QD6
  go_wp2_with fail
  refine Calls.mono (HIM.out w7 _ _ m7 RD7.out RA7.out E7.out) ?_
  rintro e w8 ⟨v8, rfl, o8, hb⟩
  have B8 := kide (B7.out.trans (hb.mono B7.out.size))
  have z8 : w7.heap.size ≤ w8.heap.size := hb.size
  have S8 := kide (S7.out.later hb)
  have RD8 := kide (RD7.out.later hb)
  have QD8 := kide (rowIs_out QD7.out (Out.of (B1 := 0) (B2 := 0) hb) (.inr (Nat.zero_le _)))
  have RA8 := kide (RA7.out.later hb)
  have QA8 := kide (QA7.out.shp (Shp.of hb))
  obtain ⟨a8, c8, rfl, hh8⟩ := o8.hold (by rw [HNY.out]; exact hny2)
  rw [HNY.out] at hh8 ⊢
  have G8 := kide hh8
  clear o8 hh8
  clear hb B7 S7 RD7 QD7 RA7 QA7
  go_wp2_with fail
  refine Calls.mono (eqBoolS_hold _ _ c8 c5 ny _ _ _ _ Y w8 G8.out S8.out) ?_
  rintro e w9 ⟨rfl, hb⟩
  have B9 := kide (B8.out.trans (hb.mono B8.out.size))
  have z9 : w8.heap.size ≤ w9.heap.size := hb.size
  have S9 := kide (S8.out.later hb)
  have RD9 := kide (RD8.out.later hb)
  have QD9 := kide (rowIs_out QD8.out (Out.of (B1 := 0) (B2 := 0) hb) (.inr (Nat.zero_le _)))
  have RA9 := kide (RA8.out.later hb)
  have QA9 := kide (QA8.out.shp (Shp.of hb))
  have G9 := kide (G8.out.later hb)
  clear hb B8 S8 RD8 QD8 RA8 QA8 G8
  go_wp2_with fail
  refine Calls.mono (HTD.out _ B9.out) ?_
  rintro e w10 ⟨rfl, r, -, hb⟩
  have B10 := kide (B9.out.trans (hb.mono B9.out.size))
  have z10 : w9.heap.size ≤ w10.heap.size := hb.size
  have S10 := kide (S9.out.later hb)
  have RD10 := kide (RD9.out.later hb)
  have QD10 := kide (rowIs_out QD9.out (Out.of (B1 := 0) (B2 := 0) hb) (.inr (Nat.zero_le _)))
  have RA10 := kide (RA9.out.later hb)
  have QA10 := kide (QA9.out.shp (Shp.of hb))
  have G10 := kide (G9.out.later hb)
  have P10 := kide r
  clear r
  clear hb B9 S9 RD9 QD9 RA9 QA9 G9
  go_wp2_with fail
  refine Calls.mono (HED.out _ _ _ RD10.out P10.out) ?_
  rintro e w11 ⟨rfl, hb⟩
  have B11 := kide (B10.out.trans (hb.mono B10.out.size))
  have z11 : w10.heap.size ≤ w11.heap.size := hb.size
  have S11 := kide (S10.out.later hb)
  have QD11 := kide (rowIs_out QD10.out (Out.of (B1 := 0) (B2 := 0) hb) (.inr (Nat.zero_le _)))
  have RA11 := kide (RA10.out.later hb)
  have QA11 := kide (QA10.out.shp (Shp.of hb))
  have G11 := kide (G10.out.later hb)
  clear hb B10 S10 QD10 RA10 QA10 G10 RD10 P10
  go_wp2_with fail
  refine Calls.mono (HTA.out _ B11.out) ?_
  rintro e w12 ⟨m12, rfl, e12, r, -, hb⟩
  have B12 := kide (B11.out.trans (hb.mono B11.out.size))
  have z12 : w11.heap.size ≤ w12.heap.size := hb.size
  have S12 := kide (S11.out.later hb)
  have QD12 := kide (rowIs_out QD11.out (Out.of (B1 := 0) (B2 := 0) hb) (.inr (Nat.zero_le _)))
  have RA12 := kide (RA11.out.later hb)
  have QA12 := kide (QA11.out.shp (Shp.of hb))
  have G12 := kide (G11.out.later hb)
  have P12 := kide r
  have E12 := kide e12
  clear r e12
  clear hb B11 S11 QD11 RA11 QA11 G11
  go_wp2_with fail
  refine Calls.mono (eqBitsS_same _ _ n n m7 m12 w12 RA12.out P12.out (E7.out.trans E12.out.symm) n (LEN.out E7.out HN.out) (LEN.out E12.out HN.out)) ?_
  rintro e w13 ⟨rfl, hb⟩
  have B13 := kide (B12.out.trans (hb.mono B12.out.size))
  have z13 : w12.heap.size ≤ w13.heap.size := hb.size
  have S13 := kide (S12.out.later hb)
  have QD13 := kide (rowIs_out QD12.out (Out.of (B1 := 0) (B2 := 0) hb) (.inr (Nat.zero_le _)))
  have QA13 := kide (QA12.out.shp (Shp.of hb))
  have G13 := kide (G12.out.later hb)
  clear E12
  clear hb B12 S12 QD12 QA12 G12 RA12 P12
  go_wp2_with fail
  refine Calls.mono (markDeclS_one w5.heap.size n0 n0 fd w13 QD13.out hn02) ?_
  rintro e w14 ⟨rfl, ho⟩
  have B14 := kide (Out.bel B13.out ho (by omega))
  have z14 : w13.heap.size ≤ w14.heap.size := ho.2.2.2.1
  have S14 := kide (S13.out.out ho (by omega))
  have QA14 := kide (QA13.out.out ho (by omega))
  have G14 := kide (G13.out.out ho (by omega))
  obtain ⟨K1, hK1, hK1b⟩ : ∃ K1 : Nat, ((1 + n0 * 2 : Nat) : Int) = (K1 : Int) ∧ K1 ≤ 100000000 := ⟨_, rfl, by omega⟩
  rw [hK1]
  clear hK1
  clear ho B13 S13 QA13 G13 QD13
  go_wp2_with fail
  refine Calls.mono (markBitsS_ty w6.heap.size w7.heap.size n n K1 _ w14 QA14.out (by omega)) ?_
  rintro e w15 ⟨K2, rfl, hK2, -, ho⟩
  have B15 := kide (Out.bel B14.out ho (by omega))
  have z15 : w14.heap.size ≤ w15.heap.size := ho.2.2.2.1
  have S15 := kide (S14.out.out ho (by omega))
  have G15 := kide (G14.out.out ho (by omega))
  have hK2b : ¬ (K2 : Int) < 0 := by omega
  clear hK2
  clear ho B14 S14 G14 QA14
  go_wp2_with fail
  refine Calls.mono (eqBoolS_hold _ _ c8 c5 ny _ _ _ _ Y w15 G15.out S15.out) ?_
  rintro e w16 ⟨rfl, hb⟩
  have B16 := kide (B15.out.trans (hb.mono B15.out.size))
  have z16 : w15.heap.size ≤ w16.heap.size := hb.size
  have S16 := kide (S15.out.later hb)
  have G16 := kide (G15.out.later hb)
  clear hb B15 S15 G15
  go_wp2_with fail
  refine Calls.mono (markBoolS_hold a8 c8 ny _ _ Y w16 G16.out) ?_
  rintro e w17 ⟨rfl, hm, ho⟩
  have B17 := kide (Out.bel B16.out ho (by omega))
  have z17 : w16.heap.size ≤ w17.heap.size := ho.2.2.2.1
  have S17 := kide (S16.out.out ho (by omega))
  have HH17 := kide hm
  have HVV := kide (fun u (hu : MkF u a8 ny) => heldBoolS_mk a8 c8 ny u hu (by omega))
  obtain ⟨V, hV⟩ : ∃ V, 1 + ny = V := ⟨_, rfl⟩
  rw [hV] at HVV
  rw [hV]
  have hv0 : ¬ (V : Int) < 0 := by omega
  have hvv : ((V : Int) != (V : Int)) = false := by simp
  clear hm hV
  clear ho B16 S16 G16
  go_wp2_with fail
  refine Calls.mono (HVV.out w17 HH17.out) ?_
  rintro e wq ⟨rfl, hwq⟩
  obtain rfl := hwq.symm
  clear hwq
  go_wp2_with fail
  refine Calls.mono (HTD.out _ B17.out) ?_
  rintro e w18 ⟨rfl, r, -, hb⟩
  have B18 := kide (B17.out.trans (hb.mono B17.out.size))
  have z18 : w17.heap.size ≤ w18.heap.size := hb.size
  have S18 := kide (S17.out.later hb)
  have HH18 := kide (HH17.out.later hb)
  have RD18 := kide r
  clear r
  clear hb B17 S17 HH17
  go_wp2_with fail
  refine Calls.mono (HTA.out _ B18.out) ?_
  rintro e w19 ⟨m19, rfl, e19, r, -, hb⟩
  have B19 := kide (B18.out.trans (hb.mono B18.out.size))
  have z19 : w18.heap.size ≤ w19.heap.size := hb.size
  have S19 := kide (S18.out.later hb)
  have HH19 := kide (HH18.out.later hb)
  have RD19 := kide (RD18.out.later hb)
  have RA19 := kide r
  have E19 := kide e19
  clear r e19
  clear hb B18 S18 HH18 RD18
  go_wp2_with fail
  refine Calls.mono (HIM.out w19 _ _ m19 RD19.out RA19.out E19.out) ?_
  rintro e w20 ⟨v20, rfl, o20, hb⟩
  have B20 := kide (B19.out.trans (hb.mono B19.out.size))
  have z20 : w19.heap.size ≤ w20.heap.size := hb.size
  have S20 := kide (S19.out.later hb)
  have HH20 := kide (HH19.out.later hb)
  obtain ⟨a20, c20, rfl, hh20⟩ := o20.hold (by rw [HNY.out]; exact hny2)
  rw [HNY.out] at hh20 ⊢
  have H20 := kide hh20
  clear o20 hh20
  clear hb B19 S19 HH19 RD19 RA19
  go_wp2_with fail
  refine Calls.mono (eqBoolS_hold _ _ c20 c5 ny _ _ _ _ Y w20 H20.out S20.out) ?_
  rintro e w21 ⟨rfl, hb⟩
  have B21 := kide (B20.out.trans (hb.mono B20.out.size))
  have z21 : w20.heap.size ≤ w21.heap.size := hb.size
  have HH21 := kide (HH20.out.later hb)
  clear hb B20 HH20 H20 S20
  go_wp2_with fail
  refine Calls.mono (HVV.out w21 HH21.out) ?_
  rintro e wq ⟨rfl, hwq⟩
  obtain rfl := hwq.symm
  clear hwq
  go_wp2_with fail
  go_ret
  exact ⟨rfl, B21.out⟩

theorem walk_FnExactSwitchesOf (a : Option Addr) (n0 c : Nat) (hn0 : n0 ≤ 9223372036854775807) (b : Option Addr) (n c2 : Nat) (hn : n ≤ 9223372036854775807) (w : World)
    (hx : n0 ≤ 1048576 → ∃ ds : List Dc, ds.length = n0 ∧ RdD w a ds) (hy : n ≤ 1048576 → ∃ hs : List Bh, hs.length = n ∧ RdBh w b hs ∧ ∀ h ∈ hs, WordsOf w h) :
    Calls Try.prog 3 #[.slice a n0 c, .slice b n c2] w fun e w' => e = .returned (.bool true) ∧ Below w.heap.size w w' := by
  obtain ⟨Z, HZ1, hZb, hneg | ⟨hZ, ds, hdl, hr⟩⟩ := size_ds a n0 c w hn0 hx
  · clear hx hy
    go_enter Try.func3, Try.ntmps3
    go_wp2_with fail
    refine Calls.mono (HZ1.out _ (Below.refl _ _)) ?_
    rintro e w1 ⟨rfl, hb1⟩
    go_wp2_with fail
    go_ret
    exact ⟨rfl, hb1⟩
  · obtain ⟨Z2, HZ2, hZ2b, hneg | ⟨hZ2, xs, hxl, hs⟩⟩ := size_bs b n c2 Z w hZ hZb hn hy
    · clear hx hy hr
      go_enter Try.func3, Try.ntmps3
      go_wp2_with fail
      refine Calls.mono (HZ1.out _ (Below.refl _ _)) ?_
      rintro e w1 ⟨rfl, hb1⟩
      go_wp2_with fail
      refine Calls.mono (HZ2.out _ hb1) ?_
      rintro e w2 ⟨rfl, hb2⟩
      go_wp2_with fail
      go_ret
      exact ⟨rfl, hb1.trans (hb2.mono hb1.size)⟩
    · exact law_yes_FnExactSwitchesOf a b c n c2 n0 ds xs w hr hdl hs hxl Z Z2 hZ hZ2 HZ1 HZ2

end Go.Proofs.Ytkffjdicmendkaa
