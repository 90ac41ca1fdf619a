/- The law FnExactValuesBy returns true, whatever it is handed. -/
import Derived.Test.YtkffjdicmendkaaVBE
namespace Go.Proofs.Ytkffjdicmendkaa
set_option linter.unusedVariables false
set_option linter.unusedSimpArgs false
open Go.RowKit

set_option maxHeartbeats 2000000 in
set_option maxRecDepth 100000 in
theorem law_yes_FnExactValuesBy (a f : Option Addr) (c m c4 : Nat) (n0 : Nat) (ds : List Dc) (vs : List Bool) (w : World) (hr : RdD w a ds) (hn0 : ds.length = n0) (hv : RdFl w f vs) (hm : vs.length = m) (Z : Int) (hZ : 0 ≤ Z)
    (HZ1 : Hid (∀ u, Below w.heap.size w u → Calls Try.prog 6 #[.slice a n0 c, .int .i64 1048576] u fun e w' => e = .returned (.int .i64 Z) ∧ Below u.heap.size u w')) :
    Calls Try.prog 4 #[.slice a n0 c, .slice f m c4] w fun e w' => e = .returned (.bool true) ∧ Below w.heap.size w w' := by
  have HTD : Hid (∀ u, Below w.heap.size w u → Calls Try.prog 9 #[.slice a n0 c] u fun e w' => e = .returned (.slice (some ⟨u.heap.size, 0, none⟩) n0 n0) ∧ RdD w' (some ⟨u.heap.size, 0, none⟩) ds ∧ (∃ f, w'.rowIs u.heap.size 60 (n0 * 2) f) ∧ Below u.heap.size u w') := fun u hu => by
    subst hn0
    exact toDeclS_row a c ds u (hr.later hu)
  have HTV := kide (fun u (hu : Below w.heap.size w u) => toBoolS_tf f c4 m vs u (hv.later hu) hm)
  have HOK := kide (okW_vb ds vs)
  have hm2 := hv.1
  rw [hm] at hm2
  have hn02 := hr.1
  rw [hn0] at hn02
  have HN0 := kide hn0
  have HM := kide hm
  have HSP : Hid (∀ u (a f : Option Addr), RdD u a ds → RdFl u f vs → Calls Try.prog 19 #[.slice a n0 n0, .slice f m m] u (RetM u (vbR ds vs))) := fun u a f h1 h4 => by
    have h := specVb_any a f n0 m m ds vs u h1 h4 HM.out
    rw [HN0.out] at h
    exact h
  have HIM : Hid (∀ u (a : Option Addr) (b2 : Nat), RdD u a ds → RdFl u (some ⟨b2, 0, none⟩) vs → Calls Try.prog 21 #[.slice a n0 n0, .slice (some ⟨b2, 0, none⟩) m m] u (RetM u (vbR ds vs))) := fun u a b2 h1 h4 => by
    have h := implVb_any a b2 0 n0 m ds vs u h1 h4 HM.out
    rw [HN0.out] at h
    exact h
  have HED : Hid (∀ u (a b : Option Addr), RdD u a ds → RdD u b ds → Calls Try.prog 13 #[.slice a n0 n0, .slice b n0 n0] u fun e w' => e = .returned (.bool true) ∧ Below u.heap.size u w') := fun u a b h1 h2 => by
    have h := eqDeclS_same a b n0 n0 ds u h1 h2
    rw [HN0.out] at h
    exact h
  have HEV : Hid (∀ u (a b : Option Addr), RdFl u a vs → RdFl u b vs → Calls Try.prog 12 #[.slice a m m, .slice b m m] u fun e w' => e = .returned (.bool true) ∧ Below u.heap.size u w') := fun u a b h1 h2 => by
    have h := eqBoolS_any a b m m vs vs u h1 h2
    rw [HM.out, decide_eq_true rfl] at h
    exact h
  generalize vbR ds vs = X at *
  clear hr hn0 hv hm
  have hXX : (!X.2 == X.2) = false := by cases X.2 <;> rfl
  have hXX2 : (X.2 != X.2) = false := by cases X.2 <;> rfl
  generalize hX2 : X.2 = xb at hXX hXX2
  have HX2 := kide hX2
  clear hX2
  go_enter Try.func4, Try.ntmps4
  have B0 := kide (Below.refl w.heap.size w)
  go_wp2_with fail
  refine Calls.mono (HZ1.out _ B0.out) ?_
  rintro e w1 ⟨rfl, hb⟩
  have B1 := kide (B0.out.trans (hb.mono B0.out.size))
  have z1 : w.heap.size ≤ w1.heap.size := hb.size
  clear hb B0
  go_wp2_with fail
  refine Calls.mono (HTD.out _ B1.out) ?_
  rintro e w2 ⟨rfl, r, -, hb⟩
  have B2 := kide (B1.out.trans (hb.mono B1.out.size))
  have z2 : w1.heap.size ≤ w2.heap.size := hb.size
  have RD2 := kide r
  clear r
  clear hb B1
  go_wp2_with fail
  refine Calls.mono (HTV.out _ B2.out) ?_
  rintro e w3 ⟨rfl, r, -, hb⟩
  have B3 := kide (B2.out.trans (hb.mono B2.out.size))
  have z3 : w2.heap.size ≤ w3.heap.size := hb.size
  have RD3 := kide (RD2.out.later hb)
  have RV3 := kide r
  clear r
  clear hb B2 RD2
  go_wp2_with fail
  refine Calls.mono (HSP.out w3 _ _ RD3.out RV3.out) ?_
  rintro e w4 ⟨v4, l4, rfl, bs4, el4, hb⟩
  have B4 := kide (B3.out.trans (hb.mono B3.out.size))
  have z4 : w3.heap.size ≤ w4.heap.size := hb.size
  have S4 := kide (Tb.of bs4)
  have EL4 := kide el4
  rw [HX2.out]
  clear bs4 el4
  clear hb B3 RD3 RV3
  go_wp2_with fail
  refine Calls.mono (HTD.out _ B4.out) ?_
  rintro e w5 ⟨rfl, r, ⟨fd, q⟩, hb⟩
  have B5 := kide (B4.out.trans (hb.mono B4.out.size))
  have z5 : w4.heap.size ≤ w5.heap.size := hb.size
  have S5 := kide (S4.out.later hb)
  have RD5 := kide r
  have QD5 := kide q
  have zl5 : w4.heap.size < w5.heap.size := q.lt
  clear r q
  clear hb B4 S4
  go_wp2_with fail
  refine Calls.mono (HTV.out _ B5.out) ?_
  rintro e w6 ⟨rfl, r, q, hb⟩
  have B6 := kide (B5.out.trans (hb.mono B5.out.size))
  have z6 : w5.heap.size ≤ w6.heap.size := hb.size
  have S6 := kide (S5.out.later hb)
  have RD6 := kide (RD5.out.later hb)
  have QD6 := kide (rowIs_out QD5.out (Out.of (B1 := 0) (B2 := 0) hb) (.inr (Nat.zero_le _)))
  have RV6 := kide r
  have QV6 := kide q
  clear r q
  clear hb B5 S5 RD5 QD5
  go_wp2_with fail
  refine Calls.mono (HIM.out w6 _ _ RD6.out RV6.out) ?_
  rintro e w7 ⟨v7, l7, rfl, bs7, el7, hb⟩
  have B7 := kide (B6.out.trans (hb.mono B6.out.size))
  have z7 : w6.heap.size ≤ w7.heap.size := hb.size
  have S7 := kide (S6.out.later hb)
  have RD7 := kide (RD6.out.later hb)
  have QD7 := kide (rowIs_out QD6.out (Out.of (B1 := 0) (B2 := 0) hb) (.inr (Nat.zero_le _)))
  have RV7 := kide (RV6.out.later hb)
  have QV7 := kide (QV6.out.out (Out.of (B1 := w6.heap.size) (B2 := w6.heap.size) hb) (.inl (Nat.le_refl _)))
  have G7 := kide (Tb.of bs7)
  have EL7 := kide el7
  rw [HX2.out]
  clear bs7 el7
  clear hb B6 S6 RD6 QD6 RV6 QV6
  go_wp2_with fail
  refine Calls.mono (eqBs G7.out.bs S7.out.bs (by rw [EL7.out]; exact HOK.out) (EL4.out.trans EL7.out.symm)) ?_
  rintro e w8 ⟨rfl, hb⟩
  have B8 := kide (B7.out.trans (hb.mono B7.out.size))
  have z8 : w7.heap.size ≤ w8.heap.size := hb.size
  have S8 := kide (S7.out.later hb)
  have RD8 := kide (RD7.out.later hb)
  have QD8 := kide (rowIs_out QD7.out (Out.of (B1 := 0) (B2 := 0) hb) (.inr (Nat.zero_le _)))
  have RV8 := kide (RV7.out.later hb)
  have QV8 := kide (QV7.out.out (Out.of (B1 := w6.heap.size) (B2 := w6.heap.size) hb) (.inl (Nat.le_refl _)))
  have G8 := kide (G7.out.later hb)
  clear hb B7 S7 RD7 QD7 RV7 QV7 G7
  go_wp2_with fail
  refine Calls.mono (HTD.out _ B8.out) ?_
  rintro e w9 ⟨rfl, r, -, hb⟩
  have B9 := kide (B8.out.trans (hb.mono B8.out.size))
  have z9 : w8.heap.size ≤ w9.heap.size := hb.size
  have S9 := kide (S8.out.later hb)
  have RD9 := kide (RD8.out.later hb)
  have QD9 := kide (rowIs_out QD8.out (Out.of (B1 := 0) (B2 := 0) hb) (.inr (Nat.zero_le _)))
  have RV9 := kide (RV8.out.later hb)
  have QV9 := kide (QV8.out.out (Out.of (B1 := w6.heap.size) (B2 := w6.heap.size) hb) (.inl (Nat.le_refl _)))
  have G9 := kide (G8.out.later hb)
  have P9 := kide r
  clear r
  clear hb B8 S8 RD8 QD8 RV8 QV8 G8
  go_wp2_with fail
  refine Calls.mono (HED.out _ _ _ RD9.out P9.out) ?_
  rintro e w10 ⟨rfl, hb⟩
  have B10 := kide (B9.out.trans (hb.mono B9.out.size))
  have z10 : w9.heap.size ≤ w10.heap.size := hb.size
  have S10 := kide (S9.out.later hb)
  have QD10 := kide (rowIs_out QD9.out (Out.of (B1 := 0) (B2 := 0) hb) (.inr (Nat.zero_le _)))
  have RV10 := kide (RV9.out.later hb)
  have QV10 := kide (QV9.out.out (Out.of (B1 := w6.heap.size) (B2 := w6.heap.size) hb) (.inl (Nat.le_refl _)))
  have G10 := kide (G9.out.later hb)
  clear hb B9 S9 QD9 RV9 QV9 G9 RD9 P9
  go_wp2_with fail
  refine Calls.mono (HTV.out _ B10.out) ?_
  rintro e w11 ⟨rfl, r, -, hb⟩
  have B11 := kide (B10.out.trans (hb.mono B10.out.size))
  have z11 : w10.heap.size ≤ w11.heap.size := hb.size
  have S11 := kide (S10.out.later hb)
  have QD11 := kide (rowIs_out QD10.out (Out.of (B1 := 0) (B2 := 0) hb) (.inr (Nat.zero_le _)))
  have RV11 := kide (RV10.out.later hb)
  have QV11 := kide (QV10.out.out (Out.of (B1 := w6.heap.size) (B2 := w6.heap.size) hb) (.inl (Nat.le_refl _)))
  have G11 := kide (G10.out.later hb)
  have P11 := kide r
  clear r
  clear hb B10 S10 QD10 RV10 QV10 G10
  go_wp2_with fail
  refine Calls.mono (HEV.out _ _ _ RV11.out P11.out) ?_
  rintro e w12 ⟨rfl, hb⟩
  have B12 := kide (B11.out.trans (hb.mono B11.out.size))
  have z12 : w11.heap.size ≤ w12.heap.size := hb.size
  have S12 := kide (S11.out.later hb)
  have QD12 := kide (rowIs_out QD11.out (Out.of (B1 := 0) (B2 := 0) hb) (.inr (Nat.zero_le _)))
  have QV12 := kide (QV11.out.out (Out.of (B1 := w6.heap.size) (B2 := w6.heap.size) hb) (.inl (Nat.le_refl _)))
  have G12 := kide (G11.out.later hb)
  clear hb B11 S11 QD11 QV11 G11 RV11 P11
  go_wp2_with fail
  refine Calls.mono (markDeclS_one w4.heap.size n0 n0 fd w12 QD12.out hn02) ?_
  rintro e w13 ⟨rfl, ho⟩
  have B13 := kide (Out.bel B12.out ho (by omega))
  have z13 : w12.heap.size ≤ w13.heap.size := ho.2.2.2.1
  have S13 := kide (S12.out.keep ho (by omega))
  have QV13 := kide (QV12.out.out ho (by omega))
  have G13 := kide (G12.out.keep ho (by omega))
  obtain ⟨K1, hK1, hK1b⟩ : ∃ K1 : Nat, ((1 + n0 * 2 : Nat) : Int) = (K1 : Int) ∧ K1 ≤ 100000000 := ⟨_, rfl, by omega⟩
  rw [hK1]
  clear hK1
  clear ho B12 S12 QV12 G12 QD12
  go_wp2_with fail
  refine Calls.mono (markBoolS_tf w5.heap.size w6.heap.size m m K1 _ w13 QV13.out hm2 (by omega)) ?_
  rintro e w14 ⟨rfl, ho⟩
  have B14 := kide (Out.bel B13.out ho (by omega))
  have z14 : w13.heap.size ≤ w14.heap.size := ho.2.2.2.1
  have S14 := kide (S13.out.keep ho (by omega))
  have G14 := kide (G13.out.keep ho (by omega))
  obtain ⟨K4, hK4⟩ : ∃ K4 : Nat, K1 + m = K4 := ⟨_, rfl⟩
  rw [hK4]
  have hK4b : ¬ (K4 : Int) < 0 := by omega
  clear hK4
  clear ho B13 S13 G13 QV13
  go_wp2_with fail
  refine Calls.mono (eqBs G14.out.bs S14.out.bs (by rw [EL7.out]; exact HOK.out) (EL4.out.trans EL7.out.symm)) ?_
  rintro e w15 ⟨rfl, hb⟩
  have B15 := kide (B14.out.trans (hb.mono B14.out.size))
  have z15 : w14.heap.size ≤ w15.heap.size := hb.size
  have S15 := kide (S14.out.later hb)
  have G15 := kide (G14.out.later hb)
  clear hb B14 S14 G14
  obtain ⟨ga, gc, rfl⟩ := G15.out.bs.form
  have hgl : l7.length ≤ 1048576 := by have := HOK.out.1; rw [← EL7.out] at this; simpa using this
  have HGW : Hid (∀ x ∈ l7, x.ws.length ≤ 1048576) := fun x hx => (HOK.out.2 x.ct (by rw [← EL7.out]; exact List.mem_map_of_mem hx)).2.1
  have HLE := kide (mkAt_le (k := 1) HGW.out l7.length)
  go_wp2_with fail
  refine Calls.mono (markV_any w6.heap.size w15.heap.size l7.length gc ga l7 w15 G15.out.bs HGW.out rfl hgl (Nat.le_refl _)) ?_
  rintro e w16 ⟨rfl, hh, ho⟩
  have B16 := kide (Out.bel B15.out ho (by omega))
  have z16 : w15.heap.size ≤ w16.heap.size := ho.2.2.2.1
  have S16 := kide (S15.out.keep ho (by omega))
  have HH16 := kide hh
  obtain ⟨V, hV⟩ : ∃ V, mkAt l7 1 l7.length = V := ⟨_, rfl⟩
  have HVV := kide (fun u (hu : HeldV u (.slice ga l7.length gc) l7 1) => heldV_any l7.length gc ga l7 u hu HGW.out rfl hgl)
  rw [hV] at HVV
  rw [hV]
  have hv0 : ¬ (V : Int) < 0 := by omega
  have hvv : ((V : Int) != (V : Int)) = false := by simp
  clear hh hV
  clear ho B15 S15 G15
  go_wp2_with fail
  refine Calls.mono (HVV.out w16 HH16.out) ?_
  rintro e wq ⟨rfl, hwq⟩
  obtain rfl := hwq.symm
  clear hwq
  go_wp2_with fail
  refine Calls.mono (HTD.out _ B16.out) ?_
  rintro e w17 ⟨rfl, r, -, hb⟩
  have B17 := kide (B16.out.trans (hb.mono B16.out.size))
  have z17 : w16.heap.size ≤ w17.heap.size := hb.size
  have S17 := kide (S16.out.later hb)
  have HH17 := kide (HH16.out.later hb)
  have RD17 := kide r
  clear r
  clear hb B16 S16 HH16
  go_wp2_with fail
  refine Calls.mono (HTV.out _ B17.out) ?_
  rintro e w18 ⟨rfl, r, -, hb⟩
  have B18 := kide (B17.out.trans (hb.mono B17.out.size))
  have z18 : w17.heap.size ≤ w18.heap.size := hb.size
  have S18 := kide (S17.out.later hb)
  have HH18 := kide (HH17.out.later hb)
  have RD18 := kide (RD17.out.later hb)
  have RV18 := kide r
  clear r
  clear hb B17 S17 HH17 RD17
  go_wp2_with fail
  refine Calls.mono (HIM.out w18 _ _ RD18.out RV18.out) ?_
  rintro e w19 ⟨v19, l19, rfl, bs19, el19, hb⟩
  have B19 := kide (B18.out.trans (hb.mono B18.out.size))
  have z19 : w18.heap.size ≤ w19.heap.size := hb.size
  have S19 := kide (S18.out.later hb)
  have HH19 := kide (HH18.out.later hb)
  have H19 := kide (Tb.of bs19)
  have EL19 := kide el19
  rw [HX2.out]
  clear bs19 el19
  clear hb B18 S18 HH18 RD18 RV18
  go_wp2_with fail
  refine Calls.mono (eqBs H19.out.bs S19.out.bs (by rw [EL19.out]; exact HOK.out) (EL4.out.trans EL19.out.symm)) ?_
  rintro e w20 ⟨rfl, hb⟩
  have B20 := kide (B19.out.trans (hb.mono B19.out.size))
  have z20 : w19.heap.size ≤ w20.heap.size := hb.size
  have HH20 := kide (HH19.out.later hb)
  clear hb B19 HH19 H19 S19
  go_wp2_with fail
  refine Calls.mono (HVV.out w20 HH20.out) ?_
  rintro e wq ⟨rfl, hwq⟩
  obtain rfl := hwq.symm
  clear hwq
  go_wp2_with fail
  go_ret
  exact ⟨rfl, B20.out⟩

theorem walk_FnExactValuesBy (a : Option Addr) (n0 c : Nat) (hn0 : n0 ≤ 9223372036854775807) (f : Option Addr) (m c4 : Nat) (hm : m ≤ 9223372036854775807) (w : World)
    (hx : n0 ≤ 1048576 → ∃ ds : List Dc, ds.length = n0 ∧ RdD w a ds) (hv : m ≤ 1048576 → ∃ ks : List Bool, ks.length = m ∧ RdFl w f ks) :
    Calls Try.prog 4 #[.slice a n0 c, .slice f m c4] w fun e w' => e = .returned (.bool true) ∧ Below w.heap.size w w' := by
  by_cases h1 : m ≤ 1048576
  · obtain ⟨Z, HZ1, hZb, hneg | ⟨hZ, ds, hdl, hr⟩⟩ := size_ds a n0 c w hn0 hx
    · clear hx hv
      go_enter Try.func4, Try.ntmps4
      go_wp2_with fail
      refine Calls.mono (HZ1.out _ (Below.refl _ _)) ?_
      rintro e w1 ⟨rfl, hb1⟩
      go_wp2_with fail
      go_ret
      exact ⟨rfl, hb1⟩
    · obtain ⟨vs, hvl, hvv⟩ := hv h1
      exact law_yes_FnExactValuesBy a f c m c4 n0 ds vs w hr hdl hvv hvl Z hZ HZ1
  · clear hx hv
    go_enter Try.func4, Try.ntmps4
    go_wp2_with fail
    go_ret
    exact ⟨rfl, Below.refl _ _⟩

end Go.Proofs.Ytkffjdicmendkaa
