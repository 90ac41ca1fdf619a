/- The law FnExactFlatJoin returns true, whatever it is handed. -/
import Derived.Test.YtfanddpncipkkaaFPN
import Derived.Test.YtfanddpncipkkaaFPR
namespace Go.Proofs.Ytfanddpncipkkaa
set_option linter.unusedVariables false
set_option linter.unusedSimpArgs false
open Go.RowKit

theorem fjn_ok {ds : List Dc} {fh fl : List Sc} (hk : ∀ s ∈ fh, okF s) (lk : ∀ s ∈ fl, okF s) : (∀ s ∈ (fjnR ds fh fl).1, okF s) ∧ (fjnR ds fh fl).1.length ≤ 2000 := by
  unfold fjnR
  split
  · rename_i h
    have hF2 := h.1
    have hG2 := h.2.1
    rw [flatR_form] at hF2 hG2
    simp only [Bool.and_eq_true] at hF2 hG2
    obtain ⟨hall, -⟩ := formR_sum hF2.1 hF2.2
    obtain ⟨gall, -⟩ := formR_sum hG2.1 hG2.2
    have hfl := formP_len fh (fun s hs => by have := (hall s hs).2.1; omega)
    have gfl := formP_len fl (fun s hs => by have := (gall s hs).2.1; omega)
    refine ⟨formB_ok _ _ (Nat.le_refl _) (by rw [List.length_append]; have := h.2.2.1; omega) (fun p hp => ?_), h.2.2.2⟩
    rcases List.mem_append.1 hp with hp | hp
    · exact formP_64 hG2.1 (fun s hs => (gall s hs).1) (fun s hs => (lk s hs).1) p hp
    · exact formP_64 hF2.1 (fun s hs => (hall s hs).1) (fun s hs => (hk s hs).1) p hp
  · simp

set_option maxHeartbeats 8000000 in
set_option maxRecDepth 100000 in
theorem law_yes_FnExactFlatJoin (a f g : Option Addr) (c m c3 n c4 : Nat) (n0 : Nat) (ds : List Dc) (ss tt : List Sg) (w : World) (hr : RdD w a ds) (hn0 : ds.length = n0) (ht : RdS w f ss) (hm : ss.length = m) (ht2 : RdS w g tt) (hm2 : tt.length = n) (Z Z3 Z4 : Int) (hZ : 0 ≤ Z) (hZ3 : 0 ≤ Z3) (hZ4 : 0 ≤ Z4)
    (HZ1 : Hid (∀ u, Below w.heap.size w u → Calls Try.prog 6 #[.slice a n0 c, .int .i64 1048576] u fun e w' => e = .returned (.int .i64 Z) ∧ Below u.heap.size u w'))
    (HZ3 : Hid (∀ u, Below w.heap.size w u → Calls Try.prog 7 #[.slice f m c3, .int .i64 Z] u fun e w' => e = .returned (.int .i64 Z3) ∧ Below u.heap.size u w'))
    (HZ4 : Hid (∀ u, Below w.heap.size w u → Calls Try.prog 7 #[.slice g n c4, .int .i64 Z3] u fun e w' => e = .returned (.int .i64 Z4) ∧ Below u.heap.size u w')) :
    Calls Try.prog 4 #[.slice a n0 c, .slice f m c3, .slice g n c4] w fun e w' => e = .returned (.bool true) ∧ Below w.heap.size w w' := by
  have HTD : Hid (∀ u, Below w.heap.size w u → Calls Try.prog 9 #[.slice a n0 c] u fun e w' => e = .returned (.slice (some ⟨u.heap.size, 0, none⟩) n0 n0) ∧ RdD w' (some ⟨u.heap.size, 0, none⟩) ds ∧ (∃ f, w'.rowIs u.heap.size 59 (n0 * 2) f) ∧ Below u.heap.size u w') := fun u hu => by
    subst hn0
    exact toDeclS_row a c ds u (hr.later hu)
  have HTB := kide (fun u (hu : Below w.heap.size w u) => toSegS_tp f c3 m ss u (ht.later hu) hm)
  have HTC := kide (fun u (hu : Below w.heap.size w u) => toSegS_tp g c4 n tt u (ht2.later hu) hm2)
  obtain ⟨hXo, hXl⟩ := fjn_ok (ds := ds) (fh := ss.map Sg.ct) (fl := tt.map Sg.ct) ht.okF ht2.okF
  have HXO := kide hXo
  have hn02 := hr.1
  rw [hn0] at hn02
  have hmm := ht.1
  rw [hm] at hmm
  have HN0 := kide hn0
  have hmm2 := ht2.1
  rw [hm2] at hmm2
  have HM := kide hm
  have HM2 := kide hm2
  have LES : Hid (∀ {ms zs : List Sg} {k : Nat}, ms.map Sg.ct = zs.map Sg.ct → zs.length = k → ms.length = k) := fun {ms zs k} h h2 => by
    have := congrArg List.length h
    simp at this
    omega
  obtain ⟨X, hX⟩ : ∃ X, (fjnR ds (ss.map Sg.ct) (tt.map Sg.ct)).1 = X := ⟨_, rfl⟩
  obtain ⟨xb, hQ⟩ : ∃ Q, (fjnR ds (ss.map Sg.ct) (tt.map Sg.ct)).2 = Q := ⟨_, rfl⟩
  obtain ⟨nX, hnX⟩ : ∃ k, X.length = k := ⟨_, rfl⟩
  have HS2 : Hid (∀ (u : World) (a f g : Option Addr) (ss' tt' : List Sg), RdD u a ds → RdS u f ss' → RdS u g tt' → ss'.map Sg.ct = ss.map Sg.ct → tt'.map Sg.ct = tt.map Sg.ct → ((∀ x ∈ ss', x.a = none → x.c = 0) ∧ ∀ x ∈ ss', ∀ q, x.a = some q → q.block < u.heap.size) → ((∀ x ∈ tt', x.a = none → x.c = 0) ∧ ∀ x ∈ tt', ∀ q, x.a = some q → q.block < u.heap.size) → Calls Try.prog 17 #[.slice a n0 n0, .slice f m m, .slice g n n] u fun e w' => ∃ (v : Option Addr) (k : Nat) (l : List Sg), e = .returned (.tuple #[.slice v nX k, .bool xb]) ∧ Sf u.heap.size w'.heap.size (.slice v nX k) l w' ∧ l.map Sg.ct = X ∧ Below u.heap.size u w') := fun u a f g ss' tt' h1 h3 h4 e3 e4 s3 s4 => by
    have h := specJoin_any a f g n0 m m n n ds ss' tt' u h1 h3 (LES.out e3 HM.out) h4 (LES.out e4 HM2.out)
    rw [HN0.out, e3, e4] at h
    refine h.mono ?_
    rintro e w' ⟨v, l, rfl, hl, hs, hb⟩
    obtain ⟨va, vc, rfl⟩ := hs.1.form
    rw [hX] at hl
    rw [lenF_map hl hnX] at hs ⊢
    exact ⟨va, vc, l, by rw [hQ], Sf.of hs, hl, hb⟩
  have HI2 : Hid (∀ (u : World) (a f g : Option Addr) (ss' tt' : List Sg), RdD u a ds → RdS u f ss' → RdS u g tt' → ss'.map Sg.ct = ss.map Sg.ct → tt'.map Sg.ct = tt.map Sg.ct → ((∀ x ∈ ss', x.a = none → x.c = 0) ∧ ∀ x ∈ ss', ∀ q, x.a = some q → q.block < u.heap.size) → ((∀ x ∈ tt', x.a = none → x.c = 0) ∧ ∀ x ∈ tt', ∀ q, x.a = some q → q.block < u.heap.size) → Calls Try.prog 18 #[.slice a n0 n0, .slice f m m, .slice g n n] u fun e w' => ∃ (v : Option Addr) (k : Nat) (l : List Sg), e = .returned (.tuple #[.slice v nX k, .bool xb]) ∧ Sf u.heap.size w'.heap.size (.slice v nX k) l w' ∧ l.map Sg.ct = X ∧ Dj l ∧ Below u.heap.size u w') := fun u a f g ss' tt' h1 h3 h4 e3 e4 s3 s4 => by
    have h := implJoin_any a f g n0 m m n n ds ss' tt' u h1 h3 (LES.out e3 HM.out) h4 (LES.out e4 HM2.out) s3.1 s3.2 s4.1 s4.2
    rw [HN0.out, e3, e4] at h
    refine h.mono ?_
    rintro e w' ⟨v, l, rfl, hl, hs, hd, hb⟩
    obtain ⟨va, vc, rfl⟩ := hs.1.form
    rw [hX] at hl
    rw [lenF_map hl hnX] at hs ⊢
    exact ⟨va, vc, l, by rw [hQ], Sf.of hs, hl, hd, hb⟩
  rw [hX] at HXO hXl
  rw [hnX] at hXl
  have HNX := kide hnX
  have hX9 : nX ≤ 1048576 := by omega
  have HX9 := kide hX9
  have HED : Hid (∀ u (a b : Option Addr), RdD u a ds → RdD u b ds → Calls Try.prog 13 #[.slice a n0 n0, .slice b n0 n0] u fun e w' => e = .returned (.bool true) ∧ Below u.heap.size u w') := fun u a b h1 h2 => by
    have h := eqDeclS_same a b n0 n0 ds u h1 h2
    rw [HN0.out] at h
    exact h
  have hXX : (!xb == xb) = false := by cases xb <;> rfl
  have hXX2 : (xb != xb) = false := by cases xb <;> rfl
  clear hr hn0 ht hm ht2 hm2 hXo hX hnX hQ hXl hX9
  go_enter Try.func4, Try.ntmps4
  have B0 := kide (Below.refl w.heap.size w)
  go_wp2_with fail
  refine Calls.mono (HZ1.out _ B0.out) ?_
  rintro e w1 ⟨rfl, hb⟩
  have B1 := kide (B0.out.trans (hb.mono B0.out.size))
  have z1 : w.heap.size ≤ w1.heap.size := hb.size
  clear hb B0
  go_wp2_with fail
  refine Calls.mono (HZ3.out _ B1.out) ?_
  rintro e w2 ⟨rfl, hb⟩
  have B2 := kide (B1.out.trans (hb.mono B1.out.size))
  have z2 : w1.heap.size ≤ w2.heap.size := hb.size
  clear hb B1
  go_wp2_with fail
  refine Calls.mono (HZ4.out _ B2.out) ?_
  rintro e w3 ⟨rfl, hb⟩
  have B3 := kide (B2.out.trans (hb.mono B2.out.size))
  have z3 : w2.heap.size ≤ w3.heap.size := hb.size
  clear hb B2
  go_wp2_with fail
  refine Calls.mono (HTD.out _ B3.out) ?_
  rintro e w4 ⟨rfl, r, -, hb⟩
  have B4 := kide (B3.out.trans (hb.mono B3.out.size))
  have z4 : w3.heap.size ≤ w4.heap.size := hb.size
  have RD4 := kide r
  clear r
  clear hb B3
  go_wp2_with fail
  refine Calls.mono (HTB.out _ B4.out) ?_
  rintro e w5 ⟨m5, rfl, e9, r, s9, -, hb⟩
  have B5 := kide (B4.out.trans (hb.mono B4.out.size))
  have z5 : w4.heap.size ≤ w5.heap.size := hb.size
  have RD5 := kide (RD4.out.later hb)
  have RS5 := kide r
  have E5 := kide e9
  have SN5 := kide s9
  clear r e9 s9
  clear hb B4 RD4
  go_wp2_with fail
  refine Calls.mono (HTC.out _ B5.out) ?_
  rintro e w6 ⟨m6, rfl, e9, r, s9, -, hb⟩
  have B6 := kide (B5.out.trans (hb.mono B5.out.size))
  have z6 : w5.heap.size ≤ w6.heap.size := hb.size
  have RD6 := kide (RD5.out.later hb)
  have RS6 := kide (RS5.out.later hb)
  have RT6 := kide r
  have E6 := kide e9
  have SN6 := kide s9
  clear r e9 s9
  clear hb B5 RD5 RS5
  go_wp2_with fail
  refine Calls.mono (HS2.out w6 _ _ _ m5 m6 RD6.out RS6.out RT6.out E5.out E6.out ⟨SN5.out.1, fun x hx q hq => Nat.lt_of_lt_of_le (SN5.out.2 x hx q hq) z6⟩ SN6.out) ?_
  rintro e w7 ⟨aw, cw, lsw, rfl, hf, el, hb⟩
  have B7 := kide (B6.out.trans (hb.mono B6.out.size))
  have z7 : w6.heap.size ≤ w7.heap.size := hb.size
  have S7 := kide hf
  have ELW := kide el
  clear hf el
  clear hb B6 RD6 RS6 RT6
  go_wp2_with fail
  refine Calls.mono (HTD.out _ B7.out) ?_
  rintro e w8 ⟨rfl, r, ⟨fd, q⟩, hb⟩
  have B8 := kide (B7.out.trans (hb.mono B7.out.size))
  have z8 : w7.heap.size ≤ w8.heap.size := hb.size
  have S8 := kide (S7.out.later hb)
  have RD8 := kide r
  have QD8 := kide q
  have zl8 : w7.heap.size < w8.heap.size := rowIs_lt q
  clear r q
  clear hb B7 S7
  go_wp2_with fail
  refine Calls.mono (HTB.out _ B8.out) ?_
  rintro e w9 ⟨m9, rfl, e9, r, s9, q, hb⟩
  have B9 := kide (B8.out.trans (hb.mono B8.out.size))
  have z9 : w8.heap.size ≤ w9.heap.size := hb.size
  have S9 := kide (S8.out.later hb)
  have RD9 := kide (RD8.out.later hb)
  have QD9 := kide (rowIs_out QD8.out (Out.of (B1 := 0) (B2 := 0) hb) (.inr (Nat.zero_le _)))
  have RS9 := kide r
  have QS9 := kide q
  have E9 := kide e9
  have SN9 := kide s9
  clear r e9 s9 q
  clear hb B8 S8 RD8 QD8
  go_wp2_with fail
  refine Calls.mono (HTC.out _ B9.out) ?_
  rintro e w10 ⟨m10, rfl, e9, r, s9, q, hb⟩
  have B10 := kide (B9.out.trans (hb.mono B9.out.size))
  have z10 : w9.heap.size ≤ w10.heap.size := hb.size
  have S10 := kide (S9.out.later hb)
  have RD10 := kide (RD9.out.later hb)
  have QD10 := kide (rowIs_out QD9.out (Out.of (B1 := 0) (B2 := 0) hb) (.inr (Nat.zero_le _)))
  have RS10 := kide (RS9.out.later hb)
  have QS10 := kide (QS9.out.shp (Shp.of hb))
  have RT10 := kide r
  have QT10 := kide q
  have E10 := kide e9
  have SN10 := kide s9
  clear r e9 s9 q
  clear hb B9 S9 RD9 QD9 RS9 QS9
  go_wp2_with fail
  refine Calls.mono (HI2.out w10 _ _ _ m9 m10 RD10.out RS10.out RT10.out E9.out E10.out ⟨SN9.out.1, fun x hx q hq => Nat.lt_of_lt_of_le (SN9.out.2 x hx q hq) z10⟩ SN10.out) ?_
  rintro e w11 ⟨ag, cg, lsg, rfl, hf, el, dj, hb⟩
  have B11 := kide (B10.out.trans (hb.mono B10.out.size))
  have z11 : w10.heap.size ≤ w11.heap.size := hb.size
  have S11 := kide (S10.out.later hb)
  have RD11 := kide (RD10.out.later hb)
  have QD11 := kide (rowIs_out QD10.out (Out.of (B1 := 0) (B2 := 0) hb) (.inr (Nat.zero_le _)))
  have RS11 := kide (RS10.out.later hb)
  have QS11 := kide (QS10.out.shp (Shp.of hb))
  have RT11 := kide (RT10.out.later hb)
  have QT11 := kide (QT10.out.shp (Shp.of hb))
  have G11 := kide hf
  have ELG := kide el
  have DJG := kide dj
  clear hf el dj
  clear hb B10 S10 RD10 QD10 RS10 QS10 RT10 QT10
  go_wp2_with fail
  refine Calls.mono (eqSegS_sf G11.out S11.out ELG.out ELW.out HXO.out HNX.out HX9.out) ?_
  rintro e w12 ⟨rfl, hb⟩
  have B12 := kide (B11.out.trans (hb.mono B11.out.size))
  have z12 : w11.heap.size ≤ w12.heap.size := hb.size
  have S12 := kide (S11.out.later hb)
  have RD12 := kide (RD11.out.later hb)
  have QD12 := kide (rowIs_out QD11.out (Out.of (B1 := 0) (B2 := 0) hb) (.inr (Nat.zero_le _)))
  have RS12 := kide (RS11.out.later hb)
  have QS12 := kide (QS11.out.shp (Shp.of hb))
  have RT12 := kide (RT11.out.later hb)
  have QT12 := kide (QT11.out.shp (Shp.of hb))
  have G12 := kide (G11.out.later hb)
  clear hb B11 S11 RD11 QD11 RS11 QS11 RT11 QT11 G11
  go_wp2_with fail
  refine Calls.mono (HTD.out _ B12.out) ?_
  rintro e w13 ⟨rfl, r, -, hb⟩
  have B13 := kide (B12.out.trans (hb.mono B12.out.size))
  have z13 : w12.heap.size ≤ w13.heap.size := hb.size
  have S13 := kide (S12.out.later hb)
  have RD13 := kide (RD12.out.later hb)
  have QD13 := kide (rowIs_out QD12.out (Out.of (B1 := 0) (B2 := 0) hb) (.inr (Nat.zero_le _)))
  have RS13 := kide (RS12.out.later hb)
  have QS13 := kide (QS12.out.shp (Shp.of hb))
  have RT13 := kide (RT12.out.later hb)
  have QT13 := kide (QT12.out.shp (Shp.of hb))
  have G13 := kide (G12.out.later hb)
  have P13 := kide r
  clear r
  clear hb B12 S12 RD12 QD12 RS12 QS12 RT12 QT12 G12
  go_wp2_with fail
  refine Calls.mono (HED.out _ _ _ RD13.out P13.out) ?_
  rintro e w14 ⟨rfl, hb⟩
  have B14 := kide (B13.out.trans (hb.mono B13.out.size))
  have z14 : w13.heap.size ≤ w14.heap.size := hb.size
  have S14 := kide (S13.out.later hb)
  have QD14 := kide (rowIs_out QD13.out (Out.of (B1 := 0) (B2 := 0) hb) (.inr (Nat.zero_le _)))
  have RS14 := kide (RS13.out.later hb)
  have QS14 := kide (QS13.out.shp (Shp.of hb))
  have RT14 := kide (RT13.out.later hb)
  have QT14 := kide (QT13.out.shp (Shp.of hb))
  have G14 := kide (G13.out.later hb)
  clear hb B13 S13 QD13 RS13 QS13 RT13 QT13 G13 RD13 P13
  go_wp2_with fail
  refine Calls.mono (HTB.out _ B14.out) ?_
  rintro e w15 ⟨m15, rfl, e9, r, -, -, hb⟩
  have B15 := kide (B14.out.trans (hb.mono B14.out.size))
  have z15 : w14.heap.size ≤ w15.heap.size := hb.size
  have S15 := kide (S14.out.later hb)
  have QD15 := kide (rowIs_out QD14.out (Out.of (B1 := 0) (B2 := 0) hb) (.inr (Nat.zero_le _)))
  have RS15 := kide (RS14.out.later hb)
  have QS15 := kide (QS14.out.shp (Shp.of hb))
  have RT15 := kide (RT14.out.later hb)
  have QT15 := kide (QT14.out.shp (Shp.of hb))
  have G15 := kide (G14.out.later hb)
  have P15 := kide r
  have E15 := kide e9
  clear r e9
  clear hb B14 S14 QD14 RS14 QS14 RT14 QT14 G14
  go_wp2_with fail
  refine Calls.mono (eqSegS_same _ _ m m m9 m15 w15 RS15.out P15.out (E9.out.trans E15.out.symm) m (LES.out E9.out HM.out) (LES.out E15.out HM.out)) ?_
  rintro e w16 ⟨rfl, hb⟩
  have B16 := kide (B15.out.trans (hb.mono B15.out.size))
  have z16 : w15.heap.size ≤ w16.heap.size := hb.size
  have S16 := kide (S15.out.later hb)
  have QD16 := kide (rowIs_out QD15.out (Out.of (B1 := 0) (B2 := 0) hb) (.inr (Nat.zero_le _)))
  have QS16 := kide (QS15.out.shp (Shp.of hb))
  have RT16 := kide (RT15.out.later hb)
  have QT16 := kide (QT15.out.shp (Shp.of hb))
  have G16 := kide (G15.out.later hb)
  clear E15
  clear hb B15 S15 QD15 QS15 RT15 QT15 G15 RS15 P15
  go_wp2_with fail
  refine Calls.mono (HTC.out _ B16.out) ?_
  rintro e w17 ⟨m17, rfl, e9, r, -, -, hb⟩
  have B17 := kide (B16.out.trans (hb.mono B16.out.size))
  have z17 : w16.heap.size ≤ w17.heap.size := hb.size
  have S17 := kide (S16.out.later hb)
  have QD17 := kide (rowIs_out QD16.out (Out.of (B1 := 0) (B2 := 0) hb) (.inr (Nat.zero_le _)))
  have QS17 := kide (QS16.out.shp (Shp.of hb))
  have RT17 := kide (RT16.out.later hb)
  have QT17 := kide (QT16.out.shp (Shp.of hb))
  have G17 := kide (G16.out.later hb)
  have P17 := kide r
  have E17 := kide e9
  clear r e9
  clear hb B16 S16 QD16 QS16 RT16 QT16 G16
  go_wp2_with fail
  refine Calls.mono (eqSegS_same _ _ n n m10 m17 w17 RT17.out P17.out (E10.out.trans E17.out.symm) n (LES.out E10.out HM2.out) (LES.out E17.out HM2.out)) ?_
  rintro e w18 ⟨rfl, hb⟩
  have B18 := kide (B17.out.trans (hb.mono B17.out.size))
  have z18 : w17.heap.size ≤ w18.heap.size := hb.size
  have S18 := kide (S17.out.later hb)
  have QD18 := kide (rowIs_out QD17.out (Out.of (B1 := 0) (B2 := 0) hb) (.inr (Nat.zero_le _)))
  have QS18 := kide (QS17.out.shp (Shp.of hb))
  have QT18 := kide (QT17.out.shp (Shp.of hb))
  have G18 := kide (G17.out.later hb)
  clear E17
  clear hb B17 S17 QD17 QS17 QT17 G17 RT17 P17
  go_wp2_with fail
  refine Calls.mono (markDeclS_one w7.heap.size n0 n0 fd w18 QD18.out hn02) ?_
  rintro e w19 ⟨rfl, ho⟩
  have B19 := kide (Out.bel B18.out ho (by omega))
  have z19 : w18.heap.size ≤ w19.heap.size := ho.2.2.2.1
  have S19 := kide (S18.out.out ho (by omega))
  have QS19 := kide (QS18.out.out ho (by omega))
  have QT19 := kide (QT18.out.out ho (by omega))
  have G19 := kide (G18.out.out ho (by omega))
  obtain ⟨K1, hK1, hK1b⟩ : ∃ K1 : Nat, ((1 + n0 * 2 : Nat) : Int) = (K1 : Int) ∧ K1 ≤ 100000000 := ⟨_, rfl, by omega⟩
  rw [hK1]
  clear hK1
  clear ho B18 S18 QS18 QT18 G18 QD18
  go_wp2_with fail
  refine Calls.mono (markSegS_ty w8.heap.size w9.heap.size m m K1 _ w19 QS19.out (by omega)) ?_
  rintro e w20 ⟨K2, rfl, hK2, -, ho⟩
  have B20 := kide (Out.bel B19.out ho (by omega))
  have z20 : w19.heap.size ≤ w20.heap.size := ho.2.2.2.1
  have S20 := kide (S19.out.out ho (by omega))
  have QT20 := kide (QT19.out.out ho (by omega))
  have G20 := kide (G19.out.out ho (by omega))
  clear ho B19 S19 QT19 G19 QS19
  go_wp2_with fail
  refine Calls.mono (markSegS_ty w9.heap.size w10.heap.size n n K2 _ w20 QT20.out (by omega)) ?_
  rintro e w21 ⟨K3, rfl, hK3, -, ho⟩
  have B21 := kide (Out.bel B20.out ho (by omega))
  have z21 : w20.heap.size ≤ w21.heap.size := ho.2.2.2.1
  have S21 := kide (S20.out.out ho (by omega))
  have G21 := kide (G20.out.out ho (by omega))
  have hK3b : ¬ (K3 : Int) < 0 := by omega
  clear hK3
  clear ho B20 S20 G20 QT20
  go_wp2_with fail
  refine Calls.mono (eqSegS_sf G21.out S21.out ELG.out ELW.out HXO.out HNX.out HX9.out) ?_
  rintro e w22 ⟨rfl, hb⟩
  have B22 := kide (B21.out.trans (hb.mono B21.out.size))
  have z22 : w21.heap.size ≤ w22.heap.size := hb.size
  have S22 := kide (S21.out.later hb)
  have G22 := kide (G21.out.later hb)
  clear hb B21 S21 G21
  have HSH := kide (okF_map ELG.out HXO.out)
  have hlg := lenF_map ELG.out HNX.out
  have HLG := kide hlg
  clear hlg
  go_wp2_with fail
  refine Calls.mono (markSegS_sf w10.heap.size w11.heap.size nX cg ag lsg w22 G22.out DJG.out HSH.out HLG.out HX9.out) ?_
  rintro e w23 ⟨rfl, hh, ho⟩
  have B23 := kide (Out.bel B22.out ho (by omega))
  have z23 : w22.heap.size ≤ w23.heap.size := ho.2.2.2.1
  have S23 := kide (S22.out.out ho (by omega))
  have HH23 := kide hh
  clear hh
  clear ho B22 S22 G22
  have HHL := kide (fun u (hu : HeldV u (.slice ag nX cg) lsg 1) => heldV_any nX cg ag lsg u hu (fun x hx => (HSH.out x hx).2.2.2.2.1) HLG.out HX9.out)
  obtain ⟨VV, hVV⟩ : ∃ VV, mkAt lsg 1 lsg.length = VV := ⟨_, rfl⟩
  rw [hVV] at HHL
  rw [hVV]
  have hv0 : ¬ (VV : Int) < 0 := by omega
  have hvv : ((VV : Int) != (VV : Int)) = false := by simp
  clear hVV
  go_wp2_with fail
  refine Calls.mono (HHL.out w23 HH23.out) ?_
  rintro e w23b ⟨rfl, hw23⟩
  obtain rfl := hw23.symm
  go_wp2_with fail
  refine Calls.mono (HTD.out _ B23.out) ?_
  rintro e w24 ⟨rfl, r, -, hb⟩
  have B24 := kide (B23.out.trans (hb.mono B23.out.size))
  have z24 : w23.heap.size ≤ w24.heap.size := hb.size
  have S24 := kide (S23.out.later hb)
  have HH24 := kide (HH23.out.later hb)
  have RD24 := kide r
  clear r
  clear hb B23 S23 HH23
  go_wp2_with fail
  refine Calls.mono (HTB.out _ B24.out) ?_
  rintro e w25 ⟨m25, rfl, e9, r, s9, -, hb⟩
  have B25 := kide (B24.out.trans (hb.mono B24.out.size))
  have z25 : w24.heap.size ≤ w25.heap.size := hb.size
  have S25 := kide (S24.out.later hb)
  have HH25 := kide (HH24.out.later hb)
  have RD25 := kide (RD24.out.later hb)
  have RS25 := kide r
  have E25 := kide e9
  have SN25 := kide s9
  clear r e9 s9
  clear hb B24 S24 HH24 RD24
  go_wp2_with fail
  refine Calls.mono (HTC.out _ B25.out) ?_
  rintro e w26 ⟨m26, rfl, e9, r, s9, -, hb⟩
  have B26 := kide (B25.out.trans (hb.mono B25.out.size))
  have z26 : w25.heap.size ≤ w26.heap.size := hb.size
  have S26 := kide (S25.out.later hb)
  have HH26 := kide (HH25.out.later hb)
  have RD26 := kide (RD25.out.later hb)
  have RS26 := kide (RS25.out.later hb)
  have RT26 := kide r
  have E26 := kide e9
  have SN26 := kide s9
  clear r e9 s9
  clear hb B25 S25 HH25 RD25 RS25
  go_wp2_with fail
  refine Calls.mono (HI2.out w26 _ _ _ m25 m26 RD26.out RS26.out RT26.out E25.out E26.out ⟨SN25.out.1, fun x hx q hq => Nat.lt_of_lt_of_le (SN25.out.2 x hx q hq) z26⟩ SN26.out) ?_
  rintro e w27 ⟨ah, ch, lsh, rfl, hf, el, -, hb⟩
  have B27 := kide (B26.out.trans (hb.mono B26.out.size))
  have z27 : w26.heap.size ≤ w27.heap.size := hb.size
  have S27 := kide (S26.out.later hb)
  have HH27 := kide (HH26.out.later hb)
  have H27 := kide hf
  have ELH := kide el
  clear hf el
  clear hb B26 S26 HH26 RD26 RS26 RT26
  go_wp2_with fail
  refine Calls.mono (eqSegS_sf H27.out S27.out ELH.out ELW.out HXO.out HNX.out HX9.out) ?_
  rintro e w28 ⟨rfl, hb⟩
  have B28 := kide (B27.out.trans (hb.mono B27.out.size))
  have z28 : w27.heap.size ≤ w28.heap.size := hb.size
  have HH28 := kide (HH27.out.later hb)
  clear hb B27 HH27 H27 S27
  go_wp2_with fail
  refine Calls.mono (HHL.out w28 HH28.out) ?_
  rintro e w28b ⟨rfl, hw28⟩
  obtain rfl := hw28.symm
  go_wp2_with fail
  go_ret
  exact ⟨rfl, B28.out⟩

theorem size_sgB (va : Option Addr) (vn vc : Nat) (L : Int) (w : World) (hL : 0 ≤ L) (hL2 : L ≤ 1048576) (hvn : vn ≤ 9223372036854775807)
    (hy : vn ≤ 1048576 → ∃ hs : List Sh, hs.length = vn ∧ RdSh w va hs ∧ ∀ h ∈ hs, SegOf w h) :
    ∃ Z : Int, Hid (∀ u, Below w.heap.size w u → Calls Try.prog 7 #[.slice va vn vc, .int .i64 L] u fun e w' => e = .returned (.int .i64 Z) ∧ Below u.heap.size u w') ∧ (Z < 0 ∨ (0 ≤ Z ∧ Z ≤ 1048576) ∧ ∃ vs : List Sg, vs.length = vn ∧ RdS w va vs) := by
  by_cases h2 : (vn : Int) ≤ L
  · obtain ⟨hs, rfl, hh, hk⟩ := hy (by omega)
    refine ⟨szSl hs (L - hs.length), fun u hu => szSegS_in va vc hs L u (hh.later hu) hL hL2 h2, ?_⟩
    by_cases h3 : szSl hs (L - hs.length) < 0
    · exact .inl h3
    · exact .inr ⟨⟨by omega, by rcases szSl_range hs (L - hs.length) (by omega) with h9 | h9 <;> omega⟩, RdS_of hh hk (L := L - hs.length) (by omega) (by omega) (by omega)⟩
  · exact ⟨-1, fun u hu => (szSegS_out va vn vc L u hL hL2 hvn h2).mono (fun e w' h => ⟨h.1, by rw [h.2]; exact Below.refl _ _⟩), .inl (by omega)⟩

theorem walk_FnExactFlatJoin (a : Option Addr) (n0 c : Nat) (hn0 : n0 ≤ 9223372036854775807) (d : Option Addr) (n2 c3 : Nat) (hn2 : n2 ≤ 9223372036854775807) (d4 : Option Addr) (n4 c4 : Nat) (hn4 : n4 ≤ 9223372036854775807) (w : World)
    (hx : n0 ≤ 1048576 → ∃ ds : List Dc, ds.length = n0 ∧ RdD w a ds) (hz2 : n2 ≤ 1048576 → ∃ hs : List Sh, hs.length = n2 ∧ RdSh w d hs ∧ ∀ h ∈ hs, SegOf w h) (hz4 : n4 ≤ 1048576 → ∃ hs : List Sh, hs.length = n4 ∧ RdSh w d4 hs ∧ ∀ h ∈ hs, SegOf w h) :
    Calls Try.prog 4 #[.slice a n0 c, .slice d n2 c3, .slice d4 n4 c4] w fun e w' => e = .returned (.bool true) ∧ Below w.heap.size w w' := by
  obtain ⟨Z, HZ1, hZb, hneg | ⟨hZ, ds, hdl, hr⟩⟩ := size_ds a n0 c w hn0 hx
  · clear hx hz2 hz4
    go_enter Try.func4, Try.ntmps4
    go_wp2_with fail
    refine Calls.mono (HZ1.out _ (Below.refl _ _)) ?_
    rintro e w1 ⟨rfl, hb1⟩
    go_wp2_with fail
    go_ret
    exact ⟨rfl, hb1⟩
  · obtain ⟨Z3, HZ3, hneg | ⟨⟨hZ3, HZB⟩, ss, hyl, ht⟩⟩ := size_sgB d n2 c3 Z w hZ hZb hn2 hz2
    · clear hx hz2 hz4 hr
      go_enter Try.func4, Try.ntmps4
      go_wp2_with fail
      refine Calls.mono (HZ1.out _ (Below.refl _ _)) ?_
      rintro e w1 ⟨rfl, hb1⟩
      go_wp2_with fail
      refine Calls.mono (HZ3.out _ hb1) ?_
      rintro e w3 ⟨rfl, hb3⟩
      go_wp2_with fail
      go_ret
      exact ⟨rfl, hb1.trans (hb3.mono hb1.size)⟩
    · obtain ⟨Z4, HZ4, hneg | ⟨hZ4, tt, hzl, ht4⟩⟩ := size_sg d4 n4 c4 Z3 w hZ3 HZB hn4 hz4
      · clear hx hz2 hz4 hr ht
        go_enter Try.func4, Try.ntmps4
        go_wp2_with fail
        refine Calls.mono (HZ1.out _ (Below.refl _ _)) ?_
        rintro e w1 ⟨rfl, hb1⟩
        go_wp2_with fail
        refine Calls.mono (HZ3.out _ hb1) ?_
        rintro e w3 ⟨rfl, hb3⟩
        have hb13 := hb1.trans (hb3.mono hb1.size)
        go_wp2_with fail
        refine Calls.mono (HZ4.out _ hb13) ?_
        rintro e w4 ⟨rfl, hb4⟩
        go_wp2_with fail
        go_ret
        exact ⟨rfl, hb13.trans (hb4.mono hb13.size)⟩
      · exact law_yes_FnExactFlatJoin a d d4 c n2 c3 n4 c4 n0 ds ss tt w hr hdl ht hyl ht4 hzl Z Z3 Z4 hZ hZ3 hZ4 HZ1 HZ3 HZ4

end Go.Proofs.Ytfanddpncipkkaa
