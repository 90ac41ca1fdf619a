/- The law FnExactFlatPart returns true, whatever it is handed. -/
import Derived.Test.YtfanddpncipkkaaFPN
import Derived.Test.YtfanddpncipkkaaFPL
namespace Go.Proofs.Ytfanddpncipkkaa
set_option linter.unusedVariables false
set_option linter.unusedSimpArgs false
open Go.RowKit

set_option maxHeartbeats 8000000 in
set_option maxRecDepth 100000 in
theorem law_yes_FnExactFlatPart (a f : Option Addr) (c m c3 : Nat) (n0 : Nat) (ds : List Dc) (ss : List Sg) (hi9 lo9 : Int) (h64 : in64 hi9 ∧ in64 lo9) (w : World) (hr : RdD w a ds) (hn0 : ds.length = n0) (ht : RdS w f ss) (hm : ss.length = m) (Z Z3 : Int) (hZ : 0 ≤ Z) (hZ3 : 0 ≤ Z3)
    (HZ1 : Hid (∀ u, Below w.heap.size w u → Calls Try.prog 6 #[.slice a n0 c, .int .i64 1048576] u fun e w' => e = .returned (.int .i64 Z) ∧ Below u.heap.size u w'))
    (HZ3 : Hid (∀ u, Below w.heap.size w u → Calls Try.prog 7 #[.slice f m c3, .int .i64 Z] u fun e w' => e = .returned (.int .i64 Z3) ∧ Below u.heap.size u w')) :
    Calls Try.prog 3 #[.slice a n0 c, .slice f m c3, .int .i64 hi9, .int .i64 lo9] w fun e w' => e = .returned (.bool true) ∧ Below w.heap.size w w' := by
  have HTD : Hid (∀ u, Below w.heap.size w u → Calls Try.prog 9 #[.slice a n0 c] u fun e w' => e = .returned (.slice (some ⟨u.heap.size, 0, none⟩) n0 n0) ∧ RdD w' (some ⟨u.heap.size, 0, none⟩) ds ∧ (∃ f, w'.rowIs u.heap.size 59 (n0 * 2) f) ∧ Below u.heap.size u w') := fun u hu => by
    subst hn0
    exact toDeclS_row a c ds u (hr.later hu)
  have HTB := kide (fun u (hu : Below w.heap.size w u) => toSegS_tp f c3 m ss u (ht.later hu) hm)
  obtain ⟨hXo, hXl⟩ := fpt_ok (ds := ds) (fs := ss.map Sg.ct) (hi := hi9) (lo := lo9) ht.okF
  have HXO := kide hXo
  have hn02 := hr.1
  rw [hn0] at hn02
  have hmm := ht.1
  rw [hm] at hmm
  have HN0 := kide hn0
  have HM := kide hm
  have H64 := kide h64
  have LES : Hid (∀ {ms zs : List Sg} {k : Nat}, ms.map Sg.ct = zs.map Sg.ct → zs.length = k → ms.length = k) := fun {ms zs k} h h2 => by
    have := congrArg List.length h
    simp at this
    omega
  obtain ⟨X, hX⟩ : ∃ X, (fptR ds (ss.map Sg.ct) hi9 lo9).1 = X := ⟨_, rfl⟩
  obtain ⟨xb, hQ⟩ : ∃ Q, (fptR ds (ss.map Sg.ct) hi9 lo9).2 = Q := ⟨_, rfl⟩
  obtain ⟨nX, hnX⟩ : ∃ k, X.length = k := ⟨_, rfl⟩
  have HS2 : Hid (∀ (u : World) (a f : Option Addr) (ss' : List Sg), RdD u a ds → RdS u f ss' → ss'.map Sg.ct = ss.map Sg.ct → ((∀ x ∈ ss', x.a = none → x.c = 0) ∧ ∀ x ∈ ss', ∀ q, x.a = some q → q.block < u.heap.size) → Calls Try.prog 8 #[.slice a n0 n0, .slice f m m, .int .i64 hi9, .int .i64 lo9] u fun e w' => ∃ (v : Option Addr) (k : Nat) (l : List Sg), e = .returned (.tuple #[.slice v nX k, .bool xb]) ∧ Sf u.heap.size w'.heap.size (.slice v nX k) l w' ∧ l.map Sg.ct = X ∧ Below u.heap.size u w') := fun u a f ss' h1 h3 e3 s3 => by
    have h := specPart_any a f n0 m m ds ss' hi9 lo9 u h1 h3 (LES.out e3 HM.out) H64.out.1 H64.out.2
    rw [HN0.out, e3] at h
    refine h.mono ?_
    rintro e w' ⟨v, l, rfl, hl, hs, hb⟩
    obtain ⟨va, vc, rfl⟩ := hs.1.form
    rw [hX] at hl
    rw [lenF_map hl hnX] at hs ⊢
    exact ⟨va, vc, l, by rw [hQ], Sf.of hs, hl, hb⟩
  have HI2 : Hid (∀ (u : World) (a f : Option Addr) (ss' : List Sg), RdD u a ds → RdS u f ss' → ss'.map Sg.ct = ss.map Sg.ct → ((∀ x ∈ ss', x.a = none → x.c = 0) ∧ ∀ x ∈ ss', ∀ q, x.a = some q → q.block < u.heap.size) → Calls Try.prog 11 #[.slice a n0 n0, .slice f m m, .int .i64 hi9, .int .i64 lo9] u fun e w' => ∃ (v : Option Addr) (k : Nat) (l : List Sg), e = .returned (.tuple #[.slice v nX k, .bool xb]) ∧ Sf u.heap.size w'.heap.size (.slice v nX k) l w' ∧ l.map Sg.ct = X ∧ Dj l ∧ Below u.heap.size u w') := fun u a f ss' h1 h3 e3 s3 => by
    have h := implPartF_any a f n0 m m ds ss' hi9 lo9 u h1 h3 (LES.out e3 HM.out) s3.1 s3.2 H64.out.1 H64.out.2
    rw [HN0.out, e3] at h
    refine h.mono ?_
    rintro e w' ⟨v, l, rfl, hl, hs, hd, hb⟩
    obtain ⟨va, vc, rfl⟩ := hs.1.form
    rw [hX] at hl
    rw [lenF_map hl hnX] at hs ⊢
    exact ⟨va, vc, l, by rw [hQ], Sf.of hs, hl, hd, hb⟩
  rw [hX] at HXO hXl
  rw [hnX] at hXl
  have HNX := kide hnX
  have hX9 : nX ≤ 1048576 := by omega
  have HX9 := kide hX9
  have HED : Hid (∀ u (a b : Option Addr), RdD u a ds → RdD u b ds → Calls Try.prog 13 #[.slice a n0 n0, .slice b n0 n0] u fun e w' => e = .returned (.bool true) ∧ Below u.heap.size u w') := fun u a b h1 h2 => by
    have h := eqDeclS_same a b n0 n0 ds u h1 h2
    rw [HN0.out] at h
    exact h
  have hXX : (!xb == xb) = false := by cases xb <;> rfl
  have hXX2 : (xb != xb) = false := by cases xb <;> rfl
  clear hr hn0 ht hm hXo hX hnX hQ hXl hX9 h64
  go_enter Try.func3, Try.ntmps3
  have B0 := kide (Below.refl w.heap.size w)
  go_wp2_with fail
  refine Calls.mono (HZ1.out _ B0.out) ?_
  rintro e w1 ⟨rfl, hb⟩
  have B1 := kide (B0.out.trans (hb.mono B0.out.size))
  have z1 : w.heap.size ≤ w1.heap.size := hb.size
  clear hb B0
  go_wp2_with fail
  refine Calls.mono (HZ3.out _ B1.out) ?_
  rintro e w2 ⟨rfl, hb⟩
  have B2 := kide (B1.out.trans (hb.mono B1.out.size))
  have z2 : w1.heap.size ≤ w2.heap.size := hb.size
  clear hb B1
  go_wp2_with fail
  refine Calls.mono (HTD.out _ B2.out) ?_
  rintro e w3 ⟨rfl, r, -, hb⟩
  have B3 := kide (B2.out.trans (hb.mono B2.out.size))
  have z3 : w2.heap.size ≤ w3.heap.size := hb.size
  have RD3 := kide r
  clear r
  clear hb B2
  go_wp2_with fail
  refine Calls.mono (HTB.out _ B3.out) ?_
  rintro e w4 ⟨m4, rfl, e4, r, s4, -, hb⟩
  have B4 := kide (B3.out.trans (hb.mono B3.out.size))
  have z4 : w3.heap.size ≤ w4.heap.size := hb.size
  have RD4 := kide (RD3.out.later hb)
  have RS4 := kide r
  have E4 := kide e4
  have SN4 := kide s4
  clear r e4 s4
  clear hb B3 RD3
  go_wp2_with fail
  refine Calls.mono (HS2.out w4 _ _ m4 RD4.out RS4.out E4.out SN4.out) ?_
  rintro e w5 ⟨aw, cw, lsw, rfl, hf, el, hb⟩
  have B5 := kide (B4.out.trans (hb.mono B4.out.size))
  have z5 : w4.heap.size ≤ w5.heap.size := hb.size
  have S5 := kide hf
  have ELW := kide el
  clear hf el E4 SN4
  clear hb B4 RD4 RS4
  go_wp2_with fail
  refine Calls.mono (HTD.out _ B5.out) ?_
  rintro e w6 ⟨rfl, r, ⟨fd, q⟩, hb⟩
  have B6 := kide (B5.out.trans (hb.mono B5.out.size))
  have z6 : w5.heap.size ≤ w6.heap.size := hb.size
  have S6 := kide (S5.out.later hb)
  have RD6 := kide r
  have QD6 := kide q
  have zl6 : w5.heap.size < w6.heap.size := rowIs_lt q
  clear r q
  clear hb B5 S5
  go_wp2_with fail
  refine Calls.mono (HTB.out _ B6.out) ?_
  rintro e w7 ⟨m7, rfl, e7, r, s7, q, hb⟩
  have B7 := kide (B6.out.trans (hb.mono B6.out.size))
  have z7 : w6.heap.size ≤ w7.heap.size := hb.size
  have S7 := kide (S6.out.later hb)
  have RD7 := kide (RD6.out.later hb)
  have QD7 := kide (rowIs_out QD6.out (Out.of (B1 := 0) (B2 := 0) hb) (.inr (Nat.zero_le _)))
  have RS7 := kide r
  have QS7 := kide q
  have E7 := kide e7
  have SN7 := kide s7
  clear r q e7 s7
  clear hb B6 S6 RD6 QD6
  go_wp2_with fail
  refine Calls.mono (HI2.out w7 _ _ m7 RD7.out RS7.out E7.out SN7.out) ?_
  rintro e w8 ⟨ag, cg, lsg, rfl, hf, el, dj, hb⟩
  have B8 := kide (B7.out.trans (hb.mono B7.out.size))
  have z8 : w7.heap.size ≤ w8.heap.size := hb.size
  have S8 := kide (S7.out.later hb)
  have RD8 := kide (RD7.out.later hb)
  have QD8 := kide (rowIs_out QD7.out (Out.of (B1 := 0) (B2 := 0) hb) (.inr (Nat.zero_le _)))
  have RS8 := kide (RS7.out.later hb)
  have QS8 := kide (QS7.out.shp (Shp.of hb))
  have G8 := kide hf
  have ELG := kide el
  have DJG := kide dj
  clear hf el dj
  clear hb B7 S7 RD7 QD7 RS7 QS7
  go_wp2_with fail
  refine Calls.mono (eqSegS_sf G8.out S8.out ELG.out ELW.out HXO.out HNX.out HX9.out) ?_
  rintro e w9 ⟨rfl, hb⟩
  have B9 := kide (B8.out.trans (hb.mono B8.out.size))
  have z9 : w8.heap.size ≤ w9.heap.size := hb.size
  have S9 := kide (S8.out.later hb)
  have RD9 := kide (RD8.out.later hb)
  have QD9 := kide (rowIs_out QD8.out (Out.of (B1 := 0) (B2 := 0) hb) (.inr (Nat.zero_le _)))
  have RS9 := kide (RS8.out.later hb)
  have QS9 := kide (QS8.out.shp (Shp.of hb))
  have G9 := kide (G8.out.later hb)
  clear hb B8 S8 RD8 QD8 RS8 QS8 G8
  go_wp2_with fail
  refine Calls.mono (HTD.out _ B9.out) ?_
  rintro e w10 ⟨rfl, r, -, hb⟩
  have B10 := kide (B9.out.trans (hb.mono B9.out.size))
  have z10 : w9.heap.size ≤ w10.heap.size := hb.size
  have S10 := kide (S9.out.later hb)
  have RD10 := kide (RD9.out.later hb)
  have QD10 := kide (rowIs_out QD9.out (Out.of (B1 := 0) (B2 := 0) hb) (.inr (Nat.zero_le _)))
  have RS10 := kide (RS9.out.later hb)
  have QS10 := kide (QS9.out.shp (Shp.of hb))
  have G10 := kide (G9.out.later hb)
  have P10 := kide r
  clear r
  clear hb B9 S9 RD9 QD9 RS9 QS9 G9
  go_wp2_with fail
  refine Calls.mono (HED.out _ _ _ RD10.out P10.out) ?_
  rintro e w11 ⟨rfl, hb⟩
  have B11 := kide (B10.out.trans (hb.mono B10.out.size))
  have z11 : w10.heap.size ≤ w11.heap.size := hb.size
  have S11 := kide (S10.out.later hb)
  have QD11 := kide (rowIs_out QD10.out (Out.of (B1 := 0) (B2 := 0) hb) (.inr (Nat.zero_le _)))
  have RS11 := kide (RS10.out.later hb)
  have QS11 := kide (QS10.out.shp (Shp.of hb))
  have G11 := kide (G10.out.later hb)
  clear hb B10 S10 QD10 RS10 QS10 G10 RD10 P10
  go_wp2_with fail
  refine Calls.mono (HTB.out _ B11.out) ?_
  rintro e w12 ⟨m12, rfl, e12, r, -, -, hb⟩
  have B12 := kide (B11.out.trans (hb.mono B11.out.size))
  have z12 : w11.heap.size ≤ w12.heap.size := hb.size
  have S12 := kide (S11.out.later hb)
  have QD12 := kide (rowIs_out QD11.out (Out.of (B1 := 0) (B2 := 0) hb) (.inr (Nat.zero_le _)))
  have RS12 := kide (RS11.out.later hb)
  have QS12 := kide (QS11.out.shp (Shp.of hb))
  have G12 := kide (G11.out.later hb)
  have P12 := kide r
  have E12 := kide e12
  clear r e12
  clear hb B11 S11 QD11 RS11 QS11 G11
  go_wp2_with fail
  refine Calls.mono (eqSegS_same _ _ m m m7 m12 w12 RS12.out P12.out (E7.out.trans E12.out.symm) m (LES.out E7.out HM.out) (LES.out E12.out HM.out)) ?_
  rintro e w13 ⟨rfl, hb⟩
  have B13 := kide (B12.out.trans (hb.mono B12.out.size))
  have z13 : w12.heap.size ≤ w13.heap.size := hb.size
  have S13 := kide (S12.out.later hb)
  have QD13 := kide (rowIs_out QD12.out (Out.of (B1 := 0) (B2 := 0) hb) (.inr (Nat.zero_le _)))
  have QS13 := kide (QS12.out.shp (Shp.of hb))
  have G13 := kide (G12.out.later hb)
  clear E12
  clear hb B12 S12 QD12 QS12 G12 RS12 P12
  go_wp2_with fail
  refine Calls.mono (markDeclS_one w5.heap.size n0 n0 fd w13 QD13.out hn02) ?_
  rintro e w14 ⟨rfl, ho⟩
  have B14 := kide (Out.bel B13.out ho (by omega))
  have z14 : w13.heap.size ≤ w14.heap.size := ho.2.2.2.1
  have S14 := kide (S13.out.out ho (by omega))
  have QS14 := kide (QS13.out.out ho (by omega))
  have G14 := kide (G13.out.out ho (by omega))
  obtain ⟨K1, hK1, hK1b⟩ : ∃ K1 : Nat, ((1 + n0 * 2 : Nat) : Int) = (K1 : Int) ∧ K1 ≤ 100000000 := ⟨_, rfl, by omega⟩
  rw [hK1]
  clear hK1
  clear ho B13 S13 QS13 G13 QD13
  go_wp2_with fail
  refine Calls.mono (markSegS_ty w6.heap.size w7.heap.size m m K1 _ w14 QS14.out (by omega)) ?_
  rintro e w15 ⟨K3, rfl, hK3, -, ho⟩
  have B15 := kide (Out.bel B14.out ho (by omega))
  have z15 : w14.heap.size ≤ w15.heap.size := ho.2.2.2.1
  have S15 := kide (S14.out.out ho (by omega))
  have G15 := kide (G14.out.out ho (by omega))
  have hK3b : ¬ (K3 : Int) < 0 := by omega
  clear hK3
  clear ho B14 S14 G14 QS14
  go_wp2_with fail
  refine Calls.mono (eqSegS_sf G15.out S15.out ELG.out ELW.out HXO.out HNX.out HX9.out) ?_
  rintro e w16 ⟨rfl, hb⟩
  have B16 := kide (B15.out.trans (hb.mono B15.out.size))
  have z16 : w15.heap.size ≤ w16.heap.size := hb.size
  have S16 := kide (S15.out.later hb)
  have G16 := kide (G15.out.later hb)
  clear hb B15 S15 G15
  have HSH := kide (okF_map ELG.out HXO.out)
  have hlg := lenF_map ELG.out HNX.out
  have HLG := kide hlg
  clear hlg
  go_wp2_with fail
  refine Calls.mono (markSegS_sf w7.heap.size w8.heap.size nX cg ag lsg w16 G16.out DJG.out HSH.out HLG.out HX9.out) ?_
  rintro e w17 ⟨rfl, hh, ho⟩
  have B17 := kide (Out.bel B16.out ho (by omega))
  have z17 : w16.heap.size ≤ w17.heap.size := ho.2.2.2.1
  have S17 := kide (S16.out.out ho (by omega))
  have HH17 := kide hh
  clear hh
  clear ho B16 S16 G16
  have HHL := kide (fun u (hu : HeldV u (.slice ag nX cg) lsg 1) => heldV_any nX cg ag lsg u hu (fun x hx => (HSH.out x hx).2.2.2.2.1) HLG.out HX9.out)
  obtain ⟨VV, hVV⟩ : ∃ VV, mkAt lsg 1 lsg.length = VV := ⟨_, rfl⟩
  rw [hVV] at HHL
  rw [hVV]
  have hv0 : ¬ (VV : Int) < 0 := by omega
  have hvv : ((VV : Int) != (VV : Int)) = false := by simp
  clear hVV
  go_wp2_with fail
  refine Calls.mono (HHL.out w17 HH17.out) ?_
  rintro e w17b ⟨rfl, hw17⟩
  obtain rfl := hw17.symm
  go_wp2_with fail
  refine Calls.mono (HTD.out _ B17.out) ?_
  rintro e w18 ⟨rfl, r, -, hb⟩
  have B18 := kide (B17.out.trans (hb.mono B17.out.size))
  have z18 : w17.heap.size ≤ w18.heap.size := hb.size
  have S18 := kide (S17.out.later hb)
  have HH18 := kide (HH17.out.later hb)
  have RD18 := kide r
  clear r
  clear hb B17 S17 HH17
  go_wp2_with fail
  refine Calls.mono (HTB.out _ B18.out) ?_
  rintro e w19 ⟨m19, rfl, e19, r, s19, -, hb⟩
  have B19 := kide (B18.out.trans (hb.mono B18.out.size))
  have z19 : w18.heap.size ≤ w19.heap.size := hb.size
  have S19 := kide (S18.out.later hb)
  have HH19 := kide (HH18.out.later hb)
  have RD19 := kide (RD18.out.later hb)
  have RS19 := kide r
  have E19 := kide e19
  have SN19 := kide s19
  clear r e19 s19
  clear hb B18 S18 HH18 RD18
  go_wp2_with fail
  refine Calls.mono (HI2.out w19 _ _ m19 RD19.out RS19.out E19.out SN19.out) ?_
  rintro e w20 ⟨ah, ch, lsh, rfl, hf, el, -, hb⟩
  have B20 := kide (B19.out.trans (hb.mono B19.out.size))
  have z20 : w19.heap.size ≤ w20.heap.size := hb.size
  have S20 := kide (S19.out.later hb)
  have HH20 := kide (HH19.out.later hb)
  have H20 := kide hf
  have ELH := kide el
  clear hf el
  clear hb B19 S19 HH19 RD19 RS19
  go_wp2_with fail
  refine Calls.mono (eqSegS_sf H20.out S20.out ELH.out ELW.out HXO.out HNX.out HX9.out) ?_
  rintro e w21 ⟨rfl, hb⟩
  have B21 := kide (B20.out.trans (hb.mono B20.out.size))
  have z21 : w20.heap.size ≤ w21.heap.size := hb.size
  have HH21 := kide (HH20.out.later hb)
  clear hb B20 HH20 H20 S20
  go_wp2_with fail
  refine Calls.mono (HHL.out w21 HH21.out) ?_
  rintro e w21b ⟨rfl, hw21⟩
  obtain rfl := hw21.symm
  go_wp2_with fail
  go_ret
  exact ⟨rfl, B21.out⟩

theorem in_wf {x : Int} (h : (Lit.int .i64 x).wf = true) : in64 x := by
  simp [Lit.wf, IntKind.min, IntKind.max, IntKind.signed, IntKind.bits] at h
  unfold in64
  omega

theorem walk_FnExactFlatPart (a : Option Addr) (n0 c : Nat) (hn0 : n0 ≤ 9223372036854775807) (d : Option Addr) (n2 c3 : Nat) (hn2 : n2 ≤ 9223372036854775807) (hi9 : Int) (h64 : (Lit.int .i64 hi9).wf = true) (lo9 : Int) (l64 : (Lit.int .i64 lo9).wf = true) (w : World)
    (hx : n0 ≤ 1048576 → ∃ ds : List Dc, ds.length = n0 ∧ RdD w a ds) (hz : n2 ≤ 1048576 → ∃ hs : List Sh, hs.length = n2 ∧ RdSh w d hs ∧ ∀ h ∈ hs, SegOf w h) :
    Calls Try.prog 3 #[.slice a n0 c, .slice d n2 c3, .int .i64 hi9, .int .i64 lo9] w fun e w' => e = .returned (.bool true) ∧ Below w.heap.size w w' := by
  obtain ⟨Z, HZ1, hZb, hneg | ⟨hZ, ds, hdl, hr⟩⟩ := size_ds a n0 c w hn0 hx
  · clear hx hz h64 l64
    go_enter Try.func3, Try.ntmps3
    go_wp2_with fail
    refine Calls.mono (HZ1.out _ (Below.refl _ _)) ?_
    rintro e w1 ⟨rfl, hb1⟩
    go_wp2_with fail
    go_ret
    exact ⟨rfl, hb1⟩
  · obtain ⟨Z3, HZ3, hneg | ⟨hZ3, ss, hyl, ht⟩⟩ := size_sg d n2 c3 Z w hZ hZb hn2 hz
    · clear hx hz hr h64 l64
      go_enter Try.func3, Try.ntmps3
      go_wp2_with fail
      refine Calls.mono (HZ1.out _ (Below.refl _ _)) ?_
      rintro e w1 ⟨rfl, hb1⟩
      go_wp2_with fail
      refine Calls.mono (HZ3.out _ hb1) ?_
      rintro e w3 ⟨rfl, hb3⟩
      go_wp2_with fail
      go_ret
      exact ⟨rfl, hb1.trans (hb3.mono hb1.size)⟩
    · exact law_yes_FnExactFlatPart a d c n2 c3 n0 ds ss hi9 lo9 ⟨in_wf h64, in_wf l64⟩ w hr hdl ht hyl Z Z3 hZ hZ3 HZ1 HZ3

end Go.Proofs.Ytfanddpncipkkaa
