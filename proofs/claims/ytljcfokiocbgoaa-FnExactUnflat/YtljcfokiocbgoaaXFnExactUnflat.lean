/- The law FnExactUnflat returns true, whatever it is handed. -/
import Derived.Test.YtljcfokiocbgoaaZUK
import Derived.Test.YtljcfokiocbgoaaUFH
namespace Go.Proofs.Ytljcfokiocbgoaa
set_option linter.unusedVariables false
set_option linter.unusedSimpArgs false
open Go.RowKit

set_option maxHeartbeats 8000000 in
set_option maxRecDepth 100000 in
theorem law_yes_FnExactUnflat (a f : Option Addr) (c m c3 : Nat) (n0 : Nat) (ds : List Dc) (ss : List Sg) (w : World) (hr : RdD w a ds) (hn0 : ds.length = n0) (ht : RdS w f ss) (hm : ss.length = m) (Z Z3 : Int) (hZ : 0 ≤ Z) (hZ3 : 0 ≤ Z3)
    (HZ1 : Hid (∀ u, Below w.heap.size w u → Calls Try.prog 5 #[.slice a n0 c, .int .i64 1048576] u fun e w' => e = .returned (.int .i64 Z) ∧ Below u.heap.size u w'))
    (HZ3 : Hid (∀ u, Below w.heap.size w u → Calls Try.prog 6 #[.slice f m c3, .int .i64 Z] u fun e w' => e = .returned (.int .i64 Z3) ∧ Below u.heap.size u w')) :
    Calls Try.prog 3 #[.slice a n0 c, .slice f m c3] w fun e w' => e = .returned (.bool true) ∧ Below w.heap.size w w' := by
  have HTD : Hid (∀ u, Below w.heap.size w u → Calls Try.prog 8 #[.slice a n0 c] u fun e w' => e = .returned (.slice (some ⟨u.heap.size, 0, none⟩) n0 n0) ∧ RdD w' (some ⟨u.heap.size, 0, none⟩) ds ∧ (∃ f, w'.rowIs u.heap.size 58 (n0 * 2) f) ∧ Below u.heap.size u w') := fun u hu => by
    subst hn0
    exact toDeclS_row a c ds u (hr.later hu)
  have HTB := kide (fun u (hu : Below w.heap.size w u) => toSegS_tn f c3 m ss u (ht.later hu) hm)
  obtain ⟨hXl, hXo⟩ := unfR_ok (ds := ds) (fs := ss.map Sg.ct) hr.1 ht.okc
  have HXO := kide hXo
  have hn02 := hr.1
  rw [hn0] at hn02
  have hmm := ht.1
  rw [hm] at hmm
  have HN0 := kide hn0
  have HM := kide hm
  have LES : Hid (∀ {ms zs : List Sg} {k : Nat}, ms.map Sg.ct = zs.map Sg.ct → zs.length = k → ms.length = k) := fun {ms zs k} h h2 => by
    have := congrArg List.length h
    simp at this
    omega
  obtain ⟨X, hX⟩ : ∃ X, (unfR ds (ss.map Sg.ct)).1 = X := ⟨_, rfl⟩
  obtain ⟨xb, hQ⟩ : ∃ Q, (unfR ds (ss.map Sg.ct)).2 = Q := ⟨_, rfl⟩
  obtain ⟨nX, hnX⟩ : ∃ k, X.length = k := ⟨_, rfl⟩
  have HS2 : Hid (∀ (u : World) (a f : Option Addr) (ss' : List Sg), RdD u a ds → RdS u f ss' → ss'.map Sg.ct = ss.map Sg.ct → (∀ x ∈ ss', x.a = none → x.c = 0) → Calls Try.prog 7 #[.slice a n0 n0, .slice f m m] u fun e w' => ∃ (v : Option Addr) (k : Nat) (l : List Tg), e = .returned (.tuple #[.agg #[.slice v nX k], .bool xb]) ∧ Tt u.heap.size w'.heap.size (.slice v nX k) l w' ∧ l.map Tg.ct = X ∧ Below u.heap.size u w') := fun u a f ss' h1 h3 e3 s3 => by
    have h := specUnf_any f a m n0 m ds ss' u h1 h3 (LES.out e3 HM.out) s3
    rw [HN0.out, e3] at h
    refine h.mono ?_
    rintro e w' ⟨v, l, rfl, ht, hl, hb⟩
    obtain ⟨va, vc, rfl⟩ := ht.form
    rw [hX] at hl
    rw [len_map hl hnX] at ht ⊢
    exact ⟨va, vc, l, by rw [hQ], Tt.of ht, hl, hb⟩
  have HI2 : Hid (∀ (u : World) (a f : Option Addr) (ss' : List Sg), RdD u a ds → RdS u f ss' → ss'.map Sg.ct = ss.map Sg.ct → (∀ x ∈ ss', x.a = none → x.c = 0) → Calls Try.prog 10 #[.slice a n0 n0, .slice f m m] u fun e w' => ∃ (v : Option Addr) (k : Nat) (l : List Tg), e = .returned (.tuple #[.agg #[.slice v nX k], .bool xb]) ∧ Tt u.heap.size w'.heap.size (.slice v nX k) l w' ∧ l.map Tg.ct = X ∧ Below u.heap.size u w') := fun u a f ss' h1 h3 e3 s3 => by
    have h := implUnf_any f a m n0 m ds ss' u h1 h3 (LES.out e3 HM.out) s3
    rw [HN0.out, e3] at h
    refine h.mono ?_
    rintro e w' ⟨v, l, rfl, ht, hl, hb⟩
    obtain ⟨va, vc, rfl⟩ := ht.form
    rw [hX] at hl
    rw [len_map hl hnX] at ht ⊢
    exact ⟨va, vc, l, by rw [hQ], Tt.of ht, hl, hb⟩
  rw [hX] at HXO hXl
  rw [hnX] at hXl
  have HNX := kide hnX
  have HX9 := kide hXl
  have HED : Hid (∀ u (a b : Option Addr), RdD u a ds → RdD u b ds → Calls Try.prog 12 #[.slice a n0 n0, .slice b n0 n0] u fun e w' => e = .returned (.bool true) ∧ Below u.heap.size u w') := fun u a b h1 h2 => by
    have h := eqDeclS_same a b n0 n0 ds u h1 h2
    rw [HN0.out] at h
    exact h
  have hXX : (!xb == xb) = false := by cases xb <;> rfl
  have hXX2 : (xb != xb) = false := by cases xb <;> rfl
  clear hr hn0 ht hm hXo hX hnX hQ hXl
  go_enter Try.func3, Try.ntmps3
  have B0 := kide (Below.refl w.heap.size w)
  go_wp2_with fail
  refine Calls.mono (HZ1.out _ B0.out) ?_
  rintro e w1 ⟨rfl, hb⟩
  have B1 := kide (B0.out.trans (hb.mono B0.out.size))
  have z1 : w.heap.size ≤ w1.heap.size := hb.size
  clear hb B0
  go_wp2_with fail
  refine Calls.mono (HZ3.out _ B1.out) ?_
  rintro e w2 ⟨rfl, hb⟩
  have B2 := kide (B1.out.trans (hb.mono B1.out.size))
  have z2 : w1.heap.size ≤ w2.heap.size := hb.size
  clear hb B1
  go_wp2_with fail
  refine Calls.mono (HTD.out _ B2.out) ?_
  rintro e w3 ⟨rfl, r, -, hb⟩
  have B3 := kide (B2.out.trans (hb.mono B2.out.size))
  have z3 : w2.heap.size ≤ w3.heap.size := hb.size
  have RD3 := kide r
  clear r
  clear hb B2
  go_wp2_with fail
  refine Calls.mono (HTB.out _ B3.out) ?_
  rintro e w4 ⟨m4, rfl, e4, r, s4, -, hb⟩
  have B4 := kide (B3.out.trans (hb.mono B3.out.size))
  have z4 : w3.heap.size ≤ w4.heap.size := hb.size
  have RD4 := kide (RD3.out.later hb)
  have RS4 := kide r
  have E4 := kide e4
  have SN4 := kide s4
  clear r e4 s4
  clear hb B3 RD3
  go_wp2_with fail
  refine Calls.mono (HS2.out w4 _ _ m4 RD4.out RS4.out E4.out SN4.out) ?_
  rintro e w5 ⟨aw, cw, lsw, rfl, hf, el, hb⟩
  have B5 := kide (B4.out.trans (hb.mono B4.out.size))
  have z5 : w4.heap.size ≤ w5.heap.size := hb.size
  have S5 := kide hf
  have ELW := kide el
  clear hf el E4 SN4
  clear hb B4 RD4 RS4
  go_wp2_with fail
  have hb : Below w5.heap.size w5 (w5.alloc (Obj.cells #[Value.slice aw nX cw] 28)) := (Below.refl _ _).alloc (Nat.le_refl _) _
  have B6 := kide (B5.out.trans (hb.mono B5.out.size))
  have z6 : w5.heap.size < (w5.alloc (Obj.cells #[Value.slice aw nX cw] 28)).heap.size := by simp
  have S6 := kide (S5.out.later hb)
  have BW6 := kide (Bz.new w5 #[Value.slice aw nX cw] 28)
  clear hb B5 S5
  generalize w5.alloc (Obj.cells #[Value.slice aw nX cw] 28) = w6 at *
  refine Calls.mono (HTD.out _ B6.out) ?_
  rintro e w7 ⟨rfl, r, ⟨fd, q⟩, hb⟩
  have B7 := kide (B6.out.trans (hb.mono B6.out.size))
  have z7 : w6.heap.size ≤ w7.heap.size := hb.size
  have S7 := kide (S6.out.later hb)
  have BW7 := kide (BW6.out.later hb)
  have RD7 := kide r
  have QD7 := kide q
  have zl7 : w6.heap.size < w7.heap.size := rowIs_lt q
  clear r q
  clear hb B6 S6 BW6
  go_wp2_with fail
  refine Calls.mono (HTB.out _ B7.out) ?_
  rintro e w8 ⟨m8, rfl, e8, r, s8, q, hb⟩
  have B8 := kide (B7.out.trans (hb.mono B7.out.size))
  have z8 : w7.heap.size ≤ w8.heap.size := hb.size
  have S8 := kide (S7.out.later hb)
  have BW8 := kide (BW7.out.later hb)
  have RD8 := kide (RD7.out.later hb)
  have QD8 := kide (rowIs_out QD7.out (Out.of (B1 := 0) (B2 := 0) hb) (.inr (Nat.zero_le _)))
  have RS8 := kide r
  have QS8 := kide q
  have E8 := kide e8
  have SN8 := kide s8
  clear r q e8 s8
  clear hb B7 S7 BW7 RD7 QD7
  go_wp2_with fail
  refine Calls.mono (HI2.out w8 _ _ m8 RD8.out RS8.out E8.out SN8.out) ?_
  rintro e w9 ⟨ag, cg, lsg, rfl, hf, el, hb⟩
  have B9 := kide (B8.out.trans (hb.mono B8.out.size))
  have z9 : w8.heap.size ≤ w9.heap.size := hb.size
  have S9 := kide (S8.out.later hb)
  have BW9 := kide (BW8.out.later hb)
  have RD9 := kide (RD8.out.later hb)
  have QD9 := kide (rowIs_out QD8.out (Out.of (B1 := 0) (B2 := 0) hb) (.inr (Nat.zero_le _)))
  have RS9 := kide (RS8.out.later hb)
  have QS9 := kide (QS8.out.shp (Shp.of hb))
  have G9 := kide hf
  have ELG := kide el
  clear hf el
  clear hb B8 S8 BW8 RD8 QD8 RS8 QS8
  have p0 : w9.cell? ⟨w5.heap.size, 0, none⟩ = some (Value.slice aw nX cw) := BW9.out.cell 0
  have lp : w5.heap.size < w9.heap.size := BW9.out.lt
  go_wp2_with fail
  have hb : Below w9.heap.size w9 (w9.alloc (Obj.cells #[Value.slice ag nX cg] 28)) := (Below.refl _ _).alloc (Nat.le_refl _) _
  have B10 := kide (B9.out.trans (hb.mono B9.out.size))
  have z10 : w9.heap.size < (w9.alloc (Obj.cells #[Value.slice ag nX cg] 28)).heap.size := by simp
  have S10 := kide (S9.out.later hb)
  have BW10 := kide (BW9.out.later hb)
  have RD10 := kide (RD9.out.later hb)
  have QD10 := kide (rowIs_out QD9.out (Out.of (B1 := 0) (B2 := 0) hb) (.inr (Nat.zero_le _)))
  have RS10 := kide (RS9.out.later hb)
  have QS10 := kide (QS9.out.shp (Shp.of hb))
  have G10 := kide (G9.out.later hb)
  have BG10 := kide (Bz.new w9 #[Value.slice ag nX cg] 28)
  clear hb B9 S9 BW9 RD9 QD9 RS9 QS9 G9
  generalize w9.alloc (Obj.cells #[Value.slice ag nX cg] 28) = w10 at *
  refine Calls.mono (eqTerm_tt G10.out S10.out ELG.out ELW.out HXO.out HNX.out HX9.out) ?_
  rintro e w11 ⟨rfl, hb⟩
  have B11 := kide (B10.out.trans (hb.mono B10.out.size))
  have z11 : w10.heap.size ≤ w11.heap.size := hb.size
  have S11 := kide (S10.out.later hb)
  have BW11 := kide (BW10.out.later hb)
  have RD11 := kide (RD10.out.later hb)
  have QD11 := kide (rowIs_out QD10.out (Out.of (B1 := 0) (B2 := 0) hb) (.inr (Nat.zero_le _)))
  have RS11 := kide (RS10.out.later hb)
  have QS11 := kide (QS10.out.shp (Shp.of hb))
  have G11 := kide (G10.out.later hb)
  have BG11 := kide (BG10.out.later hb)
  clear p0
  clear lp
  clear hb B10 S10 BW10 RD10 QD10 RS10 QS10 G10 BG10
  go_wp2_with fail
  refine Calls.mono (HTD.out _ B11.out) ?_
  rintro e w12 ⟨rfl, r, -, hb⟩
  have B12 := kide (B11.out.trans (hb.mono B11.out.size))
  have z12 : w11.heap.size ≤ w12.heap.size := hb.size
  have S12 := kide (S11.out.later hb)
  have BW12 := kide (BW11.out.later hb)
  have RD12 := kide (RD11.out.later hb)
  have QD12 := kide (rowIs_out QD11.out (Out.of (B1 := 0) (B2 := 0) hb) (.inr (Nat.zero_le _)))
  have RS12 := kide (RS11.out.later hb)
  have QS12 := kide (QS11.out.shp (Shp.of hb))
  have G12 := kide (G11.out.later hb)
  have BG12 := kide (BG11.out.later hb)
  have P12 := kide r
  clear r
  clear hb B11 S11 BW11 RD11 QD11 RS11 QS11 G11 BG11
  go_wp2_with fail
  refine Calls.mono (HED.out _ _ _ RD12.out P12.out) ?_
  rintro e w13 ⟨rfl, hb⟩
  have B13 := kide (B12.out.trans (hb.mono B12.out.size))
  have z13 : w12.heap.size ≤ w13.heap.size := hb.size
  have S13 := kide (S12.out.later hb)
  have BW13 := kide (BW12.out.later hb)
  have QD13 := kide (rowIs_out QD12.out (Out.of (B1 := 0) (B2 := 0) hb) (.inr (Nat.zero_le _)))
  have RS13 := kide (RS12.out.later hb)
  have QS13 := kide (QS12.out.shp (Shp.of hb))
  have G13 := kide (G12.out.later hb)
  have BG13 := kide (BG12.out.later hb)
  clear hb B12 S12 BW12 QD12 RS12 QS12 G12 BG12 RD12 P12
  go_wp2_with fail
  refine Calls.mono (HTB.out _ B13.out) ?_
  rintro e w14 ⟨m14, rfl, e14, r, -, -, hb⟩
  have B14 := kide (B13.out.trans (hb.mono B13.out.size))
  have z14 : w13.heap.size ≤ w14.heap.size := hb.size
  have S14 := kide (S13.out.later hb)
  have BW14 := kide (BW13.out.later hb)
  have QD14 := kide (rowIs_out QD13.out (Out.of (B1 := 0) (B2 := 0) hb) (.inr (Nat.zero_le _)))
  have RS14 := kide (RS13.out.later hb)
  have QS14 := kide (QS13.out.shp (Shp.of hb))
  have G14 := kide (G13.out.later hb)
  have BG14 := kide (BG13.out.later hb)
  have P14 := kide r
  have E14 := kide e14
  clear r e14
  clear hb B13 S13 BW13 QD13 RS13 QS13 G13 BG13
  go_wp2_with fail
  refine Calls.mono (eqSegS_same _ _ m m m8 m14 w14 RS14.out P14.out (E8.out.trans E14.out.symm) m (LES.out E8.out HM.out) (LES.out E14.out HM.out)) ?_
  rintro e w15 ⟨rfl, hb⟩
  have B15 := kide (B14.out.trans (hb.mono B14.out.size))
  have z15 : w14.heap.size ≤ w15.heap.size := hb.size
  have S15 := kide (S14.out.later hb)
  have BW15 := kide (BW14.out.later hb)
  have QD15 := kide (rowIs_out QD14.out (Out.of (B1 := 0) (B2 := 0) hb) (.inr (Nat.zero_le _)))
  have QS15 := kide (QS14.out.shp (Shp.of hb))
  have G15 := kide (G14.out.later hb)
  have BG15 := kide (BG14.out.later hb)
  clear E14
  clear hb B14 S14 BW14 QD14 QS14 G14 BG14 RS14 P14
  go_wp2_with fail
  refine Calls.mono (markDeclS_one w6.heap.size n0 n0 fd w15 QD15.out hn02) ?_
  rintro e w16 ⟨rfl, ho⟩
  have B16 := kide (Out.bel B15.out ho (by omega))
  have z16 : w15.heap.size ≤ w16.heap.size := ho.2.2.2.1
  have S16 := kide (S15.out.out ho (by omega))
  have BW16 := kide (BW15.out.out ho (by omega))
  have QS16 := kide (QS15.out.out ho (by omega))
  have G16 := kide (G15.out.out ho (by omega))
  have BG16 := kide (BG15.out.out ho (by omega))
  obtain ⟨K1, hK1, hK1b⟩ : ∃ K1 : Nat, ((1 + n0 * 2 : Nat) : Int) = (K1 : Int) ∧ K1 ≤ 100000000 := ⟨_, rfl, by omega⟩
  rw [hK1]
  clear hK1
  clear ho B15 S15 BW15 QS15 G15 BG15 QD15
  go_wp2_with fail
  refine Calls.mono (markSegS_ty w7.heap.size w8.heap.size m m K1 _ w16 QS16.out (by omega)) ?_
  rintro e w17 ⟨K3, rfl, hK3, -, ho⟩
  have B17 := kide (Out.bel B16.out ho (by omega))
  have z17 : w16.heap.size ≤ w17.heap.size := ho.2.2.2.1
  have S17 := kide (S16.out.out ho (by omega))
  have BW17 := kide (BW16.out.out ho (by omega))
  have G17 := kide (G16.out.out ho (by omega))
  have BG17 := kide (BG16.out.out ho (by omega))
  have hK3b : ¬ (K3 : Int) < 0 := by omega
  clear hK3
  clear ho B16 S16 BW16 G16 BG16 QS16
  have p0 : w17.cell? ⟨w5.heap.size, 0, none⟩ = some (Value.slice aw nX cw) := BW17.out.cell 0
  have q0 : w17.cell? ⟨w9.heap.size, 0, none⟩ = some (Value.slice ag nX cg) := BG17.out.cell 0
  go_wp2_with fail
  refine Calls.mono (eqTerm_tt G17.out S17.out ELG.out ELW.out HXO.out HNX.out HX9.out) ?_
  rintro e w18 ⟨rfl, hb⟩
  have B18 := kide (B17.out.trans (hb.mono B17.out.size))
  have z18 : w17.heap.size ≤ w18.heap.size := hb.size
  have S18 := kide (S17.out.later hb)
  have BW18 := kide (BW17.out.later hb)
  have G18 := kide (G17.out.later hb)
  have BG18 := kide (BG17.out.later hb)
  clear p0 q0
  clear hb B17 S17 BW17 G17 BG17
  have q0 : w18.cell? ⟨w9.heap.size, 0, none⟩ = some (Value.slice ag nX cg) := BG18.out.cell 0
  have HSH := kide (sh_map ELG.out HXO.out)
  have hlg := len_map ELG.out HNX.out
  have HLG := kide hlg
  clear hlg
  go_wp2_with fail
  refine Calls.mono (markTerm_tt w8.heap.size w9.heap.size nX cg 1 ag lsg w18 G18.out (by omega) HSH.out HLG.out HX9.out (by omega)) ?_
  rintro e w19 ⟨rfl, hh, ho⟩
  have B19 := kide (Out.bel B18.out ho (by omega))
  have z19 : w18.heap.size ≤ w19.heap.size := ho.2.2.2.1
  have S19 := kide (S18.out.out ho (by omega))
  have BW19 := kide (BW18.out.out ho (by omega))
  have BG19 := kide (BG18.out.out ho (by omega))
  have HH19 := kide hh
  clear hh
  clear q0
  clear ho B18 S18 BW18 BG18 G18
  have HHL := kide (fun u (hu : HeldTv u (.slice ag nX cg) lsg 1) => heldTerm_ts nX cg 1 ag lsg u hu HSH.out HLG.out HX9.out (by omega))
  obtain ⟨VV, hVV⟩ : ∃ VV, mkT lsg 1 lsg.length = VV := ⟨_, rfl⟩
  rw [hVV] at HHL
  rw [hVV]
  have hv0 : ¬ (VV : Int) < 0 := by omega
  have hvv : ((VV : Int) != (VV : Int)) = false := by simp
  clear hVV
  have q0 : w19.cell? ⟨w9.heap.size, 0, none⟩ = some (Value.slice ag nX cg) := BG19.out.cell 0
  go_wp2_with fail
  refine Calls.mono (HHL.out w19 HH19.out) ?_
  rintro e w20 ⟨rfl, hb⟩
  have B20 := kide (B19.out.trans (hb.mono B19.out.size))
  have z20 : w19.heap.size ≤ w20.heap.size := hb.size
  have S20 := kide (S19.out.later hb)
  have BW20 := kide (BW19.out.later hb)
  have BG20 := kide (BG19.out.later hb)
  have HH20 := kide (HH19.out.later hb)
  clear q0
  clear hb B19 S19 BW19 BG19 HH19
  go_wp2_with fail
  refine Calls.mono (HTD.out _ B20.out) ?_
  rintro e w21 ⟨rfl, r, -, hb⟩
  have B21 := kide (B20.out.trans (hb.mono B20.out.size))
  have z21 : w20.heap.size ≤ w21.heap.size := hb.size
  have S21 := kide (S20.out.later hb)
  have BW21 := kide (BW20.out.later hb)
  have BG21 := kide (BG20.out.later hb)
  have HH21 := kide (HH20.out.later hb)
  have RD21 := kide r
  clear r
  clear hb B20 S20 BW20 BG20 HH20
  go_wp2_with fail
  refine Calls.mono (HTB.out _ B21.out) ?_
  rintro e w22 ⟨m22, rfl, e22, r, s22, -, hb⟩
  have B22 := kide (B21.out.trans (hb.mono B21.out.size))
  have z22 : w21.heap.size ≤ w22.heap.size := hb.size
  have S22 := kide (S21.out.later hb)
  have BW22 := kide (BW21.out.later hb)
  have BG22 := kide (BG21.out.later hb)
  have HH22 := kide (HH21.out.later hb)
  have RD22 := kide (RD21.out.later hb)
  have RS22 := kide r
  have E22 := kide e22
  have SN22 := kide s22
  clear r e22 s22
  clear hb B21 S21 BW21 BG21 HH21 RD21
  go_wp2_with fail
  refine Calls.mono (HI2.out w22 _ _ m22 RD22.out RS22.out E22.out SN22.out) ?_
  rintro e w23 ⟨ah, ch, lsh, rfl, hf, el, hb⟩
  have B23 := kide (B22.out.trans (hb.mono B22.out.size))
  have z23 : w22.heap.size ≤ w23.heap.size := hb.size
  have S23 := kide (S22.out.later hb)
  have BW23 := kide (BW22.out.later hb)
  have BG23 := kide (BG22.out.later hb)
  have HH23 := kide (HH22.out.later hb)
  have H23 := kide hf
  have ELH := kide el
  clear hf el
  clear hb B22 S22 BW22 BG22 HH22 RD22 RS22
  have p0 : w23.cell? ⟨w5.heap.size, 0, none⟩ = some (Value.slice aw nX cw) := BW23.out.cell 0
  have lp : w5.heap.size < w23.heap.size := BW23.out.lt
  go_wp2_with fail
  have hb : Below w23.heap.size w23 (w23.alloc (Obj.cells #[Value.slice ah nX ch] 28)) := (Below.refl _ _).alloc (Nat.le_refl _) _
  have B24 := kide (B23.out.trans (hb.mono B23.out.size))
  have z24 : w23.heap.size < (w23.alloc (Obj.cells #[Value.slice ah nX ch] 28)).heap.size := by simp
  have S24 := kide (S23.out.later hb)
  have BW24 := kide (BW23.out.later hb)
  have BG24 := kide (BG23.out.later hb)
  have HH24 := kide (HH23.out.later hb)
  have H24 := kide (H23.out.later hb)
  have BH24 := kide (Bz.new w23 #[Value.slice ah nX ch] 28)
  clear hb B23 S23 BW23 BG23 HH23 H23
  generalize w23.alloc (Obj.cells #[Value.slice ah nX ch] 28) = w24 at *
  refine Calls.mono (eqTerm_tt H24.out S24.out ELH.out ELW.out HXO.out HNX.out HX9.out) ?_
  rintro e w25 ⟨rfl, hb⟩
  have B25 := kide (B24.out.trans (hb.mono B24.out.size))
  have z25 : w24.heap.size ≤ w25.heap.size := hb.size
  have BW25 := kide (BW24.out.later hb)
  have BG25 := kide (BG24.out.later hb)
  have HH25 := kide (HH24.out.later hb)
  clear p0
  clear lp
  clear hb B24 BW24 BG24 HH24 H24 S24 BH24
  have q0 : w25.cell? ⟨w9.heap.size, 0, none⟩ = some (Value.slice ag nX cg) := BG25.out.cell 0
  go_wp2_with fail
  refine Calls.mono (HHL.out w25 HH25.out) ?_
  rintro e w26 ⟨rfl, hb⟩
  have B26 := kide (B25.out.trans (hb.mono B25.out.size))
  have z26 : w25.heap.size ≤ w26.heap.size := hb.size
  have BW26 := kide (BW25.out.later hb)
  have BG26 := kide (BG25.out.later hb)
  have HH26 := kide (HH25.out.later hb)
  clear q0
  clear hb B25 BW25 BG25 HH25
  go_wp2_with fail
  go_ret
  exact ⟨rfl, B26.out⟩

theorem walk_FnExactUnflat (a : Option Addr) (n0 c : Nat) (hn0 : n0 ≤ 9223372036854775807) (d : Option Addr) (n2 c3 : Nat) (hn2 : n2 ≤ 9223372036854775807) (w : World)
    (hx : n0 ≤ 1048576 → ∃ ds : List Dc, ds.length = n0 ∧ RdD w a ds) (hz : n2 ≤ 1048576 → ∃ hs : List Sh, hs.length = n2 ∧ RdSh w d hs ∧ ∀ h ∈ hs, SegOf w h) :
    Calls Try.prog 3 #[.slice a n0 c, .slice d n2 c3] w fun e w' => e = .returned (.bool true) ∧ Below w.heap.size w w' := by
  obtain ⟨Z, HZ1, hZb, hneg | ⟨hZ, ds, hdl, hr⟩⟩ := size_ds a n0 c w hn0 hx
  · clear hx hz
    go_enter Try.func3, Try.ntmps3
    go_wp2_with fail
    refine Calls.mono (HZ1.out _ (Below.refl _ _)) ?_
    rintro e w1 ⟨rfl, hb1⟩
    go_wp2_with fail
    go_ret
    exact ⟨rfl, hb1⟩
  · obtain ⟨Z3, HZ3, hneg | ⟨hZ3, ss, hyl, ht⟩⟩ := size_sg d n2 c3 Z w hZ hZb hn2 hz
    · clear hx hz hr
      go_enter Try.func3, Try.ntmps3
      go_wp2_with fail
      refine Calls.mono (HZ1.out _ (Below.refl _ _)) ?_
      rintro e w1 ⟨rfl, hb1⟩
      go_wp2_with fail
      refine Calls.mono (HZ3.out _ hb1) ?_
      rintro e w3 ⟨rfl, hb3⟩
      go_wp2_with fail
      go_ret
      exact ⟨rfl, hb1.trans (hb3.mono hb1.size)⟩
    · exact law_yes_FnExactUnflat a d c n2 c3 n0 ds ss w hr hdl ht hyl Z Z3 hZ hZ3 HZ1 HZ3

end Go.Proofs.Ytljcfokiocbgoaa
