/- What the specification's SessionOk answers. -/
import Derived.Test.YtofdkdaehhpgbaaGreatDoorZSA
import Derived.Test.YtofdkdaehhpgbaaGreatDoorIG
namespace Go.Proofs.YtofdkdaehhpgbaaGreatDoor
set_option linter.unusedVariables false
set_option linter.unusedSimpArgs false
open Go.RowKit

set_option maxHeartbeats 4000000 in
set_option maxRecDepth 100000 in
theorem specSession_any (da sa : Option Addr) (dc n sc : Nat) (nx : Int) (ds : List Dc) (xs : List Sg) (w : World) (hd : RdD w da ds) (hs : RdS w sa xs) (hn : xs.length = n) (hT : (xs.flatMap Sg.ls).length ≤ 1048576) (hnx : in64 nx) (hdc : ds.length ≤ dc) :
    Calls Tryz.prog 19 #[.agg #[.slice da ds.length dc, .slice sa n sc, .int .i64 nx]] w fun e w' => e = .returned (.bool (sesR ds (xs.map Sg.ct) nx)) ∧ Below w.heap.size w w' := by
  have hl := hs.1
  rw [hn] at hl
  have hdl := hd.1
  have B0 := kide (ses_box w (.cells #[Value.slice da ds.length dc, Value.slice sa n sc, Value.int .i64 nx] 30))
  have HD := kide (fun u (hu : Below w.heap.size w u) => hd.later hu)
  have HS := kide (fun u (hu : Below w.heap.size w u) => hs.later hu)
  have HN := kide hn
  have HT := kide hT
  have HML : Hid ((xs.map Sg.ct).length = n) := by show _ = _; rw [List.length_map]; exact hn
  have H1 := kide (fun u (hu : Below w.heap.size w u) => specDecls_any da dc ds u (hd.later hu))
  have e0 : (w.alloc (.cells #[Value.slice da ds.length dc, Value.slice sa n sc, Value.int .i64 nx] 30)).cell? ⟨w.heap.size, 0, none⟩ = some (.slice da ds.length dc) := by simp [go_sem]
  have e1 : (w.alloc (.cells #[Value.slice da ds.length dc, Value.slice sa n sc, Value.int .i64 nx] 30)).cell? ⟨w.heap.size, 1, none⟩ = some (.slice sa n sc) := by simp [go_sem]
  have e2 : (w.alloc (.cells #[Value.slice da ds.length dc, Value.slice sa n sc, Value.int .i64 nx] 30)).cell? ⟨w.heap.size, 2, none⟩ = some (.int .i64 nx) := by simp [go_sem]
  have z0 : w.heap.size < (w.alloc (.cells #[Value.slice da ds.length dc, Value.slice sa n sc, Value.int .i64 nx] 30)).heap.size := by simp
  clear hd hs hn hT
  cases hd1 : dclR ds with
  | false =>
    rw [hd1] at H1
    have hF : sesR ds (xs.map Sg.ct) nx = false := by unfold sesR; rw [hd1]; rfl
    rw [hF]
    clear hd1 hF
    generalize ds.length = dn at *
    go_enter Tryz.func19, Tryz.ntmps19
    go_wp2_with fail
    refine Calls.mono (H1.out _ B0.out) ?_
    rintro e w1 ⟨rfl, hb1⟩
    go_wp2_with fail
    go_ret
    exact ⟨rfl, B0.out.trans (hb1.mono B0.out.size)⟩
  | true =>
    rw [hd1] at H1
    have HD1 := kide hd1
    clear hd1
    by_cases h1 : 1 ≤ n ∧ n ≤ 20
    · obtain ⟨x0, gx0⟩ : ∃ x, xs[0]? = some x := ⟨xs[0]'(by rw [HN.out]; omega), List.getElem?_eq_getElem _⟩
      obtain ⟨b3, o3, rfl, HP⟩ : ∃ b3 o3, sa = some ⟨b3, o3, none⟩ ∧ Hid (∀ u, Below w.heap.size w u → ∀ k x, xs[k]? = some x → SgAt u b3 (o3 + k * 2) x) := by
        obtain ⟨b3, o3, rfl, -⟩ := (HS.out w (Below.refl _ _)).at gx0
        exact ⟨b3, o3, rfl, fun u hu k x hx => by
          obtain ⟨b4, o4, e4, h4⟩ := (HS.out u hu).at hx
          cases e4
          exact h4⟩
      have i1 : ¬ (n : Int) < 1 := by omega
      have i2 : ¬ (20 : Int) < (n : Int) := by omega
      have hi0 : (0 : Int) < (n : Int) := by omega
      have hs0 := scD_get gx0
      by_cases h3 : x0.d = 0
      · by_cases hx : 1 ≤ nx ∧ nx ≤ 1000000
        · have HIN := kide (fun u => l1In_any nx 1 1000000 u)
          rw [decide_eq_true hx] at HIN
          rw [h3] at hs0
          have HS0 := kide hs0
          generalize hZ : sesR ds (xs.map Sg.ct) nx = Z
          have HZ := kide hZ
          generalize hdn : ds.length = dn at *
          have HDN := kide hdn
          have HX := kide hx
          have P0 : Hid (∀ u, Below w.heap.size w u → u.cell? ⟨b3, o3, none⟩ = some (.int .i64 0)) := fun u hu => by
            have := (HP.out u hu 0 x0 gx0).1.1
            rw [h3, Nat.zero_mul, Nat.add_zero] at this
            exact this
          clear hZ hdn hs0 h3 hx gx0
          go_enter Tryz.func19, Tryz.ntmps19
          go_wp2_with fail
          refine Calls.mono (H1.out _ B0.out) ?_
          rintro e w1 ⟨rfl, hb1⟩
          have B1 := kide (B0.out.trans (hb1.mono B0.out.size))
          have f0 := (kcell hb1 _ _ z0).trans e0
          have f1 := (kcell hb1 _ _ z0).trans e1
          have f2 := (kcell hb1 _ _ z0).trans e2
          have z1 := Nat.lt_of_lt_of_le z0 hb1.size
          have p0 := P0.out _ B1.out
          clear hb1 e0 e1 e2 z0 H1
          go_wp2_with fail
          refine Calls.mono (HIN.out _) ?_
          rintro e w1 ⟨rfl, rfl⟩
          clear i1 i2 HIN
          go_wp2_with fail
          go_loopw [4] (fun q wr => ∃ i : Nat, 1 ≤ i ∧ i ≤ n ∧ q = .int .i64 (i : Int) ∧ (∀ j, j + 1 < i → scD (xs.map Sg.ct) j ≤ scD (xs.map Sg.ct) (j + 1) ∧ scD (xs.map Sg.ct) (j + 1) ≤ dn) ∧ Below w1.heap.size w1 wr) (fun q _ => n - (intOf q).toNat)
          case atStart => exact ⟨1, Nat.le_refl _, h1.1, rfl, fun j hj => by omega, Below.refl _ _⟩
          case round =>
            obtain ⟨i, h1i, hin, rfl, hgood, hb⟩ := hrel
            have HB := kide hb
            have HGD := kide hgood
            have HBW := kide (B1.out.trans (hb.mono B1.out.size))
            have g0 := (kcell hb _ _ z1).trans f0
            have g1 := (kcell hb _ _ z1).trans f1
            have g2 := (kcell hb _ _ z1).trans f2
            have zr : w.heap.size < wr.heap.size := Nat.lt_of_lt_of_le z1 hb.size
            clear f0 f1 f2 z1 p0 hgood hb
            by_cases hlt : i < n
            · have ik : (i : Int) < (n : Int) := by omega
              obtain ⟨j, hj⟩ : ∃ j, i = j + 1 := ⟨i - 1, by omega⟩
              have ij : (i : Int) - 1 = (j : Int) := by omega
              have iw : IntKind.i64.wrap (j : Int) = (j : Int) := by rw [IntKind.wrap_i64]; omega
              have jk : (j : Int) < (n : Int) := by omega
              obtain ⟨x, gx⟩ : ∃ x, xs[i]? = some x := ⟨xs[i]'(by rw [HN.out]; exact hlt), List.getElem?_eq_getElem _⟩
              obtain ⟨y, gy⟩ : ∃ y, xs[j]? = some y := ⟨xs[j]'(by rw [HN.out]; omega), List.getElem?_eq_getElem _⟩
              have px := (HP.out wr HBW.out i x gx).1.1
              have py := (HP.out wr HBW.out j y gy).1.1
              have hxd := scD_get gx
              have hyd := scD_get gy
              have HC := kide (fun u => l1In_any x.d y.d dn u)
              have HXD := kide hxd
              have HYD := kide hyd
              have HJ := kide hj
              generalize x.d = dx at *
              generalize y.d = dy at *
              clear hxd hyd gx gy hj
              by_cases hok : dy ≤ dx ∧ dx ≤ dn
              · rw [decide_eq_true hok] at HC
                have HOK := kide hok
                clear hok
                go_wp2_with fail
                go_quiet ((go_at_call 23; exact Calls.quiet_of_same (HC.out _)))
                go_wp2_with fail
                go_roundw
                case rel =>
                  refine ⟨i + 1, by omega, by omega, by go_num, fun j' hj' => ?_, below_drewN HB.out _⟩
                  by_cases h9 : j' + 1 < i
                  · exact HGD.out j' h9
                  · have e9 : j' = j := by have := HJ.out; omega
                    rw [e9, ← HJ.out, HXD.out, HYD.out]
                    exact HOK.out
                case measure => simp [intOf]; omega
              · rw [decide_eq_false hok] at HC
                have HF : Hid (Z = false) := by
                  show _ = _
                  rw [← HZ.out]
                  refine ses_scp ?_
                  rw [HDN.out]
                  refine scp_bad (i := j) (by rw [HML.out]; have := HJ.out; omega) ?_
                  rw [← HJ.out, HXD.out, HYD.out]
                  exact hok
                clear hok
                go_wp2_with fail
                go_quiet ((go_at_call 23; exact Calls.quiet_of_same (HC.out _)))
                go_wp2_with fail
                go_ret
                exact ⟨ret_bool HF.out.symm, below_drewN HBW.out _⟩
            · have HSC : Hid (scpR dn (xs.map Sg.ct) = true) := by
                refine scp_good (by rw [HML.out]; omega) (by rw [HML.out]; omega) HS0.out (by omega) fun i' hi' => HGD.out i' ?_
                rw [HML.out] at hi'
                omega
              clear HGD
              go_wp2_with fail
              obtain ⟨wo, hwo⟩ : ∃ wo, wo = wr := ⟨_, rfl⟩
              subst hwo
              go_loopw [6, 5, 7] (fun la tot q wr => ∃ i : Nat, i ≤ n ∧ q = .int .i64 (i : Int) ∧ tot = .int .i64 ((allL ((xs.map Sg.ct).take i)).length : Int) ∧ la = .int .i64 (lastI 0 (allL ((xs.map Sg.ct).take i))) ∧ idR 0 (allL ((xs.map Sg.ct).take i)) = true ∧ (∀ j, j < i → sidI ds (xs.map Sg.ct) j = true) ∧ Below wo.heap.size wo wr) (fun _ _ q _ => n - (intOf q).toNat)
              case atStart => exact ⟨0, Nat.zero_le _, rfl, rfl, rfl, rfl, fun j hj => by omega, Below.refl _ _⟩
              case round =>
                obtain ⟨i, hin, rfl, rfl, rfl, hid, hsd, hb⟩ := hrel
                have HID := kide hid
                have HSD := kide hsd
                have HB2 := kide hb
                have HBX := kide (HBW.out.trans (hb.mono HBW.out.size))
                have m0 := (kcell hb _ _ zr).trans g0
                have m1 := (kcell hb _ _ zr).trans g1
                have m2 := (kcell hb _ _ zr).trans g2
                have zx : w.heap.size < wr.heap.size := Nat.lt_of_lt_of_le zr hb.size
                clear g0 g1 g2 zr hid hsd hb
                obtain ⟨A, hA⟩ : ∃ A, allL ((xs.map Sg.ct).take i) = A := ⟨_, rfl⟩
                have HA := kide hA
                rw [hA]
                rw [hA] at HID
                obtain ⟨L0, hL0⟩ : ∃ L0, lastI 0 A = L0 := ⟨_, rfl⟩
                have HL0 := kide hL0
                rw [hL0]
                clear hA hL0
                by_cases hlt : i < n
                · have ik : (i : Int) < (n : Int) := by omega
                  obtain ⟨x, gx⟩ : ∃ x, xs[i]? = some x := ⟨xs[i]'(by rw [HN.out]; exact hlt), List.getElem?_eq_getElem _⟩
                  obtain ⟨⟨p0, p1⟩, r1, -⟩ := HP.out wr HBX.out i x gx
                  have hLi : i < (xs.map Sg.ct).length := by rw [HML.out]; exact hlt
                  have hbd := beh_bounds HSC.out (by omega) (i := i) hLi
                  obtain ⟨bn, hbn⟩ : ∃ bn : Nat, behI dn (xs.map Sg.ct) i = (bn : Int) := ⟨(behI dn (xs.map Sg.ct) i).toNat, by omega⟩
                  have hbc : (bn : Int) ≤ (dc : Int) := by omega
                  have HTK : Hid ((ds.take bn).length = bn) := by show _ = _; rw [List.length_take, HDN.out]; omega
                  have HBN := kide hbn
                  have HSL := kide (scL_get gx)
                  have hT1 : A.length + x.ls.length ≤ 1048576 := by
                    have h1 := allL_take hLi
                    rw [HSL.out, HA.out] at h1
                    have h2 := allL_rest (xs.map Sg.ct) (i + 1)
                    rw [h1, ← allL_map] at h2
                    have h3 := congrArg List.length h2
                    rw [List.length_map, List.length_append, List.length_append, List.length_map] at h3
                    have := HT.out
                    omega
                  have HSP := kide (fun u (hu : Below wr.heap.size wr u) => specLits_any da x.la dc x.lc x.ls.length (ds.take bn) x.ls u ((HD.out u (HBX.out.trans (hu.mono HBX.out.size))).take bn) (r1.later hu) rfl)
                  rw [HTK.out] at HSP
                  obtain ⟨d, ls, la, lc⟩ := x
                  simp only [] at p0 p1 r1 HSP HSL hT1
                  have RL := kide r1
                  obtain ⟨ln, hln⟩ : ∃ ln, ls.length = ln := ⟨_, rfl⟩
                  have HLN := kide hln
                  rw [hln] at p1 HSP hT1
                  have hal : A.length ≤ 1048576 := by omega
                  obtain ⟨TA, hTA⟩ : ∃ TA, A.length = TA := ⟨_, rfl⟩
                  have HTA := kide hTA
                  rw [hTA] at hT1 hal
                  rw [hTA]
                  clear hTA
                  clear hln r1 hbd
                  by_cases h9 : i + 1 < n
                  · have i9 : (i : Int) + 1 < (n : Int) := by omega
                    have i8 : IntKind.i64.wrap ((i : Int) + 1) = ((i + 1 : Nat) : Int) := by rw [IntKind.wrap_i64]; omega
                    obtain ⟨y, gy⟩ : ∃ y, xs[i + 1]? = some y := ⟨xs[i + 1]'(by rw [HN.out]; exact h9), List.getElem?_eq_getElem _⟩
                    have py := (HP.out wr HBX.out (i + 1) y gy).1.1
                    have hyd : y.d = (bn : Int) := by rw [← hbn, beh_step (by rw [HML.out]; exact h9), scD_get gy]
                    rw [hyd] at py
                    clear hyd gy hbn gx
                    cases hL : litR (ds.take bn) (ls.map Lg.ct) with
                    | false =>
                      rw [hL] at HSP
                      have HF : Hid (Z = false) := by
                        show _ = _
                        rw [← HZ.out]
                        refine ses_bad_lits (i := i) hLi HD1.out (by rw [HA.out]; exact HID.out) ?_
                        rw [HDN.out, HBN.out, Int.toNat_natCast, HSL.out]
                        exact hL
                      clear hL
                      go_wp2_with fail
                      refine Calls.mono (HSP.out wr (Below.refl _ _)) ?_
                      rintro e w5 ⟨rfl, hb5⟩
                      have B5 := kide (HBX.out.trans (hb5.mono HBX.out.size))
                      clear hb5 HSP
                      go_wp2_with fail
                      go_ret
                      exact ⟨ret_bool HF.out.symm, B5.out⟩
                    | true =>
                      rw [hL] at HSP
                      have hst := ses_step (ds := ds) (i := i) hLi (by rw [HDN.out, HBN.out, Int.toNat_natCast, HSL.out]; exact hL)
                      rw [HSL.out] at hst
                      have HST := kide hst
                      have HLI := kide hLi
                      clear hL hst hLi
                      go_wp2_with fail
                      refine Calls.mono (HSP.out wr (Below.refl _ _)) ?_
                      rintro e w5 ⟨rfl, hb5⟩
                      have B5 := kide (HBX.out.trans (hb5.mono HBX.out.size))
                      have B6 := kide (HB2.out.trans (hb5.mono HB2.out.size))
                      have RL5 := kide (RL.out.later hb5)
                      have n0 := (kcell hb5 _ _ zx).trans m0
                      have n1 := (kcell hb5 _ _ zx).trans m1
                      have n2 := (kcell hb5 _ _ zx).trans m2
                      have z5 : w.heap.size < w5.heap.size := Nat.lt_of_lt_of_le zx hb5.size
                      clear hb5 HSP RL p0 p1 m0 m1 m2 zx
                      try clear py
                      obtain ⟨wi, hwi⟩ : ∃ wi, wi = wr := ⟨_, rfl⟩
                      subst hwi
                      go_wp2_with fail
                      go_loopw [6, 10] (fun lq q wr => ∃ k : Nat, k ≤ ln ∧ q = .int .i64 (k : Int) ∧ lq = .int .i64 (lastI L0 ((ls.map Lg.ct).take k)) ∧ idR L0 ((ls.map Lg.ct).take k) = true ∧ Below w5.heap.size w5 wr) (fun _ q _ => ln - (intOf q).toNat)
                      case atStart => exact ⟨0, Nat.zero_le _, rfl, rfl, rfl, Below.refl _ _⟩
                      case round =>
                        obtain ⟨k, hk, rfl, rfl, hik, hb⟩ := hrel
                        have HIK := kide hik
                        have HBK := kide (B5.out.trans (hb.mono B5.out.size))
                        have HBO := kide (B6.out.trans (hb.mono B6.out.size))
                        have HBI := kide hb
                        clear hik
                        by_cases hkl : k < ln
                        · have jk : (k : Int) < (ln : Int) := by omega
                          obtain ⟨l, gl⟩ : ∃ l, ls[k]? = some l := ⟨ls[k]'(by rw [HLN.out]; exact hkl), List.getElem?_eq_getElem _⟩
                          have gc : (ls.map Lg.ct)[k]? = some l.ct := by rw [List.getElem?_map, gl]; rfl
                          have hmx := HST.out.2 l.ct (List.mem_of_getElem? gc)
                          have HM1 := kide (idR_more (a := L0) gc)
                          have HM2 := kide (lastI_more (a := L0) gc)
                          obtain ⟨b7, o7, rfl, q0⟩ : ∃ b7 o7, la = some ⟨b7, o7, none⟩ ∧ wr.cell? ⟨b7, o7 + k * 4, none⟩ = some (.int .i64 l.id) := by
                            obtain ⟨-, h | ⟨b7, o7, rfl, hc⟩⟩ := RL5.out.later hb
                            · rw [h] at gl; simp at gl
                            · exact ⟨b7, o7, rfl, (hc k l gl).1.1⟩
                          have elc : l.ct.id = l.id := rfl
                          rw [elc] at hmx HM1 HM2
                          rw [HIK.out, Bool.true_and] at HM1
                          generalize l.id = li at *
                          obtain ⟨LK, hLK⟩ : ∃ LK, lastI L0 ((ls.map Lg.ct).take k) = LK := ⟨_, rfl⟩
                          rw [hLK] at HM1
                          rw [hLK]
                          clear gl gc hb elc hLK
                          by_cases hle : li ≤ LK
                          · have HF : Hid (Z = false) := by
                              show _ = _
                              rw [← HZ.out]
                              refine ses_bad_one (i := i) (k := k + 1) HLI.out ?_
                              rw [HSL.out, HA.out, HL0.out, HM1.out]
                              exact decide_eq_false (by omega)
                            go_wp2_with fail
                            go_ret
                            exact ⟨ret_bool HF.out.symm, HBK.out⟩
                          · have HM3 : Hid (idR L0 ((ls.map Lg.ct).take (k + 1)) = true) := by show _ = _; rw [HM1.out]; exact decide_eq_true (by omega)
                            go_wp2_with fail
                            go_roundw
                            case rel => exact ⟨k + 1, by omega, by go_num, by rw [HM2.out], HM3.out, HBI.out⟩
                            case measure => simp [intOf]; omega
                        · have hke : k = ln := by omega
                          have htk : (ls.map Lg.ct).take k = ls.map Lg.ct := List.take_of_length_le (by rw [List.length_map, HLN.out]; omega)
                          rw [htk] at HIK
                          rw [htk]
                          have HAN : Hid (allL ((xs.map Sg.ct).take (i + 1)) = A ++ ls.map Lg.ct) := by show _ = _; rw [allL_take HLI.out, HA.out, HSL.out]
                          have hsum : (TA : Int) + (ln : Int) = ((A ++ ls.map Lg.ct).length : Int) := by rw [List.length_append, List.length_map, HLN.out, HTA.out]; omega
                          have HSM := kide hsum
                          have hwr : IntKind.i64.wrap ((TA : Int) + (ln : Int)) = (TA : Int) + (ln : Int) := by rw [IntKind.wrap_i64]; omega
                          clear hb htk hke hsum
                          go_wp2_with fail
                          go_roundw
                          case rel =>
                            refine ⟨i + 1, by omega, by go_num, ?_, ?_, ?_, fun j hj => ?_, HBO.out⟩
                            · rw [HAN.out, ← HSM.out]
                            · rw [HAN.out, lastI_append, HL0.out]
                            · rw [HAN.out, idR_append, HID.out, HL0.out, HIK.out]; rfl
                            · by_cases hji : j < i
                              · exact HSD.out j hji
                              · have e : j = i := by omega
                                rw [e]
                                exact HST.out.1
                          case measure => simp [intOf]; omega
                  · have i9 : ¬ (i : Int) + 1 < (n : Int) := by omega
                    have hyd : (dn : Int) = (bn : Int) := by rw [← hbn, beh_last (by rw [HML.out]; exact h9)]
                    have hyd2 : bn = dn := by omega
                    subst hyd2
                    clear hyd hbn gx
                    cases hL : litR (ds.take bn) (ls.map Lg.ct) with
                    | false =>
                      rw [hL] at HSP
                      have HF : Hid (Z = false) := by
                        show _ = _
                        rw [← HZ.out]
                        refine ses_bad_lits (i := i) hLi HD1.out (by rw [HA.out]; exact HID.out) ?_
                        rw [HDN.out, HBN.out, Int.toNat_natCast, HSL.out]
                        exact hL
                      clear hL
                      go_wp2_with fail
                      refine Calls.mono (HSP.out wr (Below.refl _ _)) ?_
                      rintro e w5 ⟨rfl, hb5⟩
                      have B5 := kide (HBX.out.trans (hb5.mono HBX.out.size))
                      clear hb5 HSP
                      go_wp2_with fail
                      go_ret
                      exact ⟨ret_bool HF.out.symm, B5.out⟩
                    | true =>
                      rw [hL] at HSP
                      have hst := ses_step (ds := ds) (i := i) hLi (by rw [HDN.out, HBN.out, Int.toNat_natCast, HSL.out]; exact hL)
                      rw [HSL.out] at hst
                      have HST := kide hst
                      have HLI := kide hLi
                      clear hL hst hLi
                      go_wp2_with fail
                      refine Calls.mono (HSP.out wr (Below.refl _ _)) ?_
                      rintro e w5 ⟨rfl, hb5⟩
                      have B5 := kide (HBX.out.trans (hb5.mono HBX.out.size))
                      have B6 := kide (HB2.out.trans (hb5.mono HB2.out.size))
                      have RL5 := kide (RL.out.later hb5)
                      have n0 := (kcell hb5 _ _ zx).trans m0
                      have n1 := (kcell hb5 _ _ zx).trans m1
                      have n2 := (kcell hb5 _ _ zx).trans m2
                      have z5 : w.heap.size < w5.heap.size := Nat.lt_of_lt_of_le zx hb5.size
                      clear hb5 HSP RL p0 p1 m0 m1 m2 zx
                      try clear py
                      obtain ⟨wi, hwi⟩ : ∃ wi, wi = wr := ⟨_, rfl⟩
                      subst hwi
                      go_wp2_with fail
                      go_loopw [6, 10] (fun lq q wr => ∃ k : Nat, k ≤ ln ∧ q = .int .i64 (k : Int) ∧ lq = .int .i64 (lastI L0 ((ls.map Lg.ct).take k)) ∧ idR L0 ((ls.map Lg.ct).take k) = true ∧ Below w5.heap.size w5 wr) (fun _ q _ => ln - (intOf q).toNat)
                      case atStart => exact ⟨0, Nat.zero_le _, rfl, rfl, rfl, Below.refl _ _⟩
                      case round =>
                        obtain ⟨k, hk, rfl, rfl, hik, hb⟩ := hrel
                        have HIK := kide hik
                        have HBK := kide (B5.out.trans (hb.mono B5.out.size))
                        have HBO := kide (B6.out.trans (hb.mono B6.out.size))
                        have HBI := kide hb
                        clear hik
                        by_cases hkl : k < ln
                        · have jk : (k : Int) < (ln : Int) := by omega
                          obtain ⟨l, gl⟩ : ∃ l, ls[k]? = some l := ⟨ls[k]'(by rw [HLN.out]; exact hkl), List.getElem?_eq_getElem _⟩
                          have gc : (ls.map Lg.ct)[k]? = some l.ct := by rw [List.getElem?_map, gl]; rfl
                          have hmx := HST.out.2 l.ct (List.mem_of_getElem? gc)
                          have HM1 := kide (idR_more (a := L0) gc)
                          have HM2 := kide (lastI_more (a := L0) gc)
                          obtain ⟨b7, o7, rfl, q0⟩ : ∃ b7 o7, la = some ⟨b7, o7, none⟩ ∧ wr.cell? ⟨b7, o7 + k * 4, none⟩ = some (.int .i64 l.id) := by
                            obtain ⟨-, h | ⟨b7, o7, rfl, hc⟩⟩ := RL5.out.later hb
                            · rw [h] at gl; simp at gl
                            · exact ⟨b7, o7, rfl, (hc k l gl).1.1⟩
                          have elc : l.ct.id = l.id := rfl
                          rw [elc] at hmx HM1 HM2
                          rw [HIK.out, Bool.true_and] at HM1
                          generalize l.id = li at *
                          obtain ⟨LK, hLK⟩ : ∃ LK, lastI L0 ((ls.map Lg.ct).take k) = LK := ⟨_, rfl⟩
                          rw [hLK] at HM1
                          rw [hLK]
                          clear gl gc hb elc hLK
                          by_cases hle : li ≤ LK
                          · have HF : Hid (Z = false) := by
                              show _ = _
                              rw [← HZ.out]
                              refine ses_bad_one (i := i) (k := k + 1) HLI.out ?_
                              rw [HSL.out, HA.out, HL0.out, HM1.out]
                              exact decide_eq_false (by omega)
                            go_wp2_with fail
                            go_ret
                            exact ⟨ret_bool HF.out.symm, HBK.out⟩
                          · have HM3 : Hid (idR L0 ((ls.map Lg.ct).take (k + 1)) = true) := by show _ = _; rw [HM1.out]; exact decide_eq_true (by omega)
                            go_wp2_with fail
                            go_roundw
                            case rel => exact ⟨k + 1, by omega, by go_num, by rw [HM2.out], HM3.out, HBI.out⟩
                            case measure => simp [intOf]; omega
                        · have hke : k = ln := by omega
                          have htk : (ls.map Lg.ct).take k = ls.map Lg.ct := List.take_of_length_le (by rw [List.length_map, HLN.out]; omega)
                          rw [htk] at HIK
                          rw [htk]
                          have HAN : Hid (allL ((xs.map Sg.ct).take (i + 1)) = A ++ ls.map Lg.ct) := by show _ = _; rw [allL_take HLI.out, HA.out, HSL.out]
                          have hsum : (TA : Int) + (ln : Int) = ((A ++ ls.map Lg.ct).length : Int) := by rw [List.length_append, List.length_map, HLN.out, HTA.out]; omega
                          have HSM := kide hsum
                          have hwr : IntKind.i64.wrap ((TA : Int) + (ln : Int)) = (TA : Int) + (ln : Int) := by rw [IntKind.wrap_i64]; omega
                          clear hb htk hke hsum
                          go_wp2_with fail
                          go_roundw
                          case rel =>
                            refine ⟨i + 1, by omega, by go_num, ?_, ?_, ?_, fun j hj => ?_, HBO.out⟩
                            · rw [HAN.out, ← HSM.out]
                            · rw [HAN.out, lastI_append, HL0.out]
                            · rw [HAN.out, idR_append, HID.out, HL0.out, HIK.out]; rfl
                            · by_cases hji : j < i
                              · exact HSD.out j hji
                              · have e : j = i := by omega
                                rw [e]
                                exact HST.out.1
                          case measure => simp [intOf]; omega
                · have hi : i = n := by omega
                  have htk : (xs.map Sg.ct).take i = xs.map Sg.ct := List.take_of_length_le (by rw [HML.out]; omega)
                  rw [htk] at HA
                  have HEND : Hid (Z = (decide (A.length ≤ 60) && decide (L0 < nx))) := by
                    show _ = _
                    rw [← HZ.out, ses_end HD1.out (by rw [HDN.out]; exact HSC.out) HX.out (by rw [HA.out]; exact HID.out) (fun j hj => HSD.out j (by rw [HML.out] at hj; omega)), HA.out, HL0.out]
                  clear htk hi
                  obtain ⟨TA, hTA⟩ : ∃ TA, A.length = TA := ⟨_, rfl⟩
                  rw [hTA] at HEND
                  rw [hTA]
                  clear hTA
                  by_cases h60 : TA ≤ 60
                  · have j60 : (TA : Int) ≤ 60 := by omega
                    rw [decide_eq_true h60, Bool.true_and] at HEND
                    clear h60
                    by_cases hln : L0 < nx
                    all_goals
                      first | rw [decide_eq_true hln] at HEND | rw [decide_eq_false hln] at HEND
                      go_wp2_with fail
                      go_ret
                      exact ⟨ret_bool HEND.out.symm, HBX.out⟩
                  · have j60 : ¬ (TA : Int) ≤ 60 := by omega
                    rw [decide_eq_false h60, Bool.false_and] at HEND
                    clear h60
                    go_wp2_with fail
                    go_ret
                    exact ⟨ret_bool HEND.out.symm, HBX.out⟩
        · have hF : sesR ds (xs.map Sg.ct) nx = false := by unfold sesR; rw [decide_eq_false hx]; simp
          rw [hF]
          have HIN := kide (fun u => l1In_any nx 1 1000000 u)
          rw [decide_eq_false hx] at HIN
          generalize hdn : ds.length = dn at *
          have P0 : Hid (∀ u, Below w.heap.size w u → u.cell? ⟨b3, o3, none⟩ = some (.int .i64 0)) := fun u hu => by
            have := (HP.out u hu 0 x0 gx0).1.1
            rw [h3, Nat.zero_mul, Nat.add_zero] at this
            exact this
          clear hdn hs0 h3 hx gx0 hF
          go_enter Tryz.func19, Tryz.ntmps19
          go_wp2_with fail
          refine Calls.mono (H1.out _ B0.out) ?_
          rintro e w1 ⟨rfl, hb1⟩
          have B1 := kide (B0.out.trans (hb1.mono B0.out.size))
          have f0 := (kcell hb1 _ _ z0).trans e0
          have f1 := (kcell hb1 _ _ z0).trans e1
          have f2 := (kcell hb1 _ _ z0).trans e2
          have z1 := Nat.lt_of_lt_of_le z0 hb1.size
          have p0 := P0.out _ B1.out
          clear hb1 e0 e1 e2 z0 H1
          go_wp2_with fail
          refine Calls.mono (HIN.out _) ?_
          rintro e w1 ⟨rfl, rfl⟩
          go_wp2_with fail
          go_ret
          exact ⟨rfl, B1.out⟩
      · have hF : sesR ds (xs.map Sg.ct) nx = false := by
          refine ses_scp ?_
          unfold scpR
          rw [decide_eq_false (by rw [hs0]; exact h3 : ¬ scD (xs.map Sg.ct) 0 = 0)]
          simp
        rw [hF]
        have h4 : (x0.d != 0) = true := by simpa using h3
        generalize hdn : ds.length = dn at *
        have P0 : Hid (∀ u, Below w.heap.size w u → u.cell? ⟨b3, o3, none⟩ = some (.int .i64 x0.d)) := fun u hu => by
          have := (HP.out u hu 0 x0 gx0).1.1
          rw [Nat.zero_mul, Nat.add_zero] at this
          exact this
        generalize x0.d = dd at *
        clear hdn hs0 h3 gx0 hF
        go_enter Tryz.func19, Tryz.ntmps19
        go_wp2_with fail
        refine Calls.mono (H1.out _ B0.out) ?_
        rintro e w1 ⟨rfl, hb1⟩
        have B1 := kide (B0.out.trans (hb1.mono B0.out.size))
        have f0 := (kcell hb1 _ _ z0).trans e0
        have f1 := (kcell hb1 _ _ z0).trans e1
        have f2 := (kcell hb1 _ _ z0).trans e2
        have z1 := Nat.lt_of_lt_of_le z0 hb1.size
        have p0 := P0.out _ B1.out
        clear hb1 e0 e1 e2 z0 H1
        go_wp2_with fail
        go_ret
        exact ⟨rfl, B1.out⟩
    · have hF : sesR ds (xs.map Sg.ct) nx = false := by
        refine ses_scp ?_
        unfold scpR
        rw [decide_eq_false (by rw [HML.out]; exact h1 : ¬ (1 ≤ (xs.map Sg.ct).length ∧ (xs.map Sg.ct).length ≤ 20))]
        rfl
      rw [hF]
      generalize hdn : ds.length = dn at *
      clear hF hdn
      by_cases i1 : (n : Int) < 1
      all_goals
        try have i2 : (20 : Int) < (n : Int) := by omega
        go_enter Tryz.func19, Tryz.ntmps19
        go_wp2_with fail
        refine Calls.mono (H1.out _ B0.out) ?_
        rintro e w1 ⟨rfl, hb1⟩
        have B1 := kide (B0.out.trans (hb1.mono B0.out.size))
        have f0 := (kcell hb1 _ _ z0).trans e0
        have f1 := (kcell hb1 _ _ z0).trans e1
        have f2 := (kcell hb1 _ _ z0).trans e2
        have z1 := Nat.lt_of_lt_of_le z0 hb1.size
        clear hb1 e0 e1 e2 z0 H1
        go_wp2_with fail
        go_ret
        exact ⟨rfl, B1.out⟩

end Go.Proofs.YtofdkdaehhpgbaaGreatDoor
