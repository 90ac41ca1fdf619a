/- The sizes of a term's nodes, by the given text. -/
import Derived.Test.YteenmffhbgpahaaDoorWTC
namespace Go.Proofs.YteenmffhbgpahaaDoor
set_option linter.unusedVariables false
set_option linter.unusedSimpArgs false
open Go.RowKit

theorem St.grownT {w wr wr' : World} {bx : Obj} {v : Value} {xs : List Int} (h : St w bx wr) (ho : OW wr (w.heap.size + 1) v xs) (hg : wr.grownBy wr' v.ownBlock) : St w bx wr' :=
  Below.grown h hg (by have := h.size; omega) (fun j hj => (ho.lt hj).1)
theorem dcl_right {ds : List Dc} {ns : List Tc} (h : ¬ (widthsR ds ns).length = 0) : dclR ds = true := by
  unfold widthsR at h
  split at h
  · rename_i hc
    simp only [Bool.and_eq_true] at hc
    exact hc.1.1
  · simp at h
theorem nm_small {ds : List Dc} (h : dclR ds = true) {k : Nat} {d : Dc} (hd : ds[k]? = some d) : d.1.size ≤ 1000 := by
  have h1 := (dcOk_iff.1 ((dclR_iff.1 h).2.1 d (List.mem_of_getElem? hd))).1
  unfold nmOk at h1
  simp at h1
  omega

set_option maxHeartbeats 2000000 in
set_option maxRecDepth 100000 in
theorem l3Sizes_any (a b : Option Addr) (c c2 n : Nat) (ds : List Dc) (xs : List Tg) (w : World) (hr : RdD w a ds) (hs : RdT w b xs) (hn : xs.length = n) (hok : ¬ (widthsR ds (xs.map Tg.ct)).length = 0) :
    Calls Tryd.prog 15 #[.slice a ds.length c, .agg #[.slice b n c2]] w fun e w' => ∃ v, e = .returned v ∧ OW w' (w.heap.size + 1) v (ziR (szR ds (xs.map Tg.ct))) ∧ Below w.heap.size w w' := by
  have s0 := St.start w (.cells #[.slice b n c2] 33)
  have HR := kide hr
  have HS := kide hs
  have HN := kide hn
  obtain ⟨hl1, hl2, -, hkid⟩ := right_kids hok
  rw [List.length_map, hn] at hl1 hl2
  have HK := kide hkid
  have HD := kide (dcl_right hok)
  have HT := kide (rightT_node hok)
  have hdl := hr.1
  obtain ⟨ns, hns⟩ : ∃ ns, xs.map Tg.ct = ns := ⟨_, rfl⟩
  rw [hns] at HK HT ⊢
  have HNS := kide hns
  have hln : Hid (ns.length = n) := by show _ = _; rw [← HNS.out]; simpa using HN.out
  generalize hZ : szR ds ns = Z
  have HZ := kide hZ
  have O1 := kide (OW.fresh (w.alloc (.cells #[.slice b n c2] 33)) (w.heap.size + 1) (by have := s0.size; omega))
  have S2 := kide (s0.next ((Below.refl _ _).alloc (Nat.le_refl _) (Obj.cells #[] 2)))
  clear hr hs hn hok hkid hns hZ
  go_enter Tryd.func15, Tryd.ntmps15
  go_wp2_with fail
  go_loopw [5, 6] (fun o q wr => ∃ k : Nat, k ≤ n ∧ q = .int .i64 (k : Int) ∧ OW wr (w.heap.size + 1) o (ziR (szR ds (ns.take k))) ∧ St w (.cells #[.slice b n c2] 33) wr) (fun _ q _ => n - (intOf q).toNat)
  case atStart => exact ⟨0, Nat.zero_le _, rfl, by simpa [szR, ziR] using O1.out, S2.out⟩
  case round =>
    obtain ⟨k, hk, rfl, hown, hst⟩ := hrel
    have HO := kide hown
    have HST := kide hst
    clear hown hst O1 S2 s0
    have g0 := HST.out.cell 0
    simp at g0
    by_cases hlt : k < n
    · have i0 : (k : Int) < (n : Int) := by omega
      obtain ⟨⟨s1, wa, wc, ka, kc⟩, gx⟩ : ∃ x, xs[k]? = some x := ⟨xs[k]'(by rw [HN.out]; exact hlt), List.getElem?_eq_getElem _⟩
      have gn : ns[k]? = some s1 := by rw [← HNS.out, List.getElem?_map, gx]; rfl
      obtain ⟨-, h | ⟨b2, o2, rfl, hc⟩⟩ := HS.out.later HST.out.below
      · rw [h] at gx; simp at gx
      obtain ⟨⟨p0, p1, p2, p3, p4, p5, p6⟩, pr, pk, -⟩ := hc k _ gx
      simp only [Tg.hd] at p0 p1 p2 p3 p4 p5 p6 pr pk
      have HX := kide (sz_take (ds := ds) gn)
      have HKK := kide (HK.out k s1 gn)
      have HRT := kide (HT.out s1 (List.mem_of_getElem? gn))
      have hro := rt_op HRT.out
      have HNZ := kide (ndZ_eq ds (szR ds (ns.take k)) s1)
      have HHL := kide (hd_list (ds := ds) (x := s1))
      obtain ⟨op, vr, aa, bb, bw, ws, ks⟩ := s1
      simp only [] at p0 p1 p2 p3 p4 p5 p6 HX HKK pk pr hro HNZ HHL
      have hks := pk.1
      have HPK := kide pk
      have HPR := kide pr
      have HRG := kide (sz_range ds (ns.take k))
      have hlen : Hid ((szR ds (ns.take k)).length = k) := by show _ = _; rw [sz_len ds ns k (by rw [hln.out]; omega)]
      obtain ⟨vo, co, hvo, hrd⟩ := HO.out.rd (by rw [zi_len, hlen.out]; omega) (zi_in64 HRG.out)
      rw [zi_len, hlen.out] at hvo
      subst hvo
      have HRD := kide hrd
      generalize szR ds (ns.take k) = zs at *
      clear hc gx gn pr pk hrd
      obtain ⟨kl, hkl⟩ : ∃ m, ks.length = m := ⟨_, rfl⟩
      rw [hkl] at hks p6
      have HKL := kide hkl
      clear hkl
      generalize hY : ndZ ds zs ⟨op, vr, aa, bb, bw, ws, ks⟩ = Y at HX HNZ
      have HUL : Hid (zs.length ≤ 1073741824) := by show zs.length ≤ 1073741824; rw [hlen.out]; omega
      clear hY
      have sB := St.start wr (Obj.cells #[Value.int .i64 op, Value.int .i64 vr, Value.int .i64 aa, Value.int .i64 bb, Value.int .i64 bw, Value.slice wa ws.length wc, Value.slice ka kl kc] 54)
      have SB := kide sB
      have s3 := HST.out.next sB.below
      have S3 := kide s3
      clear sB
      rcases hro with ⟨rfl, hk0, hv1, hv2⟩ | ⟨rfl, hk0, hrb⟩ | ⟨h3, h9, hne⟩
      · have hkz : kl = 0 := by rw [← HKL.out, hk0]; rfl
        have HK0 := kide hk0
        obtain ⟨m, rfl⟩ : ∃ m : Nat, vr = (m : Int) := ⟨vr.toNat, by omega⟩
        have hm : m < ds.length := by omega
        have HHD : Hid ((hdT ds ⟨1, (m : Int), aa, bb, bw, ws, ks⟩).length = (ds.getD m (.empty, 0)).1.size) := by
          show _ = _
          unfold hdT
          rw [if_pos rfl]
          simp [blT]
        obtain ⟨-, -, h | ⟨db, dO, rfl, hdc⟩⟩ := HR.out.later s3.below
        · subst h; simp at hm
        have gd : ds[m]? = some (ds.getD m (.empty, 0)) := by simp [List.getD, hm]
        obtain ⟨d0, d1⟩ := hdc m _ gd
        have hsm := nm_small HD.out gd
        have m0 : (m : Int) < (ds.length : Int) := by omega
        have HNY0 : Hid (Y = min ((ds.getD m (.empty, 0)).1.size + sZ zs ks) 20001) := by
          show _ = _
          rw [HNZ.out, HHD.out, if_pos HK0.out]
          rfl
        have HGD := kide gd
        generalize ds.getD m (.empty, 0) = d at *
        obtain ⟨dn, dw⟩ := d
        simp only [] at d0 d1 hsm HNY0
        clear hdc s3 HHL HNZ HHD gd hk0 hkz
        have hsz : (dn.size : Int) ≤ 1000 := by omega
        obtain ⟨T0, htt⟩ : ∃ T0 : Nat, dn.size = T0 := ⟨_, rfl⟩
        have hT0 : T0 ≤ 30000 := by omega
        have HNY : Hid (Y = min (T0 + sZ zs ks) 20001) := by show _ = _; rw [← htt]; exact HNY0.out
        have HTT := kide htt
        clear hsm htt
        go_wp2_with fail
        obtain ⟨u, hu⟩ : ∃ u, wr.alloc (Obj.cells #[Value.int .i64 1, Value.int .i64 (m : Int), Value.int .i64 aa, Value.int .i64 bb, Value.int .i64 bw, Value.slice wa ws.length wc, Value.slice ka kl kc] 54) = u := ⟨_, rfl⟩
        have SBu := SB
        have S3u := S3
        rw [hu] at SBu S3u ⊢
        clear hu
        have b6 := SBu.out.cell 6
        simp at b6
        have z3 := S3u.out.size
        have z4 := SBu.out.size
        have HPU := kide (HPK.out.later SBu.out.below)
        have HRU := kide (HRD.out.later SBu.out.below)
        have HOU := kide (HO.out.later SBu.out.below)
        have HT0 := kide hT0
        go_loopw [8, 9] (fun m q wr' => ∃ i : Nat, i ≤ kl ∧ q = .int .i64 (i : Int) ∧ m = .int .i64 ((T0 + sZ zs (ks.take i) : Nat) : Int) ∧ wr' = u) (fun _ q _ => kl - (intOf q).toNat)
        case atStart => exact ⟨0, Nat.zero_le _, rfl, by congr 1; rw [← HTT.out]; simp [sZ]; try omega, by trivial⟩
        case round =>
          obtain ⟨i, hi, rfl, rfl, hwe⟩ := hrel
          subst hwe
          have hsr : sZ zs (ks.take i) ≤ 20002 * 1048576 := by
            have h := sZ_range HRG.out (ks.take i)
            rw [List.length_take] at h
            have : min i ks.length ≤ 1048576 := by omega
            have := Nat.mul_le_mul_left 20002 this
            omega
          by_cases hil : i < kl
          · have j0 : (i : Int) < (kl : Int) := by omega
            obtain ⟨-, -, h | ⟨kb, ko, rfl, hkc⟩⟩ := HPU.out
            · have := HKL.out; subst h; simp at this; omega
            have q0 := hkc i (by rw [HKL.out]; exact hil)
            have hki : ks[i]? = some (ks.getD i 0) := by rw [List.getElem?_eq_getElem (by rw [HKL.out]; exact hil)]; simp [List.getD, show i < ks.length by rw [HKL.out]; exact hil]
            have hkr := HKK.out (ks.getD i 0) (List.mem_of_getElem? hki)
            have HST2 := kide (sZ_take (zs := zs) hki)
            obtain ⟨j, hj, hjk⟩ : ∃ j : Nat, ks.getD i 0 = (j : Int) ∧ j < k := ⟨(ks.getD i 0).toNat, by omega, by omega⟩
            rw [hj] at q0 HST2
            rw [Int.toNat_natCast] at HST2
            obtain ⟨-, -, h | ⟨ob, oo, rfl, hoc⟩⟩ := HRU.out
            · have := hlen.out; have := zi_len zs; rw [h] at this; simp at this; omega
            have q1 := hoc j (by rw [zi_len, hlen.out]; exact hjk)
            rw [zi_at] at q1
            have hyr := szT_range HRG.out j
            have jk : (j : Int) < (k : Int) := by omega
            generalize zs.getD j 0 = y at *
            generalize sZ zs (ks.take i) = sk at *
            obtain ⟨M, hM⟩ : ∃ M : Nat, T0 + sk = M := ⟨_, rfl⟩
            rw [hM]
            have hMr : (M : Int) ≤ 20974017152 + 40000 := by omega
            have hyi : (y : Int) ≤ 20001 := by omega
            have HM := kide hM
            clear hkc hoc hki hkr hj hM hyr hsr hT0
            go_wp2_with fail
            go_roundw
            case rel => exact ⟨i + 1, by omega, by go_num, by rw [HST2.out]; congr 1; have := HM.out; omega, by trivial⟩
            case measure => simp [intOf]; omega
          · have hfin : Hid (Y = min (T0 + sZ zs (ks.take i)) 20001) := by show _ = _; rw [HNY.out, List.take_of_length_le (by rw [HKL.out]; omega)]
            obtain ⟨M, hM⟩ : ∃ M : Nat, T0 + sZ zs (ks.take i) = M := ⟨_, rfl⟩
            rw [hM] at hfin ⊢
            have hMr : (M : Int) ≤ 20974017152 + 40000 := by omega
            clear hM hsr hT0
            have HFE : Hid (min (M : Int) 20001 = (Y : Int)) := by show _ = _; have := hfin.out; omega
            by_cases hmin : (M : Int) ≤ 20001
            · have e : min (M : Int) 20001 = (M : Int) := by omega
              have HYM : Hid ((M : Int) = (Y : Int)) := by show _ = _; have := hfin.out; omega
              go_wp2_with (at_builtin; rw [HYM.out]; refine wpList_appW rfl _ _ rfl (w.heap.size + 1) _ (ziR zs) (Y : Int) rfl (World.ownsRow.alloc HOU.out _) _ rfl (by simp) (by rw [zi_len]; exact HUL.out) (by simp; omega) ?_)
              intro v7 w7 hos hg
              have S7 := kide ((S3u.out.next ((Below.refl _ _).alloc (Nat.le_refl _) (Obj.cells #[Value.int .i64 (Y : Int)] 2))).grownT (World.ownsRow.alloc HOU.out _) hg)
              have O7 := kide hos
              clear hos hg g0 b6
              go_wp2_with fail
              go_roundw
              case rel => exact ⟨k + 1, by omega, by go_num, by rw [HX.out, zi_app]; exact O7.out, S7.out⟩
              case measure => simp [intOf]; omega
            · have e : min (M : Int) 20001 = 20001 := by omega
              have HYM : Hid ((20001 : Int) = (Y : Int)) := by show _ = _; have := hfin.out; omega
              go_wp2_with (at_builtin; rw [HYM.out]; refine wpList_appW rfl _ _ rfl (w.heap.size + 1) _ (ziR zs) (Y : Int) rfl (World.ownsRow.alloc HOU.out _) _ rfl (by simp) (by rw [zi_len]; exact HUL.out) (by simp; omega) ?_)
              intro v7 w7 hos hg
              have S7 := kide ((S3u.out.next ((Below.refl _ _).alloc (Nat.le_refl _) (Obj.cells #[Value.int .i64 (Y : Int)] 2))).grownT (World.ownsRow.alloc HOU.out _) hg)
              have O7 := kide hos
              clear hos hg g0 b6
              go_wp2_with fail
              go_roundw
              case rel => exact ⟨k + 1, by omega, by go_num, by rw [HX.out, zi_app]; exact O7.out, S7.out⟩
              case measure => simp [intOf]; omega
      · have HK0 := kide hk0
        have HHD : Hid (hdT ds ⟨2, vr, aa, bb, bw, ws, ks⟩ = writeR bw ws) := by
          show _ = _
          unfold hdT
          rw [if_neg (by simp), if_pos rfl]
        have HWB := kide (specWr_any bw wa wc ws _ (HPR.out.later SB.out.below) hrb)
        have hws := writeR_size bw ws (.inl hrb)
        have HNY0 : Hid (Y = min ((txt (writeR bw ws)).size + sZ zs ks) 20001) := by
          show _ = _
          rw [HNZ.out, HHD.out, if_pos HK0.out, txt_sizeT]
          rfl
        rw [← txt_sizeT] at hws
        generalize txt (writeR bw ws) = sW at *
        have hsz : (sW.size : Int) ≤ 5000 := by omega
        obtain ⟨T0, htt⟩ : ∃ T0 : Nat, sW.size = T0 := ⟨_, rfl⟩
        have hT0 : T0 ≤ 30000 := by omega
        have HNY : Hid (Y = min (T0 + sZ zs ks) 20001) := by show _ = _; rw [← htt]; exact HNY0.out
        have HTT := kide htt
        clear hws htt s3 HHL HNZ HHD hk0 hrb
        go_wp2_with fail
        refine Calls.mono HWB.out ?_
        rintro e u ⟨rfl, hb1⟩
        have SBu := kide (SB.out.next hb1)
        have S3u := kide (S3.out.next hb1)
        have b6 := SBu.out.cell 6
        simp at b6
        clear hb1
        go_wp2_with fail
        clear b6
        have b6 := SBu.out.cell 6
        simp at b6
        have z3 := S3u.out.size
        have z4 := SBu.out.size
        have HPU := kide (HPK.out.later SBu.out.below)
        have HRU := kide (HRD.out.later SBu.out.below)
        have HOU := kide (HO.out.later SBu.out.below)
        have HT0 := kide hT0
        go_loopw [8, 9] (fun m q wr' => ∃ i : Nat, i ≤ kl ∧ q = .int .i64 (i : Int) ∧ m = .int .i64 ((T0 + sZ zs (ks.take i) : Nat) : Int) ∧ wr' = u) (fun _ q _ => kl - (intOf q).toNat)
        case atStart => exact ⟨0, Nat.zero_le _, rfl, by congr 1; rw [← HTT.out]; simp [sZ]; try omega, by trivial⟩
        case round =>
          obtain ⟨i, hi, rfl, rfl, hwe⟩ := hrel
          subst hwe
          have hsr : sZ zs (ks.take i) ≤ 20002 * 1048576 := by
            have h := sZ_range HRG.out (ks.take i)
            rw [List.length_take] at h
            have : min i ks.length ≤ 1048576 := by omega
            have := Nat.mul_le_mul_left 20002 this
            omega
          by_cases hil : i < kl
          · have j0 : (i : Int) < (kl : Int) := by omega
            obtain ⟨-, -, h | ⟨kb, ko, rfl, hkc⟩⟩ := HPU.out
            · have := HKL.out; subst h; simp at this; omega
            have q0 := hkc i (by rw [HKL.out]; exact hil)
            have hki : ks[i]? = some (ks.getD i 0) := by rw [List.getElem?_eq_getElem (by rw [HKL.out]; exact hil)]; simp [List.getD, show i < ks.length by rw [HKL.out]; exact hil]
            have hkr := HKK.out (ks.getD i 0) (List.mem_of_getElem? hki)
            have HST2 := kide (sZ_take (zs := zs) hki)
            obtain ⟨j, hj, hjk⟩ : ∃ j : Nat, ks.getD i 0 = (j : Int) ∧ j < k := ⟨(ks.getD i 0).toNat, by omega, by omega⟩
            rw [hj] at q0 HST2
            rw [Int.toNat_natCast] at HST2
            obtain ⟨-, -, h | ⟨ob, oo, rfl, hoc⟩⟩ := HRU.out
            · have := hlen.out; have := zi_len zs; rw [h] at this; simp at this; omega
            have q1 := hoc j (by rw [zi_len, hlen.out]; exact hjk)
            rw [zi_at] at q1
            have hyr := szT_range HRG.out j
            have jk : (j : Int) < (k : Int) := by omega
            generalize zs.getD j 0 = y at *
            generalize sZ zs (ks.take i) = sk at *
            obtain ⟨M, hM⟩ : ∃ M : Nat, T0 + sk = M := ⟨_, rfl⟩
            rw [hM]
            have hMr : (M : Int) ≤ 20974017152 + 40000 := by omega
            have hyi : (y : Int) ≤ 20001 := by omega
            have HM := kide hM
            clear hkc hoc hki hkr hj hM hyr hsr hT0
            go_wp2_with fail
            go_roundw
            case rel => exact ⟨i + 1, by omega, by go_num, by rw [HST2.out]; congr 1; have := HM.out; omega, by trivial⟩
            case measure => simp [intOf]; omega
          · have hfin : Hid (Y = min (T0 + sZ zs (ks.take i)) 20001) := by show _ = _; rw [HNY.out, List.take_of_length_le (by rw [HKL.out]; omega)]
            obtain ⟨M, hM⟩ : ∃ M : Nat, T0 + sZ zs (ks.take i) = M := ⟨_, rfl⟩
            rw [hM] at hfin ⊢
            have hMr : (M : Int) ≤ 20974017152 + 40000 := by omega
            clear hM hsr hT0
            have HFE : Hid (min (M : Int) 20001 = (Y : Int)) := by show _ = _; have := hfin.out; omega
            by_cases hmin : (M : Int) ≤ 20001
            · have e : min (M : Int) 20001 = (M : Int) := by omega
              have HYM : Hid ((M : Int) = (Y : Int)) := by show _ = _; have := hfin.out; omega
              go_wp2_with (at_builtin; rw [HYM.out]; refine wpList_appW rfl _ _ rfl (w.heap.size + 1) _ (ziR zs) (Y : Int) rfl (World.ownsRow.alloc HOU.out _) _ rfl (by simp) (by rw [zi_len]; exact HUL.out) (by simp; omega) ?_)
              intro v7 w7 hos hg
              have S7 := kide ((S3u.out.next ((Below.refl _ _).alloc (Nat.le_refl _) (Obj.cells #[Value.int .i64 (Y : Int)] 2))).grownT (World.ownsRow.alloc HOU.out _) hg)
              have O7 := kide hos
              clear hos hg g0 b6
              go_wp2_with fail
              go_roundw
              case rel => exact ⟨k + 1, by omega, by go_num, by rw [HX.out, zi_app]; exact O7.out, S7.out⟩
              case measure => simp [intOf]; omega
            · have e : min (M : Int) 20001 = 20001 := by omega
              have HYM : Hid ((20001 : Int) = (Y : Int)) := by show _ = _; have := hfin.out; omega
              go_wp2_with (at_builtin; rw [HYM.out]; refine wpList_appW rfl _ _ rfl (w.heap.size + 1) _ (ziR zs) (Y : Int) rfl (World.ownsRow.alloc HOU.out _) _ rfl (by simp) (by rw [zi_len]; exact HUL.out) (by simp; omega) ?_)
              intro v7 w7 hos hg
              have S7 := kide ((S3u.out.next ((Below.refl _ _).alloc (Nat.le_refl _) (Obj.cells #[Value.int .i64 (Y : Int)] 2))).grownT (World.ownsRow.alloc HOU.out _) hg)
              have O7 := kide hos
              clear hos hg g0 b6
              go_wp2_with fail
              go_roundw
              case rel => exact ⟨k + 1, by omega, by go_num, by rw [HX.out, zi_app]; exact O7.out, S7.out⟩
              case measure => simp [intOf]; omega
      · have hnum := HRT.out.2.2
        simp only [] at hnum
        obtain ⟨hna, hnb⟩ := hnum
        have HWD := kide (fun u => l3Word_any op h3 h9 u)
        have HPT := kide (fun u => l3Parts_any op h3 h9 u)
        have hwl := wordN_len op
        have HHL2 := kide (HHL.out h3)
        rw [← txt_sizeT] at hwl
        have HWL := kide (txt_sizeT (wordN op))
        generalize txt (wordN op) = sW at *
        have hsz : (sW.size : Int) ≤ 5 := by omega
        have HNE := kide hne
        rcases (by omega : op = 3 ∨ op = 4 ∨ 4 < op) with e3 | e4 | e5
        · clear hna hnb
          rw [show (if op = 4 then (2 : Int) else if 4 < op then 1 else 0) = 0 by split <;> (try split) <;> omega] at HPT
          obtain ⟨T0, htt⟩ : ∃ T0 : Nat, 2 + sW.size = T0 := ⟨_, rfl⟩
          have hT0 : T0 ≤ 30000 := by omega
          have HNY : Hid (Y = min (T0 + sZ zs ks) 20001) := by
            show _ = _
            have h1 := HHL2.out
            rw [← HWL.out, if_neg (show ¬ 4 ≤ op by omega), if_neg (show ¬ op = 4 by omega)] at h1
            rw [HNZ.out, if_neg HNE.out, h1, ← htt]
            congr 1
            omega
          have HTT := kide htt
          have f1 : (op == 1) = false := by simp; omega
          have f2 : (op == 2) = false := by simp; omega
          clear htt s3 HHL HHL2 HNZ hne
          clear e3
          go_wp2_with fail
          refine Calls.mono (HWD.out _) ?_
          rintro e w1 ⟨rfl, hb1⟩
          have SB1 := kide (SB.out.next hb1)
          have S31 := kide (S3.out.next hb1)
          have c0 := SB1.out.cell 0
          have c2' := SB1.out.cell 2
          have c3 := SB1.out.cell 3
          have c6 := SB1.out.cell 6
          simp at c0 c2' c3 c6
          clear hb1
          go_wp2_with fail
          refine Calls.mono (HPT.out _) ?_
          rintro e w1' ⟨rfl, hq⟩
          rw [hq]
          clear hq w1'
          go_wp2_with fail
          refine Calls.mono (HPT.out _) ?_
          rintro e w1' ⟨rfl, hq⟩
          rw [hq]
          clear hq w1'
          go_wp2_with fail
          have SBu := SB1
          have S3u := S31
          obtain ⟨u, hu⟩ : ∃ u, w1 = u := ⟨_, rfl⟩
          clear c0 c2' c3 c6
          subst hu

          have b6 := SBu.out.cell 6
          simp at b6
          have z3 := S3u.out.size
          have z4 := SBu.out.size
          have HPU := kide (HPK.out.later SBu.out.below)
          have HRU := kide (HRD.out.later SBu.out.below)
          have HOU := kide (HO.out.later SBu.out.below)
          have HT0 := kide hT0
          go_loopw [8, 9] (fun m q wr' => ∃ i : Nat, i ≤ kl ∧ q = .int .i64 (i : Int) ∧ m = .int .i64 ((T0 + sZ zs (ks.take i) : Nat) : Int) ∧ wr' = w1) (fun _ q _ => kl - (intOf q).toNat)
          case atStart => exact ⟨0, Nat.zero_le _, rfl, by congr 1; rw [← HTT.out]; simp [sZ]; try omega, by trivial⟩
          case round =>
            obtain ⟨i, hi, rfl, rfl, hwe⟩ := hrel
            subst hwe
            have hsr : sZ zs (ks.take i) ≤ 20002 * 1048576 := by
              have h := sZ_range HRG.out (ks.take i)
              rw [List.length_take] at h
              have : min i ks.length ≤ 1048576 := by omega
              have := Nat.mul_le_mul_left 20002 this
              omega
            by_cases hil : i < kl
            · have j0 : (i : Int) < (kl : Int) := by omega
              obtain ⟨-, -, h | ⟨kb, ko, rfl, hkc⟩⟩ := HPU.out
              · have := HKL.out; subst h; simp at this; omega
              have q0 := hkc i (by rw [HKL.out]; exact hil)
              have hki : ks[i]? = some (ks.getD i 0) := by rw [List.getElem?_eq_getElem (by rw [HKL.out]; exact hil)]; simp [List.getD, show i < ks.length by rw [HKL.out]; exact hil]
              have hkr := HKK.out (ks.getD i 0) (List.mem_of_getElem? hki)
              have HST2 := kide (sZ_take (zs := zs) hki)
              obtain ⟨j, hj, hjk⟩ : ∃ j : Nat, ks.getD i 0 = (j : Int) ∧ j < k := ⟨(ks.getD i 0).toNat, by omega, by omega⟩
              rw [hj] at q0 HST2
              rw [Int.toNat_natCast] at HST2
              obtain ⟨-, -, h | ⟨ob, oo, rfl, hoc⟩⟩ := HRU.out
              · have := hlen.out; have := zi_len zs; rw [h] at this; simp at this; omega
              have q1 := hoc j (by rw [zi_len, hlen.out]; exact hjk)
              rw [zi_at] at q1
              have hyr := szT_range HRG.out j
              have jk : (j : Int) < (k : Int) := by omega
              generalize zs.getD j 0 = y at *
              generalize sZ zs (ks.take i) = sk at *
              obtain ⟨M, hM⟩ : ∃ M : Nat, T0 + sk = M := ⟨_, rfl⟩
              rw [hM]
              have hMr : (M : Int) ≤ 20974017152 + 40000 := by omega
              have hyi : (y : Int) ≤ 20001 := by omega
              have HM := kide hM
              clear hkc hoc hki hkr hj hM hyr hsr hT0
              go_wp2_with fail
              go_roundw
              case rel => exact ⟨i + 1, by omega, by go_num, by rw [HST2.out]; congr 1; have := HM.out; omega, by trivial⟩
              case measure => simp [intOf]; omega
            · have hfin : Hid (Y = min (T0 + sZ zs (ks.take i)) 20001) := by show _ = _; rw [HNY.out, List.take_of_length_le (by rw [HKL.out]; omega)]
              obtain ⟨M, hM⟩ : ∃ M : Nat, T0 + sZ zs (ks.take i) = M := ⟨_, rfl⟩
              rw [hM] at hfin ⊢
              have hMr : (M : Int) ≤ 20974017152 + 40000 := by omega
              clear hM hsr hT0
              have HFE : Hid (min (M : Int) 20001 = (Y : Int)) := by show _ = _; have := hfin.out; omega
              by_cases hmin : (M : Int) ≤ 20001
              · have e : min (M : Int) 20001 = (M : Int) := by omega
                have HYM : Hid ((M : Int) = (Y : Int)) := by show _ = _; have := hfin.out; omega
                go_wp2_with (at_builtin; rw [HYM.out]; refine wpList_appW rfl _ _ rfl (w.heap.size + 1) _ (ziR zs) (Y : Int) rfl (World.ownsRow.alloc HOU.out _) _ rfl (by simp) (by rw [zi_len]; exact HUL.out) (by simp; omega) ?_)
                intro v7 w7 hos hg
                have S7 := kide ((S3u.out.next ((Below.refl _ _).alloc (Nat.le_refl _) (Obj.cells #[Value.int .i64 (Y : Int)] 2))).grownT (World.ownsRow.alloc HOU.out _) hg)
                have O7 := kide hos
                clear hos hg g0 b6
                go_wp2_with fail
                go_roundw
                case rel => exact ⟨k + 1, by omega, by go_num, by rw [HX.out, zi_app]; exact O7.out, S7.out⟩
                case measure => simp [intOf]; omega
              · have e : min (M : Int) 20001 = 20001 := by omega
                have HYM : Hid ((20001 : Int) = (Y : Int)) := by show _ = _; have := hfin.out; omega
                go_wp2_with (at_builtin; rw [HYM.out]; refine wpList_appW rfl _ _ rfl (w.heap.size + 1) _ (ziR zs) (Y : Int) rfl (World.ownsRow.alloc HOU.out _) _ rfl (by simp) (by rw [zi_len]; exact HUL.out) (by simp; omega) ?_)
                intro v7 w7 hos hg
                have S7 := kide ((S3u.out.next ((Below.refl _ _).alloc (Nat.le_refl _) (Obj.cells #[Value.int .i64 (Y : Int)] 2))).grownT (World.ownsRow.alloc HOU.out _) hg)
                have O7 := kide hos
                clear hos hg g0 b6
                go_wp2_with fail
                go_roundw
                case rel => exact ⟨k + 1, by omega, by go_num, by rw [HX.out, zi_app]; exact O7.out, S7.out⟩
                case measure => simp [intOf]; omega
        · obtain ⟨a0, a1⟩ := hna (by omega)
          obtain ⟨b0, b1⟩ := hnb (by omega)
          clear hna hnb
          have HAD := kide (fun u => l1Dec_any aa.toNat (by omega) u)
          have hAl := decN_small (n := aa.toNat) (by omega)
          rw [← txt_sizeT] at hAl
          have HAL := kide (txt_sizeT (decN aa.toNat))
          rw [Int.toNat_of_nonneg (by omega)] at HAD
          generalize txt (decN aa.toNat) = sA at *
          have hAz : (sA.size : Int) ≤ 8193 := by omega
          have HBD := kide (fun u => l1Dec_any bb.toNat (by omega) u)
          have hBl := decN_small (n := bb.toNat) (by omega)
          rw [← txt_sizeT] at hBl
          have HBL := kide (txt_sizeT (decN bb.toNat))
          rw [Int.toNat_of_nonneg (by omega)] at HBD
          generalize txt (decN bb.toNat) = sB at *
          have hBz : (sB.size : Int) ≤ 8193 := by omega

          rw [show (if op = 4 then (2 : Int) else if 4 < op then 1 else 0) = 2 by split <;> (try split) <;> omega] at HPT
          obtain ⟨T0, htt⟩ : ∃ T0 : Nat, 2 + sW.size + 1 + sA.size + 1 + sB.size = T0 := ⟨_, rfl⟩
          have hT0 : T0 ≤ 30000 := by omega
          have HNY : Hid (Y = min (T0 + sZ zs ks) 20001) := by
            show _ = _
            have h1 := HHL2.out
            rw [← HWL.out, ← HAL.out, ← HBL.out, if_pos (show 4 ≤ op by omega), if_pos (show op = 4 by omega)] at h1
            rw [HNZ.out, if_neg HNE.out, h1, ← htt]
            congr 1
            omega
          have HTT := kide htt
          have f1 : (op == 1) = false := by simp; omega
          have f2 : (op == 2) = false := by simp; omega
          clear htt s3 HHL HHL2 HNZ hne
          clear e4
          go_wp2_with fail
          refine Calls.mono (HWD.out _) ?_
          rintro e w1 ⟨rfl, hb1⟩
          have SB1 := kide (SB.out.next hb1)
          have S31 := kide (S3.out.next hb1)
          have c0 := SB1.out.cell 0
          have c2' := SB1.out.cell 2
          have c3 := SB1.out.cell 3
          have c6 := SB1.out.cell 6
          simp at c0 c2' c3 c6
          clear hb1
          go_wp2_with fail
          refine Calls.mono (HPT.out _) ?_
          rintro e w1' ⟨rfl, hq⟩
          rw [hq]
          clear hq w1'
          go_wp2_with fail
          refine Calls.mono (HAD.out _) ?_
          rintro e w2 ⟨rfl, hb2⟩
          have SBw2 := kide (SB1.out.next hb2)
          have S3w2 := kide (S31.out.next hb2)
          have d0 := SBw2.out.cell 0
          have d3 := SBw2.out.cell 3
          have d6 := SBw2.out.cell 6
          simp at d0 d3 d6
          clear hb2
          go_wp2_with fail
          refine Calls.mono (HPT.out _) ?_
          rintro e w1' ⟨rfl, hq⟩
          rw [hq]
          clear hq w1'
          go_wp2_with fail
          clear c0 c2' c3 c6
          refine Calls.mono (HBD.out _) ?_
          rintro e w3 ⟨rfl, hb2⟩
          have SBw3 := kide (SBw2.out.next hb2)
          have S3w3 := kide (S3w2.out.next hb2)
          clear hb2 d0 d3 d6
          have d6 := SBw3.out.cell 6
          simp at d6
          go_wp2_with fail
          clear d6
          have SBu := SBw3
          have S3u := S3w3

          have b6 := SBu.out.cell 6
          simp at b6
          have z3 := S3u.out.size
          have z4 := SBu.out.size
          have HPU := kide (HPK.out.later SBu.out.below)
          have HRU := kide (HRD.out.later SBu.out.below)
          have HOU := kide (HO.out.later SBu.out.below)
          have HT0 := kide hT0
          go_loopw [8, 9] (fun m q wr' => ∃ i : Nat, i ≤ kl ∧ q = .int .i64 (i : Int) ∧ m = .int .i64 ((T0 + sZ zs (ks.take i) : Nat) : Int) ∧ wr' = w3) (fun _ q _ => kl - (intOf q).toNat)
          case atStart => exact ⟨0, Nat.zero_le _, rfl, by congr 1; rw [← HTT.out]; simp [sZ]; try omega, by trivial⟩
          case round =>
            obtain ⟨i, hi, rfl, rfl, hwe⟩ := hrel
            subst hwe
            have hsr : sZ zs (ks.take i) ≤ 20002 * 1048576 := by
              have h := sZ_range HRG.out (ks.take i)
              rw [List.length_take] at h
              have : min i ks.length ≤ 1048576 := by omega
              have := Nat.mul_le_mul_left 20002 this
              omega
            by_cases hil : i < kl
            · have j0 : (i : Int) < (kl : Int) := by omega
              obtain ⟨-, -, h | ⟨kb, ko, rfl, hkc⟩⟩ := HPU.out
              · have := HKL.out; subst h; simp at this; omega
              have q0 := hkc i (by rw [HKL.out]; exact hil)
              have hki : ks[i]? = some (ks.getD i 0) := by rw [List.getElem?_eq_getElem (by rw [HKL.out]; exact hil)]; simp [List.getD, show i < ks.length by rw [HKL.out]; exact hil]
              have hkr := HKK.out (ks.getD i 0) (List.mem_of_getElem? hki)
              have HST2 := kide (sZ_take (zs := zs) hki)
              obtain ⟨j, hj, hjk⟩ : ∃ j : Nat, ks.getD i 0 = (j : Int) ∧ j < k := ⟨(ks.getD i 0).toNat, by omega, by omega⟩
              rw [hj] at q0 HST2
              rw [Int.toNat_natCast] at HST2
              obtain ⟨-, -, h | ⟨ob, oo, rfl, hoc⟩⟩ := HRU.out
              · have := hlen.out; have := zi_len zs; rw [h] at this; simp at this; omega
              have q1 := hoc j (by rw [zi_len, hlen.out]; exact hjk)
              rw [zi_at] at q1
              have hyr := szT_range HRG.out j
              have jk : (j : Int) < (k : Int) := by omega
              generalize zs.getD j 0 = y at *
              generalize sZ zs (ks.take i) = sk at *
              obtain ⟨M, hM⟩ : ∃ M : Nat, T0 + sk = M := ⟨_, rfl⟩
              rw [hM]
              have hMr : (M : Int) ≤ 20974017152 + 40000 := by omega
              have hyi : (y : Int) ≤ 20001 := by omega
              have HM := kide hM
              clear hkc hoc hki hkr hj hM hyr hsr hT0
              go_wp2_with fail
              go_roundw
              case rel => exact ⟨i + 1, by omega, by go_num, by rw [HST2.out]; congr 1; have := HM.out; omega, by trivial⟩
              case measure => simp [intOf]; omega
            · have hfin : Hid (Y = min (T0 + sZ zs (ks.take i)) 20001) := by show _ = _; rw [HNY.out, List.take_of_length_le (by rw [HKL.out]; omega)]
              obtain ⟨M, hM⟩ : ∃ M : Nat, T0 + sZ zs (ks.take i) = M := ⟨_, rfl⟩
              rw [hM] at hfin ⊢
              have hMr : (M : Int) ≤ 20974017152 + 40000 := by omega
              clear hM hsr hT0
              have HFE : Hid (min (M : Int) 20001 = (Y : Int)) := by show _ = _; have := hfin.out; omega
              by_cases hmin : (M : Int) ≤ 20001
              · have e : min (M : Int) 20001 = (M : Int) := by omega
                have HYM : Hid ((M : Int) = (Y : Int)) := by show _ = _; have := hfin.out; omega
                go_wp2_with (at_builtin; rw [HYM.out]; refine wpList_appW rfl _ _ rfl (w.heap.size + 1) _ (ziR zs) (Y : Int) rfl (World.ownsRow.alloc HOU.out _) _ rfl (by simp) (by rw [zi_len]; exact HUL.out) (by simp; omega) ?_)
                intro v7 w7 hos hg
                have S7 := kide ((S3u.out.next ((Below.refl _ _).alloc (Nat.le_refl _) (Obj.cells #[Value.int .i64 (Y : Int)] 2))).grownT (World.ownsRow.alloc HOU.out _) hg)
                have O7 := kide hos
                clear hos hg g0 b6
                go_wp2_with fail
                go_roundw
                case rel => exact ⟨k + 1, by omega, by go_num, by rw [HX.out, zi_app]; exact O7.out, S7.out⟩
                case measure => simp [intOf]; omega
              · have e : min (M : Int) 20001 = 20001 := by omega
                have HYM : Hid ((20001 : Int) = (Y : Int)) := by show _ = _; have := hfin.out; omega
                go_wp2_with (at_builtin; rw [HYM.out]; refine wpList_appW rfl _ _ rfl (w.heap.size + 1) _ (ziR zs) (Y : Int) rfl (World.ownsRow.alloc HOU.out _) _ rfl (by simp) (by rw [zi_len]; exact HUL.out) (by simp; omega) ?_)
                intro v7 w7 hos hg
                have S7 := kide ((S3u.out.next ((Below.refl _ _).alloc (Nat.le_refl _) (Obj.cells #[Value.int .i64 (Y : Int)] 2))).grownT (World.ownsRow.alloc HOU.out _) hg)
                have O7 := kide hos
                clear hos hg g0 b6
                go_wp2_with fail
                go_roundw
                case rel => exact ⟨k + 1, by omega, by go_num, by rw [HX.out, zi_app]; exact O7.out, S7.out⟩
                case measure => simp [intOf]; omega
        · obtain ⟨a0, a1⟩ := hna (by omega)
          clear hna hnb
          have HAD := kide (fun u => l1Dec_any aa.toNat (by omega) u)
          have hAl := decN_small (n := aa.toNat) (by omega)
          rw [← txt_sizeT] at hAl
          have HAL := kide (txt_sizeT (decN aa.toNat))
          rw [Int.toNat_of_nonneg (by omega)] at HAD
          generalize txt (decN aa.toNat) = sA at *
          have hAz : (sA.size : Int) ≤ 8193 := by omega

          rw [show (if op = 4 then (2 : Int) else if 4 < op then 1 else 0) = 1 by split <;> (try split) <;> omega] at HPT
          obtain ⟨T0, htt⟩ : ∃ T0 : Nat, 2 + sW.size + 1 + sA.size = T0 := ⟨_, rfl⟩
          have hT0 : T0 ≤ 30000 := by omega
          have HNY : Hid (Y = min (T0 + sZ zs ks) 20001) := by
            show _ = _
            have h1 := HHL2.out
            rw [← HWL.out, ← HAL.out, if_pos (show 4 ≤ op by omega), if_neg (show ¬ op = 4 by omega)] at h1
            rw [HNZ.out, if_neg HNE.out, h1, ← htt]
            congr 1
            omega
          have HTT := kide htt
          have f1 : (op == 1) = false := by simp; omega
          have f2 : (op == 2) = false := by simp; omega
          clear htt s3 HHL HHL2 HNZ hne

          go_wp2_with fail
          refine Calls.mono (HWD.out _) ?_
          rintro e w1 ⟨rfl, hb1⟩
          have SB1 := kide (SB.out.next hb1)
          have S31 := kide (S3.out.next hb1)
          have c0 := SB1.out.cell 0
          have c2' := SB1.out.cell 2
          have c3 := SB1.out.cell 3
          have c6 := SB1.out.cell 6
          simp at c0 c2' c3 c6
          clear hb1
          go_wp2_with fail
          refine Calls.mono (HPT.out _) ?_
          rintro e w1' ⟨rfl, hq⟩
          rw [hq]
          clear hq w1'
          go_wp2_with fail
          refine Calls.mono (HAD.out _) ?_
          rintro e w2 ⟨rfl, hb2⟩
          have SBw2 := kide (SB1.out.next hb2)
          have S3w2 := kide (S31.out.next hb2)
          have d0 := SBw2.out.cell 0
          have d3 := SBw2.out.cell 3
          have d6 := SBw2.out.cell 6
          simp at d0 d3 d6
          clear hb2
          go_wp2_with fail
          refine Calls.mono (HPT.out _) ?_
          rintro e w1' ⟨rfl, hq⟩
          rw [hq]
          clear hq w1'
          go_wp2_with fail
          clear d0 d3 d6 c0 c2' c3 c6
          have SBu := SBw2
          have S3u := S3w2

          have b6 := SBu.out.cell 6
          simp at b6
          have z3 := S3u.out.size
          have z4 := SBu.out.size
          have HPU := kide (HPK.out.later SBu.out.below)
          have HRU := kide (HRD.out.later SBu.out.below)
          have HOU := kide (HO.out.later SBu.out.below)
          have HT0 := kide hT0
          go_loopw [8, 9] (fun m q wr' => ∃ i : Nat, i ≤ kl ∧ q = .int .i64 (i : Int) ∧ m = .int .i64 ((T0 + sZ zs (ks.take i) : Nat) : Int) ∧ wr' = w2) (fun _ q _ => kl - (intOf q).toNat)
          case atStart => exact ⟨0, Nat.zero_le _, rfl, by congr 1; rw [← HTT.out]; simp [sZ]; try omega, by trivial⟩
          case round =>
            obtain ⟨i, hi, rfl, rfl, hwe⟩ := hrel
            subst hwe
            have hsr : sZ zs (ks.take i) ≤ 20002 * 1048576 := by
              have h := sZ_range HRG.out (ks.take i)
              rw [List.length_take] at h
              have : min i ks.length ≤ 1048576 := by omega
              have := Nat.mul_le_mul_left 20002 this
              omega
            by_cases hil : i < kl
            · have j0 : (i : Int) < (kl : Int) := by omega
              obtain ⟨-, -, h | ⟨kb, ko, rfl, hkc⟩⟩ := HPU.out
              · have := HKL.out; subst h; simp at this; omega
              have q0 := hkc i (by rw [HKL.out]; exact hil)
              have hki : ks[i]? = some (ks.getD i 0) := by rw [List.getElem?_eq_getElem (by rw [HKL.out]; exact hil)]; simp [List.getD, show i < ks.length by rw [HKL.out]; exact hil]
              have hkr := HKK.out (ks.getD i 0) (List.mem_of_getElem? hki)
              have HST2 := kide (sZ_take (zs := zs) hki)
              obtain ⟨j, hj, hjk⟩ : ∃ j : Nat, ks.getD i 0 = (j : Int) ∧ j < k := ⟨(ks.getD i 0).toNat, by omega, by omega⟩
              rw [hj] at q0 HST2
              rw [Int.toNat_natCast] at HST2
              obtain ⟨-, -, h | ⟨ob, oo, rfl, hoc⟩⟩ := HRU.out
              · have := hlen.out; have := zi_len zs; rw [h] at this; simp at this; omega
              have q1 := hoc j (by rw [zi_len, hlen.out]; exact hjk)
              rw [zi_at] at q1
              have hyr := szT_range HRG.out j
              have jk : (j : Int) < (k : Int) := by omega
              generalize zs.getD j 0 = y at *
              generalize sZ zs (ks.take i) = sk at *
              obtain ⟨M, hM⟩ : ∃ M : Nat, T0 + sk = M := ⟨_, rfl⟩
              rw [hM]
              have hMr : (M : Int) ≤ 20974017152 + 40000 := by omega
              have hyi : (y : Int) ≤ 20001 := by omega
              have HM := kide hM
              clear hkc hoc hki hkr hj hM hyr hsr hT0
              go_wp2_with fail
              go_roundw
              case rel => exact ⟨i + 1, by omega, by go_num, by rw [HST2.out]; congr 1; have := HM.out; omega, by trivial⟩
              case measure => simp [intOf]; omega
            · have hfin : Hid (Y = min (T0 + sZ zs (ks.take i)) 20001) := by show _ = _; rw [HNY.out, List.take_of_length_le (by rw [HKL.out]; omega)]
              obtain ⟨M, hM⟩ : ∃ M : Nat, T0 + sZ zs (ks.take i) = M := ⟨_, rfl⟩
              rw [hM] at hfin ⊢
              have hMr : (M : Int) ≤ 20974017152 + 40000 := by omega
              clear hM hsr hT0
              have HFE : Hid (min (M : Int) 20001 = (Y : Int)) := by show _ = _; have := hfin.out; omega
              by_cases hmin : (M : Int) ≤ 20001
              · have e : min (M : Int) 20001 = (M : Int) := by omega
                have HYM : Hid ((M : Int) = (Y : Int)) := by show _ = _; have := hfin.out; omega
                go_wp2_with (at_builtin; rw [HYM.out]; refine wpList_appW rfl _ _ rfl (w.heap.size + 1) _ (ziR zs) (Y : Int) rfl (World.ownsRow.alloc HOU.out _) _ rfl (by simp) (by rw [zi_len]; exact HUL.out) (by simp; omega) ?_)
                intro v7 w7 hos hg
                have S7 := kide ((S3u.out.next ((Below.refl _ _).alloc (Nat.le_refl _) (Obj.cells #[Value.int .i64 (Y : Int)] 2))).grownT (World.ownsRow.alloc HOU.out _) hg)
                have O7 := kide hos
                clear hos hg g0 b6
                go_wp2_with fail
                go_roundw
                case rel => exact ⟨k + 1, by omega, by go_num, by rw [HX.out, zi_app]; exact O7.out, S7.out⟩
                case measure => simp [intOf]; omega
              · have e : min (M : Int) 20001 = 20001 := by omega
                have HYM : Hid ((20001 : Int) = (Y : Int)) := by show _ = _; have := hfin.out; omega
                go_wp2_with (at_builtin; rw [HYM.out]; refine wpList_appW rfl _ _ rfl (w.heap.size + 1) _ (ziR zs) (Y : Int) rfl (World.ownsRow.alloc HOU.out _) _ rfl (by simp) (by rw [zi_len]; exact HUL.out) (by simp; omega) ?_)
                intro v7 w7 hos hg
                have S7 := kide ((S3u.out.next ((Below.refl _ _).alloc (Nat.le_refl _) (Obj.cells #[Value.int .i64 (Y : Int)] 2))).grownT (World.ownsRow.alloc HOU.out _) hg)
                have O7 := kide hos
                clear hos hg g0 b6
                go_wp2_with fail
                go_roundw
                case rel => exact ⟨k + 1, by omega, by go_num, by rw [HX.out, zi_app]; exact O7.out, S7.out⟩
                case measure => simp [intOf]; omega
    · have e : k = n := by omega
      subst e
      have hfin : Hid (szR ds (ns.take k) = Z) := by show _ = _; rw [List.take_of_length_le (by rw [hln.out]; omega)]; exact HZ.out
      rw [hfin.out] at HO
      clear hfin
      go_wp2_with fail
      go_ret
      exact ⟨_, rfl, HO.out, HST.out.below⟩

end Go.Proofs.YteenmffhbgpahaaDoor
