/- The program's termLength. -/
import Derived.Test.YteenmffhbgpahaaDoorWTI
import Derived.Test.YteenmffhbgpahaaDoorZWN
import Derived.Deep.OwnRows
namespace Go.Proofs.YteenmffhbgpahaaDoor
set_option linter.unusedVariables false
set_option linter.unusedSimpArgs false
open Go.RowKit

def OwnJ (w : World) (g : Nat) (ks : List Int) : Prop := w.heap[g]? = some (.cells (i64s ks) 3 (0, 0))
theorem OwnJ.cell {w : World} {g : Nat} {ks : List Int} (h : OwnJ w g ks) {i : Nat} (hi : i < ks.length) : w.cell? ⟨g, i, none⟩ = some (.int .i64 (ks.getD i 0)) := by
  rw [cell_of_row w g i _ _ _ h, i64s_get _ _ hi]
theorem OwnJ.free {w : World} {g : Nat} {ks : List Int} (h : OwnJ w g ks) (i : Nat) : w.frozen? ⟨g, i, none⟩ = false := frozen_of_row w g i _ _ h
theorem OwnJ.lt {w : World} {g : Nat} {ks : List Int} (h : OwnJ w g ks) : g < w.heap.size := lt_of_block h
theorem OwnJ.put {w : World} {g : Nat} {ks : List Int} (h : OwnJ w g ks) (i : Nat) (k : Int) : OwnJ (w.setCell ⟨g, i, none⟩ (.int .i64 k)) g (ks.set i k) := by
  unfold OwnJ
  rw [heap_setCell_same w g i _ _ _ h, i64s_set]
theorem OwnJ.later {w w' : World} {g B : Nat} {ks : List Int} (h : OwnJ w g ks) (hb : Below B w w') (hg : g < B) : OwnJ w' g ks := by
  unfold OwnJ
  rw [hb.block g hg]; exact h
/-- Texts that lie one behind the other. -/
def RdSt (w : World) (h : Nat) (l : List (List Nat)) : Prop := ∀ i s, l[i]? = some s → w.cell? ⟨h, i, none⟩ = some (.string (txt s))
theorem RdSt.later {w w' : World} {h : Nat} {l : List (List Nat)} (k : RdSt w h l) (hb : Below w.heap.size w w') : RdSt w' h l := fun i s hi => by
  have := k i s hi
  rw [kcell hb _ _ (block_lt_of_cell this)]; exact this
theorem hd_bound {ds : List Dc} {x : Tc} (hd : dclR ds = true) (h : rtN ds.length x) : (hdT ds x).length ≤ 20000 := by
  rcases rt_op h with ⟨e, -, h1, h2⟩ | ⟨e, -, hr⟩ | ⟨h3, h9, -⟩
  · have hm : x.vr.toNat < ds.length := by omega
    have gd : ds[x.vr.toNat]? = some (ds.getD x.vr.toNat (.empty, 0)) := by simp [List.getD, hm]
    have := nm_small hd gd
    unfold hdT
    rw [if_pos e]
    show (List.map UInt8.toNat _).length ≤ _
    rw [List.length_map, Array.length_toList]
    have e2 : (ds.getD x.vr.toNat (ByteArray.empty, 0)).fst.data.size = (ds.getD x.vr.toNat (ByteArray.empty, 0)).fst.size := rfl
    omega
  · unfold hdT
    rw [if_neg (by omega), if_pos e]
    have := writeR_size x.bw x.ws (.inl hr)
    omega
  · rw [hd_list h3]
    have h1 := wordN_len x.op
    have h2 : 4 ≤ x.op → (decN x.a.toNat).length ≤ 8193 := fun h4 => decN_small (by have := h.2.2.1 h4; omega)
    have h3 : x.op = 4 → (decN x.b.toNat).length ≤ 8193 := fun h4 => decN_small (by have := h.2.2.2 h4; omega)
    split <;> split <;> omega

theorem Tryd.infoInt : (Tryd.prog.info? 3).map (fun i => (i.zero, i.size, i.bytes)) = some (some (.int .i64 0), 1, 8) := by kernel_rfl

set_option maxHeartbeats 2000000 in
set_option maxRecDepth 100000 in
theorem termLength_any (b : Option Addr) (c2 n hb' hc : Nat) (ds : List Dc) (xs : List Tg) (w : World) (hs : RdT w b xs) (hn : xs.length = n) (hok : ¬ (widthsR ds (xs.map Tg.ct)).length = 0) (hh : RdSt w hb' ((xs.map Tg.ct).map (hdT ds))) :
    Calls Tryd.prog 22 #[.agg #[.slice b n c2], .slice (some ⟨hb', 0, none⟩) n hc] w fun e w' => e = .returned (.int .i64 (((szR ds (xs.map Tg.ct)).getD (n - 1) 0 : Nat) : Int)) ∧ Below w.heap.size w w' := by
  have s0 := St.start w (.cells #[.slice b n c2] 33)
  have HS := kide hs
  have HN := kide hn
  have HH := kide hh
  obtain ⟨hl1, hl2, -, hkid⟩ := right_kids hok
  rw [List.length_map, hn] at hl1 hl2
  have HK := kide hkid
  have HD := kide (dcl_right hok)
  have HT := kide (rightT_node hok)
  obtain ⟨ns, hns⟩ : ∃ ns, xs.map Tg.ct = ns := ⟨_, rfl⟩
  rw [hns] at HK HT HH ⊢
  have HNS := kide hns
  have hln : Hid (ns.length = n) := by show _ = _; rw [← HNS.out]; simpa using HN.out
  generalize hZ : (szR ds ns).getD (n - 1) 0 = Z
  have HZ := kide hZ
  have hmk := fun kl kc w => run_make_row' (P := Tryd.prog) 94 3 (.int .i64 0) 8 Tryd.underlying94 Tryd.infoInt rfl kl kc n (by omega) (by omega) w
  obtain ⟨w2, hw2⟩ : ∃ w2, w.alloc (Obj.cells #[.slice b n c2] 33) = w2 := ⟨_, rfl⟩
  rw [hw2] at s0
  have g0 := s0.cell 0
  simp at g0
  obtain ⟨g, hg⟩ : ∃ g, w2.heap.size = g := ⟨_, rfl⟩
  have hgs : w.heap.size < g := by have := s0.size; omega
  have S2 := kide (s0.next ((Below.refl _ _).alloc (Nat.le_refl _) (Obj.cells (madeCells #[Value.int .i64 0] n) 3)))
  have O2 : Hid (OwnJ (w2.alloc (Obj.cells (madeCells #[Value.int .i64 0] n) 3)) g (ziR (szR ds (ns.take 0)) ++ List.replicate (n - (ziR (szR ds (ns.take 0))).length) 0)) := by
    have e := heap_alloc_new w2 (.cells (madeCells #[Value.int .i64 0] n) 3)
    rw [hg, i64s_made] at e
    show OwnJ _ _ _
    simpa [szR, ziR, OwnJ, i64s_made] using e
  clear hs hn hok hkid hns hZ hh s0
  go_enter Tryd.func22, Tryd.ntmps22
  go_wp2_with fail
  try rw [hg]
  generalize w2.alloc (Obj.cells (madeCells #[Value.int .i64 0] n) 3) = w3 at *
  go_loopw [18] (fun q wr => ∃ k : Nat, k ≤ n ∧ q = .int .i64 (k : Int) ∧ OwnJ wr g (ziR (szR ds (ns.take k)) ++ List.replicate (n - (ziR (szR ds (ns.take k))).length) 0) ∧ St w (.cells #[.slice b n c2] 33) wr) (fun q _ => n - (intOf q).toNat)
  case atStart => exact ⟨0, Nat.zero_le _, rfl, O2.out, S2.out⟩
  case round =>
    obtain ⟨k, hk, rfl, hown, hst⟩ := hrel
    have HO := kide hown
    have HST := kide hst
    clear hown hst S2 O2 g0 hmk hg
    by_cases hlt : k < n
    · have i0 : (k : Int) < (n : Int) := by omega
      obtain ⟨⟨s1, wa, wc, ka, kc⟩, gx⟩ : ∃ x, xs[k]? = some x := ⟨xs[k]'(by rw [HN.out]; exact hlt), List.getElem?_eq_getElem _⟩
      have gn : ns[k]? = some s1 := by rw [← HNS.out, List.getElem?_map, gx]; rfl
      have gh := HH.out.later HST.out.below k (hdT ds s1) (by rw [List.getElem?_map, gn]; rfl)
      have hhb := hd_bound HD.out (HT.out s1 (List.mem_of_getElem? gn))
      rw [← txt_sizeT] at hhb
      have HHZ := kide (txt_sizeT (hdT ds s1))
      obtain ⟨-, h | ⟨b3, o3, rfl, hc'⟩⟩ := HS.out.later HST.out.below
      · rw [h] at gx; simp at gx
      obtain ⟨⟨p0, p1, p2, p3, p4, p5, p6⟩, pr, pk, -⟩ := hc' k _ gx
      simp only [Tg.hd] at p0 p1 p2 p3 p4 p5 p6 pr pk
      have HX := kide (sz_take (ds := ds) gn)
      have HNZ := kide (ndZ_eq ds (szR ds (ns.take k)) s1)
      have HKK := kide (HK.out k s1 gn)
      generalize txt (hdT ds s1) = sh at *
      obtain ⟨op, vr, aa, bb, bw, ws, ks⟩ := s1
      simp only [] at p0 p1 p2 p3 p4 p5 p6 HX HKK pk HNZ
      have hks := pk.1
      have HRG := kide (sz_range ds (ns.take k))
      have hlen : Hid ((szR ds (ns.take k)).length = k) := by show _ = _; rw [sz_len ds ns k (by rw [hln.out]; omega)]
      obtain ⟨kl, hkl⟩ : ∃ m, ks.length = m := ⟨_, rfl⟩
      rw [hkl] at hks p6
      have hbn : Below wr.heap.size wr (wr.alloc (Obj.cells #[Value.int .i64 op, Value.int .i64 vr, Value.int .i64 aa, Value.int .i64 bb, Value.int .i64 bw, Value.slice wa ws.length wc, Value.slice ka kl kc] 54)) := (Below.refl _ _).alloc (Nat.le_refl _) _
      have HS1 := kide (HST.out.next hbn)
      have HO1 := kide (HO.out.later hbn HO.out.lt)
      have HPK := kide (pk.later hbn)
      have gh1 : (wr.alloc (Obj.cells #[Value.int .i64 op, Value.int .i64 vr, Value.int .i64 aa, Value.int .i64 bb, Value.int .i64 bw, Value.slice wa ws.length wc, Value.slice ka kl kc] 54)).cell? ⟨hb', k, none⟩ = some (.string sh) := by rw [kcell hbn _ _ (block_lt_of_cell gh)]; exact gh
      have t6 : (wr.alloc (Obj.cells #[Value.int .i64 op, Value.int .i64 vr, Value.int .i64 aa, Value.int .i64 bb, Value.int .i64 bw, Value.slice wa ws.length wc, Value.slice ka kl kc] 54)).cell? ⟨wr.heap.size, 6, none⟩ = some (Value.slice ka kl kc) := by simp [go_sem]
      have HKL := kide hkl
      generalize szR ds (ns.take k) = zs at *
      generalize hY : ndZ ds zs ⟨op, vr, aa, bb, bw, ws, ks⟩ = Y at *
      clear hc' gx gn pr pk hbn hkl hY
      obtain ⟨T0, hT0⟩ : ∃ T0 : Nat, sh.size = T0 := ⟨_, rfl⟩
      have hTI : (sh.size : Int) = (T0 : Int) := by omega
      have hT3 : T0 ≤ 20000 := by omega
      have HTT := kide hT0
      clear hT0 hhb
      go_wp2_with fail
      generalize wr.alloc (Obj.cells #[Value.int .i64 op, Value.int .i64 vr, Value.int .i64 aa, Value.int .i64 bb, Value.int .i64 bw, Value.slice wa ws.length wc, Value.slice ka kl kc] 54) = W0 at *
      go_loopw [8, 31] (fun m q wr' => ∃ i : Nat, i ≤ kl ∧ q = .int .i64 (i : Int) ∧ m = .int .i64 ((T0 + sZ zs (ks.take i) : Nat) : Int) ∧ wr' = W0) (fun _ q _ => kl - (intOf q).toNat)
      case atStart => exact ⟨0, Nat.zero_le _, rfl, by congr 1, by trivial⟩
      case round =>
        obtain ⟨i, hi, rfl, rfl, hwe⟩ := hrel
        subst hwe
        have hsr : sZ zs (ks.take i) ≤ 20002 * 1048576 := by
          have h := sZ_range HRG.out (ks.take i)
          rw [List.length_take] at h
          have : min i ks.length ≤ 1048576 := by omega
          have := Nat.mul_le_mul_left 20002 this
          omega
        by_cases hil : i < kl
        · have j0 : (i : Int) < (kl : Int) := by omega
          obtain ⟨-, -, h | ⟨kb, ko, rfl, hkc⟩⟩ := HPK.out
          · have := HKL.out; subst h; simp at this; omega
          have q0 := hkc i (by rw [HKL.out]; exact hil)
          have hki : ks[i]? = some (ks.getD i 0) := by rw [List.getElem?_eq_getElem (by rw [HKL.out]; exact hil)]; simp [List.getD, show i < ks.length by rw [HKL.out]; exact hil]
          have hkr := HKK.out (ks.getD i 0) (List.mem_of_getElem? hki)
          have HST2 := kide (sZ_take (zs := zs) hki)
          obtain ⟨j, hj, hjk⟩ : ∃ j : Nat, ks.getD i 0 = (j : Int) ∧ j < k := ⟨(ks.getD i 0).toNat, by omega, by omega⟩
          rw [hj] at q0 HST2
          rw [Int.toNat_natCast] at HST2
          have q1 := HO1.out.cell (i := j) (by rw [List.length_append, zi_len, hlen.out]; omega)
          rw [getD_left _ _ _ _ (by rw [zi_len, hlen.out]; exact hjk), zi_at] at q1
          have hyr := szT_range HRG.out j
          have jk : (j : Int) < (n : Int) := by omega
          generalize zs.getD j 0 = y at *
          generalize sZ zs (ks.take i) = sk at *
          obtain ⟨M, hM⟩ : ∃ M : Nat, T0 + sk = M := ⟨_, rfl⟩
          rw [hM]
          have hMr : (M : Int) ≤ 20974017152 + 40000 := by omega
          have hyi : (y : Int) ≤ 20001 := by omega
          have HM := kide hM
          clear hkc hki hkr hj hM hyr hsr hT3
          go_wp2_with fail
          go_roundw
          case rel => exact ⟨i + 1, by omega, by go_num, by rw [HST2.out]; congr 1; have := HM.out; omega, by trivial⟩
          case measure => simp [intOf]; omega
        · have hfin : Hid (ks.take i = ks) := by show _ = _; rw [List.take_of_length_le (by rw [HKL.out]; omega)]
          rw [hfin.out] at hsr ⊢
          obtain ⟨M, hM⟩ : ∃ M : Nat, T0 + sZ zs ks = M := ⟨_, rfl⟩
          rw [hM]
          have hMr : (M : Int) ≤ 20974017152 + 40000 := by omega
          by_cases hkz : kl = 0
          · have hke : ks = [] := List.eq_nil_of_length_eq_zero (by rw [HKL.out]; exact hkz)
            obtain ⟨E, hE⟩ : ∃ E, M = E := ⟨_, rfl⟩
            have HYM : Hid (Y = min E 20001) := by
              show _ = _
              rw [HNZ.out, if_pos hke, ← HHZ.out, HTT.out, Nat.add_zero, hM, hE]
            have hcz : ¬ (0 : Int) < (kl : Int) := by omega
            rw [hE] at hMr ⊢
            clear hke hkz hM hE hsr hfin hT3
            have hil2 := hil
            clear hil
            have q2 := HO1.out.cell (i := k) (by rw [List.length_append, zi_len, hlen.out, List.length_replicate]; omega)
            have q3 := HO1.out.free k
            generalize (ziR zs ++ List.replicate (n - (ziR zs).length) 0).getD k 0 = z0 at q2
            have HO2 := kide (HO1.out.put k (Y : Int))
            have SN := kide (Below.setCell HS1.out (p := ⟨g, k, none⟩) hgs (.int .i64 (Y : Int)))
            have hset : Hid ((ziR zs ++ List.replicate (n - (ziR zs).length) 0).set k (Y : Int) = ziR (zs ++ [Y]) ++ List.replicate (n - (ziR (zs ++ [Y])).length) 0) := by
              show _ = _
              rw [zi_app]
              exact (show (ziR zs ++ List.replicate (n - (ziR zs).length) 0).set k (Y : Int) = (ziR zs ++ List.replicate (n - (ziR zs).length) 0).set (ziR zs).length (Y : Int) by rw [zi_len, hlen.out]).trans (set_next (ziR zs) n (Y : Int) (by rw [zi_len, hlen.out]; exact hlt))
            by_cases hmin : (E : Int) ≤ 20001
            · have e : min (E : Int) 20001 = (E : Int) := by omega
              have HYE : Hid (Y = E) := by show _ = _; have := HYM.out; omega
              clear hMr
              go_wp2_with fail
              go_roundw
              case rel =>
                have o2 := HO2.out
                rw [hset.out] at o2
                have sn := SN.out
                have ee := HYE.out
                refine ⟨k + 1, by omega, by go_num, ?_, ?_⟩
                · rw [HX.out]; rw [ee] at o2 ⊢; exact o2
                · rw [ee] at sn; exact sn
              case measure => simp [intOf]; omega
            · have e : min (E : Int) 20001 = 20001 := by omega
              have HYE : Hid (Y = 20001) := by show _ = _; have := HYM.out; omega
              go_wp2_with fail
              go_roundw
              case rel =>
                have o2 := HO2.out
                rw [hset.out] at o2
                have sn := SN.out
                have ee := HYE.out
                refine ⟨k + 1, by omega, by go_num, ?_, ?_⟩
                · rw [HX.out]; rw [ee] at o2 ⊢; exact o2
                · rw [ee] at sn; exact sn
              case measure => simp [intOf]; omega

          · have hke : ¬ ks = [] := fun h => hkz (by rw [← HKL.out, h]; rfl)
            obtain ⟨E, hE⟩ : ∃ E, M + 1 = E := ⟨_, rfl⟩
            have HYM : Hid (Y = min E 20001) := by
              show _ = _
              rw [HNZ.out, if_neg hke, ← HHZ.out, HTT.out, hM, hE]
            have hcz : (0 : Int) < (kl : Int) := by omega
            have hEM : (M : Int) + 1 = (E : Int) := by omega
            clear hke hkz hM hE hsr hfin hT3
            have q2 := HO1.out.cell (i := k) (by rw [List.length_append, zi_len, hlen.out, List.length_replicate]; omega)
            have q3 := HO1.out.free k
            generalize (ziR zs ++ List.replicate (n - (ziR zs).length) 0).getD k 0 = z0 at q2
            have HO2 := kide (HO1.out.put k (Y : Int))
            have SN := kide (Below.setCell HS1.out (p := ⟨g, k, none⟩) hgs (.int .i64 (Y : Int)))
            have hset : Hid ((ziR zs ++ List.replicate (n - (ziR zs).length) 0).set k (Y : Int) = ziR (zs ++ [Y]) ++ List.replicate (n - (ziR (zs ++ [Y])).length) 0) := by
              show _ = _
              rw [zi_app]
              exact (show (ziR zs ++ List.replicate (n - (ziR zs).length) 0).set k (Y : Int) = (ziR zs ++ List.replicate (n - (ziR zs).length) 0).set (ziR zs).length (Y : Int) by rw [zi_len, hlen.out]).trans (set_next (ziR zs) n (Y : Int) (by rw [zi_len, hlen.out]; exact hlt))
            by_cases hmin : (E : Int) ≤ 20001
            · have e : min (E : Int) 20001 = (E : Int) := by omega
              have HYE : Hid (Y = E) := by show _ = _; have := HYM.out; omega
              clear hMr
              go_wp2_with fail
              go_roundw
              case rel =>
                have o2 := HO2.out
                rw [hset.out] at o2
                have sn := SN.out
                have ee := HYE.out
                refine ⟨k + 1, by omega, by go_num, ?_, ?_⟩
                · rw [HX.out]; rw [ee] at o2 ⊢; exact o2
                · rw [ee] at sn; exact sn
              case measure => simp [intOf]; omega
            · have e : min (E : Int) 20001 = 20001 := by omega
              have HYE : Hid (Y = 20001) := by show _ = _; have := HYM.out; omega
              go_wp2_with fail
              go_roundw
              case rel =>
                have o2 := HO2.out
                rw [hset.out] at o2
                have sn := SN.out
                have ee := HYE.out
                refine ⟨k + 1, by omega, by go_num, ?_, ?_⟩
                · rw [HX.out]; rw [ee] at o2 ⊢; exact o2
                · rw [ee] at sn; exact sn
              case measure => simp [intOf]; omega

    · have e : k = n := by omega
      subst e
      have hfin : Hid (szR ds (ns.take k) = szR ds ns) := by show _ = _; rw [List.take_of_length_le (by rw [hln.out]; omega)]
      rw [hfin.out] at HO
      have hlen : Hid ((szR ds ns).length = k) := by
        show _ = _
        have h := sz_len ds ns ns.length (Nat.le_refl _)
        rw [List.take_length, hln.out] at h
        exact h
      obtain ⟨m, rfl⟩ : ∃ m, k = m + 1 := ⟨k - 1, by omega⟩
      have q1 := HO.out.cell (i := m) (by rw [List.length_append, zi_len, hlen.out]; omega)
      rw [getD_left _ _ _ _ (by rw [zi_len, hlen.out]; omega), zi_at] at q1
      have hz := HZ.out
      rw [show m + 1 - 1 = m by omega] at hz
      rw [hz] at q1
      have e1 : (((m + 1 : Nat) : Int) - 1) = (m : Int) := by omega
      have e2 : (m : Int) < ((m + 1 : Nat) : Int) := by omega
      clear hz hfin
      go_wp2_with fail
      go_ret
      exact ⟨rfl, HST.out.below⟩

end Go.Proofs.YteenmffhbgpahaaDoor
