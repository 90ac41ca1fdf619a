/- What the program's Leaves answers. -/
import Derived.Test.YtpkdoanccjchdaaDoorQY
import Derived.Test.YtpkdoanccjchdaaDoorLW
namespace Go.Proofs.YtpkdoanccjchdaaDoor
set_option linter.unusedVariables false
set_option linter.unusedSimpArgs false
open Go.RowKit

set_option maxHeartbeats 2000000 in
set_option maxRecDepth 100000 in
theorem implLeaves_any (a b : Option Addr) (c c2 n : Nat) (ds : List Dc) (xs : List Tg) (w : World) (hr : RdD w a ds) (hs : RdT w b xs) (hn : xs.length = n) (hG : GF w) :
    Calls Tryd.prog 28 #[.slice a ds.length c, .agg #[.slice b n c2]] w fun e w' => e = .returned (.int .i64 (leavesR ds (xs.map Tg.ct))) ∧ Below w.heap.size w w' := by
  have s0 := St.start w (.cells #[.slice b n c2] 42)
  have HW := kide (rightWidths_any a b c c2 n ds xs _ (hr.later s0.below) (hs.later s0.below) hn (hG.later s0.below))
  have hn2 : n ≤ 1048576 := by rw [← hn]; exact hs.1
  have HS := kide hs
  have HN := kide hn
  by_cases h0 : (widthsR ds (xs.map Tg.ct)).length = 0
  · have hv : leavesR ds (xs.map Tg.ct) = -1 := by unfold leavesR; rw [if_pos h0]
    have hR : widthsR ds (xs.map Tg.ct) = [] := List.eq_nil_of_length_eq_zero h0
    rw [hv]
    rw [hR] at HW
    clear hr hs hn hv h0 hR hG
    go_enter Tryd.func28, Tryd.ntmps28
    go_wp2_with fail
    refine Calls.mono HW.out ?_
    rintro e w2 ⟨a2, c3, rfl, hr2, hnl, hb2⟩
    have hn0 := hnl rfl
    subst hn0
    have s2 := s0.next hb2
    clear hb2 HW hnl hr2
    have heq : ∀ u, (binOp .eql 38 (.slice none (([] : List Int).length) c3) (.slice none 0 0)).run Tryd.prog u = .ok (.bool true) u := fun u => by rw [Lib.run_eql_slice_nil u 38 2 none _ c3 0 0 Tryd.underlying38]; rfl
    simp only [List.length_nil] at heq ⊢
    go_wp2_with fail
    go_ret
    exact ⟨rfl, s2.below⟩
  · have hv : leavesR ds (xs.map Tg.ct) = (lvsR (xs.map Tg.ct)).getD (n - 1) 0 := by unfold leavesR; rw [if_neg h0, List.length_map, hn]
    obtain ⟨hl1, hl2, -, hkid⟩ := right_kids h0
    rw [List.length_map, hn] at hl1 hl2
    have HK := kide hkid
    rw [hv]
    generalize widthsR ds (xs.map Tg.ct) = R at HW h0
    obtain ⟨ns, hns⟩ : ∃ ns, xs.map Tg.ct = ns := ⟨_, rfl⟩
    rw [hns] at HK ⊢
    have HNS := kide hns
    have hln : Hid (ns.length = n) := by show _ = _; rw [← HNS.out]; simpa using HN.out
    generalize hZ : (lvsR ns).getD (n - 1) 0 = Z
    have HZ := kide hZ
    have hmk := fun kl kc w => run_make_row' (P := Tryd.prog) 38 2 (.int .i64 0) 8 Tryd.underlying38 Tryd.infoI64 rfl kl kc n (by omega) (by omega) w
    clear hr hs hn hv hns hkid hZ hG
    go_enter Tryd.func28, Tryd.ntmps28
    go_wp2_with fail
    refine Calls.mono HW.out ?_
    rintro e w2 ⟨a2, c3, rfl, hr2, hnl, hb2⟩
    obtain ⟨b2, o2, rfl⟩ : ∃ b2 o2, a2 = some ⟨b2, o2, none⟩ := by
      obtain ⟨-, -, h | ⟨b2, o2, h, -⟩⟩ := hr2
      · subst h; simp at h0
      · exact ⟨b2, o2, h⟩
    have s2 := s0.next hb2
    have g0 := s2.cell 0
    simp at g0
    have hz := s2.size
    obtain ⟨g, hg⟩ : ∃ g, w2.heap.size = g := ⟨_, rfl⟩
    have hgs : w.heap.size < g := by omega
    have S2 := kide (s2.next ((Below.refl _ _).alloc (Nat.le_refl _) (Obj.cells (madeCells #[Value.int .i64 0] n) 2)))
    have O2 : Hid (OwnI (w2.alloc (Obj.cells (madeCells #[Value.int .i64 0] n) 2)) g (lvsR (ns.take 0) ++ List.replicate (n - (lvsR (ns.take 0)).length) 0)) := by
      have e := heap_alloc_new w2 (.cells (madeCells #[Value.int .i64 0] n) 2)
      rw [hg, i64s_made] at e
      show OwnI _ _ _
      simpa [lvsR, OwnI, i64s_made] using e
    clear hb2 HW hnl hr2 h0 s0 s2
    generalize R.length = rl at *
    have heq : ∀ u, (binOp .eql 38 (.slice (some ⟨b2, o2, none⟩) rl c3) (.slice none 0 0)).run Tryd.prog u = .ok (.bool false) u := fun u => by rw [Lib.run_eql_slice_nil u 38 2 (some ⟨b2, o2, none⟩) rl c3 0 0 Tryd.underlying38]; rfl
    go_wp2_with fail
    try rw [hg]
    generalize w2.alloc (Obj.cells (madeCells #[Value.int .i64 0] n) 2) = w3 at *
    go_loopw [22] (fun q wr => ∃ k : Nat, k ≤ n ∧ q = .int .i64 (k : Int) ∧ OwnI wr g (lvsR (ns.take k) ++ List.replicate (n - (lvsR (ns.take k)).length) 0) ∧ St w (.cells #[.slice b n c2] 42) wr) (fun q _ => n - (intOf q).toNat)
    case atStart => exact ⟨0, Nat.zero_le _, rfl, O2.out, S2.out⟩
    case round =>
      obtain ⟨k, hk, rfl, hown, hst⟩ := hrel
      have HO := kide hown
      have HST := kide hst
      clear hown hst S2 O2 g0 heq hmk hg
      by_cases hlt : k < n
      · have i0 : (k : Int) < (n : Int) := by omega
        obtain ⟨⟨s1, wa, wc, ka, kc⟩, gx⟩ : ∃ x, xs[k]? = some x := ⟨xs[k]'(by rw [HN.out]; exact hlt), List.getElem?_eq_getElem _⟩
        have gn : ns[k]? = some s1 := by rw [← HNS.out, List.getElem?_map, gx]; rfl
        obtain ⟨-, h | ⟨b3, o3, rfl, hc⟩⟩ := HS.out.later HST.out.below
        · rw [h] at gx; simp at gx
        obtain ⟨⟨p0, p1, p2, p3, p4, p5, p6⟩, pr, pk, -⟩ := hc k _ gx
        simp only [Tg.hd] at p0 p1 p2 p3 p4 p5 p6 pr pk
        have HX := kide (lvs_take gn)
        have HKK := kide (HK.out k s1 gn)
        obtain ⟨op, vr, aa, bb, bw, ws, ks⟩ := s1
        simp only [] at p0 p1 p2 p3 p4 p5 p6 HX HKK pk
        have hks := pk.1
        have HRG := kide (lvs_range (ns.take k))
        have hlen : Hid ((lvsR (ns.take k)).length = k) := by show _ = _; rw [lvs_len, List.length_take, hln.out]; omega
        obtain ⟨kl, hkl⟩ : ∃ m, ks.length = m := ⟨_, rfl⟩
        rw [hkl] at hks p6
        have hbn : Below wr.heap.size wr (wr.alloc (Obj.cells #[Value.int .i64 op, Value.int .i64 vr, Value.int .i64 aa, Value.int .i64 bb, Value.int .i64 bw, Value.slice wa ws.length wc, Value.slice ka kl kc] 72)) := (Below.refl _ _).alloc (Nat.le_refl _) _
        have HS1 := kide (HST.out.next hbn)
        have HO1 := kide (HO.out.later hbn HO.out.lt)
        have HPK := kide (pk.later hbn)
        have t6 : (wr.alloc (Obj.cells #[Value.int .i64 op, Value.int .i64 vr, Value.int .i64 aa, Value.int .i64 bb, Value.int .i64 bw, Value.slice wa ws.length wc, Value.slice ka kl kc] 72)).cell? ⟨wr.heap.size, 6, none⟩ = some (Value.slice ka kl kc) := by simp [go_sem]
        have HKL := kide hkl
        generalize lvsR (ns.take k) = ls at *
        clear hc gx gn pr pk hbn hkl
        by_cases hkz : kl = 0
        · have hkzz := hkz
          have hcz : ((kl : Int) == 0) = true := by subst hkz; rfl
          have hcv : Hid (lvN ls ks = min 1000000 (1 + sK ls ks)) := by show _ = _; unfold lvN; rw [HKL.out, if_pos hkz]
          have HKZ := kide hkz
          clear hkz hkzz
          go_wp2_with fail
          generalize wr.alloc (Obj.cells #[Value.int .i64 op, Value.int .i64 vr, Value.int .i64 aa, Value.int .i64 bb, Value.int .i64 bw, Value.slice wa ws.length wc, Value.slice ka kl kc] 72) = W0 at *
          go_loopw [8, 34] (fun m q wr' => ∃ i : Nat, i ≤ kl ∧ q = .int .i64 (i : Int) ∧ m = .int .i64 (1 + sK ls (ks.take i)) ∧ wr' = W0) (fun _ q _ => kl - (intOf q).toNat)
          case atStart => exact ⟨0, Nat.zero_le _, rfl, by simp [sK]; try omega, by trivial⟩
          case round =>
            obtain ⟨i, hi, rfl, rfl, hwe⟩ := hrel
            subst hwe
            have hsr := sK_range HRG.out (ks.take i)
            have hsl : (ks.take i).length ≤ 1048576 := by rw [List.length_take, HKL.out]; omega
            by_cases hil : i < kl
            · have := HKZ.out; omega
            · have hfin : Hid (ks.take i = ks) := by show _ = _; rw [List.take_of_length_le (by rw [HKL.out]; omega)]
              rw [hfin.out] at hsr hsl ⊢
              have hY := hcv.out
              generalize lvN ls ks = Y at *
              have q2 := HO1.out.cell (i := k) (by rw [List.length_append, hlen.out, List.length_replicate]; omega)
              have q3 := HO1.out.free k
              generalize (ls ++ List.replicate (n - ls.length) 0).getD k 0 = z0 at q2
              have HO2 := kide (HO1.out.put k Y)
              have sb : 0 ≤ sK ls ks ∧ sK ls ks ≤ 1048576000000 := by omega
              have SN := kide (Below.setCell HS1.out (p := ⟨g, k, none⟩) hgs (.int .i64 Y))
              generalize sK ls ks = sk at *
              clear hfin
              have hset : Hid ((ls ++ List.replicate (n - ls.length) 0).set k Y = (ls ++ [Y]) ++ List.replicate (n - (ls ++ [Y]).length) 0) := by show _ = _; exact (show (ls ++ List.replicate (n - ls.length) 0).set k Y = (ls ++ List.replicate (n - ls.length) 0).set ls.length Y by rw [hlen.out]).trans (set_next ls n Y (by rw [hlen.out]; exact hlt))
              go_wp2_with fail
              go_roundw
              case rel =>
                have eY : min (1 + sk) 1000000 = Y := by omega
                have eY1 : min 1000000 (1 + sk) = Y := by omega
                have eY2 : 1 = 0 → min sk 1000000 = Y := by omega
                have o2 := HO2.out
                rw [hset.out] at o2
                refine ⟨k + 1, by omega, by go_num, ?_, ?_⟩
                · rw [HX.out]
                  first | exact o2 | (rw [eY]; exact o2) | (rw [eY1]; exact o2) | (rw [eY2 rfl]; exact o2)
                · first | exact SN.out | (rw [eY]; exact SN.out) | (rw [eY1]; exact SN.out) | (rw [eY2 rfl]; exact SN.out)
              case measure => simp [intOf]; omega
        · have hkzz := hkz
          have hcz : ((kl : Int) == 0) = false := by simpa using hkz
          have hcv : Hid (lvN ls ks = min 1000000 (0 + sK ls ks)) := by show _ = _; unfold lvN; rw [HKL.out, if_neg hkz]
          have HKZ := kide hkz
          clear hkz hkzz
          go_wp2_with fail
          generalize wr.alloc (Obj.cells #[Value.int .i64 op, Value.int .i64 vr, Value.int .i64 aa, Value.int .i64 bb, Value.int .i64 bw, Value.slice wa ws.length wc, Value.slice ka kl kc] 72) = W0 at *
          go_loopw [8, 34] (fun m q wr' => ∃ i : Nat, i ≤ kl ∧ q = .int .i64 (i : Int) ∧ m = .int .i64 (0 + sK ls (ks.take i)) ∧ wr' = W0) (fun _ q _ => kl - (intOf q).toNat)
          case atStart => exact ⟨0, Nat.zero_le _, rfl, by simp [sK]; try omega, by trivial⟩
          case round =>
            obtain ⟨i, hi, rfl, rfl, hwe⟩ := hrel
            subst hwe
            have hsr := sK_range HRG.out (ks.take i)
            have hsl : (ks.take i).length ≤ 1048576 := by rw [List.length_take, HKL.out]; omega
            by_cases hil : i < kl
            · have j0 : (i : Int) < (kl : Int) := by omega
              obtain ⟨-, -, h | ⟨kb, ko, rfl, hkc⟩⟩ := HPK.out
              · have := HKL.out; subst h; simp at this; omega
              have q0 := hkc i (by rw [HKL.out]; exact hil)
              have hki : ks[i]? = some (ks.getD i 0) := by rw [List.getElem?_eq_getElem (by rw [HKL.out]; exact hil)]; simp [List.getD, show i < ks.length by rw [HKL.out]; exact hil]
              have hkr := HKK.out (ks.getD i 0) (List.mem_of_getElem? hki)
              have HST2 := kide (sK_take (ls := ls) hki)
              obtain ⟨j, hj, hjk⟩ : ∃ j : Nat, ks.getD i 0 = (j : Int) ∧ j < k := ⟨(ks.getD i 0).toNat, by omega, by omega⟩
              rw [hj] at q0 HST2
              rw [Int.toNat_natCast] at HST2
              have q1 := HO1.out.cell (i := j) (by rw [List.length_append, hlen.out]; omega)
              rw [getD_left _ _ _ _ (by rw [hlen.out]; exact hjk)] at q1
              have hyr := getD_range HRG.out j
              generalize ls.getD j 0 = y at *
              generalize sK ls (ks.take i) = sk at *
              have jk : (j : Int) < (n : Int) := by omega
              have sb : 0 ≤ sk ∧ sk ≤ 1048576000000 := by omega
              clear hkc hki hkr hj
              go_wp2_with fail
              go_roundw
              case rel => exact ⟨i + 1, by omega, by go_num, by rw [HST2.out]; congr 1; omega, by trivial⟩
              case measure => simp [intOf]; omega
            · have hfin : Hid (ks.take i = ks) := by show _ = _; rw [List.take_of_length_le (by rw [HKL.out]; omega)]
              rw [hfin.out] at hsr hsl ⊢
              have hY := hcv.out
              generalize lvN ls ks = Y at *
              have q2 := HO1.out.cell (i := k) (by rw [List.length_append, hlen.out, List.length_replicate]; omega)
              have q3 := HO1.out.free k
              generalize (ls ++ List.replicate (n - ls.length) 0).getD k 0 = z0 at q2
              have HO2 := kide (HO1.out.put k Y)
              have sb : 0 ≤ sK ls ks ∧ sK ls ks ≤ 1048576000000 := by omega
              have SN := kide (Below.setCell HS1.out (p := ⟨g, k, none⟩) hgs (.int .i64 Y))
              generalize sK ls ks = sk at *
              clear hfin
              have hset : Hid ((ls ++ List.replicate (n - ls.length) 0).set k Y = (ls ++ [Y]) ++ List.replicate (n - (ls ++ [Y]).length) 0) := by show _ = _; exact (show (ls ++ List.replicate (n - ls.length) 0).set k Y = (ls ++ List.replicate (n - ls.length) 0).set ls.length Y by rw [hlen.out]).trans (set_next ls n Y (by rw [hlen.out]; exact hlt))
              go_wp2_with fail
              go_roundw
              case rel =>
                have eY : min (0 + sk) 1000000 = Y := by omega
                have eY1 : min 1000000 (0 + sk) = Y := by omega
                have eY2 : 0 = 0 → min sk 1000000 = Y := by omega
                have o2 := HO2.out
                rw [hset.out] at o2
                refine ⟨k + 1, by omega, by go_num, ?_, ?_⟩
                · rw [HX.out]
                  first | exact o2 | (rw [eY]; exact o2) | (rw [eY1]; exact o2) | (rw [eY2 rfl]; exact o2)
                · first | exact SN.out | (rw [eY]; exact SN.out) | (rw [eY1]; exact SN.out) | (rw [eY2 rfl]; exact SN.out)
              case measure => simp [intOf]; omega
      · have e : k = n := by omega
        subst e
        have hfin : Hid (lvsR (ns.take k) = lvsR ns) := by show _ = _; rw [List.take_of_length_le (by rw [hln.out]; omega)]
        rw [hfin.out] at HO
        have hlen : Hid ((lvsR ns).length = k) := by show _ = _; rw [lvs_len, hln.out]
        obtain ⟨m, rfl⟩ : ∃ m, k = m + 1 := ⟨k - 1, by omega⟩
        have q1 := HO.out.cell (i := m) (by rw [List.length_append, hlen.out]; omega)
        rw [getD_left _ _ _ _ (by rw [hlen.out]; omega)] at q1
        have hz := HZ.out
        rw [show m + 1 - 1 = m by omega] at hz
        rw [hz] at q1
        have e1 : (((m + 1 : Nat) : Int) - 1) = (m : Int) := by omega
        have e2 : (m : Int) < ((m + 1 : Nat) : Int) := by omega
        clear hz hfin
        go_wp2_with fail
        go_ret
        exact ⟨rfl, HST.out.below⟩

end Go.Proofs.YtpkdoanccjchdaaDoor
