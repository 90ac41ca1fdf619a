/- What the specification's Leaves answers. -/
import Derived.Test.YtpkdoanccjchdaaDoorLV
import Derived.Test.YtpkdoanccjchdaaDoorQK
namespace Go.Proofs.YtpkdoanccjchdaaDoor
set_option linter.unusedVariables false
set_option linter.unusedSimpArgs false
open Go.RowKit

theorem St.grownW {w wr wr' : World} {bx : Obj} {v : Value} {xs : List Int} (h : St w bx wr) (ho : OW wr (w.heap.size + 1) v xs) (hg : wr.grownBy wr' v.ownBlock) : St w bx wr' :=
  Below.grown h hg (by have := h.size; omega) (fun j hj => (ho.lt hj).1)

theorem lvs_in64 (ns : List Tc) : ∀ x ∈ lvsR ns, in64 x := fun x hx => by have := lvs_range ns x hx; unfold in64; omega

set_option maxHeartbeats 1000000 in
set_option maxRecDepth 100000 in
theorem specLeaves_any (a b : Option Addr) (c c2 n : Nat) (ds : List Dc) (xs : List Tg) (w : World) (hr : RdD w a ds) (hs : RdT w b xs) (hn : xs.length = n) :
    Calls Tryd.prog 27 #[.slice a ds.length c, .agg #[.slice b n c2]] w fun e w' => e = .returned (.int .i64 (leavesR ds (xs.map Tg.ct))) ∧ Below w.heap.size w w' := by
  have s0 := St.start w (.cells #[.slice b n c2] 42)
  have HW := kide (specWidth_any a b c c2 n ds xs _ (hr.later s0.below) (hs.later s0.below) hn)
  have hn2 : n ≤ 1048576 := by rw [← hn]; exact hs.1
  have HS := kide hs
  have HN := kide hn
  obtain ⟨-, hbd⟩ := widthsR_bounds ds (xs.map Tg.ct)
  by_cases h0 : (widthsR ds (xs.map Tg.ct)).length = 0
  · have hw : widR ds (xs.map Tg.ct) = -1 := by unfold widR; rw [if_pos h0]
    have hv : leavesR ds (xs.map Tg.ct) = -1 := by unfold leavesR; rw [if_pos h0]
    rw [hv]
    rw [hw] at HW
    clear hr hs hn hw hv h0 hbd
    go_enter Tryd.func27, Tryd.ntmps27
    go_wp2_with fail
    refine Calls.mono HW.out ?_
    rintro e w1 ⟨rfl, hb1⟩
    have s2 := s0.next hb1
    clear hb1
    go_wp2_with fail
    go_ret
    exact ⟨rfl, s2.below⟩
  · have hv : leavesR ds (xs.map Tg.ct) = (lvsR (xs.map Tg.ct)).getD (n - 1) 0 := by unfold leavesR; rw [if_neg h0, List.length_map, hn]
    have hw : 1 ≤ widR ds (xs.map Tg.ct) := by
      unfold widR
      rw [if_neg h0]
      refine (hbd _ ?_).1
      rw [List.getD, List.getElem?_eq_getElem (by omega)]
      simp
    obtain ⟨hl1, hl2, -, hkid⟩ := right_kids h0
    rw [List.length_map, hn] at hl1 hl2
    have HK := kide hkid
    rw [hv]
    generalize widR ds (xs.map Tg.ct) = W at HW hw
    obtain ⟨ns, hns⟩ : ∃ ns, xs.map Tg.ct = ns := ⟨_, rfl⟩
    rw [hns] at HK ⊢
    have HNS := kide hns
    have hln : Hid (ns.length = n) := by show _ = _; rw [← HNS.out]; simpa using HN.out
    have hW : ¬ W < 0 := by omega
    generalize hZ : (lvsR ns).getD (n - 1) 0 = Z
    have HZ := kide hZ
    clear hr hs hn hw hv h0 hbd hns hkid hZ
    go_enter Tryd.func27, Tryd.ntmps27
    go_wp2_with fail
    refine Calls.mono HW.out ?_
    rintro e w1 ⟨rfl, hb1⟩
    have s2 := s0.next hb1
    have hz := s2.size
    have O1 := kide (OW.fresh w1 (w.heap.size + 1) (by omega))
    have S2 := kide (s2.next ((Below.refl _ _).alloc (Nat.le_refl _) (Obj.cells #[] 2)))
    clear hb1 s2 HW
    go_wp2_with fail
    go_loopw [5, 6] (fun o q wr => ∃ k : Nat, k ≤ n ∧ q = .int .i64 (k : Int) ∧ OW wr (w.heap.size + 1) o (lvsR (ns.take k)) ∧ St w (.cells #[.slice b n c2] 42) wr) (fun _ q _ => n - (intOf q).toNat)
    case atStart => exact ⟨0, Nat.zero_le _, rfl, by simpa [lvsR] using O1.out, S2.out⟩
    case round =>
      obtain ⟨k, hk, rfl, hown, hst⟩ := hrel
      have HO := kide hown
      have HST := kide hst
      clear hown hst O1 S2 s0
      have g0 := HST.out.cell 0
      simp at g0
      by_cases hlt : k < n
      · have i0 : (k : Int) < (n : Int) := by omega
        obtain ⟨⟨s1, wa, wc, ka, kc⟩, gx⟩ : ∃ x, xs[k]? = some x := ⟨xs[k]'(by rw [HN.out]; exact hlt), List.getElem?_eq_getElem _⟩
        have gn : ns[k]? = some s1 := by rw [← HNS.out, List.getElem?_map, gx]; rfl
        obtain ⟨-, h | ⟨b2, o2, rfl, hc⟩⟩ := HS.out.later HST.out.below
        · rw [h] at gx; simp at gx
        obtain ⟨⟨p0, p1, p2, p3, p4, p5, p6⟩, pr, pk, -⟩ := hc k _ gx
        simp only [Tg.hd] at p0 p1 p2 p3 p4 p5 p6 pr pk
        have HX := kide (lvs_take gn)
        have HKK := kide (HK.out k s1 gn)
        obtain ⟨op, vr, aa, bb, bw, ws, ks⟩ := s1
        simp only [] at p0 p1 p2 p3 p4 p5 p6 HX HKK pk
        have hks := pk.1
        have HPK := kide pk
        have HRG := kide (lvs_range (ns.take k))
        have hlen : Hid ((lvsR (ns.take k)).length = k) := by show _ = _; rw [lvs_len, List.length_take, hln.out]; omega
        obtain ⟨vo, co, hvo, hrd⟩ := HO.out.rd (by rw [hlen.out]; omega) (lvs_in64 _)
        rw [hlen.out] at hvo
        subst hvo
        have HRD := kide hrd
        generalize lvsR (ns.take k) = ls at *
        clear hc gx gn pr pk p0 p1 p2 p3 p4 p5 hrd
        obtain ⟨kl, hkl⟩ : ∃ m, ks.length = m := ⟨_, rfl⟩
        rw [hkl] at hks p6
        have HKL := kide hkl
        clear hkl
        obtain ⟨c0, hc0⟩ : ∃ c0 : Int, (if kl = 0 then (1 : Int) else 0) = c0 := ⟨_, rfl⟩
        have hc01 : 0 ≤ c0 ∧ c0 ≤ 1 := by rw [← hc0]; split <;> omega
        have HC0 := kide hc0
        by_cases hkz : kl = 0
        · have hkzz := hkz
          have hcz : ((kl : Int) == 0) = true := by subst hkz; rfl
          have hcv : Hid (lvN ls ks = min 1000000 (1 + sK ls ks)) := by show _ = _; unfold lvN; rw [HKL.out, if_pos hkz]
          go_wp2_with fail
          go_loopw [7, 8] (fun m q wr' => ∃ i : Nat, i ≤ kl ∧ q = .int .i64 (i : Int) ∧ m = .int .i64 (min 1000000 (1 + sK ls (ks.take i))) ∧ wr' = wr) (fun _ q _ => kl - (intOf q).toNat)
          case atStart => exact ⟨0, Nat.zero_le _, rfl, by simp [sK]; try omega, by trivial⟩
          case round =>
            obtain ⟨i, hi, rfl, rfl, hwe⟩ := hrel
            subst hwe
            have hsr := sK_range HRG.out (ks.take i)
            by_cases hil : i < kl
            · omega
            · have hfin : Hid (min 1000000 (1 + sK ls (ks.take i)) = lvN ls ks) := by show _ = _; rw [hcv.out, List.take_of_length_le (by rw [HKL.out]; omega)]
              rw [hfin.out]
              generalize lvN ls ks = Y at *
              have hul : ls.length ≤ 1073741824 := by rw [hlen.out]; omega
              have hsz := HST.out.size
              clear hfin
              go_wp2_with (at_builtin; refine wpList_appW rfl _ _ rfl (w.heap.size + 1) _ ls Y rfl (World.ownsRow.alloc HO.out _) _ rfl (by simp) hul (by simp; omega) ?_)
              intro v7 w7 hos hg
              have S7 := kide ((HST.out.next ((Below.refl _ _).alloc (Nat.le_refl _) (Obj.cells #[Value.int .i64 Y] 2))).grownW (World.ownsRow.alloc HO.out _) hg)
              have O7 := kide hos
              clear hos hg g0 p6
              go_wp2_with fail
              go_roundw
              case rel => exact ⟨k + 1, by omega, by go_num, by rw [HX.out]; exact O7.out, S7.out⟩
              case measure => simp [intOf]; omega
        · have hkzz := hkz
          have hcz : ((kl : Int) == 0) = false := by simpa using hkz
          have hcv : Hid (lvN ls ks = min 1000000 (0 + sK ls ks)) := by show _ = _; unfold lvN; rw [HKL.out, if_neg hkz]
          go_wp2_with fail
          go_loopw [7, 8] (fun m q wr' => ∃ i : Nat, i ≤ kl ∧ q = .int .i64 (i : Int) ∧ m = .int .i64 (min 1000000 (0 + sK ls (ks.take i))) ∧ wr' = wr) (fun _ q _ => kl - (intOf q).toNat)
          case atStart => exact ⟨0, Nat.zero_le _, rfl, by simp [sK]; try omega, by trivial⟩
          case round =>
            obtain ⟨i, hi, rfl, rfl, hwe⟩ := hrel
            subst hwe
            have hsr := sK_range HRG.out (ks.take i)
            by_cases hil : i < kl
            · have j0 : (i : Int) < (kl : Int) := by omega
              obtain ⟨-, -, h | ⟨kb, ko, rfl, hkc⟩⟩ := HPK.out
              · have := HKL.out; subst h; simp at this; omega
              have q0 := hkc i (by rw [HKL.out]; exact hil)
              have hki : ks[i]? = some (ks.getD i 0) := by rw [List.getElem?_eq_getElem (by rw [HKL.out]; exact hil)]; simp [List.getD, show i < ks.length by rw [HKL.out]; exact hil]
              have hkr := HKK.out (ks.getD i 0) (List.mem_of_getElem? hki)
              have HST2 := kide (sK_take (ls := ls) hki)
              obtain ⟨j, hj, hjk⟩ : ∃ j : Nat, ks.getD i 0 = (j : Int) ∧ j < k := ⟨(ks.getD i 0).toNat, by omega, by omega⟩
              rw [hj] at q0 HST2
              rw [Int.toNat_natCast] at HST2
              obtain ⟨-, -, h | ⟨ob, oo, rfl, hoc⟩⟩ := HRD.out
              · have := hlen.out; subst h; simp at this; omega
              have q1 := hoc j (by rw [hlen.out]; exact hjk)
              have hyr := getD_range HRG.out j
              generalize ls.getD j 0 = y at *
              generalize sK ls (ks.take i) = sk at *
              obtain ⟨M, hM⟩ : ∃ M, min 1000000 (0 + sk) = M := ⟨_, rfl⟩
              rw [hM]
              have hMr : 0 ≤ M ∧ M ≤ 1000000 := by omega
              have jk : (j : Int) < (k : Int) := by omega
              have HM := kide hM
              clear hkc hoc hki hkr hj hM
              by_cases hmin : 1000000 ≤ M + y
              · have e : min 1000000 (M + y) = 1000000 := by omega
                go_wp2_with fail
                go_roundw
                case rel => exact ⟨i + 1, by omega, by go_num, by rw [HST2.out]; congr 1; have := HM.out; omega, by trivial⟩
                case measure => simp [intOf]; omega
              · have e : min 1000000 (M + y) = M + y := by omega
                go_wp2_with fail
                go_roundw
                case rel => exact ⟨i + 1, by omega, by go_num, by rw [HST2.out]; congr 1; have := HM.out; omega, by trivial⟩
                case measure => simp [intOf]; omega
            · have hfin : Hid (min 1000000 (0 + sK ls (ks.take i)) = lvN ls ks) := by show _ = _; rw [hcv.out, List.take_of_length_le (by rw [HKL.out]; omega)]
              rw [hfin.out]
              generalize lvN ls ks = Y at *
              have hul : ls.length ≤ 1073741824 := by rw [hlen.out]; omega
              have hsz := HST.out.size
              clear hfin
              go_wp2_with (at_builtin; refine wpList_appW rfl _ _ rfl (w.heap.size + 1) _ ls Y rfl (World.ownsRow.alloc HO.out _) _ rfl (by simp) hul (by simp; omega) ?_)
              intro v7 w7 hos hg
              have S7 := kide ((HST.out.next ((Below.refl _ _).alloc (Nat.le_refl _) (Obj.cells #[Value.int .i64 Y] 2))).grownW (World.ownsRow.alloc HO.out _) hg)
              have O7 := kide hos
              clear hos hg g0 p6
              go_wp2_with fail
              go_roundw
              case rel => exact ⟨k + 1, by omega, by go_num, by rw [HX.out]; exact O7.out, S7.out⟩
              case measure => simp [intOf]; omega
      · have e : k = n := by omega
        subst e
        have hfin : Hid (lvsR (ns.take k) = lvsR ns) := by show _ = _; rw [List.take_of_length_le (by rw [hln.out]; omega)]
        rw [hfin.out] at HO
        have hlen : Hid ((lvsR ns).length = k) := by show _ = _; rw [lvs_len, hln.out]
        obtain ⟨vo, co, hvo, hrd⟩ := HO.out.rd (by rw [hlen.out]; omega) (lvs_in64 _)
        rw [hlen.out] at hvo
        subst hvo
        obtain ⟨-, -, h | ⟨ob, oo, rfl, hoc⟩⟩ := hrd
        · have := hlen.out; rw [h] at this; simp at this; omega
        obtain ⟨m, rfl⟩ : ∃ m, k = m + 1 := ⟨k - 1, by omega⟩
        have q1 := hoc m (by rw [hlen.out]; omega)
        have hz := HZ.out
        rw [show m + 1 - 1 = m by omega] at hz
        rw [hz] at q1
        have e1 : (((m + 1 : Nat) : Int) - 1) = (m : Int) := by omega
        have e2 : (m : Int) < ((m + 1 : Nat) : Int) := by omega
        clear hoc hz hfin
        go_wp2_with fail
        go_ret
        exact ⟨rfl, HST.out.below⟩

end Go.Proofs.YtpkdoanccjchdaaDoor
