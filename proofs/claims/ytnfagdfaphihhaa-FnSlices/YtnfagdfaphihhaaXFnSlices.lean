/- The law FnSlices returns true, whatever it is handed. -/
import Derived.Test.YtnfagdfaphihhaaDH
import Derived.Test.YtnfagdfaphihhaaDJ
namespace Go.Proofs.Ytnfagdfaphihhaa
set_option linter.unusedVariables false
set_option linter.unusedSimpArgs false
open Go.RowKit

set_option maxHeartbeats 2000000 in
set_option maxRecDepth 100000 in
theorem law_FnSlices (a : Option Addr) (c : Nat) (bs : List Nat) (n : Nat) (hn : bs.length = n) (hn2 : n ≤ 1048576) (w : World) (h : RdB w a bs) :
    Calls Try.prog 3 #[.slice a n c] w fun e w' => e = .returned (.bool true) ∧ Below w.heap.size w w' := by
  have HBG := kide (big_any a n c w (by omega))
  rw [decide_eq_false (by omega)] at HBG
  have HDR := kide (drawSlicesOf_any a c bs w h)
  rw [hn] at HDR
  clear h hn
  go_enter Try.func3, Try.ntmps3
  go_wp2_with fail
  refine Calls.mono HBG.out ?_
  rintro e wq ⟨rfl, hwq⟩
  obtain rfl := hwq.symm
  go_wp2_with fail
  refine Calls.mono HDR.out ?_
  rintro e w1 ⟨a1, c1, ds, a2, n2, c2, xs, rfl, gd, hxl, gi, hb1⟩
  have RD := kide gd.1
  have RX := kide gi.1
  have HXL := kide hxl
  have B1' := kide hb1
  have HIG := kide (fun u (hu : Below w1.heap.size w1 u) => implGauge_any a1 a2 c1 c2 n2 ds xs u (gd.1.later hu) (gi.1.later hu) hxl)
  have HSG := kide (fun u (hu : Below w1.heap.size w1 u) => specGauge_any a1 a2 c1 c2 n2 ds xs u (gd.1.later hu) (gi.1.later hu) hxl)
  have HIS := kide (fun u (hu : Below w1.heap.size w1 u) => implSlices_any a1 a2 c1 c2 n2 ds xs u (gd.1.later hu) (gi.1.later hu) hxl)
  have hdl := gd.1.1
  obtain ⟨N, hN⟩ : ∃ N, ds.length = N := ⟨_, rfl⟩
  have HN := kide hN
  rw [hN] at HIG HSG HIS hdl
  rw [hN]
  generalize hG : gauR ds (xs.map Iw.ks) = G at *
  have HG := kide hG
  clear gd gi hxl hb1 HDR HBG hN hG
  have t1 := Bq.start w1 (.slice a2 n2 c2) 27
  have T1 := kide t1
  have d0 := t1.cell
  have hba := t1.below
  have BA := kide hba
  clear t1 hba
  go_wp2_with fail
  generalize w1.alloc (Obj.cells #[Value.slice a2 n2 c2] 27) = w2 at *
  refine Calls.mono (HIG.out w2 BA.out) ?_
  rintro e w3 ⟨rfl, hb3⟩
  have T3 := kide (T1.out.next hb3)
  have B3 := kide (BA.out.trans (hb3.mono BA.out.size))
  have d3 := T3.out.cell
  have hGG : (G != G) = false := by simp
  clear hb3 T1 BA d0
  go_wp2_with fail
  refine Calls.mono (HSG.out w3 B3.out) ?_
  rintro e w4 ⟨rfl, hb4⟩
  have T4 := kide (T3.out.next hb4)
  have B4 := kide (B3.out.trans (hb4.mono B3.out.size))
  have d4 := T4.out.cell
  clear hb4 T3 B3 d3
  cases hC : cutR ds (xs.map Iw.ks) with
  | false =>
    rw [hC] at HIS
    simp only [Bool.false_eq_true, if_false] at HIS
    have hGm : G = -1 := by rw [← HG.out, gauR, hC]; rfl
    subst hGm
    clear hC
    go_wp2_with fail
    refine Calls.mono (HIS.out w4 B4.out) ?_
    rintro e w5 ⟨v5, rfl, o5, hb5⟩
    obtain ⟨a5, c5, e5, -⟩ := o5.rd (by simp)
    subst e5
    go_wp2_with fail
    go_ret
    exact ⟨by first | rfl | simp, B1'.out.trans ((B4.out.trans (hb5.mono B4.out.size)).mono B1'.out.size)⟩
  | true =>
    rw [hC, if_pos rfl] at HIS
    have hcl := hC
    simp only [cutR, Bool.and_eq_true, decide_eq_true_eq] at hcl
    obtain ⟨⟨hD, hlen⟩, hcut⟩ := hcl
    have hD' := dclR_iff.1 hD
    have hN60 : N ≤ 60 := by rw [← HN.out]; exact hD'.1
    have hW := fun d hd => (dcOk_iff.1 (hD'.2.1 d hd)).2
    have hss : ((slR ds (xs.map Iw.ks) 0).length : Int) = G := by rw [slR_sum ds _ 0 hlen, ← HG.out, gauR, hC, if_pos rfl]
    have hssb : (slR ds (xs.map Iw.ks) 0).length ≤ 100000000 := by
      have h9 := slR_len ds (xs.map Iw.ks) 0 1048577 (fun c hc => by
        obtain ⟨x, hx, rfl⟩ := List.mem_map.1 hc
        obtain ⟨i, hi, e⟩ := List.mem_iff_getElem.1 hx
        rcases RX.out.2 with h0 | ⟨b, o, -, hcx⟩
        · rw [h0] at hx; simp at hx
        · have h8 := (hcx i x (by rw [List.getElem?_eq_getElem hi, e])).2.1
          omega)
      have : ds.length ≤ 60 := hD'.1
      have h7 : ds.length * 1048577 ≤ 60 * 1048577 := Nat.mul_le_mul_right _ this
      omega
    have HCUT := kide hcut
    have HW := kide hW
    have HLEN : Hid ((xs.map Iw.ks).length = N) := by show _ = _; rw [hlen]; exact HN.out
    generalize hsl : slR ds (xs.map Iw.ks) 0 = ss at *
    have HSL := kide hsl
    obtain ⟨m, hm⟩ : ∃ m, ss.length = m := ⟨_, rfl⟩
    rw [hm] at hss hssb
    have HM := kide hm
    subst hss
    clear hC hD hD' hlen hcut hW hsl hm
    go_wp2_with fail
    refine Calls.mono (HIS.out w4 B4.out) ?_
    rintro e w5 ⟨v5, rfl, o5, hb5⟩
    obtain ⟨a5, c5, e5, r5⟩ := o5.rd (by rw [HM.out]; omega)
    subst e5
    have R5 := kide r5
    have B5 := kide (B4.out.trans (hb5.mono B4.out.size))
    rw [HM.out]
    clear o5 r5 hb5 T4 B4 d4 HIG HSG HIS
    go_wp2_with fail
    go_loopw [7, 8] (fun t v wr => ∃ (k q : Nat), k ≤ N ∧ v = .int .i64 (k : Int) ∧ t = .int .i64 (q : Int) ∧ q ≤ m ∧ ss.drop q = slR (ds.drop k) ((xs.map Iw.ks).drop k) k ∧ Below w5.heap.size w5 wr) (fun _ v _ => N - (intOf v).toNat)
    case atStart => exact ⟨0, 0, Nat.zero_le _, rfl, rfl, Nat.zero_le _, by simpa using HSL.out.symm, Below.refl _ _⟩
    case round =>
      obtain ⟨k, q, hk, rfl, rfl, hq, hdrop, hbel⟩ := hrel
      have HB := kide hbel
      have BW := kide (B5.out.trans (hbel.mono B5.out.size))
      by_cases hlt : k < N
      · obtain ⟨⟨nm, W⟩, gd⟩ : ∃ d, ds[k]? = some d := ⟨ds[k]'(by rw [HN.out]; exact hlt), List.getElem?_eq_getElem _⟩
        obtain ⟨cu, gc⟩ : ∃ c, (xs.map Iw.ks)[k]? = some c := ⟨(xs.map Iw.ks)[k]'(by rw [HLEN.out]; exact hlt), List.getElem?_eq_getElem _⟩
        obtain ⟨hW1, hW2⟩ := HW.out _ (List.mem_of_getElem? gd)
        simp only [] at hW1 hW2
        rw [slR_step gd gc] at hdrop
        have hris := cutL_at HCUT.out gd gc
        simp only [] at hdrop hris
        have GD := kide gd
        generalize hrest : slR (ds.drop (k + 1)) ((xs.map Iw.ks).drop (k + 1)) (k + 1) = rest at *
        have HREST := kide hrest
        have HDR := kide hdrop
        have HRI := kide hris
        clear gd gc hdrop hris hrest hbel
        go_wp2_with fail
        obtain ⟨wo, hwo⟩ : ∃ wo, wo = wr := ⟨_, rfl⟩
        subst hwo
        go_loopw [7, 9] (fun t l wr => ∃ (q : Nat) (lo : Int), t = .int .i64 (q : Int) ∧ l = .int .i64 lo ∧ q ≤ m ∧ 0 ≤ lo ∧ lo ≤ W ∧ (lo < W → ∃ ks, ss.drop q = slV k W lo ks ++ rest ∧ risR W lo ks = true) ∧ (lo = W → ss.drop q = rest) ∧ Below w5.heap.size w5 wr) (fun _ l _ => (W - intOf l).toNat)
        case atStart => exact ⟨q, 0, rfl, rfl, hq, Int.le_refl _, by omega, fun _ => ⟨cu, HDR.out, HRI.out⟩, fun h => by omega, HB.out⟩
        case round =>
          clear HDR HRI HB BW
          obtain ⟨q, lo, rfl, rfl, hq, hlo0, hloW, hmore, hend, hbel⟩ := hrel
          have HB := kide hbel
          have BW := kide (B5.out.trans (hbel.mono B5.out.size))
          obtain ⟨-, hdd, h | ⟨b, o, e, hc⟩⟩ := RD.out.later BW.out
          · have := HN.out; rw [h] at this; simp at this; omega
          subst e
          obtain ⟨-, d1⟩ := hc k _ GD.out
          simp only [] at d1
          have i0 : (k : Int) < (N : Int) := by omega
          clear hdd hc
          by_cases hlW : lo < W
          · obtain ⟨ks, hks, hris⟩ := hmore hlW
            obtain ⟨X, rs, hX1, hX2, hcons, hnext⟩ : ∃ (X : Int) (rs : List Sl), 1 ≤ X ∧ lo + X ≤ W ∧ ss.drop q = ((k : Int), lo, X) :: rs ∧ ((lo + X < W → ∃ ks, rs = slV k W (lo + X) ks ++ rest ∧ risR W (lo + X) ks = true) ∧ (lo + X = W → rs = rest)) := by
              cases ks with
              | nil => exact ⟨W - lo, rest, by omega, by omega, by rw [hks, slV]; rfl, fun h => by omega, fun _ => rfl⟩
              | cons x t =>
                rw [risR] at hris
                simp only [Bool.and_eq_true, decide_eq_true_eq] at hris
                exact ⟨x - lo, slV k W x t ++ rest, by omega, by omega, by rw [hks, slV]; rfl, fun _ => ⟨t, by rw [show lo + (x - lo) = x by omega], by rw [show lo + (x - lo) = x by omega]; exact hris.2⟩, fun h => by omega⟩
            have hqm : q < m := by
              rcases Nat.lt_or_ge q m with h9 | h9
              · exact h9
              · rw [List.drop_eq_nil_of_le (by rw [HM.out]; exact h9)] at hcons
                cases hcons
            have hqs : q < ss.length := by rw [HM.out]; exact hqm
            have gq : ss[q]? = some ((k : Int), lo, X) := by
              have h9 := congrArg List.head? hcons
              simpa [List.head?_drop] using h9
            have hdq : ss.drop (q + 1) = rs := by
              have h9 := congrArg List.tail hcons
              simpa using h9
            obtain ⟨-, h | ⟨b5, o5, e5, hc5⟩⟩ := R5.out
            · rw [h] at hqs; simp at hqs
            subst e5
            obtain ⟨s0, s1, s2⟩ := (hc5 q _ gq).later hbel
            simp only [] at s0 s1 s2
            have q1 : (q : Int) < (m : Int) := by omega
            have v1 : ((k : Int) != (k : Int)) = false := by simp
            have v2 : (lo != lo) = false := by simp
            have HNEXT := kide hnext
            have HDQ := kide hdq
            clear hc5 hks hris hcons hnext gq hdq hmore hend hbel hqs
            go_wp2_with fail
            go_roundw
            case rel => exact ⟨q + 1, lo + X, by go_num, rfl, by omega, by omega, by omega, by rw [HDQ.out]; exact HNEXT.out.1, by rw [HDQ.out]; exact HNEXT.out.2, HB.out⟩
            case measure => simp [intOf]; omega
          · have hWe : lo = W := by omega
            subst hWe
            have HE := kide (hend rfl)
            have w1e : (lo != lo) = false := by simp
            clear hmore hend hbel
            go_wp2_with fail
            go_roundw
            case rel => exact ⟨k + 1, q, by omega, by go_num, rfl, hq, HE.out.trans HREST.out.symm, HB.out⟩
            case measure => simp [intOf]; omega
      · have hkn : k = N := by omega
        subst hkn
        have hqm : q = m := by
          have hnil : ds.drop k = [] := List.drop_eq_nil_of_le (by rw [HN.out]; exact Nat.le_refl _)
          rw [hnil] at hdrop
          have h9 := congrArg List.length hdrop
          rw [List.length_drop, HM.out] at h9
          simp [slR] at h9
          omega
        subst hqm
        have e1 : ((q : Int) == (q : Int)) = true := by simp
        clear hdrop hbel
        go_wp2_with fail
        go_ret
        exact ⟨rfl, B1'.out.trans (BW.out.mono B1'.out.size)⟩

theorem walk_FnSlices (a : Option Addr) (n c : Nat) (hn : n ≤ 9223372036854775807) (w : World) (hx : n ≤ 1048576 → ∃ bs : List Nat, bs.length = n ∧ RdB w a bs) :
    Calls Try.prog 3 #[.slice a n c] w fun e w' => e = .returned (.bool true) ∧ Below w.heap.size w w' := by
  by_cases h : n ≤ 1048576
  · obtain ⟨bs, hl, hr⟩ := hx h
    exact law_FnSlices a c bs n hl h w hr
  · have HBG := kide (big_any a n c w hn)
    rw [decide_eq_true (by omega)] at HBG
    clear hx
    go_enter Try.func3, Try.ntmps3
    go_wp2_with fail
    refine Calls.mono HBG.out ?_
    rintro e wq ⟨rfl, hwq⟩
    obtain rfl := hwq.symm
    go_wp2_with fail
    go_ret
    exact ⟨rfl, Below.refl _ _⟩

end Go.Proofs.Ytnfagdfaphihhaa
