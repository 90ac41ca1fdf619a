/- The law FnSettled returns true, whatever it is handed. -/
import Derived.Test.YtmfamdonbgmjbaaDoorSVN
import Derived.Test.YtmfamdonbgmjbaaDoorSVO
import Derived.Test.YtmfamdonbgmjbaaDoorCS
import Derived.Test.YtmfamdonbgmjbaaDoorUNW
namespace Go.Proofs.YtmfamdonbgmjbaaDoor
set_option linter.unusedVariables false
set_option linter.unusedSimpArgs false
open Go.RowKit

/-- What the law carries along. -/
structure Cy (w W : World) (cb : Nat) (S : Int) (ca : Option Addr) (nc cc : Nat) (xs : List Iw) : Prop where
  cb : Bz W cb #[.int .i64 S, .slice ca nc cc] 29
  rc : RdII W ca xs
  bl : Below w.heap.size w W
theorem Cy.later {w W W' : World} {cb : Nat} {S : Int} {ca : Option Addr} {nc cc : Nat} {xs : List Iw} (h : Cy w W cb S ca nc cc xs) (hb : Below W.heap.size W W') : Cy w W' cb S ca nc cc xs :=
  ⟨h.cb.later hb, h.rc.later hb, h.bl.trans (hb.mono h.bl.size)⟩
theorem alloc_grow9 {wk wr w7 : World} {o : Obj} {row : Option Nat} (hb : Below wk.heap.size wk wr) (hg : (wr.alloc o).grownBy w7 row) (hr : ∀ k, row = some k → wk.heap.size ≤ k) : Below wk.heap.size wk w7 := by
  have h1 : Below wk.heap.size wr (wr.alloc o) := ((Below.refl wr.heap.size wr).alloc (Nat.le_refl _) _).mono hb.size
  refine (hb.trans h1).trans ⟨hg.os, hg.tape, hg.output, hg.size, fun q hq => hg.block q (Nat.lt_of_lt_of_le hq (hb.trans h1).size) (fun e => ?_)⟩
  have := hr q e.symm
  omega
theorem newWatcher_said7 : NewWatcherAny := fun _ _ _ _ _ xs h1 h2 h3 h4 h5 h6 => newWatcher_any xs h1 h2 h3 h4 h5 h6
theorem setlR_ok7 (S : Int) (cs : List (List Int)) (most : Int) : (setlR S cs most).1.length ≤ 400 := by
  unfold setlR
  split
  · rename_i h
    obtain ⟨h1, h2, -, -⟩ := cnfR_parts h.1
    split
    · simp only [flV_len]; omega
    · simp
  · simp
theorem setl_no {S : Int} {cs : List (List Int)} {most : Int} (h : (setlR S cs most).2.2 = 2) : 0 ≤ S := by
  unfold setlR at h
  split at h
  · rename_i hg; exact (cnfR_parts hg.1).1
  · cases h
set_option maxHeartbeats 8000000 in
set_option maxRecDepth 100000 in
theorem law_FnSettled (a : Option Addr) (n c : Nat) (bs : List Nat) (w : World) (hT : TabAt 0 Lib.deBruijn64tab w) (h0 : 0 < w.heap.size) (hr : RdB w a bs) (hn : bs.length = n) (hn9 : n ≤ 1048576) :
    Calls Tryd.prog 6 #[.slice a n c] w fun e w' => e = .returned (.bool true) ∧ Below w.heap.size w w' := by
  have HBG := kide (fun u => big_any a n c u (by omega))
  have hd9 : decide (1048576 < n) = false := decide_eq_false (by omega)
  rw [hd9] at HBG
  have HDR := kide (drawSettle_any a c bs w hr)
  rw [hn] at HDR
  have HT : Hid (∀ u, Below w.heap.size w u → TabAt 0 Lib.deBruijn64tab u ∧ 0 < u.heap.size) := fun u hu => ⟨fun j hj => (hu.cell (p := ⟨0, j, none⟩) h0).trans (hT j hj), Nat.lt_of_lt_of_le h0 hu.size⟩
  clear hd9 hr hn hT h0
  go_enter Tryd.func6, Tryd.ntmps6
  go_wp2_with fail
  refine Calls.mono (HBG.out _) ?_
  rintro e w1 ⟨rfl, hw1⟩
  obtain rfl := hw1.symm
  clear hw1 HBG
  go_wp2_with fail
  refine Calls.mono HDR.out ?_
  rintro e w1 ⟨S, ca, nc, cc, xs, most, rfl, hS, hmo, hxl, hn30, hgc, hb1⟩
  have HXL := kide hxl
  have HCAP := kide hgc.2
  have hbb : Below w1.heap.size w1 (w1.alloc (Obj.cells #[Value.int .i64 S, Value.slice ca nc cc] 29)) := (Below.refl _ _).alloc (Nat.le_refl _) _
  have C2 : Hid (Cy w (w1.alloc (Obj.cells #[Value.int .i64 S, Value.slice ca nc cc] 29)) w1.heap.size S ca nc cc xs) := ⟨Bz.new w1 #[Value.int .i64 S, Value.slice ca nc cc] 29, hgc.1.1.later hbb, hb1.trans (hbb.mono hb1.size)⟩
  have HSP : Hid (∀ u, Cy w u w1.heap.size S ca nc cc xs → Calls Tryd.prog 17 #[.agg #[.int .i64 S, .slice ca nc cc], .int .i64 most] u (RetSe (setlR S (xs.map Iw.ks) most) u)) := fun u hu => specSettle_any S ca cc nc xs most u hS hmo hu.rc HXL.out
  have HIM : Hid (∀ u, Cy w u w1.heap.size S ca nc cc xs → Calls Tryd.prog 18 #[.agg #[.int .i64 S, .slice ca nc cc], .int .i64 most] u (RetSe (setlR S (xs.map Iw.ks) most) u)) := fun u hu => implSettle_any S ca cc nc xs most u hS hmo hu.rc HXL.out HCAP.out (HT.out u hu.bl).1 (HT.out u hu.bl).2 newWatcher_said7
  have HME := kide (setl_meets (S := S) (cs := xs.map Iw.ks) (most := most))
  have HNO := kide (setl_none (S := S) (cs := xs.map Iw.ks) (most := most))
  have HNI := kide (setl_nil (S := S) (cs := xs.map Iw.ks) (most := most))
  have HN0 := kide (setl_no (S := S) (cs := xs.map Iw.ks) (most := most))
  have hle4 := setlR_ok7 S (xs.map Iw.ks) most
  obtain ⟨hS1, hS2⟩ := hS
  generalize setlR S (xs.map Iw.ks) most = X at *
  obtain ⟨Y, P, Q9⟩ := X
  simp only [] at HME HNO HNI HN0 hle4 HSP HIM
  have hPP : (P != P) = false := by simp
  have hQQ : (Q9 != Q9) = false := by simp
  obtain ⟨ny, hny⟩ : ∃ ny, Y.length = ny := ⟨_, rfl⟩
  rw [hny] at hle4
  have HNY := kide hny
  clear hxl hgc hb1 hbb HDR hmo hny
  go_wp2_with fail
  generalize w1.alloc (Obj.cells #[Value.int .i64 S, Value.slice ca nc cc] 29) = w2 at *
  have d0 : w2.cell? ⟨w1.heap.size, 0, none⟩ = some (.int .i64 S) := C2.out.cb.cell 0
  have d1 : w2.cell? ⟨w1.heap.size, 1, none⟩ = some (.slice ca nc cc) := C2.out.cb.cell 1
  generalize w1.heap.size = cb at *
  go_wp2_with fail
  refine Calls.mono (HSP.out w2 C2.out) ?_
  rintro e w3 ⟨v3, rfl, -, hb3⟩
  have C3 := kide (C2.out.later hb3)
  have e0 : w3.cell? ⟨cb, 0, none⟩ = some (.int .i64 S) := C3.out.cb.cell 0
  have e1 : w3.cell? ⟨cb, 1, none⟩ = some (.slice ca nc cc) := C3.out.cb.cell 1
  clear hb3 d0 d1 C2 HSP
  go_wp2_with fail
  refine Calls.mono (HIM.out w3 C3.out) ?_
  rintro e w4 ⟨v4, rfl, o4, hb4⟩
  obtain ⟨a4, c4, rfl, r4, -, -⟩ := o4.shape (by rw [HNY.out]; omega)
  rw [HNY.out]
  have C4 := kide (C3.out.later hb4)
  have R4 := kide r4
  have f0 : w4.cell? ⟨cb, 0, none⟩ = some (.int .i64 S) := C4.out.cb.cell 0
  have f1 : w4.cell? ⟨cb, 1, none⟩ = some (.slice ca nc cc) := C4.out.cb.cell 1
  clear hb4 o4 r4 e0 e1 C3 HIM
  by_cases hq1 : Q9 = 1
  · subst hq1
    obtain ⟨hm1, hm2⟩ := HME.out rfl
    have HMT := kide (implMeets_any S ca a4 cc nc c4 ny xs Y w4 C4.out.rc HXL.out R4.out HNY.out)
    rw [hm1] at HMT
    clear hm1
    go_wp2_with fail
    refine Calls.mono HMT.out ?_
    rintro e w5 ⟨rfl, hb5⟩
    have C5 := kide (C4.out.later hb5)
    clear hb5
    go_wp2_with fail
    go_ret
    exact ⟨rfl, C5.out.bl⟩
  · have hq1b : (Q9 == 1) = false := beq_eq_false_iff_ne.2 hq1
    have hnl := HNI.out hq1
    obtain rfl : ny = 0 := by rw [← HNY.out, hnl]; rfl
    by_cases hq2 : Q9 = 2
    · subst hq2
      have hS0 := HN0.out rfl
      by_cases hs9 : S > 9
      · go_wp2_with fail
        go_ret
        exact ⟨rfl, C4.out.bl⟩
      · obtain ⟨S, rfl⟩ : ∃ S' : Nat, S = (S' : Int) := ⟨S.toNat, by omega⟩
        have hs10 : S ≤ 9 := by omega
        obtain ⟨P2, hP⟩ : ∃ P : Nat, (2 : Int) ^ S = (P : Int) := ⟨2 ^ S, by simp⟩
        have hP9 : P2 ≤ 512 := by
          have h1 : (2 : Nat) ^ S ≤ 2 ^ 9 := Nat.pow_le_pow_right (by omega) hs10
          have h2 : ((2 ^ S : Nat) : Int) = (P2 : Int) := by rw [← hP]; simp
          omega
        have hsh : IntKind.i64.wrap ((2 : Int) ^ S) = (P2 : Int) := by rw [hP, IntKind.wrap_i64]; omega
        clear hP
        go_wp2_with fail
        go_loopw [11] (fun i wr => ∃ k : Nat, k ≤ P2 ∧ i = .int .i64 (k : Int) ∧ Cy w wr cb (S : Int) ca nc cc xs) (fun i _ => P2 - (intOf i).toNat)
        case atStart => exact ⟨0, Nat.zero_le _, rfl, C4.out⟩
        case round =>
          obtain ⟨k, hk, rfl, hcx⟩ := hrel
          have CK := kide hcx
          clear hcx C4 f0 f1
          have g0 : wr.cell? ⟨cb, 0, none⟩ = some (.int .i64 (S : Int)) := CK.out.cb.cell 0
          by_cases hkP : k < P2
          · have k1 : (k : Int) < (P2 : Int) := by omega
            have hbe : Below wr.heap.size wr (wr.alloc (Obj.cells #[] 4)) := (Below.refl _ _).alloc (Nat.le_refl _) _
            have OE := kide (OwF.nil wr wr.heap.size wr.heap.size rfl (Nat.le_refl _))
            have BE := kide hbe
            clear hbe
            go_wp2_with fail
            generalize wr.alloc (Obj.cells #[] 4) = u0 at *
            obtain ⟨wk, hwk⟩ : ∃ wk : World, wr = wk := ⟨_, rfl⟩
            rw [hwk] at CK OE BE ⊢
            clear hwk g0
            go_loopw [13, 12] (fun i v wr => ∃ (j : Nat) (on : List Bool), j ≤ S ∧ on.length = j ∧ i = .int .i64 (j : Int) ∧ OwF wr wk.heap.size v on ∧ Below wk.heap.size wk wr) (fun i _ _ => S - (intOf i).toNat)
            case atStart => exact ⟨0, [], Nat.zero_le _, rfl, rfl, OE.out, BE.out⟩
            case round =>
              obtain ⟨j, on, hj, hol, rfl, hof, hbw⟩ := hrel
              obtain ⟨oa, oc, rfl, hro, -, -⟩ := hof.shape (by omega)
              rw [hol] at hof ⊢
              have OF := kide hof
              have RO := kide hro
              have BW := kide hbw
              have HOL := kide hol
              have CJ := kide (CK.out.later hbw)
              have g1 : wr.cell? ⟨cb, 0, none⟩ = some (.int .i64 (S : Int)) := CJ.out.cb.cell 0
              have g2 : wr.cell? ⟨cb, 1, none⟩ = some (.slice ca nc cc) := CJ.out.cb.cell 1
              clear hof hro hbw hol OE BE
              by_cases hjS : j < S
              · have j1 : (j : Int) < (S : Int) := by omega
                have ju : IntKind.u64.wrap (j : Int) = (j : Int) := by rw [IntKind.wrap_u64]; omega
                have SB : Hid (wk.heap.size ≤ wr.heap.size) := BW.out.size
                go_wp2_with (refine wpList_appF _ rfl _ _ rfl wk.heap.size (.slice oa j oc) on _ rfl (OF.out.alloc _) wr.heap.size (by first | rfl | simp) ((Bz.new _ #[Value.bool _] 4).cell 0) (by have := HOL.out; omega) (by have := SB.out; simp; omega) ?_)
                intro v7 w7 ho7 hg7
                have hb7 := alloc_grow9 BW.out hg7 (fun q hq => OF.out.own q hq)
                have OF7 := kide ho7
                have BW7 := kide hb7
                clear ho7 hg7 hb7
                go_wp2_with fail
                go_roundw
                case rel => exact ⟨j + 1, _, by omega, by rw [List.length_append, HOL.out, List.length_singleton], by go_num, OF7.out, BW7.out⟩
                case measure => simp only [intOf]; omega
              · obtain rfl : j = S := by omega
                have HMT := kide (implMeets_any (j : Int) ca oa cc nc oc j xs on wr CJ.out.rc HXL.out RO.out HOL.out)
                rw [HNO.out (by first | exact rfl | exact trivial) on] at HMT
                go_wp2_with fail
                refine Calls.mono HMT.out ?_
                rintro e w8 ⟨rfl, hb8⟩
                have C8 := kide (CJ.out.later hb8)
                clear hb8 HMT
                go_wp2_with fail
                go_roundw
                case rel => exact ⟨k + 1, by omega, by go_num, C8.out⟩
                case measure => simp only [intOf]; omega
          · obtain rfl : k = P2 := by omega
            go_wp2_with fail
            go_ret
            exact ⟨rfl, CK.out.bl⟩
    · have hq2b : (Q9 != 2) = true := by simpa using hq2
      go_wp2_with fail
      go_ret
      exact ⟨rfl, C4.out.bl⟩
/-- The law, whatever it is handed. -/
theorem walk_FnSettled (a : Option Addr) (n c : Nat) (hn : n ≤ 9223372036854775807) (w : World) (hT : TabAt 0 Lib.deBruijn64tab w) (hx : n ≤ 1048576 → ∃ bs : List Nat, bs.length = n ∧ RdB w a bs) :
    Calls Tryd.prog 6 #[.slice a n c] w fun e w' => e = .returned (.bool true) ∧ Below w.heap.size w w' := by
  have h0 : 0 < w.heap.size := block_lt_of_cell (hT 0 (by decide))
  by_cases hle : n ≤ 1048576
  · obtain ⟨bs, hb, hr⟩ := hx hle
    exact law_FnSettled a n c bs w hT h0 hr hb hle
  · have HBG := kide (big_any a n c w (by omega))
    rw [decide_eq_true (by omega)] at HBG
    clear hx
    go_enter Tryd.func6, Tryd.ntmps6
    go_wp2_with fail
    refine Calls.mono HBG.out ?_
    rintro e wq ⟨rfl, hwq⟩
    obtain rfl := hwq.symm
    go_wp2_with fail
    go_ret
    exact ⟨rfl, Below.refl _ _⟩

end Go.Proofs.YtmfamdonbgmjbaaDoor
