/- Several texts in one. -/
import Derived.Test.YtbpodkdlhjgncaaGreatDoorZVD
import Derived.Test.YtbpodkdlhjgncaaGreatDoorZVA
import Derived.Test.YtbpodkdlhjgncaaGreatDoorZVB
import Derived.Test.YtbpodkdlhjgncaaGreatDoorZVC
import Derived.Test.YtbpodkdlhjgncaaGreatDoorZVC
import Derived.Deep.RegionWith

/- The given l3Widths, where it goes on: the loops. -/
namespace Go.Proofs.YtbpodkdlhjgncaaGreatDoor
set_option linter.unusedVariables false
set_option linter.unusedSimpArgs false
open Go.RowKit

set_option maxHeartbeats 1000000 in
theorem l3Widths_yes (a b : Option Addr) (c c2 n : Nat) (ds : List Dc) (xs : List Tg) (w : World) (hr : RdD w a ds) (hs : RdT w b xs) (hn : xs.length = n) (hok : dclR ds = true ∧ 1 ≤ n ∧ n ≤ 400) :
    Calls Tryz.prog 73 #[.slice a ds.length c, .agg #[.slice b n c2]] w fun e w' => ∃ v, e = .returned v ∧ OW w' (w.heap.size + 1) v (widthsR ds (xs.map Tg.ct)) ∧ Below w.heap.size w w' := by
  have hl1 := hr.1
  have hl2 := hs.1
  rw [hn] at hl2
  have HR := kide hr
  have HS := kide hs
  have HN := kide hn
  have hb1 : Below w.heap.size w (w.alloc (Obj.cells #[Value.slice b n c2] 60)) := (Below.refl _ _).alloc (Nat.le_refl _) _
  have hb2 : Below w.heap.size w ((w.alloc (Obj.cells #[Value.slice b n c2] 60)).alloc (Obj.cells #[] 2)) := hb1.alloc (by simp) _
  have B2 := kide hb2
  have HDK := kide (fun u (hu : Below w.heap.size w u) => specDecls_any a c ds u (hr.later hu))
  generalize hZ : widthsR ds (xs.map Tg.ct) = Z
  have HZ := kide hZ
  clear hr hs hn hb1 hb2 hZ
  go_enter Tryz.func73, Tryz.ntmps73
  go_wp2_with fail
  refine Calls.mono (HDK.out _ B2.out) ?_
  rintro e w1 ⟨rfl, hb1⟩
  have c1 := kcell hb1 w.heap.size 0 (by simp; omega)
  have n1 : w1.heap[w.heap.size + 1]? = some (.cells #[] 2 (0, 0)) := by
    rw [hb1.block _ (by simp)]
    have h := heap_alloc_new (w.alloc (Obj.cells #[Value.slice b n c2] 60)) (Obj.cells #[] 2)
    simpa using h
  have B1 := kide (B2.out.trans (hb1.mono B2.out.size))
  have HBX : Hid (w1.heap[w.heap.size]? = some (.cells #[.slice b n c2] 60 (0, 0))) := by
    show w1.heap[w.heap.size]? = _
    rw [hb1.block _ (by simp; omega)]
    have h := heap_alloc_new w (Obj.cells #[Value.slice b n c2] 60)
    rw [← h]
    exact ((Below.refl _ _).alloc (B := (w.alloc (Obj.cells #[Value.slice b n c2] 60)).heap.size) (Nat.le_refl _) _).block _ (by simp)
  have z1 : w.heap.size + 1 < w1.heap.size := lt_of_block n1
  have zz : w.heap.size < w1.heap.size := by omega
  simp at c1
  clear hb1 B2
  have ON1 : Hid (OW w1 (w.heap.size + 1) (.slice (some ⟨w.heap.size + 1, 0, none⟩) 0 0) []) := ⟨rfl, .inr ⟨w.heap.size + 1, 0, #[], rfl, Nat.le_refl _, n1, Nat.le_refl _, by unfold maxLen; omega, rfl, rfl⟩⟩
  obtain ⟨hd, hn1, hn4⟩ := hok
  rw [hd]
  have hmk := fun kl kc w => run_make_row' (P := Tryz.prog) 129 4 (.bool false) 1 Tryz.underlying129 Tryz.infoBool rfl kl kc n (by omega) (by omega) w
  have HD := kide hd
  clear hd
  go_wp2_with fail
  generalize hNS : xs.map Tg.ct = ns at *
  have HNS := kide hNS
  have hnl : ns.length = n := by rw [← hNS, List.length_map]; exact HN.out
  have HNL := kide hnl
  have hok2 : (match goR ds [] ns with
    | none => []
    | some wide => if (List.range (n - 1)).all (usedR ns) = true then wide else []) = Z := by
    have h := HZ.out
    rw [widthsR, if_pos (by simp only [Bool.and_eq_true, decide_eq_true_eq, hnl]; exact ⟨⟨HD.out, hn1⟩, hn4⟩), hnl] at h
    exact h
  have HOK2 := kide hok2
  clear hok2 HZ HDK hNS hnl
  have ob3 : Below w1.heap.size w1 ((w1.alloc (Obj.cells #[] 2)).alloc (Obj.cells (madeCells #[Value.bool false] n) 4)) := ((Below.refl _ _).alloc (Nat.le_refl _) _).alloc (by simp) _
  have hrow := krow (heap_alloc_new (w1.alloc (Obj.cells #[] 2)) (.cells (madeCells #[Value.bool false] n) 4))
  rw [size_madeCells] at hrow
  have hx1 : w1.heap[w.heap.size]? = some (.cells #[.slice b n c2] 60 (0, 0)) := HBX.out
  have L0 : Hid (Lw w b n c2 (w1.heap.size + 1) (usedR (ns.take 0)) ((w1.alloc (Obj.cells #[] 2)).alloc (Obj.cells (madeCells #[Value.bool false] n) 4))) := by
    refine ⟨by rw [ob3.block _ zz]; exact hx1, by rw [ob3.block _ z1]; exact n1, B1.out.trans (ob3.mono B1.out.size), ⟨_, by simpa using hrow, fun j hj => ?_⟩⟩
    have e : (madeCells #[Value.bool false] n)[j]? = some (.bool false) := by simp [madeCells, hj, Nat.mod_one]
    simp [usedR, e]
  have W0 : Hid (OW ((w1.alloc (Obj.cells #[] 2)).alloc (Obj.cells (madeCells #[Value.bool false] n) 4)) w1.heap.size (.slice (some ⟨w1.heap.size, 0, none⟩) 0 0) []) := (OW.fresh w1 w1.heap.size (Nat.le_refl _)).later ((Below.refl _ _).alloc (Nat.le_refl _) _)
  generalize (w1.alloc (Obj.cells #[] 2)).alloc (Obj.cells (madeCells #[Value.bool false] n) 4) = w3 at *
  clear hrow ob3 hmk c1 n1 ON1 hx1 HBX
  have zU : w.heap.size + 1 < w1.heap.size + 1 := by omega
  generalize hU : w1.heap.size + 1 = U at *
  generalize hG : goR ds [] ns = G at *
  have HG := kide hG
  clear hG
  go_loopw [6, 8] (fun l i wr => ∃ (k : Nat) (wide : List Int), k ≤ n ∧ i = .int .i64 (k : Int) ∧ OW wr w1.heap.size l wide ∧ wide.length = k ∧ (∀ x ∈ wide, 1 ≤ x ∧ x ≤ 4096) ∧ goR ds wide (ns.drop k) = G ∧ Lw w b n c2 U (usedR (ns.take k)) wr ∧ w1.heap.size ≤ wr.heap.size) (fun _ i _ => n - (intOf i).toNat)
  case atStart => exact ⟨0, [], Nat.zero_le _, rfl, W0.out, rfl, by simp, HG.out, L0.out, by have := L0.out.lt; omega⟩
  case round =>
    obtain ⟨k, wide, hk, rfl, hown, hwl, hwd, hgo, hlw, hsz⟩ := hrel
    have HOW := kide hown
    have HWL := kide hwl
    have HWD := kide hwd
    have HGO := kide hgo
    have HLW := kide hlw
    have cb := hlw.cell
    obtain ⟨ya, yc, rfl, hyr⟩ := hown.rd (by omega) (fun x hx => by have := hwd x hx; unfold in64; omega)
    have HYR := kide hyr
    clear hyr
    by_cases hlt : k < n
    · obtain ⟨-, h | ⟨b2, o2, rfl, hc2⟩⟩ := HS.out
      · have := HN.out; subst h; simp at this; omega
      obtain ⟨⟨s1, wa, wc, ka, kc⟩, gx⟩ : ∃ x, xs[k]? = some x := ⟨xs[k]'(by rw [HN.out]; exact hlt), List.getElem?_eq_getElem _⟩
      have gn : ns[k]? = some s1 := by rw [← HNS.out, List.getElem?_map, gx]; rfl
      obtain ⟨⟨p0, p1, p2, p3, p4, p5, p6⟩, pr, pi, p64⟩ := (hc2 k _ gx).later hlw.bel
      simp only [Tg.hd] at p0 p1 p2 p3 p4 p5 p6 pr pi p64
      have HFM := kide (l3Form_any a ds.length c k s1 wa ka wc kc wr pr pi (by omega) hl1)
      have GN := kide gn
      have P64 := kide p64
      have PR := kide (fun u (hu : Below wr.heap.size wr u) => pr.later hu)
      have PI := kide (fun u (hu : Below wr.heap.size wr u) => pi.later hu)
      have HC0 := kide (hc2 k _ gx)
      have HCT := kide (fun u (hu : Below wr.heap.size wr u) => (hc2 k _ gx).later (hlw.bel.trans (hu.mono hlw.bel.size)))
      generalize hV : (kidsR k s1.ks && fieldR s1 && manyR ds.length s1) = V at *
      have HV := kide hV
      have i0 : (k : Int) < (n : Int) := by omega
      clear hV hc2 gx gn p64 pr pi hown hwl hwd hgo hlw
      go_wp2_with fail
      refine Calls.mono HFM.out ?_
      rintro e w4 ⟨rfl, hb4⟩
      have L4 := kide (HLW.out.later hb4)
      have O4 := kide (HOW.out.later hb4)
      have cb4 := L4.out.cell
      cases V with
      | false =>
        clear hb4 HFM
        go_wp2_with fail
        go_ret
        refine ⟨_, rfl, ?_, L4.out.bel⟩
        have hst : stepR ds wide s1 = none := by
          unfold stepR
          rw [HWL.out, HV.out]
          rfl
        have hz := HOK2.out
        rw [← HGO.out, goR_none GN.out hst] at hz
        rw [← hz]
        exact L4.out.none'
      | true =>
        obtain ⟨⟨p0, p1, p2, p3, p4, p5, p6⟩, -⟩ := HCT.out w4 hb4
        simp only [Tg.hd] at p0 p1 p2 p3 p4 p5 p6
        have hkk : kidsR wide.length s1.ks = true := by
          have h := HV.out
          simp only [Bool.and_eq_true] at h
          rw [HWL.out]; exact h.1.1
        have hvv : s1.op = 1 → 0 ≤ s1.vr ∧ s1.vr ≤ (ds.length : Int) - 1 := by
          have h := HV.out
          simp only [Bool.and_eq_true] at h
          exact manyR_var h.2
        have HWI := kide (l3Wide_any a c ds s1 wa ka ya wc kc yc wide w4 (HR.out.later L4.out.bel) (PR.out w4 hb4) (PI.out w4 hb4) (HYR.out.later hb4) HWD.out hkk hvv P64.out.2.2.1 P64.out.2.2.2.1)
        have PR4 := kide (fun u (hu : Below w4.heap.size w4 u) => (PI.out w4 hb4).later hu)
        have HCT4 := kide (fun u (hu : Below w4.heap.size w4 u) => (HCT.out w4 hb4).later hu)
        clear hb4 HFM hkk hvv HCT PR PI HYR
        generalize hX : wideR ds s1 (sumR wide s1.ks 0) = X at *
        have HX := kide hX
        clear hX
        go_wp2_with fail
        refine Calls.mono HWI.out ?_
        rintro e w5 ⟨rfl, hb5⟩
        have L5 := kide (L4.out.later hb5)
        have O5 := kide (O4.out.later hb5)
        have cb5 := L5.out.cell
        have HCT5 := kide (HCT4.out w5 hb5)
        have PI5 := kide (PR4.out w5 hb5)
        clear hb5 HWI cb4 L4 O4 HCT4 PR4
        have HLI := kide (fun u => l1In_any X 1 4096 u)
        by_cases hX1 : 1 ≤ X ∧ X ≤ 4096
        · rw [decide_eq_true hX1] at HLI
          have hst : stepR ds wide s1 = some X := by
            unfold stepR
            rw [HWL.out, HV.out, HX.out, if_pos rfl, if_pos hX1]
          have HST := kide hst
          have HX1 := kide hX1
          have hz5 : w1.heap.size ≤ w5.heap.size := by have := L5.out.lt; omega
          have hwl2 : wide.length ≤ 1073741824 := by have := HWL.out; omega
          clear hst hX1
          go_wp2_with (first | (go_at_call 47; refine Calls.mono (HLI.out _) ?_; rintro e w6 ⟨rfl, rfl⟩) | (at_builtin; refine wpList_appW rfl _ _ rfl w1.heap.size _ wide X rfl (World.ownsRow.alloc O5.out _) _ rfl (by simp) hwl2 (by simp; omega) ?_))
          intro v7 w7 hos hg
          have L7 := kide ((L5.out.later ((Below.refl _ _).alloc (Nat.le_refl _) (Obj.cells #[Value.int .i64 X] 2))).grown (World.ownsRow.alloc O5.out _) (by omega) hg)
          have O7 := kide hos
          clear hos hg L5 O5 cb5 HCT5 PI5 HLI
          have cb7 := L7.out.cell
          go_wp2_with fail
          have hkb : ∀ y ∈ s1.ks, 0 ≤ y ∧ y ≤ (k : Int) - 1 := by
            have h := HV.out
            simp only [Bool.and_eq_true] at h
            have h1 := h.1.1
            rw [kidsR, List.all_eq_true] at h1
            intro y hy
            simpa using h1 y hy
          have HKB := kide hkb
          have hks : s1.ks.length ≤ 1048576 := HC0.out.2.2.1.1
          clear hkb cb7 cb p0 p1 p2 p3 p4 p5 p6
          obtain ⟨wo, hwo⟩ : ∃ wo, wo = wr := ⟨_, rfl⟩
          subst hwo
          clear HOW HLW
          go_loopw [10] (fun i wr => ∃ t : Nat, t ≤ s1.ks.length ∧ i = .int .i64 (t : Int) ∧ OW wr w1.heap.size v7 (wide ++ [X]) ∧ Lw w (some ⟨b2, o2, none⟩) n c2 U (fun j => usedR (ns.take k) j || (s1.ks.take t).any (fun y => decide (y = (j : Int)))) wr) (fun i _ => s1.ks.length - (intOf i).toNat)
          case atStart => exact ⟨0, Nat.zero_le _, rfl, O7.out, by simpa using L7.out⟩
          case round =>
            obtain ⟨t, ht, rfl, hot, hlt2⟩ := hrel
            have HOT := kide hot
            have HLT := kide hlt2
            have cbt := hlt2.cell
            obtain ⟨⟨-, -, -, -, -, -, p6⟩, -, pi, -⟩ := HC0.out.later hlt2.bel
            simp only [Tg.hd] at p6 pi
            clear hot
            by_cases htl : t < s1.ks.length
            · obtain ⟨-, -, h | ⟨b3, o3, rfl, hc3⟩⟩ := pi
              · rw [h] at htl; simp at htl
              have g0 := hc3 t htl
              have hym : s1.ks.getD t 0 ∈ s1.ks := by
                have : s1.ks.getD t 0 = s1.ks[t] := by simp [List.getD, htl]
                rw [this]; exact List.getElem_mem htl
              have hyb := HKB.out _ hym
              have hgt : s1.ks[t]? = some (s1.ks.getD t 0) := by simp [List.getD, htl]
              have HGT := kide hgt
              clear hc3 hym hgt
              generalize s1.ks.getD t 0 = y at *
              obtain ⟨m, rfl⟩ : ∃ m : Nat, y = (m : Int) := ⟨y.toNat, by omega⟩
              have hm : m < n := by omega
              obtain ⟨f, hrw, hfq⟩ := hlt2.row
              have q0 := hrw.cell (i := m) hm
              have r0 := hrw.frozen m
              have HRW := kide hrw
              have j0 : (t : Int) < (s1.ks.length : Int) := by omega
              clear hrw hfq hlt2 hyb
              generalize f m = fm at q0
              go_wp2_with fail
              go_roundw
              case rel =>
                refine ⟨t + 1, by omega, by go_num, HOT.out.mark HRW.out _ _, ?_⟩
                have h := HLT.out.mark (by omega) m
                refine cast ?_ h
                congr 1
                funext j
                rw [List.take_add_one, HGT.out, List.any_append]
                by_cases e : j = m
                · subst e; simp
                · have e2 : ¬ ((m : Int) = (j : Int)) := by omega
                  simp [e, e2]
              case measure => simp [intOf]; omega
            · have e : t = s1.ks.length := by omega
              subst e
              clear hlt2 pi
              go_wp2_with fail
              have hzU := HLT.out.lt
              refine ⟨⟨k + 1, wide ++ [X], by omega, by go_num, HOT.out, by simp [HWL.out], ?_, ?_, ?_, by omega⟩, ?_⟩
              · intro x hx
                rcases List.mem_append.1 hx with hx | hx
                · exact HWD.out x hx
                · rw [List.mem_singleton.1 hx]; exact HX1.out
              · rw [← goR_some GN.out HST.out]; exact HGO.out
              · have h := HLT.out
                rw [List.take_length] at h
                refine cast ?_ h
                congr 1
                funext j
                rw [List.take_add_one, GN.out]
                simp [usedR, List.any_append]
              · simp [intOf]; omega
        · rw [decide_eq_false hX1] at HLI
          have HX1 := kide hX1
          clear hX1
          go_wp2_with (go_at_call 47; refine Calls.mono (HLI.out _) ?_; rintro e w6 ⟨rfl, rfl⟩)
          go_ret
          refine ⟨_, rfl, ?_, L5.out.bel⟩
          have hst : stepR ds wide s1 = none := by
            unfold stepR
            rw [HWL.out, HV.out, HX.out, if_pos rfl, if_neg HX1.out]
          have hz := HOK2.out
          rw [← HGO.out, goR_none GN.out hst] at hz
          rw [← hz]
          exact L5.out.none'
    · have e : k = n := by omega
      subst e
      have hgo2 : G = some wide := by
        have h := HGO.out
        have hl := HNL.out
        rw [List.drop_of_length_le (by omega), goR] at h
        exact h.symm
      have hL := HLW.out
      rw [List.take_of_length_le (by have := HNL.out; omega)] at hL
      have HLE := kide hL
      have hz := HOK2.out
      rw [hgo2] at hz
      simp only [] at hz
      have HZ3 := kide hz
      clear hz hgo2 hL hown hwl hwd hgo hlw
      go_wp2_with fail
      obtain ⟨wo, hwo⟩ : ∃ wo, wo = wr := ⟨_, rfl⟩
      subst hwo
      go_loopw [11] (fun i wr => ∃ t : Nat, t ≤ k - 1 ∧ i = .int .i64 (t : Int) ∧ (∀ j, j < t → usedR ns j = true) ∧ wr = wo) (fun i _ => k - (intOf i).toNat)
      case atStart => exact ⟨0, Nat.zero_le _, rfl, fun j hj => by omega, rfl⟩
      case round =>
        obtain ⟨t, ht, rfl, hall, rfl⟩ := hrel
        have HALL := kide hall
        clear hall
        by_cases htl : t + 1 < k
        · obtain ⟨f, hrw, hfq⟩ := HLE.out.row
          have q0 := hrw.cell (i := t) (by omega)
          rw [hfq t (by omega)] at q0
          clear hrw hfq
          cases hu : usedR ns t with
          | true =>
            rw [hu] at q0
            have HU := kide hu
            clear hu
            have i1 : (t : Int) + 1 < (k : Int) := by omega
            go_wp2_with fail
            go_roundw
            case rel =>
              refine ⟨t + 1, by omega, by go_num, fun j hj => ?_, by first | rfl | trivial⟩
              by_cases e : j = t
              · rw [e]; exact HU.out
              · exact HALL.out j (by omega)
            case measure => simp [intOf]; omega
          | false =>
            rw [hu] at q0
            have HU := kide hu
            clear hu
            have i1 : (t : Int) + 1 < (k : Int) := by omega
            go_wp2_with fail
            go_ret
            refine ⟨_, rfl, ?_, HLE.out.bel⟩
            have h := HZ3.out
            rw [if_neg (by
              intro hh
              rw [List.all_eq_true] at hh
              have := hh t (by rw [List.mem_range]; omega)
              rw [HU.out] at this
              cases this)] at h
            rw [← h]
            exact HLE.out.none'
        · have i1 : ¬ (t : Int) + 1 < (k : Int) := by omega
          have hte : t = k - 1 := by omega
          have HTE := kide hte
          clear htl hte
          go_wp2_with fail
          go_ret
          refine ⟨_, rfl, ?_, HLE.out.bel⟩
          have h := HZ3.out
          rw [if_pos (by
            rw [List.all_eq_true]
            intro j hj
            rw [List.mem_range] at hj
            exact HALL.out j (by have := HTE.out; omega))] at h
          rw [← h]
          exact HOW.out.mono (by omega)

end Go.Proofs.YtbpodkdlhjgncaaGreatDoor

/- The given l3Widths and WidthOf. -/
namespace Go.Proofs.YtbpodkdlhjgncaaGreatDoor
set_option linter.unusedVariables false
set_option linter.unusedSimpArgs false
open Go.RowKit

theorem l3Widths_any (a b : Option Addr) (c c2 n : Nat) (ds : List Dc) (xs : List Tg) (w : World) (hr : RdD w a ds) (hs : RdT w b xs) (hn : xs.length = n) :
    Calls Tryz.prog 73 #[.slice a ds.length c, .agg #[.slice b n c2]] w fun e w' => ∃ v, e = .returned v ∧ OW w' (w.heap.size + 1) v (widthsR ds (xs.map Tg.ct)) ∧ Below w.heap.size w w' := by
  by_cases h : dclR ds = true ∧ 1 ≤ n ∧ n ≤ 400
  · exact l3Widths_yes a b c c2 n ds xs w hr hs hn h
  · exact l3Widths_no a b c c2 n ds xs w hr hs hn h

theorem goR_len {ds : List Dc} {wide out : List Int} {ns : List Tc} (h : goR ds wide ns = some out) : out.length = wide.length + ns.length ∧ ((∀ x ∈ wide, 1 ≤ x ∧ x ≤ 4096) → ∀ x ∈ out, 1 ≤ x ∧ x ≤ 4096) := by
  induction ns generalizing wide with
  | nil => rw [goR] at h; cases h; exact ⟨by simp, fun h => h⟩
  | cons n t ih =>
    rw [goR] at h
    cases hst : stepR ds wide n with
    | none => rw [hst] at h; cases h
    | some v =>
      rw [hst] at h
      obtain ⟨h1, h2⟩ := ih h
      refine ⟨by rw [h1]; simp; omega, fun hw => h2 (fun x hx => ?_)⟩
      rcases List.mem_append.1 hx with hx | hx
      · exact hw x hx
      · rw [List.mem_singleton.1 hx]; exact stepR_range hst

theorem widthsR_bounds (ds : List Dc) (ns : List Tc) : (widthsR ds ns).length ≤ 400 ∧ ∀ x ∈ widthsR ds ns, 1 ≤ x ∧ x ≤ 4096 := by
  unfold widthsR
  split
  · rename_i h
    simp only [Bool.and_eq_true, decide_eq_true_eq] at h
    cases hg : goR ds [] ns with
    | none => simp
    | some wide =>
      obtain ⟨h1, h2⟩ := goR_len hg
      simp only []
      split
      · exact ⟨by simp at h1; omega, h2 (by simp)⟩
      · simp
  · simp

/-- The width of a term; -1: it is not right. -/
def widR (ds : List Dc) (ns : List Tc) : Int := if (widthsR ds ns).length = 0 then -1 else (widthsR ds ns).getD ((widthsR ds ns).length - 1) 0

theorem specWidth_any (a b : Option Addr) (c c2 n : Nat) (ds : List Dc) (xs : List Tg) (w : World) (hr : RdD w a ds) (hs : RdT w b xs) (hn : xs.length = n) :
    Calls Tryz.prog 48 #[.slice a ds.length c, .agg #[.slice b n c2]] w fun e w' => e = .returned (.int .i64 (widR ds (xs.map Tg.ct))) ∧ Below w.heap.size w w' := by
  have HC := kide (l3Widths_any a b c c2 n ds xs)
  have hb0 : Below w.heap.size w (w.alloc (Obj.cells #[Value.slice b n c2] 60)) := (Below.refl _ _).alloc (Nat.le_refl _) _
  obtain ⟨hbl, hbd⟩ := widthsR_bounds ds (xs.map Tg.ct)
  have HA := kide (HC.out w hr hs hn)
  have HA' := kide (HC.out _ (hr.later hb0) (hs.later hb0) hn)
  unfold widR
  generalize widthsR ds (xs.map Tg.ct) = W at *
  have HBD := kide hbd
  have B0 := kide hb0
  clear HC hr hs hn hbd hb0
  generalize hZ : (if W.length = 0 then (-1 : Int) else W.getD (W.length - 1) 0) = Z
  have HZ := kide hZ
  clear hZ
  go_enter Tryz.func48, Tryz.ntmps48
  go_wp2_with fail
  first
    | refine Calls.mono HA'.out ?_
    | refine Calls.mono HA.out ?_
  rintro e w1 ⟨v, rfl, ho, hb1⟩
  obtain ⟨ya, yc, rfl, hrd⟩ := ho.rd (by omega) (fun x hx => by have := HBD.out x hx; unfold in64; omega)
  have HB1 : Hid (Below w.heap.size w w1) := by first | exact B0.out.trans (hb1.mono (by simp)) | exact hb1
  clear ho hb1 HA HA'
  by_cases h0 : W.length = 0
  · have h := HZ.out
    rw [if_pos h0] at h
    subst h
    rw [h0]
    clear HZ hrd
    go_wp2_with fail
    go_ret
    exact ⟨rfl, HB1.out⟩
  · have h := HZ.out
    rw [if_neg h0] at h
    obtain ⟨-, -, hn | ⟨b3, o3, rfl, hc3⟩⟩ := hrd
    · rw [hn] at h0; simp at h0
    have g0 := hc3 (W.length - 1) (by omega)
    rw [h] at g0
    obtain ⟨l, hl⟩ : ∃ l, W.length = l + 1 := ⟨W.length - 1, by omega⟩
    rw [hl] at g0 ⊢
    have hl4 : l ≤ 400 := by omega
    simp only [Nat.add_sub_cancel] at g0
    clear hc3 HZ h h0 HBD hbl hl
    go_wp2_with fail
    go_ret
    exact ⟨rfl, HB1.out⟩

end Go.Proofs.YtbpodkdlhjgncaaGreatDoor

/- How many leaves the tree of a term has: plain facts. No program in sight. -/
namespace Go.Proofs.YtbpodkdlhjgncaaGreatDoor
set_option linter.unusedVariables false
set_option linter.unusedSimpArgs false
open Go.RowKit

theorem getD_left {α : Type} (l m : List α) (i : Nat) (d : α) (h : i < l.length) : (l ++ m).getD i d = l.getD i d := by simp [List.getD, List.getElem?_append, h]
theorem getD_right {α : Type} (l m : List α) (i : Nat) (d : α) (h : l.length ≤ i) : (l ++ m).getD i d = m.getD (i - l.length) d := by simp [List.getD, List.getElem?_append, Nat.not_lt.2 h]

theorem goR_kids {ds : List Dc} : ∀ (ns : List Tc) (wide r : List Int), goR ds wide ns = some r → ∀ (k : Nat) (n : Tc), ns[k]? = some n → kidsR (wide.length + k) n.ks = true
  | [], _, _, _ => by simp
  | m :: t, wide, r, h => by
    rw [goR] at h
    cases hst : stepR ds wide m with
    | none => rw [hst] at h; cases h
    | some v =>
      rw [hst] at h
      intro k n hk
      cases k with
      | zero =>
        simp at hk
        subst hk
        have := stepR_kids hst
        simp only [Bool.and_eq_true] at this
        exact this.1.1
      | succ k =>
        have := goR_kids t _ r h k n (by simpa using hk)
        rw [show wide.length + (k + 1) = (wide ++ [v]).length + k by simp; omega]
        exact this

/-- In a right term Kids are ahead. -/
theorem right_kids {ds : List Dc} {ns : List Tc} (h : ¬ (widthsR ds ns).length = 0) : 1 ≤ ns.length ∧ ns.length ≤ 400 ∧ (widthsR ds ns).length = ns.length ∧ ∀ (k : Nat) (n : Tc), ns[k]? = some n → ∀ j ∈ n.ks, 0 ≤ j ∧ j < (k : Int) := by
  unfold widthsR at h ⊢
  split at h
  · rename_i hc
    simp only [Bool.and_eq_true, decide_eq_true_eq] at hc
    rw [if_pos (by simp [hc])]
    cases hg : goR ds [] ns with
    | none => rw [hg] at h; simp at h
    | some wide =>
      rw [hg] at h
      simp only [] at h ⊢
      split at h
      · rename_i hu
        rw [if_pos hu]
        refine ⟨hc.1.2, hc.2, by simpa using (goR_len hg).1, fun k n hk j hj => ?_⟩
        have := goR_kids ns [] wide hg k n hk
        simp only [List.length_nil, Nat.zero_add] at this
        unfold kidsR at this
        rw [List.all_eq_true] at this
        have := this j hj
        simp only [decide_eq_true_eq] at this
        omega
      · simp at h
  · simp at h

end Go.Proofs.YtbpodkdlhjgncaaGreatDoor

/- Contracts of the laws' own small functions on rows of words: how long, copied, compared. -/
namespace Go.Proofs.YtbpodkdlhjgncaaGreatDoor
set_option linter.unusedVariables false
set_option linter.unusedSimpArgs false
open Go.RowKit

/-- A word as it lies: its width, where its bits lie, how many rows of 64 there are. -/
structure Bh where
  wd : Int
  a : Option Addr
  n : Nat
  c : Nat

def RdBh (w : World) (a : Option Addr) (hs : List Bh) : Prop :=
  hs.length ≤ 1048576 ∧ (hs = [] ∨ ∃ b o, a = some ⟨b, o, none⟩ ∧ ∀ i h, hs[i]? = some h → w.cell? ⟨b, o + i * 2, none⟩ = some (.int .i64 h.wd) ∧ w.cell? ⟨b, o + i * 2 + 1, none⟩ = some (.slice h.a h.n h.c) ∧ h.n ≤ 9223372036854775807)

theorem RdBh.later {w w' : World} {a : Option Addr} {hs : List Bh} (h : RdBh w a hs) (hb : Below w.heap.size w w') : RdBh w' a hs := by
  refine ⟨h.1, ?_⟩
  rcases h.2 with h | ⟨b, o, rfl, hc⟩
  · exact .inl h
  · refine .inr ⟨b, o, rfl, fun i x hi => ?_⟩
    obtain ⟨f0, f1, f2⟩ := hc i x hi
    exact ⟨by rw [kcell hb _ _ (block_lt_of_cell f0)]; exact f0, by rw [kcell hb _ _ (block_lt_of_cell f1)]; exact f1, f2⟩

/-- What is left of L behind the rows of some words; -1: nothing. -/
def szBl : List Bh → Int → Int
  | [], L => L
  | h :: t, L => if (h.n : Int) ≤ L then szBl t (L - h.n) else -1

theorem szBl_range (hs : List Bh) (L : Int) (hL : 0 ≤ L) : szBl hs L = -1 ∨ 0 ≤ szBl hs L ∧ szBl hs L ≤ L ∧ ∀ h ∈ hs, (h.n : Int) ≤ L := by
  induction hs generalizing L with
  | nil => right; simp [szBl]; exact hL
  | cons h t ih =>
    rw [szBl]
    split
    · rename_i hc
      rcases ih (L - h.n) (by omega) with e | ⟨e1, e2, e3⟩
      · left; exact e
      · right
        refine ⟨e1, by omega, fun x hx => ?_⟩
        rcases List.mem_cons.1 hx with rfl | hx
        · exact hc
        · have := e3 x hx; omega
    · left; rfl

theorem szBitsS_in (a : Option Addr) (c : Nat) (hs : List Bh) (L : Int) (w : World) (hr : RdBh w a hs) (hL : 0 ≤ L) (hL2 : L ≤ 1048576) (h : (hs.length : Int) ≤ L) :
    Calls Tryz.prog 6 #[.slice a hs.length c, .int .i64 L] w fun e w' => e = .returned (.int .i64 (szBl hs (L - hs.length))) ∧ Below w.heap.size w w' := by
  have hlen := hr.1
  generalize hZ : szBl hs (L - hs.length) = Z
  have HZ : Hid (szBl hs (L - hs.length) = Z) := hZ
  clear hZ
  go_enter Tryz.func6, Tryz.ntmps6
  go_wp2_with fail
  go_loopw [1, 5] (fun l i wr => ∃ (k : Nat) (Q : Int), k ≤ hs.length ∧ i = .int .i64 k ∧ l = .int .i64 Q ∧ 0 ≤ Q ∧ Q ≤ 1048576 ∧ szBl (hs.drop k) Q = Z ∧ Below w.heap.size w wr) (fun _ i _ => hs.length - (intOf i).toNat)
  case atStart => exact ⟨0, _, Nat.zero_le _, rfl, rfl, by omega, by omega, by rw [List.drop_zero]; exact HZ.out, Below.refl _ _⟩
  case round =>
    obtain ⟨k, Q, hk, rfl, rfl, hQ0, hQ1, hq, hbel⟩ := hrel
    by_cases hlt : k < hs.length
    · obtain ⟨-, h | ⟨b, o, rfl, hc⟩⟩ := hr
      · subst h; simp at hlt
      obtain ⟨⟨t, a1, n1, c1⟩, hh⟩ : ∃ x, hs[k] = x := ⟨_, rfl⟩
      obtain ⟨f0, f1, f2⟩ := hc k ⟨t, a1, n1, c1⟩ (by rw [List.getElem?_eq_getElem hlt, hh])
      simp only [] at f0 f1 f2
      have g0 : wr.cell? ⟨b, o + k * 2, none⟩ = some (.int .i64 t) := by rw [hbel.cell (by exact block_lt_of_cell f0)]; exact f0
      have g1 : wr.cell? ⟨b, o + k * 2 + 1, none⟩ = some (.slice a1 n1 c1) := by rw [hbel.cell (by exact block_lt_of_cell f1)]; exact f1
      rw [List.drop_eq_getElem_cons hlt, hh, szBl] at hq
      simp only [] at hq
      have HQ : Hid _ := hq
      have HB : Hid _ := hbel
      clear hc hh f0 f1 hbel hq
      by_cases hyes : (n1 : Int) ≤ Q
      · go_wp2_with (go_at_call 21; refine (szBits_yes _ _ _ _ _ _ hQ0 hQ1 f2 hyes).mono ?_; rintro e w1 ⟨rfl, hb1⟩)
        go_roundw
        case rel =>
          have h := HQ.out
          rw [if_pos hyes] at h
          exact ⟨k + 1, _, by omega, by go_num, rfl, by omega, by omega, h, HB.out.trans (hb1.mono HB.out.size)⟩
        case measure => simp [intOf]; omega
      · have hyes' : ¬ (n1 : Int) ≤ Q := hyes
        have HY := kide hyes'
        go_wp2_with (go_at_call 21; refine (szBits_no _ _ _ _ _ _ hQ0 hQ1 f2 HY.out).mono ?_; rintro e w1 ⟨rfl, hb1⟩)
        go_ret
        have h := HQ.out
        rw [if_neg (by have := HY.out; omega)] at h
        exact ⟨ret_int h, HB.out.trans (hb1.mono HB.out.size)⟩
    · have e : k = hs.length := by omega
      rw [e, List.drop_length, szBl] at hq
      have HQ : Hid _ := hq
      clear hq
      go_wp2_with fail
      go_ret
      exact ⟨ret_int HQ.out, hbel⟩

theorem szBitsS_out (a : Option Addr) (n c : Nat) (L : Int) (w : World) (hL : 0 ≤ L) (hL2 : L ≤ 1048576) (hn : n ≤ 9223372036854775807) (h : ¬ (n : Int) ≤ L) :
    Calls Tryz.prog 6 #[.slice a n c, .int .i64 L] w fun e w' => e = .returned (.int .i64 (-1)) ∧ w' = w := by
  go_enter Tryz.func6, Tryz.ntmps6
  go_wp2_with fail
  go_ret
  exact ⟨rfl, rfl⟩

/-- A word: its width, where its bits lie, its bits. -/
structure Bw where
  wd : Int
  a : Option Addr
  c : Nat
  ws : List Nat

def Bw.ct (x : Bw) : Int × List Nat := (x.wd, x.ws)

def BwAt (w : World) (b o : Nat) (x : Bw) : Prop :=
  w.cell? ⟨b, o, none⟩ = some (.int .i64 x.wd) ∧ w.cell? ⟨b, o + 1, none⟩ = some (.slice x.a x.ws.length x.c) ∧ Rd w x.a x.ws ∧ in64 x.wd

theorem BwAt.later {w w' : World} {b o : Nat} {x : Bw} (h : BwAt w b o x) (hb : Below w.heap.size w w') : BwAt w' b o x := by
  obtain ⟨f0, f1, f2, f3⟩ := h
  exact ⟨by rw [kcell hb _ _ (block_lt_of_cell f0)]; exact f0, by rw [kcell hb _ _ (block_lt_of_cell f1)]; exact f1, f2.later hb, f3⟩

/-- A slice whose words are xs, wherever it lies. -/
def RdW (w : World) (a : Option Addr) (xs : List Bw) : Prop :=
  xs.length ≤ 1048576 ∧ (xs = [] ∨ ∃ b o, a = some ⟨b, o, none⟩ ∧ ∀ i n, xs[i]? = some n → BwAt w b (o + i * 2) n)

theorem RdW.later {w w' : World} {a : Option Addr} {xs : List Bw} (h : RdW w a xs) (hb : Below w.heap.size w w') : RdW w' a xs := by
  refine ⟨h.1, ?_⟩
  rcases h.2 with h | ⟨b, o, rfl, hc⟩
  · exact .inl h
  · exact .inr ⟨b, o, rfl, fun i n hi => (hc i n hi).later hb⟩

theorem eqBitsS_same (a b : Option Addr) (c d : Nat) (xs ys : List Bw) (w : World) (hr : RdW w a xs) (hs : RdW w b ys) (he : xs.map Bw.ct = ys.map Bw.ct) (n : Nat) (h1 : xs.length = n) (h2 : ys.length = n) :
    Calls Tryz.prog 12 #[.slice a n c, .slice b n d] w fun e w' => e = .returned (.bool true) ∧ Below w.heap.size w w' := by
  have hl1 := hr.1
  rw [h1] at hl1
  have hne : ((n : Int) != (n : Int)) = false := by simp
  have H1 := kide h1
  have H2 := kide h2
  have HE := kide he
  clear h1 h2 he
  go_enter Tryz.func12, Tryz.ntmps12
  go_wp2_with fail
  clear hne
  go_loopw [5] (fun i wr => ∃ k : Nat, k ≤ n ∧ i = .int .i64 k ∧ Below w.heap.size w wr) (fun i _ => n - (intOf i).toNat)
  case atStart => exact ⟨0, Nat.zero_le _, rfl, Below.refl _ _⟩
  case round =>
    obtain ⟨k, hk, rfl, hbel⟩ := hrel
    have HB := kide hbel
    by_cases hlt : k < n
    · obtain ⟨-, h | ⟨b1, o1, rfl, hc1⟩⟩ := hr
      · have := H1.out; subst h; simp at this; omega
      obtain ⟨-, h | ⟨b2, o2, rfl, hc2⟩⟩ := hs
      · have := H2.out; subst h; simp at this; omega
      obtain ⟨⟨s1, a1, c1, k1⟩, hx⟩ : ∃ x, xs[k]? = some x := ⟨xs[k]'(by rw [H1.out]; exact hlt), List.getElem?_eq_getElem _⟩
      obtain ⟨⟨s2, a2, c2, k2⟩, hy⟩ : ∃ y, ys[k]? = some y := ⟨ys[k]'(by rw [H2.out]; exact hlt), List.getElem?_eq_getElem _⟩
      have hxy : s1 = s2 ∧ k1 = k2 := by
        have h := congrArg (fun l => l[k]?) HE.out
        simp [hx, hy, Bw.ct] at h
        exact h
      obtain ⟨rfl, rfl⟩ := hxy
      obtain ⟨p0, p1, p2, -⟩ := (hc1 k _ hx).later hbel
      obtain ⟨q0, q1, q2, -⟩ := (hc2 k _ hy).later hbel
      simp only [] at p0 p1 p2 q0 q1 q2
      have l1 := block_lt_of_cell p0
      have l2 := block_lt_of_cell q0
      have i0 : (k : Int) < (n : Int) := by omega
      have HEQ : Hid (∀ u, Below wr.heap.size wr u → Calls Tryz.prog 36 #[.agg #[.int .i64 s1, .slice a1 k1.length c1], .agg #[.int .i64 s1, .slice a2 k1.length c2]] u fun e w' => e = .returned (.bool true) ∧ Below u.heap.size u w') := fun u hu => by
        have := eqBits_any s1 s1 a1 a2 c1 c2 k1 k1 u (p2.later hu) (q2.later hu)
        simpa using this
      clear hc1 hc2 hbel hx hy p2 q2
      go_wp2_with fail
      go_region_held3 (fun u => u.cell? ⟨b1, o1 + k * 2, none⟩ = some (Value.int .i64 s1) ∧ u.cell? ⟨b1, o1 + k * 2 + 1, none⟩ = some (Value.slice a1 k1.length c1) ∧ u.cell? ⟨b2, o2 + k * 2, none⟩ = some (Value.int .i64 s1) ∧ u.cell? ⟨b2, o2 + k * 2 + 1, none⟩ = some (Value.slice a2 k1.length c2)) (simp [*])
        ((go_at_call 36; refine Calls.mono (HEQ.out _ ?_) ?_; exact (Below.refl _ _).drew; rintro e w1 ⟨rfl, hb1⟩; replace hb1 := kundrew hb1; have k0 := kcell hb1 b1 (o1 + k * 2) l1; have k1' := kcell hb1 b1 (o1 + k * 2 + 1) l1; have k2 := kcell hb1 b2 (o2 + k * 2) l2; have k3 := kcell hb1 b2 (o2 + k * 2 + 1) l2))
      go_wp2_with fail
      go_roundw
      case rel => exact ⟨k + 1, by omega, by go_num, HB.out.trans (hb1.mono HB.out.size)⟩
      case measure => simp [intOf]; omega
    · clear hbel
      go_wp2_with fail
      go_ret
      exact ⟨rfl, HB.out⟩

theorem Tryz.infoBits : (Tryz.prog.info? 63).map (fun i => (i.zero, i.size, i.bytes)) = some (some (.agg #[.int .i64 0, .slice none 0 0]), 2, 32) := by kernel_rfl

theorem make_words (n : Nat) (hn : n ≤ 1048576) (kl kc : IntKind) (w : World) :
    (Instr.makeSlice 28 (.int kl (n : Int)) (.int kc (n : Int))).run Tryz.prog w = .ok (.slice (some ⟨w.heap.size, 0, none⟩) n n) (w.alloc (.cells (madeCells #[.int .i64 0, .slice none 0 0] (n * 2)) 63)) := by
  obtain ⟨i0, hi, hz0, hz1, hz2⟩ := info_parts Tryz.infoBits
  have := run_make (P := Tryz.prog) w 28 63 i0 _ Tryz.underlying28 hi hz0 kl kc n n (by omega) (Int.le_refl _) (by rw [hz2]; omega) (by omega)
  rw [hz1] at this
  simp only [Int.toNat_natCast] at this
  exact this

/-- A copied word: its bits lie in a block of their own. -/
def BwOwn (w : World) (G : Nat) (f : Nat → Value) (j : Nat) (x : Bw) : Prop :=
  f (j * 2) = .int .i64 x.wd ∧ f (j * 2 + 1) = .slice x.a x.ws.length x.c ∧ ∃ g, x.a = some ⟨g, 0, none⟩ ∧ G < g ∧ Own w g x.ws

theorem BwOwn.later {w w' : World} {G j : Nat} {f : Nat → Value} {x : Bw} (h : BwOwn w G f j x) (hb : Below w.heap.size w w') : BwOwn w' G f j x := by
  obtain ⟨h0, h1, g, h2, h3, h4⟩ := h
  exact ⟨h0, h1, g, h2, h3, h4.later hb h4.lt⟩

theorem BwOwn.put {w : World} {G j k : Nat} {f : Nat → Value} {x : Bw} (h : BwOwn w G f j x) (u v : Value) (hk : j < k) :
    BwOwn ((w.setCell ⟨G, k * 2, none⟩ u).setCell ⟨G, k * 2 + 1, none⟩ v) G (fun i => if i = k * 2 + 1 then v else if i = k * 2 then u else f i) j x := by
  obtain ⟨h0, h1, g, h2, h3, h4⟩ := h
  refine ⟨?_, ?_, g, h2, h3, (h4.other (by simp; omega) _).other (by simp; omega) _⟩
  · show (if _ then _ else _) = _
    rw [if_neg (by omega), if_neg (by omega)]; exact h0
  · show (if _ then _ else _) = _
    rw [if_neg (by omega), if_neg (by omega)]; exact h1

end Go.Proofs.YtbpodkdlhjgncaaGreatDoor

/- What both ValuesOk answer. -/
namespace Go.Proofs.YtbpodkdlhjgncaaGreatDoor
set_option linter.unusedVariables false
set_option linter.unusedSimpArgs false
open Go.RowKit

/-- Are the words right for the variables? -/
def valR (ds : List Dc) (vs : List (Int × List Nat)) : Bool :=
  dclR ds && decide (vs.length = ds.length) && (List.range vs.length).all fun i => rightB (vs.getD i (0, [])).1 (vs.getD i (0, [])).2 && decide ((vs.getD i (0, [])).1 = (ds.getD i (.empty, 0)).2)

theorem valR_iff {ds : List Dc} {vs : List (Int × List Nat)} : valR ds vs = true ↔ dclR ds = true ∧ vs.length = ds.length ∧ ∀ i, i < vs.length → rightB (vs.getD i (0, [])).1 (vs.getD i (0, [])).2 = true ∧ (vs.getD i (0, [])).1 = (ds.getD i (.empty, 0)).2 := by
  simp only [valR, Bool.and_eq_true, decide_eq_true_eq, List.all_eq_true, List.mem_range]
  exact ⟨fun h => ⟨h.1.1, h.1.2, h.2⟩, fun h => ⟨⟨h.1, h.2.1⟩, h.2.2⟩⟩

theorem valR_bad {ds : List Dc} {xs : List Bw} {k : Nat} {x : Bw} {d : Dc} (hx : xs[k]? = some x) (hd : ds[k]? = some d) (h : ¬ (rightB x.wd x.ws = true ∧ x.wd = d.2)) : valR ds (xs.map Bw.ct) = false := by
  rw [Bool.eq_false_iff]; intro h'
  have hk := (List.getElem?_eq_some_iff.1 hx).1
  have := (valR_iff.1 h').2.2 k (by simpa using hk)
  simp [List.getD, hx, hd, Bw.ct] at this
  exact h this

theorem valR_good {ds : List Dc} {xs : List Bw} (h1 : dclR ds = true) (h2 : xs.length = ds.length) (h : ∀ (i : Nat) x d, xs[i]? = some x → ds[i]? = some d → rightB x.wd x.ws = true ∧ x.wd = d.2) : valR ds (xs.map Bw.ct) = true := by
  refine valR_iff.2 ⟨h1, by simpa using h2, fun i hi => ?_⟩
  simp at hi
  have := h i xs[i] (ds[i]'(by omega)) (List.getElem?_eq_getElem hi) (List.getElem?_eq_getElem (by omega))
  simp [List.getD, hi, show i < ds.length by omega, Bw.ct]
  exact this

set_option maxHeartbeats 1000000 in
theorem implValues_any (a b : Option Addr) (c c2 : Nat) (ds : List Dc) (xs : List Bw) (w : World) (hr : RdD w a ds) (hs : RdW w b xs) (n : Nat) (hn : xs.length = n) :
    Calls Tryz.prog 29 #[.slice a ds.length c, .slice b n c2] w fun e w' => e = .returned (.bool (valR ds (xs.map Bw.ct))) ∧ Below w.heap.size w w' := by
  have hl1 := hr.1
  have hl2 := hs.1
  have HDC := kide (implDecls_any a c ds w hr)
  cases hD : dclR ds with
  | false =>
    rw [hD] at HDC
    have HR : valR ds (xs.map Bw.ct) = false := by simp [valR, hD]
    rw [HR]
    clear HR hD
    go_enter Tryz.func29, Tryz.ntmps29
    go_wp2_with fail
    refine Calls.mono HDC.out ?_
    rintro e w1 ⟨rfl, hb1⟩
    go_wp2_with fail
    go_ret
    exact ⟨rfl, hb1⟩
  | true =>
    rw [hD] at HDC
    by_cases hnd : n = ds.length
    · subst hnd
      have HG := kide (fun h => valR_good (xs := xs) hD hn h)
      have HBAD := kide (fun k x d hx hd h => valR_bad (ds := ds) (xs := xs) (k := k) (x := x) (d := d) hx hd h)
      generalize valR ds (xs.map Bw.ct) = R at *
      have HN := kide hn
      have hne : ((ds.length : Int) != (ds.length : Int)) = false := by simp
      clear hD hn hl2
      go_enter Tryz.func29, Tryz.ntmps29
      go_wp2_with fail
      refine Calls.mono HDC.out ?_
      rintro e w1 ⟨rfl, hb1⟩
      have B1 := kide hb1
      clear hb1 HDC
      go_wp2_with fail
      clear hne
      go_loopw [19] (fun i wr => ∃ k : Nat, k ≤ ds.length ∧ i = .int .i64 (k : Int) ∧ (∀ (i : Nat) x d, i < k → xs[i]? = some x → ds[i]? = some d → rightB x.wd x.ws = true ∧ x.wd = d.2) ∧ Below w.heap.size w wr) (fun i _ => ds.length - (intOf i).toNat)
      case atStart => exact ⟨0, Nat.zero_le _, rfl, fun i x d h => by omega, B1.out⟩
      case round =>
        obtain ⟨k, hk, rfl, hz, hbel⟩ := hrel
        have HZ := kide hz
        have HB := kide hbel
        by_cases hlt : k < ds.length
        · obtain ⟨-, hsz, h | ⟨b1, o1, rfl, hc1⟩⟩ := hr
          · subst h; simp at hlt
          obtain ⟨-, h | ⟨b2, o2, rfl, hc2⟩⟩ := hs
          · have := HN.out; subst h; simp at this; omega
          obtain ⟨⟨t, y⟩, gd⟩ : ∃ d, ds[k]? = some d := ⟨ds[k], List.getElem?_eq_getElem hlt⟩
          obtain ⟨⟨s1, a1, c1, k1⟩, gx⟩ : ∃ x, xs[k]? = some x := ⟨xs[k]'(by rw [HN.out]; exact hlt), List.getElem?_eq_getElem _⟩
          obtain ⟨-, q1⟩ := (hc1 k _ gd).later hbel
          obtain ⟨p0, p1, p2, p3⟩ := (hc2 k _ gx).later hbel
          obtain ⟨hy, -⟩ := hsz _ (List.mem_of_getElem? gd)
          simp only [] at q1 p0 p1 p2 p3 hy
          have HBD := kide (fun h => HBAD.out k _ _ gx gd h)
          simp only [] at HBD
          have GX := kide gx
          have GD := kide gd
          have i0 : (k : Int) < (ds.length : Int) := by omega
          have hb0 : Below wr.heap.size wr (wr.alloc (Obj.cells #[Value.int .i64 s1, Value.slice a1 k1.length c1] 63)) := (Below.refl _ _).alloc (Nat.le_refl _) _
          have HOK : Hid (∀ u, Below wr.heap.size wr u → Calls Tryz.prog 53 #[.agg #[.int .i64 s1, .slice a1 k1.length c1]] u fun e w' => e = .returned (.bool (rightB s1 k1)) ∧ Below u.heap.size u w') := fun u hu => implOk_any s1 a1 c1 k1 u (p2.later hu)
          have l1 : b1 < wr.heap.size := block_lt_of_cell q1
          have c0 : (wr.alloc (Obj.cells #[Value.int .i64 s1, Value.slice a1 k1.length c1] 63)).cell? ⟨wr.heap.size, 0, none⟩ = some (Value.int .i64 s1) := by simp
          have c1' : (wr.alloc (Obj.cells #[Value.int .i64 s1, Value.slice a1 k1.length c1] 63)).cell? ⟨wr.heap.size, 1, none⟩ = some (Value.slice a1 k1.length c1) := by simp
          have c2' : (wr.alloc (Obj.cells #[Value.int .i64 s1, Value.slice a1 k1.length c1] 63)).cell? ⟨b1, o1 + k * 2 + 1, none⟩ = some (Value.int .i64 y) := by rw [kcell hb0 _ _ l1]; exact q1
          have l0 : wr.heap.size < (wr.alloc (Obj.cells #[Value.int .i64 s1, Value.slice a1 k1.length c1] 63)).heap.size := by simp
          have l2 : b1 < (wr.alloc (Obj.cells #[Value.int .i64 s1, Value.slice a1 k1.length c1] 63)).heap.size := by simp; omega
          clear hc1 hc2 hsz gx gd hbel hz p2 HBAD
          generalize hrB : rightB s1 k1 = r at *
          have HRB := kide hrB
          clear hrB
          cases r with
          | false =>
            have HF := kide (HBD.out (by simp))
            go_wp2_with fail
            generalize wr.alloc (Obj.cells #[Value.int .i64 s1, Value.slice a1 k1.length c1] 63) = w0 at *
            clear q1 p0 p1
            have HB0 := kide hb0
            clear hb0
            first | (go_region_with (go_at_call 53; refine Calls.mono (HOK.out _ ?_) ?_; exact HB0.out.drew; rintro e w3 ⟨rfl, hb3⟩; replace hb3 := kundrew hb3; have k0 := kcell hb3 wr.heap.size 0 l0; have k1' := kcell hb3 wr.heap.size 1 l0; have k2' := kcell hb3 b1 (o1 + k * 2 + 1) l2)) | fail
            all_goals
              go_wp2_with fail
              go_ret
              exact ⟨ret_bool HF.out.symm, HB.out.trans ((HB0.out.trans (hb3.mono HB0.out.size)).mono HB.out.size)⟩
          | true =>
            have HREG := kide hb0
            by_cases hsy : s1 = y
            · have hne : (s1 != y) = false := by simp [hsy]
              have HSY := kide hsy
              clear hsy
              go_wp2_with fail
              generalize wr.alloc (Obj.cells #[Value.int .i64 s1, Value.slice a1 k1.length c1] 63) = w0 at *
              clear q1 p0 p1 hb0
              go_region_held3 (fun u => u.cell? ⟨wr.heap.size, 0, none⟩ = some (Value.int .i64 s1) ∧ u.cell? ⟨wr.heap.size, 1, none⟩ = some (Value.slice a1 k1.length c1) ∧ u.cell? ⟨b1, o1 + k * 2 + 1, none⟩ = some (Value.int .i64 y)) (simp [*])
                ((go_at_call 53; refine Calls.mono (HOK.out _ ?_) ?_; exact HREG.out.drew; rintro e w3 ⟨rfl, hb3⟩; replace hb3 := kundrew hb3; have k0 := kcell hb3 wr.heap.size 0 l0; have k1' := kcell hb3 wr.heap.size 1 l0; have k2' := kcell hb3 b1 (o1 + k * 2 + 1) l2))
              go_wp2_with fail
              go_roundw
              case rel =>
                refine ⟨k + 1, by omega, by go_num, fun i x d hi hx hd => ?_, HB.out.trans ((HREG.out.trans (hb3.mono HREG.out.size)).mono HB.out.size)⟩
                by_cases hik : i = k
                · subst hik
                  rw [GX.out] at hx
                  rw [GD.out] at hd
                  cases hx
                  cases hd
                  exact ⟨HRB.out, HSY.out⟩
                · exact HZ.out i x d (by omega) hx hd
              case measure => simp [intOf]; omega
            · have hne : (s1 != y) = true := by simp [hsy]
              have HF := kide (HBD.out (fun h => hsy h.2))
              clear hsy
              go_wp2_with fail
              generalize wr.alloc (Obj.cells #[Value.int .i64 s1, Value.slice a1 k1.length c1] 63) = w0 at *
              clear q1 p0 p1 hb0
              go_region_held3 (fun u => u.cell? ⟨wr.heap.size, 0, none⟩ = some (Value.int .i64 s1) ∧ u.cell? ⟨wr.heap.size, 1, none⟩ = some (Value.slice a1 k1.length c1) ∧ u.cell? ⟨b1, o1 + k * 2 + 1, none⟩ = some (Value.int .i64 y)) (simp [*])
                ((go_at_call 53; refine Calls.mono (HOK.out _ ?_) ?_; exact HREG.out.drew; rintro e w3 ⟨rfl, hb3⟩; replace hb3 := kundrew hb3; have k0 := kcell hb3 wr.heap.size 0 l0; have k1' := kcell hb3 wr.heap.size 1 l0; have k2' := kcell hb3 b1 (o1 + k * 2 + 1) l2))
              go_wp2_with fail
              go_ret
              exact ⟨ret_bool HF.out.symm, HB.out.trans ((HREG.out.trans (hb3.mono HREG.out.size)).mono HB.out.size)⟩
        · have e : k = ds.length := by omega
          have HR : Hid (R = true) := HG.out fun i x d hx hd => HZ.out i x d (by have := (List.getElem?_eq_some_iff.1 hd).1; omega) hx hd
          clear hz hbel e
          go_wp2_with fail
          go_ret
          exact ⟨ret_bool HR.out.symm, HB.out⟩
    · have HR : valR ds (xs.map Bw.ct) = false := by simp [valR, hn, hnd]
      rw [HR]
      have hne : ((n : Int) != (ds.length : Int)) = true := by simp; omega
      rw [hn] at hl2
      clear HR hD hn hnd
      go_enter Tryz.func29, Tryz.ntmps29
      go_wp2_with fail
      refine Calls.mono HDC.out ?_
      rintro e w1 ⟨rfl, hb1⟩
      go_wp2_with fail
      go_ret
      exact ⟨rfl, hb1⟩

end Go.Proofs.YtbpodkdlhjgncaaGreatDoor
