/- Several texts in one. -/
import Derived.Test.YtdlmgndmfphneaaGreatDoorZGAE
import Derived.Handy

/- The given l3Widths, where it goes on: the loops. -/
namespace Go.Proofs.YtdlmgndmfphneaaGreatDoor
set_option linter.unusedVariables false
set_option linter.unusedSimpArgs false
open Go.RowKit

set_option maxHeartbeats 1000000 in
theorem l3Widths_yes (a b : Option Addr) (c c2 n : Nat) (ds : List Dc) (xs : List Tg) (w : World) (hr : RdD w a ds) (hs : RdT w b xs) (hn : xs.length = n) (hok : dclR ds = true ∧ 1 ≤ n ∧ n ≤ 400) :
    Calls Tryz.prog 23 #[.slice a ds.length c, .agg #[.slice b n c2]] w fun e w' => ∃ v, e = .returned v ∧ OW w' (w.heap.size + 1) v (widthsR ds (xs.map Tg.ct)) ∧ Below w.heap.size w w' := by
  have hl1 := hr.1
  have hl2 := hs.1
  rw [hn] at hl2
  have HR := kide hr
  have HS := kide hs
  have HN := kide hn
  have hb1 : Below w.heap.size w (w.alloc (Obj.cells #[Value.slice b n c2] 34)) := (Below.refl _ _).alloc (Nat.le_refl _) _
  have hb2 : Below w.heap.size w ((w.alloc (Obj.cells #[Value.slice b n c2] 34)).alloc (Obj.cells #[] 2)) := hb1.alloc (by simp) _
  have B2 := kide hb2
  have HDK := kide (fun u (hu : Below w.heap.size w u) => specDecls_any a c ds u (hr.later hu))
  generalize hZ : widthsR ds (xs.map Tg.ct) = Z
  have HZ := kide hZ
  clear hr hs hn hb1 hb2 hZ
  go_enter Tryz.func23, Tryz.ntmps23
  go_wp2_with fail
  refine Calls.mono (HDK.out _ B2.out) ?_
  rintro e w1 ⟨rfl, hb1⟩
  have c1 := kcell hb1 w.heap.size 0 (by simp; omega)
  have n1 : w1.heap[w.heap.size + 1]? = some (.cells #[] 2 (0, 0)) := by
    rw [hb1.block _ (by simp)]
    have h := heap_alloc_new (w.alloc (Obj.cells #[Value.slice b n c2] 34)) (Obj.cells #[] 2)
    simpa using h
  have B1 := kide (B2.out.trans (hb1.mono B2.out.size))
  have HBX : Hid (w1.heap[w.heap.size]? = some (.cells #[.slice b n c2] 34 (0, 0))) := by
    show w1.heap[w.heap.size]? = _
    rw [hb1.block _ (by simp; omega)]
    have h := heap_alloc_new w (Obj.cells #[Value.slice b n c2] 34)
    rw [← h]
    exact ((Below.refl _ _).alloc (B := (w.alloc (Obj.cells #[Value.slice b n c2] 34)).heap.size) (Nat.le_refl _) _).block _ (by simp)
  have z1 : w.heap.size + 1 < w1.heap.size := lt_of_block n1
  have zz : w.heap.size < w1.heap.size := by omega
  simp at c1
  clear hb1 B2
  have ON1 : Hid (OW w1 (w.heap.size + 1) (.slice (some ⟨w.heap.size + 1, 0, none⟩) 0 0) []) := ⟨rfl, .inr ⟨w.heap.size + 1, 0, #[], rfl, Nat.le_refl _, n1, Nat.le_refl _, by unfold maxLen; omega, rfl, rfl⟩⟩
  obtain ⟨hd, hn1, hn4⟩ := hok
  rw [hd]
  have hmk := fun kl kc w => run_make_row' (P := Tryz.prog) 90 4 (.bool false) 1 Tryz.underlying90 Tryz.infoBool rfl kl kc n (by omega) (by omega) w
  have HD := kide hd
  clear hd
  go_wp2_with fail
  generalize hNS : xs.map Tg.ct = ns at *
  have HNS := kide hNS
  have hnl : ns.length = n := by rw [← hNS, List.length_map]; exact HN.out
  have HNL := kide hnl
  have hok2 : (match goR ds [] ns with
    | none => []
    | some wide => if (List.range (n - 1)).all (usedR ns) = true then wide else []) = Z := by
    have h := HZ.out
    rw [widthsR, if_pos (by simp only [Bool.and_eq_true, decide_eq_true_eq, hnl]; exact ⟨⟨HD.out, hn1⟩, hn4⟩), hnl] at h
    exact h
  have HOK2 := kide hok2
  clear hok2 HZ HDK hNS hnl
  have ob3 : Below w1.heap.size w1 ((w1.alloc (Obj.cells #[] 2)).alloc (Obj.cells (madeCells #[Value.bool false] n) 4)) := ((Below.refl _ _).alloc (Nat.le_refl _) _).alloc (by simp) _
  have hrow := krow (heap_alloc_new (w1.alloc (Obj.cells #[] 2)) (.cells (madeCells #[Value.bool false] n) 4))
  rw [size_madeCells] at hrow
  have hx1 : w1.heap[w.heap.size]? = some (.cells #[.slice b n c2] 34 (0, 0)) := HBX.out
  have L0 : Hid (Lw w b n c2 (w1.heap.size + 1) (usedR (ns.take 0)) ((w1.alloc (Obj.cells #[] 2)).alloc (Obj.cells (madeCells #[Value.bool false] n) 4))) := by
    refine ⟨by rw [ob3.block _ zz]; exact hx1, by rw [ob3.block _ z1]; exact n1, B1.out.trans (ob3.mono B1.out.size), ⟨_, by simpa using hrow, fun j hj => ?_⟩⟩
    have e : (madeCells #[Value.bool false] n)[j]? = some (.bool false) := by simp [madeCells, hj, Nat.mod_one]
    simp [usedR, e]
  have W0 : Hid (OW ((w1.alloc (Obj.cells #[] 2)).alloc (Obj.cells (madeCells #[Value.bool false] n) 4)) w1.heap.size (.slice (some ⟨w1.heap.size, 0, none⟩) 0 0) []) := (OW.fresh w1 w1.heap.size (Nat.le_refl _)).later ((Below.refl _ _).alloc (Nat.le_refl _) _)
  generalize (w1.alloc (Obj.cells #[] 2)).alloc (Obj.cells (madeCells #[Value.bool false] n) 4) = w3 at *
  clear hrow ob3 hmk c1 n1 ON1 hx1 HBX
  have zU : w.heap.size + 1 < w1.heap.size + 1 := by omega
  generalize hU : w1.heap.size + 1 = U at *
  generalize hG : goR ds [] ns = G at *
  have HG := kide hG
  clear hG
  go_loopw [6, 8] (fun l i wr => ∃ (k : Nat) (wide : List Int), k ≤ n ∧ i = .int .i64 (k : Int) ∧ OW wr w1.heap.size l wide ∧ wide.length = k ∧ (∀ x ∈ wide, 1 ≤ x ∧ x ≤ 4096) ∧ goR ds wide (ns.drop k) = G ∧ Lw w b n c2 U (usedR (ns.take k)) wr ∧ w1.heap.size ≤ wr.heap.size) (fun _ i _ => n - (intOf i).toNat)
  case atStart => exact ⟨0, [], Nat.zero_le _, rfl, W0.out, rfl, by simp, HG.out, L0.out, by have := L0.out.lt; omega⟩
  case round =>
    obtain ⟨k, wide, hk, rfl, hown, hwl, hwd, hgo, hlw, hsz⟩ := hrel
    have HOW := kide hown
    have HWL := kide hwl
    have HWD := kide hwd
    have HGO := kide hgo
    have HLW := kide hlw
    have cb := hlw.cell
    obtain ⟨ya, yc, rfl, hyr⟩ := hown.rd (by omega) (fun x hx => by have := hwd x hx; unfold in64; omega)
    have HYR := kide hyr
    clear hyr
    by_cases hlt : k < n
    · obtain ⟨-, h | ⟨b2, o2, rfl, hc2⟩⟩ := HS.out
      · have := HN.out; subst h; simp at this; omega
      obtain ⟨⟨s1, wa, wc, ka, kc⟩, gx⟩ : ∃ x, xs[k]? = some x := ⟨xs[k]'(by rw [HN.out]; exact hlt), List.getElem?_eq_getElem _⟩
      have gn : ns[k]? = some s1 := by rw [← HNS.out, List.getElem?_map, gx]; rfl
      obtain ⟨⟨p0, p1, p2, p3, p4, p5, p6⟩, pr, pi, p64⟩ := (hc2 k _ gx).later hlw.bel
      simp only [Tg.hd] at p0 p1 p2 p3 p4 p5 p6 pr pi p64
      have HFM := kide (l3Form_any a ds.length c k s1 wa ka wc kc wr pr pi (by omega) hl1)
      have GN := kide gn
      have P64 := kide p64
      have PR := kide (fun u (hu : Below wr.heap.size wr u) => pr.later hu)
      have PI := kide (fun u (hu : Below wr.heap.size wr u) => pi.later hu)
      have HC0 := kide (hc2 k _ gx)
      have HCT := kide (fun u (hu : Below wr.heap.size wr u) => (hc2 k _ gx).later (hlw.bel.trans (hu.mono hlw.bel.size)))
      generalize hV : (kidsR k s1.ks && fieldR s1 && manyR ds.length s1) = V at *
      have HV := kide hV
      have i0 : (k : Int) < (n : Int) := by omega
      clear hV hc2 gx gn p64 pr pi hown hwl hwd hgo hlw
      go_wp2_with fail
      refine Calls.mono HFM.out ?_
      rintro e w4 ⟨rfl, hb4⟩
      have L4 := kide (HLW.out.later hb4)
      have O4 := kide (HOW.out.later hb4)
      have cb4 := L4.out.cell
      cases V with
      | false =>
        clear hb4 HFM
        go_wp2_with fail
        go_ret
        refine ⟨_, rfl, ?_, L4.out.bel⟩
        have hst : stepR ds wide s1 = none := by
          unfold stepR
          rw [HWL.out, HV.out]
          rfl
        have hz := HOK2.out
        rw [← HGO.out, goR_none GN.out hst] at hz
        rw [← hz]
        exact L4.out.none'
      | true =>
        obtain ⟨⟨p0, p1, p2, p3, p4, p5, p6⟩, -⟩ := HCT.out w4 hb4
        simp only [Tg.hd] at p0 p1 p2 p3 p4 p5 p6
        have hkk : kidsR wide.length s1.ks = true := by
          have h := HV.out
          simp only [Bool.and_eq_true] at h
          rw [HWL.out]; exact h.1.1
        have hvv : s1.op = 1 → 0 ≤ s1.vr ∧ s1.vr ≤ (ds.length : Int) - 1 := by
          have h := HV.out
          simp only [Bool.and_eq_true] at h
          exact manyR_var h.2
        have HWI := kide (l3Wide_any a c ds s1 wa ka ya wc kc yc wide w4 (HR.out.later L4.out.bel) (PR.out w4 hb4) (PI.out w4 hb4) (HYR.out.later hb4) HWD.out hkk hvv P64.out.2.2.1 P64.out.2.2.2.1)
        have PR4 := kide (fun u (hu : Below w4.heap.size w4 u) => (PI.out w4 hb4).later hu)
        have HCT4 := kide (fun u (hu : Below w4.heap.size w4 u) => (HCT.out w4 hb4).later hu)
        clear hb4 HFM hkk hvv HCT PR PI HYR
        generalize hX : wideR ds s1 (sumR wide s1.ks 0) = X at *
        have HX := kide hX
        clear hX
        go_wp2_with fail
        refine Calls.mono HWI.out ?_
        rintro e w5 ⟨rfl, hb5⟩
        have L5 := kide (L4.out.later hb5)
        have O5 := kide (O4.out.later hb5)
        have cb5 := L5.out.cell
        have HCT5 := kide (HCT4.out w5 hb5)
        have PI5 := kide (PR4.out w5 hb5)
        clear hb5 HWI cb4 L4 O4 HCT4 PR4
        have HLI := kide (fun u => l1In_any X 1 4096 u)
        by_cases hX1 : 1 ≤ X ∧ X ≤ 4096
        · rw [decide_eq_true hX1] at HLI
          have hst : stepR ds wide s1 = some X := by
            unfold stepR
            rw [HWL.out, HV.out, HX.out, if_pos rfl, if_pos hX1]
          have HST := kide hst
          have HX1 := kide hX1
          have hz5 : w1.heap.size ≤ w5.heap.size := by have := L5.out.lt; omega
          have hwl2 : wide.length ≤ 1073741824 := by have := HWL.out; omega
          clear hst hX1
          go_wp2_with (first | (go_at_call 24; refine Calls.mono (HLI.out _) ?_; rintro e w6 ⟨rfl, rfl⟩) | (at_builtin; refine wpList_appW rfl _ _ rfl w1.heap.size _ wide X rfl (World.ownsRow.alloc O5.out _) _ rfl (by simp) hwl2 (by simp; omega) ?_))
          intro v7 w7 hos hg
          have L7 := kide ((L5.out.later ((Below.refl _ _).alloc (Nat.le_refl _) (Obj.cells #[Value.int .i64 X] 2))).grown (World.ownsRow.alloc O5.out _) (by omega) hg)
          have O7 := kide hos
          clear hos hg L5 O5 cb5 HCT5 PI5 HLI
          have cb7 := L7.out.cell
          go_wp2_with fail
          have hkb : ∀ y ∈ s1.ks, 0 ≤ y ∧ y ≤ (k : Int) - 1 := by
            have h := HV.out
            simp only [Bool.and_eq_true] at h
            have h1 := h.1.1
            rw [kidsR, List.all_eq_true] at h1
            intro y hy
            simpa using h1 y hy
          have HKB := kide hkb
          have hks : s1.ks.length ≤ 1048576 := HC0.out.2.2.1.1
          clear hkb cb7 cb p0 p1 p2 p3 p4 p5 p6
          obtain ⟨wo, hwo⟩ : ∃ wo, wo = wr := ⟨_, rfl⟩
          subst hwo
          clear HOW HLW
          go_loopw [10] (fun i wr => ∃ t : Nat, t ≤ s1.ks.length ∧ i = .int .i64 (t : Int) ∧ OW wr w1.heap.size v7 (wide ++ [X]) ∧ Lw w (some ⟨b2, o2, none⟩) n c2 U (fun j => usedR (ns.take k) j || (s1.ks.take t).any (fun y => decide (y = (j : Int)))) wr) (fun i _ => s1.ks.length - (intOf i).toNat)
          case atStart => exact ⟨0, Nat.zero_le _, rfl, O7.out, by simpa using L7.out⟩
          case round =>
            obtain ⟨t, ht, rfl, hot, hlt2⟩ := hrel
            have HOT := kide hot
            have HLT := kide hlt2
            have cbt := hlt2.cell
            obtain ⟨⟨-, -, -, -, -, -, p6⟩, -, pi, -⟩ := HC0.out.later hlt2.bel
            simp only [Tg.hd] at p6 pi
            clear hot
            by_cases htl : t < s1.ks.length
            · obtain ⟨-, -, h | ⟨b3, o3, rfl, hc3⟩⟩ := pi
              · rw [h] at htl; simp at htl
              have g0 := hc3 t htl
              have hym : s1.ks.getD t 0 ∈ s1.ks := by
                have : s1.ks.getD t 0 = s1.ks[t] := by simp [List.getD, htl]
                rw [this]; exact List.getElem_mem htl
              have hyb := HKB.out _ hym
              have hgt : s1.ks[t]? = some (s1.ks.getD t 0) := by simp [List.getD, htl]
              have HGT := kide hgt
              clear hc3 hym hgt
              generalize s1.ks.getD t 0 = y at *
              obtain ⟨m, rfl⟩ : ∃ m : Nat, y = (m : Int) := ⟨y.toNat, by omega⟩
              have hm : m < n := by omega
              obtain ⟨f, hrw, hfq⟩ := hlt2.row
              have q0 := hrw.cell (i := m) hm
              have r0 := hrw.frozen m
              have HRW := kide hrw
              have j0 : (t : Int) < (s1.ks.length : Int) := by omega
              clear hrw hfq hlt2 hyb
              generalize f m = fm at q0
              go_wp2_with fail
              go_roundw
              case rel =>
                refine ⟨t + 1, by omega, by go_num, HOT.out.mark HRW.out _ _, ?_⟩
                have h := HLT.out.mark (by omega) m
                refine cast ?_ h
                congr 1
                funext j
                rw [List.take_add_one, HGT.out, List.any_append]
                by_cases e : j = m
                · subst e; simp
                · have e2 : ¬ ((m : Int) = (j : Int)) := by omega
                  simp [e, e2]
              case measure => simp [intOf]; omega
            · have e : t = s1.ks.length := by omega
              subst e
              clear hlt2 pi
              go_wp2_with fail
              have hzU := HLT.out.lt
              refine ⟨⟨k + 1, wide ++ [X], by omega, by go_num, HOT.out, by simp [HWL.out], ?_, ?_, ?_, by omega⟩, ?_⟩
              · intro x hx
                rcases List.mem_append.1 hx with hx | hx
                · exact HWD.out x hx
                · rw [List.mem_singleton.1 hx]; exact HX1.out
              · rw [← goR_some GN.out HST.out]; exact HGO.out
              · have h := HLT.out
                rw [List.take_length] at h
                refine cast ?_ h
                congr 1
                funext j
                rw [List.take_add_one, GN.out]
                simp [usedR, List.any_append]
              · simp [intOf]; omega
        · rw [decide_eq_false hX1] at HLI
          have HX1 := kide hX1
          clear hX1
          go_wp2_with (go_at_call 24; refine Calls.mono (HLI.out _) ?_; rintro e w6 ⟨rfl, rfl⟩)
          go_ret
          refine ⟨_, rfl, ?_, L5.out.bel⟩
          have hst : stepR ds wide s1 = none := by
            unfold stepR
            rw [HWL.out, HV.out, HX.out, if_pos rfl, if_neg HX1.out]
          have hz := HOK2.out
          rw [← HGO.out, goR_none GN.out hst] at hz
          rw [← hz]
          exact L5.out.none'
    · have e : k = n := by omega
      subst e
      have hgo2 : G = some wide := by
        have h := HGO.out
        have hl := HNL.out
        rw [List.drop_of_length_le (by omega), goR] at h
        exact h.symm
      have hL := HLW.out
      rw [List.take_of_length_le (by have := HNL.out; omega)] at hL
      have HLE := kide hL
      have hz := HOK2.out
      rw [hgo2] at hz
      simp only [] at hz
      have HZ3 := kide hz
      clear hz hgo2 hL hown hwl hwd hgo hlw
      go_wp2_with fail
      obtain ⟨wo, hwo⟩ : ∃ wo, wo = wr := ⟨_, rfl⟩
      subst hwo
      go_loopw [11] (fun i wr => ∃ t : Nat, t ≤ k - 1 ∧ i = .int .i64 (t : Int) ∧ (∀ j, j < t → usedR ns j = true) ∧ wr = wo) (fun i _ => k - (intOf i).toNat)
      case atStart => exact ⟨0, Nat.zero_le _, rfl, fun j hj => by omega, rfl⟩
      case round =>
        obtain ⟨t, ht, rfl, hall, rfl⟩ := hrel
        have HALL := kide hall
        clear hall
        by_cases htl : t + 1 < k
        · obtain ⟨f, hrw, hfq⟩ := HLE.out.row
          have q0 := hrw.cell (i := t) (by omega)
          rw [hfq t (by omega)] at q0
          clear hrw hfq
          cases hu : usedR ns t with
          | true =>
            rw [hu] at q0
            have HU := kide hu
            clear hu
            have i1 : (t : Int) + 1 < (k : Int) := by omega
            go_wp2_with fail
            go_roundw
            case rel =>
              refine ⟨t + 1, by omega, by go_num, fun j hj => ?_, by first | rfl | trivial⟩
              by_cases e : j = t
              · rw [e]; exact HU.out
              · exact HALL.out j (by omega)
            case measure => simp [intOf]; omega
          | false =>
            rw [hu] at q0
            have HU := kide hu
            clear hu
            have i1 : (t : Int) + 1 < (k : Int) := by omega
            go_wp2_with fail
            go_ret
            refine ⟨_, rfl, ?_, HLE.out.bel⟩
            have h := HZ3.out
            rw [if_neg (by
              intro hh
              rw [List.all_eq_true] at hh
              have := hh t (by rw [List.mem_range]; omega)
              rw [HU.out] at this
              cases this)] at h
            rw [← h]
            exact HLE.out.none'
        · have i1 : ¬ (t : Int) + 1 < (k : Int) := by omega
          have hte : t = k - 1 := by omega
          have HTE := kide hte
          clear htl hte
          go_wp2_with fail
          go_ret
          refine ⟨_, rfl, ?_, HLE.out.bel⟩
          have h := HZ3.out
          rw [if_pos (by
            rw [List.all_eq_true]
            intro j hj
            rw [List.mem_range] at hj
            exact HALL.out j (by have := HTE.out; omega))] at h
          rw [← h]
          exact HOW.out.mono (by omega)

end Go.Proofs.YtdlmgndmfphneaaGreatDoor

/- The given l3Widths and WidthOf. -/
namespace Go.Proofs.YtdlmgndmfphneaaGreatDoor
set_option linter.unusedVariables false
set_option linter.unusedSimpArgs false
open Go.RowKit

theorem l3Widths_any (a b : Option Addr) (c c2 n : Nat) (ds : List Dc) (xs : List Tg) (w : World) (hr : RdD w a ds) (hs : RdT w b xs) (hn : xs.length = n) :
    Calls Tryz.prog 23 #[.slice a ds.length c, .agg #[.slice b n c2]] w fun e w' => ∃ v, e = .returned v ∧ OW w' (w.heap.size + 1) v (widthsR ds (xs.map Tg.ct)) ∧ Below w.heap.size w w' := by
  by_cases h : dclR ds = true ∧ 1 ≤ n ∧ n ≤ 400
  · exact l3Widths_yes a b c c2 n ds xs w hr hs hn h
  · exact l3Widths_no a b c c2 n ds xs w hr hs hn h

theorem goR_len {ds : List Dc} {wide out : List Int} {ns : List Tc} (h : goR ds wide ns = some out) : out.length = wide.length + ns.length ∧ ((∀ x ∈ wide, 1 ≤ x ∧ x ≤ 4096) → ∀ x ∈ out, 1 ≤ x ∧ x ≤ 4096) := by
  induction ns generalizing wide with
  | nil => rw [goR] at h; cases h; exact ⟨by simp, fun h => h⟩
  | cons n t ih =>
    rw [goR] at h
    cases hst : stepR ds wide n with
    | none => rw [hst] at h; cases h
    | some v =>
      rw [hst] at h
      obtain ⟨h1, h2⟩ := ih h
      refine ⟨by rw [h1]; simp; omega, fun hw => h2 (fun x hx => ?_)⟩
      rcases List.mem_append.1 hx with hx | hx
      · exact hw x hx
      · rw [List.mem_singleton.1 hx]; exact stepR_range hst

theorem widthsR_bounds (ds : List Dc) (ns : List Tc) : (widthsR ds ns).length ≤ 400 ∧ ∀ x ∈ widthsR ds ns, 1 ≤ x ∧ x ≤ 4096 := by
  unfold widthsR
  split
  · rename_i h
    simp only [Bool.and_eq_true, decide_eq_true_eq] at h
    cases hg : goR ds [] ns with
    | none => simp
    | some wide =>
      obtain ⟨h1, h2⟩ := goR_len hg
      simp only []
      split
      · exact ⟨by simp at h1; omega, h2 (by simp)⟩
      · simp
  · simp

/-- The width of a term; -1: it is not right. -/
def widR (ds : List Dc) (ns : List Tc) : Int := if (widthsR ds ns).length = 0 then -1 else (widthsR ds ns).getD ((widthsR ds ns).length - 1) 0


end Go.Proofs.YtdlmgndmfphneaaGreatDoor

/- How many leaves the tree of a term has: plain facts. No program in sight. -/
namespace Go.Proofs.YtdlmgndmfphneaaGreatDoor
set_option linter.unusedVariables false
set_option linter.unusedSimpArgs false
open Go.RowKit

theorem getD_left {α : Type} (l m : List α) (i : Nat) (d : α) (h : i < l.length) : (l ++ m).getD i d = l.getD i d := by simp [List.getD, List.getElem?_append, h]
theorem getD_right {α : Type} (l m : List α) (i : Nat) (d : α) (h : l.length ≤ i) : (l ++ m).getD i d = m.getD (i - l.length) d := by simp [List.getD, List.getElem?_append, Nat.not_lt.2 h]

/-- What Kids have together. -/
def sK (ls : List Int) (ks : List Int) : Int := (ks.map fun k => ls.getD k.toNat 0).sum

/-- The leaves of a node by those of the nodes ahead of it. -/
def lvN (ls : List Int) (ks : List Int) : Int := min 1000000 ((if ks.length = 0 then 1 else 0) + sK ls ks)

def lvsR (ns : List Tc) : List Int := ns.foldl (fun ls n => ls ++ [lvN ls n.ks]) []

def leavesR (ds : List Dc) (ns : List Tc) : Int := if (widthsR ds ns).length = 0 then -1 else (lvsR ns).getD (ns.length - 1) 0

theorem lvs_take {ns : List Tc} {k : Nat} {n : Tc} (h : ns[k]? = some n) : lvsR (ns.take (k + 1)) = lvsR (ns.take k) ++ [lvN (lvsR (ns.take k)) n.ks] := by
  unfold lvsR
  rw [List.take_add_one, h, List.foldl_append]
  simp

theorem fold_len (ns : List Tc) : ∀ ls : List Int, (ns.foldl (fun ls n => ls ++ [lvN ls n.ks]) ls).length = ls.length + ns.length := by
  induction ns with
  | nil => simp
  | cons n t ih => intro ls; rw [List.foldl_cons, ih]; simp; omega

theorem lvs_len (ns : List Tc) : (lvsR ns).length = ns.length := by
  have := fold_len ns []
  simpa [lvsR] using this

theorem getD_range {ls : List Int} (h : ∀ x ∈ ls, 0 ≤ x ∧ x ≤ 1000000) (i : Nat) : 0 ≤ ls.getD i 0 ∧ ls.getD i 0 ≤ 1000000 := by
  by_cases hi : i < ls.length
  · have e : ls.getD i 0 = ls[i] := by simp [List.getD, hi]
    rw [e]; exact h _ (List.getElem_mem hi)
  · have e : ls.getD i 0 = 0 := by simp [List.getD, hi]
    omega

theorem sK_range {ls : List Int} (h : ∀ x ∈ ls, 0 ≤ x ∧ x ≤ 1000000) (ks : List Int) : 0 ≤ sK ls ks ∧ sK ls ks ≤ 1000000 * (ks.length : Int) := by
  induction ks with
  | nil => simp [sK]
  | cons k t ih =>
    have := getD_range h k.toNat
    simp only [sK, List.map_cons, List.sum_cons, List.length_cons] at ih ⊢
    omega

theorem lvN_range {ls : List Int} (h : ∀ x ∈ ls, 0 ≤ x ∧ x ≤ 1000000) (ks : List Int) : 0 ≤ lvN ls ks ∧ lvN ls ks ≤ 1000000 := by
  have := sK_range h ks
  unfold lvN
  split <;> omega

theorem fold_range (ns : List Tc) : ∀ ls : List Int, (∀ x ∈ ls, 0 ≤ x ∧ x ≤ 1000000) → ∀ x ∈ ns.foldl (fun ls n => ls ++ [lvN ls n.ks]) ls, 0 ≤ x ∧ x ≤ 1000000 := by
  induction ns with
  | nil => intro ls h; simpa using h
  | cons n t ih =>
    intro ls h
    rw [List.foldl_cons]
    refine ih _ (fun x hx => ?_)
    rcases List.mem_append.1 hx with hx | hx
    · exact h x hx
    · rw [List.mem_singleton.1 hx]; exact lvN_range h _

theorem lvs_range (ns : List Tc) : ∀ x ∈ lvsR ns, 0 ≤ x ∧ x ≤ 1000000 := fold_range ns [] (by simp)

theorem sK_take {ls ks : List Int} {i : Nat} {k : Int} (h : ks[i]? = some k) : sK ls (ks.take (i + 1)) = sK ls (ks.take i) + ls.getD k.toNat 0 := by
  unfold sK
  rw [List.take_add_one, h]
  simp

theorem goR_kids {ds : List Dc} : ∀ (ns : List Tc) (wide r : List Int), goR ds wide ns = some r → ∀ (k : Nat) (n : Tc), ns[k]? = some n → kidsR (wide.length + k) n.ks = true
  | [], _, _, _ => by simp
  | m :: t, wide, r, h => by
    rw [goR] at h
    cases hst : stepR ds wide m with
    | none => rw [hst] at h; cases h
    | some v =>
      rw [hst] at h
      intro k n hk
      cases k with
      | zero =>
        simp at hk
        subst hk
        have := stepR_kids hst
        simp only [Bool.and_eq_true] at this
        exact this.1.1
      | succ k =>
        have := goR_kids t _ r h k n (by simpa using hk)
        rw [show wide.length + (k + 1) = (wide ++ [v]).length + k by simp; omega]
        exact this

/-- In a right term Kids are ahead. -/
theorem right_kids {ds : List Dc} {ns : List Tc} (h : ¬ (widthsR ds ns).length = 0) : 1 ≤ ns.length ∧ ns.length ≤ 400 ∧ (widthsR ds ns).length = ns.length ∧ ∀ (k : Nat) (n : Tc), ns[k]? = some n → ∀ j ∈ n.ks, 0 ≤ j ∧ j < (k : Int) := by
  unfold widthsR at h ⊢
  split at h
  · rename_i hc
    simp only [Bool.and_eq_true, decide_eq_true_eq] at hc
    rw [if_pos (by simp [hc])]
    cases hg : goR ds [] ns with
    | none => rw [hg] at h; simp at h
    | some wide =>
      rw [hg] at h
      simp only [] at h ⊢
      split at h
      · rename_i hu
        rw [if_pos hu]
        refine ⟨hc.1.2, hc.2, by simpa using (goR_len hg).1, fun k n hk j hj => ?_⟩
        have := goR_kids ns [] wide hg k n hk
        simp only [List.length_nil, Nat.zero_add] at this
        unfold kidsR at this
        rw [List.all_eq_true] at this
        have := this j hj
        simp only [decide_eq_true_eq] at this
        omega
      · simp at h
  · simp at h

end Go.Proofs.YtdlmgndmfphneaaGreatDoor

/- Which rules fit at a node of a right term. No program in sight. -/
namespace Go.Proofs.YtdlmgndmfphneaaGreatDoor
set_option linter.unusedVariables false
set_option linter.unusedSimpArgs false
open Go.RowKit

theorem goR_atR {ds : List Dc} : ∀ (ns : List Tc) (wide W : List Int), goR ds wide ns = some W → W.take wide.length = wide ∧ W.length = wide.length + ns.length ∧ ∀ i n, ns[i]? = some n → stepR ds (W.take (wide.length + i)) n = some (W.getD (wide.length + i) 0)
  | [], wide, W, h => by
    rw [goR] at h
    obtain rfl := Option.some.inj h
    exact ⟨List.take_length, by simp, fun i n hn => by simp at hn⟩
  | n :: t, wide, W, h => by
    rw [goR] at h
    cases hs : stepR ds wide n with
    | none => rw [hs] at h; cases h
    | some v =>
      rw [hs] at h
      obtain ⟨h1, h2, h3⟩ := goR_atR t (wide ++ [v]) W h
      rw [List.length_append, List.length_singleton] at h1 h2 h3
      have hl : wide.length < W.length := by omega
      have e1 : W.take wide.length = wide := by
        have := congrArg (List.take wide.length) h1
        rw [List.take_take, Nat.min_eq_left (by omega), List.take_left'] at this
        · exact this
        · rfl
      have e2 : W.getD wide.length 0 = v := by
        have h9 : (W.take (wide.length + 1))[wide.length]? = some v := by rw [h1]; simp
        rw [List.getElem?_take, if_pos (by omega)] at h9
        simp [List.getD, h9]
      refine ⟨e1, by simp; omega, fun i m hm => ?_⟩
      cases i with
      | zero =>
        simp at hm
        subst hm
        rw [Nat.add_zero, e1, e2]
        exact hs
      | succ i =>
        simp at hm
        have := h3 i m hm
        rw [show wide.length + 1 + i = wide.length + (i + 1) by omega] at this
        exact this

/-- The width of the first Kid. -/
def kW (wd : List Int) (n : Tc) : Int := wd.getD (n.ks.getD 0 0).toNat 0
/-- The Op of the node at a place. -/
def kO (ns : List Tc) (k : Int) : Int := ((ns[k.toNat]?).map Tc.op).getD 0
/-- Its Kids. -/
def kK (ns : List Tc) (k : Int) : List Int := ((ns[k.toNat]?).map Tc.ks).getD []

/-- Do the bits lo to hi lie in one Kid? Kids from the last on; f: where the first of them begins. -/
def innB (wd : List Int) (lo hi : Int) : List Int → Int → Bool
  | [], _ => false
  | k :: t, f => if lo < f + wd.getD k.toNat 0 then decide (hi < f + wd.getD k.toNat 0) else innB wd lo hi t (f + wd.getD k.toNat 0)

/-- Does a rule fit? -/
def fitB (ns : List Tc) (wd : List Int) (n : Tc) (r : Nat) : Bool :=
  if r = 1 then decide (n.op = 4 ∧ n.a = kW wd n - 1 ∧ n.b = 0)
  else if r = 2 then decide (n.op = 4 ∧ kO ns (n.ks.getD 0 0) = 4)
  else if r = 3 then decide ((n.op = 7 ∨ n.op = 8) ∧ Int.tmod n.a (kW wd n) = 0)
  else if r = 4 then decide (n.op = 8 ∧ ¬ Int.tmod n.a (kW wd n) = 0)
  else if r = 5 then decide ((n.op = 5 ∨ n.op = 6) ∧ n.a = 0)
  else if r = 6 then decide (n.op = 5 ∧ 0 < n.a)
  else if r = 7 then decide (n.op = 9 ∧ 1 < n.a)
  else if r = 8 then decide (n.op = 9 ∧ n.a = 1)
  else if r = 9 then decide (n.op = 3) && n.ks.any (fun k => decide (kO ns k = 3))
  else if r = 10 then decide (0 < n.ks.length) && n.ks.all (fun k => decide (kO ns k = 2))
  else if r = 11 then decide (n.op = 4 ∧ kO ns (n.ks.getD 0 0) = 3) && innB wd n.b n.a (kK ns (n.ks.getD 0 0)).reverse 0
  else false

/-- The rules that fit among the first m. -/
def fitL (ns : List Tc) (wd : List Int) (n : Tc) : Nat → List Int
  | 0 => []
  | m + 1 => fitL ns wd n m ++ (if fitB ns wd n (m + 1) = true then [((m + 1 : Nat) : Int)] else [])

theorem fitL_len (ns : List Tc) (wd : List Int) (n : Tc) : ∀ m, (fitL ns wd n m).length ≤ m ∧ ∀ x ∈ fitL ns wd n m, 1 ≤ x ∧ x ≤ (m : Int)
  | 0 => by simp [fitL]
  | m + 1 => by
    obtain ⟨h1, h2⟩ := fitL_len ns wd n m
    rw [fitL]
    split
    · refine ⟨by simp; omega, fun x hx => ?_⟩
      rcases List.mem_append.1 hx with h | h
      · have := h2 x h; omega
      · simp at h; omega
    · rw [List.append_nil]
      exact ⟨by omega, fun x hx => by have := h2 x hx; omega⟩

/-- What Rules answers. -/
def rulR (ds : List Dc) (ns : List Tc) (p : Int) : List Int :=
  if (widthsR ds ns).length = 0 ∨ ¬ (0 ≤ p ∧ p < (ns.length : Int)) then [] else
    match ns[p.toNat]? with
    | none => []
    | some n => fitL ns (widthsR ds ns) n 11

theorem rulR_bounds (ds : List Dc) (ns : List Tc) (p : Int) : (rulR ds ns p).length ≤ 11 ∧ ∀ x ∈ rulR ds ns p, in64 x := by
  unfold rulR
  split
  · simp
  · split
    · simp
    · rename_i n _
      obtain ⟨h1, h2⟩ := fitL_len ns (widthsR ds ns) n 11
      exact ⟨h1, fun x hx => by have := h2 x hx; unfold in64; omega⟩

/-- What is known of a node of a right term, at its place. -/
structure Rn (ns : List Tc) (wd : List Int) (p : Nat) (n : Tc) : Prop where
  op : 1 ≤ n.op ∧ n.op ≤ 9
  kid : ∀ j ∈ n.ks, 0 ≤ j ∧ j < (p : Int)
  few : n.op ≤ 2 → n.ks.length = 0
  many : n.op = 3 → 2 ≤ n.ks.length
  one : 4 ≤ n.op → n.ks.length = 1
  len : n.ks.length ≤ 4096
  part : n.op = 4 → 0 ≤ n.b ∧ n.b ≤ n.a ∧ n.a < kW wd n ∧ wd.getD p 0 = n.a - n.b + 1
  wide : n.op = 5 ∨ n.op = 6 → 0 ≤ n.a ∧ n.a ≤ 4096
  turn : n.op = 7 ∨ n.op = 8 → 0 ≤ n.a ∧ n.a ≤ 4096 ∧ wd.getD p 0 = kW wd n
  rep : n.op = 9 → 1 ≤ n.a ∧ n.a ≤ 4096
  cat : n.op = 3 → wd.getD p 0 = (n.ks.map fun k => wd.getD k.toNat 0).sum
  con : n.op = 2 → rightB n.bw n.ws = true

theorem sum_len {l : List Int} (h : ∀ x ∈ l, 1 ≤ x) : (l.length : Int) ≤ l.sum := by
  induction l with
  | nil => simp
  | cons a t ih =>
    have h1 := ih (fun x hx => h x (by simp [hx]))
    have h2 := h a (by simp)
    simp
    omega

theorem sumR_cap (wide : List Int) (hw : ∀ i, 0 ≤ wide.getD i 0) : ∀ (ks : List Int) (s : Int), 0 ≤ s → sumR wide ks s ≤ 4096 → sumR wide ks s = s + (ks.map fun k => wide.getD k.toNat 0).sum ∧ s ≤ 4096
  | [], s, _, h => by simp [sumR] at h ⊢; exact h
  | k :: t, s, h0, h => by
    rw [sumR] at h ⊢
    have a := hw k.toNat
    obtain ⟨h1, h2⟩ := sumR_cap wide hw t _ (by omega) h
    rw [List.map_cons, List.sum_cons]
    constructor
    · rw [h1]; omega
    · omega

theorem right_wd {ds : List Dc} {ns : List Tc} (h : ¬ (widthsR ds ns).length = 0) : dclR ds = true ∧ (widthsR ds ns).length = ns.length ∧ (∀ x ∈ widthsR ds ns, 1 ≤ x ∧ x ≤ 4096) ∧ ∀ p n, ns[p]? = some n → stepR ds ((widthsR ds ns).take p) n = some ((widthsR ds ns).getD p 0) := by
  unfold widthsR at h ⊢
  split at h
  · rename_i hc
    rw [if_pos hc]
    simp only [Bool.and_eq_true, decide_eq_true_eq] at hc
    cases hg : goR ds [] ns with
    | none => rw [hg] at h; simp at h
    | some W =>
      rw [hg] at h
      simp only [] at h ⊢
      split at h
      · rename_i hu
        rw [if_pos hu]
        obtain ⟨-, h2, h3⟩ := goR_atR ns [] W hg
        refine ⟨hc.1.1, by simpa using h2, (goR_len hg).2 (by simp), fun p n hp => ?_⟩
        have := h3 p n hp
        simpa using this
      · simp at h
  · simp at h

theorem wd_nat {wd : List Int} (h : ∀ x ∈ wd, 1 ≤ x ∧ x ≤ 4096) (i : Nat) : 0 ≤ wd.getD i 0 ∧ wd.getD i 0 ≤ 4096 := by
  by_cases hi : i < wd.length
  · have := h _ (List.getElem_mem hi)
    simp [List.getD, hi]
    omega
  · simp [List.getD, List.getElem?_eq_none (Nat.not_lt.1 hi)]

theorem wd_pos {wd : List Int} (h : ∀ x ∈ wd, 1 ≤ x ∧ x ≤ 4096) {i : Nat} (hi : i < wd.length) : 1 ≤ wd.getD i 0 ∧ wd.getD i 0 ≤ 4096 := by
  have := h _ (List.getElem_mem hi)
  simp [List.getD, hi]
  omega

theorem getD_take' (wd : List Int) (p i : Nat) (h : i < p) : (wd.take p).getD i 0 = wd.getD i 0 := by
  simp [List.getD, List.getElem?_take, h]

theorem right_rn {ds : List Dc} {ns : List Tc} (h : ¬ (widthsR ds ns).length = 0) {p : Nat} {n : Tc} (hp : ns[p]? = some n) : Rn ns (widthsR ds ns) p n := by
  obtain ⟨-, hl, hx, hst⟩ := right_wd h
  have hs := hst p n hp
  have hpl : p < ns.length := (List.getElem?_eq_some_iff.1 hp).1
  generalize widthsR ds ns = wd at *
  have hkid := hs
  unfold stepR at hs
  split at hs
  · rename_i hc
    simp only [Bool.and_eq_true] at hc
    obtain ⟨⟨hk, -⟩, hm⟩ := hc
    have hlt : (wd.take p).length = p := by rw [List.length_take]; omega
    have hx2 : ∀ i, 0 ≤ (wd.take p).getD i 0 := fun i => (wd_nat (fun x hx' => hx x (List.mem_of_mem_take hx')) i).1
    rw [hlt] at hk
    have hkr : ∀ j ∈ n.ks, 0 ≤ j ∧ j < (p : Int) := fun j hj => by
      simp only [kidsR, List.all_eq_true, decide_eq_true_eq] at hk
      have := hk j hj
      omega
    split at hs
    · rename_i hb
      have hv : wideR ds n (sumR (wd.take p) n.ks 0) = wd.getD p 0 := by simpa using hs
      rw [hv] at hb
      obtain ⟨op, vr, A, B, bw, ws, ks⟩ := n
      simp only [] at *
      have hop : 1 ≤ op ∧ op ≤ 9 := by
        unfold manyR at hm
        simp only [] at hm
        repeat' split at hm
        all_goals first | omega | (simp at hm)
      have h1k : 4 ≤ op → ks.length = 1 := fun h => by
        unfold manyR at hm
        simp only [] at hm
        rw [if_neg (by omega), if_neg (by omega), if_neg (by omega), if_pos (by omega)] at hm
        simpa using hm
      have h2k : op ≤ 2 → ks.length = 0 := fun h => by
        unfold manyR at hm
        simp only [] at hm
        by_cases h1 : op = 1
        · rw [if_pos h1] at hm
          simp at hm
          simp [hm.1]
        · rw [if_neg h1, if_pos (by omega)] at hm
          simp at hm
          simp [hm.1]
      have h3k : op = 3 → 2 ≤ ks.length := fun h => by
        unfold manyR at hm
        simp only [] at hm
        rw [if_neg (by omega), if_neg (by omega), if_pos h] at hm
        simpa using hm
      have hcon : op = 2 → rightB bw ws = true := fun h => by
        unfold manyR at hm
        simp only [] at hm
        rw [if_neg (by omega), if_pos h] at hm
        simp at hm
        exact hm.2
      have hsum : 4 ≤ op → sumR (wd.take p) ks 0 = kW wd ⟨op, vr, A, B, bw, ws, ks⟩ := fun h => by
        match ks, h1k h, hkr with
        | [k], _, hkr =>
          have hkk := hkr k (by simp)
          have hr := wd_nat hx k.toNat
          show min 8192 (0 + (wd.take p).getD k.toNat 0) = wd.getD k.toNat 0
          rw [getD_take' _ _ _ (by omega)]
          omega
      have hcat : op = 3 → wd.getD p 0 = (ks.map fun k => wd.getD k.toNat 0).sum := fun h => by
        unfold wideR at hv
        simp only [] at hv
        rw [if_neg (by omega), if_neg (by omega), if_neg (by omega), if_neg (by omega), if_neg (by omega), if_neg (by omega)] at hv
        have := (sumR_cap _ hx2 ks 0 (by omega) (by omega)).1
        rw [← hv, this, Int.zero_add]
        congr 1
        refine List.map_congr_left (fun k hk' => ?_)
        have := hkr k hk'
        rw [getD_take' _ _ _ (by omega)]
      have hpos : ∀ k ∈ ks, 1 ≤ wd.getD k.toNat 0 := fun k hk' => by
        have := hkr k hk'
        exact (wd_pos hx (by omega)).1
      refine ⟨hop, hkr, h2k, h3k, h1k, ?_, fun h => ?_, fun h => ?_, fun h => ?_, fun h => ?_, hcat, hcon⟩
      · simp only []
        by_cases h3 : op = 3
        · have e := hcat h3
          have e2 := sum_len (l := ks.map fun k => wd.getD k.toNat 0) (fun x hx' => by
            obtain ⟨k, hk', rfl⟩ := List.mem_map.1 hx'
            exact hpos k hk')
          rw [List.length_map] at e2
          omega
        · by_cases h4 : 4 ≤ op
          · have := h1k h4; omega
          · have := h2k (by omega); omega
      · simp only [] at h ⊢
        have e := hsum (by omega)
        unfold wideR at hv
        simp only [] at hv
        rw [if_neg (by omega), if_neg (by omega), if_pos h] at hv
        rw [e] at hv
        split at hv
        · omega
        · omega
      · simp only [] at h ⊢
        unfold wideR at hv
        simp only [] at hv
        rw [if_neg (by omega), if_neg (by omega), if_neg (by omega), if_pos h] at hv
        split at hv
        · assumption
        · omega
      · simp only [] at h ⊢
        have e := hsum (by omega)
        unfold wideR at hv
        simp only [] at hv
        rw [if_neg (by omega), if_neg (by omega), if_neg (by omega), if_neg (by omega), if_pos h] at hv
        split at hv
        · rename_i h9; exact ⟨h9.1, h9.2, by omega⟩
        · omega
      · simp only [] at h ⊢
        unfold wideR at hv
        simp only [] at hv
        rw [if_neg (by omega), if_neg (by omega), if_neg (by omega), if_neg (by omega), if_neg (by omega), if_pos h] at hv
        split at hv
        · assumption
        · omega
    · cases hs
  · cases hs

end Go.Proofs.YtdlmgndmfphneaaGreatDoor

/- The program's countKids. -/
namespace Go.Proofs.YtdlmgndmfphneaaGreatDoor
set_option linter.unusedVariables false
set_option linter.unusedSimpArgs false
open Go.RowKit

/-- How often a place stands among kids. -/
def cntR (ks : List Int) (j : Nat) : Nat := ks.countP (fun y => decide (y = (j : Int)))

/-- A row of counts. -/
def Cn (w : World) (P N : Nat) (q : Nat → Nat) : Prop := ∃ f, w.rowIs P 2 N f ∧ ∀ j, j < N → f j = .int .i64 ((q j : Nat) : Int)

theorem Cn.later {w w' : World} {P N : Nat} {q : Nat → Nat} (h : Cn w P N q) (hb : Below w.heap.size w w') : Cn w' P N q := by
  obtain ⟨f, ⟨cc, hh, h1, h2⟩, hq⟩ := h
  exact ⟨f, World.rowIs.of_block ⟨cc, hh, h1, h2⟩ (hb.block _ (lt_of_block hh)), hq⟩

set_option maxHeartbeats 1000000 in
theorem countKids_any (P N k cp kc M : Nat) (q : Nat → Nat) (ka : Option Addr) (ks : List Int) (w : World) (hc : Cn w P N q) (hk : k ≤ N) (hN : N ≤ 1048576) (hq : ∀ j, q j ≤ M) (hM : M ≤ 1000000000000) (hr : RdI w ka ks) (hf : ∀ b o sp, ka = some ⟨b, o, sp⟩ → b ≠ P) :
    Calls Tryz.prog 121 #[.slice (some ⟨P, 0, none⟩) k cp, .slice ka ks.length kc] w fun e w' => e = .returned (.bool (kidsR k ks)) ∧ (kidsR k ks = true → Cn w' P N (fun j => q j + cntR ks j)) ∧ w.grownBy w' (some P) := by
  have hl := hr.1
  have HF := kide hf
  have HQ := kide hq
  clear hf hq
  generalize hZ : kidsR k ks = Z
  have HZ := kide hZ
  clear hZ
  go_enter Tryz.func121, Tryz.ntmps121
  go_wp2_with fail
  go_loopw [9] (fun i wr => ∃ t : Nat, t ≤ ks.length ∧ i = .int .i64 (t : Int) ∧ kidsR k (ks.take t) = true ∧ Cn wr P N (fun j => q j + cntR (ks.take t) j) ∧ w.grownBy wr (some P)) (fun i _ => ks.length - (intOf i).toNat)
  case atStart => exact ⟨0, Nat.zero_le _, rfl, by simp [kidsR], by simpa [cntR] using hc, ⟨rfl, rfl, rfl, Nat.le_refl _, fun _ _ _ => rfl⟩⟩
  case round =>
    obtain ⟨t, ht, rfl, hkr, hcn, hg⟩ := hrel
    have HKR := kide hkr
    have HCN := kide hcn
    have HG := kide hg
    clear hkr
    by_cases htl : t < ks.length
    · obtain ⟨-, -, h | ⟨b, o, rfl, hc3⟩⟩ := hr
      · subst h; simp at htl
      have hbP : b ≠ P := HF.out b o none rfl
      have g0 := hc3 t htl
      rw [← World.cell?_of_block (w := w) (w' := wr) (a := ⟨b, o + t, none⟩) (hg.block b (block_lt_of_cell g0) (fun e => hbP (by cases e; rfl)))] at g0
      have hgt : ks[t]? = some (ks.getD t 0) := by simp [List.getD, htl]
      have HGT := kide hgt
      clear hgt hc3 hg
      generalize ks.getD t 0 = y at *
      have i0 : (t : Int) < (ks.length : Int) := by omega
      by_cases hy : 0 ≤ y ∧ y ≤ (k : Int) - 1
      · obtain ⟨m, rfl⟩ : ∃ m : Nat, y = (m : Int) := ⟨y.toNat, by omega⟩
        have hm : m < k := by omega
        obtain ⟨f, hrw, hfq⟩ := hcn
        have q0 := hrw.cell (i := m) (by omega)
        have r0 := hrw.frozen m
        have q1 : wr.cell? ⟨P, m, none⟩ = some (.int .i64 ((q m + cntR (ks.take t) m : Nat) : Int)) := by rw [q0, hfq m (by omega)]
        clear q0
        have hqb : q m + cntR (ks.take t) m ≤ 2000000000000 := by
          have h1 := HQ.out m
          have h2 : cntR (ks.take t) m ≤ (ks.take t).length := List.countP_le_length
          rw [List.length_take] at h2
          omega
        have HRW := kide hrw
        have HFQ := kide hfq
        generalize hS : q m + cntR (ks.take t) m = S at *
        have HSS := kide hS
        clear hrw hfq hy hS
        go_wp2_with fail
        go_roundw
        case rel =>
          refine ⟨t + 1, by omega, by go_num, ?_, ⟨_, World.rowIs.set HRW.out m (.int .i64 ((S : Int) + 1)), fun j hj => ?_⟩, ?_⟩
          · rw [List.take_add_one, HGT.out, kidsR, List.all_append]
            have := HKR.out
            rw [kidsR] at this
            rw [this]
            simp
            omega
          · have hcj : cntR (ks.take (t + 1)) j = cntR (ks.take t) j + (if m = j then 1 else 0) := by
              unfold cntR
              rw [List.take_add_one, HGT.out, List.countP_append]
              by_cases e : m = j
              · subst e; simp
              · have e2 : ¬ ((m : Int) = (j : Int)) := by omega
                simp [e, e2]
            show (if j = m then _ else _) = Value.int .i64 ((q j + cntR (ks.take (t + 1)) j : Nat) : Int)
            rw [hcj]
            by_cases e : j = m
            · subst e
              have := HSS.out
              rw [if_pos rfl, if_pos rfl]
              congr 1
              omega
            · rw [if_neg e, if_neg (fun h => e h.symm), HFQ.out j hj]
              rfl
          · have h := HG.out
            exact ⟨h.os, h.tape, h.output, by simpa using h.size, fun x hx hne => by rw [heap_setCell_other _ _ _ _ (fun e => hne (by simp at e; rw [e]))]; exact h.block x hx hne⟩
        case measure => simp [intOf]; omega
      · have hZf : Z = false := by
          rw [← HZ.out, kidsR, List.all_eq_false]
          exact ⟨y, List.mem_of_getElem? HGT.out, by simpa using hy⟩
        subst hZf
        have hor : y < 0 ∨ (k : Int) ≤ y := by omega
        clear hy hcn
        rcases hor with hor | hor
        · go_wp2_with fail
          go_ret
          first | exact ⟨rfl, HG.out⟩ | exact ⟨rfl, (by intro h; cases h), HG.out⟩
        · have h0 : ¬ y < 0 := by omega
          go_wp2_with fail
          go_ret
          first | exact ⟨rfl, HG.out⟩ | exact ⟨rfl, (by intro h; cases h), HG.out⟩
    · have e : t = ks.length := by omega
      subst e
      have hZt : Z = true := by
        have := HKR.out
        rw [List.take_length] at this
        rw [← HZ.out]; exact this
      subst hZt
      clear hcn hg hr hc
      go_wp2_with fail
      go_ret
      have h := HCN.out
      rw [List.take_length] at h
      exact ⟨rfl, h, HG.out⟩

end Go.Proofs.YtdlmgndmfphneaaGreatDoor

/- The program's fieldsOk, over the table `forms`. -/
namespace Go.Proofs.YtdlmgndmfphneaaGreatDoor
set_option linter.unusedVariables false
set_option linter.unusedSimpArgs false
open Go.RowKit

/-- The table: how many numbers, at least, at most how many terms an Op has. -/
def tabR : Nat → Int × Int × Int
  | 3 => (0, 2, 4096)
  | 4 => (2, 1, 1)
  | 5 => (1, 1, 1)
  | 6 => (1, 1, 1)
  | 7 => (1, 1, 1)
  | 8 => (1, 1, 1)
  | 9 => (1, 1, 1)
  | _ => (0, 0, 0)

/-- The table lies in the program's first block. -/
def GF (w : World) : Prop := ∀ m, m < 10 → (∃ s, w.cell? ⟨0, m * 4, none⟩ = some (.string s)) ∧ w.cell? ⟨0, m * 4 + 1, none⟩ = some (.int .i64 (tabR m).1) ∧ w.cell? ⟨0, m * 4 + 2, none⟩ = some (.int .i64 (tabR m).2.1) ∧ w.cell? ⟨0, m * 4 + 3, none⟩ = some (.int .i64 (tabR m).2.2)

theorem GF.later {w w' : World} (h : GF w) (hb : Below w.heap.size w w') : GF w' := by
  intro m hm
  obtain ⟨⟨s, h0⟩, h1, h2, h3⟩ := h m hm
  have l := block_lt_of_cell h1
  exact ⟨⟨s, by rw [kcell hb _ _ l]; exact h0⟩, by rw [kcell hb _ _ l]; exact h1, by rw [kcell hb _ _ l]; exact h2, by rw [kcell hb _ _ l]; exact h3⟩

def fldT (op vr a b bw : Int) (wl kl : Nat) (N L M : Int) : Bool :=
  !(op != 1 && vr != 0 || decide (N < 1) && a != 0 || decide (N < 2) && b != 0) && !(op != 2 && (bw != 0 || decide (wl ≠ 0))) && (decide (L ≤ (kl : Int)) && decide ((kl : Int) ≤ M))

/-- What the program asks of the fields. -/
def fldR (n : Tc) : Bool := decide (1 ≤ n.op ∧ n.op ≤ 9) && fldT n.op n.vr n.a n.b n.bw n.ws.length n.ks.length (tabR n.op.toNat).1 (tabR n.op.toNat).2.1 (tabR n.op.toNat).2.2

set_option maxHeartbeats 2000000 in
theorem fieldsOk_any (n : Tc) (wa ka : Option Addr) (wc kc : Nat) (w : World) (hG : GF w) (hw : n.ws.length ≤ 1048576) (hk : n.ks.length ≤ 1048576) :
    Calls Tryz.prog 120 #[.agg #[.int .i64 n.op, .int .i64 n.vr, .int .i64 n.a, .int .i64 n.b, .int .i64 n.bw, .slice wa n.ws.length wc, .slice ka n.ks.length kc]] w fun e w' => e = .returned (.bool (fldR n)) ∧ Below w.heap.size w w' := by
  generalize hZ : fldR n = Z
  have HZ := kide hZ
  clear hZ
  obtain ⟨op, vr, A, B, bw, ws, ks⟩ := n
  simp only [] at hw hk ⊢
  have hb0 : Below w.heap.size w (w.alloc (Obj.cells #[Value.int .i64 op, Value.int .i64 vr, Value.int .i64 A, Value.int .i64 B, Value.int .i64 bw, Value.slice wa ws.length wc, Value.slice ka ks.length kc] 63)) := (Below.refl _ _).alloc (Nat.le_refl _) _
  have B0 := kide hb0
  by_cases hr : 1 ≤ op ∧ op ≤ 9
  · obtain ⟨m, rfl⟩ : ∃ m : Nat, op = (m : Int) := ⟨op.toNat, by omega⟩
    obtain ⟨⟨s, t0⟩, t1, t2, t3⟩ := hG m (by omega)
    have l0 : 0 < w.heap.size := block_lt_of_cell t1
    have hz : fldT (m : Int) vr A B bw ws.length ks.length (tabR m).1 (tabR m).2.1 (tabR m).2.2 = Z := by
      have h := HZ.out
      rw [fldR, decide_eq_true hr, Bool.true_and] at h
      simpa using h
    obtain ⟨NN, hNN⟩ : ∃ x, x = (tabR m).1 := ⟨_, rfl⟩
    obtain ⟨LL, hLL⟩ : ∃ x, x = (tabR m).2.1 := ⟨_, rfl⟩
    obtain ⟨MM, hMM⟩ : ∃ x, x = (tabR m).2.2 := ⟨_, rfl⟩
    rw [← hNN] at t1 hz
    rw [← hLL] at t2 hz
    rw [← hMM] at t3 hz
    have HZ2 := kide hz
    have hm1 : 1 ≤ m := by omega
    have hm9 : m ≤ 9 := by omega
    clear HZ hz hG hb0 hNN hLL hMM hr
    go_enter Tryz.func120, Tryz.ntmps120
    go_wp2_with fail
    all_goals go_ret
    all_goals refine ⟨ret_bool ?_, Below.alloc (Below.alloc (Below.refl _ _) (Nat.le_refl _) _) (by simp) _⟩
    all_goals (have h := HZ2.out; clear HZ2 B0 t0 t1 t2 t3; rw [← h]; clear h; unfold fldT; cases hB : (B != 0) <;> cases hA : (A != 0) <;> cases hV : (vr != 0) <;> cases hM : ((m : Int) != 1) <;> cases hM2 : ((m : Int) != 2) <;> cases hW : (bw != 0) <;> simp_all <;> omega)
  · have hz := HZ.out
    rw [fldR, decide_eq_false hr, Bool.false_and] at hz
    subst hz
    have hor : op < 1 ∨ 9 < op := by omega
    clear HZ hG hb0 hr
    rcases hor with hor | hor
    · go_enter Tryz.func120, Tryz.ntmps120
      go_wp2_with fail
      go_ret
      exact ⟨rfl, B0.out⟩
    · have h1 : ¬ op < 1 := by omega
      go_enter Tryz.func120, Tryz.ntmps120
      go_wp2_with fail
      go_ret
      exact ⟨rfl, B0.out⟩

end Go.Proofs.YtdlmgndmfphneaaGreatDoor

/- The program's width of a node: the plain side, and boundWidth. -/
namespace Go.Proofs.YtdlmgndmfphneaaGreatDoor
set_option linter.unusedVariables false
set_option linter.unusedSimpArgs false
open Go.RowKit

/-- A width in bounds, and a code. -/
def bndR (x : Int) : Int × Int := if x < 1 then (0, 15) else if 4096 < x then (0, 16) else (x, 0)

theorem boundWidth_any (x : Int) (w : World) : Calls Tryz.prog 183 #[.int .i64 x] w fun e w' => e = .returned (.tuple #[.int .i64 (bndR x).1, .int .i64 (bndR x).2]) ∧ w' = w := by
  by_cases h1 : x < 1
  · rw [bndR, if_pos h1]
    go_enter Tryz.func183, Tryz.ntmps183
    go_wp2_with fail
    go_returns
    exact ⟨rfl, rfl⟩
  · by_cases h2 : 4096 < x
    · rw [bndR, if_neg h1, if_pos h2]
      go_enter Tryz.func183, Tryz.ntmps183
      go_wp2_with fail
      go_returns
      exact ⟨rfl, rfl⟩
    · rw [bndR, if_neg h1, if_neg h2]
      go_enter Tryz.func183, Tryz.ntmps183
      go_wp2_with fail
      go_returns
      exact ⟨rfl, rfl⟩

/-- The kids' widths. -/
def kwR (wide : List Int) (ks : List Int) : List Int := ks.map fun k => wide.getD k.toNat 0
def sumK : List Int → Int
  | [] => 0
  | x :: t => x + sumK t

/-- What the program says of a node: a width and a code. -/
def nodR (ds : List Dc) (n : Tc) (ys : List Int) : Int × Int :=
  if n.op = 1 then (if 0 ≤ n.vr ∧ n.vr < ds.length then bndR (ds.getD n.vr.toNat (.empty, 0)).2 else (0, 15))
  else if n.op = 2 then (if rightB n.bw n.ws = true then (n.bw, 0) else (0, 15))
  else if n.op = 3 then bndR (sumK ys)
  else if n.op = 4 then (if n.b < 0 ∨ n.a < n.b ∨ ys.getD 0 0 ≤ n.a then (0, 15) else (n.a - n.b + 1, 0))
  else if n.op = 5 ∨ n.op = 6 then (if 0 ≤ n.a ∧ n.a ≤ 4096 then bndR (ys.getD 0 0 + n.a) else (0, 15))
  else if n.op = 7 ∨ n.op = 8 then (if 0 ≤ n.a ∧ n.a ≤ 4096 then (ys.getD 0 0, 0) else (0, 15))
  else (if 1 ≤ n.a ∧ n.a ≤ 4096 then bndR (ys.getD 0 0 * n.a) else (0, 15))

theorem bndR_spec (x : Int) : (1 ≤ x ∧ x ≤ 4096 → bndR x = (x, 0)) ∧ (¬ (1 ≤ x ∧ x ≤ 4096) → (bndR x).2 ≠ 0) := by
  unfold bndR
  constructor
  · intro h; rw [if_neg (by omega), if_neg (by omega)]
  · intro h
    split
    · simp
    · split
      · simp
      · omega

theorem kids_get {wide ks : List Int} (hw : ∀ x ∈ wide, 1 ≤ x ∧ x ≤ 4096) (hk : kidsR wide.length ks = true) : ∀ k ∈ ks, 1 ≤ wide.getD k.toNat 0 ∧ wide.getD k.toNat 0 ≤ 4096 := by
  intro k hkm
  simp only [kidsR, List.all_eq_true, decide_eq_true_eq] at hk
  have := hk k hkm
  have hl : k.toNat < wide.length := by omega
  have := hw _ (List.getElem_mem hl)
  simp [List.getD, hl]
  omega

theorem sumR_min {wide ks : List Int} (hw : ∀ k ∈ ks, 1 ≤ wide.getD k.toNat 0 ∧ wide.getD k.toNat 0 ≤ 4096) (s : Int) (h0 : 0 ≤ s) (h1 : s ≤ 8192) : sumR wide ks s = min 8192 (s + sumK (kwR wide ks)) ∧ (ks.length : Int) ≤ sumK (kwR wide ks) := by
  induction ks generalizing s with
  | nil => simp [sumR, sumK, kwR]; omega
  | cons k t ih =>
    have hk := hw k (by simp)
    obtain ⟨e1, e2⟩ := ih (fun x hx => hw x (by simp [hx])) (min 8192 (s + wide.getD k.toNat 0)) (by omega) (by omega)
    rw [sumR, e1]
    have e3 : sumK (kwR wide (k :: t)) = wide.getD k.toNat 0 + sumK (kwR wide t) := by simp [kwR, sumK]
    rw [e3]
    refine ⟨by omega, ?_⟩
    simp only [List.length_cons]
    omega

end Go.Proofs.YtdlmgndmfphneaaGreatDoor

/- That the program's fields, kids and width are what a right node asks. -/
namespace Go.Proofs.YtdlmgndmfphneaaGreatDoor
set_option linter.unusedVariables false
set_option linter.unusedSimpArgs false
open Go.RowKit

theorem op_cases {x : Int} (h1 : 1 ≤ x) (h9 : x ≤ 9) : x = 1 ∨ x = 2 ∨ x = 3 ∨ x = 4 ∨ x = 5 ∨ x = 6 ∨ x = 7 ∨ x = 8 ∨ x = 9 := by omega

theorem kw_one {wide ks : List Int} (h : ks.length = 1) : (kwR wide ks).getD 0 0 = sumK (kwR wide ks) := by
  match ks, h with
  | [k], _ => simp [kwR, sumK]

/-- A node of which the step tells a width has the fields and kids that the program asks for. -/
theorem step_some {ds : List Dc} {wide : List Int} {n : Tc} {v : Int} (hw : ∀ x ∈ wide, 1 ≤ x ∧ x ≤ 4096) (h : stepR ds wide n = some v) : fldR n = true ∧ kidsR wide.length n.ks = true := by
  have h0 := stepR_kids h
  simp only [Bool.and_eq_true] at h0
  obtain ⟨⟨hk, hf⟩, hm⟩ := h0
  refine ⟨?_, hk⟩
  have hg := kids_get hw hk
  obtain ⟨hs, hl⟩ := sumR_min hg 0 (by omega) (by omega)
  have hr := stepR_range h
  have hwd : wideR ds n (sumR wide n.ks 0) ≤ 4096 := by
    unfold stepR at h
    split at h
    · split at h
      · rename_i hb; exact hb.2
      · cases h
    · cases h
  clear h hr
  obtain ⟨op, vr, a, b, bw, ws, ks⟩ := n
  simp only [] at *
  have hop : 1 ≤ op ∧ op ≤ 9 := by
    unfold manyR at hm
    simp only [] at hm
    split at hm
    · omega
    · split at hm
      · omega
      · split at hm
        · omega
        · split at hm
          · omega
          · cases hm
  rcases op_cases hop.1 hop.2 with rfl | rfl | rfl | rfl | rfl | rfl | rfl | rfl | rfl
  case inr.inr.inl =>
    simp only [fldR, fldT, tabR, manyR, fieldR, wideR] at *
    simp at hf hm hwd ⊢
    rw [hs] at hwd
    refine ⟨⟨⟨⟨hf.1.1.1, hf.2⟩, hf.1.2⟩, hf.1.1.2.1, hf.1.1.2.2⟩, by omega, by omega⟩
  all_goals
    simp only [fldR, fldT, tabR, manyR, fieldR] at *
    simp at hf hm ⊢
    grind

theorem bndR_if (x : Int) : (if (bndR x).2 = 0 then some (bndR x).1 else none) = (if 1 ≤ x ∧ x ≤ 4096 then some x else (none : Option Int)) := by
  by_cases h : 1 ≤ x ∧ x ≤ 4096
  · rw [(bndR_spec x).1 h, if_pos rfl, if_pos h]
  · rw [if_neg ((bndR_spec x).2 h), if_neg h]

theorem fldR_op {n : Tc} (h : fldR n = true) : 1 ≤ n.op ∧ n.op ≤ 9 := by
  simp only [fldR, Bool.and_eq_true, decide_eq_true_eq] at h
  exact h.1

/-- .. and the program's width of such a node is the step's. -/
theorem step_both {ds : List Dc} {wide : List Int} {n : Tc} (hw : ∀ x ∈ wide, 1 ≤ x ∧ x ≤ 4096) (hf : fldR n = true) (hk : kidsR wide.length n.ks = true) :
    stepR ds wide n = (if (nodR ds n (kwR wide n.ks)).2 = 0 then some (nodR ds n (kwR wide n.ks)).1 else none) := by
  have hg := kids_get hw hk
  obtain ⟨hs, hl⟩ := sumR_min hg 0 (by omega) (by omega)
  have hop := fldR_op hf
  unfold stepR
  rw [hk, Bool.true_and]
  obtain ⟨op, vr, a, b, bw, ws, ks⟩ := n
  simp only [] at *
  have hone : ks.length = 1 → (kwR wide ks).getD 0 0 = sumK (kwR wide ks) ∧ sumR wide ks 0 = sumK (kwR wide ks) ∧ 1 ≤ sumK (kwR wide ks) ∧ sumK (kwR wide ks) ≤ 4096 := by
    intro h1
    have e := kw_one (wide := wide) h1
    have : 1 ≤ sumK (kwR wide ks) ∧ sumK (kwR wide ks) ≤ 4096 := by
      match ks, h1 with
      | [k], _ =>
        have := hg k (by simp)
        simpa [kwR, sumK] using this
    exact ⟨e, by rw [hs]; omega, this⟩
  rcases op_cases hop.1 hop.2 with rfl | rfl | rfl | rfl | rfl | rfl | rfl | rfl | rfl
  · -- a variable
    simp only [fldR, fldT, tabR] at hf
    simp at hf
    have hfm : (fieldR ⟨1, vr, a, b, bw, ws, ks⟩ && manyR ds.length ⟨1, vr, a, b, bw, ws, ks⟩) = decide (0 ≤ vr ∧ vr < (ds.length : Int)) := by
      rw [Bool.eq_iff_iff]
      simp [fieldR, manyR]
      grind
    rw [hfm]
    simp only [nodR, wideR, if_true]
    by_cases hv : 0 ≤ vr ∧ vr < (ds.length : Int)
    · simp only [decide_eq_true hv, if_true, if_pos hv]
      rw [bndR_if]
    · simp only [decide_eq_false hv, if_neg hv]
      simp
  · -- bits
    simp only [fldR, fldT, tabR] at hf
    simp at hf
    have hfm : (fieldR ⟨2, vr, a, b, bw, ws, ks⟩ && manyR ds.length ⟨2, vr, a, b, bw, ws, ks⟩) = rightB bw ws := by
      rw [Bool.eq_iff_iff]
      simp [fieldR, manyR]
      grind
    rw [hfm]
    simp only [nodR, wideR]
    cases hR : rightB bw ws with
    | false => simp
    | true =>
      have : 1 ≤ bw ∧ bw ≤ 4096 := by
        simp [rightB, wOk] at hR
        exact hR.1.1
      simp [this]
  · -- a cat
    simp only [fldR, fldT, tabR] at hf
    simp at hf
    have hfm : (fieldR ⟨3, vr, a, b, bw, ws, ks⟩ && manyR ds.length ⟨3, vr, a, b, bw, ws, ks⟩) = true := by
      simp [fieldR, manyR]
      grind
    rw [hfm]
    simp only [nodR, wideR]
    simp
    rw [bndR_if, hs]
    by_cases h : 1 ≤ sumK (kwR wide ks) ∧ sumK (kwR wide ks) ≤ 4096
    · rw [if_pos h, if_pos (by omega)]
      congr 1
      omega
    · rw [if_neg h, if_neg (by omega)]
  all_goals
    simp only [fldR, fldT, tabR] at hf
    simp at hf
    have h1 : ks.length = 1 := by omega
    obtain ⟨o1, o2, o3, o4⟩ := hone h1
    simp only [nodR, wideR, o1, o2]
    clear hone o1 o2 hs hl hg hk hw
    generalize sumK (kwR wide ks) = q at *
  · have hfm : (fieldR ⟨4, vr, a, b, bw, ws, ks⟩ && manyR ds.length ⟨4, vr, a, b, bw, ws, ks⟩) = true := by
      simp [fieldR, manyR]
      grind
    rw [hfm]
    simp
    by_cases h : b < 0 ∨ a < b ∨ q ≤ a
    · simp [h]
    · rw [if_neg h, if_neg h]
      simp
      omega
  · have hfm : (fieldR ⟨5, vr, a, b, bw, ws, ks⟩ && manyR ds.length ⟨5, vr, a, b, bw, ws, ks⟩) = true := by
      simp [fieldR, manyR]
      grind
    rw [hfm]
    simp
    by_cases h : 0 ≤ a ∧ a ≤ 4096
    · simp only [if_pos h]
      rw [bndR_if]
    · simp only [if_neg h]
      simp
  · have hfm : (fieldR ⟨6, vr, a, b, bw, ws, ks⟩ && manyR ds.length ⟨6, vr, a, b, bw, ws, ks⟩) = true := by
      simp [fieldR, manyR]
      grind
    rw [hfm]
    simp
    by_cases h : 0 ≤ a ∧ a ≤ 4096
    · simp only [if_pos h]
      rw [bndR_if]
    · simp only [if_neg h]
      simp
  · have hfm : (fieldR ⟨7, vr, a, b, bw, ws, ks⟩ && manyR ds.length ⟨7, vr, a, b, bw, ws, ks⟩) = true := by
      simp [fieldR, manyR]
      grind
    rw [hfm]
    simp
    by_cases h : 0 ≤ a ∧ a ≤ 4096
    · simp only [if_pos h]
      simp [o3, o4]
    · simp only [if_neg h]
      simp
  · have hfm : (fieldR ⟨8, vr, a, b, bw, ws, ks⟩ && manyR ds.length ⟨8, vr, a, b, bw, ws, ks⟩) = true := by
      simp [fieldR, manyR]
      grind
    rw [hfm]
    simp
    by_cases h : 0 ≤ a ∧ a ≤ 4096
    · simp only [if_pos h]
      simp [o3, o4]
    · simp only [if_neg h]
      simp
  · have hfm : (fieldR ⟨9, vr, a, b, bw, ws, ks⟩ && manyR ds.length ⟨9, vr, a, b, bw, ws, ks⟩) = true := by
      simp [fieldR, manyR]
      grind
    rw [hfm]
    simp
    by_cases h : 1 ≤ a ∧ a ≤ 4096
    · simp only [if_pos h]
      rw [bndR_if]
    · simp only [if_neg h]
      simp

/-- Fields or kids that are not what the program asks for. -/
theorem step_not {ds : List Dc} {wide : List Int} {n : Tc} (hw : ∀ x ∈ wide, 1 ≤ x ∧ x ≤ 4096) (h : fldR n = false ∨ kidsR wide.length n.ks = false) : stepR ds wide n = none := by
  cases hs : stepR ds wide n with
  | none => rfl
  | some v =>
    obtain ⟨h1, h2⟩ := step_some hw hs
    rcases h with h | h
    · rw [h1] at h; cases h
    · rw [h2] at h; cases h

end Go.Proofs.YtdlmgndmfphneaaGreatDoor
