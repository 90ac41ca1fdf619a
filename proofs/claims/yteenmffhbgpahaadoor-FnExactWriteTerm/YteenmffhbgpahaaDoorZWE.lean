/- Several texts in one. -/
import Derived.Test.YteenmffhbgpahaaDoorZWD

/- The given l3Widths, where it goes on: the loops. -/
namespace Go.Proofs.YteenmffhbgpahaaDoor
set_option linter.unusedVariables false
set_option linter.unusedSimpArgs false
open Go.RowKit

set_option maxHeartbeats 1000000 in
theorem l3Widths_yes (a b : Option Addr) (c c2 n : Nat) (ds : List Dc) (xs : List Tg) (w : World) (hr : RdD w a ds) (hs : RdT w b xs) (hn : xs.length = n) (hok : dclR ds = true ∧ 1 ≤ n ∧ n ≤ 400) :
    Calls Tryd.prog 28 #[.slice a ds.length c, .agg #[.slice b n c2]] w fun e w' => ∃ v, e = .returned v ∧ OW w' (w.heap.size + 1) v (widthsR ds (xs.map Tg.ct)) ∧ Below w.heap.size w w' := by
  have hl1 := hr.1
  have hl2 := hs.1
  rw [hn] at hl2
  have HR := kide hr
  have HS := kide hs
  have HN := kide hn
  have hb1 : Below w.heap.size w (w.alloc (Obj.cells #[Value.slice b n c2] 33)) := (Below.refl _ _).alloc (Nat.le_refl _) _
  have hb2 : Below w.heap.size w ((w.alloc (Obj.cells #[Value.slice b n c2] 33)).alloc (Obj.cells #[] 2)) := hb1.alloc (by simp) _
  have B2 := kide hb2
  have HDK := kide (fun u (hu : Below w.heap.size w u) => specDecls_any a c ds u (hr.later hu))
  generalize hZ : widthsR ds (xs.map Tg.ct) = Z
  have HZ := kide hZ
  clear hr hs hn hb1 hb2 hZ
  go_enter Tryd.func28, Tryd.ntmps28
  go_wp2_with fail
  refine Calls.mono (HDK.out _ B2.out) ?_
  rintro e w1 ⟨rfl, hb1⟩
  have c1 := kcell hb1 w.heap.size 0 (by simp; omega)
  have n1 : w1.heap[w.heap.size + 1]? = some (.cells #[] 2 (0, 0)) := by
    rw [hb1.block _ (by simp)]
    have h := heap_alloc_new (w.alloc (Obj.cells #[Value.slice b n c2] 33)) (Obj.cells #[] 2)
    simpa using h
  have B1 := kide (B2.out.trans (hb1.mono B2.out.size))
  have HBX : Hid (w1.heap[w.heap.size]? = some (.cells #[.slice b n c2] 33 (0, 0))) := by
    show w1.heap[w.heap.size]? = _
    rw [hb1.block _ (by simp; omega)]
    have h := heap_alloc_new w (Obj.cells #[Value.slice b n c2] 33)
    rw [← h]
    exact ((Below.refl _ _).alloc (B := (w.alloc (Obj.cells #[Value.slice b n c2] 33)).heap.size) (Nat.le_refl _) _).block _ (by simp)
  have z1 : w.heap.size + 1 < w1.heap.size := lt_of_block n1
  have zz : w.heap.size < w1.heap.size := by omega
  simp at c1
  clear hb1 B2
  have ON1 : Hid (OW w1 (w.heap.size + 1) (.slice (some ⟨w.heap.size + 1, 0, none⟩) 0 0) []) := ⟨rfl, .inr ⟨w.heap.size + 1, 0, #[], rfl, Nat.le_refl _, n1, Nat.le_refl _, by unfold maxLen; omega, rfl, rfl⟩⟩
  obtain ⟨hd, hn1, hn4⟩ := hok
  rw [hd]
  have hmk := fun kl kc w => run_make_row' (P := Tryd.prog) 104 4 (.bool false) 1 Tryd.underlying104 Tryd.infoBool rfl kl kc n (by omega) (by omega) w
  have HD := kide hd
  clear hd
  go_wp2_with fail
  generalize hNS : xs.map Tg.ct = ns at *
  have HNS := kide hNS
  have hnl : ns.length = n := by rw [← hNS, List.length_map]; exact HN.out
  have HNL := kide hnl
  have hok2 : (match goR ds [] ns with
    | none => []
    | some wide => if (List.range (n - 1)).all (usedR ns) = true then wide else []) = Z := by
    have h := HZ.out
    rw [widthsR, if_pos (by simp only [Bool.and_eq_true, decide_eq_true_eq, hnl]; exact ⟨⟨HD.out, hn1⟩, hn4⟩), hnl] at h
    exact h
  have HOK2 := kide hok2
  clear hok2 HZ HDK hNS hnl
  have ob3 : Below w1.heap.size w1 ((w1.alloc (Obj.cells #[] 2)).alloc (Obj.cells (madeCells #[Value.bool false] n) 4)) := ((Below.refl _ _).alloc (Nat.le_refl _) _).alloc (by simp) _
  have hrow := krow (heap_alloc_new (w1.alloc (Obj.cells #[] 2)) (.cells (madeCells #[Value.bool false] n) 4))
  rw [size_madeCells] at hrow
  have hx1 : w1.heap[w.heap.size]? = some (.cells #[.slice b n c2] 33 (0, 0)) := HBX.out
  have L0 : Hid (Lw w b n c2 (w1.heap.size + 1) (usedR (ns.take 0)) ((w1.alloc (Obj.cells #[] 2)).alloc (Obj.cells (madeCells #[Value.bool false] n) 4))) := by
    refine ⟨by rw [ob3.block _ zz]; exact hx1, by rw [ob3.block _ z1]; exact n1, B1.out.trans (ob3.mono B1.out.size), ⟨_, by simpa using hrow, fun j hj => ?_⟩⟩
    have e : (madeCells #[Value.bool false] n)[j]? = some (.bool false) := by simp [madeCells, hj, Nat.mod_one]
    simp [usedR, e]
  have W0 : Hid (OW ((w1.alloc (Obj.cells #[] 2)).alloc (Obj.cells (madeCells #[Value.bool false] n) 4)) w1.heap.size (.slice (some ⟨w1.heap.size, 0, none⟩) 0 0) []) := (OW.fresh w1 w1.heap.size (Nat.le_refl _)).later ((Below.refl _ _).alloc (Nat.le_refl _) _)
  generalize (w1.alloc (Obj.cells #[] 2)).alloc (Obj.cells (madeCells #[Value.bool false] n) 4) = w3 at *
  clear hrow ob3 hmk c1 n1 ON1 hx1 HBX
  have zU : w.heap.size + 1 < w1.heap.size + 1 := by omega
  generalize hU : w1.heap.size + 1 = U at *
  generalize hG : goR ds [] ns = G at *
  have HG := kide hG
  clear hG
  go_loopw [6, 8] (fun l i wr => ∃ (k : Nat) (wide : List Int), k ≤ n ∧ i = .int .i64 (k : Int) ∧ OW wr w1.heap.size l wide ∧ wide.length = k ∧ (∀ x ∈ wide, 1 ≤ x ∧ x ≤ 4096) ∧ goR ds wide (ns.drop k) = G ∧ Lw w b n c2 U (usedR (ns.take k)) wr ∧ w1.heap.size ≤ wr.heap.size) (fun _ i _ => n - (intOf i).toNat)
  case atStart => exact ⟨0, [], Nat.zero_le _, rfl, W0.out, rfl, by simp, HG.out, L0.out, by have := L0.out.lt; omega⟩
  case round =>
    obtain ⟨k, wide, hk, rfl, hown, hwl, hwd, hgo, hlw, hsz⟩ := hrel
    have HOW := kide hown
    have HWL := kide hwl
    have HWD := kide hwd
    have HGO := kide hgo
    have HLW := kide hlw
    have cb := hlw.cell
    obtain ⟨ya, yc, rfl, hyr⟩ := hown.rd (by omega) (fun x hx => by have := hwd x hx; unfold in64; omega)
    have HYR := kide hyr
    clear hyr
    by_cases hlt : k < n
    · obtain ⟨-, h | ⟨b2, o2, rfl, hc2⟩⟩ := HS.out
      · have := HN.out; subst h; simp at this; omega
      obtain ⟨⟨s1, wa, wc, ka, kc⟩, gx⟩ : ∃ x, xs[k]? = some x := ⟨xs[k]'(by rw [HN.out]; exact hlt), List.getElem?_eq_getElem _⟩
      have gn : ns[k]? = some s1 := by rw [← HNS.out, List.getElem?_map, gx]; rfl
      obtain ⟨⟨p0, p1, p2, p3, p4, p5, p6⟩, pr, pi, p64⟩ := (hc2 k _ gx).later hlw.bel
      simp only [Tg.hd] at p0 p1 p2 p3 p4 p5 p6 pr pi p64
      have HFM := kide (l3Form_any a ds.length c k s1 wa ka wc kc wr pr pi (by omega) hl1)
      have GN := kide gn
      have P64 := kide p64
      have PR := kide (fun u (hu : Below wr.heap.size wr u) => pr.later hu)
      have PI := kide (fun u (hu : Below wr.heap.size wr u) => pi.later hu)
      have HC0 := kide (hc2 k _ gx)
      have HCT := kide (fun u (hu : Below wr.heap.size wr u) => (hc2 k _ gx).later (hlw.bel.trans (hu.mono hlw.bel.size)))
      generalize hV : (kidsR k s1.ks && fieldR s1 && manyR ds.length s1) = V at *
      have HV := kide hV
      have i0 : (k : Int) < (n : Int) := by omega
      clear hV hc2 gx gn p64 pr pi hown hwl hwd hgo hlw
      go_wp2_with fail
      refine Calls.mono HFM.out ?_
      rintro e w4 ⟨rfl, hb4⟩
      have L4 := kide (HLW.out.later hb4)
      have O4 := kide (HOW.out.later hb4)
      have cb4 := L4.out.cell
      cases V with
      | false =>
        clear hb4 HFM
        go_wp2_with fail
        go_ret
        refine ⟨_, rfl, ?_, L4.out.bel⟩
        have hst : stepR ds wide s1 = none := by
          unfold stepR
          rw [HWL.out, HV.out]
          rfl
        have hz := HOK2.out
        rw [← HGO.out, goR_none GN.out hst] at hz
        rw [← hz]
        exact L4.out.none'
      | true =>
        obtain ⟨⟨p0, p1, p2, p3, p4, p5, p6⟩, -⟩ := HCT.out w4 hb4
        simp only [Tg.hd] at p0 p1 p2 p3 p4 p5 p6
        have hkk : kidsR wide.length s1.ks = true := by
          have h := HV.out
          simp only [Bool.and_eq_true] at h
          rw [HWL.out]; exact h.1.1
        have hvv : s1.op = 1 → 0 ≤ s1.vr ∧ s1.vr ≤ (ds.length : Int) - 1 := by
          have h := HV.out
          simp only [Bool.and_eq_true] at h
          exact manyR_var h.2
        have HWI := kide (l3Wide_any a c ds s1 wa ka ya wc kc yc wide w4 (HR.out.later L4.out.bel) (PR.out w4 hb4) (PI.out w4 hb4) (HYR.out.later hb4) HWD.out hkk hvv P64.out.2.2.1 P64.out.2.2.2.1)
        have PR4 := kide (fun u (hu : Below w4.heap.size w4 u) => (PI.out w4 hb4).later hu)
        have HCT4 := kide (fun u (hu : Below w4.heap.size w4 u) => (HCT.out w4 hb4).later hu)
        clear hb4 HFM hkk hvv HCT PR PI HYR
        generalize hX : wideR ds s1 (sumR wide s1.ks 0) = X at *
        have HX := kide hX
        clear hX
        go_wp2_with fail
        refine Calls.mono HWI.out ?_
        rintro e w5 ⟨rfl, hb5⟩
        have L5 := kide (L4.out.later hb5)
        have O5 := kide (O4.out.later hb5)
        have cb5 := L5.out.cell
        have HCT5 := kide (HCT4.out w5 hb5)
        have PI5 := kide (PR4.out w5 hb5)
        clear hb5 HWI cb4 L4 O4 HCT4 PR4
        have HLI := kide (fun u => l1In_any X 1 4096 u)
        by_cases hX1 : 1 ≤ X ∧ X ≤ 4096
        · rw [decide_eq_true hX1] at HLI
          have hst : stepR ds wide s1 = some X := by
            unfold stepR
            rw [HWL.out, HV.out, HX.out, if_pos rfl, if_pos hX1]
          have HST := kide hst
          have HX1 := kide hX1
          have hz5 : w1.heap.size ≤ w5.heap.size := by have := L5.out.lt; omega
          have hwl2 : wide.length ≤ 1073741824 := by have := HWL.out; omega
          clear hst hX1
          go_wp2_with (first | (go_at_call 46; refine Calls.mono (HLI.out _) ?_; rintro e w6 ⟨rfl, rfl⟩) | (at_builtin; refine wpList_appW rfl _ _ rfl w1.heap.size _ wide X rfl (World.ownsRow.alloc O5.out _) _ rfl (by simp) hwl2 (by simp; omega) ?_))
          intro v7 w7 hos hg
          have L7 := kide ((L5.out.later ((Below.refl _ _).alloc (Nat.le_refl _) (Obj.cells #[Value.int .i64 X] 2))).grown (World.ownsRow.alloc O5.out _) (by omega) hg)
          have O7 := kide hos
          clear hos hg L5 O5 cb5 HCT5 PI5 HLI
          have cb7 := L7.out.cell
          go_wp2_with fail
          have hkb : ∀ y ∈ s1.ks, 0 ≤ y ∧ y ≤ (k : Int) - 1 := by
            have h := HV.out
            simp only [Bool.and_eq_true] at h
            have h1 := h.1.1
            rw [kidsR, List.all_eq_true] at h1
            intro y hy
            simpa using h1 y hy
          have HKB := kide hkb
          have hks : s1.ks.length ≤ 1048576 := HC0.out.2.2.1.1
          clear hkb cb7 cb p0 p1 p2 p3 p4 p5 p6
          obtain ⟨wo, hwo⟩ : ∃ wo, wo = wr := ⟨_, rfl⟩
          subst hwo
          clear HOW HLW
          go_loopw [10] (fun i wr => ∃ t : Nat, t ≤ s1.ks.length ∧ i = .int .i64 (t : Int) ∧ OW wr w1.heap.size v7 (wide ++ [X]) ∧ Lw w (some ⟨b2, o2, none⟩) n c2 U (fun j => usedR (ns.take k) j || (s1.ks.take t).any (fun y => decide (y = (j : Int)))) wr) (fun i _ => s1.ks.length - (intOf i).toNat)
          case atStart => exact ⟨0, Nat.zero_le _, rfl, O7.out, by simpa using L7.out⟩
          case round =>
            obtain ⟨t, ht, rfl, hot, hlt2⟩ := hrel
            have HOT := kide hot
            have HLT := kide hlt2
            have cbt := hlt2.cell
            obtain ⟨⟨-, -, -, -, -, -, p6⟩, -, pi, -⟩ := HC0.out.later hlt2.bel
            simp only [Tg.hd] at p6 pi
            clear hot
            by_cases htl : t < s1.ks.length
            · obtain ⟨-, -, h | ⟨b3, o3, rfl, hc3⟩⟩ := pi
              · rw [h] at htl; simp at htl
              have g0 := hc3 t htl
              have hym : s1.ks.getD t 0 ∈ s1.ks := by
                have : s1.ks.getD t 0 = s1.ks[t] := by simp [List.getD, htl]
                rw [this]; exact List.getElem_mem htl
              have hyb := HKB.out _ hym
              have hgt : s1.ks[t]? = some (s1.ks.getD t 0) := by simp [List.getD, htl]
              have HGT := kide hgt
              clear hc3 hym hgt
              generalize s1.ks.getD t 0 = y at *
              obtain ⟨m, rfl⟩ : ∃ m : Nat, y = (m : Int) := ⟨y.toNat, by omega⟩
              have hm : m < n := by omega
              obtain ⟨f, hrw, hfq⟩ := hlt2.row
              have q0 := hrw.cell (i := m) hm
              have r0 := hrw.frozen m
              have HRW := kide hrw
              have j0 : (t : Int) < (s1.ks.length : Int) := by omega
              clear hrw hfq hlt2 hyb
              generalize f m = fm at q0
              go_wp2_with fail
              go_roundw
              case rel =>
                refine ⟨t + 1, by omega, by go_num, HOT.out.mark HRW.out _ _, ?_⟩
                have h := HLT.out.mark (by omega) m
                refine cast ?_ h
                congr 1
                funext j
                rw [List.take_add_one, HGT.out, List.any_append]
                by_cases e : j = m
                · subst e; simp
                · have e2 : ¬ ((m : Int) = (j : Int)) := by omega
                  simp [e, e2]
              case measure => simp [intOf]; omega
            · have e : t = s1.ks.length := by omega
              subst e
              clear hlt2 pi
              go_wp2_with fail
              have hzU := HLT.out.lt
              refine ⟨⟨k + 1, wide ++ [X], by omega, by go_num, HOT.out, by simp [HWL.out], ?_, ?_, ?_, by omega⟩, ?_⟩
              · intro x hx
                rcases List.mem_append.1 hx with hx | hx
                · exact HWD.out x hx
                · rw [List.mem_singleton.1 hx]; exact HX1.out
              · rw [← goR_some GN.out HST.out]; exact HGO.out
              · have h := HLT.out
                rw [List.take_length] at h
                refine cast ?_ h
                congr 1
                funext j
                rw [List.take_add_one, GN.out]
                simp [usedR, List.any_append]
              · simp [intOf]; omega
        · rw [decide_eq_false hX1] at HLI
          have HX1 := kide hX1
          clear hX1
          go_wp2_with (go_at_call 46; refine Calls.mono (HLI.out _) ?_; rintro e w6 ⟨rfl, rfl⟩)
          go_ret
          refine ⟨_, rfl, ?_, L5.out.bel⟩
          have hst : stepR ds wide s1 = none := by
            unfold stepR
            rw [HWL.out, HV.out, HX.out, if_pos rfl, if_neg HX1.out]
          have hz := HOK2.out
          rw [← HGO.out, goR_none GN.out hst] at hz
          rw [← hz]
          exact L5.out.none'
    · have e : k = n := by omega
      subst e
      have hgo2 : G = some wide := by
        have h := HGO.out
        have hl := HNL.out
        rw [List.drop_of_length_le (by omega), goR] at h
        exact h.symm
      have hL := HLW.out
      rw [List.take_of_length_le (by have := HNL.out; omega)] at hL
      have HLE := kide hL
      have hz := HOK2.out
      rw [hgo2] at hz
      simp only [] at hz
      have HZ3 := kide hz
      clear hz hgo2 hL hown hwl hwd hgo hlw
      go_wp2_with fail
      obtain ⟨wo, hwo⟩ : ∃ wo, wo = wr := ⟨_, rfl⟩
      subst hwo
      go_loopw [11] (fun i wr => ∃ t : Nat, t ≤ k - 1 ∧ i = .int .i64 (t : Int) ∧ (∀ j, j < t → usedR ns j = true) ∧ wr = wo) (fun i _ => k - (intOf i).toNat)
      case atStart => exact ⟨0, Nat.zero_le _, rfl, fun j hj => by omega, rfl⟩
      case round =>
        obtain ⟨t, ht, rfl, hall, rfl⟩ := hrel
        have HALL := kide hall
        clear hall
        by_cases htl : t + 1 < k
        · obtain ⟨f, hrw, hfq⟩ := HLE.out.row
          have q0 := hrw.cell (i := t) (by omega)
          rw [hfq t (by omega)] at q0
          clear hrw hfq
          cases hu : usedR ns t with
          | true =>
            rw [hu] at q0
            have HU := kide hu
            clear hu
            have i1 : (t : Int) + 1 < (k : Int) := by omega
            go_wp2_with fail
            go_roundw
            case rel =>
              refine ⟨t + 1, by omega, by go_num, fun j hj => ?_, by first | rfl | trivial⟩
              by_cases e : j = t
              · rw [e]; exact HU.out
              · exact HALL.out j (by omega)
            case measure => simp [intOf]; omega
          | false =>
            rw [hu] at q0
            have HU := kide hu
            clear hu
            have i1 : (t : Int) + 1 < (k : Int) := by omega
            go_wp2_with fail
            go_ret
            refine ⟨_, rfl, ?_, HLE.out.bel⟩
            have h := HZ3.out
            rw [if_neg (by
              intro hh
              rw [List.all_eq_true] at hh
              have := hh t (by rw [List.mem_range]; omega)
              rw [HU.out] at this
              cases this)] at h
            rw [← h]
            exact HLE.out.none'
        · have i1 : ¬ (t : Int) + 1 < (k : Int) := by omega
          have hte : t = k - 1 := by omega
          have HTE := kide hte
          clear htl hte
          go_wp2_with fail
          go_ret
          refine ⟨_, rfl, ?_, HLE.out.bel⟩
          have h := HZ3.out
          rw [if_pos (by
            rw [List.all_eq_true]
            intro j hj
            rw [List.mem_range] at hj
            exact HALL.out j (by have := HTE.out; omega))] at h
          rw [← h]
          exact HOW.out.mono (by omega)

end Go.Proofs.YteenmffhbgpahaaDoor

/- The given l3Widths and WidthOf. -/
namespace Go.Proofs.YteenmffhbgpahaaDoor
set_option linter.unusedVariables false
set_option linter.unusedSimpArgs false
open Go.RowKit

theorem l3Widths_any (a b : Option Addr) (c c2 n : Nat) (ds : List Dc) (xs : List Tg) (w : World) (hr : RdD w a ds) (hs : RdT w b xs) (hn : xs.length = n) :
    Calls Tryd.prog 28 #[.slice a ds.length c, .agg #[.slice b n c2]] w fun e w' => ∃ v, e = .returned v ∧ OW w' (w.heap.size + 1) v (widthsR ds (xs.map Tg.ct)) ∧ Below w.heap.size w w' := by
  by_cases h : dclR ds = true ∧ 1 ≤ n ∧ n ≤ 400
  · exact l3Widths_yes a b c c2 n ds xs w hr hs hn h
  · exact l3Widths_no a b c c2 n ds xs w hr hs hn h

theorem goR_len {ds : List Dc} {wide out : List Int} {ns : List Tc} (h : goR ds wide ns = some out) : out.length = wide.length + ns.length ∧ ((∀ x ∈ wide, 1 ≤ x ∧ x ≤ 4096) → ∀ x ∈ out, 1 ≤ x ∧ x ≤ 4096) := by
  induction ns generalizing wide with
  | nil => rw [goR] at h; cases h; exact ⟨by simp, fun h => h⟩
  | cons n t ih =>
    rw [goR] at h
    cases hst : stepR ds wide n with
    | none => rw [hst] at h; cases h
    | some v =>
      rw [hst] at h
      obtain ⟨h1, h2⟩ := ih h
      refine ⟨by rw [h1]; simp; omega, fun hw => h2 (fun x hx => ?_)⟩
      rcases List.mem_append.1 hx with hx | hx
      · exact hw x hx
      · rw [List.mem_singleton.1 hx]; exact stepR_range hst

theorem widthsR_bounds (ds : List Dc) (ns : List Tc) : (widthsR ds ns).length ≤ 400 ∧ ∀ x ∈ widthsR ds ns, 1 ≤ x ∧ x ≤ 4096 := by
  unfold widthsR
  split
  · rename_i h
    simp only [Bool.and_eq_true, decide_eq_true_eq] at h
    cases hg : goR ds [] ns with
    | none => simp
    | some wide =>
      obtain ⟨h1, h2⟩ := goR_len hg
      simp only []
      split
      · exact ⟨by simp at h1; omega, h2 (by simp)⟩
      · simp
  · simp

/-- The width of a term; -1: it is not right. -/
def widR (ds : List Dc) (ns : List Tc) : Int := if (widthsR ds ns).length = 0 then -1 else (widthsR ds ns).getD ((widthsR ds ns).length - 1) 0

theorem specWidth_any (a b : Option Addr) (c c2 n : Nat) (ds : List Dc) (xs : List Tg) (w : World) (hr : RdD w a ds) (hs : RdT w b xs) (hn : xs.length = n) :
    Calls Tryd.prog 14 #[.slice a ds.length c, .agg #[.slice b n c2]] w fun e w' => e = .returned (.int .i64 (widR ds (xs.map Tg.ct))) ∧ Below w.heap.size w w' := by
  have HC := kide (l3Widths_any a b c c2 n ds xs)
  have hb0 : Below w.heap.size w (w.alloc (Obj.cells #[Value.slice b n c2] 33)) := (Below.refl _ _).alloc (Nat.le_refl _) _
  obtain ⟨hbl, hbd⟩ := widthsR_bounds ds (xs.map Tg.ct)
  have HA := kide (HC.out w hr hs hn)
  have HA' := kide (HC.out _ (hr.later hb0) (hs.later hb0) hn)
  unfold widR
  generalize widthsR ds (xs.map Tg.ct) = W at *
  have HBD := kide hbd
  have B0 := kide hb0
  clear HC hr hs hn hbd hb0
  generalize hZ : (if W.length = 0 then (-1 : Int) else W.getD (W.length - 1) 0) = Z
  have HZ := kide hZ
  clear hZ
  go_enter Tryd.func14, Tryd.ntmps14
  go_wp2_with fail
  first
    | refine Calls.mono HA'.out ?_
    | refine Calls.mono HA.out ?_
  rintro e w1 ⟨v, rfl, ho, hb1⟩
  obtain ⟨ya, yc, rfl, hrd⟩ := ho.rd (by omega) (fun x hx => by have := HBD.out x hx; unfold in64; omega)
  have HB1 : Hid (Below w.heap.size w w1) := by first | exact B0.out.trans (hb1.mono (by simp)) | exact hb1
  clear ho hb1 HA HA'
  by_cases h0 : W.length = 0
  · have h := HZ.out
    rw [if_pos h0] at h
    subst h
    rw [h0]
    clear HZ hrd
    go_wp2_with fail
    go_ret
    exact ⟨rfl, HB1.out⟩
  · have h := HZ.out
    rw [if_neg h0] at h
    obtain ⟨-, -, hn | ⟨b3, o3, rfl, hc3⟩⟩ := hrd
    · rw [hn] at h0; simp at h0
    have g0 := hc3 (W.length - 1) (by omega)
    rw [h] at g0
    obtain ⟨l, hl⟩ : ∃ l, W.length = l + 1 := ⟨W.length - 1, by omega⟩
    rw [hl] at g0 ⊢
    have hl4 : l ≤ 400 := by omega
    simp only [Nat.add_sub_cancel] at g0
    clear hc3 HZ h h0 HBD hbl hl
    go_wp2_with fail
    go_ret
    exact ⟨rfl, HB1.out⟩

end Go.Proofs.YteenmffhbgpahaaDoor

/- How many leaves the tree of a term has: plain facts. No program in sight. -/
namespace Go.Proofs.YteenmffhbgpahaaDoor
set_option linter.unusedVariables false
set_option linter.unusedSimpArgs false
open Go.RowKit

theorem getD_left {α : Type} (l m : List α) (i : Nat) (d : α) (h : i < l.length) : (l ++ m).getD i d = l.getD i d := by simp [List.getD, List.getElem?_append, h]
theorem getD_right {α : Type} (l m : List α) (i : Nat) (d : α) (h : l.length ≤ i) : (l ++ m).getD i d = m.getD (i - l.length) d := by simp [List.getD, List.getElem?_append, Nat.not_lt.2 h]

/-- What Kids have together. -/
def sK (ls : List Int) (ks : List Int) : Int := (ks.map fun k => ls.getD k.toNat 0).sum

/-- The leaves of a node by those of the nodes ahead of it. -/
def lvN (ls : List Int) (ks : List Int) : Int := min 1000000 ((if ks.length = 0 then 1 else 0) + sK ls ks)

def lvsR (ns : List Tc) : List Int := ns.foldl (fun ls n => ls ++ [lvN ls n.ks]) []

def leavesR (ds : List Dc) (ns : List Tc) : Int := if (widthsR ds ns).length = 0 then -1 else (lvsR ns).getD (ns.length - 1) 0

theorem lvs_take {ns : List Tc} {k : Nat} {n : Tc} (h : ns[k]? = some n) : lvsR (ns.take (k + 1)) = lvsR (ns.take k) ++ [lvN (lvsR (ns.take k)) n.ks] := by
  unfold lvsR
  rw [List.take_add_one, h, List.foldl_append]
  simp

theorem fold_len (ns : List Tc) : ∀ ls : List Int, (ns.foldl (fun ls n => ls ++ [lvN ls n.ks]) ls).length = ls.length + ns.length := by
  induction ns with
  | nil => simp
  | cons n t ih => intro ls; rw [List.foldl_cons, ih]; simp; omega

theorem lvs_len (ns : List Tc) : (lvsR ns).length = ns.length := by
  have := fold_len ns []
  simpa [lvsR] using this

theorem getD_range {ls : List Int} (h : ∀ x ∈ ls, 0 ≤ x ∧ x ≤ 1000000) (i : Nat) : 0 ≤ ls.getD i 0 ∧ ls.getD i 0 ≤ 1000000 := by
  by_cases hi : i < ls.length
  · have e : ls.getD i 0 = ls[i] := by simp [List.getD, hi]
    rw [e]; exact h _ (List.getElem_mem hi)
  · have e : ls.getD i 0 = 0 := by simp [List.getD, hi]
    omega

theorem sK_range {ls : List Int} (h : ∀ x ∈ ls, 0 ≤ x ∧ x ≤ 1000000) (ks : List Int) : 0 ≤ sK ls ks ∧ sK ls ks ≤ 1000000 * (ks.length : Int) := by
  induction ks with
  | nil => simp [sK]
  | cons k t ih =>
    have := getD_range h k.toNat
    simp only [sK, List.map_cons, List.sum_cons, List.length_cons] at ih ⊢
    omega

theorem lvN_range {ls : List Int} (h : ∀ x ∈ ls, 0 ≤ x ∧ x ≤ 1000000) (ks : List Int) : 0 ≤ lvN ls ks ∧ lvN ls ks ≤ 1000000 := by
  have := sK_range h ks
  unfold lvN
  split <;> omega

theorem fold_range (ns : List Tc) : ∀ ls : List Int, (∀ x ∈ ls, 0 ≤ x ∧ x ≤ 1000000) → ∀ x ∈ ns.foldl (fun ls n => ls ++ [lvN ls n.ks]) ls, 0 ≤ x ∧ x ≤ 1000000 := by
  induction ns with
  | nil => intro ls h; simpa using h
  | cons n t ih =>
    intro ls h
    rw [List.foldl_cons]
    refine ih _ (fun x hx => ?_)
    rcases List.mem_append.1 hx with hx | hx
    · exact h x hx
    · rw [List.mem_singleton.1 hx]; exact lvN_range h _

theorem lvs_range (ns : List Tc) : ∀ x ∈ lvsR ns, 0 ≤ x ∧ x ≤ 1000000 := fold_range ns [] (by simp)

theorem sK_take {ls ks : List Int} {i : Nat} {k : Int} (h : ks[i]? = some k) : sK ls (ks.take (i + 1)) = sK ls (ks.take i) + ls.getD k.toNat 0 := by
  unfold sK
  rw [List.take_add_one, h]
  simp

theorem goR_kids {ds : List Dc} : ∀ (ns : List Tc) (wide r : List Int), goR ds wide ns = some r → ∀ (k : Nat) (n : Tc), ns[k]? = some n → kidsR (wide.length + k) n.ks = true
  | [], _, _, _ => by simp
  | m :: t, wide, r, h => by
    rw [goR] at h
    cases hst : stepR ds wide m with
    | none => rw [hst] at h; cases h
    | some v =>
      rw [hst] at h
      intro k n hk
      cases k with
      | zero =>
        simp at hk
        subst hk
        have := stepR_kids hst
        simp only [Bool.and_eq_true] at this
        exact this.1.1
      | succ k =>
        have := goR_kids t _ r h k n (by simpa using hk)
        rw [show wide.length + (k + 1) = (wide ++ [v]).length + k by simp; omega]
        exact this

/-- In a right term Kids are ahead. -/
theorem right_kids {ds : List Dc} {ns : List Tc} (h : ¬ (widthsR ds ns).length = 0) : 1 ≤ ns.length ∧ ns.length ≤ 400 ∧ (widthsR ds ns).length = ns.length ∧ ∀ (k : Nat) (n : Tc), ns[k]? = some n → ∀ j ∈ n.ks, 0 ≤ j ∧ j < (k : Int) := by
  unfold widthsR at h ⊢
  split at h
  · rename_i hc
    simp only [Bool.and_eq_true, decide_eq_true_eq] at hc
    rw [if_pos (by simp [hc])]
    cases hg : goR ds [] ns with
    | none => rw [hg] at h; simp at h
    | some wide =>
      rw [hg] at h
      simp only [] at h ⊢
      split at h
      · rename_i hu
        rw [if_pos hu]
        refine ⟨hc.1.2, hc.2, by simpa using (goR_len hg).1, fun k n hk j hj => ?_⟩
        have := goR_kids ns [] wide hg k n hk
        simp only [List.length_nil, Nat.zero_add] at this
        unfold kidsR at this
        rw [List.all_eq_true] at this
        have := this j hj
        simp only [decide_eq_true_eq] at this
        omega
      · simp at h
  · simp at h

end Go.Proofs.YteenmffhbgpahaaDoor
