/- Several texts in one. -/
import Derived.Test.YtckidgpopbpagaaGreatDoorZGAI
import Derived.Handy
import Derived.Test.YtckidgpopbpagaaGreatDoorZGAF
import Derived.Test.YtckidgpopbpagaaGreatDoorFNW

/- The given l3Widths, where it goes on. -/
namespace Go.Proofs.YtckidgpopbpagaaGreatDoor
set_option linter.unusedVariables false
set_option linter.unusedSimpArgs false
open Go.RowKit

/-- What stays through the loops of l3Widths. -/
structure Lw (w : World) (b : Option Addr) (n c2 U : Nat) (q : Nat → Bool) (wr : World) : Prop where
  box : wr.heap[w.heap.size]? = some (.cells #[.slice b n c2] 33 (0, 0))
  non : wr.heap[w.heap.size + 1]? = some (.cells #[] 2 (0, 0))
  bel : Below w.heap.size w wr
  row : ∃ f, wr.rowIs U 4 n f ∧ ∀ j, j < n → f j = .bool (q j)

theorem Lw.lt {w : World} {b : Option Addr} {n c2 U : Nat} {q : Nat → Bool} {wr : World} (h : Lw w b n c2 U q wr) : U < wr.heap.size := by
  obtain ⟨f, ⟨cc, hh, -⟩, -⟩ := h.row
  exact lt_of_block hh

theorem Lw.cell {w : World} {b : Option Addr} {n c2 U : Nat} {q : Nat → Bool} {wr : World} (h : Lw w b n c2 U q wr) : wr.cell? ⟨w.heap.size, 0, none⟩ = some (.slice b n c2) := by
  simp [World.cell?, h.box]

theorem Lw.none' {w : World} {b : Option Addr} {n c2 U : Nat} {q : Nat → Bool} {wr : World} (h : Lw w b n c2 U q wr) : OW wr (w.heap.size + 1) (.slice (some ⟨w.heap.size + 1, 0, none⟩) 0 0) [] := ⟨rfl, .inr ⟨w.heap.size + 1, 0, #[], rfl, Nat.le_refl _, h.non, Nat.le_refl _, by unfold maxLen; omega, rfl, rfl⟩⟩

theorem Lw.later {w : World} {b : Option Addr} {n c2 U : Nat} {q : Nat → Bool} {wr wr' : World} (h : Lw w b n c2 U q wr) (hb : Below wr.heap.size wr wr') : Lw w b n c2 U q wr' where
  box := by rw [hb.block _ (lt_of_block h.box)]; exact h.box
  non := by rw [hb.block _ (lt_of_block h.non)]; exact h.non
  bel := h.bel.trans (hb.mono h.bel.size)
  row := by
    obtain ⟨f, hf, hq⟩ := h.row
    exact ⟨f, World.rowIs.of_block hf (hb.block _ h.lt), hq⟩

/-- .. through an append to a row of whole numbers that lies higher. -/
theorem Lw.grown {w : World} {b : Option Addr} {n c2 U B : Nat} {q : Nat → Bool} {wr wr' : World} {v : Value} {xs : List Int} (h : Lw w b n c2 U q wr) (ho : OW wr B v xs) (hB : w.heap.size + 1 < B) (hg : wr.grownBy wr' v.ownBlock) : Lw w b n c2 U q wr' where
  box := by rw [hg.block _ (lt_of_block h.box) (fun e => by have := ho.lt e.symm; omega)]; exact h.box
  non := by rw [hg.block _ (lt_of_block h.non) (fun e => by have := ho.lt e.symm; omega)]; exact h.non
  bel := ⟨hg.os.trans h.bel.os, hg.tape.trans h.bel.tape, hg.output.trans h.bel.output, Nat.le_trans h.bel.size hg.size, fun k hk => (hg.block k (Nat.lt_of_lt_of_le hk h.bel.size) (fun e => by have := ho.lt e.symm; omega)).trans (h.bel.block k hk)⟩
  row := by
    obtain ⟨f, ⟨cc, hh, h1, h2⟩, hq⟩ := h.row
    refine ⟨f, World.rowIs.of_block ⟨cc, hh, h1, h2⟩ (hg.block _ (lt_of_block hh) ?_), hq⟩
    exact ho.typed hh (by decide)

/-- .. where a place of the row of flags is set. -/
theorem Lw.mark {w : World} {b : Option Addr} {n c2 U : Nat} {q : Nat → Bool} {wr : World} (h : Lw w b n c2 U q wr) (hU : w.heap.size + 1 < U) (m : Nat) : Lw w b n c2 U (fun j => if j = m then true else q j) (wr.setCell ⟨U, m, none⟩ (.bool true)) where
  box := by rw [heap_setCell_other _ _ _ _ (by simp; omega)]; exact h.box
  non := by rw [heap_setCell_other _ _ _ _ (by simp; omega)]; exact h.non
  bel := h.bel.setCell (by simp; omega) _
  row := by
    obtain ⟨f, hf, hq⟩ := h.row
    refine ⟨_, World.rowIs.set hf m (.bool true), fun j hj => ?_⟩
    by_cases e : j = m
    · simp [e]
    · simp [e, hq j hj]

theorem OW.mono {w : World} {B B' : Nat} {v : Value} {xs : List Int} (h : OW w B v xs) (hB : B' ≤ B) : OW w B' v xs := by
  refine ⟨h.1, ?_⟩
  rcases h.2 with h | ⟨g, cap, cur, h1, h2, h3⟩
  · exact .inl h
  · exact .inr ⟨g, cap, cur, h1, Nat.le_trans hB h2, h3⟩

theorem OW.mark {w : World} {B : Nat} {v : Value} {xs : List Int} (h : OW w B v xs) {U : Nat} {f : Nat → Value} {n : Nat} (hr : w.rowIs U 4 n f) (i : Nat) (x : Value) : OW (w.setCell ⟨U, i, none⟩ x) B v xs := by
  obtain ⟨cc, hh, -⟩ := hr
  have hne := h.typed hh (by decide)
  refine World.ownsRow.kept (row := some U) h ⟨rfl, rfl, rfl, by simp, fun k hk hn => heap_setCell_other _ _ _ _ (fun e => hn (by simp at e; rw [e]))⟩ (.inr (fun e => hne e.symm))

end Go.Proofs.YtckidgpopbpagaaGreatDoor

/- The given l3Widths, where it goes on: the loops. -/
namespace Go.Proofs.YtckidgpopbpagaaGreatDoor
set_option linter.unusedVariables false
set_option linter.unusedSimpArgs false
open Go.RowKit

set_option maxHeartbeats 1000000 in
theorem l3Widths_yes (a b : Option Addr) (c c2 n : Nat) (ds : List Dc) (xs : List Tg) (w : World) (hr : RdD w a ds) (hs : RdT w b xs) (hn : xs.length = n) (hok : dclR ds = true ∧ 1 ≤ n ∧ n ≤ 400) :
    Calls Tryz.prog 36 #[.slice a ds.length c, .agg #[.slice b n c2]] w fun e w' => ∃ v, e = .returned v ∧ OW w' (w.heap.size + 1) v (widthsR ds (xs.map Tg.ct)) ∧ Below w.heap.size w w' := by
  have hl1 := hr.1
  have hl2 := hs.1
  rw [hn] at hl2
  have HR := kide hr
  have HS := kide hs
  have HN := kide hn
  have hb1 : Below w.heap.size w (w.alloc (Obj.cells #[Value.slice b n c2] 33)) := (Below.refl _ _).alloc (Nat.le_refl _) _
  have hb2 : Below w.heap.size w ((w.alloc (Obj.cells #[Value.slice b n c2] 33)).alloc (Obj.cells #[] 2)) := hb1.alloc (by simp) _
  have B2 := kide hb2
  have HDK := kide (fun u (hu : Below w.heap.size w u) => specDecls_any a c ds u (hr.later hu))
  generalize hZ : widthsR ds (xs.map Tg.ct) = Z
  have HZ := kide hZ
  clear hr hs hn hb1 hb2 hZ
  go_enter Tryz.func36, Tryz.ntmps36
  go_wp2_with fail
  refine Calls.mono (HDK.out _ B2.out) ?_
  rintro e w1 ⟨rfl, hb1⟩
  have c1 := kcell hb1 w.heap.size 0 (by simp; omega)
  have n1 : w1.heap[w.heap.size + 1]? = some (.cells #[] 2 (0, 0)) := by
    rw [hb1.block _ (by simp)]
    have h := heap_alloc_new (w.alloc (Obj.cells #[Value.slice b n c2] 33)) (Obj.cells #[] 2)
    simpa using h
  have B1 := kide (B2.out.trans (hb1.mono B2.out.size))
  have HBX : Hid (w1.heap[w.heap.size]? = some (.cells #[.slice b n c2] 33 (0, 0))) := by
    show w1.heap[w.heap.size]? = _
    rw [hb1.block _ (by simp; omega)]
    have h := heap_alloc_new w (Obj.cells #[Value.slice b n c2] 33)
    rw [← h]
    exact ((Below.refl _ _).alloc (B := (w.alloc (Obj.cells #[Value.slice b n c2] 33)).heap.size) (Nat.le_refl _) _).block _ (by simp)
  have z1 : w.heap.size + 1 < w1.heap.size := lt_of_block n1
  have zz : w.heap.size < w1.heap.size := by omega
  simp at c1
  clear hb1 B2
  have ON1 : Hid (OW w1 (w.heap.size + 1) (.slice (some ⟨w.heap.size + 1, 0, none⟩) 0 0) []) := ⟨rfl, .inr ⟨w.heap.size + 1, 0, #[], rfl, Nat.le_refl _, n1, Nat.le_refl _, by unfold maxLen; omega, rfl, rfl⟩⟩
  obtain ⟨hd, hn1, hn4⟩ := hok
  rw [hd]
  have hmk := fun kl kc w => run_make_row' (P := Tryz.prog) 96 4 (.bool false) 1 Tryz.underlying96 Tryz.infoBool rfl kl kc n (by omega) (by omega) w
  have HD := kide hd
  clear hd
  go_wp2_with fail
  generalize hNS : xs.map Tg.ct = ns at *
  have HNS := kide hNS
  have hnl : ns.length = n := by rw [← hNS, List.length_map]; exact HN.out
  have HNL := kide hnl
  have hok2 : (match goR ds [] ns with
    | none => []
    | some wide => if (List.range (n - 1)).all (usedR ns) = true then wide else []) = Z := by
    have h := HZ.out
    rw [widthsR, if_pos (by simp only [Bool.and_eq_true, decide_eq_true_eq, hnl]; exact ⟨⟨HD.out, hn1⟩, hn4⟩), hnl] at h
    exact h
  have HOK2 := kide hok2
  clear hok2 HZ HDK hNS hnl
  have ob3 : Below w1.heap.size w1 ((w1.alloc (Obj.cells #[] 2)).alloc (Obj.cells (madeCells #[Value.bool false] n) 4)) := ((Below.refl _ _).alloc (Nat.le_refl _) _).alloc (by simp) _
  have hrow := krow (heap_alloc_new (w1.alloc (Obj.cells #[] 2)) (.cells (madeCells #[Value.bool false] n) 4))
  rw [size_madeCells] at hrow
  have hx1 : w1.heap[w.heap.size]? = some (.cells #[.slice b n c2] 33 (0, 0)) := HBX.out
  have L0 : Hid (Lw w b n c2 (w1.heap.size + 1) (usedR (ns.take 0)) ((w1.alloc (Obj.cells #[] 2)).alloc (Obj.cells (madeCells #[Value.bool false] n) 4))) := by
    refine ⟨by rw [ob3.block _ zz]; exact hx1, by rw [ob3.block _ z1]; exact n1, B1.out.trans (ob3.mono B1.out.size), ⟨_, by simpa using hrow, fun j hj => ?_⟩⟩
    have e : (madeCells #[Value.bool false] n)[j]? = some (.bool false) := by simp [madeCells, hj, Nat.mod_one]
    simp [usedR, e]
  have W0 : Hid (OW ((w1.alloc (Obj.cells #[] 2)).alloc (Obj.cells (madeCells #[Value.bool false] n) 4)) w1.heap.size (.slice (some ⟨w1.heap.size, 0, none⟩) 0 0) []) := (OW.fresh w1 w1.heap.size (Nat.le_refl _)).later ((Below.refl _ _).alloc (Nat.le_refl _) _)
  generalize (w1.alloc (Obj.cells #[] 2)).alloc (Obj.cells (madeCells #[Value.bool false] n) 4) = w3 at *
  clear hrow ob3 hmk c1 n1 ON1 hx1 HBX
  have zU : w.heap.size + 1 < w1.heap.size + 1 := by omega
  generalize hU : w1.heap.size + 1 = U at *
  generalize hG : goR ds [] ns = G at *
  have HG := kide hG
  clear hG
  go_loopw [6, 8] (fun l i wr => ∃ (k : Nat) (wide : List Int), k ≤ n ∧ i = .int .i64 (k : Int) ∧ OW wr w1.heap.size l wide ∧ wide.length = k ∧ (∀ x ∈ wide, 1 ≤ x ∧ x ≤ 4096) ∧ goR ds wide (ns.drop k) = G ∧ Lw w b n c2 U (usedR (ns.take k)) wr ∧ w1.heap.size ≤ wr.heap.size) (fun _ i _ => n - (intOf i).toNat)
  case atStart => exact ⟨0, [], Nat.zero_le _, rfl, W0.out, rfl, by simp, HG.out, L0.out, by have := L0.out.lt; omega⟩
  case round =>
    obtain ⟨k, wide, hk, rfl, hown, hwl, hwd, hgo, hlw, hsz⟩ := hrel
    have HOW := kide hown
    have HWL := kide hwl
    have HWD := kide hwd
    have HGO := kide hgo
    have HLW := kide hlw
    have cb := hlw.cell
    obtain ⟨ya, yc, rfl, hyr⟩ := hown.rd (by omega) (fun x hx => by have := hwd x hx; unfold in64; omega)
    have HYR := kide hyr
    clear hyr
    by_cases hlt : k < n
    · obtain ⟨-, h | ⟨b2, o2, rfl, hc2⟩⟩ := HS.out
      · have := HN.out; subst h; simp at this; omega
      obtain ⟨⟨s1, wa, wc, ka, kc⟩, gx⟩ : ∃ x, xs[k]? = some x := ⟨xs[k]'(by rw [HN.out]; exact hlt), List.getElem?_eq_getElem _⟩
      have gn : ns[k]? = some s1 := by rw [← HNS.out, List.getElem?_map, gx]; rfl
      obtain ⟨⟨p0, p1, p2, p3, p4, p5, p6⟩, pr, pi, p64⟩ := (hc2 k _ gx).later hlw.bel
      simp only [Tg.hd] at p0 p1 p2 p3 p4 p5 p6 pr pi p64
      have HFM := kide (l3Form_any a ds.length c k s1 wa ka wc kc wr pr pi (by omega) hl1)
      have GN := kide gn
      have P64 := kide p64
      have PR := kide (fun u (hu : Below wr.heap.size wr u) => pr.later hu)
      have PI := kide (fun u (hu : Below wr.heap.size wr u) => pi.later hu)
      have HC0 := kide (hc2 k _ gx)
      have HCT := kide (fun u (hu : Below wr.heap.size wr u) => (hc2 k _ gx).later (hlw.bel.trans (hu.mono hlw.bel.size)))
      generalize hV : (kidsR k s1.ks && fieldR s1 && manyR ds.length s1) = V at *
      have HV := kide hV
      have i0 : (k : Int) < (n : Int) := by omega
      clear hV hc2 gx gn p64 pr pi hown hwl hwd hgo hlw
      go_wp2_with fail
      refine Calls.mono HFM.out ?_
      rintro e w4 ⟨rfl, hb4⟩
      have L4 := kide (HLW.out.later hb4)
      have O4 := kide (HOW.out.later hb4)
      have cb4 := L4.out.cell
      cases V with
      | false =>
        clear hb4 HFM
        go_wp2_with fail
        go_ret
        refine ⟨_, rfl, ?_, L4.out.bel⟩
        have hst : stepR ds wide s1 = none := by
          unfold stepR
          rw [HWL.out, HV.out]
          rfl
        have hz := HOK2.out
        rw [← HGO.out, goR_none GN.out hst] at hz
        rw [← hz]
        exact L4.out.none'
      | true =>
        obtain ⟨⟨p0, p1, p2, p3, p4, p5, p6⟩, -⟩ := HCT.out w4 hb4
        simp only [Tg.hd] at p0 p1 p2 p3 p4 p5 p6
        have hkk : kidsR wide.length s1.ks = true := by
          have h := HV.out
          simp only [Bool.and_eq_true] at h
          rw [HWL.out]; exact h.1.1
        have hvv : s1.op = 1 → 0 ≤ s1.vr ∧ s1.vr ≤ (ds.length : Int) - 1 := by
          have h := HV.out
          simp only [Bool.and_eq_true] at h
          exact manyR_var h.2
        have HWI := kide (l3Wide_any a c ds s1 wa ka ya wc kc yc wide w4 (HR.out.later L4.out.bel) (PR.out w4 hb4) (PI.out w4 hb4) (HYR.out.later hb4) HWD.out hkk hvv P64.out.2.2.1 P64.out.2.2.2.1)
        have PR4 := kide (fun u (hu : Below w4.heap.size w4 u) => (PI.out w4 hb4).later hu)
        have HCT4 := kide (fun u (hu : Below w4.heap.size w4 u) => (HCT.out w4 hb4).later hu)
        clear hb4 HFM hkk hvv HCT PR PI HYR
        generalize hX : wideR ds s1 (sumR wide s1.ks 0) = X at *
        have HX := kide hX
        clear hX
        go_wp2_with fail
        refine Calls.mono HWI.out ?_
        rintro e w5 ⟨rfl, hb5⟩
        have L5 := kide (L4.out.later hb5)
        have O5 := kide (O4.out.later hb5)
        have cb5 := L5.out.cell
        have HCT5 := kide (HCT4.out w5 hb5)
        have PI5 := kide (PR4.out w5 hb5)
        clear hb5 HWI cb4 L4 O4 HCT4 PR4
        have HLI := kide (fun u => l1In_any X 1 4096 u)
        by_cases hX1 : 1 ≤ X ∧ X ≤ 4096
        · rw [decide_eq_true hX1] at HLI
          have hst : stepR ds wide s1 = some X := by
            unfold stepR
            rw [HWL.out, HV.out, HX.out, if_pos rfl, if_pos hX1]
          have HST := kide hst
          have HX1 := kide hX1
          have hz5 : w1.heap.size ≤ w5.heap.size := by have := L5.out.lt; omega
          have hwl2 : wide.length ≤ 1073741824 := by have := HWL.out; omega
          clear hst hX1
          go_wp2_with (first | (go_at_call 53; refine Calls.mono (HLI.out _) ?_; rintro e w6 ⟨rfl, rfl⟩) | (at_builtin; refine wpList_appW rfl _ _ rfl w1.heap.size _ wide X rfl (World.ownsRow.alloc O5.out _) _ rfl (by simp) hwl2 (by simp; omega) ?_))
          intro v7 w7 hos hg
          have L7 := kide ((L5.out.later ((Below.refl _ _).alloc (Nat.le_refl _) (Obj.cells #[Value.int .i64 X] 2))).grown (World.ownsRow.alloc O5.out _) (by omega) hg)
          have O7 := kide hos
          clear hos hg L5 O5 cb5 HCT5 PI5 HLI
          have cb7 := L7.out.cell
          go_wp2_with fail
          have hkb : ∀ y ∈ s1.ks, 0 ≤ y ∧ y ≤ (k : Int) - 1 := by
            have h := HV.out
            simp only [Bool.and_eq_true] at h
            have h1 := h.1.1
            rw [kidsR, List.all_eq_true] at h1
            intro y hy
            simpa using h1 y hy
          have HKB := kide hkb
          have hks : s1.ks.length ≤ 1048576 := HC0.out.2.2.1.1
          clear hkb cb7 cb p0 p1 p2 p3 p4 p5 p6
          obtain ⟨wo, hwo⟩ : ∃ wo, wo = wr := ⟨_, rfl⟩
          subst hwo
          clear HOW HLW
          go_loopw [10] (fun i wr => ∃ t : Nat, t ≤ s1.ks.length ∧ i = .int .i64 (t : Int) ∧ OW wr w1.heap.size v7 (wide ++ [X]) ∧ Lw w (some ⟨b2, o2, none⟩) n c2 U (fun j => usedR (ns.take k) j || (s1.ks.take t).any (fun y => decide (y = (j : Int)))) wr) (fun i _ => s1.ks.length - (intOf i).toNat)
          case atStart => exact ⟨0, Nat.zero_le _, rfl, O7.out, by simpa using L7.out⟩
          case round =>
            obtain ⟨t, ht, rfl, hot, hlt2⟩ := hrel
            have HOT := kide hot
            have HLT := kide hlt2
            have cbt := hlt2.cell
            obtain ⟨⟨-, -, -, -, -, -, p6⟩, -, pi, -⟩ := HC0.out.later hlt2.bel
            simp only [Tg.hd] at p6 pi
            clear hot
            by_cases htl : t < s1.ks.length
            · obtain ⟨-, -, h | ⟨b3, o3, rfl, hc3⟩⟩ := pi
              · rw [h] at htl; simp at htl
              have g0 := hc3 t htl
              have hym : s1.ks.getD t 0 ∈ s1.ks := by
                have : s1.ks.getD t 0 = s1.ks[t] := by simp [List.getD, htl]
                rw [this]; exact List.getElem_mem htl
              have hyb := HKB.out _ hym
              have hgt : s1.ks[t]? = some (s1.ks.getD t 0) := by simp [List.getD, htl]
              have HGT := kide hgt
              clear hc3 hym hgt
              generalize s1.ks.getD t 0 = y at *
              obtain ⟨m, rfl⟩ : ∃ m : Nat, y = (m : Int) := ⟨y.toNat, by omega⟩
              have hm : m < n := by omega
              obtain ⟨f, hrw, hfq⟩ := hlt2.row
              have q0 := hrw.cell (i := m) hm
              have r0 := hrw.frozen m
              have HRW := kide hrw
              have j0 : (t : Int) < (s1.ks.length : Int) := by omega
              clear hrw hfq hlt2 hyb
              generalize f m = fm at q0
              go_wp2_with fail
              go_roundw
              case rel =>
                refine ⟨t + 1, by omega, by go_num, HOT.out.mark HRW.out _ _, ?_⟩
                have h := HLT.out.mark (by omega) m
                refine cast ?_ h
                congr 1
                funext j
                rw [List.take_add_one, HGT.out, List.any_append]
                by_cases e : j = m
                · subst e; simp
                · have e2 : ¬ ((m : Int) = (j : Int)) := by omega
                  simp [e, e2]
              case measure => simp [intOf]; omega
            · have e : t = s1.ks.length := by omega
              subst e
              clear hlt2 pi
              go_wp2_with fail
              have hzU := HLT.out.lt
              refine ⟨⟨k + 1, wide ++ [X], by omega, by go_num, HOT.out, by simp [HWL.out], ?_, ?_, ?_, by omega⟩, ?_⟩
              · intro x hx
                rcases List.mem_append.1 hx with hx | hx
                · exact HWD.out x hx
                · rw [List.mem_singleton.1 hx]; exact HX1.out
              · rw [← goR_some GN.out HST.out]; exact HGO.out
              · have h := HLT.out
                rw [List.take_length] at h
                refine cast ?_ h
                congr 1
                funext j
                rw [List.take_add_one, GN.out]
                simp [usedR, List.any_append]
              · simp [intOf]; omega
        · rw [decide_eq_false hX1] at HLI
          have HX1 := kide hX1
          clear hX1
          go_wp2_with (go_at_call 53; refine Calls.mono (HLI.out _) ?_; rintro e w6 ⟨rfl, rfl⟩)
          go_ret
          refine ⟨_, rfl, ?_, L5.out.bel⟩
          have hst : stepR ds wide s1 = none := by
            unfold stepR
            rw [HWL.out, HV.out, HX.out, if_pos rfl, if_neg HX1.out]
          have hz := HOK2.out
          rw [← HGO.out, goR_none GN.out hst] at hz
          rw [← hz]
          exact L5.out.none'
    · have e : k = n := by omega
      subst e
      have hgo2 : G = some wide := by
        have h := HGO.out
        have hl := HNL.out
        rw [List.drop_of_length_le (by omega), goR] at h
        exact h.symm
      have hL := HLW.out
      rw [List.take_of_length_le (by have := HNL.out; omega)] at hL
      have HLE := kide hL
      have hz := HOK2.out
      rw [hgo2] at hz
      simp only [] at hz
      have HZ3 := kide hz
      clear hz hgo2 hL hown hwl hwd hgo hlw
      go_wp2_with fail
      obtain ⟨wo, hwo⟩ : ∃ wo, wo = wr := ⟨_, rfl⟩
      subst hwo
      go_loopw [11] (fun i wr => ∃ t : Nat, t ≤ k - 1 ∧ i = .int .i64 (t : Int) ∧ (∀ j, j < t → usedR ns j = true) ∧ wr = wo) (fun i _ => k - (intOf i).toNat)
      case atStart => exact ⟨0, Nat.zero_le _, rfl, fun j hj => by omega, rfl⟩
      case round =>
        obtain ⟨t, ht, rfl, hall, rfl⟩ := hrel
        have HALL := kide hall
        clear hall
        by_cases htl : t + 1 < k
        · obtain ⟨f, hrw, hfq⟩ := HLE.out.row
          have q0 := hrw.cell (i := t) (by omega)
          rw [hfq t (by omega)] at q0
          clear hrw hfq
          cases hu : usedR ns t with
          | true =>
            rw [hu] at q0
            have HU := kide hu
            clear hu
            have i1 : (t : Int) + 1 < (k : Int) := by omega
            go_wp2_with fail
            go_roundw
            case rel =>
              refine ⟨t + 1, by omega, by go_num, fun j hj => ?_, by first | rfl | trivial⟩
              by_cases e : j = t
              · rw [e]; exact HU.out
              · exact HALL.out j (by omega)
            case measure => simp [intOf]; omega
          | false =>
            rw [hu] at q0
            have HU := kide hu
            clear hu
            have i1 : (t : Int) + 1 < (k : Int) := by omega
            go_wp2_with fail
            go_ret
            refine ⟨_, rfl, ?_, HLE.out.bel⟩
            have h := HZ3.out
            rw [if_neg (by
              intro hh
              rw [List.all_eq_true] at hh
              have := hh t (by rw [List.mem_range]; omega)
              rw [HU.out] at this
              cases this)] at h
            rw [← h]
            exact HLE.out.none'
        · have i1 : ¬ (t : Int) + 1 < (k : Int) := by omega
          have hte : t = k - 1 := by omega
          have HTE := kide hte
          clear htl hte
          go_wp2_with fail
          go_ret
          refine ⟨_, rfl, ?_, HLE.out.bel⟩
          have h := HZ3.out
          rw [if_pos (by
            rw [List.all_eq_true]
            intro j hj
            rw [List.mem_range] at hj
            exact HALL.out j (by have := HTE.out; omega))] at h
          rw [← h]
          exact HOW.out.mono (by omega)

end Go.Proofs.YtckidgpopbpagaaGreatDoor

/- The given l3Widths and WidthOf. -/
namespace Go.Proofs.YtckidgpopbpagaaGreatDoor
set_option linter.unusedVariables false
set_option linter.unusedSimpArgs false
open Go.RowKit

theorem l3Widths_any (a b : Option Addr) (c c2 n : Nat) (ds : List Dc) (xs : List Tg) (w : World) (hr : RdD w a ds) (hs : RdT w b xs) (hn : xs.length = n) :
    Calls Tryz.prog 36 #[.slice a ds.length c, .agg #[.slice b n c2]] w fun e w' => ∃ v, e = .returned v ∧ OW w' (w.heap.size + 1) v (widthsR ds (xs.map Tg.ct)) ∧ Below w.heap.size w w' := by
  by_cases h : dclR ds = true ∧ 1 ≤ n ∧ n ≤ 400
  · exact l3Widths_yes a b c c2 n ds xs w hr hs hn h
  · exact l3Widths_no a b c c2 n ds xs w hr hs hn h

theorem goR_len {ds : List Dc} {wide out : List Int} {ns : List Tc} (h : goR ds wide ns = some out) : out.length = wide.length + ns.length ∧ ((∀ x ∈ wide, 1 ≤ x ∧ x ≤ 4096) → ∀ x ∈ out, 1 ≤ x ∧ x ≤ 4096) := by
  induction ns generalizing wide with
  | nil => rw [goR] at h; cases h; exact ⟨by simp, fun h => h⟩
  | cons n t ih =>
    rw [goR] at h
    cases hst : stepR ds wide n with
    | none => rw [hst] at h; cases h
    | some v =>
      rw [hst] at h
      obtain ⟨h1, h2⟩ := ih h
      refine ⟨by rw [h1]; simp; omega, fun hw => h2 (fun x hx => ?_)⟩
      rcases List.mem_append.1 hx with hx | hx
      · exact hw x hx
      · rw [List.mem_singleton.1 hx]; exact stepR_range hst

theorem widthsR_bounds (ds : List Dc) (ns : List Tc) : (widthsR ds ns).length ≤ 400 ∧ ∀ x ∈ widthsR ds ns, 1 ≤ x ∧ x ≤ 4096 := by
  unfold widthsR
  split
  · rename_i h
    simp only [Bool.and_eq_true, decide_eq_true_eq] at h
    cases hg : goR ds [] ns with
    | none => simp
    | some wide =>
      obtain ⟨h1, h2⟩ := goR_len hg
      simp only []
      split
      · exact ⟨by simp at h1; omega, h2 (by simp)⟩
      · simp
  · simp

/-- The width of a term; -1: it is not right. -/
def widR (ds : List Dc) (ns : List Tc) : Int := if (widthsR ds ns).length = 0 then -1 else (widthsR ds ns).getD ((widthsR ds ns).length - 1) 0

theorem specWidth_any (a b : Option Addr) (c c2 n : Nat) (ds : List Dc) (xs : List Tg) (w : World) (hr : RdD w a ds) (hs : RdT w b xs) (hn : xs.length = n) :
    Calls Tryz.prog 23 #[.slice a ds.length c, .agg #[.slice b n c2]] w fun e w' => e = .returned (.int .i64 (widR ds (xs.map Tg.ct))) ∧ Below w.heap.size w w' := by
  have HC := kide (l3Widths_any a b c c2 n ds xs)
  have hb0 : Below w.heap.size w (w.alloc (Obj.cells #[Value.slice b n c2] 33)) := (Below.refl _ _).alloc (Nat.le_refl _) _
  obtain ⟨hbl, hbd⟩ := widthsR_bounds ds (xs.map Tg.ct)
  have HA := kide (HC.out w hr hs hn)
  have HA' := kide (HC.out _ (hr.later hb0) (hs.later hb0) hn)
  unfold widR
  generalize widthsR ds (xs.map Tg.ct) = W at *
  have HBD := kide hbd
  have B0 := kide hb0
  clear HC hr hs hn hbd hb0
  generalize hZ : (if W.length = 0 then (-1 : Int) else W.getD (W.length - 1) 0) = Z
  have HZ := kide hZ
  clear hZ
  go_enter Tryz.func23, Tryz.ntmps23
  go_wp2_with fail
  first
    | refine Calls.mono HA'.out ?_
    | refine Calls.mono HA.out ?_
  rintro e w1 ⟨v, rfl, ho, hb1⟩
  obtain ⟨ya, yc, rfl, hrd⟩ := ho.rd (by omega) (fun x hx => by have := HBD.out x hx; unfold in64; omega)
  have HB1 : Hid (Below w.heap.size w w1) := by first | exact B0.out.trans (hb1.mono (by simp)) | exact hb1
  clear ho hb1 HA HA'
  by_cases h0 : W.length = 0
  · have h := HZ.out
    rw [if_pos h0] at h
    subst h
    rw [h0]
    clear HZ hrd
    go_wp2_with fail
    go_ret
    exact ⟨rfl, HB1.out⟩
  · have h := HZ.out
    rw [if_neg h0] at h
    obtain ⟨-, -, hn | ⟨b3, o3, rfl, hc3⟩⟩ := hrd
    · rw [hn] at h0; simp at h0
    have g0 := hc3 (W.length - 1) (by omega)
    rw [h] at g0
    obtain ⟨l, hl⟩ : ∃ l, W.length = l + 1 := ⟨W.length - 1, by omega⟩
    rw [hl] at g0 ⊢
    have hl4 : l ≤ 400 := by omega
    simp only [Nat.add_sub_cancel] at g0
    clear hc3 HZ h h0 HBD hbl hl
    go_wp2_with fail
    go_ret
    exact ⟨rfl, HB1.out⟩

end Go.Proofs.YtckidgpopbpagaaGreatDoor

/- The program's countKids. -/
namespace Go.Proofs.YtckidgpopbpagaaGreatDoor
set_option linter.unusedVariables false
set_option linter.unusedSimpArgs false
open Go.RowKit

/-- How often a place stands among kids. -/
def cntR (ks : List Int) (j : Nat) : Nat := ks.countP (fun y => decide (y = (j : Int)))

/-- A row of counts. -/
def Cn (w : World) (P N : Nat) (q : Nat → Nat) : Prop := ∃ f, w.rowIs P 2 N f ∧ ∀ j, j < N → f j = .int .i64 ((q j : Nat) : Int)

theorem Cn.later {w w' : World} {P N : Nat} {q : Nat → Nat} (h : Cn w P N q) (hb : Below w.heap.size w w') : Cn w' P N q := by
  obtain ⟨f, ⟨cc, hh, h1, h2⟩, hq⟩ := h
  exact ⟨f, World.rowIs.of_block ⟨cc, hh, h1, h2⟩ (hb.block _ (lt_of_block hh)), hq⟩

set_option maxHeartbeats 1000000 in
theorem countKids_any (P N k cp kc M : Nat) (q : Nat → Nat) (ka : Option Addr) (ks : List Int) (w : World) (hc : Cn w P N q) (hk : k ≤ N) (hN : N ≤ 1048576) (hq : ∀ j, q j ≤ M) (hM : M ≤ 1000000000000) (hr : RdI w ka ks) (hf : ∀ b o sp, ka = some ⟨b, o, sp⟩ → b ≠ P) :
    Calls Tryz.prog 60 #[.slice (some ⟨P, 0, none⟩) k cp, .slice ka ks.length kc] w fun e w' => e = .returned (.bool (kidsR k ks)) ∧ (kidsR k ks = true → Cn w' P N (fun j => q j + cntR ks j)) ∧ w.grownBy w' (some P) := by
  have hl := hr.1
  have HF := kide hf
  have HQ := kide hq
  clear hf hq
  generalize hZ : kidsR k ks = Z
  have HZ := kide hZ
  clear hZ
  go_enter Tryz.func60, Tryz.ntmps60
  go_wp2_with fail
  go_loopw [9] (fun i wr => ∃ t : Nat, t ≤ ks.length ∧ i = .int .i64 (t : Int) ∧ kidsR k (ks.take t) = true ∧ Cn wr P N (fun j => q j + cntR (ks.take t) j) ∧ w.grownBy wr (some P)) (fun i _ => ks.length - (intOf i).toNat)
  case atStart => exact ⟨0, Nat.zero_le _, rfl, by simp [kidsR], by simpa [cntR] using hc, ⟨rfl, rfl, rfl, Nat.le_refl _, fun _ _ _ => rfl⟩⟩
  case round =>
    obtain ⟨t, ht, rfl, hkr, hcn, hg⟩ := hrel
    have HKR := kide hkr
    have HCN := kide hcn
    have HG := kide hg
    clear hkr
    by_cases htl : t < ks.length
    · obtain ⟨-, -, h | ⟨b, o, rfl, hc3⟩⟩ := hr
      · subst h; simp at htl
      have hbP : b ≠ P := HF.out b o none rfl
      have g0 := hc3 t htl
      rw [← World.cell?_of_block (w := w) (w' := wr) (a := ⟨b, o + t, none⟩) (hg.block b (block_lt_of_cell g0) (fun e => hbP (by cases e; rfl)))] at g0
      have hgt : ks[t]? = some (ks.getD t 0) := by simp [List.getD, htl]
      have HGT := kide hgt
      clear hgt hc3 hg
      generalize ks.getD t 0 = y at *
      have i0 : (t : Int) < (ks.length : Int) := by omega
      by_cases hy : 0 ≤ y ∧ y ≤ (k : Int) - 1
      · obtain ⟨m, rfl⟩ : ∃ m : Nat, y = (m : Int) := ⟨y.toNat, by omega⟩
        have hm : m < k := by omega
        obtain ⟨f, hrw, hfq⟩ := hcn
        have q0 := hrw.cell (i := m) (by omega)
        have r0 := hrw.frozen m
        have q1 : wr.cell? ⟨P, m, none⟩ = some (.int .i64 ((q m + cntR (ks.take t) m : Nat) : Int)) := by rw [q0, hfq m (by omega)]
        clear q0
        have hqb : q m + cntR (ks.take t) m ≤ 2000000000000 := by
          have h1 := HQ.out m
          have h2 : cntR (ks.take t) m ≤ (ks.take t).length := List.countP_le_length
          rw [List.length_take] at h2
          omega
        have HRW := kide hrw
        have HFQ := kide hfq
        generalize hS : q m + cntR (ks.take t) m = S at *
        have HSS := kide hS
        clear hrw hfq hy hS
        go_wp2_with fail
        go_roundw
        case rel =>
          refine ⟨t + 1, by omega, by go_num, ?_, ⟨_, World.rowIs.set HRW.out m (.int .i64 ((S : Int) + 1)), fun j hj => ?_⟩, ?_⟩
          · rw [List.take_add_one, HGT.out, kidsR, List.all_append]
            have := HKR.out
            rw [kidsR] at this
            rw [this]
            simp
            omega
          · have hcj : cntR (ks.take (t + 1)) j = cntR (ks.take t) j + (if m = j then 1 else 0) := by
              unfold cntR
              rw [List.take_add_one, HGT.out, List.countP_append]
              by_cases e : m = j
              · subst e; simp
              · have e2 : ¬ ((m : Int) = (j : Int)) := by omega
                simp [e, e2]
            show (if j = m then _ else _) = Value.int .i64 ((q j + cntR (ks.take (t + 1)) j : Nat) : Int)
            rw [hcj]
            by_cases e : j = m
            · subst e
              have := HSS.out
              rw [if_pos rfl, if_pos rfl]
              congr 1
              omega
            · rw [if_neg e, if_neg (fun h => e h.symm), HFQ.out j hj]
              rfl
          · have h := HG.out
            exact ⟨h.os, h.tape, h.output, by simpa using h.size, fun x hx hne => by rw [heap_setCell_other _ _ _ _ (fun e => hne (by simp at e; rw [e]))]; exact h.block x hx hne⟩
        case measure => simp [intOf]; omega
      · have hZf : Z = false := by
          rw [← HZ.out, kidsR, List.all_eq_false]
          exact ⟨y, List.mem_of_getElem? HGT.out, by simpa using hy⟩
        subst hZf
        have hor : y < 0 ∨ (k : Int) ≤ y := by omega
        clear hy hcn
        rcases hor with hor | hor
        · go_wp2_with fail
          go_ret
          first | exact ⟨rfl, HG.out⟩ | exact ⟨rfl, (by intro h; cases h), HG.out⟩
        · have h0 : ¬ y < 0 := by omega
          go_wp2_with fail
          go_ret
          first | exact ⟨rfl, HG.out⟩ | exact ⟨rfl, (by intro h; cases h), HG.out⟩
    · have e : t = ks.length := by omega
      subst e
      have hZt : Z = true := by
        have := HKR.out
        rw [List.take_length] at this
        rw [← HZ.out]; exact this
      subst hZt
      clear hcn hg hr hc
      go_wp2_with fail
      go_ret
      have h := HCN.out
      rw [List.take_length] at h
      exact ⟨rfl, h, HG.out⟩

end Go.Proofs.YtckidgpopbpagaaGreatDoor

/- The program's fieldsOk, over the table `forms`. -/
namespace Go.Proofs.YtckidgpopbpagaaGreatDoor
set_option linter.unusedVariables false
set_option linter.unusedSimpArgs false
open Go.RowKit

/-- The table: how many numbers, at least, at most how many terms an Op has. -/
def tabR : Nat → Int × Int × Int
  | 3 => (0, 2, 4096)
  | 4 => (2, 1, 1)
  | 5 => (1, 1, 1)
  | 6 => (1, 1, 1)
  | 7 => (1, 1, 1)
  | 8 => (1, 1, 1)
  | 9 => (1, 1, 1)
  | _ => (0, 0, 0)

/-- The table lies in the program's first block. -/
def GF (w : World) : Prop := ∀ m, m < 10 → (∃ s, w.cell? ⟨0, m * 4, none⟩ = some (.string s)) ∧ w.cell? ⟨0, m * 4 + 1, none⟩ = some (.int .i64 (tabR m).1) ∧ w.cell? ⟨0, m * 4 + 2, none⟩ = some (.int .i64 (tabR m).2.1) ∧ w.cell? ⟨0, m * 4 + 3, none⟩ = some (.int .i64 (tabR m).2.2)

theorem GF.later {w w' : World} (h : GF w) (hb : Below w.heap.size w w') : GF w' := by
  intro m hm
  obtain ⟨⟨s, h0⟩, h1, h2, h3⟩ := h m hm
  have l := block_lt_of_cell h1
  exact ⟨⟨s, by rw [kcell hb _ _ l]; exact h0⟩, by rw [kcell hb _ _ l]; exact h1, by rw [kcell hb _ _ l]; exact h2, by rw [kcell hb _ _ l]; exact h3⟩

def fldT (op vr a b bw : Int) (wl kl : Nat) (N L M : Int) : Bool :=
  !(op != 1 && vr != 0 || decide (N < 1) && a != 0 || decide (N < 2) && b != 0) && !(op != 2 && (bw != 0 || decide (wl ≠ 0))) && (decide (L ≤ (kl : Int)) && decide ((kl : Int) ≤ M))

/-- What the program asks of the fields. -/
def fldR (n : Tc) : Bool := decide (1 ≤ n.op ∧ n.op ≤ 9) && fldT n.op n.vr n.a n.b n.bw n.ws.length n.ks.length (tabR n.op.toNat).1 (tabR n.op.toNat).2.1 (tabR n.op.toNat).2.2

set_option maxHeartbeats 2000000 in
theorem fieldsOk_any (n : Tc) (wa ka : Option Addr) (wc kc : Nat) (w : World) (hG : GF w) (hw : n.ws.length ≤ 1048576) (hk : n.ks.length ≤ 1048576) :
    Calls Tryz.prog 59 #[.agg #[.int .i64 n.op, .int .i64 n.vr, .int .i64 n.a, .int .i64 n.b, .int .i64 n.bw, .slice wa n.ws.length wc, .slice ka n.ks.length kc]] w fun e w' => e = .returned (.bool (fldR n)) ∧ Below w.heap.size w w' := by
  generalize hZ : fldR n = Z
  have HZ := kide hZ
  clear hZ
  obtain ⟨op, vr, A, B, bw, ws, ks⟩ := n
  simp only [] at hw hk ⊢
  have hb0 : Below w.heap.size w (w.alloc (Obj.cells #[Value.int .i64 op, Value.int .i64 vr, Value.int .i64 A, Value.int .i64 B, Value.int .i64 bw, Value.slice wa ws.length wc, Value.slice ka ks.length kc] 62)) := (Below.refl _ _).alloc (Nat.le_refl _) _
  have B0 := kide hb0
  by_cases hr : 1 ≤ op ∧ op ≤ 9
  · obtain ⟨m, rfl⟩ : ∃ m : Nat, op = (m : Int) := ⟨op.toNat, by omega⟩
    obtain ⟨⟨s, t0⟩, t1, t2, t3⟩ := hG m (by omega)
    have l0 : 0 < w.heap.size := block_lt_of_cell t1
    have hz : fldT (m : Int) vr A B bw ws.length ks.length (tabR m).1 (tabR m).2.1 (tabR m).2.2 = Z := by
      have h := HZ.out
      rw [fldR, decide_eq_true hr, Bool.true_and] at h
      simpa using h
    obtain ⟨NN, hNN⟩ : ∃ x, x = (tabR m).1 := ⟨_, rfl⟩
    obtain ⟨LL, hLL⟩ : ∃ x, x = (tabR m).2.1 := ⟨_, rfl⟩
    obtain ⟨MM, hMM⟩ : ∃ x, x = (tabR m).2.2 := ⟨_, rfl⟩
    rw [← hNN] at t1 hz
    rw [← hLL] at t2 hz
    rw [← hMM] at t3 hz
    have HZ2 := kide hz
    have hm1 : 1 ≤ m := by omega
    have hm9 : m ≤ 9 := by omega
    clear HZ hz hG hb0 hNN hLL hMM hr
    go_enter Tryz.func59, Tryz.ntmps59
    go_wp2_with fail
    all_goals go_ret
    all_goals refine ⟨ret_bool ?_, Below.alloc (Below.alloc (Below.refl _ _) (Nat.le_refl _) _) (by simp) _⟩
    all_goals (have h := HZ2.out; clear HZ2 B0 t0 t1 t2 t3; rw [← h]; clear h; unfold fldT; cases hB : (B != 0) <;> cases hA : (A != 0) <;> cases hV : (vr != 0) <;> cases hM : ((m : Int) != 1) <;> cases hM2 : ((m : Int) != 2) <;> cases hW : (bw != 0) <;> simp_all <;> omega)
  · have hz := HZ.out
    rw [fldR, decide_eq_false hr, Bool.false_and] at hz
    subst hz
    have hor : op < 1 ∨ 9 < op := by omega
    clear HZ hG hb0 hr
    rcases hor with hor | hor
    · go_enter Tryz.func59, Tryz.ntmps59
      go_wp2_with fail
      go_ret
      exact ⟨rfl, B0.out⟩
    · have h1 : ¬ op < 1 := by omega
      go_enter Tryz.func59, Tryz.ntmps59
      go_wp2_with fail
      go_ret
      exact ⟨rfl, B0.out⟩

end Go.Proofs.YtckidgpopbpagaaGreatDoor

/- The program's width of a node: the plain side, and boundWidth. -/
namespace Go.Proofs.YtckidgpopbpagaaGreatDoor
set_option linter.unusedVariables false
set_option linter.unusedSimpArgs false
open Go.RowKit

/-- A width in bounds, and a code. -/
def bndR (x : Int) : Int × Int := if x < 1 then (0, 15) else if 4096 < x then (0, 16) else (x, 0)

theorem boundWidth_any (x : Int) (w : World) : Calls Tryz.prog 118 #[.int .i64 x] w fun e w' => e = .returned (.tuple #[.int .i64 (bndR x).1, .int .i64 (bndR x).2]) ∧ w' = w := by
  by_cases h1 : x < 1
  · rw [bndR, if_pos h1]
    go_enter Tryz.func118, Tryz.ntmps118
    go_wp2_with fail
    go_returns
    exact ⟨rfl, rfl⟩
  · by_cases h2 : 4096 < x
    · rw [bndR, if_neg h1, if_pos h2]
      go_enter Tryz.func118, Tryz.ntmps118
      go_wp2_with fail
      go_returns
      exact ⟨rfl, rfl⟩
    · rw [bndR, if_neg h1, if_neg h2]
      go_enter Tryz.func118, Tryz.ntmps118
      go_wp2_with fail
      go_returns
      exact ⟨rfl, rfl⟩

/-- The kids' widths. -/
def kwR (wide : List Int) (ks : List Int) : List Int := ks.map fun k => wide.getD k.toNat 0
def sumK : List Int → Int
  | [] => 0
  | x :: t => x + sumK t

/-- What the program says of a node: a width and a code. -/
def nodR (ds : List Dc) (n : Tc) (ys : List Int) : Int × Int :=
  if n.op = 1 then (if 0 ≤ n.vr ∧ n.vr < ds.length then bndR (ds.getD n.vr.toNat (.empty, 0)).2 else (0, 15))
  else if n.op = 2 then (if rightB n.bw n.ws = true then (n.bw, 0) else (0, 15))
  else if n.op = 3 then bndR (sumK ys)
  else if n.op = 4 then (if n.b < 0 ∨ n.a < n.b ∨ ys.getD 0 0 ≤ n.a then (0, 15) else (n.a - n.b + 1, 0))
  else if n.op = 5 ∨ n.op = 6 then (if 0 ≤ n.a ∧ n.a ≤ 4096 then bndR (ys.getD 0 0 + n.a) else (0, 15))
  else if n.op = 7 ∨ n.op = 8 then (if 0 ≤ n.a ∧ n.a ≤ 4096 then (ys.getD 0 0, 0) else (0, 15))
  else (if 1 ≤ n.a ∧ n.a ≤ 4096 then bndR (ys.getD 0 0 * n.a) else (0, 15))

theorem bndR_spec (x : Int) : (1 ≤ x ∧ x ≤ 4096 → bndR x = (x, 0)) ∧ (¬ (1 ≤ x ∧ x ≤ 4096) → (bndR x).2 ≠ 0) := by
  unfold bndR
  constructor
  · intro h; rw [if_neg (by omega), if_neg (by omega)]
  · intro h
    split
    · simp
    · split
      · simp
      · omega

theorem kids_get {wide ks : List Int} (hw : ∀ x ∈ wide, 1 ≤ x ∧ x ≤ 4096) (hk : kidsR wide.length ks = true) : ∀ k ∈ ks, 1 ≤ wide.getD k.toNat 0 ∧ wide.getD k.toNat 0 ≤ 4096 := by
  intro k hkm
  simp only [kidsR, List.all_eq_true, decide_eq_true_eq] at hk
  have := hk k hkm
  have hl : k.toNat < wide.length := by omega
  have := hw _ (List.getElem_mem hl)
  simp [List.getD, hl]
  omega

theorem sumR_min {wide ks : List Int} (hw : ∀ k ∈ ks, 1 ≤ wide.getD k.toNat 0 ∧ wide.getD k.toNat 0 ≤ 4096) (s : Int) (h0 : 0 ≤ s) (h1 : s ≤ 8192) : sumR wide ks s = min 8192 (s + sumK (kwR wide ks)) ∧ (ks.length : Int) ≤ sumK (kwR wide ks) := by
  induction ks generalizing s with
  | nil => simp [sumR, sumK, kwR]; omega
  | cons k t ih =>
    have hk := hw k (by simp)
    obtain ⟨e1, e2⟩ := ih (fun x hx => hw x (by simp [hx])) (min 8192 (s + wide.getD k.toNat 0)) (by omega) (by omega)
    rw [sumR, e1]
    have e3 : sumK (kwR wide (k :: t)) = wide.getD k.toNat 0 + sumK (kwR wide t) := by simp [kwR, sumK]
    rw [e3]
    refine ⟨by omega, ?_⟩
    simp only [List.length_cons]
    omega

end Go.Proofs.YtckidgpopbpagaaGreatDoor

/- That the program's fields, kids and width are what a right node asks. -/
namespace Go.Proofs.YtckidgpopbpagaaGreatDoor
set_option linter.unusedVariables false
set_option linter.unusedSimpArgs false
open Go.RowKit

theorem op_cases {x : Int} (h1 : 1 ≤ x) (h9 : x ≤ 9) : x = 1 ∨ x = 2 ∨ x = 3 ∨ x = 4 ∨ x = 5 ∨ x = 6 ∨ x = 7 ∨ x = 8 ∨ x = 9 := by omega

theorem kw_one {wide ks : List Int} (h : ks.length = 1) : (kwR wide ks).getD 0 0 = sumK (kwR wide ks) := by
  match ks, h with
  | [k], _ => simp [kwR, sumK]

/-- A node of which the step tells a width has the fields and kids that the program asks for. -/
theorem step_some {ds : List Dc} {wide : List Int} {n : Tc} {v : Int} (hw : ∀ x ∈ wide, 1 ≤ x ∧ x ≤ 4096) (h : stepR ds wide n = some v) : fldR n = true ∧ kidsR wide.length n.ks = true := by
  have h0 := stepR_kids h
  simp only [Bool.and_eq_true] at h0
  obtain ⟨⟨hk, hf⟩, hm⟩ := h0
  refine ⟨?_, hk⟩
  have hg := kids_get hw hk
  obtain ⟨hs, hl⟩ := sumR_min hg 0 (by omega) (by omega)
  have hr := stepR_range h
  have hwd : wideR ds n (sumR wide n.ks 0) ≤ 4096 := by
    unfold stepR at h
    split at h
    · split at h
      · rename_i hb; exact hb.2
      · cases h
    · cases h
  clear h hr
  obtain ⟨op, vr, a, b, bw, ws, ks⟩ := n
  simp only [] at *
  have hop : 1 ≤ op ∧ op ≤ 9 := by
    unfold manyR at hm
    simp only [] at hm
    split at hm
    · omega
    · split at hm
      · omega
      · split at hm
        · omega
        · split at hm
          · omega
          · cases hm
  rcases op_cases hop.1 hop.2 with rfl | rfl | rfl | rfl | rfl | rfl | rfl | rfl | rfl
  case inr.inr.inl =>
    simp only [fldR, fldT, tabR, manyR, fieldR, wideR] at *
    simp at hf hm hwd ⊢
    rw [hs] at hwd
    refine ⟨⟨⟨⟨hf.1.1.1, hf.2⟩, hf.1.2⟩, hf.1.1.2.1, hf.1.1.2.2⟩, by omega, by omega⟩
  all_goals
    simp only [fldR, fldT, tabR, manyR, fieldR] at *
    simp at hf hm ⊢
    grind

theorem bndR_if (x : Int) : (if (bndR x).2 = 0 then some (bndR x).1 else none) = (if 1 ≤ x ∧ x ≤ 4096 then some x else (none : Option Int)) := by
  by_cases h : 1 ≤ x ∧ x ≤ 4096
  · rw [(bndR_spec x).1 h, if_pos rfl, if_pos h]
  · rw [if_neg ((bndR_spec x).2 h), if_neg h]

theorem fldR_op {n : Tc} (h : fldR n = true) : 1 ≤ n.op ∧ n.op ≤ 9 := by
  simp only [fldR, Bool.and_eq_true, decide_eq_true_eq] at h
  exact h.1

/-- .. and the program's width of such a node is the step's. -/
theorem step_both {ds : List Dc} {wide : List Int} {n : Tc} (hw : ∀ x ∈ wide, 1 ≤ x ∧ x ≤ 4096) (hf : fldR n = true) (hk : kidsR wide.length n.ks = true) :
    stepR ds wide n = (if (nodR ds n (kwR wide n.ks)).2 = 0 then some (nodR ds n (kwR wide n.ks)).1 else none) := by
  have hg := kids_get hw hk
  obtain ⟨hs, hl⟩ := sumR_min hg 0 (by omega) (by omega)
  have hop := fldR_op hf
  unfold stepR
  rw [hk, Bool.true_and]
  obtain ⟨op, vr, a, b, bw, ws, ks⟩ := n
  simp only [] at *
  have hone : ks.length = 1 → (kwR wide ks).getD 0 0 = sumK (kwR wide ks) ∧ sumR wide ks 0 = sumK (kwR wide ks) ∧ 1 ≤ sumK (kwR wide ks) ∧ sumK (kwR wide ks) ≤ 4096 := by
    intro h1
    have e := kw_one (wide := wide) h1
    have : 1 ≤ sumK (kwR wide ks) ∧ sumK (kwR wide ks) ≤ 4096 := by
      match ks, h1 with
      | [k], _ =>
        have := hg k (by simp)
        simpa [kwR, sumK] using this
    exact ⟨e, by rw [hs]; omega, this⟩
  rcases op_cases hop.1 hop.2 with rfl | rfl | rfl | rfl | rfl | rfl | rfl | rfl | rfl
  · -- a variable
    simp only [fldR, fldT, tabR] at hf
    simp at hf
    have hfm : (fieldR ⟨1, vr, a, b, bw, ws, ks⟩ && manyR ds.length ⟨1, vr, a, b, bw, ws, ks⟩) = decide (0 ≤ vr ∧ vr < (ds.length : Int)) := by
      rw [Bool.eq_iff_iff]
      simp [fieldR, manyR]
      grind
    rw [hfm]
    simp only [nodR, wideR, if_true]
    by_cases hv : 0 ≤ vr ∧ vr < (ds.length : Int)
    · simp only [decide_eq_true hv, if_true, if_pos hv]
      rw [bndR_if]
    · simp only [decide_eq_false hv, if_neg hv]
      simp
  · -- bits
    simp only [fldR, fldT, tabR] at hf
    simp at hf
    have hfm : (fieldR ⟨2, vr, a, b, bw, ws, ks⟩ && manyR ds.length ⟨2, vr, a, b, bw, ws, ks⟩) = rightB bw ws := by
      rw [Bool.eq_iff_iff]
      simp [fieldR, manyR]
      grind
    rw [hfm]
    simp only [nodR, wideR]
    cases hR : rightB bw ws with
    | false => simp
    | true =>
      have : 1 ≤ bw ∧ bw ≤ 4096 := by
        simp [rightB, wOk] at hR
        exact hR.1.1
      simp [this]
  · -- a cat
    simp only [fldR, fldT, tabR] at hf
    simp at hf
    have hfm : (fieldR ⟨3, vr, a, b, bw, ws, ks⟩ && manyR ds.length ⟨3, vr, a, b, bw, ws, ks⟩) = true := by
      simp [fieldR, manyR]
      grind
    rw [hfm]
    simp only [nodR, wideR]
    simp
    rw [bndR_if, hs]
    by_cases h : 1 ≤ sumK (kwR wide ks) ∧ sumK (kwR wide ks) ≤ 4096
    · rw [if_pos h, if_pos (by omega)]
      congr 1
      omega
    · rw [if_neg h, if_neg (by omega)]
  all_goals
    simp only [fldR, fldT, tabR] at hf
    simp at hf
    have h1 : ks.length = 1 := by omega
    obtain ⟨o1, o2, o3, o4⟩ := hone h1
    simp only [nodR, wideR, o1, o2]
    clear hone o1 o2 hs hl hg hk hw
    generalize sumK (kwR wide ks) = q at *
  · have hfm : (fieldR ⟨4, vr, a, b, bw, ws, ks⟩ && manyR ds.length ⟨4, vr, a, b, bw, ws, ks⟩) = true := by
      simp [fieldR, manyR]
      grind
    rw [hfm]
    simp
    by_cases h : b < 0 ∨ a < b ∨ q ≤ a
    · simp [h]
    · rw [if_neg h, if_neg h]
      simp
      omega
  · have hfm : (fieldR ⟨5, vr, a, b, bw, ws, ks⟩ && manyR ds.length ⟨5, vr, a, b, bw, ws, ks⟩) = true := by
      simp [fieldR, manyR]
      grind
    rw [hfm]
    simp
    by_cases h : 0 ≤ a ∧ a ≤ 4096
    · simp only [if_pos h]
      rw [bndR_if]
    · simp only [if_neg h]
      simp
  · have hfm : (fieldR ⟨6, vr, a, b, bw, ws, ks⟩ && manyR ds.length ⟨6, vr, a, b, bw, ws, ks⟩) = true := by
      simp [fieldR, manyR]
      grind
    rw [hfm]
    simp
    by_cases h : 0 ≤ a ∧ a ≤ 4096
    · simp only [if_pos h]
      rw [bndR_if]
    · simp only [if_neg h]
      simp
  · have hfm : (fieldR ⟨7, vr, a, b, bw, ws, ks⟩ && manyR ds.length ⟨7, vr, a, b, bw, ws, ks⟩) = true := by
      simp [fieldR, manyR]
      grind
    rw [hfm]
    simp
    by_cases h : 0 ≤ a ∧ a ≤ 4096
    · simp only [if_pos h]
      simp [o3, o4]
    · simp only [if_neg h]
      simp
  · have hfm : (fieldR ⟨8, vr, a, b, bw, ws, ks⟩ && manyR ds.length ⟨8, vr, a, b, bw, ws, ks⟩) = true := by
      simp [fieldR, manyR]
      grind
    rw [hfm]
    simp
    by_cases h : 0 ≤ a ∧ a ≤ 4096
    · simp only [if_pos h]
      simp [o3, o4]
    · simp only [if_neg h]
      simp
  · have hfm : (fieldR ⟨9, vr, a, b, bw, ws, ks⟩ && manyR ds.length ⟨9, vr, a, b, bw, ws, ks⟩) = true := by
      simp [fieldR, manyR]
      grind
    rw [hfm]
    simp
    by_cases h : 1 ≤ a ∧ a ≤ 4096
    · simp only [if_pos h]
      rw [bndR_if]
    · simp only [if_neg h]
      simp

/-- Fields or kids that are not what the program asks for. -/
theorem step_not {ds : List Dc} {wide : List Int} {n : Tc} (hw : ∀ x ∈ wide, 1 ≤ x ∧ x ≤ 4096) (h : fldR n = false ∨ kidsR wide.length n.ks = false) : stepR ds wide n = none := by
  cases hs : stepR ds wide n with
  | none => rfl
  | some v =>
    obtain ⟨h1, h2⟩ := step_some hw hs
    rcases h with h | h
    · rw [h1] at h; cases h
    · rw [h2] at h; cases h

end Go.Proofs.YtckidgpopbpagaaGreatDoor

/- The program's opOf. -/
namespace Go.Proofs.YtckidgpopbpagaaGreatDoor
set_option linter.unusedVariables false
set_option linter.unusedSimpArgs false
open Go.RowKit

theorem opOf_cat (a : Option Addr) (nd c : Nat) (vr A B bw : Int) (wa ka : Option Addr) (wl wc kl kc : Nat) (w : World) :
    Calls Tryz.prog 83 #[.slice a nd c, .agg #[.int .i64 3, .int .i64 vr, .int .i64 A, .int .i64 B, .int .i64 bw, .slice wa wl wc, .slice ka kl kc]] w fun e w' => e = .returned (.iface 147 (.agg #[])) ∧ Below w.heap.size w w' := by
  have hb0 : Below w.heap.size w (w.alloc (Obj.cells #[Value.int .i64 3, Value.int .i64 vr, Value.int .i64 A, Value.int .i64 B, Value.int .i64 bw, Value.slice wa wl wc, Value.slice ka kl kc] 62)) := (Below.refl _ _).alloc (Nat.le_refl _) _
  have B0 := kide hb0
  clear hb0
  go_enter Tryz.func83, Tryz.ntmps83
  go_wp2_with fail
  go_ret
  exact ⟨rfl, B0.out⟩

theorem opOf_part (a : Option Addr) (nd c : Nat) (vr A B bw : Int) (wa ka : Option Addr) (wl wc kl kc : Nat) (w : World) :
    Calls Tryz.prog 83 #[.slice a nd c, .agg #[.int .i64 4, .int .i64 vr, .int .i64 A, .int .i64 B, .int .i64 bw, .slice wa wl wc, .slice ka kl kc]] w fun e w' => e = .returned (.iface 149 (.agg #[.int .i64 A, .int .i64 B])) ∧ Below w.heap.size w w' := by
  have hb0 : Below w.heap.size w (w.alloc (Obj.cells #[Value.int .i64 4, Value.int .i64 vr, Value.int .i64 A, Value.int .i64 B, Value.int .i64 bw, Value.slice wa wl wc, Value.slice ka kl kc] 62)) := (Below.refl _ _).alloc (Nat.le_refl _) _
  have B0 := kide hb0
  clear hb0
  go_enter Tryz.func83, Tryz.ntmps83
  go_wp2_with fail
  go_ret
  exact ⟨rfl, B0.out⟩

theorem opOf_bits (a : Option Addr) (nd c : Nat) (vr A B bw : Int) (wa ka : Option Addr) (wl wc kl kc : Nat) (w : World) :
    Calls Tryz.prog 83 #[.slice a nd c, .agg #[.int .i64 2, .int .i64 vr, .int .i64 A, .int .i64 B, .int .i64 bw, .slice wa wl wc, .slice ka kl kc]] w fun e w' => e = .returned (.iface 145 (.agg #[.int .i64 bw, .slice wa wl wc])) ∧ Below w.heap.size w w' := by
  have hb0 : Below w.heap.size w (w.alloc (Obj.cells #[Value.int .i64 2, Value.int .i64 vr, Value.int .i64 A, Value.int .i64 B, Value.int .i64 bw, Value.slice wa wl wc, Value.slice ka kl kc] 62)) := (Below.refl _ _).alloc (Nat.le_refl _) _
  have B0 := kide hb0
  clear hb0
  go_enter Tryz.func83, Tryz.ntmps83
  go_wp2_with fail
  go_ret
  exact ⟨rfl, B0.out⟩

theorem opOf_rep (a : Option Addr) (nd c : Nat) (vr A B bw : Int) (wa ka : Option Addr) (wl wc kl kc : Nat) (w : World) :
    Calls Tryz.prog 83 #[.slice a nd c, .agg #[.int .i64 9, .int .i64 vr, .int .i64 A, .int .i64 B, .int .i64 bw, .slice wa wl wc, .slice ka kl kc]] w fun e w' => e = .returned (.iface 155 (.agg #[.int .i64 A])) ∧ Below w.heap.size w w' := by
  have hb0 : Below w.heap.size w (w.alloc (Obj.cells #[Value.int .i64 9, Value.int .i64 vr, Value.int .i64 A, Value.int .i64 B, Value.int .i64 bw, Value.slice wa wl wc, Value.slice ka kl kc] 62)) := (Below.refl _ _).alloc (Nat.le_refl _) _
  have B0 := kide hb0
  clear hb0
  go_enter Tryz.func83, Tryz.ntmps83
  go_wp2_with fail
  go_ret
  exact ⟨rfl, B0.out⟩

theorem opOf_zero (a : Option Addr) (nd c : Nat) (vr A B bw : Int) (wa ka : Option Addr) (wl wc kl kc : Nat) (w : World) (hG : GF w) :
    Calls Tryz.prog 83 #[.slice a nd c, .agg #[.int .i64 5, .int .i64 vr, .int .i64 A, .int .i64 B, .int .i64 bw, .slice wa wl wc, .slice ka kl kc]] w fun e w' => (∃ s, e = .returned (.iface 151 (.agg #[.string s, .int .i64 A]))) ∧ Below w.heap.size w w' := by
  have hb0 : Below w.heap.size w (w.alloc (Obj.cells #[Value.int .i64 5, Value.int .i64 vr, Value.int .i64 A, Value.int .i64 B, Value.int .i64 bw, Value.slice wa wl wc, Value.slice ka kl kc] 62)) := (Below.refl _ _).alloc (Nat.le_refl _) _
  have B0 := kide hb0
  clear hb0
  obtain ⟨⟨s, h0⟩, -⟩ := hG 5 (by omega)
  have l0 : 0 < w.heap.size := block_lt_of_cell h0
  simp only [Nat.reduceMul] at h0
  go_enter Tryz.func83, Tryz.ntmps83
  go_wp2_with fail
  go_quiet (fail)
  go_wp2_with fail
  go_ret
  exact ⟨⟨_, rfl⟩, below_drewN B0.out _⟩

theorem opOf_sign (a : Option Addr) (nd c : Nat) (vr A B bw : Int) (wa ka : Option Addr) (wl wc kl kc : Nat) (w : World) (hG : GF w) :
    Calls Tryz.prog 83 #[.slice a nd c, .agg #[.int .i64 6, .int .i64 vr, .int .i64 A, .int .i64 B, .int .i64 bw, .slice wa wl wc, .slice ka kl kc]] w fun e w' => (∃ s, e = .returned (.iface 151 (.agg #[.string s, .int .i64 A]))) ∧ Below w.heap.size w w' := by
  have hb0 : Below w.heap.size w (w.alloc (Obj.cells #[Value.int .i64 6, Value.int .i64 vr, Value.int .i64 A, Value.int .i64 B, Value.int .i64 bw, Value.slice wa wl wc, Value.slice ka kl kc] 62)) := (Below.refl _ _).alloc (Nat.le_refl _) _
  have B0 := kide hb0
  clear hb0
  obtain ⟨⟨s, h0⟩, -⟩ := hG 6 (by omega)
  have l0 : 0 < w.heap.size := block_lt_of_cell h0
  simp only [Nat.reduceMul] at h0
  go_enter Tryz.func83, Tryz.ntmps83
  go_wp2_with fail
  go_quiet (fail)
  go_wp2_with fail
  go_ret
  exact ⟨⟨_, rfl⟩, below_drewN B0.out _⟩

theorem opOf_left (a : Option Addr) (nd c : Nat) (vr A B bw : Int) (wa ka : Option Addr) (wl wc kl kc : Nat) (w : World) (hG : GF w) :
    Calls Tryz.prog 83 #[.slice a nd c, .agg #[.int .i64 7, .int .i64 vr, .int .i64 A, .int .i64 B, .int .i64 bw, .slice wa wl wc, .slice ka kl kc]] w fun e w' => (∃ s, e = .returned (.iface 153 (.agg #[.string s, .int .i64 A]))) ∧ Below w.heap.size w w' := by
  have hb0 : Below w.heap.size w (w.alloc (Obj.cells #[Value.int .i64 7, Value.int .i64 vr, Value.int .i64 A, Value.int .i64 B, Value.int .i64 bw, Value.slice wa wl wc, Value.slice ka kl kc] 62)) := (Below.refl _ _).alloc (Nat.le_refl _) _
  have B0 := kide hb0
  clear hb0
  obtain ⟨⟨s, h0⟩, -⟩ := hG 7 (by omega)
  have l0 : 0 < w.heap.size := block_lt_of_cell h0
  simp only [Nat.reduceMul] at h0
  go_enter Tryz.func83, Tryz.ntmps83
  go_wp2_with fail
  go_quiet (fail)
  go_wp2_with fail
  go_ret
  exact ⟨⟨_, rfl⟩, below_drewN B0.out _⟩

theorem opOf_right (a : Option Addr) (nd c : Nat) (vr A B bw : Int) (wa ka : Option Addr) (wl wc kl kc : Nat) (w : World) (hG : GF w) :
    Calls Tryz.prog 83 #[.slice a nd c, .agg #[.int .i64 8, .int .i64 vr, .int .i64 A, .int .i64 B, .int .i64 bw, .slice wa wl wc, .slice ka kl kc]] w fun e w' => (∃ s, e = .returned (.iface 153 (.agg #[.string s, .int .i64 A]))) ∧ Below w.heap.size w w' := by
  have hb0 : Below w.heap.size w (w.alloc (Obj.cells #[Value.int .i64 8, Value.int .i64 vr, Value.int .i64 A, Value.int .i64 B, Value.int .i64 bw, Value.slice wa wl wc, Value.slice ka kl kc] 62)) := (Below.refl _ _).alloc (Nat.le_refl _) _
  have B0 := kide hb0
  clear hb0
  obtain ⟨⟨s, h0⟩, -⟩ := hG 8 (by omega)
  have l0 : 0 < w.heap.size := block_lt_of_cell h0
  simp only [Nat.reduceMul] at h0
  go_enter Tryz.func83, Tryz.ntmps83
  go_wp2_with fail
  go_quiet (fail)
  go_wp2_with fail
  go_ret
  exact ⟨⟨_, rfl⟩, below_drewN B0.out _⟩

theorem opOf_off (a : Option Addr) (nd c : Nat) (vr A B bw : Int) (wa ka : Option Addr) (wl wc kl kc : Nat) (w : World) (h : vr < 0 ∨ (nd : Int) ≤ vr) (hn : nd ≤ 1048576) :
    Calls Tryz.prog 83 #[.slice a nd c, .agg #[.int .i64 1, .int .i64 vr, .int .i64 A, .int .i64 B, .int .i64 bw, .slice wa wl wc, .slice ka kl kc]] w fun e w' => e = .returned (.iface 143 (.agg #[.string .empty, .int .i64 0])) ∧ Below w.heap.size w w' := by
  have hb0 : Below w.heap.size w (w.alloc (Obj.cells #[Value.int .i64 1, Value.int .i64 vr, Value.int .i64 A, Value.int .i64 B, Value.int .i64 bw, Value.slice wa wl wc, Value.slice ka kl kc] 62)) := (Below.refl _ _).alloc (Nat.le_refl _) _
  have B0 := kide hb0
  clear hb0
  by_cases hv : vr < 0
  · clear h
    go_enter Tryz.func83, Tryz.ntmps83
    go_wp2_with fail
    go_ret
    exact ⟨rfl, B0.out⟩
  have hv2 : (nd : Int) ≤ vr := by omega
  clear h
  go_enter Tryz.func83, Tryz.ntmps83
  go_wp2_with fail
  go_ret
  exact ⟨rfl, B0.out⟩

theorem opOf_var (a : Option Addr) (nd c : Nat) (vr A B bw : Int) (wa ka : Option Addr) (wl wc kl kc : Nat) (w : World) (b o k : Nat) (s : ByteArray) (x : Int) (ha : a = some ⟨b, o, none⟩) (hv : vr = (k : Int)) (hk : k < nd) (hn : nd ≤ 1048576) (h0 : w.cell? ⟨b, o + k * 2, none⟩ = some (.string s)) (h1 : w.cell? ⟨b, o + k * 2 + 1, none⟩ = some (.int .i64 x)) :
    Calls Tryz.prog 83 #[.slice a nd c, .agg #[.int .i64 1, .int .i64 vr, .int .i64 A, .int .i64 B, .int .i64 bw, .slice wa wl wc, .slice ka kl kc]] w fun e w' => e = .returned (.iface 143 (.agg #[.string s, .int .i64 x])) ∧ Below w.heap.size w w' := by
  have hb0 : Below w.heap.size w (w.alloc (Obj.cells #[Value.int .i64 1, Value.int .i64 vr, Value.int .i64 A, Value.int .i64 B, Value.int .i64 bw, Value.slice wa wl wc, Value.slice ka kl kc] 62)) := (Below.refl _ _).alloc (Nat.le_refl _) _
  have B0 := kide hb0
  clear hb0
  subst ha
  subst hv
  have lb : b < w.heap.size := block_lt_of_cell h0
  have hki : (k : Int) < (nd : Int) := by omega
  go_enter Tryz.func83, Tryz.ntmps83
  go_wp2_with fail
  go_ret
  exact ⟨rfl, B0.out⟩

end Go.Proofs.YtckidgpopbpagaaGreatDoor

/- Segments as an answer. -/
namespace Go.Proofs.YtckidgpopbpagaaGreatDoor
set_option linter.unusedVariables false
set_option linter.unusedSimpArgs false
open Go.RowKit

theorem OS5.low {w : World} {B B' : Nat} {v : Value} {l : List Sg} (h : OS5 w B v l) (hB : B' ≤ B) : OS5 w B' v l := by
  obtain ⟨h1, h2⟩ := h
  refine ⟨h1, ?_⟩
  rcases h2 with h2 | ⟨g, cap, cur, rfl, hg, hh, r⟩
  · exact .inl h2
  · exact .inr ⟨g, cap, cur, rfl, by omega, hh, r⟩
/-- Segments as an answer. -/
def RetF (R : List Sc × Bool) (w : World) (e : Ending) (w' : World) : Prop := ∃ v l, e = .returned (.tuple #[v, .bool R.2]) ∧ l.map Sg.ct = R.1 ∧ Ss w' w.heap.size v l ∧ Below w.heap.size w w'

theorem rdp_slice {w : World} {g lo n m : Nat} {ps : List Ib} (h : RdP w (some ⟨g, 0, none⟩) ps) (hn : lo + n ≤ ps.length) : RdP w (some ⟨g, lo * 2, none⟩) ((ps.drop lo).take n) := by
  obtain ⟨h1, h2⟩ := h
  refine ⟨by simp; omega, ?_⟩
  rcases h2 with h2 | ⟨b, o, e, hc⟩
  · left; rw [h2]; simp
  · cases e
    right
    refine ⟨g, lo * 2, rfl, fun i p hp => ?_⟩
    have hi : i < n := by
      have := (List.getElem?_eq_some_iff.1 hp).1
      simp at this
      omega
    rw [List.getElem?_take, if_pos hi, List.getElem?_drop] at hp
    have := hc (lo + i) p hp
    rw [show 0 + (lo + i) * 2 = lo * 2 + i * 2 by omega] at this
    exact this

theorem rds_words {w : World} {a : Option Addr} {xs : List Sg} (h : RdS w a xs) : ∀ s ∈ xs.map Sg.ct, ∀ y ∈ s.ws, y < 18446744073709551616 := fun s hs => by
  obtain ⟨x, hx, rfl⟩ := List.mem_map.1 hs
  obtain ⟨i, hi⟩ := List.getElem?_of_mem hx
  rcases h.2 with h2 | ⟨b, o, -, hc⟩
  · rw [h2] at hi; simp at hi
  · exact (hc i x hi).2.1.2.1

end Go.Proofs.YtckidgpopbpagaaGreatDoor
