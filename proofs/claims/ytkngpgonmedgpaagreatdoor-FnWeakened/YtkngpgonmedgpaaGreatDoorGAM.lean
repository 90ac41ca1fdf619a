/- Several texts in one. -/
import Derived.Test.YtkngpgonmedgpaaGreatDoorGAJ
import Derived.Test.YtkngpgonmedgpaaGreatDoorGAG
import Derived.Handy
import Derived.Test.YtkngpgonmedgpaaGreatDoorGAL
import Derived.Deep.AppendLies
namespace Go.Proofs.YtkngpgonmedgpaaGreatDoor
open Go.RowKit
set_option linter.unusedVariables false
set_option linter.unusedSimpArgs false
theorem OW.fresh (w : World) (B : Nat) (hB : B ≤ w.heap.size) : OW (w.alloc (Obj.cells #[] 2)) B (.slice (some ⟨w.heap.size, 0, none⟩) 0 0) [] :=
 ⟨rfl, .inr ⟨w.heap.size, 0, #[], rfl, hB, heap_alloc_new _ _, Nat.le_refl _, by unfold maxLen; omega, rfl, rfl⟩⟩
theorem Tryz.infoBool : (Tryz.prog.info? 4).map (fun i => (i.zero, i.size, i.bytes)) = some (some (.bool false), 1, 1) := by kernel_rfl
set_option maxHeartbeats 1000000 in
theorem l3Widths_no (a b : Option Addr) (c c2 n : Nat) (ds : List Dc) (xs : List Tg) (w : World) (hr : RdD w a ds) (hs : RdT w b xs) (hn : xs.length = n) (hok : ¬ (dclR ds = true ∧ 1 ≤ n ∧ n ≤ 400)) :
  Calls Tryz.prog 95 #[.slice a ds.length c, .agg #[.slice b n c2]] w fun e w' => ∃ v, e = .returned v ∧ OW w' (w.heap.size + 1) v (widthsR ds (xs.map Tg.ct)) ∧ Below w.heap.size w w' := by
 have hl1 := hr.1
 have hl2 := hs.1
 rw [hn] at hl2
 have HR := kide hr
 have HS := kide hs
 have HN := kide hn
 have hb1 : Below w.heap.size w (w.alloc (Obj.cells #[.slice b n c2] 28)) := (Below.refl _ _).alloc (Nat.le_refl _) _
 have hb2 : Below w.heap.size w ((w.alloc (Obj.cells #[.slice b n c2] 28)).alloc (Obj.cells #[] 2)) := hb1.alloc (by simp) _
 have B2 := kide hb2
 have HDK := kide (fun u (hu : Below w.heap.size w u) => specDecls_any a c ds u (hr.later hu))
 generalize hZ : widthsR ds (xs.map Tg.ct) = Z
 have HZ := kide hZ
 clear hr hs hn hb1 hb2 hZ
 go_enter Tryz.func95, Tryz.ntmps95
 go_wp2_with fail
 refine Calls.mono (HDK.out _ B2.out) ?_
 rintro e w1 ⟨rfl, hb1⟩
 have c1 := kcell hb1 w.heap.size 0 (by simp; omega)
 have n1 : w1.heap[w.heap.size + 1]? = some (.cells #[] 2 (0, 0)) := by
  rw [hb1.block _ (by simp)]
  have h := heap_alloc_new (w.alloc (Obj.cells #[.slice b n c2] 28)) (Obj.cells #[] 2)
  simpa using h
 have B1 := kide (B2.out.trans (hb1.mono B2.out.size))
 have z1 : w.heap.size + 1 < w1.heap.size := lt_of_block n1
 have zz : w.heap.size < w1.heap.size := by omega
 simp at c1
 clear hb1 B2
 have ON1 : Hid (OW w1 (w.heap.size + 1) (.slice (some ⟨w.heap.size + 1, 0, none⟩) 0 0) []) := ⟨rfl, .inr ⟨w.heap.size + 1, 0, #[], rfl, Nat.le_refl _, n1, Nat.le_refl _, by unfold maxLen; omega, rfl, rfl⟩⟩
 have hZ0 : Z = [] := by
  rw [← HZ.out, widthsR, if_neg]
  have := HN.out
  simp only [Bool.and_eq_true, decide_eq_true_eq, List.length_map, this]
  rintro ⟨⟨h1, h2⟩, h3⟩
  exact hok ⟨h1, h2, h3⟩
 subst hZ0
 cases hd : dclR ds with
 | false =>
  clear HZ HDK hok
  go_wp2_with fail
  go_ret
  exact ⟨_, rfl, ON1.out, B1.out⟩
 | true =>
  have hor : n < 1 ∨ 400 < n := by rw [hd] at hok; simp at hok; omega
  rcases hor with hor | hor
  ·have : n = 0 := by omega
   subst this
   clear HZ HDK hok
   go_wp2_with fail
   go_ret
   exact ⟨_, rfl, ON1.out, B1.out⟩
  ·clear HZ HDK hok
   go_wp2_with fail
   go_ret
   exact ⟨_, rfl, ON1.out, B1.out⟩


structure Lw (w : World) (b : Option Addr) (n c2 U : Nat) (q : Nat → Bool) (wr : World) : Prop where
 box : wr.heap[w.heap.size]? = some (.cells #[.slice b n c2] 28 (0, 0))
 non : wr.heap[w.heap.size + 1]? = some (.cells #[] 2 (0, 0))
 bel : Below w.heap.size w wr
 row : ∃ f, wr.rowIs U 4 n f ∧ ∀ j, j < n → f j = .bool (q j)
theorem Lw.lt {w : World} {b : Option Addr} {n c2 U : Nat} {q : Nat → Bool} {wr : World} (h : Lw w b n c2 U q wr) : U < wr.heap.size := by
 obtain ⟨f, ⟨cc, hh, -⟩, -⟩ := h.row
 exact lt_of_block hh
theorem Lw.cell {w : World} {b : Option Addr} {n c2 U : Nat} {q : Nat → Bool} {wr : World} (h : Lw w b n c2 U q wr) : wr.cell? ⟨w.heap.size, 0, none⟩ = some (.slice b n c2) := by
 simp [World.cell?, h.box]
theorem Lw.none' {w : World} {b : Option Addr} {n c2 U : Nat} {q : Nat → Bool} {wr : World} (h : Lw w b n c2 U q wr) : OW wr (w.heap.size + 1) (.slice (some ⟨w.heap.size + 1, 0, none⟩) 0 0) [] := ⟨rfl, .inr ⟨w.heap.size + 1, 0, #[], rfl, Nat.le_refl _, h.non, Nat.le_refl _, by unfold maxLen; omega, rfl, rfl⟩⟩
theorem Lw.later {w : World} {b : Option Addr} {n c2 U : Nat} {q : Nat → Bool} {wr wr' : World} (h : Lw w b n c2 U q wr) (hb : Below wr.heap.size wr wr') : Lw w b n c2 U q wr' where
 box := by rw [hb.block _ (lt_of_block h.box)]; exact h.box
 non := by rw [hb.block _ (lt_of_block h.non)]; exact h.non
 bel := h.bel.trans (hb.mono h.bel.size)
 row := by
  obtain ⟨f, hf, hq⟩ := h.row
  exact ⟨f, World.rowIs.of_block hf (hb.block _ h.lt), hq⟩
theorem Lw.grown {w : World} {b : Option Addr} {n c2 U B : Nat} {q : Nat → Bool} {wr wr' : World} {v : Value} {xs : List Int} (h : Lw w b n c2 U q wr) (ho : OW wr B v xs) (hB : w.heap.size + 1 < B) (hg : wr.grownBy wr' v.ownBlock) : Lw w b n c2 U q wr' where
 box := by rw [hg.block _ (lt_of_block h.box) (fun e => by have := ho.lt e.symm; omega)]; exact h.box
 non := by rw [hg.block _ (lt_of_block h.non) (fun e => by have := ho.lt e.symm; omega)]; exact h.non
 bel := ⟨hg.os.trans h.bel.os, hg.tape.trans h.bel.tape, hg.output.trans h.bel.output, Nat.le_trans h.bel.size hg.size, fun k hk => (hg.block k (Nat.lt_of_lt_of_le hk h.bel.size) (fun e => by have := ho.lt e.symm; omega)).trans (h.bel.block k hk)⟩
 row := by
  obtain ⟨f, ⟨cc, hh, h1, h2⟩, hq⟩ := h.row
  refine ⟨f, World.rowIs.of_block ⟨cc, hh, h1, h2⟩ (hg.block _ (lt_of_block hh) ?_), hq⟩
  exact ho.typed hh (by decide)
theorem Lw.mark {w : World} {b : Option Addr} {n c2 U : Nat} {q : Nat → Bool} {wr : World} (h : Lw w b n c2 U q wr) (hU : w.heap.size + 1 < U) (m : Nat) : Lw w b n c2 U (fun j => if j = m then true else q j) (wr.setCell ⟨U, m, none⟩ (.bool true)) where
 box := by rw [heap_setCell_other _ _ _ _ (by simp; omega)]; exact h.box
 non := by rw [heap_setCell_other _ _ _ _ (by simp; omega)]; exact h.non
 bel := h.bel.setCell (by simp; omega) _
 row := by
  obtain ⟨f, hf, hq⟩ := h.row
  refine ⟨_, World.rowIs.set hf m (.bool true), fun j hj => ?_⟩
  by_cases e : j = m
  ·simp [e]
  ·simp [e, hq j hj]
theorem OW.mono {w : World} {B B' : Nat} {v : Value} {xs : List Int} (h : OW w B v xs) (hB : B' ≤ B) : OW w B' v xs := by
 refine ⟨h.1, ?_⟩
 rcases h.2 with h | ⟨g, cap, cur, h1, h2, h3⟩
 ·exact .inl h
 ·exact .inr ⟨g, cap, cur, h1, Nat.le_trans hB h2, h3⟩
theorem OW.mark {w : World} {B : Nat} {v : Value} {xs : List Int} (h : OW w B v xs) {U : Nat} {f : Nat → Value} {n : Nat} (hr : w.rowIs U 4 n f) (i : Nat) (x : Value) : OW (w.setCell ⟨U, i, none⟩ x) B v xs := by
 obtain ⟨cc, hh, -⟩ := hr
 have hne := h.typed hh (by decide)
 refine World.ownsRow.kept (row := some U) h ⟨rfl, rfl, rfl, by simp, fun k hk hn => heap_setCell_other _ _ _ _ (fun e => hn (by simp at e; rw [e]))⟩ (.inr (fun e => hne e.symm))

set_option maxHeartbeats 1000000 in
theorem l3Widths_yes (a b : Option Addr) (c c2 n : Nat) (ds : List Dc) (xs : List Tg) (w : World) (hr : RdD w a ds) (hs : RdT w b xs) (hn : xs.length = n) (hok : dclR ds = true ∧ 1 ≤ n ∧ n ≤ 400) :
  Calls Tryz.prog 95 #[.slice a ds.length c, .agg #[.slice b n c2]] w fun e w' => ∃ v, e = .returned v ∧ OW w' (w.heap.size + 1) v (widthsR ds (xs.map Tg.ct)) ∧ Below w.heap.size w w' := by
 have hl1 := hr.1
 have hl2 := hs.1
 rw [hn] at hl2
 have HR := kide hr
 have HS := kide hs
 have HN := kide hn
 have hb1 : Below w.heap.size w (w.alloc (Obj.cells #[.slice b n c2] 28)) := (Below.refl _ _).alloc (Nat.le_refl _) _
 have hb2 : Below w.heap.size w ((w.alloc (Obj.cells #[.slice b n c2] 28)).alloc (Obj.cells #[] 2)) := hb1.alloc (by simp) _
 have B2 := kide hb2
 have HDK := kide (fun u (hu : Below w.heap.size w u) => specDecls_any a c ds u (hr.later hu))
 generalize hZ : widthsR ds (xs.map Tg.ct) = Z
 have HZ := kide hZ
 clear hr hs hn hb1 hb2 hZ
 go_enter Tryz.func95, Tryz.ntmps95
 go_wp2_with fail
 refine Calls.mono (HDK.out _ B2.out) ?_
 rintro e w1 ⟨rfl, hb1⟩
 have c1 := kcell hb1 w.heap.size 0 (by simp; omega)
 have n1 : w1.heap[w.heap.size + 1]? = some (.cells #[] 2 (0, 0)) := by
  rw [hb1.block _ (by simp)]
  have h := heap_alloc_new (w.alloc (Obj.cells #[.slice b n c2] 28)) (Obj.cells #[] 2)
  simpa using h
 have B1 := kide (B2.out.trans (hb1.mono B2.out.size))
 have HBX : Hid (w1.heap[w.heap.size]? = some (.cells #[.slice b n c2] 28 (0, 0))) := by
  show w1.heap[w.heap.size]? = _
  rw [hb1.block _ (by simp; omega)]
  have h := heap_alloc_new w (Obj.cells #[.slice b n c2] 28)
  rw [← h]
  exact ((Below.refl _ _).alloc (B := (w.alloc (Obj.cells #[.slice b n c2] 28)).heap.size) (Nat.le_refl _) _).block _ (by simp)
 have z1 : w.heap.size + 1 < w1.heap.size := lt_of_block n1
 have zz : w.heap.size < w1.heap.size := by omega
 simp at c1
 clear hb1 B2
 have ON1 : Hid (OW w1 (w.heap.size + 1) (.slice (some ⟨w.heap.size + 1, 0, none⟩) 0 0) []) := ⟨rfl, .inr ⟨w.heap.size + 1, 0, #[], rfl, Nat.le_refl _, n1, Nat.le_refl _, by unfold maxLen; omega, rfl, rfl⟩⟩
 obtain ⟨hd, hn1, hn4⟩ := hok
 rw [hd]
 have hmk := fun kl kc w => run_make_row' (P := Tryz.prog) 162 4 (.bool false) 1 Tryz.underlying162 Tryz.infoBool rfl kl kc n (by omega) (by omega) w
 have HD := kide hd
 clear hd
 go_wp2_with fail
 generalize hNS : xs.map Tg.ct = ns at *
 have HNS := kide hNS
 have hnl : ns.length = n := by rw [← hNS, List.length_map]; exact HN.out
 have HNL := kide hnl
 have hok2 : (match goR ds [] ns with
  | none => []
  | some wide => if (List.range (n - 1)).all (usedR ns) = true then wide else []) = Z := by
  have h := HZ.out
  rw [widthsR, if_pos (by simp only [Bool.and_eq_true, decide_eq_true_eq, hnl]; exact ⟨⟨HD.out, hn1⟩, hn4⟩), hnl] at h
  exact h
 have HOK2 := kide hok2
 clear hok2 HZ HDK hNS hnl
 have ob3 : Below w1.heap.size w1 ((w1.alloc (Obj.cells #[] 2)).alloc (Obj.cells (madeCells #[.bool false] n) 4)) := ((Below.refl _ _).alloc (Nat.le_refl _) _).alloc (by simp) _
 have hrow := krow (heap_alloc_new (w1.alloc (Obj.cells #[] 2)) (.cells (madeCells #[.bool false] n) 4))
 rw [size_madeCells] at hrow
 have hx1 : w1.heap[w.heap.size]? = some (.cells #[.slice b n c2] 28 (0, 0)) := HBX.out
 have L0 : Hid (Lw w b n c2 (w1.heap.size + 1) (usedR (ns.take 0)) ((w1.alloc (Obj.cells #[] 2)).alloc (Obj.cells (madeCells #[.bool false] n) 4))) := by
  refine ⟨by rw [ob3.block _ zz]; exact hx1, by rw [ob3.block _ z1]; exact n1, B1.out.trans (ob3.mono B1.out.size), ⟨_, by simpa using hrow, fun j hj => ?_⟩⟩
  have e : (madeCells #[.bool false] n)[j]? = some (.bool false) := by simp [madeCells, hj, Nat.mod_one]
  simp [usedR, e]
 have W0 : Hid (OW ((w1.alloc (Obj.cells #[] 2)).alloc (Obj.cells (madeCells #[.bool false] n) 4)) w1.heap.size (.slice (some ⟨w1.heap.size, 0, none⟩) 0 0) []) := (OW.fresh w1 w1.heap.size (Nat.le_refl _)).later ((Below.refl _ _).alloc (Nat.le_refl _) _)
 generalize (w1.alloc (Obj.cells #[] 2)).alloc (Obj.cells (madeCells #[.bool false] n) 4) = w3 at *
 clear hrow ob3 hmk c1 n1 ON1 hx1 HBX
 have zU : w.heap.size + 1 < w1.heap.size + 1 := by omega
 generalize hU : w1.heap.size + 1 = U at *
 generalize hG : goR ds [] ns = G at *
 have HG := kide hG
 clear hG
 go_loopw [6, 8] (fun l i wr => ∃ (k : Nat) (wide : List Int), k ≤ n ∧ i = .int .i64 (k : Int) ∧ OW wr w1.heap.size l wide ∧ wide.length = k ∧ (∀ x ∈ wide, 1 ≤ x ∧ x ≤ 4096) ∧ goR ds wide (ns.drop k) = G ∧ Lw w b n c2 U (usedR (ns.take k)) wr ∧ w1.heap.size ≤ wr.heap.size) (fun _ i _ => n - (intOf i).toNat)
 case atStart => exact ⟨0, [], Nat.zero_le _, rfl, W0.out, rfl, by simp, HG.out, L0.out, by have := L0.out.lt; omega⟩
 case round =>
  obtain ⟨k, wide, hk, rfl, hown, hwl, hwd, hgo, hlw, hsz⟩ := hrel
  have HOW := kide hown
  have HWL := kide hwl
  have HWD := kide hwd
  have HGO := kide hgo
  have HLW := kide hlw
  have cb := hlw.cell
  obtain ⟨ya, yc, rfl, hyr⟩ := hown.rd (by omega) (fun x hx => by have := hwd x hx; unfold in64; omega)
  have HYR := kide hyr
  clear hyr
  by_cases hlt : k < n
  ·obtain ⟨-, h | ⟨b2, o2, rfl, hc2⟩⟩ := HS.out
   ·have := HN.out; subst h; simp at this; omega
   obtain ⟨⟨s1, wa, wc, ka, kc⟩, gx⟩ : ∃ x, xs[k]? = some x := ⟨xs[k]'(by rw [HN.out]; exact hlt), List.getElem?_eq_getElem _⟩
   have gn : ns[k]? = some s1 := by rw [← HNS.out, List.getElem?_map, gx]; rfl
   obtain ⟨⟨p0, p1, p2, p3, p4, p5, p6⟩, pr, pi, p64⟩ := (hc2 k _ gx).later hlw.bel
   simp only [Tg.hd] at p0 p1 p2 p3 p4 p5 p6 pr pi p64
   have HFM := kide (l3Form_any a ds.length c k s1 wa ka wc kc wr pr pi (by omega) hl1)
   have GN := kide gn
   have P64 := kide p64
   have PR := kide (fun u (hu : Below wr.heap.size wr u) => pr.later hu)
   have PI := kide (fun u (hu : Below wr.heap.size wr u) => pi.later hu)
   have HC0 := kide (hc2 k _ gx)
   have HCT := kide (fun u (hu : Below wr.heap.size wr u) => (hc2 k _ gx).later (hlw.bel.trans (hu.mono hlw.bel.size)))
   generalize hV : (kidsR k s1.ks && fieldR s1 && manyR ds.length s1) = V at *
   have HV := kide hV
   have i0 : (k : Int) < (n : Int) := by omega
   clear hV hc2 gx gn p64 pr pi hown hwl hwd hgo hlw
   go_wp2_with fail
   refine Calls.mono HFM.out ?_
   rintro e w4 ⟨rfl, hb4⟩
   have L4 := kide (HLW.out.later hb4)
   have O4 := kide (HOW.out.later hb4)
   have cb4 := L4.out.cell
   cases V with
   | false =>
    clear hb4 HFM
    go_wp2_with fail
    go_ret
    refine ⟨_, rfl, ?_, L4.out.bel⟩
    have hst : stepR ds wide s1 = none := by
     unfold stepR
     rw [HWL.out, HV.out]
     rfl
    have hz := HOK2.out
    rw [← HGO.out, goR_none GN.out hst] at hz
    rw [← hz]
    exact L4.out.none'
   | true =>
    obtain ⟨⟨p0, p1, p2, p3, p4, p5, p6⟩, -⟩ := HCT.out w4 hb4
    simp only [Tg.hd] at p0 p1 p2 p3 p4 p5 p6
    have hkk : kidsR wide.length s1.ks = true := by
     have h := HV.out
     simp only [Bool.and_eq_true] at h
     rw [HWL.out]; exact h.1.1
    have hvv : s1.op = 1 → 0 ≤ s1.vr ∧ s1.vr ≤ (ds.length : Int) - 1 := by
     have h := HV.out
     simp only [Bool.and_eq_true] at h
     exact manyR_var h.2
    have HWI := kide (l3Wide_any a c ds s1 wa ka ya wc kc yc wide w4 (HR.out.later L4.out.bel) (PR.out w4 hb4) (PI.out w4 hb4) (HYR.out.later hb4) HWD.out hkk hvv P64.out.2.2.1 P64.out.2.2.2.1)
    have PR4 := kide (fun u (hu : Below w4.heap.size w4 u) => (PI.out w4 hb4).later hu)
    have HCT4 := kide (fun u (hu : Below w4.heap.size w4 u) => (HCT.out w4 hb4).later hu)
    clear hb4 HFM hkk hvv HCT PR PI HYR
    generalize hX : wideR ds s1 (sumR wide s1.ks 0) = X at *
    have HX := kide hX
    clear hX
    go_wp2_with fail
    refine Calls.mono HWI.out ?_
    rintro e w5 ⟨rfl, hb5⟩
    have L5 := kide (L4.out.later hb5)
    have O5 := kide (O4.out.later hb5)
    have cb5 := L5.out.cell
    have HCT5 := kide (HCT4.out w5 hb5)
    have PI5 := kide (PR4.out w5 hb5)
    clear hb5 HWI cb4 L4 O4 HCT4 PR4
    have HLI := kide (fun u => l1In_any X 1 4096 u)
    by_cases hX1 : 1 ≤ X ∧ X ≤ 4096
    ·rw [decide_eq_true hX1] at HLI
     have hst : stepR ds wide s1 = some X := by
      unfold stepR
      rw [HWL.out, HV.out, HX.out, if_pos rfl, if_pos hX1]
     have HST := kide hst
     have HX1 := kide hX1
     have hz5 : w1.heap.size ≤ w5.heap.size := by have := L5.out.lt; omega
     have hwl2 : wide.length ≤ 1073741824 := by have := HWL.out; omega
     clear hst hX1
     go_wp2_with (first | (go_at_call 73; refine Calls.mono (HLI.out _) ?_; rintro e w6 ⟨rfl, rfl⟩) | (at_builtin; refine wpList_appW rfl _ _ rfl w1.heap.size _ wide X rfl (World.ownsRow.alloc O5.out _) _ rfl (by simp) hwl2 (by simp; omega) ?_))
     intro v7 w7 hos hg
     have L7 := kide ((L5.out.later ((Below.refl _ _).alloc (Nat.le_refl _) (Obj.cells #[.int .i64 X] 2))).grown (World.ownsRow.alloc O5.out _) (by omega) hg)
     have O7 := kide hos
     clear hos hg L5 O5 cb5 HCT5 PI5 HLI
     have cb7 := L7.out.cell
     go_wp2_with fail
     have hkb : ∀ y ∈ s1.ks, 0 ≤ y ∧ y ≤ (k : Int) - 1 := by
      have h := HV.out
      simp only [Bool.and_eq_true] at h
      have h1 := h.1.1
      rw [kidsR, List.all_eq_true] at h1
      intro y hy
      simpa using h1 y hy
     have HKB := kide hkb
     have hks : s1.ks.length ≤ 1048576 := HC0.out.2.2.1.1
     clear hkb cb7 cb p0 p1 p2 p3 p4 p5 p6
     obtain ⟨wo, hwo⟩ : ∃ wo, wo = wr := ⟨_, rfl⟩
     subst hwo
     clear HOW HLW
     go_loopw [10] (fun i wr => ∃ t : Nat, t ≤ s1.ks.length ∧ i = .int .i64 (t : Int) ∧ OW wr w1.heap.size v7 (wide ++ [X]) ∧ Lw w (some ⟨b2, o2, none⟩) n c2 U (fun j => usedR (ns.take k) j || (s1.ks.take t).any (fun y => decide (y = (j : Int)))) wr) (fun i _ => s1.ks.length - (intOf i).toNat)
     case atStart => exact ⟨0, Nat.zero_le _, rfl, O7.out, by simpa using L7.out⟩
     case round =>
      obtain ⟨t, ht, rfl, hot, hlt2⟩ := hrel
      have HOT := kide hot
      have HLT := kide hlt2
      have cbt := hlt2.cell
      obtain ⟨⟨-, -, -, -, -, -, p6⟩, -, pi, -⟩ := HC0.out.later hlt2.bel
      simp only [Tg.hd] at p6 pi
      clear hot
      by_cases htl : t < s1.ks.length
      ·obtain ⟨-, -, h | ⟨b3, o3, rfl, hc3⟩⟩ := pi
       ·rw [h] at htl; simp at htl
       have g0 := hc3 t htl
       have hym : s1.ks.getD t 0 ∈ s1.ks := by
        have : s1.ks.getD t 0 = s1.ks[t] := by simp [List.getD, htl]
        rw [this]; exact List.getElem_mem htl
       have hyb := HKB.out _ hym
       have hgt : s1.ks[t]? = some (s1.ks.getD t 0) := by simp [List.getD, htl]
       have HGT := kide hgt
       clear hc3 hym hgt
       generalize s1.ks.getD t 0 = y at *
       obtain ⟨m, rfl⟩ : ∃ m : Nat, y = (m : Int) := ⟨y.toNat, by omega⟩
       have hm : m < n := by omega
       obtain ⟨f, hrw, hfq⟩ := hlt2.row
       have q0 := hrw.cell (i := m) hm
       have r0 := hrw.frozen m
       have HRW := kide hrw
       have j0 : (t : Int) < (s1.ks.length : Int) := by omega
       clear hrw hfq hlt2 hyb
       generalize f m = fm at q0
       go_wp2_with fail
       go_roundw
       case rel =>
        refine ⟨t + 1, by omega, by go_num, HOT.out.mark HRW.out _ _, ?_⟩
        have h := HLT.out.mark (by omega) m
        refine cast ?_ h
        congr 1
        funext j
        rw [List.take_add_one, HGT.out, List.any_append]
        by_cases e : j = m
        ·subst e; simp
        ·have e2 : ¬ ((m : Int) = (j : Int)) := by omega
         simp [e, e2]
       case measure => simp [intOf]; omega
      ·have e : t = s1.ks.length := by omega
       subst e
       clear hlt2 pi
       go_wp2_with fail
       have hzU := HLT.out.lt
       refine ⟨⟨k + 1, wide ++ [X], by omega, by go_num, HOT.out, by simp [HWL.out], ?_, ?_, ?_, by omega⟩, ?_⟩
       ·intro x hx
        rcases List.mem_append.1 hx with hx | hx
        ·exact HWD.out x hx
        ·rw [List.mem_singleton.1 hx]; exact HX1.out
       ·rw [← goR_some GN.out HST.out]; exact HGO.out
       ·have h := HLT.out
        rw [List.take_length] at h
        refine cast ?_ h
        congr 1
        funext j
        rw [List.take_add_one, GN.out]
        simp [usedR, List.any_append]
       ·simp [intOf]; omega
    ·rw [decide_eq_false hX1] at HLI
     have HX1 := kide hX1
     clear hX1
     go_wp2_with (go_at_call 73; refine Calls.mono (HLI.out _) ?_; rintro e w6 ⟨rfl, rfl⟩)
     go_ret
     refine ⟨_, rfl, ?_, L5.out.bel⟩
     have hst : stepR ds wide s1 = none := by
      unfold stepR
      rw [HWL.out, HV.out, HX.out, if_pos rfl, if_neg HX1.out]
     have hz := HOK2.out
     rw [← HGO.out, goR_none GN.out hst] at hz
     rw [← hz]
     exact L5.out.none'
  ·have e : k = n := by omega
   subst e
   have hgo2 : G = some wide := by
    have h := HGO.out
    have hl := HNL.out
    rw [List.drop_of_length_le (by omega), goR] at h
    exact h.symm
   have hL := HLW.out
   rw [List.take_of_length_le (by have := HNL.out; omega)] at hL
   have HLE := kide hL
   have hz := HOK2.out
   rw [hgo2] at hz
   simp only [] at hz
   have HZ3 := kide hz
   clear hz hgo2 hL hown hwl hwd hgo hlw
   go_wp2_with fail
   obtain ⟨wo, hwo⟩ : ∃ wo, wo = wr := ⟨_, rfl⟩
   subst hwo
   go_loopw [11] (fun i wr => ∃ t : Nat, t ≤ k - 1 ∧ i = .int .i64 (t : Int) ∧ (∀ j, j < t → usedR ns j = true) ∧ wr = wo) (fun i _ => k - (intOf i).toNat)
   case atStart => exact ⟨0, Nat.zero_le _, rfl, fun j hj => by omega, rfl⟩
   case round =>
    obtain ⟨t, ht, rfl, hall, rfl⟩ := hrel
    have HALL := kide hall
    clear hall
    by_cases htl : t + 1 < k
    ·obtain ⟨f, hrw, hfq⟩ := HLE.out.row
     have q0 := hrw.cell (i := t) (by omega)
     rw [hfq t (by omega)] at q0
     clear hrw hfq
     cases hu : usedR ns t with
     | true =>
      rw [hu] at q0
      have HU := kide hu
      clear hu
      have i1 : (t : Int) + 1 < (k : Int) := by omega
      go_wp2_with fail
      go_roundw
      case rel =>
       refine ⟨t + 1, by omega, by go_num, fun j hj => ?_, by first | rfl | trivial⟩
       by_cases e : j = t
       ·rw [e]; exact HU.out
       ·exact HALL.out j (by omega)
      case measure => simp [intOf]; omega
     | false =>
      rw [hu] at q0
      have HU := kide hu
      clear hu
      have i1 : (t : Int) + 1 < (k : Int) := by omega
      go_wp2_with fail
      go_ret
      refine ⟨_, rfl, ?_, HLE.out.bel⟩
      have h := HZ3.out
      rw [if_neg (by
       intro hh
       rw [List.all_eq_true] at hh
       have := hh t (by rw [List.mem_range]; omega)
       rw [HU.out] at this
       cases this)] at h
      rw [← h]
      exact HLE.out.none'
    ·have i1 : ¬ (t : Int) + 1 < (k : Int) := by omega
     have hte : t = k - 1 := by omega
     have HTE := kide hte
     clear htl hte
     go_wp2_with fail
     go_ret
     refine ⟨_, rfl, ?_, HLE.out.bel⟩
     have h := HZ3.out
     rw [if_pos (by
      rw [List.all_eq_true]
      intro j hj
      rw [List.mem_range] at hj
      exact HALL.out j (by have := HTE.out; omega))] at h
     rw [← h]
     exact HOW.out.mono (by omega)

theorem l3Widths_any (a b : Option Addr) (c c2 n : Nat) (ds : List Dc) (xs : List Tg) (w : World) (hr : RdD w a ds) (hs : RdT w b xs) (hn : xs.length = n) :
  Calls Tryz.prog 95 #[.slice a ds.length c, .agg #[.slice b n c2]] w fun e w' => ∃ v, e = .returned v ∧ OW w' (w.heap.size + 1) v (widthsR ds (xs.map Tg.ct)) ∧ Below w.heap.size w w' := by
 by_cases h : dclR ds = true ∧ 1 ≤ n ∧ n ≤ 400
 ·exact l3Widths_yes a b c c2 n ds xs w hr hs hn h
 ·exact l3Widths_no a b c c2 n ds xs w hr hs hn h
theorem goR_len {ds : List Dc} {wide out : List Int} {ns : List Tc} (h : goR ds wide ns = some out) : out.length = wide.length + ns.length ∧ ((∀ x ∈ wide, 1 ≤ x ∧ x ≤ 4096) → ∀ x ∈ out, 1 ≤ x ∧ x ≤ 4096) := by
 induction ns generalizing wide with
 | nil => rw [goR] at h; cases h; exact ⟨by simp, fun h => h⟩
 | cons n t ih =>
  rw [goR] at h
  cases hst : stepR ds wide n with
  | none => rw [hst] at h; cases h
  | some v =>
   rw [hst] at h
   obtain ⟨h1, h2⟩ := ih h
   refine ⟨by rw [h1]; simp; omega, fun hw => h2 (fun x hx => ?_)⟩
   rcases List.mem_append.1 hx with hx | hx
   ·exact hw x hx
   ·rw [List.mem_singleton.1 hx]; exact stepR_range hst
theorem widthsR_bounds (ds : List Dc) (ns : List Tc) : (widthsR ds ns).length ≤ 400 ∧ ∀ x ∈ widthsR ds ns, 1 ≤ x ∧ x ≤ 4096 := by
 unfold widthsR
 split
 ·rename_i h
  simp only [Bool.and_eq_true, decide_eq_true_eq] at h
  cases hg : goR ds [] ns with
  | none => simp
  | some wide =>
   obtain ⟨h1, h2⟩ := goR_len hg
   simp only []
   split
   ·exact ⟨by simp at h1; omega, h2 (by simp)⟩
   ·simp
 ·simp
def widR (ds : List Dc) (ns : List Tc) : Int := if (widthsR ds ns).length = 0 then -1 else (widthsR ds ns).getD ((widthsR ds ns).length - 1) 0
theorem specWidth_any (a b : Option Addr) (c c2 n : Nat) (ds : List Dc) (xs : List Tg) (w : World) (hr : RdD w a ds) (hs : RdT w b xs) (hn : xs.length = n) :
  Calls Tryz.prog 72 #[.slice a ds.length c, .agg #[.slice b n c2]] w fun e w' => e = .returned (.int .i64 (widR ds (xs.map Tg.ct))) ∧ Below w.heap.size w w' := by
 have HC := kide (l3Widths_any a b c c2 n ds xs)
 have hb0 : Below w.heap.size w (w.alloc (Obj.cells #[.slice b n c2] 28)) := (Below.refl _ _).alloc (Nat.le_refl _) _
 obtain ⟨hbl, hbd⟩ := widthsR_bounds ds (xs.map Tg.ct)
 have HA := kide (HC.out w hr hs hn)
 have HA' := kide (HC.out _ (hr.later hb0) (hs.later hb0) hn)
 unfold widR
 generalize widthsR ds (xs.map Tg.ct) = W at *
 have HBD := kide hbd
 have B0 := kide hb0
 clear HC hr hs hn hbd hb0
 generalize hZ : (if W.length = 0 then (-1 : Int) else W.getD (W.length - 1) 0) = Z
 have HZ := kide hZ
 clear hZ
 go_enter Tryz.func72, Tryz.ntmps72
 go_wp2_with fail
 first
  | refine Calls.mono HA'.out ?_
  | refine Calls.mono HA.out ?_
 rintro e w1 ⟨v, rfl, ho, hb1⟩
 obtain ⟨ya, yc, rfl, hrd⟩ := ho.rd (by omega) (fun x hx => by have := HBD.out x hx; unfold in64; omega)
 have HB1 : Hid (Below w.heap.size w w1) := by first | exact B0.out.trans (hb1.mono (by simp)) | exact hb1
 clear ho hb1 HA HA'
 by_cases h0 : W.length = 0
 ·have h := HZ.out
  rw [if_pos h0] at h
  subst h
  rw [h0]
  clear HZ hrd
  go_wp2_with fail
  go_ret
  exact ⟨rfl, HB1.out⟩
 ·have h := HZ.out
  rw [if_neg h0] at h
  obtain ⟨-, -, hn | ⟨b3, o3, rfl, hc3⟩⟩ := hrd
  ·rw [hn] at h0; simp at h0
  have g0 := hc3 (W.length - 1) (by omega)
  rw [h] at g0
  obtain ⟨l, hl⟩ : ∃ l, W.length = l + 1 := ⟨W.length - 1, by omega⟩
  rw [hl] at g0 ⊢
  have hl4 : l ≤ 400 := by omega
  simp only [Nat.add_sub_cancel] at g0
  clear hc3 HZ h h0 HBD hbl hl
  go_wp2_with fail
  go_ret
  exact ⟨rfl, HB1.out⟩

theorem getD_left {α : Type} (l m : List α) (i : Nat) (d : α) (h : i < l.length) : (l ++ m).getD i d = l.getD i d := by simp [List.getD, List.getElem?_append, h]
theorem getD_right {α : Type} (l m : List α) (i : Nat) (d : α) (h : l.length ≤ i) : (l ++ m).getD i d = m.getD (i - l.length) d := by simp [List.getD, List.getElem?_append, Nat.not_lt.2 h]
theorem goR_kids {ds : List Dc} : ∀ (ns : List Tc) (wide r : List Int), goR ds wide ns = some r → ∀ (k : Nat) (n : Tc), ns[k]? = some n → kidsR (wide.length + k) n.ks = true
 | [], _, _, _ => by simp
 | m :: t, wide, r, h => by
  rw [goR] at h
  cases hst : stepR ds wide m with
  | none => rw [hst] at h; cases h
  | some v =>
   rw [hst] at h
   intro k n hk
   cases k with
   | zero =>
    simp at hk
    subst hk
    have := stepR_kids hst
    simp only [Bool.and_eq_true] at this
    exact this.1.1
   | succ k =>
    have := goR_kids t _ r h k n (by simpa using hk)
    rw [show wide.length + (k + 1) = (wide ++ [v]).length + k by simp; omega]
    exact this
theorem right_kids {ds : List Dc} {ns : List Tc} (h : ¬ (widthsR ds ns).length = 0) : 1 ≤ ns.length ∧ ns.length ≤ 400 ∧ (widthsR ds ns).length = ns.length ∧ ∀ (k : Nat) (n : Tc), ns[k]? = some n → ∀ j ∈ n.ks, 0 ≤ j ∧ j < (k : Int) := by
 unfold widthsR at h ⊢
 split at h
 ·rename_i hc
  simp only [Bool.and_eq_true, decide_eq_true_eq] at hc
  rw [if_pos (by simp [hc])]
  cases hg : goR ds [] ns with
  | none => rw [hg] at h; simp at h
  | some wide =>
   rw [hg] at h
   simp only [] at h ⊢
   split at h
   ·rename_i hu
    rw [if_pos hu]
    refine ⟨hc.1.2, hc.2, by simpa using (goR_len hg).1, fun k n hk j hj => ?_⟩
    have := goR_kids ns [] wide hg k n hk
    simp only [List.length_nil, Nat.zero_add] at this
    unfold kidsR at this
    rw [List.all_eq_true] at this
    have := this j hj
    simp only [decide_eq_true_eq] at this
    omega
   ·simp at h
 ·simp at h


def Ahd (ns : List Tc) : Prop := ∀ (k : Nat) (n : Tc), ns[k]? = some n → ∀ j ∈ n.ks, 0 ≤ j ∧ j < (k : Int)
theorem Ahd.snoc {ns : List Tc} {x : Tc} (h : Ahd ns) (hx : ∀ j ∈ x.ks, 0 ≤ j ∧ j < (ns.length : Int)) : Ahd (ns ++ [x]) := by
 intro k n hk j hj
 by_cases hl : k < ns.length
 ·rw [List.getElem?_append_left hl] at hk
  exact h k n hk j hj
 ·rw [List.getElem?_append_right (by omega)] at hk
  have h0 : k - ns.length = 0 := by
   have := (List.getElem?_eq_some_iff.1 hk).1
   simp at this
   omega
  rw [h0] at hk
  simp at hk
  subst hk
  have := hx j hj
  omega
theorem gD_lt {l : List Int} {i : Nat} (h : i < l.length) : l.getD i 0 ∈ l := by
 rw [List.getD_eq_getElem?_getD, List.getElem?_eq_getElem h]
 exact List.getElem_mem h

def setK (us : List Bool) (ks : List Int) : List Bool := ks.foldl (fun u k => u.set k.toNat true) us
theorem setK_get (ks : List Int) : ∀ (us : List Bool) (j : Nat), j < us.length → ((setK us ks).getD j false = true ↔ us.getD j false = true ∨ ∃ k ∈ ks, k.toNat = j) := by
 induction ks with
 | nil => intro us j hj; simp [setK]
 | cons k t ih =>
  intro us j hj
  have e : setK us (k :: t) = setK (us.set k.toNat true) t := rfl
  rw [e, ih _ j (by rw [List.length_set]; exact hj)]
  have h2 : (us.set k.toNat true).getD j false = true ↔ us.getD j false = true ∨ k.toNat = j := by
   by_cases hk : k.toNat = j
   ·subst hk
    simp [List.getD, hj]
   ·simp [List.getD, List.getElem?_set_ne hk, hk]
  rw [h2]
  simp only [List.mem_cons, exists_eq_or_imp]
  exact or_assoc
def puStep (ns : List Tc) (us : List Bool) (i : Nat) : List Bool :=
 match ns[i]? with
 | some n => if us.getD i false = true then setK us n.ks else us
 | none => us
def puDn (ns : List Tc) : Nat → List Bool → List Bool
 | 0, us => us
 | i + 1, us => puDn ns i (puStep ns us i)
def usedL (ns : List Tc) (root : Nat) : List Bool := puDn ns ns.length ((List.replicate ns.length false).set root true)
def pkStep (used : List Bool) (i : Nat) (st : List Tc × List Int) (n : Tc) : List Tc × List Int :=
 if used.getD i false = true then (st.1 ++ [mvT st.2 n], st.2.set i (st.1.length : Int)) else st
def pkTo (ns : List Tc) (used : List Bool) : Nat → List Tc × List Int
 | 0 => ([], List.replicate ns.length 0)
 | k + 1 => match ns[k]? with
  | some n => pkStep used k (pkTo ns used k) n
  | none => pkTo ns used k
theorem pkTo_succ {ns : List Tc} {used : List Bool} {k : Nat} {n : Tc} (h : ns[k]? = some n) : pkTo ns used (k + 1) = pkStep used k (pkTo ns used k) n := by
 rw [pkTo, h]
def prR (ns : List Tc) (root : Nat) : List Tc := (pkTo ns (usedL ns root) ns.length).1
def htN (hs : List Nat) (ks : List Int) : Nat := 1 + (ks.map fun k => hs.getD k.toNat 0).foldr max 0
def htL (ns : List Tc) : Nat → List Nat
 | 0 => []
 | k + 1 => match ns[k]? with
  | some n => htL ns k ++ [htN (htL ns k) n.ks]
  | none => htL ns k
def hs (ns : List Tc) : List Nat := htL ns ns.length
def bls (us : List Bool) : Array Value := (us.map Value.bool).toArray
theorem bls_get (us : List Bool) (i : Nat) (h : i < us.length) : (bls us)[i]? = some (.bool (us.getD i false)) := by simp [bls, List.getD, h]
theorem bls_set (us : List Bool) (i : Nat) (x : Bool) : (bls us).setIfInBounds i (.bool x) = bls (us.set i x) := by
 simp [bls, List.setIfInBounds_toArray, List.map_set]
theorem bls_made (n : Nat) : madeCells #[.bool false] n = bls (List.replicate n false) := by
 apply Array.toList_inj.1
 rw [toList_madeCells_one]
 simp [bls]
theorem ot_low {w : World} {B B' : Nat} {v : Value} {l : List Tg} (h : OT w B v l) (hB : B' ≤ B) : OT w B' v l := by
 refine ⟨h.1, ?_⟩
 rcases h.2 with h0 | ⟨g, cap, cur, rfl, hg, r⟩
 ·exact .inl h0
 ·exact .inr ⟨g, cap, cur, rfl, Nat.le_trans hB hg, r⟩
theorem nw_low {w : World} {B B' : Nat} {a : Option Addr} {xs : List Nat} (h : Nw w B a xs) (hB : B' ≤ B) : Nw w B' a xs := h.mono hB
theorem ni_low {w : World} {B B' : Nat} {a : Option Addr} {xs : List Int} (h : Ni w B a xs) (hB : B' ≤ B) : Ni w B' a xs := h.mono hB

structure PuM (w wr : World) (U P n : Nat) (us : List Bool) (to : List Int) : Prop where
 fl : Bz wr U (bls us) 4
 ul : us.length = n
 nt : Bz wr P (i64s to) 2
 tl : to.length = n
 bl : Below w.heap.size w wr
 UP : w.heap.size ≤ U ∧ w.heap.size ≤ P
theorem PuM.later {w wr wr' : World} {U P n : Nat} {us : List Bool} {to : List Int} (h : PuM w wr U P n us to) (hb : Below wr.heap.size wr wr') : PuM w wr' U P n us to :=
 ⟨h.fl.later hb, h.ul, h.nt.later hb, h.tl, h.bl.trans (hb.mono h.bl.size), h.UP⟩
theorem PuM.mark {w wr : World} {U P n : Nat} {us : List Bool} {to : List Int} (h : PuM w wr U P n us to) (j : Nat) : PuM w (wr.setCell ⟨U, j, none⟩ (.bool true)) U P n (us.set j true) to := by
 refine ⟨by rw [← bls_set]; exact h.fl.set j _, by rw [List.length_set]; exact h.ul, h.nt.other (fun e => ?_) j _, h.tl, h.bl.setCell h.UP.1 _, h.UP⟩
 have h1 := h.fl
 have h2 := h.nt
 unfold Bz at h1 h2
 rw [e, h1] at h2
 simp at h2
theorem PuM.cell {w wr : World} {U P n : Nat} {us : List Bool} {to : List Int} (h : PuM w wr U P n us to) {j : Nat} (hj : j < n) : wr.cell? ⟨U, j, none⟩ = some (.bool (us.getD j false)) ∧ wr.frozen? ⟨U, j, none⟩ = false := ⟨by rw [h.fl.cell, bls_get _ _ (by rw [h.ul]; exact hj)], h.fl.froz j⟩
theorem setK_take {us : List Bool} {ks : List Int} {t : Nat} {k : Int} (h : ks[t]? = some k) : setK us (ks.take (t + 1)) = (setK us (ks.take t)).set k.toNat true := by
 unfold setK
 rw [List.take_add_one, h, List.foldl_append]
 rfl
theorem OI.cell9 {w : World} {B g n c : Nat} {l : List Int} (h : OI w B (.slice (some ⟨g, 0, none⟩) n c) l) {i : Nat} (hi : i < l.length) : w.cell? ⟨g, i, none⟩ = some (.int .i64 (l.getD i 0)) := by
 rcases h.2 with ⟨e, -⟩ | ⟨g', cap, cur, e, hg, hh, hc1, hc2, hsz, hcur⟩
 ·cases e
 ·cases e
  have h3 : (cur.toList.take (l.length * 1))[i]? = (i64s l).toList[i]? := by rw [hcur]
  rw [List.getElem?_take, if_pos (by omega)] at h3
  simp only [Array.getElem?_toList] at h3
  rw [cell_of_row w _ i cur _ _ hh, h3, i64s_get _ _ hi]
theorem OI.froz9 {w : World} {B g n c : Nat} {l : List Int} (h : OI w B (.slice (some ⟨g, 0, none⟩) n c) l) (i : Nat) : w.frozen? ⟨g, i, none⟩ = false := by
 rcases h.2 with ⟨e, -⟩ | ⟨g', cap, cur, e, hg, hh, hc1, hc2, hsz, hcur⟩
 ·cases e
 ·cases e
  exact frozen_of_row w _ i _ _ hh
theorem OI.set9 {w : World} {B g n c : Nat} {l : List Int} (h : OI w B (.slice (some ⟨g, 0, none⟩) n c) l) {i : Nat} (hi : i < l.length) (x : Int) : OI (w.setCell ⟨g, i, none⟩ (.int .i64 x)) B (.slice (some ⟨g, 0, none⟩) n c) (l.set i x) := by
 rcases h.2 with ⟨e, -⟩ | ⟨g', cap, cur, e, hg, hh, hc1, hc2, hsz, hcur⟩
 ·cases e
 ·cases e
  refine ⟨by simp [i64s], .inr ⟨g, c, cur.setIfInBounds i (.int .i64 x), by simp, hg, heap_setCell_same w g i _ _ _ hh, by simpa using hc1, hc2, by simpa using hsz, ?_⟩⟩
  have e2 : (i64s (l.set i x)).toList = (i64s l).toList.set i (.int .i64 x) := by simp [i64s, List.map_set]
  rw [Array.toList_setIfInBounds, e2, ← hcur, List.take_set]
  simp
theorem OI.of_bz {w : World} {B P n : Nat} {to : List Int} (h : Bz w P (i64s to) 2) (hn : to.length = n) (hP : B ≤ P) (hn2 : n ≤ 1000000) : OI w B (.slice (some ⟨P, 0, none⟩) n n) to := by
 refine ⟨by simp [i64s], .inr ⟨P, n, i64s to, by rw [hn], hP, h, by omega, by unfold maxLen; omega, by simp [i64s, hn], ?_⟩⟩
 rw [List.take_of_length_le (by simp [i64s])]
theorem pkTo_len (ns : List Tc) (us : List Bool) : ∀ k, (pkTo ns us k).1.length ≤ k ∧ (pkTo ns us k).2.length = ns.length
 | 0 => by simp [pkTo]
 | k + 1 => by
  obtain ⟨h1, h2⟩ := pkTo_len ns us k
  rw [pkTo]
  split
  ·unfold pkStep
   split
   ·exact ⟨by simp; omega, by simpa using h2⟩
   ·exact ⟨by omega, h2⟩
  ·exact ⟨by omega, h2⟩
theorem pk_ok {ns : List Tc} {us : List Bool} (hok : ∀ n ∈ ns, okT n) (hl : ns.length ≤ 1000) (hA : Ahd ns) : ∀ k, k ≤ ns.length → ∀ n ∈ (pkTo ns us k).1, okT n := by
 have key : ∀ k, k ≤ ns.length → (∀ n ∈ (pkTo ns us k).1, okT n) ∧ ∀ y ∈ (pkTo ns us k).2, 0 ≤ y ∧ y ≤ 1000 := by
  intro k
  induction k with
  | zero => intro _; exact ⟨by simp [pkTo], fun y hy => by simp [pkTo] at hy; omega⟩
  | succ k ih =>
   intro h
   have hk2 : ns[k]? = some (ns[k]'(by omega)) := List.getElem?_eq_getElem (by omega)
   obtain ⟨i1, i2⟩ := ih (by omega)
   have hpl := pkTo_len ns us k
   rw [pkTo_succ hk2]
   have hm : ns[k]'(by omega) ∈ ns := List.getElem_mem _
   have hkid := hA k _ hk2
   generalize ns[k]'(by omega) = n at hm hkid
   generalize pkTo ns us k = st at i1 i2 hpl
   unfold pkStep
   split
   ·refine ⟨fun m hm' => ?_, fun y hy => ?_⟩
    ·rcases List.mem_append.1 hm' with h9 | h9
     ·exact i1 m h9
     ·simp at h9
      subst h9
      obtain ⟨k1, k2, k3, k4, k5, k6, k7, k8, k9⟩ := hok n hm
      refine ⟨k1, k2, k3, k4, k5, k6, k7, by simpa [mvT] using k8, fun y hy => ?_⟩
      obtain ⟨q, hq, rfl⟩ := List.mem_map.1 hy
      have h8 := hkid q hq
      have := i2 _ (gD_lt (l := st.2) (i := q.toNat) (by omega))
      exact ⟨by omega, by omega⟩
    ·rcases List.mem_or_eq_of_mem_set hy with h9 | h9
     ·exact i2 y h9
     ·subst h9
      omega
   ·exact ⟨i1, i2⟩
 exact fun k h => (key k h).1

def dcc : List Dc → List Value
 | [] => []
 | x :: t => .string x.1 :: .int .i64 x.2 :: dcc t
theorem dcc_append (l m : List Dc) : dcc (l ++ m) = dcc l ++ dcc m := by
 induction l with
 | nil => rfl
 | cons x t ih => simp [dcc, ih]
theorem dcc_get : ∀ {l : List Dc} {i : Nat} {x : Dc}, l[i]? = some x → (dcc l)[i * 2]? = some (.string x.1) ∧ (dcc l)[i * 2 + 1]? = some (.int .i64 x.2)
 | y :: t, 0, x, h => by simp at h; subst h; simp [dcc]
 | y :: t, i + 1, x, h => by
  have := dcc_get (l := t) (i := i) (x := x) (by simpa using h)
  rw [show (i + 1) * 2 = i * 2 + 1 + 1 by omega]
  simpa [dcc] using this
def OD (w : World) (B : Nat) (v : Value) (l : List Dc) : Prop := w.ownsRow B 94 2 v l.length (dcc l)
theorem OD.move {w w' : World} {B : Nat} {v : Value} {l : List Dc} (h : OD w B v l) (hk : ∀ b, v.ownBlock = some b → w'.heap[b]? = w.heap[b]?) : OD w' B v l := by
 refine ⟨h.1, ?_⟩
 rcases h.2 with h0 | ⟨g, cap, cur, rfl, hg, hh, r⟩
 ·exact .inl h0
 ·exact .inr ⟨g, cap, cur, rfl, hg, (hk g rfl).trans hh, r⟩
theorem OD.lt {w : World} {B : Nat} {v : Value} {l : List Dc} (h : OD w B v l) {b : Nat} (hb : v.ownBlock = some b) : B ≤ b ∧ b < w.heap.size := by
 rcases h.2 with ⟨rfl, -⟩ | ⟨g, cap, cur, rfl, hg, hh, -⟩
 ·cases hb
 ·cases hb
  exact ⟨hg, lt_of_block hh⟩
theorem OD.far {w w' : World} {B : Nat} {v : Value} {l : List Dc} {β : Nat} (h : OD w B v l) (hd : Dw β w w') (hβ : β < B) : OD w' B v l := h.move fun b hb => hd.block b (h.lt hb).2 (fun e => by cases e; have := (h.lt hb).1; omega)
theorem OD.later {w w' : World} {B : Nat} {v : Value} {l : List Dc} (h : OD w B v l) (hb : Below w.heap.size w w') : OD w' B v l := h.move fun b hb' => hb.block b (h.lt hb').2
theorem OD.empty (w : World) (B : Nat) (h : B ≤ w.heap.size) : OD (w.alloc (.cells #[] 94)) B (.slice (some ⟨w.heap.size, 0, Option.none⟩) 0 0) [] := World.ownsRow_made w #[] 0 h (Nat.zero_le _) (by simp)
theorem OD.rd {w : World} {B : Nat} {v : Value} {l : List Dc} (h : OD w B v l) (hl : l.length ≤ 1048576) (hx : ∀ x ∈ l, in64 x.2 ∧ x.1.size ≤ 1048576) : ∃ a c, v = .slice a l.length c ∧ RdD w a l := by
 rcases h.2 with ⟨rfl, h0⟩ | ⟨g, cap, cur, rfl, hg, hh, hc1, hc2, hsz, hcur⟩
 ·have e := List.eq_nil_of_length_eq_zero h0
  subst e
  exact ⟨none, 0, rfl, by simp, by simp, .inl rfl⟩
 ·refine ⟨some ⟨g, 0, none⟩, cap, rfl, hl, ?_, .inr ⟨g, 0, rfl, fun i x hi => ?_⟩⟩
  ·exact fun d hd => ⟨(hx d hd).1, by have := (hx d hd).2; omega⟩
  ·have hil := (List.getElem?_eq_some_iff.1 hi).1
   obtain ⟨e0, e1⟩ := dcc_get hi
   rw [← hcur] at e0 e1
   rw [List.getElem?_take, if_pos (by omega)] at e0 e1
   simp only [Array.getElem?_toList] at e0 e1
   exact ⟨by rw [Nat.zero_add, cell_of_row w g _ cur _ _ hh]; exact e0, by rw [Nat.zero_add, cell_of_row w g _ cur _ _ hh]; exact e1⟩
theorem wpList_appD {w : World} {ops : Array Oper} {rest : List Oper} {o : Oper} {a : Act} {Q : Exit → Act → World → Prop} (hgd : o.guard = none) (s x : Operand)
  (ho : o.op = .call { callee := .builtin .append, args := #[s, x], argTypes := #[24, 24] })
  (B : Nat) (v : Value) (l : List Dc) (y : Dc) (hs : a.eval s = v) (hown : OD w B v l) (gx c : Nat) (hx : a.eval x = .slice (some ⟨gx, 0, none⟩) 1 c)
  (h0 : w.cell? ⟨gx, 0, none⟩ = some (.string y.1)) (h1 : w.cell? ⟨gx, 1, none⟩ = some (.int .i64 y.2)) (hl : l.length ≤ 1073741824) (hB : B ≤ w.heap.size)
  (h : ∀ g cap w', OD w' B (.slice (some ⟨g, 0, none⟩) (l.length + 1) cap) (l ++ [y]) → w.grownBy w' v.ownBlock → wpList Tryz.prog ops Q rest (a.put o.dst (.slice (some ⟨g, 0, none⟩) (l.length + 1) cap)) w') : wpList Tryz.prog ops Q (o :: rest) a w := by
 obtain ⟨i0, hi, hz0, hz1, hz2⟩ := info_parts Tryz.infoDecl
 refine wpList_append_lies w hgd s x 24 ho B 94 i0 _ 2 24 Tryz.underlying24 hi hz0 hz1 hz2 rfl (by decide) v l.length (dcc l) hs hown ⟨gx, 0, none⟩ 1 c (dcc [y]) hx rfl ?_ ?_ (by decide) ?_ ?_ hB _ rfl ?_
 ·intro j u hj
  rw [Addr.add_lit]
  match j, hj with
  | 0, hj => simp [dcc] at hj; subst hj; exact h0
  | 1, hj => simp [dcc] at hj; subst hj; exact h1
  | j + 2, hj => simp [dcc] at hj
 ·intro u hu
  simp [dcc] at hu
  rcases hu with rfl | rfl <;> rfl
 ·unfold maxLen; omega
 ·omega
 ·intro g cap w' h1 h2 _ _
  refine h g cap w' ?_ h2
  unfold OD
  rw [dcc_append, List.length_append]
  exact h1
def RetDs (β : Nat) (a : Option Addr) (c : Nat) (bs : List Nat) (w : World) (e : Ending) (w' : World) : Prop := ∃ v ds, e = .returned v ∧ OD w' w.heap.size v ds ∧ 1 ≤ ds.length ∧ ds.length ≤ 6 ∧ (∀ x ∈ ds, 1 ≤ x.2 ∧ x.2 ≤ 200 ∧ x.1.size ≤ 1) ∧ Rr w' β a c bs ∧ Dw β w w'
theorem belowI (N : Int) (h0 : 0 ≤ N) (hN : N ≤ 4194304) (β : Nat) (a : Option Addr) (c : Nat) (bs : List Nat) (w : World) (h : Rr w β a c bs) :
  Calls Tryz.prog 61 #[.pointer (some ⟨β, 0, none⟩), .int .i64 N] w fun e w' => ∃ x : Nat, e = .returned (.int .i64 x) ∧ (x = 0 ∨ (x : Int) < N) ∧ Rr w' β a c bs ∧ Dw β w w' := by
 obtain ⟨n, rfl⟩ := Int.eq_ofNat_of_zero_le h0
 refine (below_any n (by omega) β a c bs w h).mono ?_
 rintro e w' ⟨x, rfl, hx, h1, h2⟩
 exact ⟨x, rfl, by omega, h1, h2⟩
theorem Rr.alloc {w : World} {β : Nat} {a : Option Addr} {c : Nat} {bs : List Nat} (h : Rr w β a c bs) (o : Obj) : Rr (w.alloc o) β a c bs := h.later ((Below.refl _ _).alloc (Nat.le_refl _) _)
theorem Rr.slice {w : World} {β : Nat} {a : Option Addr} {c : Nat} {bs : List Nat} (h : Rr w β a c bs) : w.cell? ⟨β, 0, none⟩ = some (.slice a bs.length c) := by obtain ⟨p, hp, hk, hb, -⟩ := h; exact hk.cells.1
set_option maxHeartbeats 1000000 in
theorem decls_any (β : Nat) (a : Option Addr) (c : Nat) (bs : List Nat) (w : World) (hr : Rr w β a c bs) :
  Calls Tryz.prog 35 #[.pointer (some ⟨β, 0, none⟩)] w (RetDs β a c bs w) := by
 have hlb : bs.length ≤ 4194304 := by obtain ⟨p, hp, hk, hb, -⟩ := hr; exact hb.1
 have c0 := hr.slice
 have hlt := hr.lt
 have HR := kide hr
 clear hr
 have R0 := kide (HR.out.alloc (.cells #[] 94))
 have O0 := kide (OD.empty w w.heap.size (Nat.le_refl _))
 have D0 : Hid (Dw β w (w.alloc (.cells #[] 94))) := (Dw.refl β w).alloc _
 go_enter Tryz.func35, Tryz.ntmps35
 go_wp2_with fail
 generalize w.alloc (Obj.cells #[] 94) = w0 at *
 refine Calls.mono (belowI _ (by omega) (by omega) β a c bs w0 R0.out) ?_
 rintro e w1 ⟨x1, rfl, hx1, r1, d1⟩
 have R1 := kide r1
 have D1 := kide (D0.out.trans d1)
 have O1 := kide (O0.out.far d1 hlt)
 have hx6 : x1 < 6 := by omega
 clear hx1 r1 d1 R0 D0 O0 c0
 go_wp2_with fail
 go_loopw [3, 4] (fun v q wr => ∃ (k : Nat) (l : List Dc) (av : Option Addr) (cv : Nat), q = .int .i64 (k : Int) ∧ v = .slice av l.length cv ∧ l.length + k = x1 + 1 ∧ OD wr w.heap.size (.slice av l.length cv) l ∧ (∀ x ∈ l, 1 ≤ x.2 ∧ x.2 ≤ 200 ∧ x.1.size ≤ 1) ∧ Rr wr β a c bs ∧ Dw β w wr) (fun _ q _ => (intOf q).toNat)
 case atStart => exact ⟨x1 + 1, [], some ⟨w.heap.size, 0, none⟩, 0, by go_num, rfl, by simp, O1.out, by simp, R1.out, D1.out⟩
 case round =>
  clear R1 D1 O1
  obtain ⟨k, l, av, cv, rfl, rfl, hk, ho, hx, hrr, hdw⟩ := hrel
  have OO := kide ho
  have HX := kide hx
  have RR := kide hrr
  have DD := kide hdw
  clear ho hx hrr hdw
  by_cases hk0 : 0 < k
  ·obtain ⟨q, rfl⟩ : ∃ q, k = q + 1 := ⟨k - 1, by omega⟩
   go_wp2_with fail
   refine Calls.mono (below_any 8 (by omega) β a c bs wr RR.out) ?_
   rintro e w2 ⟨x2, rfl, hx2, r2, d2⟩
   have R2 := kide r2
   have D2 := kide (DD.out.trans d2)
   have O2 := kide (OO.out.far d2 hlt)
   have hx8 : x2 < 8 := by omega
   clear hx2 r2 d2 RR DD OO
   go_wp2_with fail
   refine Calls.mono (once_any 6 (by omega) (by omega) β a c bs w2 R2.out) ?_
   rintro e w3 ⟨x3, rfl, r3, d3⟩
   have R3 := kide r3
   have D3 := kide (D2.out.trans d3)
   have O3 := kide (O2.out.far d3 hlt)
   clear r3 d3 R2 D2 O2
   cases x3 with
   | true =>
    go_wp2_with fail
    refine Calls.mono (wide_any β a c bs w3 R3.out) ?_
    rintro e w4 ⟨x4, rfl, hx41, hx42, r4, d4⟩
    have R4 := kide r4
    have D4 := kide (D3.out.trans d4)
    have O4 := kide (O3.out.far d4 hlt)
    clear r4 d4 R3 D3 O3
    have hcv : (convert 22 9 (.slice (some ⟨w4.heap.size, 0, none⟩) 1 1)).run Tryz.prog (w4.alloc (Obj.cells #[.int .u8 (97 + (l.length : Int) % 26)] 5)) = .ok (.string ⟨#[UInt8.ofNat (97 + l.length % 26)]⟩) (w4.alloc (Obj.cells #[.int .u8 (97 + (l.length : Int) % 26)] 5)) := by
     have h := run_convert_bytes_back (P := Tryz.prog) (w4.alloc (Obj.cells #[.int .u8 (97 + (l.length : Int) % 26)] 5)) 22 9 5 ⟨w4.heap.size, 0, none⟩ 1 [UInt8.ofNat (97 + l.length % 26)] Tryz.underlying22 Tryz.underlying5 Tryz.underlying9 (fun j hj => by
      have hj0 : j = 0 := by simpa using hj
      subst hj0
      have e : ((UInt8.ofNat (97 + l.length % 26)).toNat : Int) = 97 + (l.length : Int) % 26 := by
       rw [UInt8.toNat_ofNat']
       omega
      rw [Addr.add_lit]
      simp [e]
      omega)
     exact h
    generalize hs1 : (⟨#[UInt8.ofNat (97 + l.length % 26)]⟩ : ByteArray) = s1 at hcv
    have hs1z : s1.size ≤ 1 := by rw [← hs1]; exact Nat.le_refl _
    clear hs1
    have hb5 : Below w4.heap.size w4 ((w4.alloc (Obj.cells #[.int .u8 (97 + (l.length : Int) % 26)] 5)).alloc (Obj.cells #[.string s1, .int .i64 (x4 : Int)] 94)) := ((Below.refl _ _).alloc (Nat.le_refl _) _).alloc (by simp) _
    have q0 : ((w4.alloc (Obj.cells #[.int .u8 (97 + (l.length : Int) % 26)] 5)).alloc (Obj.cells #[.string s1, .int .i64 (x4 : Int)] 94)).cell? ⟨w4.heap.size + 1, 0, none⟩ = some (.string s1) := by simp
    have q1 : ((w4.alloc (Obj.cells #[.int .u8 (97 + (l.length : Int) % 26)] 5)).alloc (Obj.cells #[.string s1, .int .i64 (x4 : Int)] 94)).cell? ⟨w4.heap.size + 1, 1, none⟩ = some (.int .i64 (x4 : Int)) := by simp
    have O5 := kide (O4.out.later hb5)
    have R5 := kide (R4.out.later hb5)
    have D5 := kide (D4.out.trans (Dw.of hb5))
    have hsz : w.heap.size ≤ ((w4.alloc (Obj.cells #[.int .u8 (97 + (l.length : Int) % 26)] 5)).alloc (Obj.cells #[.string s1, .int .i64 (x4 : Int)] 94)).heap.size := D5.out.size
    clear hb5
    go_wp2_with (at_builtin; refine wpList_appD rfl _ _ rfl w.heap.size (.slice av l.length cv) l (s1, (x4 : Int)) (by first | rfl | simp [Act.eval]) O5.out (w4.heap.size + 1) 1 (by first | rfl | simp [Act.eval]) q0 q1 (by omega) hsz ?_)
    intro g cap w6 ho6 hg6
    have O6 := kide ho6
    have R6 : Hid (Rr w6 β a c bs) := HR.out.far R5.out hg6 (fun k e => (O5.out.lt e).1)
    have D6 : Hid (Dw β w w6) := D5.out.own hg6 (fun k e => (O5.out.lt e).1)
    clear ho6 hg6 q0 q1 hcv
    go_wp2_with fail
    go_roundw
    case rel =>
     refine ⟨q, l ++ [(s1, (x4 : Int))], some ⟨g, 0, none⟩, cap, by go_num, by simp, by simp; omega, by simpa using O6.out, fun x hx => ?_, R6.out, D6.out⟩
     rcases List.mem_append.1 hx with hx | hx
     ·exact HX.out x hx
     ·simp at hx
      subst hx
      exact ⟨by show 1 ≤ _; omega, by show _ ≤ (200 : Int); omega, hs1z⟩
    case measure => simp [intOf] <;> omega
   | false =>
    have hcv : (convert 22 9 (.slice (some ⟨w3.heap.size, 0, none⟩) 1 1)).run Tryz.prog (w3.alloc (Obj.cells #[.int .u8 (97 + (l.length : Int) % 26)] 5)) = .ok (.string ⟨#[UInt8.ofNat (97 + l.length % 26)]⟩) (w3.alloc (Obj.cells #[.int .u8 (97 + (l.length : Int) % 26)] 5)) := by
     have h := run_convert_bytes_back (P := Tryz.prog) (w3.alloc (Obj.cells #[.int .u8 (97 + (l.length : Int) % 26)] 5)) 22 9 5 ⟨w3.heap.size, 0, none⟩ 1 [UInt8.ofNat (97 + l.length % 26)] Tryz.underlying22 Tryz.underlying5 Tryz.underlying9 (fun j hj => by
      have hj0 : j = 0 := by simpa using hj
      subst hj0
      have e : ((UInt8.ofNat (97 + l.length % 26)).toNat : Int) = 97 + (l.length : Int) % 26 := by
       rw [UInt8.toNat_ofNat']
       omega
      rw [Addr.add_lit]
      simp [e]
      omega)
     exact h
    generalize hs1 : (⟨#[UInt8.ofNat (97 + l.length % 26)]⟩ : ByteArray) = s1 at hcv
    have hs1z : s1.size ≤ 1 := by rw [← hs1]; exact Nat.le_refl _
    clear hs1
    have hb5 : Below w3.heap.size w3 ((w3.alloc (Obj.cells #[.int .u8 (97 + (l.length : Int) % 26)] 5)).alloc (Obj.cells #[.string s1, .int .i64 (1 + (x2 : Int))] 94)) := ((Below.refl _ _).alloc (Nat.le_refl _) _).alloc (by simp) _
    have q0 : ((w3.alloc (Obj.cells #[.int .u8 (97 + (l.length : Int) % 26)] 5)).alloc (Obj.cells #[.string s1, .int .i64 (1 + (x2 : Int))] 94)).cell? ⟨w3.heap.size + 1, 0, none⟩ = some (.string s1) := by simp
    have q1 : ((w3.alloc (Obj.cells #[.int .u8 (97 + (l.length : Int) % 26)] 5)).alloc (Obj.cells #[.string s1, .int .i64 (1 + (x2 : Int))] 94)).cell? ⟨w3.heap.size + 1, 1, none⟩ = some (.int .i64 (1 + (x2 : Int))) := by simp
    have O5 := kide (O3.out.later hb5)
    have R5 := kide (R3.out.later hb5)
    have D5 := kide (D3.out.trans (Dw.of hb5))
    have hsz : w.heap.size ≤ ((w3.alloc (Obj.cells #[.int .u8 (97 + (l.length : Int) % 26)] 5)).alloc (Obj.cells #[.string s1, .int .i64 (1 + (x2 : Int))] 94)).heap.size := D5.out.size
    clear hb5
    go_wp2_with (at_builtin; refine wpList_appD rfl _ _ rfl w.heap.size (.slice av l.length cv) l (s1, 1 + (x2 : Int)) (by first | rfl | simp [Act.eval]) O5.out (w3.heap.size + 1) 1 (by first | rfl | simp [Act.eval]) q0 q1 (by omega) hsz ?_)
    intro g cap w6 ho6 hg6
    have O6 := kide ho6
    have R6 : Hid (Rr w6 β a c bs) := HR.out.far R5.out hg6 (fun k e => (O5.out.lt e).1)
    have D6 : Hid (Dw β w w6) := D5.out.own hg6 (fun k e => (O5.out.lt e).1)
    clear ho6 hg6 q0 q1 hcv
    go_wp2_with fail
    go_roundw
    case rel =>
     refine ⟨q, l ++ [(s1, 1 + (x2 : Int))], some ⟨g, 0, none⟩, cap, by go_num, by simp, by simp; omega, by simpa using O6.out, fun x hx => ?_, R6.out, D6.out⟩
     rcases List.mem_append.1 hx with hx | hx
     ·exact HX.out x hx
     ·simp at hx
      subst hx
      exact ⟨by show 1 ≤ _; omega, by show _ ≤ (200 : Int); omega, hs1z⟩
    case measure => simp [intOf] <;> omega
  ·have hk00 : k = 0 := by omega
   subst hk00
   go_wp2_with fail
   go_ret
   exact ⟨_, l, rfl, OO.out, by omega, by omega, HX.out, RR.out, DD.out⟩

def cntR (ks : List Int) (j : Nat) : Nat := ks.countP (fun y => decide (y = (j : Int)))
def Cn (w : World) (P N : Nat) (q : Nat → Nat) : Prop := ∃ f, w.rowIs P 2 N f ∧ ∀ j, j < N → f j = .int .i64 ((q j : Nat) : Int)
theorem Cn.later {w w' : World} {P N : Nat} {q : Nat → Nat} (h : Cn w P N q) (hb : Below w.heap.size w w') : Cn w' P N q := by
 obtain ⟨f, ⟨cc, hh, h1, h2⟩, hq⟩ := h
 exact ⟨f, World.rowIs.of_block ⟨cc, hh, h1, h2⟩ (hb.block _ (lt_of_block hh)), hq⟩
set_option maxHeartbeats 1000000 in
theorem countKids_any (P N k cp kc M : Nat) (q : Nat → Nat) (ka : Option Addr) (ks : List Int) (w : World) (hc : Cn w P N q) (hk : k ≤ N) (hN : N ≤ 1048576) (hq : ∀ j, q j ≤ M) (hM : M ≤ 1000000000000) (hr : RdI w ka ks) (hf : ∀ b o sp, ka = some ⟨b, o, sp⟩ → b ≠ P) :
  Calls Tryz.prog 130 #[.slice (some ⟨P, 0, none⟩) k cp, .slice ka ks.length kc] w fun e w' => e = .returned (.bool (kidsR k ks)) ∧ (kidsR k ks = true → Cn w' P N (fun j => q j + cntR ks j)) ∧ w.grownBy w' (some P) := by
 have hl := hr.1
 have HF := kide hf
 have HQ := kide hq
 clear hf hq
 generalize hZ : kidsR k ks = Z
 have HZ := kide hZ
 clear hZ
 go_enter Tryz.func130, Tryz.ntmps130
 go_wp2_with fail
 go_loopw [9] (fun i wr => ∃ t : Nat, t ≤ ks.length ∧ i = .int .i64 (t : Int) ∧ kidsR k (ks.take t) = true ∧ Cn wr P N (fun j => q j + cntR (ks.take t) j) ∧ w.grownBy wr (some P)) (fun i _ => ks.length - (intOf i).toNat)
 case atStart => exact ⟨0, Nat.zero_le _, rfl, by simp [kidsR], by simpa [cntR] using hc, ⟨rfl, rfl, rfl, Nat.le_refl _, fun _ _ _ => rfl⟩⟩
 case round =>
  obtain ⟨t, ht, rfl, hkr, hcn, hg⟩ := hrel
  have HKR := kide hkr
  have HCN := kide hcn
  have HG := kide hg
  clear hkr
  by_cases htl : t < ks.length
  ·obtain ⟨-, -, h | ⟨b, o, rfl, hc3⟩⟩ := hr
   ·subst h; simp at htl
   have hbP : b ≠ P := HF.out b o none rfl
   have g0 := hc3 t htl
   rw [← World.cell?_of_block (w := w) (w' := wr) (a := ⟨b, o + t, none⟩) (hg.block b (block_lt_of_cell g0) (fun e => hbP (by cases e; rfl)))] at g0
   have hgt : ks[t]? = some (ks.getD t 0) := by simp [List.getD, htl]
   have HGT := kide hgt
   clear hgt hc3 hg
   generalize ks.getD t 0 = y at *
   have i0 : (t : Int) < (ks.length : Int) := by omega
   by_cases hy : 0 ≤ y ∧ y ≤ (k : Int) - 1
   ·obtain ⟨m, rfl⟩ : ∃ m : Nat, y = (m : Int) := ⟨y.toNat, by omega⟩
    have hm : m < k := by omega
    obtain ⟨f, hrw, hfq⟩ := hcn
    have q0 := hrw.cell (i := m) (by omega)
    have r0 := hrw.frozen m
    have q1 : wr.cell? ⟨P, m, none⟩ = some (.int .i64 ((q m + cntR (ks.take t) m : Nat) : Int)) := by rw [q0, hfq m (by omega)]
    clear q0
    have hqb : q m + cntR (ks.take t) m ≤ 2000000000000 := by
     have h1 := HQ.out m
     have h2 : cntR (ks.take t) m ≤ (ks.take t).length := List.countP_le_length
     rw [List.length_take] at h2
     omega
    have HRW := kide hrw
    have HFQ := kide hfq
    generalize hS : q m + cntR (ks.take t) m = S at *
    have HSS := kide hS
    clear hrw hfq hy hS
    go_wp2_with fail
    go_roundw
    case rel =>
     refine ⟨t + 1, by omega, by go_num, ?_, ⟨_, World.rowIs.set HRW.out m (.int .i64 ((S : Int) + 1)), fun j hj => ?_⟩, ?_⟩
     ·rw [List.take_add_one, HGT.out, kidsR, List.all_append]
      have := HKR.out
      rw [kidsR] at this
      rw [this]
      simp
      omega
     ·have hcj : cntR (ks.take (t + 1)) j = cntR (ks.take t) j + (if m = j then 1 else 0) := by
       unfold cntR
       rw [List.take_add_one, HGT.out, List.countP_append]
       by_cases e : m = j
       ·subst e; simp
       ·have e2 : ¬ ((m : Int) = (j : Int)) := by omega
        simp [e, e2]
      show (if j = m then _ else _) = Value.int .i64 ((q j + cntR (ks.take (t + 1)) j : Nat) : Int)
      rw [hcj]
      by_cases e : j = m
      ·subst e
       have := HSS.out
       rw [if_pos rfl, if_pos rfl]
       congr 1
       omega
      ·rw [if_neg e, if_neg (fun h => e h.symm), HFQ.out j hj]
       rfl
     ·have h := HG.out
      exact ⟨h.os, h.tape, h.output, by simpa using h.size, fun x hx hne => by rw [heap_setCell_other _ _ _ _ (fun e => hne (by simp at e; rw [e]))]; exact h.block x hx hne⟩
    case measure => simp [intOf]; omega
   ·have hZf : Z = false := by
     rw [← HZ.out, kidsR, List.all_eq_false]
     exact ⟨y, List.mem_of_getElem? HGT.out, by simpa using hy⟩
    subst hZf
    have hor : y < 0 ∨ (k : Int) ≤ y := by omega
    clear hy hcn
    rcases hor with hor | hor
    ·go_wp2_with fail
     go_ret
     first | exact ⟨rfl, HG.out⟩ | exact ⟨rfl, (by intro h; cases h), HG.out⟩
    ·have h0 : ¬ y < 0 := by omega
     go_wp2_with fail
     go_ret
     first | exact ⟨rfl, HG.out⟩ | exact ⟨rfl, (by intro h; cases h), HG.out⟩
  ·have e : t = ks.length := by omega
   subst e
   have hZt : Z = true := by
    have := HKR.out
    rw [List.take_length] at this
    rw [← HZ.out]; exact this
   subst hZt
   clear hcn hg hr hc
   go_wp2_with fail
   go_ret
   have h := HCN.out
   rw [List.take_length] at h
   exact ⟨rfl, h, HG.out⟩

end Go.Proofs.YtkngpgonmedgpaaGreatDoor
