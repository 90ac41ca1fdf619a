/- What the given Share answers. -/
import Derived.Test.YtemdnbldeeifnaaDoorTSD
import Derived.Test.YtemdnbldeeifnaaDoorQK
namespace Go.Proofs.YtemdnbldeeifnaaDoor
set_option linter.unusedVariables false
set_option linter.unusedSimpArgs false
open Go.RowKit

def RetT (w : World) (X : List Tc) (e : Ending) (w' : World) : Prop := ∃ v l, e = .returned (.agg #[v]) ∧ Ts w' w.heap.size v l ∧ l.map Tg.ct = X ∧ Below w.heap.size w w'

set_option maxHeartbeats 2000000 in
theorem specShare_any (a b : Option Addr) (c c2 n : Nat) (ds : List Dc) (xs : List Tg) (w : World) (hr : RdD w a ds) (hs : RdT w b xs) (hn : xs.length = n) (hsn : Sn xs) :
    Calls Tryd.prog 6 #[.slice a ds.length c, .agg #[.slice b n c2]] w (RetT w (shR ds (xs.map Tg.ct))) := by
  have HW := kide (fun u (hu : Below w.heap.size w u) => specWidth_any a b c c2 n ds xs u (hr.later hu) (hs.later hu) hn)
  have hb2 : Below w.heap.size w ((w.alloc (Obj.cells #[Value.slice b n c2] 30)).alloc (Obj.cells #[Value.slice none 0 0] 30)) := ((Below.refl _ _).alloc (Nat.le_refl _) _).alloc (by simp) _
  have XP0 := kide (Bz.later (Bz.new w #[Value.slice b n c2] 30) ((Below.refl _ _).alloc (Nat.le_refl _) (Obj.cells #[Value.slice none 0 0] 30)))
  have XR0 : Hid (Bz ((w.alloc (Obj.cells #[Value.slice b n c2] 30)).alloc (Obj.cells #[Value.slice none 0 0] 30)) (w.heap.size + 1) #[Value.slice none 0 0] 30) := by
    have h9 := Bz.new (w.alloc (Obj.cells #[Value.slice b n c2] 30)) #[Value.slice none 0 0] 30
    rw [show (w.alloc (Obj.cells #[Value.slice b n c2] 30)).heap.size = w.heap.size + 1 by simp] at h9
    exact h9
  have B0 := kide hb2
  clear hb2
  by_cases h0 : (widthsR ds (xs.map Tg.ct)).length = 0
  · have HR : Hid (shR ds (xs.map Tg.ct) = []) := by show _ = _; rw [shR, if_pos h0]
    rw [HR.out]
    have hw : widR ds (xs.map Tg.ct) = -1 := by unfold widR; simp [h0]
    rw [hw] at HW
    clear hr hs hn hsn h0 hw HR
    go_enter Tryd.func6, Tryd.ntmps6
    go_wp2_with fail
    generalize (w.alloc (Obj.cells #[Value.slice b n c2] 30)).alloc (Obj.cells #[Value.slice none 0 0] 30) = W0 at *
    refine Calls.mono (HW.out W0 B0.out) ?_
    rintro e w1 ⟨rfl, hb1⟩
    have X1 := kide (XR0.out.later hb1)
    have B1 := kide (B0.out.trans (hb1.mono B0.out.size))
    have d0 := X1.out.cell 0
    have f0 := X1.out.froz 0
    simp at d0
    clear hb1
    have y0 : (w1.setCell ⟨w.heap.size + 1, 0, none⟩ (Value.slice none 0 0)).cell? ⟨w.heap.size + 1, 0, none⟩ = some (Value.slice none 0 0) := (X1.out.set 0 _).cell 0
    have Y0 := kide y0
    have B2 : Hid (Below w.heap.size w (w1.setCell ⟨w.heap.size + 1, 0, none⟩ (Value.slice none 0 0))) := B1.out.setCell (by simp only []; omega) _
    clear y0
    go_wp2_with fail
    have y0 := Y0.out
    first
      | exact bodyPost_ret (v := .agg #[.slice none 0 0]) (by simp [results, Tryd.results6, go_sem, y0]) rfl ⟨.slice none 0 0, [], rfl, Ts.nil _ _, rfl, B2.out⟩
      | exact bodyPost_ret (v := .agg #[.slice none 0 0]) (by simp [results, Tryd.results6, go_sem, d0]) rfl ⟨.slice none 0 0, [], rfl, Ts.nil _ _, rfl, B1.out⟩
  · have HR : Hid (shR ds (xs.map Tg.ct) = (shTo (xs.map Tg.ct) (xs.map Tg.ct).length).1) := by show _ = _; rw [shR, if_neg h0]
    rw [HR.out]
    obtain ⟨hk1, hk4, hkl, hkk⟩ := right_kids h0
    obtain ⟨hbl, hbd⟩ := widthsR_bounds ds (xs.map Tg.ct)
    obtain ⟨Z, hZ, hZ0⟩ : ∃ Z, widR ds (xs.map Tg.ct) = Z ∧ ¬ Z < 0 := by
      refine ⟨_, rfl, ?_⟩
      unfold widR
      rw [if_neg h0]
      have hl : (widthsR ds (xs.map Tg.ct)).length - 1 < (widthsR ds (xs.map Tg.ct)).length := by omega
      have e : (widthsR ds (xs.map Tg.ct)).getD ((widthsR ds (xs.map Tg.ct)).length - 1) 0 = (widthsR ds (xs.map Tg.ct))[(widthsR ds (xs.map Tg.ct)).length - 1] := by
        rw [List.getD_eq_getElem?_getD, List.getElem?_eq_getElem hl]; rfl
      rw [e]
      have := hbd _ (List.getElem_mem hl)
      omega
    rw [hZ] at HW
    have HSH := kide (fun u (hu : Below w.heap.size w u) => l3Share_any b c2 n xs u (hs.later hu) hn hsn hkk (by rw [← hn]; simp at hk4; omega))
    unfold RetSh at HSH
    generalize (shTo (xs.map Tg.ct) (xs.map Tg.ct).length).1 = X1 at *
    clear hr hs hn hsn h0 HR hk1 hk4 hkl hkk hbl hbd hZ
    go_enter Tryd.func6, Tryd.ntmps6
    go_wp2_with fail
    generalize (w.alloc (Obj.cells #[Value.slice b n c2] 30)).alloc (Obj.cells #[Value.slice none 0 0] 30) = W0 at *
    refine Calls.mono (HW.out W0 B0.out) ?_
    rintro e w1 ⟨rfl, hb1⟩
    have XP1 := kide (XP0.out.later hb1)
    have XR1 := kide (XR0.out.later hb1)
    have B1 := kide (B0.out.trans (hb1.mono B0.out.size))
    have d0 := XP1.out.cell 0
    simp at d0
    clear hb1 XP0 XR0 B0 HW
    go_wp2_with fail
    refine Calls.mono (HSH.out w1 B1.out) ?_
    rintro e w2 ⟨v, l, tv, rfl, hts, hel, hot, hb2⟩
    have XR2 := kide (XR1.out.later hb2)
    have B2 := kide (B1.out.trans (hb2.mono B1.out.size))
    have HB12 : Hid (w.heap.size + 2 ≤ w1.heap.size) := by have := XR1.out.lt; show _ ≤ _; omega
    obtain ⟨va, vc, rfl⟩ := hts.form
    obtain ⟨ln, hln⟩ : ∃ ln, l.length = ln := ⟨_, rfl⟩
    rw [hln] at hts ⊢
    have hb3 : Below w2.heap.size w2 (w2.alloc (Obj.cells #[Value.slice va ln vc] 30)) := (Below.refl _ _).alloc (Nat.le_refl _) _
    have XO3 := kide (Bz.new w2 #[Value.slice va ln vc] 30)
    have XR3 := kide (XR2.out.later hb3)
    have B3 := kide (B2.out.trans (hb3.mono B2.out.size))
    have TS3 := kide (hts.later hb3)
    have HEL := kide hel
    have o0 : (w2.alloc (Obj.cells #[Value.slice va ln vc] 30)).cell? ⟨w2.heap.size, 0, none⟩ = some (Value.slice va ln vc) := XO3.out.cell 0
    have d1 := XR3.out.cell 0
    have f1 := XR3.out.froz 0
    simp at d1
    have hne : ¬ w.heap.size + 1 = w2.heap.size := by have := XR2.out.lt; omega
    have hY : Bz ((w2.alloc (Obj.cells #[Value.slice va ln vc] 30)).setCell ⟨w.heap.size + 1, 0, none⟩ (Value.slice va ln vc)) (w.heap.size + 1) #[Value.slice va ln vc] 30 := XR3.out.set 0 _
    have HY := kide hY
    have B4 : Hid (Below w.heap.size w ((w2.alloc (Obj.cells #[Value.slice va ln vc] 30)).setCell ⟨w.heap.size + 1, 0, none⟩ (Value.slice va ln vc))) := B3.out.setCell (by simp only []; omega) _
    have TS4 : Hid (Ts ((w2.alloc (Obj.cells #[Value.slice va ln vc] 30)).setCell ⟨w.heap.size + 1, 0, none⟩ (Value.slice va ln vc)) w.heap.size (.slice va ln vc) l) :=
      ⟨OT.move ⟨TS3.out.row.1, by
          rcases TS3.out.row.2 with h0 | ⟨g, cap, cur, e, hg, r⟩
          · exact .inl h0
          · exact .inr ⟨g, cap, cur, e, by have := HB12.out; omega, r⟩⟩ fun b hb' => heap_setCell_other _ _ _ _ (fun e => by have := (TS3.out.row.lt hb').1; have := HB12.out; simp only [] at e; omega),
        fun x hx => (nw_set (TS3.out.wn x hx) XR3.out (by decide) 0 _).mono (by have := HB12.out; omega), fun x hx => (ni_set (TS3.out.kn x hx) XR3.out (by decide) 0 _).mono (by have := HB12.out; omega), TS3.out.wd, TS3.out.kd⟩
    clear hts hel hot hb2 hb3 hY hln XR1 B1 XR2 B2
    go_wp2_with fail
    have y0 := HY.out.cell 0
    generalize (w2.alloc (Obj.cells #[Value.slice va ln vc] 30)).setCell ⟨w.heap.size + 1, 0, none⟩ (Value.slice va ln vc) = wf at *
    simp at y0
    exact bodyPost_ret (v := .agg #[.slice va ln vc]) (by simp [results, Tryd.results6, go_sem, y0]) rfl ⟨.slice va ln vc, l, rfl, TS4.out, HEL.out, B4.out⟩

end Go.Proofs.YtemdnbldeeifnaaDoor
