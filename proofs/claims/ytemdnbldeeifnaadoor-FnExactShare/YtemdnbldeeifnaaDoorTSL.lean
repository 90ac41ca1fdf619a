/- What the program's Share answers. -/
import Derived.Test.YtemdnbldeeifnaaDoorTSJ
import Derived.Test.YtemdnbldeeifnaaDoorQY
namespace Go.Proofs.YtemdnbldeeifnaaDoor
set_option linter.unusedVariables false
set_option linter.unusedSimpArgs false
open Go.RowKit Go.WideMaps Go.Maps Go.MapKept Go.ChangeMaps

set_option maxHeartbeats 4000000 in
set_option maxRecDepth 100000 in
theorem implShare_any (a b : Option Addr) (c c2 n : Nat) (ds : List Dc) (xs : List Tg) (w : World) (hr : RdD w a ds) (hs : RdT w b xs) (hn : xs.length = n) (hsn : Sn xs) (hG : GF w) :
    Calls Tryd.prog 9 #[.slice a ds.length c, .agg #[.slice b n c2]] w (RetT w (shR ds (xs.map Tg.ct))) := by
  have HW := kide (fun u (hu : Below w.heap.size w u) => rightWidths_any a b c c2 n ds xs u (hr.later hu) (hs.later hu) hn (hG.later hu))
  have hb2 : Below w.heap.size w ((w.alloc (Obj.cells #[Value.slice b n c2] 30)).alloc (Obj.cells #[Value.slice none 0 0] 30)) := ((Below.refl _ _).alloc (Nat.le_refl _) _).alloc (by simp) _
  have XP0 := kide (Bz.later (Bz.new w #[Value.slice b n c2] 30) ((Below.refl _ _).alloc (Nat.le_refl _) (Obj.cells #[Value.slice none 0 0] 30)))
  have XR0 : Hid (Bz ((w.alloc (Obj.cells #[Value.slice b n c2] 30)).alloc (Obj.cells #[Value.slice none 0 0] 30)) (w.heap.size + 1) #[Value.slice none 0 0] 30) := by
    have h9 := Bz.new (w.alloc (Obj.cells #[Value.slice b n c2] 30)) #[Value.slice none 0 0] 30
    rw [show (w.alloc (Obj.cells #[Value.slice b n c2] 30)).heap.size = w.heap.size + 1 by simp] at h9
    exact h9
  have B0 := kide hb2
  clear hb2
  by_cases h0 : (widthsR ds (xs.map Tg.ct)).length = 0
  · have HR : Hid (shR ds (xs.map Tg.ct) = []) := by show _ = _; rw [shR, if_pos h0]
    rw [HR.out]
    have hR : widthsR ds (xs.map Tg.ct) = [] := List.eq_nil_of_length_eq_zero h0
    rw [hR] at HW
    clear hr hs hn hsn h0 hR HR hG
    go_enter Tryd.func9, Tryd.ntmps9
    go_wp2_with fail
    generalize (w.alloc (Obj.cells #[Value.slice b n c2] 30)).alloc (Obj.cells #[Value.slice none 0 0] 30) = W0 at *
    refine Calls.mono (HW.out W0 B0.out) ?_
    rintro e w1 ⟨a2, c3, rfl, hr2, hnl, hb1⟩
    have hn0 := hnl rfl
    subst hn0
    have X1 := kide (XR0.out.later hb1)
    have B1 := kide (B0.out.trans (hb1.mono B0.out.size))
    have d0 := X1.out.cell 0
    have f0 := X1.out.froz 0
    simp at d0
    clear hb1 hnl hr2
    have heq : ∀ u, (binOp .eql 45 (.slice none (([] : List Int).length) c3) (.slice none 0 0)).run Tryd.prog u = .ok (.bool true) u := fun u => by rw [Lib.run_eql_slice_nil u 45 2 none _ c3 0 0 Tryd.underlying45]; rfl
    simp only [List.length_nil] at heq ⊢
    have y0 : (w1.setCell ⟨w.heap.size + 1, 0, none⟩ (Value.slice none 0 0)).cell? ⟨w.heap.size + 1, 0, none⟩ = some (Value.slice none 0 0) := (X1.out.set 0 _).cell 0
    have Y0 := kide y0
    have B2 : Hid (Below w.heap.size w (w1.setCell ⟨w.heap.size + 1, 0, none⟩ (Value.slice none 0 0))) := B1.out.setCell (by simp only []; omega) _
    clear y0
    go_wp2_with fail
    have y0 := Y0.out
    first
      | exact bodyPost_ret (v := .agg #[.slice none 0 0]) (by simp [results, Tryd.results9, go_sem, y0]) rfl ⟨.slice none 0 0, [], rfl, Ts.nil _ _, rfl, B2.out⟩
      | exact bodyPost_ret (v := .agg #[.slice none 0 0]) (by simp [results, Tryd.results9, go_sem, d0]) rfl ⟨.slice none 0 0, [], rfl, Ts.nil _ _, rfl, B1.out⟩
  · have HR : Hid (shR ds (xs.map Tg.ct) = (shTo (xs.map Tg.ct) (xs.map Tg.ct).length).1) := by show _ = _; rw [shR, if_neg h0]
    rw [HR.out]
    obtain ⟨hk1, hk4, hkl, hkk⟩ := right_kids h0
    have hnd := right_node h0
    have hokt := hs.ok
    have hov : ∀ m ∈ xs.map Tg.ct, okV m.bw m.ws := fun m hm => node_okV (hnd m hm).1 (hnd m hm).2 (hokt m hm)
    have hvr : ∀ m ∈ xs.map Tg.ct, m.op = 1 → ¬ m.vr = -1 := fun m hm => node_vr (hnd m hm).2
    rw [List.length_map, hn] at hk1 hk4
    have HAT := kide (fun (s g : Nat) (u0 u : World) (hu0 : Below w.heap.size w u0) (hu : Below u0.heap.size u0 u) (ha : Ar u u0.heap.size s g (.slice none 0 0) (.map []) []) => addTerm_any s g b c2 n xs u0 u hu ha (hs.later hu0) hn hsn hkk hov hvr hk1 (by omega))
    unfold RetAt at HAT
    generalize (shTo (xs.map Tg.ct) (xs.map Tg.ct).length).1 = X1 at *
    generalize widthsR ds (xs.map Tg.ct) = R at HW h0
    clear hr hs hn hsn HR hk1 hk4 hkl hkk hnd hokt hov hvr hG
    go_enter Tryd.func9, Tryd.ntmps9
    go_wp2_with fail
    generalize (w.alloc (Obj.cells #[Value.slice b n c2] 30)).alloc (Obj.cells #[Value.slice none 0 0] 30) = W0 at *
    refine Calls.mono (HW.out W0 B0.out) ?_
    rintro e w1 ⟨a2, c3, rfl, hr2, hnl, hb1⟩
    obtain ⟨b2, o2, rfl⟩ : ∃ b2 o2, a2 = some ⟨b2, o2, none⟩ := by
      obtain ⟨-, -, h | ⟨b2, o2, h, -⟩⟩ := hr2
      · subst h; simp at h0
      · exact ⟨b2, o2, h⟩
    have XP1 := kide (XP0.out.later hb1)
    have XR1 := kide (XR0.out.later hb1)
    have B1 := kide (B0.out.trans (hb1.mono B0.out.size))
    clear hb1 hnl hr2 HW XP0 XR0 B0 h0
    generalize R.length = rl at *
    have heq : ∀ u, (binOp .eql 45 (.slice (some ⟨b2, o2, none⟩) rl c3) (.slice none 0 0)).run Tryd.prog u = .ok (.bool false) u := fun u => by rw [Lib.run_eql_slice_nil u 45 2 (some ⟨b2, o2, none⟩) rl c3 0 0 Tryd.underlying45]; rfl
    go_wp2_with fail
    clear heq
    refine Calls.mono (newArena_any w1) ?_
    rintro e w2 ⟨s, g, rfl, har, hb2⟩
    have XP2 := kide (XP1.out.later hb2)
    have XR2 := kide (XR1.out.later hb2)
    have B2 := kide (B1.out.trans (hb2.mono B1.out.size))
    have AR2 := kide har
    have HB2 := kide hb2
    have d0 := XP2.out.cell 0
    simp at d0
    clear har hb2
    go_wp2_with fail
    refine Calls.mono (HAT.out s g w1 w2 B1.out HB2.out AR2.out) ?_
    rintro e w3 ⟨i, v, D, l, rfl, har, hel, hb3⟩
    have XR3 := kide (XR1.out.later hb3)
    have B3 := kide (B1.out.trans (hb3.mono B1.out.size))
    have HB1 : Hid (w.heap.size + 2 ≤ w1.heap.size) := by have := XR1.out.lt; show _ ≤ _; omega
    have AR3 := kide har
    have HEL := kide hel
    obtain ⟨va, vc, rfl⟩ := har.ts.form
    obtain ⟨ln, hln⟩ : ∃ ln, l.length = ln := ⟨_, rfl⟩
    rw [hln] at AR3
    have d1 := AR3.out.box.cell 0
    have d2 := XR3.out.cell 0
    have f2 := XR3.out.froz 0
    simp at d1 d2
    clear har hel hb3 hln XP1 XR1 B1 XP2 XR2 B2 AR2 HB2 d0 HAT
    have hY : Bz (w3.setCell ⟨w.heap.size + 1, 0, none⟩ (Value.slice va ln vc)) (w.heap.size + 1) #[Value.slice va ln vc] 30 := XR3.out.set 0 _
    have HY := kide hY
    have B4 : Hid (Below w.heap.size w (w3.setCell ⟨w.heap.size + 1, 0, none⟩ (Value.slice va ln vc))) := B3.out.setCell (by simp only []; omega) _
    have TS4 : Hid (Ts (w3.setCell ⟨w.heap.size + 1, 0, none⟩ (Value.slice va ln vc)) w.heap.size (.slice va ln vc) l) :=
      ⟨OT.move ⟨AR3.out.ts.row.1, by
          rcases AR3.out.ts.row.2 with h0 | ⟨g, cap, cur, e, hg, r⟩
          · exact .inl h0
          · exact .inr ⟨g, cap, cur, e, by have := HB1.out; omega, r⟩⟩ fun b hb' => heap_setCell_other _ _ _ _ (fun e => by have := (AR3.out.ts.row.lt hb').1; have := HB1.out; simp only [] at e; omega),
        fun x hx => (nw_set (AR3.out.ts.wn x hx) XR3.out (by decide) 0 _).mono (by have := HB1.out; omega), fun x hx => (ni_set (AR3.out.ts.kn x hx) XR3.out (by decide) 0 _).mono (by have := HB1.out; omega), AR3.out.ts.wd, AR3.out.ts.kd⟩
    clear hY
    go_wp2_with fail
    have y0 := HY.out.cell 0
    generalize w3.setCell ⟨w.heap.size + 1, 0, none⟩ (Value.slice va ln vc) = wf at *
    simp at y0
    exact bodyPost_ret (v := .agg #[.slice va ln vc]) (by simp [results, Tryd.results9, go_sem, y0]) rfl ⟨.slice va ln vc, l, rfl, TS4.out, HEL.out, B4.out⟩

end Go.Proofs.YtemdnbldeeifnaaDoor
