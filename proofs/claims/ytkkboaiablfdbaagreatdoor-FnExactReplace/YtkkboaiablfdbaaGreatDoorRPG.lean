/- What the given Replace answers. -/
import Derived.Test.YtkkboaiablfdbaaGreatDoorZRE
import Derived.Test.YtkkboaiablfdbaaGreatDoorZRI
import Derived.Test.YtkkboaiablfdbaaGreatDoorQK
import Derived.Test.YtkkboaiablfdbaaGreatDoorZTM
namespace Go.Proofs.YtkkboaiablfdbaaGreatDoor
set_option linter.unusedVariables false
set_option linter.unusedSimpArgs false
open Go.RowKit

theorem RdT.ndo {w : World} {a : Option Addr} {xs : List Tg} (h : RdT w a xs) : ∀ x ∈ xs, NdO w x := fun x hx => by
  obtain ⟨i, hi⟩ := List.mem_iff_getElem?.1 hx
  rcases h.2 with h0 | ⟨b, o, -, hc⟩
  · rw [h0] at hx; cases hx
  · obtain ⟨-, h1, h2, -⟩ := hc i x hi
    exact ⟨h1, h2⟩
theorem ts_set {w : World} {lo β : Nat} {v : Value} {l : List Tg} {cs : Array Value} {t : TypeId} (h : Ts w lo v l) (hb : Bz w β cs t) (h1 : t ≠ 53) (h2 : t ≠ 104) (h3 : t ≠ 2) (i : Nat) (x : Value) : Ts (w.setCell ⟨β, i, none⟩ x) lo v l := by
  refine ⟨h.row.move fun b hb' => heap_setCell_other _ _ _ _ (fun e => ?_), fun y hy => nw_set (h.wn y hy) hb h2 i x, fun y hy => ni_set (h.kn y hy) hb h3 i x, h.wd, h.kd⟩
  obtain ⟨c, hc⟩ := h.row.typed hb'
  simp only [] at e
  subst e
  unfold Bz at hb
  rw [hb] at hc
  cases hc
  exact h1 rfl
theorem sh_one {ns : List Tc} (h : Ahd ns) (h1 : 1 ≤ ns.length) : 1 ≤ (shTo ns ns.length).1.length := by
  have F := shTo_f h _ (Nat.le_refl _)
  have := F.rg _ (gD_lt (l := (shTo ns ns.length).2) (i := 0) (by rw [F.l2]; omega))
  omega
theorem rp_ok {v : Int} {us ts : List Tc} (hu1 : 1 ≤ us.length) (hu : Ahd us) (ht : Ahd ts) (hlu : us.length ≤ 400) (hlt : ts.length ≤ 400) (hou : ∀ n ∈ us, okT n) (hot : ∀ n ∈ ts, okT n) : ∀ k, k ≤ ts.length → ∀ n ∈ (rpTo v us ts k).1, okT n := by
  intro k
  induction k with
  | zero => intro _ n hn; exact hou n hn
  | succ k ih =>
    intro h n hn
    have hk2 : ts[k]? = some (ts[k]'(by omega)) := List.getElem?_eq_getElem (by omega)
    have F := rpTo_f (v := v) hu1 hu ht k (by omega)
    have i1 := ih (by omega)
    have hkid := ht k _ hk2
    have hm := hot _ (List.getElem_mem (show k < ts.length by omega))
    rw [rpTo_succ hk2] at hn
    generalize ts[k]'(by omega) = x at hkid hm hn
    generalize rpTo v us ts k = st at F i1 hn
    unfold rpStep at hn
    split at hn
    · exact i1 n hn
    · rcases List.mem_append.1 hn with h9 | h9
      · exact i1 n h9
      · simp at h9
        subst h9
        obtain ⟨k1, k2, k3, k4, k5, k6, k7, k8, k9⟩ := hm
        refine ⟨k1, k2, k3, k4, k5, k6, k7, by simpa [mvT] using k8, fun y hy => ?_⟩
        obtain ⟨q, hq, rfl⟩ := List.mem_map.1 hy
        have h8 := hkid q hq
        have h7 := F.rg _ (gD_lt (l := st.2) (i := q.toNat) (by rw [F.l2]; omega))
        have h6 := F.l1
        exact ⟨by omega, by omega⟩

set_option maxHeartbeats 16000000 in
set_option maxRecDepth 100000 in
theorem specRep_any (a ta ua : Option Addr) (c tc uc tn un : Nat) (ds : List Dc) (ts us : List Tg) (v : Int) (w : World) (hr : RdD w a ds) (ht : RdT w ta ts) (htn : ts.length = tn) (hts : Sn ts) (hu : RdT w ua us) (hun : us.length = un) (hus : Sn us) (hv : in64 v) :
    Calls Tryz.prog 6 #[.slice a ds.length c, .agg #[.slice ta tn tc], .int .i64 v, .agg #[.slice ua un uc]] w (RetRp w (repR ds (ts.map Tg.ct) v (us.map Tg.ct))) := by
  have HWT := kide (fun u (hb : Below w.heap.size w u) => specWidth_any a ta c tc tn ds ts u (hr.later hb) (ht.later hb) htn)
  have HWU := kide (fun u (hb : Below w.heap.size w u) => specWidth_any a ua c uc un ds us u (hr.later hb) (hu.later hb) hun)
  obtain ⟨Wt, hWt⟩ : ∃ Wt, widR ds (ts.map Tg.ct) = Wt := ⟨_, rfl⟩
  obtain ⟨Wu, hWu⟩ : ∃ Wu, widR ds (us.map Tg.ct) = Wu := ⟨_, rfl⟩
  have HEt := kide hWt
  have HEu := kide hWu
  rw [hWt] at HWT
  rw [hWu] at HWU
  have hb3 : Below w.heap.size w (((w.alloc (Obj.cells #[Value.slice ta tn tc] 30)).alloc (Obj.cells #[Value.slice ua un uc] 30)).alloc (Obj.cells #[Value.slice none 0 0] 30)) := (((Below.refl _ _).alloc (Nat.le_refl _) _).alloc (by simp) _).alloc (by simp; omega) _
  have X0 : Hid (Bz (((w.alloc (Obj.cells #[Value.slice ta tn tc] 30)).alloc (Obj.cells #[Value.slice ua un uc] 30)).alloc (Obj.cells #[Value.slice none 0 0] 30)) w.heap.size #[Value.slice ta tn tc] 30) := ((Bz.new w _ _).later ((Below.refl _ _).alloc (Nat.le_refl _) _)).later ((Below.refl _ _).alloc (Nat.le_refl _) _)
  have X1 : Hid (Bz (((w.alloc (Obj.cells #[Value.slice ta tn tc] 30)).alloc (Obj.cells #[Value.slice ua un uc] 30)).alloc (Obj.cells #[Value.slice none 0 0] 30)) (w.heap.size + 1) #[Value.slice ua un uc] 30) := by
    have h9 := Bz.new (w.alloc (Obj.cells #[Value.slice ta tn tc] 30)) #[Value.slice ua un uc] 30
    rw [show (w.alloc (Obj.cells #[Value.slice ta tn tc] 30)).heap.size = w.heap.size + 1 by simp] at h9
    exact h9.later ((Below.refl _ _).alloc (Nat.le_refl _) _)
  have X2 : Hid (Bz (((w.alloc (Obj.cells #[Value.slice ta tn tc] 30)).alloc (Obj.cells #[Value.slice ua un uc] 30)).alloc (Obj.cells #[Value.slice none 0 0] 30)) (w.heap.size + 2) #[Value.slice none 0 0] 30) := by
    have h9 := Bz.new ((w.alloc (Obj.cells #[Value.slice ta tn tc] 30)).alloc (Obj.cells #[Value.slice ua un uc] 30)) #[Value.slice none 0 0] 30
    rw [show ((w.alloc (Obj.cells #[Value.slice ta tn tc] 30)).alloc (Obj.cells #[Value.slice ua un uc] 30)).heap.size = w.heap.size + 2 by simp] at h9
    exact h9
  have B0 := kide hb3
  have hdl := hr.1
  have HR0 := kide hr
  have HT0 := kide ht
  have HU0 := kide hu
  have HTN := kide htn
  have HUN := kide hun
  have HTS := kide hts
  have HUS := kide hus
  obtain ⟨R, HR⟩ : ∃ R, Hid (repR ds (ts.map Tg.ct) v (us.map Tg.ct) = R) := ⟨_, kide rfl⟩
  rw [HR.out]
  obtain ⟨dn, hdn⟩ : ∃ dn, ds.length = dn := ⟨_, rfl⟩
  have HDN := kide hdn
  rw [hdn] at HWT HWU hdl ⊢
  have hwl : wrap64 ((dn : Int) - 1) = (dn : Int) - 1 := by unfold wrap64; omega
  have HDL := kide hdl
  have HWL := kide hwl
  clear hb3 hr ht htn hts hu hun hus hdn hdl hwl hv
  by_cases hA : Wt < 0
  · have hR : R = ([], false) := by rw [← HR.out]; unfold repR repOk; rw [HEt.out]; simp [show ¬ 0 ≤ Wt by omega]
    clear hWt hWu
    go_enter Tryz.func6, Tryz.ntmps6
    go_wp2_with fail
    simp only [show w.heap.size + 1 + 1 = w.heap.size + 2 from rfl]
    generalize ((w.alloc (Obj.cells #[Value.slice ta tn tc] 30)).alloc (Obj.cells #[Value.slice ua un uc] 30)).alloc (Obj.cells #[Value.slice none 0 0] 30) = W0 at *
    refine Calls.mono (HWU.out W0 B0.out) ?_
    rintro e w1 ⟨rfl, hb1⟩
    have B1 := kide (B0.out.trans (hb1.mono B0.out.size))
    have XT1 := kide (X0.out.later hb1)
    have XU1 := kide (X1.out.later hb1)
    have XR1 := kide (X2.out.later hb1)
    obtain ⟨b0, hb0⟩ : ∃ b0, w.heap.size = b0 := ⟨_, rfl⟩
    rw [hb0] at XT1 XU1 XR1
    simp only [hb0]
    have HB0 := kide hb0
    clear hb1 X0 X1 X2 B0 hb0
    have c0 := XT1.out.cell 0
    have c1 := XU1.out.cell 0
    simp at c0 c1
    go_wp2_with fail
    refine Calls.mono (HWT.out w1 B1.out) ?_
    rintro e wb ⟨rfl, hb2⟩
    have BB2 := kide (B1.out.trans (hb2.mono B1.out.size))
    have XT2 := kide (XT1.out.later hb2)
    have XU2 := kide (XU1.out.later hb2)
    have XR2 := kide (XR1.out.later hb2)
    clear hb2 XT1 XU1 XR1 B1 c0 c1
    have c1 := XU2.out.cell 0
    have d0 := XR2.out.cell 0
    have f0 := XR2.out.froz 0
    simp at c1 d0
    have B9 : Hid (Below w.heap.size w (wb.setCell ⟨b0 + 2, 0, none⟩ (Value.slice none 0 0))) := BB2.out.setCell (by simp only []; have := HB0.out; omega) _
    have y0 : (wb.setCell ⟨b0 + 2, 0, none⟩ (Value.slice none 0 0)).cell? ⟨b0 + 2, 0, none⟩ = some (Value.slice none 0 0) := (XR2.out.set 0 _).cell 0
    have Y0 := kide y0
    clear y0
    go_wp2_with fail
    have y0 := Y0.out
    rw [hR]
    first
      | exact bodyPost_ret (v := .tuple #[.agg #[.slice none 0 0], .bool false]) (by simp [results, Tryz.results6, go_sem, y0]) rfl ⟨.slice none 0 0, [], rfl, Ts.nil _ _, rfl, B9.out⟩
      | exact bodyPost_ret (v := .tuple #[.agg #[.slice none 0 0], .bool false]) (by simp [results, Tryz.results6, go_sem, d0]) rfl ⟨.slice none 0 0, [], rfl, Ts.nil _ _, rfl, BB2.out⟩
  have HCL := kide (wid_dcl (ns := ts.map Tg.ct) (by rw [HEt.out]; omega))
  by_cases hB : Wu < 0
  · have hR : R = ([], false) := by
      rw [← HR.out]
      unfold repR
      rw [if_neg]
      intro h9
      unfold repOk at h9
      simp only [Bool.and_eq_true] at h9
      have h8 := h9.2
      split at h8
      · rename_i d hd
        have h7 := dcl_pos HCL.out.1 (List.mem_of_getElem? hd)
        have h6 := of_decide_eq_true h8
        rw [HEu.out] at h6
        omega
      · cases h8
    clear hWt hWu
    go_enter Tryz.func6, Tryz.ntmps6
    go_wp2_with fail
    simp only [show w.heap.size + 1 + 1 = w.heap.size + 2 from rfl]
    generalize ((w.alloc (Obj.cells #[Value.slice ta tn tc] 30)).alloc (Obj.cells #[Value.slice ua un uc] 30)).alloc (Obj.cells #[Value.slice none 0 0] 30) = W0 at *
    refine Calls.mono (HWU.out W0 B0.out) ?_
    rintro e w1 ⟨rfl, hb1⟩
    have B1 := kide (B0.out.trans (hb1.mono B0.out.size))
    have XT1 := kide (X0.out.later hb1)
    have XU1 := kide (X1.out.later hb1)
    have XR1 := kide (X2.out.later hb1)
    obtain ⟨b0, hb0⟩ : ∃ b0, w.heap.size = b0 := ⟨_, rfl⟩
    rw [hb0] at XT1 XU1 XR1
    simp only [hb0]
    have HB0 := kide hb0
    clear hb1 X0 X1 X2 B0 hb0
    have c0 := XT1.out.cell 0
    have c1 := XU1.out.cell 0
    simp at c0 c1
    go_wp2_with fail
    refine Calls.mono (HWT.out w1 B1.out) ?_
    rintro e wb ⟨rfl, hb2⟩
    have BB2 := kide (B1.out.trans (hb2.mono B1.out.size))
    have XT2 := kide (XT1.out.later hb2)
    have XU2 := kide (XU1.out.later hb2)
    have XR2 := kide (XR1.out.later hb2)
    clear hb2 XT1 XU1 XR1 B1 c0 c1
    have c1 := XU2.out.cell 0
    have d0 := XR2.out.cell 0
    have f0 := XR2.out.froz 0
    simp at c1 d0
    have B9 : Hid (Below w.heap.size w (wb.setCell ⟨b0 + 2, 0, none⟩ (Value.slice none 0 0))) := BB2.out.setCell (by simp only []; have := HB0.out; omega) _
    have y0 : (wb.setCell ⟨b0 + 2, 0, none⟩ (Value.slice none 0 0)).cell? ⟨b0 + 2, 0, none⟩ = some (Value.slice none 0 0) := (XR2.out.set 0 _).cell 0
    have Y0 := kide y0
    clear y0
    go_wp2_with fail
    have y0 := Y0.out
    rw [hR]
    first
      | exact bodyPost_ret (v := .tuple #[.agg #[.slice none 0 0], .bool false]) (by simp [results, Tryz.results6, go_sem, y0]) rfl ⟨.slice none 0 0, [], rfl, Ts.nil _ _, rfl, B9.out⟩
      | exact bodyPost_ret (v := .tuple #[.agg #[.slice none 0 0], .bool false]) (by simp [results, Tryz.results6, go_sem, d0]) rfl ⟨.slice none 0 0, [], rfl, Ts.nil _ _, rfl, BB2.out⟩
  by_cases hC' : ¬ (0 ≤ v ∧ v < (dn : Int))
  · have hR : R = ([], false) := by rw [← HR.out]; unfold repR repOk; rw [HDN.out]; simp [hC']
    have hlin : decide (0 ≤ v ∧ v ≤ wrap64 ((dn : Int) - 1)) = false := decide_eq_false (by rw [HWL.out]; omega)
    clear hWt hWu
    go_enter Tryz.func6, Tryz.ntmps6
    go_wp2_with fail
    simp only [show w.heap.size + 1 + 1 = w.heap.size + 2 from rfl]
    generalize ((w.alloc (Obj.cells #[Value.slice ta tn tc] 30)).alloc (Obj.cells #[Value.slice ua un uc] 30)).alloc (Obj.cells #[Value.slice none 0 0] 30) = W0 at *
    refine Calls.mono (HWU.out W0 B0.out) ?_
    rintro e w1 ⟨rfl, hb1⟩
    have B1 := kide (B0.out.trans (hb1.mono B0.out.size))
    have XT1 := kide (X0.out.later hb1)
    have XU1 := kide (X1.out.later hb1)
    have XR1 := kide (X2.out.later hb1)
    obtain ⟨b0, hb0⟩ : ∃ b0, w.heap.size = b0 := ⟨_, rfl⟩
    rw [hb0] at XT1 XU1 XR1
    simp only [hb0]
    have HB0 := kide hb0
    clear hb1 X0 X1 X2 B0 hb0
    have c0 := XT1.out.cell 0
    have c1 := XU1.out.cell 0
    simp at c0 c1
    go_wp2_with fail
    refine Calls.mono (HWT.out w1 B1.out) ?_
    rintro e wb ⟨rfl, hb2⟩
    have BB2 := kide (B1.out.trans (hb2.mono B1.out.size))
    have XT2 := kide (XT1.out.later hb2)
    have XU2 := kide (XU1.out.later hb2)
    have XR2 := kide (XR1.out.later hb2)
    clear hb2 XT1 XU1 XR1 B1 c0 c1
    have c1 := XU2.out.cell 0
    have d0 := XR2.out.cell 0
    have f0 := XR2.out.froz 0
    simp at c1 d0
    go_wp2_with fail
    refine Calls.mono (l1In_any v 0 _ wb) ?_
    rintro e w3 ⟨rfl, hw3⟩
    obtain rfl := hw3.symm
    rw [hlin]
    have B9 : Hid (Below w.heap.size w (wb.setCell ⟨b0 + 2, 0, none⟩ (Value.slice none 0 0))) := BB2.out.setCell (by simp only []; have := HB0.out; omega) _
    have y0 : (wb.setCell ⟨b0 + 2, 0, none⟩ (Value.slice none 0 0)).cell? ⟨b0 + 2, 0, none⟩ = some (Value.slice none 0 0) := (XR2.out.set 0 _).cell 0
    have Y0 := kide y0
    clear y0
    go_wp2_with fail
    have y0 := Y0.out
    rw [hR]
    first
      | exact bodyPost_ret (v := .tuple #[.agg #[.slice none 0 0], .bool false]) (by simp [results, Tryz.results6, go_sem, y0]) rfl ⟨.slice none 0 0, [], rfl, Ts.nil _ _, rfl, B9.out⟩
      | exact bodyPost_ret (v := .tuple #[.agg #[.slice none 0 0], .bool false]) (by simp [results, Tryz.results6, go_sem, d0]) rfl ⟨.slice none 0 0, [], rfl, Ts.nil _ _, rfl, BB2.out⟩
  have hC := Classical.not_not.1 hC'
  clear hC'
  have HLIN : Hid (decide (0 ≤ v ∧ v ≤ wrap64 ((dn : Int) - 1)) = true) := decide_eq_true (by rw [HWL.out]; omega)
  obtain ⟨vn, rfl⟩ := Int.eq_ofNat_of_zero_le hC.1
  have hvn : (vn : Int) < (dn : Int) := hC.2
  obtain ⟨d, gd⟩ : ∃ d, ds[vn]? = some d := ⟨ds[vn]'(by rw [HDN.out]; omega), List.getElem?_eq_getElem _⟩
  have HDA : Hid (∀ u, Below w.heap.size w u → ∃ b o, a = some ⟨b, o, none⟩ ∧ u.cell? ⟨b, o + vn * 2 + 1, none⟩ = some (.int .i64 d.2)) := fun u hb => by
    obtain ⟨-, -, h | ⟨b, o, e, hc⟩⟩ := HR0.out.later hb
    · rw [h] at gd; simp at gd
    · exact ⟨b, o, e, (hc vn d gd).2⟩
  have HOKV : Hid (repOk ds (ts.map Tg.ct) (vn : Int) (us.map Tg.ct) = decide (d.2 = Wu)) := by
    show _ = _
    unfold repOk
    rw [HEt.out, HEu.out, HDN.out]
    simp only [Int.toNat_natCast, gd]
    simp [show 0 ≤ Wt by omega, hvn]
  clear gd hC
  generalize d.2 = dw at *
  by_cases hD' : ¬ dw = Wu
  · have hR : R = ([], false) := by rw [← HR.out]; unfold repR; rw [HOKV.out]; simp [hD']
    have hne : (dw != Wu) = true := by simpa using hD'
    obtain ⟨ab, ao, rfl, -⟩ := HDA.out w (Below.refl _ _)
    clear hWt hWu
    go_enter Tryz.func6, Tryz.ntmps6
    go_wp2_with fail
    simp only [show w.heap.size + 1 + 1 = w.heap.size + 2 from rfl]
    generalize ((w.alloc (Obj.cells #[Value.slice ta tn tc] 30)).alloc (Obj.cells #[Value.slice ua un uc] 30)).alloc (Obj.cells #[Value.slice none 0 0] 30) = W0 at *
    refine Calls.mono (HWU.out W0 B0.out) ?_
    rintro e w1 ⟨rfl, hb1⟩
    have B1 := kide (B0.out.trans (hb1.mono B0.out.size))
    have XT1 := kide (X0.out.later hb1)
    have XU1 := kide (X1.out.later hb1)
    have XR1 := kide (X2.out.later hb1)
    obtain ⟨b0, hb0⟩ : ∃ b0, w.heap.size = b0 := ⟨_, rfl⟩
    rw [hb0] at XT1 XU1 XR1
    simp only [hb0]
    have HB0 := kide hb0
    clear hb1 X0 X1 X2 B0 hb0
    have c0 := XT1.out.cell 0
    have c1 := XU1.out.cell 0
    simp at c0 c1
    go_wp2_with fail
    refine Calls.mono (HWT.out w1 B1.out) ?_
    rintro e wb ⟨rfl, hb2⟩
    have BB2 := kide (B1.out.trans (hb2.mono B1.out.size))
    have XT2 := kide (XT1.out.later hb2)
    have XU2 := kide (XU1.out.later hb2)
    have XR2 := kide (XR1.out.later hb2)
    clear hb2 XT1 XU1 XR1 B1 c0 c1
    have c1 := XU2.out.cell 0
    have d0 := XR2.out.cell 0
    have f0 := XR2.out.froz 0
    simp at c1 d0
    go_wp2_with fail
    refine Calls.mono (l1In_any (vn : Int) 0 _ wb) ?_
    rintro e w3 ⟨rfl, hw3⟩
    obtain rfl := hw3.symm
    rw [HLIN.out]
    obtain ⟨ab2, ao2, ea, g2⟩ := HDA.out wb BB2.out
    cases ea
    have B9 : Hid (Below w.heap.size w (wb.setCell ⟨b0 + 2, 0, none⟩ (Value.slice none 0 0))) := BB2.out.setCell (by simp only []; have := HB0.out; omega) _
    have y0 : (wb.setCell ⟨b0 + 2, 0, none⟩ (Value.slice none 0 0)).cell? ⟨b0 + 2, 0, none⟩ = some (Value.slice none 0 0) := (XR2.out.set 0 _).cell 0
    have Y0 := kide y0
    clear y0
    go_wp2_with fail
    have y0 := Y0.out
    rw [hR]
    first
      | exact bodyPost_ret (v := .tuple #[.agg #[.slice none 0 0], .bool false]) (by simp [results, Tryz.results6, go_sem, y0]) rfl ⟨.slice none 0 0, [], rfl, Ts.nil _ _, rfl, B9.out⟩
      | exact bodyPost_ret (v := .tuple #[.agg #[.slice none 0 0], .bool false]) (by simp [results, Tryz.results6, go_sem, d0]) rfl ⟨.slice none 0 0, [], rfl, Ts.nil _ _, rfl, BB2.out⟩
  have hD := Classical.not_not.1 hD'
  clear hD'
  subst hD
  have hne : (dw != dw) = false := by simp
  obtain ⟨ab, ao, rfl, -⟩ := HDA.out w (Below.refl _ _)
  have HRT := kide HCL.out.2
  have HRU := kide (wid_dcl (ns := us.map Tg.ct) (by rw [HEu.out]; omega)).2
  clear hWt hWu
  go_enter Tryz.func6, Tryz.ntmps6
  go_wp2_with fail
  simp only [show w.heap.size + 1 + 1 = w.heap.size + 2 from rfl]
  generalize ((w.alloc (Obj.cells #[Value.slice ta tn tc] 30)).alloc (Obj.cells #[Value.slice ua un uc] 30)).alloc (Obj.cells #[Value.slice none 0 0] 30) = W0 at *
  refine Calls.mono (HWU.out W0 B0.out) ?_
  rintro e w1 ⟨rfl, hb1⟩
  have B1 := kide (B0.out.trans (hb1.mono B0.out.size))
  have XT1 := kide (X0.out.later hb1)
  have XU1 := kide (X1.out.later hb1)
  have XR1 := kide (X2.out.later hb1)
  obtain ⟨b0, hb0⟩ : ∃ b0, w.heap.size = b0 := ⟨_, rfl⟩
  rw [hb0] at XT1 XU1 XR1
  simp only [hb0]
  have HB0 := kide hb0
  clear hb1 X0 X1 X2 B0 hb0
  have c0 := XT1.out.cell 0
  have c1 := XU1.out.cell 0
  simp at c0 c1
  go_wp2_with fail
  refine Calls.mono (HWT.out w1 B1.out) ?_
  rintro e wb ⟨rfl, hb2⟩
  have BB2 := kide (B1.out.trans (hb2.mono B1.out.size))
  have XT2 := kide (XT1.out.later hb2)
  have XU2 := kide (XU1.out.later hb2)
  have XR2 := kide (XR1.out.later hb2)
  clear hb2 XT1 XU1 XR1 B1 c0 c1
  have c1 := XU2.out.cell 0
  have d0 := XR2.out.cell 0
  have f0 := XR2.out.froz 0
  simp at c1 d0
  go_wp2_with fail
  refine Calls.mono (l1In_any (vn : Int) 0 _ wb) ?_
  rintro e w3 ⟨rfl, hw3⟩
  obtain rfl := hw3.symm
  rw [HLIN.out]
  obtain ⟨ab2, ao2, ea, g2⟩ := HDA.out wb BB2.out
  cases ea
  have hlu := XU2.out.lt
  obtain ⟨u1, u4, -, ua1⟩ := right_kids HRU.out
  obtain ⟨t1, t4, -, ta1⟩ := right_kids HRT.out
  rw [List.length_map, HUN.out] at u1 u4
  rw [List.length_map, HTN.out] at t1 t4
  have HUL := kide (And.intro u1 u4)
  have HTL := kide (And.intro t1 t4)
  have HAU : Hid (Ahd (us.map Tg.ct)) := ua1
  have HAT : Hid (Ahd (ts.map Tg.ct)) := ta1
  clear ua1 ta1
  obtain ⟨ub, uo, rfl⟩ : ∃ ub uo, ua = some ⟨ub, uo, none⟩ := by
    rcases HU0.out.2 with h0 | ⟨b, o, e, -⟩
    · have h9 := HUN.out
      rw [h0] at h9
      simp at h9
      omega
    · exact ⟨b, o, e⟩
  have hbt : Below wb.heap.size wb (wb.alloc (Obj.cells #[] 53)) := (Below.refl _ _).alloc (Nat.le_refl _) _
  have HBT := kide hbt
  have OE := kide (OT.empty wb wb.heap.size (Nat.le_refl _))
  have RU := kide ((HU0.out.later BB2.out).later hbt)
  have hun1 : wrap64 ((un : Int) - 1) = (un : Int) - 1 := by unfold wrap64; omega
  have HUN1 := kide hun1
  clear hbt u1 u4 t1 t4 hun1 d0 f0
  go_wp2_with (at_builtin; refine wpList_appTs _ rfl _ _ rfl wb.heap.size (.slice (some ⟨wb.heap.size, 0, none⟩) 0 0) [] us (by first | rfl | simp [Act.eval]) OE.out ub uo un uc (by first | rfl | simp [Act.eval]) HUN.out RU.out (by have := HUL.out; simp; omega) (by simp) ?_)
  intro v3 w3 ho3 hg3
  replace ho3 : OT w3 wb.heap.size v3 us := ho3
  have B3 := kide (Below.grown HBT.out hg3 HBT.out.size (fun j hj => (OE.out.lt hj).1))
  have HO3 := kide ho3
  obtain ⟨va, vc, rfl⟩ := ho3.form
  rw [HUN.out] at HO3 ⊢
  clear ho3 hg3 HBT OE RU c1 hlu g2 hne hvn
  have hbi : Below w3.heap.size w3 (w3.alloc (Obj.cells #[] 2)) := (Below.refl _ _).alloc (Nat.le_refl _) _
  have M0 : Hid (RpM w (w3.alloc (Obj.cells #[] 2)) wb.heap.size (w3.alloc (Obj.cells #[] 2)).heap.size (.slice va un vc) (.slice (some ⟨w3.heap.size, 0, none⟩) 0 0) us (rpTo (vn : Int) (us.map Tg.ct) (ts.map Tg.ct) 0)) := by
    have hs3 := B3.out.size
    refine ⟨HO3.out.later hbi, fun x hx => .inl (HU0.out.ndo x hx), HUS.out, rfl, OI.empty w3 _ hs3, BB2.out.trans ((B3.out.trans (hbi.mono hs3)).mono BB2.out.size), BB2.out.size, Nat.le_trans hs3 hbi.size, Nat.le_refl _, fun b hb => ((HO3.out.later hbi).lt hb).2, fun b hb => ?_⟩
    cases hb
    simp
  have BB0 := kide (B3.out.trans (hbi.mono B3.out.size))
  have HOU := kide HU0.out.ok
  have HOT := kide HT0.out.ok
  clear hbi B3 HO3
  go_wp2_with fail
  rw [HUN1.out]
  generalize w3.alloc (Obj.cells #[] 2) = W4 at *
  obtain ⟨US, hUS⟩ : ∃ US, us.map Tg.ct = US := ⟨_, rfl⟩
  obtain ⟨TS, hTS⟩ : ∃ TS, ts.map Tg.ct = TS := ⟨_, rfl⟩
  rw [hUS] at HR HAU HOU HRU
  rw [hTS] at HR HAT HOT HRT
  rw [hUS, hTS] at M0 HOKV
  have HTSC := kide hTS
  have HUSL : Hid (US.length = un) := by show _ = _; rw [← hUS, List.length_map]; exact HUN.out
  have HTSL : Hid (TS.length = tn) := by show _ = _; rw [← hTS, List.length_map]; exact HTN.out
  have HRF := kide (fun k (hk : k ≤ tn) => rpTo_f (v := (vn : Int)) (us := US) (ts := TS) (by rw [HUSL.out]; exact HUL.out.1) HAU.out HAT.out k (by rw [HTSL.out]; exact hk))
  have HCT : Hid (∀ u, Below wb.heap.size wb u → u.cell? ⟨b0, 0, none⟩ = some (.slice ta tn tc)) := fun u hu => (XT2.out.later hu).cell 0
  clear hUS hTS
  go_loopw [11, 13, 14] (fun nv tv q wr => ∃ (k : Nat) (l : List Tg), k ≤ tn ∧ q = .int .i64 (k : Int) ∧ RpM w wr wb.heap.size wr.heap.size nv tv l (rpTo (vn : Int) US TS k) ∧ Below wb.heap.size wb wr) (fun _ _ q _ => tn - (intOf q).toNat)
  case atStart => exact ⟨0, us, Nat.zero_le _, rfl, M0.out.now, BB0.out⟩
  case round =>
    clear M0 BB0
    obtain ⟨k, l, hk, rfl, hm, hbb⟩ := hrel
    have HM := kide hm
    have BB := kide hbb
    have HF := kide (HRF.out k hk)
    have c0 := HCT.out wr hbb
    by_cases hlt : k < tn
    · have i0 : (k : Int) < (tn : Int) := by omega
      obtain ⟨x, gx⟩ : ∃ x, ts[k]? = some x := ⟨ts[k]'(by rw [HTN.out]; exact hlt), List.getElem?_eq_getElem _⟩
      have gn : TS[k]? = some x.ct := by rw [← HTSC.out]; simp [gx]
      obtain ⟨bq, oq, rfl, hcq⟩ : ∃ b o, ta = some ⟨b, o, none⟩ ∧ ∀ i y, ts[i]? = some y → TgAt w b (o + i * 7) y := by
        rcases HT0.out.2 with h0 | h0
        · rw [h0] at gx; simp at gx
        · exact h0
      obtain ⟨⟨p0, p1, p2, p3, p4, p5, p6⟩, pw, pk, -⟩ := (hcq k x gx).later hm.bl
      simp only [Tg.hd] at p0 p1 p2 p3 p4 p5 p6
      obtain ⟨sw, sk⟩ := HTS.out x (List.mem_of_getElem? gx)
      have HST := kide (rpTo_succ (v := (vn : Int)) (us := US) gn)
      have HKK := kide (HAT.out k _ gn)
      have HOX := kide (HOT.out _ (List.mem_of_getElem? gn))
      have e9 : wrap64 ((k : Int) + 1) = ((k + 1 : Nat) : Int) := by unfold wrap64; have := HTL.out; omega
      have HE9 := kide e9
      generalize rpTo (vn : Int) US TS k = st at *
      obtain ⟨st1, to⟩ := st
      clear gx gn hcq hm hbb e9
      generalize x.ct = nd at *
      have HTO : Hid (to.length = k) := HF.out.l2
      have HLL : Hid (l.length = st1.length ∧ st1.length ≤ un + k) := by
        have h9 := congrArg List.length HM.out.eq
        have h8 := HF.out.l1
        rw [HUSL.out] at h8
        simp only [] at h8
        exact ⟨by simpa using h9, h8.2⟩
      by_cases hop : nd.op = 1
      · have he1 : (nd.op == 1) = true := by simpa using hop
        by_cases hvr : nd.vr = (vn : Int)
        · have he2 : (nd.vr == (vn : Int)) = true := by simpa using hvr
          have HS2 : Hid (rpTo (vn : Int) US TS (k + 1) = (st1, to ++ [(un : Int) - 1])) := by show _ = _; rw [HST.out, rpStep, if_pos (by simp [isV, hop, hvr]), HUSL.out]
          clear hop hvr HST
          have HC := kide (l3CopyNodeQ_any nd x.wa x.ka x.wc x.kc wr pw pk sw sk)
          clear pw pk sw sk
          go_wp2_with fail
          refine Calls.mono HC.out ?_
          rintro e w2 ⟨a1, c1, a2, c2, rfl, -, -, -, hb2⟩
          have M2 := kide (HM.out.later hb2)
          have BB2 := kide (BB.out.trans (hb2.mono BB.out.size))
          have hb3 : Below w2.heap.size w2 ((w2.alloc (Obj.cells #[Value.int .i64 nd.op, Value.int .i64 nd.vr, Value.int .i64 nd.a, Value.int .i64 nd.b, Value.int .i64 nd.bw, Value.slice a1 nd.ws.length c1, Value.slice a2 nd.ks.length c2] 53)).alloc (Obj.cells #[Value.int .i64 ((un : Int) - 1)] 2)) := ((Below.refl _ _).alloc (Nat.le_refl _) _).alloc (by simp) _
          have M3 := kide (M2.out.later hb3)
          have BB3 := kide (BB2.out.trans (hb3.mono BB2.out.size))
          have HSB : Hid (wb.heap.size ≤ ((w2.alloc (Obj.cells #[Value.int .i64 nd.op, Value.int .i64 nd.vr, Value.int .i64 nd.a, Value.int .i64 nd.b, Value.int .i64 nd.bw, Value.slice a1 nd.ws.length c1, Value.slice a2 nd.ks.length c2] 53)).alloc (Obj.cells #[Value.int .i64 ((un : Int) - 1)] 2)).heap.size) := BB3.out.size
          have HCI : Hid (((w2.alloc (Obj.cells #[Value.int .i64 nd.op, Value.int .i64 nd.vr, Value.int .i64 nd.a, Value.int .i64 nd.b, Value.int .i64 nd.bw, Value.slice a1 nd.ws.length c1, Value.slice a2 nd.ks.length c2] 53)).alloc (Obj.cells #[Value.int .i64 ((un : Int) - 1)] 2)).cell? ⟨w2.heap.size + 1, 0, none⟩ = some (.int .i64 ((un : Int) - 1))) := by
            have h9 := Bz.new (w2.alloc (Obj.cells #[Value.int .i64 nd.op, Value.int .i64 nd.vr, Value.int .i64 nd.a, Value.int .i64 nd.b, Value.int .i64 nd.bw, Value.slice a1 nd.ws.length c1, Value.slice a2 nd.ks.length c2] 53)) #[Value.int .i64 ((un : Int) - 1)] 2
            rw [show (w2.alloc (Obj.cells #[Value.int .i64 nd.op, Value.int .i64 nd.vr, Value.int .i64 nd.a, Value.int .i64 nd.b, Value.int .i64 nd.bw, Value.slice a1 nd.ws.length c1, Value.slice a2 nd.ks.length c2] 53)).heap.size = w2.heap.size + 1 by simp] at h9
            exact h9.cell 0
          clear hb2 hb3 HC M2 BB2 p0 p1 p2 p3 p4 p5 p6
          go_wp2_with (at_builtin; refine wpList_appI rfl _ _ rfl wb.heap.size u13 to ((un : Int) - 1) (by first | rfl | simp [Act.eval]) M3.out.ot (w2.heap.size + 1) 1 (by first | rfl | simp [Act.eval]) HCI.out (by have h1 := HTO.out; have h2 := HTL.out; omega) HSB.out ?_)
          intro g5 cap5 w5 ho5 hg5 hat5
          have MP := kide (M3.out.told hg5 ho5 (by rcases hat5 with h | h; exact .inl h.symm; exact .inr (congrArg some (by simpa using h))))
          have BP := kide (Below.grown BB3.out hg5 HSB.out (fun j hj => (M3.out.ot.lt hj).1))
          clear ho5 hg5 hat5 M3 BB3 HSB HCI
          go_wp2_with fail
          rw [HE9.out]
          go_roundw
          case rel => exact ⟨k + 1, _, by omega, by first | rfl | go_num, by rw [HS2.out]; exact MP.out, BP.out⟩
          case measure => simp only [intOf, Int.toNat_natCast]; omega
        · have he2 : (nd.vr == (vn : Int)) = false := by simpa using hvr
          have HS2 : Hid (rpTo (vn : Int) US TS (k + 1) = (st1 ++ [mvT to nd], to ++ [(st1.length : Int)])) := by show _ = _; rw [HST.out, rpStep, if_neg (by simp [isV, hvr])]
          clear hop hvr HST
          have HC := kide (l3CopyNodeQ_any nd x.wa x.ka x.wc x.kc wr pw pk sw sk)
          clear pw pk sw sk
          go_wp2_with fail
          refine Calls.mono HC.out ?_
          rintro e w2 ⟨a1, c1, a2, c2, rfl, hnw, hni, hcap, hb2⟩
          have HCAP := kide hcap
          obtain ⟨N, hN⟩ : ∃ N, wr.heap.size = N := ⟨_, rfl⟩
          rw [hN] at hnw hni HM
          have M2 := kide (HM.out.later hb2)
          have BB2 := kide (BB.out.trans (hb2.mono BB.out.size))
          have hb3 : Below w2.heap.size w2 (w2.alloc (Obj.cells #[Value.int .i64 nd.op, Value.int .i64 nd.vr, Value.int .i64 nd.a, Value.int .i64 nd.b, Value.int .i64 nd.bw, Value.slice a1 nd.ws.length c1, Value.slice a2 nd.ks.length c2] 53)) := (Below.refl _ _).alloc (Nat.le_refl _) _
          have X3 := kide (Bz.new w2 #[Value.int .i64 nd.op, Value.int .i64 nd.vr, Value.int .i64 nd.a, Value.int .i64 nd.b, Value.int .i64 nd.bw, Value.slice a1 nd.ws.length c1, Value.slice a2 nd.ks.length c2] 53)
          have M3 := kide (M2.out.later hb3)
          have NW3 := kide (hnw.later hb3)
          have NI3 := kide (hni.later hb3)
          have BB3 := kide (BB2.out.trans (hb3.mono BB2.out.size))
          clear hb2 hb3 hnw hni HM M2 p0 p1 p2 p3 p4 p5 p6 HC hN hcap BB BB2
          go_wp2_with fail
          generalize w2.alloc (Obj.cells #[Value.int .i64 nd.op, Value.int .i64 nd.vr, Value.int .i64 nd.a, Value.int .i64 nd.b, Value.int .i64 nd.bw, Value.slice a1 nd.ws.length c1, Value.slice a2 nd.ks.length c2] 53) = w3 at *
          generalize w2.heap.size = ν at *
          obtain ⟨nk, hnk⟩ : ∃ nk, nd.ks.length = nk := ⟨_, rfl⟩
          rw [hnk] at X3
          simp only [hnk]
          have HNK := kide hnk
          have hnk2 : nk ≤ 1048576 := by rw [← hnk]; exact HOX.out.2.2.2.2.2.2.2.1
          obtain ⟨nw, hnw⟩ : ∃ nw, nd.ws.length = nw := ⟨_, rfl⟩
          rw [hnw] at X3
          simp only [hnw]
          have HNW := kide hnw
          clear hnk hnw
          go_loopw [16] (fun i wr => ∃ j : Nat, j ≤ nk ∧ i = .int .i64 (j : Int) ∧ RpM w wr wb.heap.size N u11 u13 l (st1, to) ∧ Bz wr ν #[Value.int .i64 nd.op, Value.int .i64 nd.vr, Value.int .i64 nd.a, Value.int .i64 nd.b, Value.int .i64 nd.bw, Value.slice a1 nw c1, Value.slice a2 nk c2] 53 ∧ Nw wr N a1 nd.ws ∧ Ni wr N a2 (mvK to nd.ks j) ∧ Below wb.heap.size wb wr) (fun i _ => nk - (intOf i).toNat)
          case atStart => exact ⟨0, Nat.zero_le _, rfl, M3.out, X3.out, NW3.out, by simpa [mvK] using NI3.out, BB3.out⟩
          case round =>
            clear M3 X3 NW3 NI3 BB3
            obtain ⟨j, hj, rfl, hm, hx, hw1, hi1, hBB⟩ := hrel
            have HM := kide hm
            have HX := kide hx
            have HW1 := kide hw1
            have HI1 := kide hi1
            have BB := kide hBB
            have z6 := hx.cell 6
            simp at z6
            clear hm hx hw1 hi1 hBB
            by_cases hjk : j < nk
            · have hjl : j < nd.ks.length := by rw [HNK.out]; exact hjk
              obtain ⟨g, hg2, hNg⟩ : ∃ g, a2 = some ⟨g, 0, none⟩ ∧ N ≤ g := by
                rcases HI1.out with ⟨h1, -⟩ | ⟨g, cur, h1, h2, -⟩
                · have h9 := congrArg List.length h1; rw [mvK_len, List.length_nil] at h9; omega
                · exact ⟨g, h1, h2⟩
              subst hg2
              obtain ⟨q0, q1⟩ := HI1.out.cell (j := j) (by rw [mvK_len]; exact hjl)
              rw [mvK_get to nd.ks (Nat.le_refl j)] at q0
              have HPUT := kide (fun y => HI1.out.put (j := j) (by rw [mvK_len]; exact hjl) y)
              have HSTP := kide (mvK_step to nd.ks hjl)
              have hkid := HKK.out (nd.ks.getD j 0) (by
                have e : nd.ks.getD j 0 = nd.ks[j] := by simp [List.getD, hjl]
                rw [e]; exact List.getElem_mem _)
              generalize nd.ks.getD j 0 = kj at *
              obtain ⟨hk0, hk1⟩ := hkid
              obtain ⟨kn, rfl⟩ := Int.eq_ofNat_of_zero_le hk0
              obtain ⟨tva, tvc, htv⟩ : ∃ a c, u13 = .slice a to.length c := by
                obtain ⟨a9, c9, h9, -⟩ := HM.out.ot.ni
                exact ⟨a9, c9, h9⟩
              subst htv
              obtain ⟨gt, rfl⟩ : ∃ gt, tva = some ⟨gt, 0, none⟩ := by
                rcases HM.out.ot.2 with ⟨e9, h9⟩ | ⟨g9, cap9, cur9, e9, -⟩
                · have h8 := HTO.out
                  simp only [] at h9
                  omega
                · injection e9 with e8
                  exact ⟨g9, e8⟩
              have t0 := OI.cell9 HM.out.ot (i := kn) (by simp only []; have := HTO.out; omega)
              simp only [] at t0
              have i2 : (kn : Int) < (to.length : Int) := by rw [HTO.out]; omega
              obtain ⟨y, hy⟩ : ∃ y, to.getD kn 0 = y := ⟨_, rfl⟩
              rw [hy] at t0
              rw [Int.toNat_natCast, hy] at HSTP
              have HP := kide (HPUT.out y)
              rw [HSTP.out] at HP
              have i1 : (j : Int) < (nk : Int) := by omega
              clear hy HPUT HSTP hk0
              obtain ⟨cur, hgz⟩ : ∃ cur, Bz wr g cur 2 := by
                rcases HI1.out with ⟨h1, -⟩ | ⟨g', cur, h1, h2, h3, -⟩
                · have h9 := congrArg List.length h1; rw [mvK_len, List.length_nil] at h9; omega
                · cases h1; exact ⟨cur, h3⟩
              have hne : ν ≠ g := by
                rintro rfl
                have h9 := HX.out
                unfold Bz at h9 hgz
                rw [hgz] at h9
                cases h9
              have hg9 := grow_setT (World.grownBy.refl wr (some g)) j (.int .i64 y)
              have HM4 := kide ((HM.out.out hg9 hNg).later ((Below.refl _ _).drew : Below (wr.setCell ⟨g, j, none⟩ (.int .i64 y)).heap.size (wr.setCell ⟨g, j, none⟩ (.int .i64 y)) (wr.setCell ⟨g, j, none⟩ (.int .i64 y)).drew))
              have HX4 := kide ((HX.out.other hne j (.int .i64 y)).later ((Below.refl _ _).drew : Below (wr.setCell ⟨g, j, none⟩ (.int .i64 y)).heap.size (wr.setCell ⟨g, j, none⟩ (.int .i64 y)) (wr.setCell ⟨g, j, none⟩ (.int .i64 y)).drew))
              have HW4 := kide ((nw_set HW1.out hgz (by decide) j (.int .i64 y)).later ((Below.refl _ _).drew : Below (wr.setCell ⟨g, j, none⟩ (.int .i64 y)).heap.size (wr.setCell ⟨g, j, none⟩ (.int .i64 y)) (wr.setCell ⟨g, j, none⟩ (.int .i64 y)).drew))
              have HI4 := kide (HP.out.later ((Below.refl _ _).drew : Below (wr.setCell ⟨g, j, none⟩ (.int .i64 y)).heap.size (wr.setCell ⟨g, j, none⟩ (.int .i64 y)) (wr.setCell ⟨g, j, none⟩ (.int .i64 y)).drew))
              have BB4 := kide ((BB.out.setCell (show wb.heap.size ≤ (⟨g, j, none⟩ : Addr).block from Nat.le_trans HM.out.BH hNg) (.int .i64 y)).trans (((Below.refl _ _).drew : Below (wr.setCell ⟨g, j, none⟩ (.int .i64 y)).heap.size (wr.setCell ⟨g, j, none⟩ (.int .i64 y)) (wr.setCell ⟨g, j, none⟩ (.int .i64 y)).drew).mono (BB.out.setCell (show wb.heap.size ≤ (⟨g, j, none⟩ : Addr).block from Nat.le_trans HM.out.BH hNg) (.int .i64 y)).size))
              clear hg9 hgz hne
              go_wp2_with fail
              go_region
              go_wp2
              exact ⟨⟨j + 1, by omega, by go_num, HM4.out, HX4.out, HW4.out, HI4.out, BB4.out⟩, by simp [intOf]; omega⟩
            · have hjn : j = nd.ks.length := by rw [HNK.out]; omega
              rw [hjn, mvK_all] at HI1
              obtain ⟨ks2, hks2⟩ : ∃ ks2, (nd.ks.map fun k => to.getD k.toNat 0) = ks2 := ⟨_, rfl⟩
              rw [hks2] at HI1
              have HMV : Hid (mvT to nd = ⟨nd.op, nd.vr, nd.a, nd.b, nd.bw, nd.ws, ks2⟩) := by show _ = _; rw [← hks2]; rfl
              have HK2 : Hid (ks2.length = nk) := by show _ = _; rw [← hks2, List.length_map, HNK.out]
              clear hks2 hjn hj
              obtain ⟨va, vc, rfl⟩ := HM.out.row.form
              obtain ⟨ln, hln⟩ : ∃ ln, l.length = ln := ⟨_, rfl⟩
              rw [hln] at HM
              simp only [hln]
              have HLN := kide hln
              have hLk : ln ≤ 1000 := by have h1 := HLL.out; have h2 := HUL.out; have h3 := HTL.out; omega
              have HLK := kide hLk
              clear hln hLk
              have hbi : Below wr.heap.size wr (wr.alloc (Obj.cells #[Value.int .i64 (ln : Int)] 2)) := (Below.refl _ _).alloc (Nat.le_refl _) _
              have MI := kide (HM.out.later hbi)
              have XI := kide (HX.out.later hbi)
              have WI := kide (HW1.out.later hbi)
              have II := kide (HI1.out.later hbi)
              have BI := kide (BB.out.trans (hbi.mono BB.out.size))
              have HCI : Hid ((wr.alloc (Obj.cells #[Value.int .i64 (ln : Int)] 2)).cell? ⟨wr.heap.size, 0, none⟩ = some (.int .i64 (ln : Int))) := (Bz.new wr #[Value.int .i64 (ln : Int)] 2).cell 0
              have HSB : Hid (wb.heap.size ≤ (wr.alloc (Obj.cells #[Value.int .i64 (ln : Int)] 2)).heap.size) := BI.out.size
              clear hbi
              go_wp2_with (at_builtin; refine wpList_appI rfl _ _ rfl wb.heap.size u13 to (ln : Int) (by first | rfl | simp [Act.eval]) MI.out.ot wr.heap.size 1 (by first | rfl | simp [Act.eval]) HCI.out (by have h1 := HTO.out; have h2 := HTL.out; omega) HSB.out ?_)
              intro g5 cap5 w5 ho5 hg5 hat5
              have M5 := kide (MI.out.told hg5 ho5 (by rcases hat5 with h | h; exact .inl h.symm; exact .inr (congrArg some (by simpa using h))))
              have TB : Hid (∀ b, u13.ownBlock = some b → b < N ∧ ∃ cur, (wr.alloc (Obj.cells #[Value.int .i64 (ln : Int)] 2)).heap[b]? = some (.cells cur 2 (0, 0))) := fun b hb => ⟨MI.out.tH b hb, MI.out.ot.typed9 hb⟩
              have X5 : Hid (Bz w5 ν #[Value.int .i64 nd.op, Value.int .i64 nd.vr, Value.int .i64 nd.a, Value.int .i64 nd.b, Value.int .i64 nd.bw, Value.slice a1 nw c1, Value.slice a2 nk c2] 53) := by
                show _ = _
                rw [hg5.block ν XI.out.lt (fun e => by obtain ⟨c9, h9⟩ := (TB.out _ e.symm).2; have h8 := XI.out; unfold Bz at h8; rw [h8] at h9; simp at h9)]
                exact XI.out
              have W5 : Hid (Nw w5 N a1 nd.ws) := nw_blk WI.out fun p hp => hg5.block _ (nw_ltB WI.out hp).2 (fun e => by have h9 := (TB.out _ e.symm).1; have h8 := (nw_ltB WI.out hp).1; omega)
              have I5 : Hid (Ni w5 N a2 ks2) := ni_blk II.out fun p hp => hg5.block _ (ni_lt II.out hp).2 (fun e => by have h9 := (TB.out _ e.symm).1; have h8 := (ni_lt II.out hp).1; omega)
              have B5 := kide (Below.grown BI.out hg5 HSB.out (fun j hj => (MI.out.ot.lt hj).1))
              have HDJ : Hid (∀ p, a2 = some p → (Value.slice (some ⟨g5, 0, none⟩) (to.length + 1) cap5).ownBlock ≠ some p.block) := fun p hp e => by
                have e9 := Option.some.inj e
                simp only [] at e9
                have h8 := ni_lt II.out hp
                rcases hat5 with h | h
                · have h9 := (TB.out _ h).1
                  omega
                · have h7 : (wr.alloc (Obj.cells #[Value.int .i64 (ln : Int)] 2)).heap.size = wr.heap.size + 1 := by simp
                  have h6 : g5 = wr.heap.size + 1 := by simpa using h
                  have h5 := h8.2
                  rw [h7] at h5
                  omega
              have HBN : Hid (wb.heap.size ≤ N) := HM.out.BH
              have hbt : Below w5.heap.size w5 (w5.alloc (Obj.cells #[Value.int .i64 nd.op, Value.int .i64 nd.vr, Value.int .i64 nd.a, Value.int .i64 nd.b, Value.int .i64 nd.bw, Value.slice a1 nw c1, Value.slice a2 nk c2] 53)) := (Below.refl _ _).alloc (Nat.le_refl _) _
              have MT := kide (M5.out.later hbt)
              have WT := kide (W5.out.later hbt)
              have IT := kide (I5.out.later hbt)
              have BT := kide (B5.out.trans (hbt.mono B5.out.size))
              have XT := kide (Bz.new w5 #[Value.int .i64 nd.op, Value.int .i64 nd.vr, Value.int .i64 nd.a, Value.int .i64 nd.b, Value.int .i64 nd.bw, Value.slice a1 nw c1, Value.slice a2 nk c2] 53)
              have HTA : Hid (ThAt (w5.alloc (Obj.cells #[Value.int .i64 nd.op, Value.int .i64 nd.vr, Value.int .i64 nd.a, Value.int .i64 nd.b, Value.int .i64 nd.bw, Value.slice a1 nw c1, Value.slice a2 nk c2] 53)) w5.heap.size 0 (Tg.hd ⟨⟨nd.op, nd.vr, nd.a, nd.b, nd.bw, nd.ws, ks2⟩, a1, c1, a2, c2⟩)) := by
                simp only [Tg.hd, ThAt, HNW.out, HK2.out]
                exact ⟨XT.out.cell 0, XT.out.cell 1, XT.out.cell 2, XT.out.cell 3, XT.out.cell 4, XT.out.cell 5, XT.out.cell 6⟩
              have m0 : w5.cell? ⟨ν, 0, none⟩ = some (Value.int .i64 nd.op) := X5.out.cell 0
              have m1 : w5.cell? ⟨ν, 1, none⟩ = some (Value.int .i64 nd.vr) := X5.out.cell 1
              have m2 : w5.cell? ⟨ν, 2, none⟩ = some (Value.int .i64 nd.a) := X5.out.cell 2
              have m3 : w5.cell? ⟨ν, 3, none⟩ = some (Value.int .i64 nd.b) := X5.out.cell 3
              have m4 : w5.cell? ⟨ν, 4, none⟩ = some (Value.int .i64 nd.bw) := X5.out.cell 4
              have m5 : w5.cell? ⟨ν, 5, none⟩ = some (Value.slice a1 nw c1) := X5.out.cell 5
              have m6 : w5.cell? ⟨ν, 6, none⟩ = some (Value.slice a2 nk c2) := X5.out.cell 6
              clear hbt hg5 ho5 hat5 XT MI XI WI II BI HCI HSB M5 W5 I5 B5 X5 TB z6 HM HX HW1 HI1 BB
              go_wp2_with (at_builtin; refine wpList_appT7 rfl _ _ rfl wb.heap.size (.slice va ln vc) l ⟨⟨nd.op, nd.vr, nd.a, nd.b, nd.bw, nd.ws, ks2⟩, a1, c1, a2, c2⟩ (by first | rfl | simp [Act.eval]) MT.out.row w5.heap.size 1 (by first | rfl | simp [Act.eval]) HTA.out (by rw [HLN.out]; have := HLK.out; omega) (Nat.le_trans MT.out.BH MT.out.hH) ?_)
              intro g6 cap6 w6 ho6 hg6 hat6
              rw [HLN.out] at ho6 ⊢
              have MP := kide (MT.out.push hg6 ho6 (WT.out.mono HBN.out) (IT.out.mono HBN.out) HDJ.out HCAP.out)
              have BP := kide (Below.grown BT.out hg6 BT.out.size (fun j hj => (MT.out.row.lt hj).1))
              have HS3 : Hid (rpTo (vn : Int) US TS (k + 1) = (st1 ++ [⟨nd.op, nd.vr, nd.a, nd.b, nd.bw, nd.ws, ks2⟩], to ++ [(ln : Int)])) := by show _ = _; rw [HS2.out, HMV.out, ← HLL.out.1, HLN.out]
              clear ho6 hg6 hat6 MT WT IT BT HTA m0 m1 m2 m3 m4 m5 m6
              go_wp2_with fail
              rw [HE9.out]
              go_roundw
              case rel => exact ⟨k + 1, _, by omega, by first | rfl | go_num, by rw [HS3.out]; exact MP.out, BP.out⟩
              case measure => simp only [intOf, Int.toNat_natCast]; omega
      · have he1 : (nd.op == 1) = false := by simpa using hop
        have HS2 : Hid (rpTo (vn : Int) US TS (k + 1) = (st1 ++ [mvT to nd], to ++ [(st1.length : Int)])) := by show _ = _; rw [HST.out, rpStep, if_neg (by simp [isV, hop])]
        clear hop HST
        have HC := kide (l3CopyNodeQ_any nd x.wa x.ka x.wc x.kc wr pw pk sw sk)
        clear pw pk sw sk
        go_wp2_with fail
        refine Calls.mono HC.out ?_
        rintro e w2 ⟨a1, c1, a2, c2, rfl, hnw, hni, hcap, hb2⟩
        have HCAP := kide hcap
        obtain ⟨N, hN⟩ : ∃ N, wr.heap.size = N := ⟨_, rfl⟩
        rw [hN] at hnw hni HM
        have M2 := kide (HM.out.later hb2)
        have BB2 := kide (BB.out.trans (hb2.mono BB.out.size))
        have hb3 : Below w2.heap.size w2 (w2.alloc (Obj.cells #[Value.int .i64 nd.op, Value.int .i64 nd.vr, Value.int .i64 nd.a, Value.int .i64 nd.b, Value.int .i64 nd.bw, Value.slice a1 nd.ws.length c1, Value.slice a2 nd.ks.length c2] 53)) := (Below.refl _ _).alloc (Nat.le_refl _) _
        have X3 := kide (Bz.new w2 #[Value.int .i64 nd.op, Value.int .i64 nd.vr, Value.int .i64 nd.a, Value.int .i64 nd.b, Value.int .i64 nd.bw, Value.slice a1 nd.ws.length c1, Value.slice a2 nd.ks.length c2] 53)
        have M3 := kide (M2.out.later hb3)
        have NW3 := kide (hnw.later hb3)
        have NI3 := kide (hni.later hb3)
        have BB3 := kide (BB2.out.trans (hb3.mono BB2.out.size))
        clear hb2 hb3 hnw hni HM M2 p0 p1 p2 p3 p4 p5 p6 HC hN hcap BB BB2
        go_wp2_with fail
        generalize w2.alloc (Obj.cells #[Value.int .i64 nd.op, Value.int .i64 nd.vr, Value.int .i64 nd.a, Value.int .i64 nd.b, Value.int .i64 nd.bw, Value.slice a1 nd.ws.length c1, Value.slice a2 nd.ks.length c2] 53) = w3 at *
        generalize w2.heap.size = ν at *
        obtain ⟨nk, hnk⟩ : ∃ nk, nd.ks.length = nk := ⟨_, rfl⟩
        rw [hnk] at X3
        simp only [hnk]
        have HNK := kide hnk
        have hnk2 : nk ≤ 1048576 := by rw [← hnk]; exact HOX.out.2.2.2.2.2.2.2.1
        obtain ⟨nw, hnw⟩ : ∃ nw, nd.ws.length = nw := ⟨_, rfl⟩
        rw [hnw] at X3
        simp only [hnw]
        have HNW := kide hnw
        clear hnk hnw
        go_loopw [16] (fun i wr => ∃ j : Nat, j ≤ nk ∧ i = .int .i64 (j : Int) ∧ RpM w wr wb.heap.size N u11 u13 l (st1, to) ∧ Bz wr ν #[Value.int .i64 nd.op, Value.int .i64 nd.vr, Value.int .i64 nd.a, Value.int .i64 nd.b, Value.int .i64 nd.bw, Value.slice a1 nw c1, Value.slice a2 nk c2] 53 ∧ Nw wr N a1 nd.ws ∧ Ni wr N a2 (mvK to nd.ks j) ∧ Below wb.heap.size wb wr) (fun i _ => nk - (intOf i).toNat)
        case atStart => exact ⟨0, Nat.zero_le _, rfl, M3.out, X3.out, NW3.out, by simpa [mvK] using NI3.out, BB3.out⟩
        case round =>
          clear M3 X3 NW3 NI3 BB3
          obtain ⟨j, hj, rfl, hm, hx, hw1, hi1, hBB⟩ := hrel
          have HM := kide hm
          have HX := kide hx
          have HW1 := kide hw1
          have HI1 := kide hi1
          have BB := kide hBB
          have z6 := hx.cell 6
          simp at z6
          clear hm hx hw1 hi1 hBB
          by_cases hjk : j < nk
          · have hjl : j < nd.ks.length := by rw [HNK.out]; exact hjk
            obtain ⟨g, hg2, hNg⟩ : ∃ g, a2 = some ⟨g, 0, none⟩ ∧ N ≤ g := by
              rcases HI1.out with ⟨h1, -⟩ | ⟨g, cur, h1, h2, -⟩
              · have h9 := congrArg List.length h1; rw [mvK_len, List.length_nil] at h9; omega
              · exact ⟨g, h1, h2⟩
            subst hg2
            obtain ⟨q0, q1⟩ := HI1.out.cell (j := j) (by rw [mvK_len]; exact hjl)
            rw [mvK_get to nd.ks (Nat.le_refl j)] at q0
            have HPUT := kide (fun y => HI1.out.put (j := j) (by rw [mvK_len]; exact hjl) y)
            have HSTP := kide (mvK_step to nd.ks hjl)
            have hkid := HKK.out (nd.ks.getD j 0) (by
              have e : nd.ks.getD j 0 = nd.ks[j] := by simp [List.getD, hjl]
              rw [e]; exact List.getElem_mem _)
            generalize nd.ks.getD j 0 = kj at *
            obtain ⟨hk0, hk1⟩ := hkid
            obtain ⟨kn, rfl⟩ := Int.eq_ofNat_of_zero_le hk0
            obtain ⟨tva, tvc, htv⟩ : ∃ a c, u13 = .slice a to.length c := by
              obtain ⟨a9, c9, h9, -⟩ := HM.out.ot.ni
              exact ⟨a9, c9, h9⟩
            subst htv
            obtain ⟨gt, rfl⟩ : ∃ gt, tva = some ⟨gt, 0, none⟩ := by
              rcases HM.out.ot.2 with ⟨e9, h9⟩ | ⟨g9, cap9, cur9, e9, -⟩
              · have h8 := HTO.out
                simp only [] at h9
                omega
              · injection e9 with e8
                exact ⟨g9, e8⟩
            have t0 := OI.cell9 HM.out.ot (i := kn) (by simp only []; have := HTO.out; omega)
            simp only [] at t0
            have i2 : (kn : Int) < (to.length : Int) := by rw [HTO.out]; omega
            obtain ⟨y, hy⟩ : ∃ y, to.getD kn 0 = y := ⟨_, rfl⟩
            rw [hy] at t0
            rw [Int.toNat_natCast, hy] at HSTP
            have HP := kide (HPUT.out y)
            rw [HSTP.out] at HP
            have i1 : (j : Int) < (nk : Int) := by omega
            clear hy HPUT HSTP hk0
            obtain ⟨cur, hgz⟩ : ∃ cur, Bz wr g cur 2 := by
              rcases HI1.out with ⟨h1, -⟩ | ⟨g', cur, h1, h2, h3, -⟩
              · have h9 := congrArg List.length h1; rw [mvK_len, List.length_nil] at h9; omega
              · cases h1; exact ⟨cur, h3⟩
            have hne : ν ≠ g := by
              rintro rfl
              have h9 := HX.out
              unfold Bz at h9 hgz
              rw [hgz] at h9
              cases h9
            have hg9 := grow_setT (World.grownBy.refl wr (some g)) j (.int .i64 y)
            have HM4 := kide ((HM.out.out hg9 hNg).later ((Below.refl _ _).drew : Below (wr.setCell ⟨g, j, none⟩ (.int .i64 y)).heap.size (wr.setCell ⟨g, j, none⟩ (.int .i64 y)) (wr.setCell ⟨g, j, none⟩ (.int .i64 y)).drew))
            have HX4 := kide ((HX.out.other hne j (.int .i64 y)).later ((Below.refl _ _).drew : Below (wr.setCell ⟨g, j, none⟩ (.int .i64 y)).heap.size (wr.setCell ⟨g, j, none⟩ (.int .i64 y)) (wr.setCell ⟨g, j, none⟩ (.int .i64 y)).drew))
            have HW4 := kide ((nw_set HW1.out hgz (by decide) j (.int .i64 y)).later ((Below.refl _ _).drew : Below (wr.setCell ⟨g, j, none⟩ (.int .i64 y)).heap.size (wr.setCell ⟨g, j, none⟩ (.int .i64 y)) (wr.setCell ⟨g, j, none⟩ (.int .i64 y)).drew))
            have HI4 := kide (HP.out.later ((Below.refl _ _).drew : Below (wr.setCell ⟨g, j, none⟩ (.int .i64 y)).heap.size (wr.setCell ⟨g, j, none⟩ (.int .i64 y)) (wr.setCell ⟨g, j, none⟩ (.int .i64 y)).drew))
            have BB4 := kide ((BB.out.setCell (show wb.heap.size ≤ (⟨g, j, none⟩ : Addr).block from Nat.le_trans HM.out.BH hNg) (.int .i64 y)).trans (((Below.refl _ _).drew : Below (wr.setCell ⟨g, j, none⟩ (.int .i64 y)).heap.size (wr.setCell ⟨g, j, none⟩ (.int .i64 y)) (wr.setCell ⟨g, j, none⟩ (.int .i64 y)).drew).mono (BB.out.setCell (show wb.heap.size ≤ (⟨g, j, none⟩ : Addr).block from Nat.le_trans HM.out.BH hNg) (.int .i64 y)).size))
            clear hg9 hgz hne
            go_wp2_with fail
            go_region
            go_wp2
            exact ⟨⟨j + 1, by omega, by go_num, HM4.out, HX4.out, HW4.out, HI4.out, BB4.out⟩, by simp [intOf]; omega⟩
          · have hjn : j = nd.ks.length := by rw [HNK.out]; omega
            rw [hjn, mvK_all] at HI1
            obtain ⟨ks2, hks2⟩ : ∃ ks2, (nd.ks.map fun k => to.getD k.toNat 0) = ks2 := ⟨_, rfl⟩
            rw [hks2] at HI1
            have HMV : Hid (mvT to nd = ⟨nd.op, nd.vr, nd.a, nd.b, nd.bw, nd.ws, ks2⟩) := by show _ = _; rw [← hks2]; rfl
            have HK2 : Hid (ks2.length = nk) := by show _ = _; rw [← hks2, List.length_map, HNK.out]
            clear hks2 hjn hj
            obtain ⟨va, vc, rfl⟩ := HM.out.row.form
            obtain ⟨ln, hln⟩ : ∃ ln, l.length = ln := ⟨_, rfl⟩
            rw [hln] at HM
            simp only [hln]
            have HLN := kide hln
            have hLk : ln ≤ 1000 := by have h1 := HLL.out; have h2 := HUL.out; have h3 := HTL.out; omega
            have HLK := kide hLk
            clear hln hLk
            have hbi : Below wr.heap.size wr (wr.alloc (Obj.cells #[Value.int .i64 (ln : Int)] 2)) := (Below.refl _ _).alloc (Nat.le_refl _) _
            have MI := kide (HM.out.later hbi)
            have XI := kide (HX.out.later hbi)
            have WI := kide (HW1.out.later hbi)
            have II := kide (HI1.out.later hbi)
            have BI := kide (BB.out.trans (hbi.mono BB.out.size))
            have HCI : Hid ((wr.alloc (Obj.cells #[Value.int .i64 (ln : Int)] 2)).cell? ⟨wr.heap.size, 0, none⟩ = some (.int .i64 (ln : Int))) := (Bz.new wr #[Value.int .i64 (ln : Int)] 2).cell 0
            have HSB : Hid (wb.heap.size ≤ (wr.alloc (Obj.cells #[Value.int .i64 (ln : Int)] 2)).heap.size) := BI.out.size
            clear hbi
            go_wp2_with (at_builtin; refine wpList_appI rfl _ _ rfl wb.heap.size u13 to (ln : Int) (by first | rfl | simp [Act.eval]) MI.out.ot wr.heap.size 1 (by first | rfl | simp [Act.eval]) HCI.out (by have h1 := HTO.out; have h2 := HTL.out; omega) HSB.out ?_)
            intro g5 cap5 w5 ho5 hg5 hat5
            have M5 := kide (MI.out.told hg5 ho5 (by rcases hat5 with h | h; exact .inl h.symm; exact .inr (congrArg some (by simpa using h))))
            have TB : Hid (∀ b, u13.ownBlock = some b → b < N ∧ ∃ cur, (wr.alloc (Obj.cells #[Value.int .i64 (ln : Int)] 2)).heap[b]? = some (.cells cur 2 (0, 0))) := fun b hb => ⟨MI.out.tH b hb, MI.out.ot.typed9 hb⟩
            have X5 : Hid (Bz w5 ν #[Value.int .i64 nd.op, Value.int .i64 nd.vr, Value.int .i64 nd.a, Value.int .i64 nd.b, Value.int .i64 nd.bw, Value.slice a1 nw c1, Value.slice a2 nk c2] 53) := by
              show _ = _
              rw [hg5.block ν XI.out.lt (fun e => by obtain ⟨c9, h9⟩ := (TB.out _ e.symm).2; have h8 := XI.out; unfold Bz at h8; rw [h8] at h9; simp at h9)]
              exact XI.out
            have W5 : Hid (Nw w5 N a1 nd.ws) := nw_blk WI.out fun p hp => hg5.block _ (nw_ltB WI.out hp).2 (fun e => by have h9 := (TB.out _ e.symm).1; have h8 := (nw_ltB WI.out hp).1; omega)
            have I5 : Hid (Ni w5 N a2 ks2) := ni_blk II.out fun p hp => hg5.block _ (ni_lt II.out hp).2 (fun e => by have h9 := (TB.out _ e.symm).1; have h8 := (ni_lt II.out hp).1; omega)
            have B5 := kide (Below.grown BI.out hg5 HSB.out (fun j hj => (MI.out.ot.lt hj).1))
            have HDJ : Hid (∀ p, a2 = some p → (Value.slice (some ⟨g5, 0, none⟩) (to.length + 1) cap5).ownBlock ≠ some p.block) := fun p hp e => by
              have e9 := Option.some.inj e
              simp only [] at e9
              have h8 := ni_lt II.out hp
              rcases hat5 with h | h
              · have h9 := (TB.out _ h).1
                omega
              · have h7 : (wr.alloc (Obj.cells #[Value.int .i64 (ln : Int)] 2)).heap.size = wr.heap.size + 1 := by simp
                have h6 : g5 = wr.heap.size + 1 := by simpa using h
                have h5 := h8.2
                rw [h7] at h5
                omega
            have HBN : Hid (wb.heap.size ≤ N) := HM.out.BH
            have hbt : Below w5.heap.size w5 (w5.alloc (Obj.cells #[Value.int .i64 nd.op, Value.int .i64 nd.vr, Value.int .i64 nd.a, Value.int .i64 nd.b, Value.int .i64 nd.bw, Value.slice a1 nw c1, Value.slice a2 nk c2] 53)) := (Below.refl _ _).alloc (Nat.le_refl _) _
            have MT := kide (M5.out.later hbt)
            have WT := kide (W5.out.later hbt)
            have IT := kide (I5.out.later hbt)
            have BT := kide (B5.out.trans (hbt.mono B5.out.size))
            have XT := kide (Bz.new w5 #[Value.int .i64 nd.op, Value.int .i64 nd.vr, Value.int .i64 nd.a, Value.int .i64 nd.b, Value.int .i64 nd.bw, Value.slice a1 nw c1, Value.slice a2 nk c2] 53)
            have HTA : Hid (ThAt (w5.alloc (Obj.cells #[Value.int .i64 nd.op, Value.int .i64 nd.vr, Value.int .i64 nd.a, Value.int .i64 nd.b, Value.int .i64 nd.bw, Value.slice a1 nw c1, Value.slice a2 nk c2] 53)) w5.heap.size 0 (Tg.hd ⟨⟨nd.op, nd.vr, nd.a, nd.b, nd.bw, nd.ws, ks2⟩, a1, c1, a2, c2⟩)) := by
              simp only [Tg.hd, ThAt, HNW.out, HK2.out]
              exact ⟨XT.out.cell 0, XT.out.cell 1, XT.out.cell 2, XT.out.cell 3, XT.out.cell 4, XT.out.cell 5, XT.out.cell 6⟩
            have m0 : w5.cell? ⟨ν, 0, none⟩ = some (Value.int .i64 nd.op) := X5.out.cell 0
            have m1 : w5.cell? ⟨ν, 1, none⟩ = some (Value.int .i64 nd.vr) := X5.out.cell 1
            have m2 : w5.cell? ⟨ν, 2, none⟩ = some (Value.int .i64 nd.a) := X5.out.cell 2
            have m3 : w5.cell? ⟨ν, 3, none⟩ = some (Value.int .i64 nd.b) := X5.out.cell 3
            have m4 : w5.cell? ⟨ν, 4, none⟩ = some (Value.int .i64 nd.bw) := X5.out.cell 4
            have m5 : w5.cell? ⟨ν, 5, none⟩ = some (Value.slice a1 nw c1) := X5.out.cell 5
            have m6 : w5.cell? ⟨ν, 6, none⟩ = some (Value.slice a2 nk c2) := X5.out.cell 6
            clear hbt hg5 ho5 hat5 XT MI XI WI II BI HCI HSB M5 W5 I5 B5 X5 TB z6 HM HX HW1 HI1 BB
            go_wp2_with (at_builtin; refine wpList_appT7 rfl _ _ rfl wb.heap.size (.slice va ln vc) l ⟨⟨nd.op, nd.vr, nd.a, nd.b, nd.bw, nd.ws, ks2⟩, a1, c1, a2, c2⟩ (by first | rfl | simp [Act.eval]) MT.out.row w5.heap.size 1 (by first | rfl | simp [Act.eval]) HTA.out (by rw [HLN.out]; have := HLK.out; omega) (Nat.le_trans MT.out.BH MT.out.hH) ?_)
            intro g6 cap6 w6 ho6 hg6 hat6
            rw [HLN.out] at ho6 ⊢
            have MP := kide (MT.out.push hg6 ho6 (WT.out.mono HBN.out) (IT.out.mono HBN.out) HDJ.out HCAP.out)
            have BP := kide (Below.grown BT.out hg6 BT.out.size (fun j hj => (MT.out.row.lt hj).1))
            have HS3 : Hid (rpTo (vn : Int) US TS (k + 1) = (st1 ++ [⟨nd.op, nd.vr, nd.a, nd.b, nd.bw, nd.ws, ks2⟩], to ++ [(ln : Int)])) := by show _ = _; rw [HS2.out, HMV.out, ← HLL.out.1, HLN.out]
            clear ho6 hg6 hat6 MT WT IT BT HTA m0 m1 m2 m3 m4 m5 m6
            go_wp2_with fail
            rw [HE9.out]
            go_roundw
            case rel => exact ⟨k + 1, _, by omega, by first | rfl | go_num, by rw [HS3.out]; exact MP.out, BP.out⟩
            case measure => simp only [intOf, Int.toNat_natCast]; omega
    · have hkn : k = tn := by omega
      subst hkn
      have HN1 := kide HTL.out.1
      obtain ⟨m, hm1⟩ : ∃ m, k = m + 1 := ⟨k - 1, by have := HN1.out; omega⟩
      have HLE : Hid (l.length ≤ 800) := by
        show _ ≤ _
        have h1 := congrArg List.length HM.out.eq
        have h2 := HF.out.l1.2
        rw [List.length_map] at h1
        rw [HUSL.out] at h2
        have h3 := HTL.out.2
        have h4 := HUL.out.2
        omega
      have HOK := kide (rp_ok (v := (vn : Int)) (us := US) (ts := TS) (by rw [HUSL.out]; exact HUL.out.1) HAU.out HAT.out (by rw [HUSL.out]; exact HUL.out.2) (by rw [HTSL.out]; exact HTL.out.2) HOU.out HOT.out k (by rw [HTSL.out]; exact Nat.le_refl _))
      obtain ⟨a9, c9, rfl, hr9⟩ := HM.out.rd (Nat.le_trans HLE.out (by decide)) HOK.out
      have HEQ := kide HM.out.eq
      have HSN := kide HM.out.sn
      obtain ⟨gt, cp, rfl⟩ : ∃ gt cp, u13 = .slice (some ⟨gt, 0, none⟩) k cp := by
        rcases HM.out.ot.2 with ⟨e9, h9⟩ | ⟨g9, cap9, cur9, e9, -⟩
        · have h8 := HF.out.l2
          rw [h8] at h9
          omega
        · rw [HF.out.l2] at e9
          exact ⟨g9, cap9, e9⟩
      have t0 := OI.cell9 HM.out.ot (i := m) (by rw [HF.out.l2]; omega)
      have HRO : Hid ((rpTo (vn : Int) US TS k).2.getD m 0 = ((rpRoot (vn : Int) US TS : Nat) : Int)) := by
        show _ = _
        have h9 := (HF.out.rg _ (gD_lt (l := (rpTo (vn : Int) US TS k).2) (i := m) (by rw [HF.out.l2]; omega))).1
        unfold rpRoot
        rw [HTSL.out, show k - 1 = m by omega, Int.toNat_of_nonneg h9]
      rw [HRO.out] at t0
      have HRL := kide (root_lt (v := (vn : Int)) (us := US) (ts := TS) (by rw [HUSL.out]; exact HUL.out.1) (by rw [HTSL.out]; exact HTL.out.1) HAU.out HAT.out)
      rw [HTSL.out] at HRL
      have HAH := kide HF.out.ah
      have HPR : Hid (∀ u, Below wr.heap.size wr u → Calls Tryz.prog 21 #[.slice a9 l.length c9, .int .i64 ((rpRoot (vn : Int) US TS : Nat) : Int)] u (RetPr u (repP (vn : Int) US TS))) := fun u hu => by
        have h9 := l3Prune_any a9 c9 l.length (rpRoot (vn : Int) US TS) l u (hr9.later hu) rfl HSN.out (by rw [HEQ.out]; exact HAH.out) (by have := HLE.out; omega) (by have h8 := HRL.out; rw [← HEQ.out, List.length_map] at h8; exact h8)
        rw [HEQ.out] at h9
        unfold repP
        rw [HTSL.out]
        exact h9
      obtain ⟨q1, q2, q3, q4, q5, q6⟩ := rep_core (v := (vn : Int)) HRU.out HRT.out
      have HQ := kide (And.intro q1 q2)
      have HQA := kide q3
      have HQC := kide q4
      have HQL := kide q5
      clear q1 q2 q3 q4 q5 q6 hr9
      have BW := kide (BB2.out.trans (BB.out.mono BB2.out.size))
      have XR9 := kide (XR2.out.later BB.out)
      obtain ⟨P, hP⟩ : ∃ P, repP (vn : Int) US TS = P := ⟨_, rfl⟩
      rw [hP] at HPR HQ HQA HQC HQL
      obtain ⟨CC, hCC⟩ : ∃ CC, repC (vn : Int) US TS = CC := ⟨_, rfl⟩
      rw [hCC] at HQC HQL
      have HRR : Hid (R = if CC.length ≤ 400 then (CC, true) else ([], false)) := by
        show _ = _
        rw [← HR.out]
        unfold repR
        rw [HOKV.out, if_pos (by simp), hCC]
      generalize rpRoot (vn : Int) US TS = root at *
      obtain ⟨ll, hll⟩ : ∃ ll, l.length = ll := ⟨_, rfl⟩
      rw [hll] at HPR
      simp only [hll]
      have j1 : ((m + 1 : Nat) : Int) - 1 = (m : Int) := by omega
      have j2 : IntKind.i64.wrap (m : Int) = (m : Int) := by rw [IntKind.wrap_i64]; have := HTL.out; omega
      have j3 : (m : Int) < ((m + 1 : Nat) : Int) := by omega
      have j4 : ¬ ((m + 1 : Nat) : Int) < ((m + 1 : Nat) : Int) := by omega
      subst hm1
      clear hP hCC hll hlt hk hm hbb
      go_wp2_with fail
      refine Calls.mono (HPR.out wr (Below.refl _ _)) ?_
      rintro e w5 ⟨a5, c5, l5, rfl, hr5, hs5, he5, hb5⟩
      have HSH := kide (l3Share_any a5 c5 P.length l5 w5 hr5 (by rw [← he5, List.length_map]) hs5 (by rw [he5]; exact HQA.out) (by have := HQ.out; omega))
      rw [he5] at HSH
      have B5 := kide (BW.out.trans (hb5.mono BW.out.size))
      have XR5 := kide (XR9.out.later hb5)
      clear hr5 hs5 he5 hb5 t0 j1 j2 j3 j4
      go_wp2_with fail
      refine Calls.mono HSH.out ?_
      rintro e w6 ⟨v6, l6, t6, rfl, hts6, he6, ho6, hb6⟩
      rw [HQC.out] at he6
      have B6 := kide (B5.out.trans (hb6.mono B5.out.size))
      have XR6 := kide (XR5.out.later hb6)
      have TS6 := kide (hts6.mono B5.out.size)
      have E6 := kide he6
      have O6 := kide ho6
      obtain ⟨va6, vc6, rfl⟩ := hts6.form
      have hL6 : l6.length = CC.length := by rw [← he6, List.length_map]
      rw [hL6] at TS6 ⊢
      obtain ⟨pm, hpm⟩ : ∃ pm, P.length = pm + 1 := ⟨P.length - 1, by have := HQ.out.1; omega⟩
      have hsl : (shTo P P.length).2.length = pm + 1 := by rw [(shTo_f HQA.out _ (Nat.le_refl _)).l2, hpm]
      obtain ⟨gw, cw, rfl⟩ : ∃ gw cw, t6 = .slice (some ⟨gw, 0, none⟩) (pm + 1) cw := by
        rcases ho6.2 with ⟨e9, h9⟩ | ⟨g9, cap9, cur9, e9, -⟩
        · omega
        · rw [hsl] at e9
          exact ⟨g9, cap9, e9⟩
      have t9 := OI.cell9 ho6 (i := pm) (by omega)
      rw [show pm = P.length - 1 by omega, HQL.out, show P.length - 1 = pm by omega] at t9
      have hpb : pm ≤ 1000 := by have := HQ.out; omega
      have HPB := kide hpb
      obtain ⟨cl, hcl⟩ : ∃ cl, CC.length = cl := ⟨_, rfl⟩
      rw [hcl] at t9 TS6 HRR
      simp only [hcl]
      have HCL2 : Hid (cl ≤ 1000 ∧ 1 ≤ cl) := by
        have h1 := (shTo_f HQA.out _ (Nat.le_refl _)).l1
        rw [HQC.out, hcl] at h1
        have h2 := sh_one HQA.out HQ.out.1
        rw [HQC.out, hcl] at h2
        have h3 := HQ.out.2
        exact ⟨by omega, h2⟩
      have j1 : wrap64 (((pm + 1 : Nat) : Int) - 1) = (pm : Int) := by unfold wrap64; omega
      have j1' : ((pm + 1 : Nat) : Int) - 1 = (pm : Int) := by omega
      have j2 : IntKind.i64.wrap (pm : Int) = (pm : Int) := by rw [IntKind.wrap_i64]; omega
      have j3 : (pm : Int) < ((pm + 1 : Nat) : Int) := by omega
      have j5 : wrap64 ((cl : Int) - 1) = (cl : Int) - 1 := by unfold wrap64; have := HCL2.out; omega
      have d6 := XR6.out.cell 0
      have f6 := XR6.out.froz 0
      simp at d6
      have hl9 := XR6.out.lt
      clear hts6 he6 ho6 hb6 hL6 XR5 HSH B5 hsl hpm hpb hcl
      have j6 : (((cl : Int) - 1 : Int) != (cl : Int) - 1) = false := by simp
      by_cases h4 : (cl : Int) > 400
      · have hR : R = ([], false) := by rw [HRR.out, if_neg (by omega)]
        have B9 : Hid (Below w.heap.size w ((w6.setCell ⟨b0 + 2, 0, none⟩ (Value.slice none 0 0)).alloc (Obj.cells #[Value.slice va6 cl vc6] 30))) := by
          have h9 := B6.out.setCell (show w.heap.size ≤ (⟨b0 + 2, 0, none⟩ : Addr).block by simp only []; have := HB0.out; omega) (Value.slice none 0 0)
          exact h9.alloc h9.size _
        have y0 : ((w6.setCell ⟨b0 + 2, 0, none⟩ (Value.slice none 0 0)).alloc (Obj.cells #[Value.slice va6 cl vc6] 30)).cell? ⟨b0 + 2, 0, none⟩ = some (Value.slice none 0 0) := ((XR6.out.set 0 (Value.slice none 0 0)).later ((Below.refl _ _).alloc (Nat.le_refl _) _)).cell 0
        have Y0 := kide y0
        clear j1 j1' j2 j3 j5 j6 t9 y0
        go_wp2_with fail
        have y0 := Y0.out
        rw [hR]
        exact bodyPost_ret (v := .tuple #[.agg #[.slice none 0 0], .bool false]) (by simp [results, Tryz.results6, go_sem, y0]) rfl ⟨.slice none 0 0, [], rfl, Ts.nil _ _, rfl, B9.out⟩
      · have hR : R = (CC, true) := by rw [HRR.out, if_pos (by omega)]
        have hbx : Below w6.heap.size w6 (w6.alloc (Obj.cells #[Value.slice va6 cl vc6] 30)) := (Below.refl _ _).alloc (Nat.le_refl _) _
        have XS := kide (Bz.new w6 #[Value.slice va6 cl vc6] 30)
        have XQ := kide (XR6.out.later hbx)
        have TQ := kide (TS6.out.later hbx)
        have BQ := kide (B6.out.trans (hbx.mono B6.out.size))
        have t8 : (w6.alloc (Obj.cells #[Value.slice va6 cl vc6] 30)).cell? ⟨gw, pm, none⟩ = some (.int .i64 ((cl : Int) - 1)) := (kcell hbx _ _ (block_lt_of_cell t9)).trans t9
        clear d6 f6 hl9 hbx t9
        go_wp2_with fail
        go_quiet (fail)
        have XS2 := kide (XS.out.later (below_drewN (Below.refl _ _) nq))
        have XQ2 := kide (XQ.out.later (below_drewN (Below.refl _ _) nq))
        have TQ2 := kide (TQ.out.later (below_drewN (Below.refl _ _) nq))
        have BQ2 := kide (below_drewN BQ.out nq)
        generalize (w6.alloc (Obj.cells #[Value.slice va6 cl vc6] 30)).drewN nq = w9 at *
        have e0 := XS2.out.cell 0
        have d0 := XQ2.out.cell 0
        have f0 := XQ2.out.froz 0
        simp at e0 d0
        have B9 : Hid (Below w.heap.size w (w9.setCell ⟨b0 + 2, 0, none⟩ (Value.slice va6 cl vc6))) := BQ2.out.setCell (by simp only []; have := HB0.out; omega) _
        have y0 : (w9.setCell ⟨b0 + 2, 0, none⟩ (Value.slice va6 cl vc6)).cell? ⟨b0 + 2, 0, none⟩ = some (Value.slice va6 cl vc6) := (XQ2.out.set 0 _).cell 0
        have Y0 := kide y0
        have T9 : Hid (Ts (w9.setCell ⟨b0 + 2, 0, none⟩ (Value.slice va6 cl vc6)) w.heap.size (.slice va6 cl vc6) l6) := ts_set TQ2.out XQ2.out (by decide) (by decide) (by decide) 0 _
        clear y0 j1 j1' j2 j3 j5 t8
        go_wp2_with fail
        have y0 := Y0.out
        rw [hR]
        exact bodyPost_ret (v := .tuple #[.agg #[.slice va6 cl vc6], .bool true]) (by simp [results, Tryz.results6, go_sem, y0]) rfl ⟨.slice va6 cl vc6, l6, rfl, T9.out, E6.out, B9.out⟩

end Go.Proofs.YtkkboaiablfdbaaGreatDoor
