/- What the program's Replace answers. -/
import Derived.Test.YtkkboaiablfdbaaGreatDoorRPD
import Derived.Test.YtkkboaiablfdbaaGreatDoorZRI
import Derived.Test.YtkkboaiablfdbaaGreatDoorZTL
import Derived.Test.YtkkboaiablfdbaaGreatDoorEI
import Derived.Test.YtkkboaiablfdbaaGreatDoorQV
import Derived.Test.YtkkboaiablfdbaaGreatDoorZTM
namespace Go.Proofs.YtkkboaiablfdbaaGreatDoor
set_option linter.unusedVariables false
set_option linter.unusedSimpArgs false
open Go.RowKit Go.WideMaps Go.Maps Go.MapKept Go.ChangeMaps

theorem vIn_vars {ds : List Dc} {ns : List Tc} {vn : Nat} (h : ¬ (widthsR ds ns).length = 0) (hv : vn < ds.length) : decide ((vn : Int) ∈ varsR ds ns) = vIn (vn : Int) ns := by
  unfold varsR
  rw [if_neg h, Bool.eq_iff_iff, decide_eq_true_iff, upV_mem]
  constructor
  · rintro ⟨v, -, h2, h3⟩
    have e : v = vn := by omega
    subst e
    exact h2
  · intro h2
    exact ⟨vn, hv, h2, rfl⟩

theorem varsR_lenR (ds : List Dc) (ns : List Tc) : (varsR ds ns).length ≤ 60 ∧ ∀ x ∈ varsR ds ns, in64 x := by
  unfold varsR
  by_cases h : (widthsR ds ns).length = 0
  · rw [if_pos h]; simp
  · rw [if_neg h]
    have hd : ds.length ≤ 60 := by
      unfold widthsR at h
      by_cases h1 : (dclR ds && decide (1 ≤ ns.length) && decide (ns.length ≤ 400)) = true
      · simp only [Bool.and_eq_true] at h1
        exact (dclR_iff.1 h1.1.1).1
      · rw [if_neg h1] at h; simp at h
    refine ⟨Nat.le_trans (upV_len _ _) hd, fun x hx => ?_⟩
    obtain ⟨v, hv, -, rfl⟩ := (upV_mem _ _ _).1 hx
    unfold in64
    omega
theorem ts_setH {w : World} {lo β : Nat} {v : Value} {l : List Tg} {cs : Array Value} {t : TypeId} (h : Ts w lo v l) (hb : Bz w β cs t) (h1 : t ≠ 53) (h2 : t ≠ 104) (h3 : t ≠ 2) (i : Nat) (x : Value) : Ts (w.setCell ⟨β, i, none⟩ x) lo v l := by
  refine ⟨h.row.move fun b hb' => heap_setCell_other _ _ _ _ (fun e => ?_), fun y hy => nw_set (h.wn y hy) hb h2 i x, fun y hy => ni_set (h.kn y hy) hb h3 i x, h.wd, h.kd⟩
  obtain ⟨c, hc⟩ := h.row.typed hb'
  simp only [] at e
  subst e
  unfold Bz at hb
  rw [hb] at hc
  cases hc
  exact h1 rfl

set_option maxHeartbeats 16000000 in
set_option maxRecDepth 100000 in
theorem implRep_any (a ta ua : Option Addr) (c tc uc tn un : Nat) (ds : List Dc) (ts us : List Tg) (v : Int) (w : World) (hr : RdD w a ds) (ht : RdT w ta ts) (htn : ts.length = tn) (hts : Sn ts) (hu : RdT w ua us) (hun : us.length = un) (hus : Sn us) (hv : in64 v) (hG : GF w) :
    Calls Tryz.prog 9 #[.slice a ds.length c, .agg #[.slice ta tn tc], .int .i64 v, .agg #[.slice ua un uc]] w (RetRp w (repR ds (ts.map Tg.ct) v (us.map Tg.ct))) := by
  have HWT := kide (fun u (hb : Below w.heap.size w u) => implWidth_any a ta c tc tn ds ts u (hr.later hb) (ht.later hb) htn (hG.later hb))
  have HWU := kide (fun u (hb : Below w.heap.size w u) => implWidth_any a ua c uc un ds us u (hr.later hb) (hu.later hb) hun (hG.later hb))
  have HVA := kide (fun u (hb : Below w.heap.size w u) => implVars_any a ta c tc tn ds ts u (hr.later hb) (ht.later hb) htn (hG.later hb))
  have HSA := kide (fun u (hb : Below w.heap.size w u) => implShare_any a ta c tc tn ds ts u (hr.later hb) (ht.later hb) htn hts (hG.later hb))
  obtain ⟨Wt, hWt⟩ : ∃ Wt, widR ds (ts.map Tg.ct) = Wt := ⟨_, rfl⟩
  obtain ⟨Wu, hWu⟩ : ∃ Wu, widR ds (us.map Tg.ct) = Wu := ⟨_, rfl⟩
  have HEt := kide hWt
  have HEu := kide hWu
  rw [hWt] at HWT
  rw [hWu] at HWU
  have hb3 : Below w.heap.size w (((w.alloc (Obj.cells #[Value.slice ta tn tc] 30)).alloc (Obj.cells #[Value.slice ua un uc] 30)).alloc (Obj.cells #[Value.slice none 0 0] 30)) := (((Below.refl _ _).alloc (Nat.le_refl _) _).alloc (by simp) _).alloc (by simp; omega) _
  have X0 : Hid (Bz (((w.alloc (Obj.cells #[Value.slice ta tn tc] 30)).alloc (Obj.cells #[Value.slice ua un uc] 30)).alloc (Obj.cells #[Value.slice none 0 0] 30)) w.heap.size #[Value.slice ta tn tc] 30) := ((Bz.new w _ _).later ((Below.refl _ _).alloc (Nat.le_refl _) _)).later ((Below.refl _ _).alloc (Nat.le_refl _) _)
  have X1 : Hid (Bz (((w.alloc (Obj.cells #[Value.slice ta tn tc] 30)).alloc (Obj.cells #[Value.slice ua un uc] 30)).alloc (Obj.cells #[Value.slice none 0 0] 30)) (w.heap.size + 1) #[Value.slice ua un uc] 30) := by
    have h9 := Bz.new (w.alloc (Obj.cells #[Value.slice ta tn tc] 30)) #[Value.slice ua un uc] 30
    rw [show (w.alloc (Obj.cells #[Value.slice ta tn tc] 30)).heap.size = w.heap.size + 1 by simp] at h9
    exact h9.later ((Below.refl _ _).alloc (Nat.le_refl _) _)
  have X2 : Hid (Bz (((w.alloc (Obj.cells #[Value.slice ta tn tc] 30)).alloc (Obj.cells #[Value.slice ua un uc] 30)).alloc (Obj.cells #[Value.slice none 0 0] 30)) (w.heap.size + 2) #[Value.slice none 0 0] 30) := by
    have h9 := Bz.new ((w.alloc (Obj.cells #[Value.slice ta tn tc] 30)).alloc (Obj.cells #[Value.slice ua un uc] 30)) #[Value.slice none 0 0] 30
    rw [show ((w.alloc (Obj.cells #[Value.slice ta tn tc] 30)).alloc (Obj.cells #[Value.slice ua un uc] 30)).heap.size = w.heap.size + 2 by simp] at h9
    exact h9
  have B0 := kide hb3
  clear hb3
  have hdl := hr.1
  have HR0 := kide hr
  have HT0 := kide ht
  have HU0 := kide hu
  have HTN := kide htn
  have HUN := kide hun
  have HTS := kide hts
  have HUS := kide hus
  obtain ⟨R, HR⟩ : ∃ R, Hid (repR ds (ts.map Tg.ct) v (us.map Tg.ct) = R) := ⟨_, kide rfl⟩
  rw [HR.out]
  obtain ⟨dn, hdn⟩ : ∃ dn, ds.length = dn := ⟨_, rfl⟩
  have HDN := kide hdn
  rw [hdn] at HWT HWU HVA HSA hdl ⊢
  have HDL := kide hdl
  clear hr ht htn hts hu hun hus hdn hdl hv hG
  by_cases hA : Wt < 0
  · have hR : R = ([], false) := by rw [← HR.out]; unfold repR repOk; rw [HEt.out]; simp [show ¬ 0 ≤ Wt by omega]
    clear hWt hWu
    go_enter Tryz.func9, Tryz.ntmps9
    go_wp2_with fail
    simp only [show w.heap.size + 1 + 1 = w.heap.size + 2 from rfl]
    generalize ((w.alloc (Obj.cells #[Value.slice ta tn tc] 30)).alloc (Obj.cells #[Value.slice ua un uc] 30)).alloc (Obj.cells #[Value.slice none 0 0] 30) = W0 at *
    obtain ⟨b0, hb0⟩ : ∃ b0, w.heap.size = b0 := ⟨_, rfl⟩
    have HB0 := kide hb0
    rw [hb0] at X0 X1 X2
    simp only [hb0]
    clear hb0
    have z0 := X0.out.cell 0
    have z1 := X1.out.cell 0
    simp at z0 z1
    have l0 := X0.out.lt
    have l1 := X1.out.lt
    refine wp_region_x (SA := fun _ => False) (SB := fun uu => Below W0.heap.size W0 uu) (k := 999) (by kernel_rfl) ?_
    have hm0 : Hid (Below W0.heap.size W0 W0.drew) := (Below.refl _ _).drew
    generalize W0.drew = m0 at *
    try go_simp
    refine wpAnyX_both (T := fun uu => Below W0.heap.size W0 uu) (i := 0) (v := Value.slice a dn c) rfl (by kernel_rfl) (by kernel_rfl) (by kernel_rfl) (fun _ _ _ h => by first | exact h | exact h.elim) (by decide) (fun _ h => h.elim) (fun _ h => h) (Sx.behind (by kernel_rfl) hm0.out) (Or.inl ⟨by rfl, fun uu hu => by go_simp⟩) ?_
    try go_simp
    refine wpAnyX_both (T := fun uu => Below W0.heap.size W0 uu) (i := 1) (v := Value.agg #[Value.slice ta tn tc]) rfl (by kernel_rfl) (by kernel_rfl) (by kernel_rfl) (fun _ _ _ h => by first | exact h | exact h.elim) (by decide) (fun _ h => h.elim) (fun _ h => h) (Sx.behind (by kernel_rfl) hm0.out) (Or.inl ⟨by rfl, fun uu hu => by have e0 := (kcell hu b0 0 l0).trans z0; go_simp⟩) ?_
    try go_simp
    refine wpAnyX_ready (rs := [2]) (by kernel_rfl) (by simp) (AllX.cons rfl (fun K hK => ?_) AllX.nil)
    go_simp
    refine Calls.mono (HWT.out m0 (B0.out.trans (hm0.out.mono B0.out.size))) ?_
    rintro e m1 ⟨rfl, hb⟩
    have hm1 : Hid (Below W0.heap.size W0 m1) := hm0.out.trans (hb.mono hm0.out.size)
    refine hK _ _ (Sx.behind (by kernel_rfl) hm1.out) ?_
    clear hK K hb
    try go_simp
    refine wpAnyX_both (T := fun uu => Below W0.heap.size W0 uu) (i := 3) (v := Value.bool true) rfl (by kernel_rfl) (by kernel_rfl) (by kernel_rfl) (fun _ _ _ h => by first | exact h | exact h.elim) (by decide) (fun _ h => h.elim) (fun _ h => h) (Sx.behind (by kernel_rfl) hm1.out) (Or.inl ⟨by rfl, fun uu hu => by go_simp⟩) ?_
    try go_simp
    refine wpAnyX_both (T := fun uu => Below W0.heap.size W0 uu) (i := 4) (v := Value.bool true) rfl (by kernel_rfl) (by kernel_rfl) (by kernel_rfl) (fun _ _ _ h => by first | exact h | exact h.elim) (by decide) (fun _ h => h.elim) (fun _ h => h) (Sx.behind (by kernel_rfl) hm1.out) (Or.inl ⟨by rfl, fun uu hu => by go_simp⟩) ?_
    try go_simp
    refine wpAnyX_both (T := fun uu => Below W0.heap.size W0 uu) (i := 5) (v := undef) rfl (by kernel_rfl) (by kernel_rfl) (by kernel_rfl) (fun _ _ _ h => by first | exact h | exact h.elim) (by decide) (fun _ h => h.elim) (fun _ h => h) (Sx.behind (by kernel_rfl) hm1.out) (Or.inr ⟨by rfl, rfl⟩) ?_
    try go_simp
    refine wpAnyX_both (T := fun uu => Below W0.heap.size W0 uu) (i := 6) (v := undef) rfl (by kernel_rfl) (by kernel_rfl) (by kernel_rfl) (fun _ _ _ h => by first | exact h | exact h.elim) (by decide) (fun _ h => h.elim) (fun _ h => h) (Sx.behind (by kernel_rfl) hm1.out) (Or.inr ⟨by rfl, rfl⟩) ?_
    try go_simp
    refine wpAnyX_both (T := fun uu => Below W0.heap.size W0 uu) (i := 7) (v := Value.bool true) rfl (by kernel_rfl) (by kernel_rfl) (by kernel_rfl) (fun _ _ _ h => by first | exact h | exact h.elim) (by decide) (fun _ h => h.elim) (fun _ h => h) (Sx.behind (by kernel_rfl) hm1.out) (Or.inl ⟨by rfl, fun uu hu => by go_simp⟩) ?_
    try go_simp
    refine wpAnyX_both (T := fun uu => Below W0.heap.size W0 uu) (i := 8) (v := Value.bool true) rfl (by kernel_rfl) (by kernel_rfl) (by kernel_rfl) (fun _ _ _ h => by first | exact h | exact h.elim) (by decide) (fun _ h => h.elim) (fun _ h => h) (Sx.behind (by kernel_rfl) hm1.out) (Or.inl ⟨by rfl, fun uu hu => by go_simp⟩) ?_
    try go_simp
    refine wpAnyX_both (T := fun uu => Below W0.heap.size W0 uu) (i := 9) (v := undef) rfl (by kernel_rfl) (by kernel_rfl) (by kernel_rfl) (fun _ _ _ h => by first | exact h | exact h.elim) (by decide) (fun _ h => h.elim) (fun _ h => h) (Sx.behind (by kernel_rfl) hm1.out) (Or.inr ⟨by rfl, rfl⟩) ?_
    try go_simp
    refine wpAnyX_both (T := fun uu => Below W0.heap.size W0 uu) (i := 10) (v := undef) rfl (by kernel_rfl) (by kernel_rfl) (by kernel_rfl) (fun _ _ _ h => by first | exact h | exact h.elim) (by decide) (fun _ h => h.elim) (fun _ h => h) (Sx.behind (by kernel_rfl) hm1.out) (Or.inr ⟨by rfl, rfl⟩) ?_
    try go_simp
    refine wpAnyX_both (T := fun uu => Below W0.heap.size W0 uu) (i := 11) (v := undef) rfl (by kernel_rfl) (by kernel_rfl) (by kernel_rfl) (fun _ _ _ h => by first | exact h | exact h.elim) (by decide) (fun _ h => h.elim) (fun _ h => h) (Sx.behind (by kernel_rfl) hm1.out) (Or.inr ⟨by rfl, rfl⟩) ?_
    try go_simp
    refine wpAnyX_both (T := fun uu => Below W0.heap.size W0 uu) (i := 12) (v := undef) rfl (by kernel_rfl) (by kernel_rfl) (by kernel_rfl) (fun _ _ _ h => by first | exact h | exact h.elim) (by decide) (fun _ h => h.elim) (fun _ h => h) (Sx.behind (by kernel_rfl) hm1.out) (Or.inr ⟨by rfl, rfl⟩) ?_
    try go_simp
    refine wpAnyX_both (T := fun uu => Below W0.heap.size W0 uu) (i := 13) (v := Value.bool true) rfl (by kernel_rfl) (by kernel_rfl) (by kernel_rfl) (fun _ _ _ h => by first | exact h | exact h.elim) (by decide) (fun _ h => h.elim) (fun _ h => h) (Sx.behind (by kernel_rfl) hm1.out) (Or.inl ⟨by rfl, fun uu hu => by go_simp⟩) ?_
    try go_simp
    refine wpAnyX_both (T := fun uu => Below W0.heap.size W0 uu) (i := 14) (v := Value.bool true) rfl (by kernel_rfl) (by kernel_rfl) (by kernel_rfl) (fun _ _ _ h => by first | exact h | exact h.elim) (by decide) (fun _ h => h.elim) (fun _ h => h) (Sx.behind (by kernel_rfl) hm1.out) (Or.inl ⟨by rfl, fun uu hu => by go_simp⟩) ?_
    try go_simp
    refine wpAnyX_both (T := fun uu => Below W0.heap.size W0 uu) (i := 15) (v := undef) rfl (by kernel_rfl) (by kernel_rfl) (by kernel_rfl) (fun _ _ _ h => by first | exact h | exact h.elim) (by decide) (fun _ h => h.elim) (fun _ h => h) (Sx.behind (by kernel_rfl) hm1.out) (Or.inr ⟨by rfl, rfl⟩) ?_
    try go_simp
    refine wpAnyX_both (T := fun uu => Below W0.heap.size W0 uu) (i := 16) (v := undef) rfl (by kernel_rfl) (by kernel_rfl) (by kernel_rfl) (fun _ _ _ h => by first | exact h | exact h.elim) (by decide) (fun _ h => h.elim) (fun _ h => h) (Sx.behind (by kernel_rfl) hm1.out) (Or.inr ⟨by rfl, rfl⟩) ?_
    try go_simp
    refine wpAnyX_both (T := fun uu => Below W0.heap.size W0 uu) (i := 17) (v := undef) rfl (by kernel_rfl) (by kernel_rfl) (by kernel_rfl) (fun _ _ _ h => by first | exact h | exact h.elim) (by decide) (fun _ h => h.elim) (fun _ h => h) (Sx.behind (by kernel_rfl) hm1.out) (Or.inr ⟨by rfl, rfl⟩) ?_
    try go_simp
    refine wpAnyX_both (T := fun uu => Below W0.heap.size W0 uu) (i := 18) (v := undef) rfl (by kernel_rfl) (by kernel_rfl) (by kernel_rfl) (fun _ _ _ h => by first | exact h | exact h.elim) (by decide) (fun _ h => h.elim) (fun _ h => h) (Sx.behind (by kernel_rfl) hm1.out) (Or.inr ⟨by rfl, rfl⟩) ?_
    try go_simp
    refine wpAnyX_both (T := fun uu => Below W0.heap.size W0 uu) (i := 19) (v := undef) rfl (by kernel_rfl) (by kernel_rfl) (by kernel_rfl) (fun _ _ _ h => by first | exact h | exact h.elim) (by decide) (fun _ h => h.elim) (fun _ h => h) (Sx.behind (by kernel_rfl) hm1.out) (Or.inr ⟨by rfl, rfl⟩) ?_
    try go_simp
    refine wpAnyX_both (T := fun uu => Below W0.heap.size W0 uu) (i := 20) (v := undef) rfl (by kernel_rfl) (by kernel_rfl) (by kernel_rfl) (fun _ _ _ h => by first | exact h | exact h.elim) (by decide) (fun _ h => h.elim) (fun _ h => h) (Sx.behind (by kernel_rfl) hm1.out) (Or.inr ⟨by rfl, rfl⟩) ?_
    try go_simp
    refine wpAnyX_both (T := fun uu => Below W0.heap.size W0 uu) (i := 21) (v := undef) rfl (by kernel_rfl) (by kernel_rfl) (by kernel_rfl) (fun _ _ _ h => by first | exact h | exact h.elim) (by decide) (fun _ h => h.elim) (fun _ h => h) (Sx.behind (by kernel_rfl) hm1.out) (Or.inr ⟨by rfl, rfl⟩) ?_
    try go_simp
    refine wpAnyX_both (T := fun uu => Below W0.heap.size W0 uu) (i := 22) (v := undef) rfl (by kernel_rfl) (by kernel_rfl) (by kernel_rfl) (fun _ _ _ h => by first | exact h | exact h.elim) (by decide) (fun _ h => h.elim) (fun _ h => h) (Sx.behind (by kernel_rfl) hm1.out) (Or.inr ⟨by rfl, rfl⟩) ?_
    try go_simp
    refine wpAnyX_both (T := fun uu => Below W0.heap.size W0 uu) (i := 23) (v := undef) rfl (by kernel_rfl) (by kernel_rfl) (by kernel_rfl) (fun _ _ _ h => by first | exact h | exact h.elim) (by decide) (fun _ h => h.elim) (fun _ h => h) (Sx.behind (by kernel_rfl) hm1.out) (Or.inr ⟨by rfl, rfl⟩) ?_
    try go_simp
    refine wpAnyX_both (T := fun uu => Below W0.heap.size W0 uu) (i := 24) (v := Value.bool true) rfl (by kernel_rfl) (by kernel_rfl) (by kernel_rfl) (fun _ _ _ h => by first | exact h | exact h.elim) (by decide) (fun _ h => h.elim) (fun _ h => h) (Sx.behind (by kernel_rfl) hm1.out) (Or.inl ⟨by rfl, fun uu hu => by go_simp⟩) ?_
    try go_simp
    refine wpAnyX_done (by kernel_rfl) ?_ _
    have B1 := kide (B0.out.trans (hm1.out.mono B0.out.size))
    have XT1 := kide (X0.out.later hm1.out)
    have XU1 := kide (X1.out.later hm1.out)
    have XR1 := kide (X2.out.later hm1.out)
    generalize m1 = w1 at *
    have d0 := XR1.out.cell 0
    have f0 := XR1.out.froz 0
    simp at d0
    have B9 : Hid (Below w.heap.size w (w1.setCell ⟨b0 + 2, 0, none⟩ (Value.slice none 0 0))) := B1.out.setCell (by simp only []; have := HB0.out; omega) _
    have y0 : (w1.setCell ⟨b0 + 2, 0, none⟩ (Value.slice none 0 0)).cell? ⟨b0 + 2, 0, none⟩ = some (Value.slice none 0 0) := (XR1.out.set 0 _).cell 0
    have Y0 := kide y0
    clear y0
    go_wp2_with fail
    have y0 := Y0.out
    rw [hR]
    first
      | exact bodyPost_ret (v := .tuple #[.agg #[.slice none 0 0], .bool false]) (by simp [results, Tryz.results9, go_sem, y0]) rfl ⟨.slice none 0 0, [], rfl, Ts.nil _ _, rfl, B9.out⟩
      | exact bodyPost_ret (v := .tuple #[.agg #[.slice none 0 0], .bool false]) (by simp [results, Tryz.results9, go_sem, d0]) rfl ⟨.slice none 0 0, [], rfl, Ts.nil _ _, rfl, B1.out⟩
  have HCL := kide (wid_dcl (ns := ts.map Tg.ct) (by rw [HEt.out]; omega))
  by_cases hB : v < 0
  · have hR : R = ([], false) := by rw [← HR.out]; unfold repR repOk; simp [show ¬ 0 ≤ v by omega]
    clear hWt hWu
    go_enter Tryz.func9, Tryz.ntmps9
    go_wp2_with fail
    simp only [show w.heap.size + 1 + 1 = w.heap.size + 2 from rfl]
    generalize ((w.alloc (Obj.cells #[Value.slice ta tn tc] 30)).alloc (Obj.cells #[Value.slice ua un uc] 30)).alloc (Obj.cells #[Value.slice none 0 0] 30) = W0 at *
    obtain ⟨b0, hb0⟩ : ∃ b0, w.heap.size = b0 := ⟨_, rfl⟩
    have HB0 := kide hb0
    rw [hb0] at X0 X1 X2
    simp only [hb0]
    clear hb0
    have z0 := X0.out.cell 0
    have z1 := X1.out.cell 0
    simp at z0 z1
    have l0 := X0.out.lt
    have l1 := X1.out.lt
    refine wp_region_x (SA := fun _ => False) (SB := fun uu => Below W0.heap.size W0 uu) (k := 999) (by kernel_rfl) ?_
    have hm0 : Hid (Below W0.heap.size W0 W0.drew) := (Below.refl _ _).drew
    generalize W0.drew = m0 at *
    try go_simp
    refine wpAnyX_both (T := fun uu => Below W0.heap.size W0 uu) (i := 0) (v := Value.slice a dn c) rfl (by kernel_rfl) (by kernel_rfl) (by kernel_rfl) (fun _ _ _ h => by first | exact h | exact h.elim) (by decide) (fun _ h => h.elim) (fun _ h => h) (Sx.behind (by kernel_rfl) hm0.out) (Or.inl ⟨by rfl, fun uu hu => by go_simp⟩) ?_
    try go_simp
    refine wpAnyX_both (T := fun uu => Below W0.heap.size W0 uu) (i := 1) (v := Value.agg #[Value.slice ta tn tc]) rfl (by kernel_rfl) (by kernel_rfl) (by kernel_rfl) (fun _ _ _ h => by first | exact h | exact h.elim) (by decide) (fun _ h => h.elim) (fun _ h => h) (Sx.behind (by kernel_rfl) hm0.out) (Or.inl ⟨by rfl, fun uu hu => by have e0 := (kcell hu b0 0 l0).trans z0; go_simp⟩) ?_
    try go_simp
    refine wpAnyX_ready (rs := [2]) (by kernel_rfl) (by simp) (AllX.cons rfl (fun K hK => ?_) AllX.nil)
    go_simp
    refine Calls.mono (HWT.out m0 (B0.out.trans (hm0.out.mono B0.out.size))) ?_
    rintro e m1 ⟨rfl, hb⟩
    have hm1 : Hid (Below W0.heap.size W0 m1) := hm0.out.trans (hb.mono hm0.out.size)
    refine hK _ _ (Sx.behind (by kernel_rfl) hm1.out) ?_
    clear hK K hb
    try go_simp
    refine wpAnyX_both (T := fun uu => Below W0.heap.size W0 uu) (i := 3) (v := Value.bool false) rfl (by kernel_rfl) (by kernel_rfl) (by kernel_rfl) (fun _ _ _ h => by first | exact h | exact h.elim) (by decide) (fun _ h => h.elim) (fun _ h => h) (Sx.behind (by kernel_rfl) hm1.out) (Or.inl ⟨by rfl, fun uu hu => by go_simp⟩) ?_
    try go_simp
    refine wpAnyX_both (T := fun uu => Below W0.heap.size W0 uu) (i := 4) (v := Value.bool false) rfl (by kernel_rfl) (by kernel_rfl) (by kernel_rfl) (fun _ _ _ h => by first | exact h | exact h.elim) (by decide) (fun _ h => h.elim) (fun _ h => h) (Sx.behind (by kernel_rfl) hm1.out) (Or.inl ⟨by rfl, fun uu hu => by go_simp⟩) ?_
    try go_simp
    refine wpAnyX_both (T := fun uu => Below W0.heap.size W0 uu) (i := 5) (v := Value.int .i64 v) rfl (by kernel_rfl) (by kernel_rfl) (by kernel_rfl) (fun _ _ _ h => by first | exact h | exact h.elim) (by decide) (fun _ h => h.elim) (fun _ h => h) (Sx.behind (by kernel_rfl) hm1.out) (Or.inl ⟨by rfl, fun uu hu => by go_simp⟩) ?_
    try go_simp
    refine wpAnyX_both (T := fun uu => Below W0.heap.size W0 uu) (i := 6) (v := Value.bool true) rfl (by kernel_rfl) (by kernel_rfl) (by kernel_rfl) (fun _ _ _ h => by first | exact h | exact h.elim) (by decide) (fun _ h => h.elim) (fun _ h => h) (Sx.behind (by kernel_rfl) hm1.out) (Or.inl ⟨by rfl, fun uu hu => by go_simp⟩) ?_
    try go_simp
    refine wpAnyX_both (T := fun uu => Below W0.heap.size W0 uu) (i := 7) (v := Value.bool true) rfl (by kernel_rfl) (by kernel_rfl) (by kernel_rfl) (fun _ _ _ h => by first | exact h | exact h.elim) (by decide) (fun _ h => h.elim) (fun _ h => h) (Sx.behind (by kernel_rfl) hm1.out) (Or.inl ⟨by rfl, fun uu hu => by go_simp⟩) ?_
    try go_simp
    refine wpAnyX_both (T := fun uu => Below W0.heap.size W0 uu) (i := 8) (v := Value.bool true) rfl (by kernel_rfl) (by kernel_rfl) (by kernel_rfl) (fun _ _ _ h => by first | exact h | exact h.elim) (by decide) (fun _ h => h.elim) (fun _ h => h) (Sx.behind (by kernel_rfl) hm1.out) (Or.inl ⟨by rfl, fun uu hu => by go_simp⟩) ?_
    try go_simp
    refine wpAnyX_both (T := fun uu => Below W0.heap.size W0 uu) (i := 9) (v := undef) rfl (by kernel_rfl) (by kernel_rfl) (by kernel_rfl) (fun _ _ _ h => by first | exact h | exact h.elim) (by decide) (fun _ h => h.elim) (fun _ h => h) (Sx.behind (by kernel_rfl) hm1.out) (Or.inr ⟨by rfl, rfl⟩) ?_
    try go_simp
    refine wpAnyX_both (T := fun uu => Below W0.heap.size W0 uu) (i := 10) (v := undef) rfl (by kernel_rfl) (by kernel_rfl) (by kernel_rfl) (fun _ _ _ h => by first | exact h | exact h.elim) (by decide) (fun _ h => h.elim) (fun _ h => h) (Sx.behind (by kernel_rfl) hm1.out) (Or.inr ⟨by rfl, rfl⟩) ?_
    try go_simp
    refine wpAnyX_both (T := fun uu => Below W0.heap.size W0 uu) (i := 11) (v := undef) rfl (by kernel_rfl) (by kernel_rfl) (by kernel_rfl) (fun _ _ _ h => by first | exact h | exact h.elim) (by decide) (fun _ h => h.elim) (fun _ h => h) (Sx.behind (by kernel_rfl) hm1.out) (Or.inr ⟨by rfl, rfl⟩) ?_
    try go_simp
    refine wpAnyX_both (T := fun uu => Below W0.heap.size W0 uu) (i := 12) (v := undef) rfl (by kernel_rfl) (by kernel_rfl) (by kernel_rfl) (fun _ _ _ h => by first | exact h | exact h.elim) (by decide) (fun _ h => h.elim) (fun _ h => h) (Sx.behind (by kernel_rfl) hm1.out) (Or.inr ⟨by rfl, rfl⟩) ?_
    try go_simp
    refine wpAnyX_both (T := fun uu => Below W0.heap.size W0 uu) (i := 13) (v := Value.bool true) rfl (by kernel_rfl) (by kernel_rfl) (by kernel_rfl) (fun _ _ _ h => by first | exact h | exact h.elim) (by decide) (fun _ h => h.elim) (fun _ h => h) (Sx.behind (by kernel_rfl) hm1.out) (Or.inl ⟨by rfl, fun uu hu => by go_simp⟩) ?_
    try go_simp
    refine wpAnyX_both (T := fun uu => Below W0.heap.size W0 uu) (i := 14) (v := Value.bool true) rfl (by kernel_rfl) (by kernel_rfl) (by kernel_rfl) (fun _ _ _ h => by first | exact h | exact h.elim) (by decide) (fun _ h => h.elim) (fun _ h => h) (Sx.behind (by kernel_rfl) hm1.out) (Or.inl ⟨by rfl, fun uu hu => by go_simp⟩) ?_
    try go_simp
    refine wpAnyX_both (T := fun uu => Below W0.heap.size W0 uu) (i := 15) (v := undef) rfl (by kernel_rfl) (by kernel_rfl) (by kernel_rfl) (fun _ _ _ h => by first | exact h | exact h.elim) (by decide) (fun _ h => h.elim) (fun _ h => h) (Sx.behind (by kernel_rfl) hm1.out) (Or.inr ⟨by rfl, rfl⟩) ?_
    try go_simp
    refine wpAnyX_both (T := fun uu => Below W0.heap.size W0 uu) (i := 16) (v := undef) rfl (by kernel_rfl) (by kernel_rfl) (by kernel_rfl) (fun _ _ _ h => by first | exact h | exact h.elim) (by decide) (fun _ h => h.elim) (fun _ h => h) (Sx.behind (by kernel_rfl) hm1.out) (Or.inr ⟨by rfl, rfl⟩) ?_
    try go_simp
    refine wpAnyX_both (T := fun uu => Below W0.heap.size W0 uu) (i := 17) (v := undef) rfl (by kernel_rfl) (by kernel_rfl) (by kernel_rfl) (fun _ _ _ h => by first | exact h | exact h.elim) (by decide) (fun _ h => h.elim) (fun _ h => h) (Sx.behind (by kernel_rfl) hm1.out) (Or.inr ⟨by rfl, rfl⟩) ?_
    try go_simp
    refine wpAnyX_both (T := fun uu => Below W0.heap.size W0 uu) (i := 18) (v := undef) rfl (by kernel_rfl) (by kernel_rfl) (by kernel_rfl) (fun _ _ _ h => by first | exact h | exact h.elim) (by decide) (fun _ h => h.elim) (fun _ h => h) (Sx.behind (by kernel_rfl) hm1.out) (Or.inr ⟨by rfl, rfl⟩) ?_
    try go_simp
    refine wpAnyX_both (T := fun uu => Below W0.heap.size W0 uu) (i := 19) (v := undef) rfl (by kernel_rfl) (by kernel_rfl) (by kernel_rfl) (fun _ _ _ h => by first | exact h | exact h.elim) (by decide) (fun _ h => h.elim) (fun _ h => h) (Sx.behind (by kernel_rfl) hm1.out) (Or.inr ⟨by rfl, rfl⟩) ?_
    try go_simp
    refine wpAnyX_both (T := fun uu => Below W0.heap.size W0 uu) (i := 20) (v := undef) rfl (by kernel_rfl) (by kernel_rfl) (by kernel_rfl) (fun _ _ _ h => by first | exact h | exact h.elim) (by decide) (fun _ h => h.elim) (fun _ h => h) (Sx.behind (by kernel_rfl) hm1.out) (Or.inr ⟨by rfl, rfl⟩) ?_
    try go_simp
    refine wpAnyX_both (T := fun uu => Below W0.heap.size W0 uu) (i := 21) (v := undef) rfl (by kernel_rfl) (by kernel_rfl) (by kernel_rfl) (fun _ _ _ h => by first | exact h | exact h.elim) (by decide) (fun _ h => h.elim) (fun _ h => h) (Sx.behind (by kernel_rfl) hm1.out) (Or.inr ⟨by rfl, rfl⟩) ?_
    try go_simp
    refine wpAnyX_both (T := fun uu => Below W0.heap.size W0 uu) (i := 22) (v := undef) rfl (by kernel_rfl) (by kernel_rfl) (by kernel_rfl) (fun _ _ _ h => by first | exact h | exact h.elim) (by decide) (fun _ h => h.elim) (fun _ h => h) (Sx.behind (by kernel_rfl) hm1.out) (Or.inr ⟨by rfl, rfl⟩) ?_
    try go_simp
    refine wpAnyX_both (T := fun uu => Below W0.heap.size W0 uu) (i := 23) (v := undef) rfl (by kernel_rfl) (by kernel_rfl) (by kernel_rfl) (fun _ _ _ h => by first | exact h | exact h.elim) (by decide) (fun _ h => h.elim) (fun _ h => h) (Sx.behind (by kernel_rfl) hm1.out) (Or.inr ⟨by rfl, rfl⟩) ?_
    try go_simp
    refine wpAnyX_both (T := fun uu => Below W0.heap.size W0 uu) (i := 24) (v := Value.bool true) rfl (by kernel_rfl) (by kernel_rfl) (by kernel_rfl) (fun _ _ _ h => by first | exact h | exact h.elim) (by decide) (fun _ h => h.elim) (fun _ h => h) (Sx.behind (by kernel_rfl) hm1.out) (Or.inl ⟨by rfl, fun uu hu => by go_simp⟩) ?_
    try go_simp
    refine wpAnyX_done (by kernel_rfl) ?_ _
    have B1 := kide (B0.out.trans (hm1.out.mono B0.out.size))
    have XT1 := kide (X0.out.later hm1.out)
    have XU1 := kide (X1.out.later hm1.out)
    have XR1 := kide (X2.out.later hm1.out)
    generalize m1 = w1 at *
    have d0 := XR1.out.cell 0
    have f0 := XR1.out.froz 0
    simp at d0
    have B9 : Hid (Below w.heap.size w (w1.setCell ⟨b0 + 2, 0, none⟩ (Value.slice none 0 0))) := B1.out.setCell (by simp only []; have := HB0.out; omega) _
    have y0 : (w1.setCell ⟨b0 + 2, 0, none⟩ (Value.slice none 0 0)).cell? ⟨b0 + 2, 0, none⟩ = some (Value.slice none 0 0) := (XR1.out.set 0 _).cell 0
    have Y0 := kide y0
    clear y0
    go_wp2_with fail
    have y0 := Y0.out
    rw [hR]
    first
      | exact bodyPost_ret (v := .tuple #[.agg #[.slice none 0 0], .bool false]) (by simp [results, Tryz.results9, go_sem, y0]) rfl ⟨.slice none 0 0, [], rfl, Ts.nil _ _, rfl, B9.out⟩
      | exact bodyPost_ret (v := .tuple #[.agg #[.slice none 0 0], .bool false]) (by simp [results, Tryz.results9, go_sem, d0]) rfl ⟨.slice none 0 0, [], rfl, Ts.nil _ _, rfl, B1.out⟩
  by_cases hC : (dn : Int) ≤ v
  · have hR : R = ([], false) := by rw [← HR.out]; unfold repR repOk; rw [HDN.out]; simp [show ¬ v < (dn : Int) by omega]
    clear hWt hWu
    go_enter Tryz.func9, Tryz.ntmps9
    go_wp2_with fail
    simp only [show w.heap.size + 1 + 1 = w.heap.size + 2 from rfl]
    generalize ((w.alloc (Obj.cells #[Value.slice ta tn tc] 30)).alloc (Obj.cells #[Value.slice ua un uc] 30)).alloc (Obj.cells #[Value.slice none 0 0] 30) = W0 at *
    obtain ⟨b0, hb0⟩ : ∃ b0, w.heap.size = b0 := ⟨_, rfl⟩
    have HB0 := kide hb0
    rw [hb0] at X0 X1 X2
    simp only [hb0]
    clear hb0
    have z0 := X0.out.cell 0
    have z1 := X1.out.cell 0
    simp at z0 z1
    have l0 := X0.out.lt
    have l1 := X1.out.lt
    refine wp_region_x (SA := fun _ => False) (SB := fun uu => Below W0.heap.size W0 uu) (k := 999) (by kernel_rfl) ?_
    have hm0 : Hid (Below W0.heap.size W0 W0.drew) := (Below.refl _ _).drew
    generalize W0.drew = m0 at *
    try go_simp
    refine wpAnyX_both (T := fun uu => Below W0.heap.size W0 uu) (i := 0) (v := Value.slice a dn c) rfl (by kernel_rfl) (by kernel_rfl) (by kernel_rfl) (fun _ _ _ h => by first | exact h | exact h.elim) (by decide) (fun _ h => h.elim) (fun _ h => h) (Sx.behind (by kernel_rfl) hm0.out) (Or.inl ⟨by rfl, fun uu hu => by go_simp⟩) ?_
    try go_simp
    refine wpAnyX_both (T := fun uu => Below W0.heap.size W0 uu) (i := 1) (v := Value.agg #[Value.slice ta tn tc]) rfl (by kernel_rfl) (by kernel_rfl) (by kernel_rfl) (fun _ _ _ h => by first | exact h | exact h.elim) (by decide) (fun _ h => h.elim) (fun _ h => h) (Sx.behind (by kernel_rfl) hm0.out) (Or.inl ⟨by rfl, fun uu hu => by have e0 := (kcell hu b0 0 l0).trans z0; go_simp⟩) ?_
    try go_simp
    refine wpAnyX_ready (rs := [2]) (by kernel_rfl) (by simp) (AllX.cons rfl (fun K hK => ?_) AllX.nil)
    go_simp
    refine Calls.mono (HWT.out m0 (B0.out.trans (hm0.out.mono B0.out.size))) ?_
    rintro e m1 ⟨rfl, hb⟩
    have hm1 : Hid (Below W0.heap.size W0 m1) := hm0.out.trans (hb.mono hm0.out.size)
    refine hK _ _ (Sx.behind (by kernel_rfl) hm1.out) ?_
    clear hK K hb
    try go_simp
    refine wpAnyX_both (T := fun uu => Below W0.heap.size W0 uu) (i := 3) (v := Value.bool false) rfl (by kernel_rfl) (by kernel_rfl) (by kernel_rfl) (fun _ _ _ h => by first | exact h | exact h.elim) (by decide) (fun _ h => h.elim) (fun _ h => h) (Sx.behind (by kernel_rfl) hm1.out) (Or.inl ⟨by rfl, fun uu hu => by go_simp⟩) ?_
    try go_simp
    refine wpAnyX_both (T := fun uu => Below W0.heap.size W0 uu) (i := 4) (v := Value.bool false) rfl (by kernel_rfl) (by kernel_rfl) (by kernel_rfl) (fun _ _ _ h => by first | exact h | exact h.elim) (by decide) (fun _ h => h.elim) (fun _ h => h) (Sx.behind (by kernel_rfl) hm1.out) (Or.inl ⟨by rfl, fun uu hu => by go_simp⟩) ?_
    try go_simp
    refine wpAnyX_both (T := fun uu => Below W0.heap.size W0 uu) (i := 5) (v := Value.int .i64 v) rfl (by kernel_rfl) (by kernel_rfl) (by kernel_rfl) (fun _ _ _ h => by first | exact h | exact h.elim) (by decide) (fun _ h => h.elim) (fun _ h => h) (Sx.behind (by kernel_rfl) hm1.out) (Or.inl ⟨by rfl, fun uu hu => by go_simp⟩) ?_
    try go_simp
    refine wpAnyX_both (T := fun uu => Below W0.heap.size W0 uu) (i := 6) (v := Value.bool false) rfl (by kernel_rfl) (by kernel_rfl) (by kernel_rfl) (fun _ _ _ h => by first | exact h | exact h.elim) (by decide) (fun _ h => h.elim) (fun _ h => h) (Sx.behind (by kernel_rfl) hm1.out) (Or.inl ⟨by rfl, fun uu hu => by go_simp⟩) ?_
    try go_simp
    refine wpAnyX_both (T := fun uu => Below W0.heap.size W0 uu) (i := 7) (v := Value.bool false) rfl (by kernel_rfl) (by kernel_rfl) (by kernel_rfl) (fun _ _ _ h => by first | exact h | exact h.elim) (by decide) (fun _ h => h.elim) (fun _ h => h) (Sx.behind (by kernel_rfl) hm1.out) (Or.inl ⟨by rfl, fun uu hu => by go_simp⟩) ?_
    try go_simp
    refine wpAnyX_both (T := fun uu => Below W0.heap.size W0 uu) (i := 8) (v := Value.bool false) rfl (by kernel_rfl) (by kernel_rfl) (by kernel_rfl) (fun _ _ _ h => by first | exact h | exact h.elim) (by decide) (fun _ h => h.elim) (fun _ h => h) (Sx.behind (by kernel_rfl) hm1.out) (Or.inl ⟨by rfl, fun uu hu => by go_simp⟩) ?_
    try go_simp
    refine wpAnyX_both (T := fun uu => Below W0.heap.size W0 uu) (i := 9) (v := Value.int .i64 v) rfl (by kernel_rfl) (by kernel_rfl) (by kernel_rfl) (fun _ _ _ h => by first | exact h | exact h.elim) (by decide) (fun _ h => h.elim) (fun _ h => h) (Sx.behind (by kernel_rfl) hm1.out) (Or.inl ⟨by rfl, fun uu hu => by go_simp⟩) ?_
    try go_simp
    refine wpAnyX_both (T := fun uu => Below W0.heap.size W0 uu) (i := 10) (v := Value.slice a dn c) rfl (by kernel_rfl) (by kernel_rfl) (by kernel_rfl) (fun _ _ _ h => by first | exact h | exact h.elim) (by decide) (fun _ h => h.elim) (fun _ h => h) (Sx.behind (by kernel_rfl) hm1.out) (Or.inl ⟨by rfl, fun uu hu => by go_simp⟩) ?_
    try go_simp
    refine wpAnyX_both (T := fun uu => Below W0.heap.size W0 uu) (i := 11) (v := Value.int .i64 (dn : Int)) rfl (by kernel_rfl) (by kernel_rfl) (by kernel_rfl) (fun _ _ _ h => by first | exact h | exact h.elim) (by decide) (fun _ h => h.elim) (fun _ h => h) (Sx.behind (by kernel_rfl) hm1.out) (Or.inl ⟨by rfl, fun uu hu => by go_simp⟩) ?_
    try go_simp
    refine wpAnyX_both (T := fun uu => Below W0.heap.size W0 uu) (i := 12) (v := Value.bool true) rfl (by kernel_rfl) (by kernel_rfl) (by kernel_rfl) (fun _ _ _ h => by first | exact h | exact h.elim) (by decide) (fun _ h => h.elim) (fun _ h => h) (Sx.behind (by kernel_rfl) hm1.out) (Or.inl ⟨by rfl, fun uu hu => by first | (go_simp; omega) | go_simp⟩) ?_
    try go_simp
    refine wpAnyX_both (T := fun uu => Below W0.heap.size W0 uu) (i := 13) (v := Value.bool true) rfl (by kernel_rfl) (by kernel_rfl) (by kernel_rfl) (fun _ _ _ h => by first | exact h | exact h.elim) (by decide) (fun _ h => h.elim) (fun _ h => h) (Sx.behind (by kernel_rfl) hm1.out) (Or.inl ⟨by rfl, fun uu hu => by go_simp⟩) ?_
    try go_simp
    refine wpAnyX_both (T := fun uu => Below W0.heap.size W0 uu) (i := 14) (v := Value.bool true) rfl (by kernel_rfl) (by kernel_rfl) (by kernel_rfl) (fun _ _ _ h => by first | exact h | exact h.elim) (by decide) (fun _ h => h.elim) (fun _ h => h) (Sx.behind (by kernel_rfl) hm1.out) (Or.inl ⟨by rfl, fun uu hu => by go_simp⟩) ?_
    try go_simp
    refine wpAnyX_both (T := fun uu => Below W0.heap.size W0 uu) (i := 15) (v := undef) rfl (by kernel_rfl) (by kernel_rfl) (by kernel_rfl) (fun _ _ _ h => by first | exact h | exact h.elim) (by decide) (fun _ h => h.elim) (fun _ h => h) (Sx.behind (by kernel_rfl) hm1.out) (Or.inr ⟨by rfl, rfl⟩) ?_
    try go_simp
    refine wpAnyX_both (T := fun uu => Below W0.heap.size W0 uu) (i := 16) (v := undef) rfl (by kernel_rfl) (by kernel_rfl) (by kernel_rfl) (fun _ _ _ h => by first | exact h | exact h.elim) (by decide) (fun _ h => h.elim) (fun _ h => h) (Sx.behind (by kernel_rfl) hm1.out) (Or.inr ⟨by rfl, rfl⟩) ?_
    try go_simp
    refine wpAnyX_both (T := fun uu => Below W0.heap.size W0 uu) (i := 17) (v := undef) rfl (by kernel_rfl) (by kernel_rfl) (by kernel_rfl) (fun _ _ _ h => by first | exact h | exact h.elim) (by decide) (fun _ h => h.elim) (fun _ h => h) (Sx.behind (by kernel_rfl) hm1.out) (Or.inr ⟨by rfl, rfl⟩) ?_
    try go_simp
    refine wpAnyX_both (T := fun uu => Below W0.heap.size W0 uu) (i := 18) (v := undef) rfl (by kernel_rfl) (by kernel_rfl) (by kernel_rfl) (fun _ _ _ h => by first | exact h | exact h.elim) (by decide) (fun _ h => h.elim) (fun _ h => h) (Sx.behind (by kernel_rfl) hm1.out) (Or.inr ⟨by rfl, rfl⟩) ?_
    try go_simp
    refine wpAnyX_both (T := fun uu => Below W0.heap.size W0 uu) (i := 19) (v := undef) rfl (by kernel_rfl) (by kernel_rfl) (by kernel_rfl) (fun _ _ _ h => by first | exact h | exact h.elim) (by decide) (fun _ h => h.elim) (fun _ h => h) (Sx.behind (by kernel_rfl) hm1.out) (Or.inr ⟨by rfl, rfl⟩) ?_
    try go_simp
    refine wpAnyX_both (T := fun uu => Below W0.heap.size W0 uu) (i := 20) (v := undef) rfl (by kernel_rfl) (by kernel_rfl) (by kernel_rfl) (fun _ _ _ h => by first | exact h | exact h.elim) (by decide) (fun _ h => h.elim) (fun _ h => h) (Sx.behind (by kernel_rfl) hm1.out) (Or.inr ⟨by rfl, rfl⟩) ?_
    try go_simp
    refine wpAnyX_both (T := fun uu => Below W0.heap.size W0 uu) (i := 21) (v := undef) rfl (by kernel_rfl) (by kernel_rfl) (by kernel_rfl) (fun _ _ _ h => by first | exact h | exact h.elim) (by decide) (fun _ h => h.elim) (fun _ h => h) (Sx.behind (by kernel_rfl) hm1.out) (Or.inr ⟨by rfl, rfl⟩) ?_
    try go_simp
    refine wpAnyX_both (T := fun uu => Below W0.heap.size W0 uu) (i := 22) (v := undef) rfl (by kernel_rfl) (by kernel_rfl) (by kernel_rfl) (fun _ _ _ h => by first | exact h | exact h.elim) (by decide) (fun _ h => h.elim) (fun _ h => h) (Sx.behind (by kernel_rfl) hm1.out) (Or.inr ⟨by rfl, rfl⟩) ?_
    try go_simp
    refine wpAnyX_both (T := fun uu => Below W0.heap.size W0 uu) (i := 23) (v := undef) rfl (by kernel_rfl) (by kernel_rfl) (by kernel_rfl) (fun _ _ _ h => by first | exact h | exact h.elim) (by decide) (fun _ h => h.elim) (fun _ h => h) (Sx.behind (by kernel_rfl) hm1.out) (Or.inr ⟨by rfl, rfl⟩) ?_
    try go_simp
    refine wpAnyX_both (T := fun uu => Below W0.heap.size W0 uu) (i := 24) (v := Value.bool true) rfl (by kernel_rfl) (by kernel_rfl) (by kernel_rfl) (fun _ _ _ h => by first | exact h | exact h.elim) (by decide) (fun _ h => h.elim) (fun _ h => h) (Sx.behind (by kernel_rfl) hm1.out) (Or.inl ⟨by rfl, fun uu hu => by go_simp⟩) ?_
    try go_simp
    refine wpAnyX_done (by kernel_rfl) ?_ _
    have B1 := kide (B0.out.trans (hm1.out.mono B0.out.size))
    have XT1 := kide (X0.out.later hm1.out)
    have XU1 := kide (X1.out.later hm1.out)
    have XR1 := kide (X2.out.later hm1.out)
    generalize m1 = w1 at *
    have d0 := XR1.out.cell 0
    have f0 := XR1.out.froz 0
    simp at d0
    have B9 : Hid (Below w.heap.size w (w1.setCell ⟨b0 + 2, 0, none⟩ (Value.slice none 0 0))) := B1.out.setCell (by simp only []; have := HB0.out; omega) _
    have y0 : (w1.setCell ⟨b0 + 2, 0, none⟩ (Value.slice none 0 0)).cell? ⟨b0 + 2, 0, none⟩ = some (Value.slice none 0 0) := (XR1.out.set 0 _).cell 0
    have Y0 := kide y0
    clear y0
    go_wp2_with fail
    have y0 := Y0.out
    rw [hR]
    first
      | exact bodyPost_ret (v := .tuple #[.agg #[.slice none 0 0], .bool false]) (by simp [results, Tryz.results9, go_sem, y0]) rfl ⟨.slice none 0 0, [], rfl, Ts.nil _ _, rfl, B9.out⟩
      | exact bodyPost_ret (v := .tuple #[.agg #[.slice none 0 0], .bool false]) (by simp [results, Tryz.results9, go_sem, d0]) rfl ⟨.slice none 0 0, [], rfl, Ts.nil _ _, rfl, B1.out⟩
  obtain ⟨vn, rfl⟩ := Int.eq_ofNat_of_zero_le (show 0 ≤ v by omega)
  have hvn : (vn : Int) < (dn : Int) := by omega
  obtain ⟨d, gd⟩ : ∃ d, ds[vn]? = some d := ⟨ds[vn]'(by rw [HDN.out]; omega), List.getElem?_eq_getElem _⟩
  have HDA : Hid (∀ u, Below w.heap.size w u → ∃ b o, a = some ⟨b, o, none⟩ ∧ u.cell? ⟨b, o + vn * 2 + 1, none⟩ = some (.int .i64 d.2)) := fun u hb => by
    obtain ⟨-, -, h | ⟨b, o, e, hc⟩⟩ := HR0.out.later hb
    · rw [h] at gd; simp at gd
    · exact ⟨b, o, e, (hc vn d gd).2⟩
  have HOKV : Hid (repOk ds (ts.map Tg.ct) (vn : Int) (us.map Tg.ct) = decide (d.2 = Wu)) := by
    show _ = _
    unfold repOk
    rw [HEt.out, HEu.out, HDN.out]
    simp only [Int.toNat_natCast, gd]
    simp [show 0 ≤ Wt by omega, hvn]
  have HVI := kide (vIn_vars HCL.out.2 (show vn < ds.length by rw [HDN.out]; omega))
  have HD1 := kide (dcl_pos HCL.out.1 (List.mem_of_getElem? gd))
  clear gd
  generalize d.2 = dw at *
  obtain ⟨ab, ao, rfl, -⟩ := HDA.out w (Below.refl _ _)
  replace HDA : Hid (∀ u, Below w.heap.size w u → u.cell? ⟨ab, ao + vn * 2 + 1, none⟩ = some (.int .i64 dw)) := fun u hb => by
    obtain ⟨b, o, e, h⟩ := HDA.out u hb
    cases e
    exact h
  by_cases hD' : ¬ Wu = dw
  · have hR : R = ([], false) := by rw [← HR.out]; unfold repR; rw [HOKV.out]; simp [show ¬ dw = Wu from fun e => hD' e.symm]
    have hne : (Wu != dw) = true := by simpa using hD'
    clear hWt hWu
    go_enter Tryz.func9, Tryz.ntmps9
    go_wp2_with fail
    simp only [show w.heap.size + 1 + 1 = w.heap.size + 2 from rfl]
    generalize ((w.alloc (Obj.cells #[Value.slice ta tn tc] 30)).alloc (Obj.cells #[Value.slice ua un uc] 30)).alloc (Obj.cells #[Value.slice none 0 0] 30) = W0 at *
    obtain ⟨b0, hb0⟩ : ∃ b0, w.heap.size = b0 := ⟨_, rfl⟩
    have HB0 := kide hb0
    rw [hb0] at X0 X1 X2
    simp only [hb0]
    clear hb0
    have z0 := X0.out.cell 0
    have z1 := X1.out.cell 0
    simp at z0 z1
    have l0 := X0.out.lt
    have l1 := X1.out.lt
    refine wp_region_x (SA := fun _ => False) (SB := fun uu => Below W0.heap.size W0 uu) (k := 999) (by kernel_rfl) ?_
    have hm0 : Hid (Below W0.heap.size W0 W0.drew) := (Below.refl _ _).drew
    generalize W0.drew = m0 at *
    try go_simp
    refine wpAnyX_both (T := fun uu => Below W0.heap.size W0 uu) (i := 0) (v := Value.slice (some ⟨ab, ao, none⟩) dn c) rfl (by kernel_rfl) (by kernel_rfl) (by kernel_rfl) (fun _ _ _ h => by first | exact h | exact h.elim) (by decide) (fun _ h => h.elim) (fun _ h => h) (Sx.behind (by kernel_rfl) hm0.out) (Or.inl ⟨by rfl, fun uu hu => by go_simp⟩) ?_
    try go_simp
    refine wpAnyX_both (T := fun uu => Below W0.heap.size W0 uu) (i := 1) (v := Value.agg #[Value.slice ta tn tc]) rfl (by kernel_rfl) (by kernel_rfl) (by kernel_rfl) (fun _ _ _ h => by first | exact h | exact h.elim) (by decide) (fun _ h => h.elim) (fun _ h => h) (Sx.behind (by kernel_rfl) hm0.out) (Or.inl ⟨by rfl, fun uu hu => by have e0 := (kcell hu b0 0 l0).trans z0; go_simp⟩) ?_
    try go_simp
    refine wpAnyX_ready (rs := [2]) (by kernel_rfl) (by simp) (AllX.cons rfl (fun K hK => ?_) AllX.nil)
    go_simp
    refine Calls.mono (HWT.out m0 (B0.out.trans (hm0.out.mono B0.out.size))) ?_
    rintro e m1 ⟨rfl, hb⟩
    have hm1 : Hid (Below W0.heap.size W0 m1) := hm0.out.trans (hb.mono hm0.out.size)
    refine hK _ _ (Sx.behind (by kernel_rfl) hm1.out) ?_
    clear hK K hb
    try go_simp
    refine wpAnyX_both (T := fun uu => Below W0.heap.size W0 uu) (i := 3) (v := Value.bool false) rfl (by kernel_rfl) (by kernel_rfl) (by kernel_rfl) (fun _ _ _ h => by first | exact h | exact h.elim) (by decide) (fun _ h => h.elim) (fun _ h => h) (Sx.behind (by kernel_rfl) hm1.out) (Or.inl ⟨by rfl, fun uu hu => by go_simp⟩) ?_
    try go_simp
    refine wpAnyX_both (T := fun uu => Below W0.heap.size W0 uu) (i := 4) (v := Value.bool false) rfl (by kernel_rfl) (by kernel_rfl) (by kernel_rfl) (fun _ _ _ h => by first | exact h | exact h.elim) (by decide) (fun _ h => h.elim) (fun _ h => h) (Sx.behind (by kernel_rfl) hm1.out) (Or.inl ⟨by rfl, fun uu hu => by go_simp⟩) ?_
    try go_simp
    refine wpAnyX_both (T := fun uu => Below W0.heap.size W0 uu) (i := 5) (v := Value.int .i64 (vn : Int)) rfl (by kernel_rfl) (by kernel_rfl) (by kernel_rfl) (fun _ _ _ h => by first | exact h | exact h.elim) (by decide) (fun _ h => h.elim) (fun _ h => h) (Sx.behind (by kernel_rfl) hm1.out) (Or.inl ⟨by rfl, fun uu hu => by go_simp⟩) ?_
    try go_simp
    refine wpAnyX_both (T := fun uu => Below W0.heap.size W0 uu) (i := 6) (v := Value.bool false) rfl (by kernel_rfl) (by kernel_rfl) (by kernel_rfl) (fun _ _ _ h => by first | exact h | exact h.elim) (by decide) (fun _ h => h.elim) (fun _ h => h) (Sx.behind (by kernel_rfl) hm1.out) (Or.inl ⟨by rfl, fun uu hu => by go_simp⟩) ?_
    try go_simp
    refine wpAnyX_both (T := fun uu => Below W0.heap.size W0 uu) (i := 7) (v := Value.bool false) rfl (by kernel_rfl) (by kernel_rfl) (by kernel_rfl) (fun _ _ _ h => by first | exact h | exact h.elim) (by decide) (fun _ h => h.elim) (fun _ h => h) (Sx.behind (by kernel_rfl) hm1.out) (Or.inl ⟨by rfl, fun uu hu => by go_simp⟩) ?_
    try go_simp
    refine wpAnyX_both (T := fun uu => Below W0.heap.size W0 uu) (i := 8) (v := Value.bool false) rfl (by kernel_rfl) (by kernel_rfl) (by kernel_rfl) (fun _ _ _ h => by first | exact h | exact h.elim) (by decide) (fun _ h => h.elim) (fun _ h => h) (Sx.behind (by kernel_rfl) hm1.out) (Or.inl ⟨by rfl, fun uu hu => by go_simp⟩) ?_
    try go_simp
    refine wpAnyX_both (T := fun uu => Below W0.heap.size W0 uu) (i := 9) (v := Value.int .i64 (vn : Int)) rfl (by kernel_rfl) (by kernel_rfl) (by kernel_rfl) (fun _ _ _ h => by first | exact h | exact h.elim) (by decide) (fun _ h => h.elim) (fun _ h => h) (Sx.behind (by kernel_rfl) hm1.out) (Or.inl ⟨by rfl, fun uu hu => by go_simp⟩) ?_
    try go_simp
    refine wpAnyX_both (T := fun uu => Below W0.heap.size W0 uu) (i := 10) (v := Value.slice (some ⟨ab, ao, none⟩) dn c) rfl (by kernel_rfl) (by kernel_rfl) (by kernel_rfl) (fun _ _ _ h => by first | exact h | exact h.elim) (by decide) (fun _ h => h.elim) (fun _ h => h) (Sx.behind (by kernel_rfl) hm1.out) (Or.inl ⟨by rfl, fun uu hu => by go_simp⟩) ?_
    try go_simp
    refine wpAnyX_both (T := fun uu => Below W0.heap.size W0 uu) (i := 11) (v := Value.int .i64 (dn : Int)) rfl (by kernel_rfl) (by kernel_rfl) (by kernel_rfl) (fun _ _ _ h => by first | exact h | exact h.elim) (by decide) (fun _ h => h.elim) (fun _ h => h) (Sx.behind (by kernel_rfl) hm1.out) (Or.inl ⟨by rfl, fun uu hu => by go_simp⟩) ?_
    try go_simp
    refine wpAnyX_both (T := fun uu => Below W0.heap.size W0 uu) (i := 12) (v := Value.bool false) rfl (by kernel_rfl) (by kernel_rfl) (by kernel_rfl) (fun _ _ _ h => by first | exact h | exact h.elim) (by decide) (fun _ h => h.elim) (fun _ h => h) (Sx.behind (by kernel_rfl) hm1.out) (Or.inl ⟨by rfl, fun uu hu => by first | (go_simp; omega) | go_simp⟩) ?_
    try go_simp
    refine wpAnyX_both (T := fun uu => Below W0.heap.size W0 uu) (i := 13) (v := Value.bool false) rfl (by kernel_rfl) (by kernel_rfl) (by kernel_rfl) (fun _ _ _ h => by first | exact h | exact h.elim) (by decide) (fun _ h => h.elim) (fun _ h => h) (Sx.behind (by kernel_rfl) hm1.out) (Or.inl ⟨by rfl, fun uu hu => by go_simp⟩) ?_
    try go_simp
    refine wpAnyX_both (T := fun uu => Below W0.heap.size W0 uu) (i := 14) (v := Value.bool false) rfl (by kernel_rfl) (by kernel_rfl) (by kernel_rfl) (fun _ _ _ h => by first | exact h | exact h.elim) (by decide) (fun _ h => h.elim) (fun _ h => h) (Sx.behind (by kernel_rfl) hm1.out) (Or.inl ⟨by rfl, fun uu hu => by go_simp⟩) ?_
    try go_simp
    refine wpAnyX_both (T := fun uu => Below W0.heap.size W0 uu) (i := 15) (v := Value.slice (some ⟨ab, ao, none⟩) dn c) rfl (by kernel_rfl) (by kernel_rfl) (by kernel_rfl) (fun _ _ _ h => by first | exact h | exact h.elim) (by decide) (fun _ h => h.elim) (fun _ h => h) (Sx.behind (by kernel_rfl) hm1.out) (Or.inl ⟨by rfl, fun uu hu => by go_simp⟩) ?_
    try go_simp
    refine wpAnyX_both (T := fun uu => Below W0.heap.size W0 uu) (i := 16) (v := Value.agg #[Value.slice ua un uc]) rfl (by kernel_rfl) (by kernel_rfl) (by kernel_rfl) (fun _ _ _ h => by first | exact h | exact h.elim) (by decide) (fun _ h => h.elim) (fun _ h => h) (Sx.behind (by kernel_rfl) hm1.out) (Or.inl ⟨by rfl, fun uu hu => by have e0 := (kcell hu (b0 + 1) 0 l1).trans z1; go_simp⟩) ?_
    try go_simp
    refine wpAnyX_both (T := fun uu => Below W0.heap.size W0 uu) (i := 18) (v := Value.slice (some ⟨ab, ao, none⟩) dn c) rfl (by kernel_rfl) (by kernel_rfl) (by kernel_rfl) (fun _ _ _ h => by first | exact h | exact h.elim) (by decide) (fun _ h => h.elim) (fun _ h => h) (Sx.behind (by kernel_rfl) hm1.out) (Or.inl ⟨by rfl, fun uu hu => by go_simp⟩) ?_
    try go_simp
    refine wpAnyX_both (T := fun uu => Below W0.heap.size W0 uu) (i := 19) (v := Value.int .i64 (vn : Int)) rfl (by kernel_rfl) (by kernel_rfl) (by kernel_rfl) (fun _ _ _ h => by first | exact h | exact h.elim) (by decide) (fun _ h => h.elim) (fun _ h => h) (Sx.behind (by kernel_rfl) hm1.out) (Or.inl ⟨by rfl, fun uu hu => by go_simp⟩) ?_
    try go_simp
    refine wpAnyX_both (T := fun uu => Below W0.heap.size W0 uu) (i := 20) (v := Value.pointer (some ⟨ab, ao + vn * 2, none⟩)) rfl (by kernel_rfl) (by kernel_rfl) (by kernel_rfl) (fun _ _ _ h => by first | exact h | exact h.elim) (by decide) (fun _ h => h.elim) (fun _ h => h) (Sx.behind (by kernel_rfl) hm1.out) (Or.inl ⟨by rfl, fun uu hu => by go_simp⟩) ?_
    try go_simp
    refine wpAnyX_both (T := fun uu => Below W0.heap.size W0 uu) (i := 21) (v := Value.pointer (some ⟨ab, ao + vn * 2 + 1, none⟩)) rfl (by kernel_rfl) (by kernel_rfl) (by kernel_rfl) (fun _ _ _ h => by first | exact h | exact h.elim) (by decide) (fun _ h => h.elim) (fun _ h => h) (Sx.behind (by kernel_rfl) hm1.out) (Or.inl ⟨by rfl, fun uu hu => by go_simp⟩) ?_
    try go_simp
    refine wpAnyX_both (T := fun uu => Below W0.heap.size W0 uu) (i := 22) (v := Value.int .i64 dw) rfl (by kernel_rfl) (by kernel_rfl) (by kernel_rfl) (fun _ _ _ h => by first | exact h | exact h.elim) (by decide) (fun _ h => h.elim) (fun _ h => h) (Sx.behind (by kernel_rfl) hm1.out) (Or.inl ⟨by rfl, fun uu hu => by have e0 := HDA.out uu (B0.out.trans (hu.mono B0.out.size)); go_simp⟩) ?_
    try go_simp
    refine wpAnyX_ready (rs := [17]) (by kernel_rfl) (by simp) (AllX.cons rfl (fun K hK => ?_) AllX.nil)
    go_simp
    refine Calls.mono (HWU.out m1 (B0.out.trans (hm1.out.mono B0.out.size))) ?_
    rintro e m2 ⟨rfl, hb⟩
    have hm2 : Hid (Below W0.heap.size W0 m2) := hm1.out.trans (hb.mono hm1.out.size)
    refine hK _ _ (Sx.behind (by kernel_rfl) hm2.out) ?_
    clear hK K hb
    try go_simp
    refine wpAnyX_both (T := fun uu => Below W0.heap.size W0 uu) (i := 23) (v := Value.bool true) rfl (by kernel_rfl) (by kernel_rfl) (by kernel_rfl) (fun _ _ _ h => by first | exact h | exact h.elim) (by decide) (fun _ h => h.elim) (fun _ h => h) (Sx.behind (by kernel_rfl) hm2.out) (Or.inl ⟨by rfl, fun uu hu => by go_simp⟩) ?_
    try go_simp
    refine wpAnyX_both (T := fun uu => Below W0.heap.size W0 uu) (i := 24) (v := Value.bool true) rfl (by kernel_rfl) (by kernel_rfl) (by kernel_rfl) (fun _ _ _ h => by first | exact h | exact h.elim) (by decide) (fun _ h => h.elim) (fun _ h => h) (Sx.behind (by kernel_rfl) hm2.out) (Or.inl ⟨by rfl, fun uu hu => by go_simp⟩) ?_
    try go_simp
    refine wpAnyX_done (by kernel_rfl) ?_ _
    have B1 := kide (B0.out.trans (hm2.out.mono B0.out.size))
    have XT1 := kide (X0.out.later hm2.out)
    have XU1 := kide (X1.out.later hm2.out)
    have XR1 := kide (X2.out.later hm2.out)
    generalize m2 = w1 at *
    have d0 := XR1.out.cell 0
    have f0 := XR1.out.froz 0
    simp at d0
    have B9 : Hid (Below w.heap.size w (w1.setCell ⟨b0 + 2, 0, none⟩ (Value.slice none 0 0))) := B1.out.setCell (by simp only []; have := HB0.out; omega) _
    have y0 : (w1.setCell ⟨b0 + 2, 0, none⟩ (Value.slice none 0 0)).cell? ⟨b0 + 2, 0, none⟩ = some (Value.slice none 0 0) := (XR1.out.set 0 _).cell 0
    have Y0 := kide y0
    clear y0
    go_wp2_with fail
    have y0 := Y0.out
    rw [hR]
    first
      | exact bodyPost_ret (v := .tuple #[.agg #[.slice none 0 0], .bool false]) (by simp [results, Tryz.results9, go_sem, y0]) rfl ⟨.slice none 0 0, [], rfl, Ts.nil _ _, rfl, B9.out⟩
      | exact bodyPost_ret (v := .tuple #[.agg #[.slice none 0 0], .bool false]) (by simp [results, Tryz.results9, go_sem, d0]) rfl ⟨.slice none 0 0, [], rfl, Ts.nil _ _, rfl, B1.out⟩
  have hD := Classical.not_not.1 hD'
  clear hD'
  subst hD
  have hne : (Wu != Wu) = false := by simp
  have HRT := kide HCL.out.2
  have HRU := kide (wid_dcl (ns := us.map Tg.ct) (by rw [HEu.out]; have := HD1.out; omega)).2
  clear hWt hWu
  cases hvi : vIn (vn : Int) (ts.map Tg.ct) with
  | false =>
    rw [hvi] at HVI
    go_enter Tryz.func9, Tryz.ntmps9
    go_wp2_with fail
    simp only [show w.heap.size + 1 + 1 = w.heap.size + 2 from rfl]
    generalize ((w.alloc (Obj.cells #[Value.slice ta tn tc] 30)).alloc (Obj.cells #[Value.slice ua un uc] 30)).alloc (Obj.cells #[Value.slice none 0 0] 30) = W0 at *
    obtain ⟨b0, hb0⟩ : ∃ b0, w.heap.size = b0 := ⟨_, rfl⟩
    have HB0 := kide hb0
    rw [hb0] at X0 X1 X2
    simp only [hb0]
    clear hb0
    have z0 := X0.out.cell 0
    have z1 := X1.out.cell 0
    simp at z0 z1
    have l0 := X0.out.lt
    have l1 := X1.out.lt
    refine wp_region_x (SA := fun _ => False) (SB := fun uu => Below W0.heap.size W0 uu) (k := 999) (by kernel_rfl) ?_
    have hm0 : Hid (Below W0.heap.size W0 W0.drew) := (Below.refl _ _).drew
    generalize W0.drew = m0 at *
    try go_simp
    refine wpAnyX_both (T := fun uu => Below W0.heap.size W0 uu) (i := 0) (v := Value.slice (some ⟨ab, ao, none⟩) dn c) rfl (by kernel_rfl) (by kernel_rfl) (by kernel_rfl) (fun _ _ _ h => by first | exact h | exact h.elim) (by decide) (fun _ h => h.elim) (fun _ h => h) (Sx.behind (by kernel_rfl) hm0.out) (Or.inl ⟨by rfl, fun uu hu => by go_simp⟩) ?_
    try go_simp
    refine wpAnyX_both (T := fun uu => Below W0.heap.size W0 uu) (i := 1) (v := Value.agg #[Value.slice ta tn tc]) rfl (by kernel_rfl) (by kernel_rfl) (by kernel_rfl) (fun _ _ _ h => by first | exact h | exact h.elim) (by decide) (fun _ h => h.elim) (fun _ h => h) (Sx.behind (by kernel_rfl) hm0.out) (Or.inl ⟨by rfl, fun uu hu => by have e0 := (kcell hu b0 0 l0).trans z0; go_simp⟩) ?_
    try go_simp
    refine wpAnyX_ready (rs := [2]) (by kernel_rfl) (by simp) (AllX.cons rfl (fun K hK => ?_) AllX.nil)
    go_simp
    refine Calls.mono (HWT.out m0 (B0.out.trans (hm0.out.mono B0.out.size))) ?_
    rintro e m1 ⟨rfl, hb⟩
    have hm1 : Hid (Below W0.heap.size W0 m1) := hm0.out.trans (hb.mono hm0.out.size)
    refine hK _ _ (Sx.behind (by kernel_rfl) hm1.out) ?_
    clear hK K hb
    try go_simp
    refine wpAnyX_both (T := fun uu => Below W0.heap.size W0 uu) (i := 3) (v := Value.bool false) rfl (by kernel_rfl) (by kernel_rfl) (by kernel_rfl) (fun _ _ _ h => by first | exact h | exact h.elim) (by decide) (fun _ h => h.elim) (fun _ h => h) (Sx.behind (by kernel_rfl) hm1.out) (Or.inl ⟨by rfl, fun uu hu => by go_simp⟩) ?_
    try go_simp
    refine wpAnyX_both (T := fun uu => Below W0.heap.size W0 uu) (i := 4) (v := Value.bool false) rfl (by kernel_rfl) (by kernel_rfl) (by kernel_rfl) (fun _ _ _ h => by first | exact h | exact h.elim) (by decide) (fun _ h => h.elim) (fun _ h => h) (Sx.behind (by kernel_rfl) hm1.out) (Or.inl ⟨by rfl, fun uu hu => by go_simp⟩) ?_
    try go_simp
    refine wpAnyX_both (T := fun uu => Below W0.heap.size W0 uu) (i := 5) (v := Value.int .i64 (vn : Int)) rfl (by kernel_rfl) (by kernel_rfl) (by kernel_rfl) (fun _ _ _ h => by first | exact h | exact h.elim) (by decide) (fun _ h => h.elim) (fun _ h => h) (Sx.behind (by kernel_rfl) hm1.out) (Or.inl ⟨by rfl, fun uu hu => by go_simp⟩) ?_
    try go_simp
    refine wpAnyX_both (T := fun uu => Below W0.heap.size W0 uu) (i := 6) (v := Value.bool false) rfl (by kernel_rfl) (by kernel_rfl) (by kernel_rfl) (fun _ _ _ h => by first | exact h | exact h.elim) (by decide) (fun _ h => h.elim) (fun _ h => h) (Sx.behind (by kernel_rfl) hm1.out) (Or.inl ⟨by rfl, fun uu hu => by go_simp⟩) ?_
    try go_simp
    refine wpAnyX_both (T := fun uu => Below W0.heap.size W0 uu) (i := 7) (v := Value.bool false) rfl (by kernel_rfl) (by kernel_rfl) (by kernel_rfl) (fun _ _ _ h => by first | exact h | exact h.elim) (by decide) (fun _ h => h.elim) (fun _ h => h) (Sx.behind (by kernel_rfl) hm1.out) (Or.inl ⟨by rfl, fun uu hu => by go_simp⟩) ?_
    try go_simp
    refine wpAnyX_both (T := fun uu => Below W0.heap.size W0 uu) (i := 8) (v := Value.bool false) rfl (by kernel_rfl) (by kernel_rfl) (by kernel_rfl) (fun _ _ _ h => by first | exact h | exact h.elim) (by decide) (fun _ h => h.elim) (fun _ h => h) (Sx.behind (by kernel_rfl) hm1.out) (Or.inl ⟨by rfl, fun uu hu => by go_simp⟩) ?_
    try go_simp
    refine wpAnyX_both (T := fun uu => Below W0.heap.size W0 uu) (i := 9) (v := Value.int .i64 (vn : Int)) rfl (by kernel_rfl) (by kernel_rfl) (by kernel_rfl) (fun _ _ _ h => by first | exact h | exact h.elim) (by decide) (fun _ h => h.elim) (fun _ h => h) (Sx.behind (by kernel_rfl) hm1.out) (Or.inl ⟨by rfl, fun uu hu => by go_simp⟩) ?_
    try go_simp
    refine wpAnyX_both (T := fun uu => Below W0.heap.size W0 uu) (i := 10) (v := Value.slice (some ⟨ab, ao, none⟩) dn c) rfl (by kernel_rfl) (by kernel_rfl) (by kernel_rfl) (fun _ _ _ h => by first | exact h | exact h.elim) (by decide) (fun _ h => h.elim) (fun _ h => h) (Sx.behind (by kernel_rfl) hm1.out) (Or.inl ⟨by rfl, fun uu hu => by go_simp⟩) ?_
    try go_simp
    refine wpAnyX_both (T := fun uu => Below W0.heap.size W0 uu) (i := 11) (v := Value.int .i64 (dn : Int)) rfl (by kernel_rfl) (by kernel_rfl) (by kernel_rfl) (fun _ _ _ h => by first | exact h | exact h.elim) (by decide) (fun _ h => h.elim) (fun _ h => h) (Sx.behind (by kernel_rfl) hm1.out) (Or.inl ⟨by rfl, fun uu hu => by go_simp⟩) ?_
    try go_simp
    refine wpAnyX_both (T := fun uu => Below W0.heap.size W0 uu) (i := 12) (v := Value.bool false) rfl (by kernel_rfl) (by kernel_rfl) (by kernel_rfl) (fun _ _ _ h => by first | exact h | exact h.elim) (by decide) (fun _ h => h.elim) (fun _ h => h) (Sx.behind (by kernel_rfl) hm1.out) (Or.inl ⟨by rfl, fun uu hu => by first | (go_simp; omega) | go_simp⟩) ?_
    try go_simp
    refine wpAnyX_both (T := fun uu => Below W0.heap.size W0 uu) (i := 13) (v := Value.bool false) rfl (by kernel_rfl) (by kernel_rfl) (by kernel_rfl) (fun _ _ _ h => by first | exact h | exact h.elim) (by decide) (fun _ h => h.elim) (fun _ h => h) (Sx.behind (by kernel_rfl) hm1.out) (Or.inl ⟨by rfl, fun uu hu => by go_simp⟩) ?_
    try go_simp
    refine wpAnyX_both (T := fun uu => Below W0.heap.size W0 uu) (i := 14) (v := Value.bool false) rfl (by kernel_rfl) (by kernel_rfl) (by kernel_rfl) (fun _ _ _ h => by first | exact h | exact h.elim) (by decide) (fun _ h => h.elim) (fun _ h => h) (Sx.behind (by kernel_rfl) hm1.out) (Or.inl ⟨by rfl, fun uu hu => by go_simp⟩) ?_
    try go_simp
    refine wpAnyX_both (T := fun uu => Below W0.heap.size W0 uu) (i := 15) (v := Value.slice (some ⟨ab, ao, none⟩) dn c) rfl (by kernel_rfl) (by kernel_rfl) (by kernel_rfl) (fun _ _ _ h => by first | exact h | exact h.elim) (by decide) (fun _ h => h.elim) (fun _ h => h) (Sx.behind (by kernel_rfl) hm1.out) (Or.inl ⟨by rfl, fun uu hu => by go_simp⟩) ?_
    try go_simp
    refine wpAnyX_both (T := fun uu => Below W0.heap.size W0 uu) (i := 16) (v := Value.agg #[Value.slice ua un uc]) rfl (by kernel_rfl) (by kernel_rfl) (by kernel_rfl) (fun _ _ _ h => by first | exact h | exact h.elim) (by decide) (fun _ h => h.elim) (fun _ h => h) (Sx.behind (by kernel_rfl) hm1.out) (Or.inl ⟨by rfl, fun uu hu => by have e0 := (kcell hu (b0 + 1) 0 l1).trans z1; go_simp⟩) ?_
    try go_simp
    refine wpAnyX_both (T := fun uu => Below W0.heap.size W0 uu) (i := 18) (v := Value.slice (some ⟨ab, ao, none⟩) dn c) rfl (by kernel_rfl) (by kernel_rfl) (by kernel_rfl) (fun _ _ _ h => by first | exact h | exact h.elim) (by decide) (fun _ h => h.elim) (fun _ h => h) (Sx.behind (by kernel_rfl) hm1.out) (Or.inl ⟨by rfl, fun uu hu => by go_simp⟩) ?_
    try go_simp
    refine wpAnyX_both (T := fun uu => Below W0.heap.size W0 uu) (i := 19) (v := Value.int .i64 (vn : Int)) rfl (by kernel_rfl) (by kernel_rfl) (by kernel_rfl) (fun _ _ _ h => by first | exact h | exact h.elim) (by decide) (fun _ h => h.elim) (fun _ h => h) (Sx.behind (by kernel_rfl) hm1.out) (Or.inl ⟨by rfl, fun uu hu => by go_simp⟩) ?_
    try go_simp
    refine wpAnyX_both (T := fun uu => Below W0.heap.size W0 uu) (i := 20) (v := Value.pointer (some ⟨ab, ao + vn * 2, none⟩)) rfl (by kernel_rfl) (by kernel_rfl) (by kernel_rfl) (fun _ _ _ h => by first | exact h | exact h.elim) (by decide) (fun _ h => h.elim) (fun _ h => h) (Sx.behind (by kernel_rfl) hm1.out) (Or.inl ⟨by rfl, fun uu hu => by go_simp⟩) ?_
    try go_simp
    refine wpAnyX_both (T := fun uu => Below W0.heap.size W0 uu) (i := 21) (v := Value.pointer (some ⟨ab, ao + vn * 2 + 1, none⟩)) rfl (by kernel_rfl) (by kernel_rfl) (by kernel_rfl) (fun _ _ _ h => by first | exact h | exact h.elim) (by decide) (fun _ h => h.elim) (fun _ h => h) (Sx.behind (by kernel_rfl) hm1.out) (Or.inl ⟨by rfl, fun uu hu => by go_simp⟩) ?_
    try go_simp
    refine wpAnyX_both (T := fun uu => Below W0.heap.size W0 uu) (i := 22) (v := Value.int .i64 Wu) rfl (by kernel_rfl) (by kernel_rfl) (by kernel_rfl) (fun _ _ _ h => by first | exact h | exact h.elim) (by decide) (fun _ h => h.elim) (fun _ h => h) (Sx.behind (by kernel_rfl) hm1.out) (Or.inl ⟨by rfl, fun uu hu => by have e0 := HDA.out uu (B0.out.trans (hu.mono B0.out.size)); go_simp⟩) ?_
    try go_simp
    refine wpAnyX_ready (rs := [17]) (by kernel_rfl) (by simp) (AllX.cons rfl (fun K hK => ?_) AllX.nil)
    go_simp
    refine Calls.mono (HWU.out m1 (B0.out.trans (hm1.out.mono B0.out.size))) ?_
    rintro e m2 ⟨rfl, hb⟩
    have hm2 : Hid (Below W0.heap.size W0 m2) := hm1.out.trans (hb.mono hm1.out.size)
    refine hK _ _ (Sx.behind (by kernel_rfl) hm2.out) ?_
    clear hK K hb
    try go_simp
    refine wpAnyX_both (T := fun uu => Below W0.heap.size W0 uu) (i := 23) (v := Value.bool false) rfl (by kernel_rfl) (by kernel_rfl) (by kernel_rfl) (fun _ _ _ h => by first | exact h | exact h.elim) (by decide) (fun _ h => h.elim) (fun _ h => h) (Sx.behind (by kernel_rfl) hm2.out) (Or.inl ⟨by rfl, fun uu hu => by go_simp⟩) ?_
    try go_simp
    refine wpAnyX_both (T := fun uu => Below W0.heap.size W0 uu) (i := 24) (v := Value.bool false) rfl (by kernel_rfl) (by kernel_rfl) (by kernel_rfl) (fun _ _ _ h => by first | exact h | exact h.elim) (by decide) (fun _ h => h.elim) (fun _ h => h) (Sx.behind (by kernel_rfl) hm2.out) (Or.inl ⟨by rfl, fun uu hu => by go_simp⟩) ?_
    try go_simp
    refine wpAnyX_done (by kernel_rfl) ?_ _
    have B1 := kide (B0.out.trans (hm2.out.mono B0.out.size))
    have XT1 := kide (X0.out.later hm2.out)
    have XU1 := kide (X1.out.later hm2.out)
    have XR1 := kide (X2.out.later hm2.out)
    generalize m2 = w1 at *
    have d0 := XR1.out.cell 0
    have f0 := XR1.out.froz 0
    simp at d0
    have c0 := XT1.out.cell 0
    have HVL := kide (varsR_lenR ds (ts.map Tg.ct))
    simp at c0
    go_wp2_with fail
    refine Calls.mono (HVA.out w1 B1.out) ?_
    rintro e w2 ⟨v2, rfl, ho2, hb2⟩
    obtain ⟨a2, c2, rfl, hr2⟩ := ho2.rd (Nat.le_trans HVL.out.1 (by decide)) HVL.out.2
    have HCO := kide (containsI_any (vn : Int) a2 c2 _ _ w2 hr2 rfl)
    rw [HVI.out] at HCO
    have B2 := kide (B1.out.trans (hb2.mono B1.out.size))
    have XT2 := kide (XT1.out.later hb2)
    have XU2 := kide (XU1.out.later hb2)
    have XR2 := kide (XR1.out.later hb2)
    generalize (varsR ds (ts.map Tg.ct)).length = nv at *
    clear hr2 ho2 hb2 XT1 XU1 XR1 B1 d0 f0 c0 HVA
    go_wp2_with fail
    refine Calls.mono HCO.out ?_
    rintro e w3 ⟨rfl, hw3⟩
    obtain rfl := hw3.symm
    have c0 := XT2.out.cell 0
    have c1 := XU2.out.cell 0
    simp at c0 c1
    clear hw3 HCO
    have hsh : shR ds (ts.map Tg.ct) = repC (vn : Int) (us.map Tg.ct) (ts.map Tg.ct) := by
      unfold shR repC
      rw [if_neg HRT.out, hvi]
      simp
    have hlen := (rep_core (v := (vn : Int)) HRU.out HRT.out).2.2.2.2.2 hvi
    rw [hsh] at HSA
    have hR : R = (repC (vn : Int) (us.map Tg.ct) (ts.map Tg.ct), true) := by rw [← HR.out]; unfold repR; rw [HOKV.out, if_pos (by simp), if_pos hlen]
    generalize repC (vn : Int) (us.map Tg.ct) (ts.map Tg.ct) = CC at *
    clear hsh hlen hvi hne
    go_wp2_with fail
    refine Calls.mono (HSA.out w2 B2.out) ?_
    rintro e w4 ⟨v4, l4, rfl, hts4, he4, hb4⟩
    have B4 := kide (B2.out.trans (hb4.mono B2.out.size))
    have XR4 := kide (XR2.out.later hb4)
    have TS4 := kide (hts4.mono B2.out.size)
    have E4 := kide he4
    obtain ⟨va, vc, rfl⟩ := hts4.form
    obtain ⟨cl, hcl⟩ : ∃ cl, l4.length = cl := ⟨_, rfl⟩
    rw [hcl] at TS4
    simp only [hcl]
    have d4 := XR4.out.cell 0
    have f4 := XR4.out.froz 0
    simp at d4
    have B9 : Hid (Below w.heap.size w (w4.setCell ⟨b0 + 2, 0, none⟩ (Value.slice va cl vc))) := B4.out.setCell (by simp only []; have := HB0.out; omega) _
    have y0 : (w4.setCell ⟨b0 + 2, 0, none⟩ (Value.slice va cl vc)).cell? ⟨b0 + 2, 0, none⟩ = some (Value.slice va cl vc) := (XR4.out.set 0 _).cell 0
    have Y0 := kide y0
    have T9 : Hid (Ts (w4.setCell ⟨b0 + 2, 0, none⟩ (Value.slice va cl vc)) w.heap.size (.slice va cl vc) l4) := ts_setH TS4.out XR4.out (by decide) (by decide) (by decide) 0 _
    clear y0 hb4 hts4 he4 hcl
    go_wp2_with fail
    have y0 := Y0.out
    rw [hR]
    exact bodyPost_ret (v := .tuple #[.agg #[.slice va cl vc], .bool true]) (by simp [results, Tryz.results9, go_sem, y0]) rfl ⟨.slice va cl vc, l4, rfl, T9.out, E4.out, B9.out⟩
  | true =>
    rw [hvi] at HVI
    go_enter Tryz.func9, Tryz.ntmps9
    go_wp2_with fail
    simp only [show w.heap.size + 1 + 1 = w.heap.size + 2 from rfl]
    generalize ((w.alloc (Obj.cells #[Value.slice ta tn tc] 30)).alloc (Obj.cells #[Value.slice ua un uc] 30)).alloc (Obj.cells #[Value.slice none 0 0] 30) = W0 at *
    obtain ⟨b0, hb0⟩ : ∃ b0, w.heap.size = b0 := ⟨_, rfl⟩
    have HB0 := kide hb0
    rw [hb0] at X0 X1 X2
    simp only [hb0]
    clear hb0
    have z0 := X0.out.cell 0
    have z1 := X1.out.cell 0
    simp at z0 z1
    have l0 := X0.out.lt
    have l1 := X1.out.lt
    refine wp_region_x (SA := fun _ => False) (SB := fun uu => Below W0.heap.size W0 uu) (k := 999) (by kernel_rfl) ?_
    have hm0 : Hid (Below W0.heap.size W0 W0.drew) := (Below.refl _ _).drew
    generalize W0.drew = m0 at *
    try go_simp
    refine wpAnyX_both (T := fun uu => Below W0.heap.size W0 uu) (i := 0) (v := Value.slice (some ⟨ab, ao, none⟩) dn c) rfl (by kernel_rfl) (by kernel_rfl) (by kernel_rfl) (fun _ _ _ h => by first | exact h | exact h.elim) (by decide) (fun _ h => h.elim) (fun _ h => h) (Sx.behind (by kernel_rfl) hm0.out) (Or.inl ⟨by rfl, fun uu hu => by go_simp⟩) ?_
    try go_simp
    refine wpAnyX_both (T := fun uu => Below W0.heap.size W0 uu) (i := 1) (v := Value.agg #[Value.slice ta tn tc]) rfl (by kernel_rfl) (by kernel_rfl) (by kernel_rfl) (fun _ _ _ h => by first | exact h | exact h.elim) (by decide) (fun _ h => h.elim) (fun _ h => h) (Sx.behind (by kernel_rfl) hm0.out) (Or.inl ⟨by rfl, fun uu hu => by have e0 := (kcell hu b0 0 l0).trans z0; go_simp⟩) ?_
    try go_simp
    refine wpAnyX_ready (rs := [2]) (by kernel_rfl) (by simp) (AllX.cons rfl (fun K hK => ?_) AllX.nil)
    go_simp
    refine Calls.mono (HWT.out m0 (B0.out.trans (hm0.out.mono B0.out.size))) ?_
    rintro e m1 ⟨rfl, hb⟩
    have hm1 : Hid (Below W0.heap.size W0 m1) := hm0.out.trans (hb.mono hm0.out.size)
    refine hK _ _ (Sx.behind (by kernel_rfl) hm1.out) ?_
    clear hK K hb
    try go_simp
    refine wpAnyX_both (T := fun uu => Below W0.heap.size W0 uu) (i := 3) (v := Value.bool false) rfl (by kernel_rfl) (by kernel_rfl) (by kernel_rfl) (fun _ _ _ h => by first | exact h | exact h.elim) (by decide) (fun _ h => h.elim) (fun _ h => h) (Sx.behind (by kernel_rfl) hm1.out) (Or.inl ⟨by rfl, fun uu hu => by go_simp⟩) ?_
    try go_simp
    refine wpAnyX_both (T := fun uu => Below W0.heap.size W0 uu) (i := 4) (v := Value.bool false) rfl (by kernel_rfl) (by kernel_rfl) (by kernel_rfl) (fun _ _ _ h => by first | exact h | exact h.elim) (by decide) (fun _ h => h.elim) (fun _ h => h) (Sx.behind (by kernel_rfl) hm1.out) (Or.inl ⟨by rfl, fun uu hu => by go_simp⟩) ?_
    try go_simp
    refine wpAnyX_both (T := fun uu => Below W0.heap.size W0 uu) (i := 5) (v := Value.int .i64 (vn : Int)) rfl (by kernel_rfl) (by kernel_rfl) (by kernel_rfl) (fun _ _ _ h => by first | exact h | exact h.elim) (by decide) (fun _ h => h.elim) (fun _ h => h) (Sx.behind (by kernel_rfl) hm1.out) (Or.inl ⟨by rfl, fun uu hu => by go_simp⟩) ?_
    try go_simp
    refine wpAnyX_both (T := fun uu => Below W0.heap.size W0 uu) (i := 6) (v := Value.bool false) rfl (by kernel_rfl) (by kernel_rfl) (by kernel_rfl) (fun _ _ _ h => by first | exact h | exact h.elim) (by decide) (fun _ h => h.elim) (fun _ h => h) (Sx.behind (by kernel_rfl) hm1.out) (Or.inl ⟨by rfl, fun uu hu => by go_simp⟩) ?_
    try go_simp
    refine wpAnyX_both (T := fun uu => Below W0.heap.size W0 uu) (i := 7) (v := Value.bool false) rfl (by kernel_rfl) (by kernel_rfl) (by kernel_rfl) (fun _ _ _ h => by first | exact h | exact h.elim) (by decide) (fun _ h => h.elim) (fun _ h => h) (Sx.behind (by kernel_rfl) hm1.out) (Or.inl ⟨by rfl, fun uu hu => by go_simp⟩) ?_
    try go_simp
    refine wpAnyX_both (T := fun uu => Below W0.heap.size W0 uu) (i := 8) (v := Value.bool false) rfl (by kernel_rfl) (by kernel_rfl) (by kernel_rfl) (fun _ _ _ h => by first | exact h | exact h.elim) (by decide) (fun _ h => h.elim) (fun _ h => h) (Sx.behind (by kernel_rfl) hm1.out) (Or.inl ⟨by rfl, fun uu hu => by go_simp⟩) ?_
    try go_simp
    refine wpAnyX_both (T := fun uu => Below W0.heap.size W0 uu) (i := 9) (v := Value.int .i64 (vn : Int)) rfl (by kernel_rfl) (by kernel_rfl) (by kernel_rfl) (fun _ _ _ h => by first | exact h | exact h.elim) (by decide) (fun _ h => h.elim) (fun _ h => h) (Sx.behind (by kernel_rfl) hm1.out) (Or.inl ⟨by rfl, fun uu hu => by go_simp⟩) ?_
    try go_simp
    refine wpAnyX_both (T := fun uu => Below W0.heap.size W0 uu) (i := 10) (v := Value.slice (some ⟨ab, ao, none⟩) dn c) rfl (by kernel_rfl) (by kernel_rfl) (by kernel_rfl) (fun _ _ _ h => by first | exact h | exact h.elim) (by decide) (fun _ h => h.elim) (fun _ h => h) (Sx.behind (by kernel_rfl) hm1.out) (Or.inl ⟨by rfl, fun uu hu => by go_simp⟩) ?_
    try go_simp
    refine wpAnyX_both (T := fun uu => Below W0.heap.size W0 uu) (i := 11) (v := Value.int .i64 (dn : Int)) rfl (by kernel_rfl) (by kernel_rfl) (by kernel_rfl) (fun _ _ _ h => by first | exact h | exact h.elim) (by decide) (fun _ h => h.elim) (fun _ h => h) (Sx.behind (by kernel_rfl) hm1.out) (Or.inl ⟨by rfl, fun uu hu => by go_simp⟩) ?_
    try go_simp
    refine wpAnyX_both (T := fun uu => Below W0.heap.size W0 uu) (i := 12) (v := Value.bool false) rfl (by kernel_rfl) (by kernel_rfl) (by kernel_rfl) (fun _ _ _ h => by first | exact h | exact h.elim) (by decide) (fun _ h => h.elim) (fun _ h => h) (Sx.behind (by kernel_rfl) hm1.out) (Or.inl ⟨by rfl, fun uu hu => by first | (go_simp; omega) | go_simp⟩) ?_
    try go_simp
    refine wpAnyX_both (T := fun uu => Below W0.heap.size W0 uu) (i := 13) (v := Value.bool false) rfl (by kernel_rfl) (by kernel_rfl) (by kernel_rfl) (fun _ _ _ h => by first | exact h | exact h.elim) (by decide) (fun _ h => h.elim) (fun _ h => h) (Sx.behind (by kernel_rfl) hm1.out) (Or.inl ⟨by rfl, fun uu hu => by go_simp⟩) ?_
    try go_simp
    refine wpAnyX_both (T := fun uu => Below W0.heap.size W0 uu) (i := 14) (v := Value.bool false) rfl (by kernel_rfl) (by kernel_rfl) (by kernel_rfl) (fun _ _ _ h => by first | exact h | exact h.elim) (by decide) (fun _ h => h.elim) (fun _ h => h) (Sx.behind (by kernel_rfl) hm1.out) (Or.inl ⟨by rfl, fun uu hu => by go_simp⟩) ?_
    try go_simp
    refine wpAnyX_both (T := fun uu => Below W0.heap.size W0 uu) (i := 15) (v := Value.slice (some ⟨ab, ao, none⟩) dn c) rfl (by kernel_rfl) (by kernel_rfl) (by kernel_rfl) (fun _ _ _ h => by first | exact h | exact h.elim) (by decide) (fun _ h => h.elim) (fun _ h => h) (Sx.behind (by kernel_rfl) hm1.out) (Or.inl ⟨by rfl, fun uu hu => by go_simp⟩) ?_
    try go_simp
    refine wpAnyX_both (T := fun uu => Below W0.heap.size W0 uu) (i := 16) (v := Value.agg #[Value.slice ua un uc]) rfl (by kernel_rfl) (by kernel_rfl) (by kernel_rfl) (fun _ _ _ h => by first | exact h | exact h.elim) (by decide) (fun _ h => h.elim) (fun _ h => h) (Sx.behind (by kernel_rfl) hm1.out) (Or.inl ⟨by rfl, fun uu hu => by have e0 := (kcell hu (b0 + 1) 0 l1).trans z1; go_simp⟩) ?_
    try go_simp
    refine wpAnyX_both (T := fun uu => Below W0.heap.size W0 uu) (i := 18) (v := Value.slice (some ⟨ab, ao, none⟩) dn c) rfl (by kernel_rfl) (by kernel_rfl) (by kernel_rfl) (fun _ _ _ h => by first | exact h | exact h.elim) (by decide) (fun _ h => h.elim) (fun _ h => h) (Sx.behind (by kernel_rfl) hm1.out) (Or.inl ⟨by rfl, fun uu hu => by go_simp⟩) ?_
    try go_simp
    refine wpAnyX_both (T := fun uu => Below W0.heap.size W0 uu) (i := 19) (v := Value.int .i64 (vn : Int)) rfl (by kernel_rfl) (by kernel_rfl) (by kernel_rfl) (fun _ _ _ h => by first | exact h | exact h.elim) (by decide) (fun _ h => h.elim) (fun _ h => h) (Sx.behind (by kernel_rfl) hm1.out) (Or.inl ⟨by rfl, fun uu hu => by go_simp⟩) ?_
    try go_simp
    refine wpAnyX_both (T := fun uu => Below W0.heap.size W0 uu) (i := 20) (v := Value.pointer (some ⟨ab, ao + vn * 2, none⟩)) rfl (by kernel_rfl) (by kernel_rfl) (by kernel_rfl) (fun _ _ _ h => by first | exact h | exact h.elim) (by decide) (fun _ h => h.elim) (fun _ h => h) (Sx.behind (by kernel_rfl) hm1.out) (Or.inl ⟨by rfl, fun uu hu => by go_simp⟩) ?_
    try go_simp
    refine wpAnyX_both (T := fun uu => Below W0.heap.size W0 uu) (i := 21) (v := Value.pointer (some ⟨ab, ao + vn * 2 + 1, none⟩)) rfl (by kernel_rfl) (by kernel_rfl) (by kernel_rfl) (fun _ _ _ h => by first | exact h | exact h.elim) (by decide) (fun _ h => h.elim) (fun _ h => h) (Sx.behind (by kernel_rfl) hm1.out) (Or.inl ⟨by rfl, fun uu hu => by go_simp⟩) ?_
    try go_simp
    refine wpAnyX_both (T := fun uu => Below W0.heap.size W0 uu) (i := 22) (v := Value.int .i64 Wu) rfl (by kernel_rfl) (by kernel_rfl) (by kernel_rfl) (fun _ _ _ h => by first | exact h | exact h.elim) (by decide) (fun _ h => h.elim) (fun _ h => h) (Sx.behind (by kernel_rfl) hm1.out) (Or.inl ⟨by rfl, fun uu hu => by have e0 := HDA.out uu (B0.out.trans (hu.mono B0.out.size)); go_simp⟩) ?_
    try go_simp
    refine wpAnyX_ready (rs := [17]) (by kernel_rfl) (by simp) (AllX.cons rfl (fun K hK => ?_) AllX.nil)
    go_simp
    refine Calls.mono (HWU.out m1 (B0.out.trans (hm1.out.mono B0.out.size))) ?_
    rintro e m2 ⟨rfl, hb⟩
    have hm2 : Hid (Below W0.heap.size W0 m2) := hm1.out.trans (hb.mono hm1.out.size)
    refine hK _ _ (Sx.behind (by kernel_rfl) hm2.out) ?_
    clear hK K hb
    try go_simp
    refine wpAnyX_both (T := fun uu => Below W0.heap.size W0 uu) (i := 23) (v := Value.bool false) rfl (by kernel_rfl) (by kernel_rfl) (by kernel_rfl) (fun _ _ _ h => by first | exact h | exact h.elim) (by decide) (fun _ h => h.elim) (fun _ h => h) (Sx.behind (by kernel_rfl) hm2.out) (Or.inl ⟨by rfl, fun uu hu => by go_simp⟩) ?_
    try go_simp
    refine wpAnyX_both (T := fun uu => Below W0.heap.size W0 uu) (i := 24) (v := Value.bool false) rfl (by kernel_rfl) (by kernel_rfl) (by kernel_rfl) (fun _ _ _ h => by first | exact h | exact h.elim) (by decide) (fun _ h => h.elim) (fun _ h => h) (Sx.behind (by kernel_rfl) hm2.out) (Or.inl ⟨by rfl, fun uu hu => by go_simp⟩) ?_
    try go_simp
    refine wpAnyX_done (by kernel_rfl) ?_ _
    have B1 := kide (B0.out.trans (hm2.out.mono B0.out.size))
    have XT1 := kide (X0.out.later hm2.out)
    have XU1 := kide (X1.out.later hm2.out)
    have XR1 := kide (X2.out.later hm2.out)
    generalize m2 = w1 at *
    have d0 := XR1.out.cell 0
    have f0 := XR1.out.froz 0
    simp at d0
    have c0 := XT1.out.cell 0
    have HVL := kide (varsR_lenR ds (ts.map Tg.ct))
    simp at c0
    go_wp2_with fail
    refine Calls.mono (HVA.out w1 B1.out) ?_
    rintro e w2 ⟨v2, rfl, ho2, hb2⟩
    obtain ⟨a2, c2, rfl, hr2⟩ := ho2.rd (Nat.le_trans HVL.out.1 (by decide)) HVL.out.2
    have HCO := kide (containsI_any (vn : Int) a2 c2 _ _ w2 hr2 rfl)
    rw [HVI.out] at HCO
    have B2 := kide (B1.out.trans (hb2.mono B1.out.size))
    have XT2 := kide (XT1.out.later hb2)
    have XU2 := kide (XU1.out.later hb2)
    have XR2 := kide (XR1.out.later hb2)
    generalize (varsR ds (ts.map Tg.ct)).length = nv at *
    clear hr2 ho2 hb2 XT1 XU1 XR1 B1 d0 f0 c0 HVA
    go_wp2_with fail
    refine Calls.mono HCO.out ?_
    rintro e w3 ⟨rfl, hw3⟩
    obtain rfl := hw3.symm
    have c0 := XT2.out.cell 0
    have c1 := XU2.out.cell 0
    simp at c0 c1
    clear hw3 HCO
    obtain ⟨u1, u4, -, ua1⟩ := right_kids HRU.out
    obtain ⟨t1, t4, -, ta1⟩ := right_kids HRT.out
    have HND := right_node HRT.out
    have HNU := right_node HRU.out
    have hovT : ∀ m ∈ ts.map Tg.ct, okV m.bw m.ws := fun m hm => node_okV (HND m hm).1 (HND m hm).2 (HT0.out.ok m hm)
    have hovU : ∀ m ∈ us.map Tg.ct, okV m.bw m.ws := fun m hm => node_okV (HNU m hm).1 (HNU m hm).2 (HU0.out.ok m hm)
    have hnv : ∀ m ∈ us.map Tg.ct, isV (-1) m = false := fun m hm => by
      unfold isV
      by_cases ho : m.op = 1
      · simp [node_vr (HNU m hm).2 ho]
      · simp [ho]
    have hash := ar_sh (root := 0) hnv _ (Nat.le_refl _)
    have HSF := kide (shTo_f ua1 _ (Nat.le_refl _))
    have hul := u4
    have htl := t4
    rw [List.length_map, HUN.out] at u1 u4
    rw [List.length_map, HTN.out] at t1 t4
    have HA1 := kide (fun (s g : Nat) (u0 u : World) (hu0 : Below w.heap.size w u0) (hu : Below u0.heap.size u0 u) (ha : Ar u u0.heap.size s g (.slice none 0 0) (.map []) []) => addTermV_any s g (-1) 0 (.slice none 0 0) (.map []) [] [] rfl (by omega) (by simp) ua uc un us u0 u hu ha (HU0.out.later hu0) HUN.out HUS.out ua1 hovU u1 (by omega))
    unfold RetAv at HA1
    rw [hash] at HA1
    have HRG := HSF.out.rg _ (gD_lt (l := (shTo (us.map Tg.ct) (us.map Tg.ct).length).2) (i := (us.map Tg.ct).length - 1) (by rw [HSF.out.l2, List.length_map, HUN.out]; omega))
    have HL1 := HSF.out.l1
    have hR0 : R = if (repC (vn : Int) (us.map Tg.ct) (ts.map Tg.ct)).length ≤ 400 then (repC (vn : Int) (us.map Tg.ct) (ts.map Tg.ct), true) else ([], false) := by rw [← HR.out]; unfold repR; rw [HOKV.out, if_pos (by simp)]
    have hrc : repC (vn : Int) (us.map Tg.ct) (ts.map Tg.ct) = (arTo (vn : Int) ((shTo (us.map Tg.ct) (us.map Tg.ct).length).2.getD ((us.map Tg.ct).length - 1) 0) (shTo (us.map Tg.ct) (us.map Tg.ct).length).1 (ts.map Tg.ct) (ts.map Tg.ct).length).1 := by unfold repC; rw [if_pos hvi]
    obtain ⟨root, hroot⟩ : ∃ root, (shTo (us.map Tg.ct) (us.map Tg.ct).length).2.getD ((us.map Tg.ct).length - 1) 0 = root := ⟨_, rfl⟩
    obtain ⟨o1, ho1⟩ : ∃ o1, (shTo (us.map Tg.ct) (us.map Tg.ct).length).1 = o1 := ⟨_, rfl⟩
    rw [hroot, ho1] at HA1 hrc HRG
    rw [ho1] at HL1
    have HA2 := kide (fun (s g : Nat) (u0 u : World) (v0 : Value) (D0 : DataW Unit) (l0 : List Tg) (hl0 : l0.map Tg.ct = o1) (hu0 : Below w.heap.size w u0) (hu : Below u0.heap.size u0 u) (ha : Ar u u0.heap.size s g v0 D0 l0) => addTermV_any s g (vn : Int) root v0 D0 l0 o1 hl0 (by omega) (by omega) ta tc tn ts u0 u hu ha (HT0.out.later hu0) HTN.out HTS.out ta1 hovT t1 (by omega))
    unfold RetAv at HA2
    rw [← hrc] at HA2
    have HRR : Hid (R = if (repC (vn : Int) (us.map Tg.ct) (ts.map Tg.ct)).length ≤ 400 then (repC (vn : Int) (us.map Tg.ct) (ts.map Tg.ct), true) else ([], false)) := hR0
    generalize repC (vn : Int) (us.map Tg.ct) (ts.map Tg.ct) = CC at *
    generalize (arTo (vn : Int) root o1 (ts.map Tg.ct) (ts.map Tg.ct).length).2.getD ((ts.map Tg.ct).length - 1) 0 = last at *
    clear u1 u4 ua1 t1 t4 ta1 HND HNU hovT hovU hnv hash HSF hul htl HRG HL1 hR0 hrc hroot ho1 hvi hne
    go_wp2_with fail
    refine Calls.mono (newArena_any w2) ?_
    rintro e w4 ⟨s, g, rfl, har, hb4⟩
    have XT4 := kide (XT2.out.later hb4)
    have XU4 := kide (XU2.out.later hb4)
    have AR4 := kide har
    have HB4 := kide hb4
    have e0 := XT4.out.cell 0
    have e1 := XU4.out.cell 0
    simp at e0 e1
    clear har hb4 c0 c1
    go_wp2_with fail
    refine Calls.mono (HA1.out s g w2 w4 B2.out HB4.out AR4.out) ?_
    rintro e w5 ⟨v5, D5, l5, rfl, har, hel, hb5⟩
    have XT5 := kide (XT2.out.later hb5)
    have AR5 := kide har
    have HB5 := kide hb5
    have EL5 := kide hel
    have g0 := XT5.out.cell 0
    simp at g0
    clear har hel hb5 e0 e1 AR4 HB4 XT4 XU4 HA1
    go_wp2_with fail
    refine Calls.mono (HA2.out s g w2 w5 v5 D5 l5 EL5.out B2.out HB5.out AR5.out) ?_
    rintro e w6 ⟨v6, D6, l6, rfl, har, hel, hb6⟩
    have XR6 := kide (XR2.out.later hb6)
    have B6 := kide (B2.out.trans (hb6.mono B2.out.size))
    have TS6 := kide (har.ts.mono B2.out.size)
    have EL6 := kide hel
    have AB6 := kide har.box
    obtain ⟨va, vc, rfl⟩ := har.ts.form
    have hL6 : l6.length = CC.length := by rw [← hel, List.length_map]
    rw [hL6] at TS6 AB6
    obtain ⟨cl, hcl⟩ : ∃ cl, CC.length = cl := ⟨_, rfl⟩
    rw [hcl] at TS6 AB6 HRR
    have d1 := AB6.out.cell 0
    have d6 := XR6.out.cell 0
    have f6 := XR6.out.froz 0
    simp at d1 d6
    clear har hel hb6 g0 AR5 HB5 XT5 HA2 hL6 hcl
    by_cases h4 : (cl : Int) > 400
    · have hR : R = ([], false) := by rw [HRR.out, if_neg (by omega)]
      have B9 : Hid (Below w.heap.size w (w6.setCell ⟨b0 + 2, 0, none⟩ (Value.slice none 0 0))) := B6.out.setCell (by simp only []; have := HB0.out; omega) _
      have y0 : (w6.setCell ⟨b0 + 2, 0, none⟩ (Value.slice none 0 0)).cell? ⟨b0 + 2, 0, none⟩ = some (Value.slice none 0 0) := (XR6.out.set 0 _).cell 0
      have Y0 := kide y0
      clear y0
      go_wp2_with fail
      have y0 := Y0.out
      rw [hR]
      first
        | exact bodyPost_ret (v := .tuple #[.agg #[.slice none 0 0], .bool false]) (by simp [results, Tryz.results9, go_sem, y0]) rfl ⟨.slice none 0 0, [], rfl, Ts.nil _ _, rfl, B9.out⟩
        | exact bodyPost_ret (v := .tuple #[.agg #[.slice none 0 0], .bool false]) (by simp [results, Tryz.results9, go_sem, d6]) rfl ⟨.slice none 0 0, [], rfl, Ts.nil _ _, rfl, B6.out⟩
    · have hR : R = (CC, true) := by rw [HRR.out, if_pos (by omega)]
      have B9 : Hid (Below w.heap.size w (w6.setCell ⟨b0 + 2, 0, none⟩ (Value.slice va cl vc))) := B6.out.setCell (by simp only []; have := HB0.out; omega) _
      have y0 : (w6.setCell ⟨b0 + 2, 0, none⟩ (Value.slice va cl vc)).cell? ⟨b0 + 2, 0, none⟩ = some (Value.slice va cl vc) := (XR6.out.set 0 _).cell 0
      have Y0 := kide y0
      have T9 : Hid (Ts (w6.setCell ⟨b0 + 2, 0, none⟩ (Value.slice va cl vc)) w.heap.size (.slice va cl vc) l6) := ts_setH TS6.out XR6.out (by decide) (by decide) (by decide) 0 _
      clear y0
      go_wp2_with fail
      have y0 := Y0.out
      rw [hR]
      exact bodyPost_ret (v := .tuple #[.agg #[.slice va cl vc], .bool true]) (by simp [results, Tryz.results9, go_sem, y0]) rfl ⟨.slice va cl vc, l6, rfl, T9.out, EL6.out, B9.out⟩

end Go.Proofs.YtkkboaiablfdbaaGreatDoor
