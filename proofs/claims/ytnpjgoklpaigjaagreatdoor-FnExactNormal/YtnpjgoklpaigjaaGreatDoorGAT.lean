/- Several texts in one. -/
import Derived.Test.YtnpjgoklpaigjaaGreatDoorGAB
import Derived.Test.YtnpjgoklpaigjaaGreatDoorGAS
import Derived.Test.YtnpjgoklpaigjaaGreatDoorGAN
namespace Go.Proofs.YtnpjgoklpaigjaaGreatDoor
open Go.RowKit
set_option linter.unusedVariables false
set_option linter.unusedSimpArgs false
def RetUf (w : World) (X : List Tc × Bool) (e : Ending) (w' : World) : Prop := ∃ v l, e = .returned (.tuple #[.agg #[v], .bool X.2]) ∧ Ts w' w.heap.size v l ∧ l.map Tg.ct = X.1 ∧ Below w.heap.size w w'
def unfR (ds : List Dc) (fs : List Sc) : List Tc × Bool := if flatR ds fs = true then if (shAll (unfN ds fs)).1.length ≤ 400 then ((shAll (unfN ds fs)).1, true) else ([], false) else ([], false)
def sgVU (ds : List Dc) (x : Sc) : Prop := x.v = -1 ∧ rightB x.bw x.ws = true ∨ 0 ≤ x.v ∧ x.v < (ds.length : Int) ∧ 0 ≤ x.lo ∧ x.lo ≤ 4096 ∧ 1 ≤ x.wd ∧ x.wd ≤ 4096 ∧ x.wd ≤ dcW ds x.v ∧ x.lo + x.wd ≤ 4096
theorem flL_sg {ds : List Dc} : ∀ (fs : List Sc) (q : Option Sc), flL ds q fs = true → ∀ s ∈ fs, sgOk ds s = true
 | [], _, _, s, hs => by cases hs
 | x :: t, q, h, s, hs => by
  have h1 : sgOk ds x = true ∧ flL ds (some x) t = true := by
   cases q with
   | none => simpa [flL] using h
   | some q => simp only [flL, Bool.and_eq_true] at h; exact ⟨h.1.1, h.2⟩
  rcases List.mem_cons.1 hs with rfl | hs
  ·exact h1.1
  ·exact flL_sg t _ h1.2 s hs
theorem flat_sg {ds : List Dc} {fs : List Sc} (h : flatR ds fs = true) {j : Nat} {s : Sc} (hj : fs[j]? = some s) : sgVU ds s := by
 simp only [flatR, Bool.and_eq_true, decide_eq_true_eq] at h
 have h1 := flL_sg fs none h.1.2 s (List.mem_of_getElem? hj)
 unfold sgOk at h1
 by_cases hv : s.v = -1
 ·rw [if_pos hv] at h1
  simp only [Bool.and_eq_true, decide_eq_true_eq] at h1
  exact .inl ⟨hv, h1.2⟩
 ·rw [if_neg hv] at h1
  simp only [Bool.and_eq_true, decide_eq_true_eq] at h1
  obtain ⟨⟨⟨⟨⟨⟨a1, a2⟩, a3⟩, a4⟩, a5⟩, a6⟩, a7⟩ := h1
  obtain ⟨d, hd⟩ : ∃ d, ds[s.v.toNat]? = some d := ⟨ds[s.v.toNat]'(by omega), List.getElem?_eq_getElem _⟩
  have hdw := dclR_wd h.1.1.1.1 hd
  have e1 : (ds.getD s.v.toNat (.empty, 0)).2 = d.2 := by rw [List.getD_eq_getElem?_getD, hd]; rfl
  have e2 : dcW ds s.v = d.2 := by unfold dcW; rw [hd]; rfl
  rw [e1] at a7
  exact .inr ⟨a1, a2, a6, by omega, a5, by omega, by rw [e2]; omega, by omega⟩
theorem ts_setU {w : World} {lo β : Nat} {v : Value} {l : List Tg} {cs : Array Value} {t : TypeId} (h : Ts w lo v l) (hb : Bz w β cs t) (h1 : t ≠ 67) (h2 : t ≠ 118) (h3 : t ≠ 2) (i : Nat) (x : Value) : Ts (w.setCell ⟨β, i, none⟩ x) lo v l := by
 refine ⟨h.row.move fun b hb' => heap_setCell_other _ _ _ _ (fun e => ?_), fun y hy => nw_set (h.wn y hy) hb h2 i x, fun y hy => ni_set (h.kn y hy) hb h3 i x, h.wd, h.kd⟩
 obtain ⟨c, hc⟩ := h.row.typed hb'
 simp only [] at e
 subst e
 unfold Bz at hb
 rw [hb] at hc
 cases hc
 exact h1 rfl
theorem unf_ok {ds : List Dc} (hds : ds.length ≤ 1048576) : ∀ f : List Sc, f.length ≤ 2000 → (∀ s ∈ f, sgVU ds s ∧ in64 s.bw ∧ s.ws.length ≤ 1048576 ∧ ∀ y ∈ s.ws, y < 18446744073709551616) → ∀ n ∈ (unfTo ds f).1, okT n
 | [], _, _, n, hn => by simp [unfTo] at hn
 | s :: t, hl, h, n, hn => by
  have hi : ∀ z : Int, 0 ≤ z → z ≤ 10000000 → in64 z := fun z h1 h2 => ⟨by omega, by omega⟩
  simp only [List.length_cons] at hl
  rw [unfTo] at hn
  rcases List.mem_append.1 hn with hn | hn
  ·exact unf_ok hds t (by omega) (fun x hx => h x (List.mem_cons_of_mem _ hx)) n hn
  ·obtain ⟨h1, h2, h3, h4⟩ := h s (by simp)
   have hlt := (unfTo_len ds t).2.2
   unfold unf1 at hn
   split at hn
   ·simp at hn
    subst hn
    exact ⟨hi 2 (by omega) (by omega), hi 0 (by omega) (by omega), hi 0 (by omega) (by omega), hi 0 (by omega) (by omega), h2, h3, h4, by simp, by simp⟩
   ·rename_i hv
    rcases h1 with ⟨h9, -⟩ | ⟨k1, k2, k3, k4, k5, k6, k7, k8⟩
    ·omega
    ·have hvar : okT ⟨1, s.v, 0, 0, 0, [], []⟩ := ⟨hi 1 (by omega) (by omega), hi s.v k1 (by omega), hi 0 (by omega) (by omega), hi 0 (by omega) (by omega), hi 0 (by omega) (by omega), by simp, by simp, by simp, by simp⟩
     split at hn
     ·simp at hn
      rcases hn with rfl | rfl
      ·exact hvar
      ·exact ⟨hi 4 (by omega) (by omega), hi 0 (by omega) (by omega), hi (s.lo + s.wd - 1) (by omega) (by omega), hi s.lo k3 (by omega), hi 0 (by omega) (by omega), by simp, by simp, by simp, fun y hy => by simp at hy; subst hy; exact hi _ (by omega) (by omega)⟩
     ·simp at hn
      subst hn
      exact hvar
set_option maxHeartbeats 8000000 in
set_option maxRecDepth 100000 in
theorem specUnf_any (a da : Option Addr) (c dc n : Nat) (ds : List Dc) (xs : List Sg) (w : World) (hd : RdD w da ds) (hr : RdS w a xs) (hn : xs.length = n) (hs : ∀ x ∈ xs, x.a = none → x.c = 0) :
  Calls Tryz.prog 18 #[.slice da ds.length dc, .slice a n c] w (RetUf w (unfR ds (xs.map Sg.ct))) := by
 have HFL := kide (fun u (hb : Below w.heap.size w u) => specFlat_any a da c dc n ds xs u (hd.later hb) (hr.later hb) hn)
 have B0 : Hid (Below w.heap.size w (w.alloc (Obj.cells #[.slice none 0 0] 30))) := blA _ _
 have X0 := kide (Bz.new w #[.slice none 0 0] 30)
 have HD := kide hd
 have HR := kide hr
 have HN := kide hn
 have HS := kide hs
 obtain ⟨R, hRR⟩ : ∃ R, unfR ds (xs.map Sg.ct) = R := ⟨_, rfl⟩
 rw [hRR]
 have HRR := kide hRR
 obtain ⟨dn, hdn⟩ : ∃ dn, ds.length = dn := ⟨_, rfl⟩
 have HDN := kide hdn
 rw [hdn] at HFL ⊢
 obtain ⟨b0, hb0⟩ : ∃ b0, w.heap.size = b0 := ⟨_, rfl⟩
 have HB0 := kide hb0
 rw [hb0] at X0
 clear hd hr hn hs hRR hdn
 cases hf : flatR ds (xs.map Sg.ct) with
 | false =>
  have hR : R = ([], false) := by rw [← HRR.out]; simp [unfR, hf]
  rw [hf] at HFL
  clear hf
  go_enter Tryz.func18, Tryz.ntmps18
  go_wp2_with fail
  generalize w.alloc (Obj.cells #[.slice none 0 0] 30) = W0 at *
  try simp only [hb0]
  clear hb0
  refine Calls.mono (HFL.out W0 B0.out) ?_
  rintro e w1 ⟨rfl, hb1⟩
  have B1 := kide (B0.out.trans (hb1.mono B0.out.size))
  have X1 := kide (X0.out.later hb1)
  have d0 := X1.out.cell 0
  have f0 := X1.out.froz 0
  simp at d0
  have B9 : Hid (Below w.heap.size w (w1.setCell ⟨b0, 0, none⟩ (Value.slice none 0 0))) := B1.out.setCell (by simp only []; have := HB0.out; omega) _
  have y0 : (w1.setCell ⟨b0, 0, none⟩ (Value.slice none 0 0)).cell? ⟨b0, 0, none⟩ = some (Value.slice none 0 0) := (X1.out.set 0 _).cell 0
  have Y0 := kide y0
  clear y0 hb1
  go_wp2_with fail
  have y0 := Y0.out
  rw [hR]
  first
   | exact bodyPost_ret (v := .tuple #[.agg #[.slice none 0 0], .bool false]) (by simp [results, Tryz.results18, go_sem, y0]) rfl ⟨.slice none 0 0, [], rfl, Ts.nil _ _, rfl, B9.out⟩
   | exact bodyPost_ret (v := .tuple #[.agg #[.slice none 0 0], .bool false]) (by simp [results, Tryz.results18, go_sem, d0]) rfl ⟨.slice none 0 0, [], rfl, Ts.nil _ _, rfl, B1.out⟩
 | true =>
  rw [hf] at HFL
  have HFT := kide hf
  clear hf
  go_enter Tryz.func18, Tryz.ntmps18
  go_wp2_with fail
  generalize w.alloc (Obj.cells #[.slice none 0 0] 30) = W0 at *
  try simp only [hb0]
  clear hb0
  refine Calls.mono (HFL.out W0 B0.out) ?_
  rintro e w1 ⟨rfl, hb1⟩
  have B1 := kide (B0.out.trans (hb1.mono B0.out.size))
  have X1 := kide (X0.out.later hb1)
  clear hb1 X0 B0
  have hfl : 1 ≤ n ∧ n ≤ 2000 := by
   have h9 := HFT.out
   simp only [flatR, Bool.and_eq_true, decide_eq_true_eq, List.length_map, HN.out] at h9
   exact ⟨h9.1.1.1.2, h9.1.1.2⟩
  have HNL := kide hfl
  have hn1 : wrap64 ((n : Int) - 1) = (n : Int) - 1 := by unfold wrap64; omega
  have HN1 := kide hn1
  have M0 : Hid (RpM w ((w1.alloc (Obj.cells #[] 67)).alloc (Obj.cells #[] 2)) w1.heap.size ((w1.alloc (Obj.cells #[] 67)).alloc (Obj.cells #[] 2)).heap.size (.slice (some ⟨w1.heap.size, 0, none⟩) 0 0) (.slice (some ⟨w1.heap.size + 1, 0, none⟩) 0 0) [] (unfTo ds ((xs.map Sg.ct).drop n))) := by
   have h1 : Below w1.heap.size w1 (w1.alloc (Obj.cells #[] 67)) := blA _ _
   have h2 : Below (w1.alloc (Obj.cells #[] 67)).heap.size (w1.alloc (Obj.cells #[] 67)) ((w1.alloc (Obj.cells #[] 67)).alloc (Obj.cells #[] 2)) := blA _ _
   have h3 := OI.empty (w1.alloc (Obj.cells #[] 67)) w1.heap.size h1.size
   rw [show (w1.alloc (Obj.cells #[] 67)).heap.size = w1.heap.size + 1 by simp] at h3
   have h4 := B1.out.trans ((h1.trans (h2.mono h1.size)).mono B1.out.size)
   rw [List.drop_eq_nil_of_le (by rw [List.length_map, HN.out]; exact Nat.le_refl _)]
   refine ⟨(OT.empty w1 w1.heap.size (Nat.le_refl _)).later h2, by simp, fun x hx => by simp at hx, rfl, h3, h4, B1.out.size, Nat.le_trans h1.size h2.size, Nat.le_refl _, fun b hb => ?_, fun b hb => ?_⟩
   ·cases hb; simp; omega
   ·cases hb; simp
  have BB0 : Hid (Below w1.heap.size w1 ((w1.alloc (Obj.cells #[] 67)).alloc (Obj.cells #[] 2))) := (blA _ _).alloc (by simp) _
  clear hfl hn1
  go_wp2_with fail
  rw [HN1.out]
  generalize (w1.alloc (Obj.cells #[] 67)).alloc (Obj.cells #[] 2) = W4 at *
  go_loopw [6, 7, 8] (fun nv kv q wr => ∃ (m : Nat) (l : List Tg), m ≤ n ∧ q = .int .i64 ((m : Int) - 1) ∧ RpM w wr w1.heap.size wr.heap.size nv kv l (unfTo ds ((xs.map Sg.ct).drop m)) ∧ Below w1.heap.size w1 wr) (fun _ _ q _ => (intOf q + 1).toNat)
  case atStart => exact ⟨n, [], Nat.le_refl _, rfl, M0.out.now, BB0.out⟩
  case round =>
   clear M0 BB0
   obtain ⟨m, l, hm, rfl, hrp, hbb⟩ := hrel
   have HM := kide hrp
   have BB := kide hbb
   have HUL := kide (unfTo_len ds ((xs.map Sg.ct).drop m))
   by_cases hm0 : m = 0
   ·subst hm0
    rw [List.drop_zero] at HM HUL
    have HOK := kide (unf_ok (ds := ds) HD.out.1 (xs.map Sg.ct) (by rw [List.length_map, HN.out]; exact HNL.out.2) (fun s hs => by
     obtain ⟨j, hj⟩ := List.mem_iff_getElem?.1 hs
     refine ⟨flat_sg HFT.out hj, ?_⟩
     rw [List.getElem?_map] at hj
     obtain ⟨x, hx, rfl⟩ := Option.map_eq_some_iff.1 hj
     rcases HR.out.2 with h0 | ⟨b, o, -, hc⟩
     ·rw [h0] at hx; simp at hx
     ·obtain ⟨-, h1, -, -, -, h2⟩ := hc j x hx
      exact ⟨h2, h1.1, h1.2.1⟩))
    have HKD := kide (unfTo_kids ds (xs.map Sg.ct))
    have HUN : Hid (unfN ds (xs.map Sg.ct) = if 1 < n then (unfTo ds (xs.map Sg.ct)).1 ++ [⟨3, 0, 0, 0, 0, [], (unfTo ds (xs.map Sg.ct)).2⟩] else (unfTo ds (xs.map Sg.ct)).1) := by show _ = _; unfold unfN; rw [List.length_map, HN.out]
    obtain ⟨CC, hCC⟩ : ∃ CC, (shAll (unfN ds (xs.map Sg.ct))).1 = CC := ⟨_, rfl⟩
    have HCC := kide hCC
    obtain ⟨cl, hcl⟩ : ∃ cl, CC.length = cl := ⟨_, rfl⟩
    have HCL := kide hcl
    have HRX : Hid (R = if cl ≤ 400 then (CC, true) else ([], false)) := by show _ = _; rw [← HRR.out, unfR, if_pos HFT.out, hCC, hcl]
    rw [List.length_map, HN.out] at HUL
    have HLL : Hid (l.length = (unfTo ds (xs.map Sg.ct)).1.length) := by
     show _ = _
     have h9 := congrArg List.length HM.out.eq
     simpa using h9
    have q0 : ((0 : Nat) : Int) - 1 = -1 := rfl
    rw [q0]
    clear q0 hCC hcl hm hrp hbb
    by_cases hn1 : 1 < n
    ·have hn2 : (n : Int) > 1 := by omega
     have HEN1 := HUN.out
     rw [if_pos hn1] at HEN1
     have HEN2 := kide HEN1
     obtain ⟨ka, kc, rfl⟩ : ∃ ka kc, u7 = .slice ka n kc := by
      obtain ⟨a9, c9, h9, -⟩ := HM.out.ot.ni
      rw [HUL.out.1] at h9
      exact ⟨a9, c9, h9⟩
     clear HEN1 hn1
     generalize unfTo ds (xs.map Sg.ct) = st at *
     obtain ⟨st1, to⟩ := st
     simp only [] at HUL HOK HKD HLL HEN2
     have HTO : Hid (to.length = n) := HUL.out.1
     have hb5 : Below wr.heap.size wr (wr.alloc (Obj.cells #[.int .i64 3, .int .i64 0, .int .i64 (0), .int .i64 0, .int .i64 0, .slice none 0 0, .slice ka n kc] 67)) := blA _ _
     have M5 := kide (HM.out.later hb5)
     have BB5 := kide (BB.out.trans (hb5.mono BB.out.size))
     have HTA5 : Hid (ThAt (wr.alloc (Obj.cells #[.int .i64 3, .int .i64 0, .int .i64 (0), .int .i64 0, .int .i64 0, .slice none 0 0, .slice ka n kc] 67)) wr.heap.size 0 (Tg.hd ⟨⟨3, 0, 0, 0, 0, [], to⟩, none, 0, ka, kc⟩)) := by
      have h9 := Bz.new wr #[.int .i64 3, .int .i64 0, .int .i64 (0), .int .i64 0, .int .i64 0, .slice none 0 0, .slice ka n kc] 67
      simp only [Tg.hd, ThAt, List.length_nil, HTO.out]
      exact ⟨h9.cell 0, h9.cell 1, h9.cell 2, h9.cell 3, h9.cell 4, h9.cell 5, h9.cell 6⟩
     clear hb5
     go_wp2_with (at_builtin; refine wpList_appT7 rfl _ _ rfl w1.heap.size u6 l ⟨⟨3, 0, 0, 0, 0, [], to⟩, none, 0, ka, kc⟩ (by first | rfl | simp [Act.eval]) M5.out.row wr.heap.size 1 (by first | rfl | simp [Act.eval]) HTA5.out (by have h1 := HLL.out; have h2 := HUL.out; have h3 := HNL.out; omega) (Nat.le_trans M5.out.BH M5.out.hH) ?_)
     intro g5 cap5 w5 ho5 hg5 hat5
     have hcat : Hid ((∃ a c, Value.slice (some ⟨g5, 0, none⟩) (l.length + 1) cap5 = .slice a (l.length + 1) c ∧ RdT w5 a (l ++ [⟨⟨3, 0, 0, 0, 0, [], to⟩, none, 0, ka, kc⟩])) ∧ Sn (l ++ [⟨⟨3, 0, 0, 0, 0, [], to⟩, none, 0, ka, kc⟩]) ∧ Below w.heap.size w w5) := by
      have h8 : RpM w (wr.alloc (Obj.cells #[.int .i64 3, .int .i64 0, .int .i64 (0), .int .i64 0, .int .i64 0, .slice none 0 0, .slice ka n kc] 67)) w1.heap.size wr.heap.size u6 (.slice ka to.length kc) l (st1, to) := by rw [HTO.out]; exact M5.out
      refine RpM.cat (y := ⟨⟨3, 0, 0, 0, 0, [], to⟩, none, 0, ka, kc⟩) h8 hg5 ho5 rfl (fun y hy => ?_) (by have h1 := HLL.out; have h2 := HUL.out; have h3 := HNL.out; omega)
      rcases List.mem_append.1 hy with h9 | h9
      ·exact HOK.out y h9
      ·simp at h9
       subst h9
       refine ⟨(show in64 (3 : Int) from ⟨by omega, by omega⟩), (show in64 (0 : Int) from ⟨by omega, by omega⟩), (show in64 (0 : Int) from ⟨by omega, by omega⟩), (show in64 (0 : Int) from ⟨by omega, by omega⟩), (show in64 (0 : Int) from ⟨by omega, by omega⟩), by simp, by simp, by simp only []; have h1 := HTO.out; have h3 := HNL.out; omega, fun z hz => ?_⟩
       have h1 := HKD.out z hz
       have h2 := HUL.out
       have h3 := HNL.out
       exact ⟨by omega, by omega⟩
     have BB9 := kide (Below.grown BB5.out hg5 BB5.out.size (fun j hj => (M5.out.row.lt hj).1))
     obtain ⟨⟨a9, c9, e9, hr9⟩, hsn9, hbl9⟩ := hcat.out
     rw [e9]
     have R9 := kide hr9
     have SN9 := kide hsn9
     have BL9 := kide hbl9
     have HEN : Hid ((l ++ [⟨⟨3, 0, 0, 0, 0, [], to⟩, none, 0, ka, kc⟩] : List Tg).map Tg.ct = unfN ds (xs.map Sg.ct)) := by
      show _ = _
      have h9 := HM.out.eq
      simp only [] at h9
      rw [HEN2.out, List.map_append, h9]
      rfl
     have HL4 : Hid (l.length + 1 ≤ 10000) := by show _ ≤ _; have h1 := HLL.out; have h2 := HUL.out; have h3 := HNL.out; omega
     have HNS : Hid ((l ++ [⟨⟨3, 0, 0, 0, 0, [], to⟩, none, 0, ka, kc⟩] : List Tg).length = l.length + 1) := by show _ = _; simp
     obtain ⟨ln, hln⟩ : ∃ ln, l.length + 1 = ln := ⟨_, rfl⟩
     rw [hln] at HL4 HNS ⊢
     clear ho5 hg5 hat5 e9 hr9 hsn9 hbl9 hcat M5 BB5 HTA5 HM hln
     have HSH := kide (l3Share_any a9 c9 ln (l ++ [⟨⟨3, 0, 0, 0, 0, [], to⟩, none, 0, ka, kc⟩]) w5 R9.out HNS.out SN9.out (by rw [HEN.out]; exact unfN_ahead ds _) HL4.out)
     rw [HEN.out] at HSH
     have XR5 := kide (X1.out.later BB9.out)
     go_wp2_with fail
     refine Calls.mono HSH.out ?_
     rintro e w6 ⟨v6, l6, t6, rfl, hts6, he6, -, hb6⟩
     have B6 := kide (BL9.out.trans (hb6.mono BL9.out.size))
     have XR6 := kide (XR5.out.later hb6)
     have TS6 := kide (hts6.mono BL9.out.size)
     have E6 : Hid (l6.map Tg.ct = CC) := by show _ = _; rw [← HCC.out]; exact he6
     obtain ⟨va6, vc6, rfl⟩ := hts6.form
     have hL6 : l6.length = cl := by rw [← HCL.out, ← E6.out, List.length_map]
     rw [hL6] at TS6 ⊢
     have d6 := XR6.out.cell 0
     have f6 := XR6.out.froz 0
     simp at d6
     have hl9 := XR6.out.lt
     clear hts6 he6 hb6 hL6 XR5 HSH
     by_cases h4 : (cl : Int) > 400
     ·have hR : R = ([], false) := by rw [HRX.out, if_neg (by omega)]
      have B9 : Hid (Below w.heap.size w ((w6.setCell ⟨b0, 0, none⟩ (Value.slice none 0 0)).alloc (Obj.cells #[.slice va6 cl vc6] 30))) := by
       have h9 := B6.out.setCell (show w.heap.size ≤ (⟨b0, 0, none⟩ : Addr).block by simp only []; have := HB0.out; omega) (Value.slice none 0 0)
       exact h9.alloc h9.size _
      have y0 : ((w6.setCell ⟨b0, 0, none⟩ (Value.slice none 0 0)).alloc (Obj.cells #[.slice va6 cl vc6] 30)).cell? ⟨b0, 0, none⟩ = some (Value.slice none 0 0) := ((XR6.out.set 0 (Value.slice none 0 0)).later (blA _ _)).cell 0
      have Y0 := kide y0
      clear y0
      go_wp2_with fail
      have y0 := Y0.out
      rw [hR]
      exact bodyPost_ret (v := .tuple #[.agg #[.slice none 0 0], .bool false]) (by simp [results, Tryz.results18, go_sem, y0]) rfl ⟨.slice none 0 0, [], rfl, Ts.nil _ _, rfl, B9.out⟩
     ·have hR : R = (CC, true) := by rw [HRX.out, if_pos (by omega)]
      have B9 : Hid (Below w.heap.size w ((w6.setCell ⟨b0, 0, none⟩ (Value.slice va6 cl vc6)).alloc (Obj.cells #[.slice va6 cl vc6] 30))) := by
       have h9 := B6.out.setCell (show w.heap.size ≤ (⟨b0, 0, none⟩ : Addr).block by simp only []; have := HB0.out; omega) (Value.slice va6 cl vc6)
       exact h9.alloc h9.size _
      have y0 : ((w6.setCell ⟨b0, 0, none⟩ (Value.slice va6 cl vc6)).alloc (Obj.cells #[.slice va6 cl vc6] 30)).cell? ⟨b0, 0, none⟩ = some (Value.slice va6 cl vc6) := ((XR6.out.set 0 (Value.slice va6 cl vc6)).later (blA _ _)).cell 0
      have Y0 := kide y0
      have T9 : Hid (Ts ((w6.setCell ⟨b0, 0, none⟩ (Value.slice va6 cl vc6)).alloc (Obj.cells #[.slice va6 cl vc6] 30)) w.heap.size (.slice va6 cl vc6) l6) := (ts_setU TS6.out XR6.out (by decide) (by decide) (by decide) 0 _).later (blA _ _)
      clear y0
      go_wp2_with fail
      have y0 := Y0.out
      rw [hR]
      exact bodyPost_ret (v := .tuple #[.agg #[.slice va6 cl vc6], .bool true]) (by simp [results, Tryz.results18, go_sem, y0]) rfl ⟨.slice va6 cl vc6, l6, rfl, T9.out, E6.out, B9.out⟩
    ·have hn2 : ¬ (n : Int) > 1 := by omega
     have HEN1 := HUN.out
     rw [if_neg hn1] at HEN1
     have HEN2 := kide HEN1
     clear HEN1 hn1
     generalize unfTo ds (xs.map Sg.ct) = st at *
     obtain ⟨st1, to⟩ := st
     simp only [] at HUL HOK HLL HEN2
     obtain ⟨a9, c9, rfl, hr9⟩ := HM.out.rd (by have h1 := HLL.out; have h2 := HUL.out; have h3 := HNL.out; omega) HOK.out
     have R9 := kide hr9
     have SN9 := kide HM.out.sn
     have BL9 := kide HM.out.bl
     have BB9 := BB
     have HEN : Hid (l.map Tg.ct = unfN ds (xs.map Sg.ct)) := by show _ = _; rw [HEN2.out]; exact HM.out.eq
     have HL4 : Hid (l.length ≤ 10000) := by show _ ≤ _; have h1 := HLL.out; have h2 := HUL.out; have h3 := HNL.out; omega
     clear hr9
     have HSH := kide (l3Share_any a9 c9 l.length l wr R9.out rfl SN9.out (by rw [HEN.out]; exact unfN_ahead ds _) HL4.out)
     rw [HEN.out] at HSH
     have XR5 := kide (X1.out.later BB9.out)
     go_wp2_with fail
     refine Calls.mono HSH.out ?_
     rintro e w6 ⟨v6, l6, t6, rfl, hts6, he6, -, hb6⟩
     have B6 := kide (BL9.out.trans (hb6.mono BL9.out.size))
     have XR6 := kide (XR5.out.later hb6)
     have TS6 := kide (hts6.mono BL9.out.size)
     have E6 : Hid (l6.map Tg.ct = CC) := by show _ = _; rw [← HCC.out]; exact he6
     obtain ⟨va6, vc6, rfl⟩ := hts6.form
     have hL6 : l6.length = cl := by rw [← HCL.out, ← E6.out, List.length_map]
     rw [hL6] at TS6 ⊢
     have d6 := XR6.out.cell 0
     have f6 := XR6.out.froz 0
     simp at d6
     have hl9 := XR6.out.lt
     clear hts6 he6 hb6 hL6 XR5 HSH
     by_cases h4 : (cl : Int) > 400
     ·have hR : R = ([], false) := by rw [HRX.out, if_neg (by omega)]
      have B9 : Hid (Below w.heap.size w ((w6.setCell ⟨b0, 0, none⟩ (Value.slice none 0 0)).alloc (Obj.cells #[.slice va6 cl vc6] 30))) := by
       have h9 := B6.out.setCell (show w.heap.size ≤ (⟨b0, 0, none⟩ : Addr).block by simp only []; have := HB0.out; omega) (Value.slice none 0 0)
       exact h9.alloc h9.size _
      have y0 : ((w6.setCell ⟨b0, 0, none⟩ (Value.slice none 0 0)).alloc (Obj.cells #[.slice va6 cl vc6] 30)).cell? ⟨b0, 0, none⟩ = some (Value.slice none 0 0) := ((XR6.out.set 0 (Value.slice none 0 0)).later (blA _ _)).cell 0
      have Y0 := kide y0
      clear y0
      go_wp2_with fail
      have y0 := Y0.out
      rw [hR]
      exact bodyPost_ret (v := .tuple #[.agg #[.slice none 0 0], .bool false]) (by simp [results, Tryz.results18, go_sem, y0]) rfl ⟨.slice none 0 0, [], rfl, Ts.nil _ _, rfl, B9.out⟩
     ·have hR : R = (CC, true) := by rw [HRX.out, if_pos (by omega)]
      have B9 : Hid (Below w.heap.size w ((w6.setCell ⟨b0, 0, none⟩ (Value.slice va6 cl vc6)).alloc (Obj.cells #[.slice va6 cl vc6] 30))) := by
       have h9 := B6.out.setCell (show w.heap.size ≤ (⟨b0, 0, none⟩ : Addr).block by simp only []; have := HB0.out; omega) (Value.slice va6 cl vc6)
       exact h9.alloc h9.size _
      have y0 : ((w6.setCell ⟨b0, 0, none⟩ (Value.slice va6 cl vc6)).alloc (Obj.cells #[.slice va6 cl vc6] 30)).cell? ⟨b0, 0, none⟩ = some (Value.slice va6 cl vc6) := ((XR6.out.set 0 (Value.slice va6 cl vc6)).later (blA _ _)).cell 0
      have Y0 := kide y0
      have T9 : Hid (Ts ((w6.setCell ⟨b0, 0, none⟩ (Value.slice va6 cl vc6)).alloc (Obj.cells #[.slice va6 cl vc6] 30)) w.heap.size (.slice va6 cl vc6) l6) := (ts_setU TS6.out XR6.out (by decide) (by decide) (by decide) 0 _).later (blA _ _)
      clear y0
      go_wp2_with fail
      have y0 := Y0.out
      rw [hR]
      exact bodyPost_ret (v := .tuple #[.agg #[.slice va6 cl vc6], .bool true]) (by simp [results, Tryz.results18, go_sem, y0]) rfl ⟨.slice va6 cl vc6, l6, rfl, T9.out, E6.out, B9.out⟩
   ·obtain ⟨j, rfl⟩ : ∃ j, m = j + 1 := ⟨m - 1, by omega⟩
    have ej : ((j + 1 : Nat) : Int) - 1 = (j : Int) := by omega
    have hjw : wrap64 ((j : Int) - 1) = (j : Int) - 1 := by unfold wrap64; have := HNL.out; omega
    have HJW := kide hjw
    rw [ej]
    have j0 : (j : Int) ≥ 0 := by omega
    have j1 : (j : Int) < (n : Int) := by omega
    obtain ⟨x, gx⟩ : ∃ x, xs[j]? = some x := ⟨xs[j]'(by rw [HN.out]; omega), List.getElem?_eq_getElem _⟩
    have gs : (xs.map Sg.ct)[j]? = some x.ct := by rw [List.getElem?_map, gx]; rfl
    have HUD := kide (unfTo_drop (ds := ds) gs)
    obtain ⟨bq, oq, rfl, hcq⟩ : ∃ b o, a = some ⟨b, o, none⟩ ∧ ∀ i y, xs[i]? = some y → SgAt w b (o + i * 5) y := by
     rcases HR.out.2 with h0 | h0
     ·rw [h0] at gx; simp at gx
     ·exact h0
    obtain ⟨⟨p0, p1, p2, p3, p4⟩, -, -, -, -, -⟩ := (hcq j x gx).later hrp.bl
    have hrdw := kide (hcq j x gx).2.1
    have hsn := kide (HS.out x (List.mem_of_getElem? gx))
    have HSG := kide (flat_sg HFT.out gs)
    obtain ⟨⟨sv, lo, wd, bw, ws⟩, wa, wc⟩ := x
    simp only [Sg.hd] at p0 p1 p2 p3 p4
    simp only [] at hrdw hsn HSG HUD
    obtain ⟨nw, hnw⟩ : ∃ nw, ws.length = nw := ⟨_, rfl⟩
    rw [hnw] at p4
    have HNW := kide hnw
    clear hrp hbb hjw gx gs hcq hnw
    generalize unfTo ds ((xs.map Sg.ct).drop (j + 1)) = st at *
    obtain ⟨st1, to⟩ := st
    simp only [] at HUL
    have HLL : Hid (st1.length = l.length) := by
     show _ = _
     have h9 := congrArg List.length HM.out.eq
     simpa using h9.symm
    have HLN : Hid (l.length ≤ 4000) := by
     show _ ≤ _
     have h9 := HUL.out
     have h8 := HLL.out
     have h7 := HNL.out
     rw [List.length_drop, List.length_map, HN.out] at h9
     omega
    have HKN : Hid (to.length ≤ 2000) := by
     show _ ≤ _
     have h9 := HUL.out
     have h7 := HNL.out
     rw [List.length_drop, List.length_map, HN.out] at h9
     omega
    by_cases hv : sv < 0
    ·skip
     have HS2 : Hid (unfTo ds ((xs.map Sg.ct).drop j) = (st1 ++ [⟨2, 0, 0, 0, bw, ws, []⟩], to ++ [((l.length : Nat) : Int)])) := by
      show _ = _
      rw [HUD.out, unf1, if_pos hv]
      have h9 := HLL.out
      rw [List.length_append, List.length_singleton, h9]
      congr 3
      omega
     have hb1 : Below wr.heap.size wr ((wr.alloc (Obj.cells #[.int .i64 sv, .int .i64 lo, .int .i64 wd, .int .i64 bw, .slice wa nw wc] 73)).alloc (Obj.cells #[.int .i64 2, .int .i64 0, .int .i64 (0), .int .i64 0, .int .i64 bw, .slice wa nw wc, .slice none 0 0] 67)) := (blA _ _).alloc (by simp) _
     have M1 := kide (HM.out.later hb1)
     have BB1 := kide (BB.out.trans (hb1.mono BB.out.size))
     have XS1 : Hid (Bz ((wr.alloc (Obj.cells #[.int .i64 sv, .int .i64 lo, .int .i64 wd, .int .i64 bw, .slice wa nw wc] 73)).alloc (Obj.cells #[.int .i64 2, .int .i64 0, .int .i64 (0), .int .i64 0, .int .i64 bw, .slice wa nw wc, .slice none 0 0] 67)) wr.heap.size #[.int .i64 sv, .int .i64 lo, .int .i64 wd, .int .i64 bw, .slice wa nw wc] 73) := (Bz.new wr _ _).later (blA _ _)
     have HTA1 : Hid (ThAt ((wr.alloc (Obj.cells #[.int .i64 sv, .int .i64 lo, .int .i64 wd, .int .i64 bw, .slice wa nw wc] 73)).alloc (Obj.cells #[.int .i64 2, .int .i64 0, .int .i64 (0), .int .i64 0, .int .i64 bw, .slice wa nw wc, .slice none 0 0] 67)) (wr.heap.size + 1) 0 (Tg.hd ⟨⟨2, 0, 0, 0, bw, ws, []⟩, wa, wc, none, 0⟩)) := by
      have h9 := Bz.new (wr.alloc (Obj.cells #[.int .i64 sv, .int .i64 lo, .int .i64 wd, .int .i64 bw, .slice wa nw wc] 73)) #[.int .i64 2, .int .i64 0, .int .i64 (0), .int .i64 0, .int .i64 bw, .slice wa nw wc, .slice none 0 0] 67
      rw [show (wr.alloc (Obj.cells #[.int .i64 sv, .int .i64 lo, .int .i64 wd, .int .i64 bw, .slice wa nw wc] 73)).heap.size = wr.heap.size + 1 by simp] at h9
      simp only [Tg.hd, ThAt, HNW.out, List.length_nil]
      exact ⟨h9.cell 0, h9.cell 1, h9.cell 2, h9.cell 3, h9.cell 4, h9.cell 5, h9.cell 6⟩
     clear hb1
     go_wp2_with (at_builtin; refine wpList_appT7 rfl _ _ rfl w1.heap.size u6 l ⟨⟨2, 0, 0, 0, bw, ws, []⟩, wa, wc, none, 0⟩ (by first | rfl | simp [Act.eval]) M1.out.row (wr.heap.size + 1) 1 (by first | rfl | simp [Act.eval]) HTA1.out (by have := HLN.out; omega) (Nat.le_trans M1.out.BH M1.out.hH) ?_)
     intro g5 cap5 w5 ho5 hg5 hat5
     have M5 := kide (M1.out.pushO hg5 ho5 ⟨hrdw.out, by simp, by simp, .inl rfl⟩ ⟨hsn.out, fun _ => rfl⟩)
     have BB5 := kide (Below.grown BB1.out hg5 BB1.out.size (fun j hj => (M1.out.row.lt hj).1))
     have XS5 : Hid (Bz w5 wr.heap.size #[.int .i64 sv, .int .i64 lo, .int .i64 wd, .int .i64 bw, .slice wa nw wc] 73) := by
      show _ = _
      rw [hg5.block _ XS1.out.lt (fun e => by obtain ⟨c9, h9⟩ := M1.out.row.typed e.symm; have h8 := XS1.out; unfold Bz at h8; rw [h8] at h9; simp at h9)]
      exact XS1.out
     obtain ⟨ln, hln⟩ : ∃ ln, l.length + 1 = ln := ⟨_, rfl⟩
     have HL5 := kide hln
     rw [hln] at M5 ⊢
     clear hln hg5 ho5 hat5 M1 BB1 XS1 HTA1 HM BB p0 p1 p2 p3 p4
     have hb7 : Below w5.heap.size w5 (w5.alloc (Obj.cells #[.int .i64 ((l.length : Nat) : Int)] 2)) := blA _ _
     have M7 := kide (M5.out.later hb7)
     have BB7 := kide (BB5.out.trans (hb7.mono BB5.out.size))
     have HC7 : Hid ((w5.alloc (Obj.cells #[.int .i64 ((l.length : Nat) : Int)] 2)).cell? ⟨w5.heap.size, 0, none⟩ = some (.int .i64 ((l.length : Nat) : Int))) := (Bz.new w5 #[.int .i64 ((l.length : Nat) : Int)] 2).cell 0
     clear hb7
     have k1 : wrap64 ((ln : Int) - 1) = ((l.length : Nat) : Int) := by unfold wrap64; have := HL5.out; have := HLN.out; omega
     go_wp2_with (at_builtin; refine wpList_appI rfl _ _ rfl w1.heap.size u7 to ((l.length : Nat) : Int) (by first | rfl | simp [Act.eval]) M7.out.ot w5.heap.size 1 (by first | rfl | simp [Act.eval]) HC7.out (by have := HKN.out; omega) BB7.out.size ?_)
     intro g8 cap8 w8 ho8 hg8 hat8
     have M8 := kide (M7.out.told hg8 ho8 (by rcases hat8 with h | h; exact .inl h.symm; exact .inr (congrArg some (by simpa using h))))
     have BB8 := kide (Below.grown BB7.out hg8 BB7.out.size (fun j hj => (M7.out.ot.lt hj).1))
     clear ho8 hg8 hat8 M7 BB7 HC7
     go_wp2_with fail
     rw [HJW.out]
     go_roundw
     case rel => exact ⟨j, _, by omega, rfl, by rw [HS2.out]; exact M8.out, BB8.out⟩
     case measure => simp only [intOf]; omega
    ·obtain ⟨h1, h2, h3, h4, h5, h6, h7, h8⟩ : 0 ≤ sv ∧ sv < (dn : Int) ∧ 0 ≤ lo ∧ lo ≤ 4096 ∧ 1 ≤ wd ∧ wd ≤ 4096 ∧ wd ≤ dcW ds sv ∧ lo + wd ≤ 4096 := by
      rcases HSG.out with ⟨h9, -⟩ | h9
      ·simp only [] at h9
       omega
      ·rw [HDN.out] at h9
       exact h9
     obtain ⟨vn, rfl⟩ := Int.eq_ofNat_of_zero_le h1
     obtain ⟨d, gd⟩ : ∃ d, ds[vn]? = some d := ⟨ds[vn]'(by rw [HDN.out]; omega), List.getElem?_eq_getElem _⟩
     have HDW : Hid (dcW ds (vn : Int) = d.2) := by show _ = _; unfold dcW; rw [Int.toNat_natCast, gd]; rfl
     obtain ⟨db, dof, rfl, hdc⟩ : ∃ b o, da = some ⟨b, o, none⟩ ∧ ∀ u, Below w.heap.size w u → u.cell? ⟨b, o + vn * 2 + 1, none⟩ = some (.int .i64 d.2) := by
      obtain ⟨-, -, h | ⟨b, o, e, hc⟩⟩ := HD.out
      ·rw [h] at gd; simp at gd
      ·exact ⟨b, o, e, fun u hb => ((hc vn d gd).later hb).2⟩
     have HDA := kide hdc
     have hvn : (vn : Int) < (dn : Int) := h2
     rw [HDW.out] at h7
     clear gd hdc
     generalize d.2 = dw at *
     by_cases hw : wd < dw
     ·skip
      have HS2 : Hid (unfTo ds ((xs.map Sg.ct).drop j) = ((st1 ++ [⟨1, (vn : Int), 0, 0, 0, [], []⟩]) ++ [⟨4, 0, lo + wd - 1, lo, 0, [], [((l.length : Nat) : Int)]⟩], to ++ [((l.length + 1 : Nat) : Int)])) := by
       show _ = _
       rw [HUD.out, unf1, if_neg hv, if_pos (by rw [HDW.out]; omega)]
       have h9 := HLL.out
       rw [List.length_append, h9, List.append_assoc]
       simp only [List.length_cons, List.length_nil]
       congr 3
       omega
      have hb1 : Below wr.heap.size wr ((wr.alloc (Obj.cells #[.int .i64 (vn : Int), .int .i64 lo, .int .i64 wd, .int .i64 bw, .slice wa nw wc] 73)).alloc (Obj.cells #[.int .i64 1, .int .i64 (vn : Int), .int .i64 (0), .int .i64 0, .int .i64 0, .slice none 0 0, .slice none 0 0] 67)) := (blA _ _).alloc (by simp) _
      have M1 := kide (HM.out.later hb1)
      have BB1 := kide (BB.out.trans (hb1.mono BB.out.size))
      have XS1 : Hid (Bz ((wr.alloc (Obj.cells #[.int .i64 (vn : Int), .int .i64 lo, .int .i64 wd, .int .i64 bw, .slice wa nw wc] 73)).alloc (Obj.cells #[.int .i64 1, .int .i64 (vn : Int), .int .i64 (0), .int .i64 0, .int .i64 0, .slice none 0 0, .slice none 0 0] 67)) wr.heap.size #[.int .i64 (vn : Int), .int .i64 lo, .int .i64 wd, .int .i64 bw, .slice wa nw wc] 73) := (Bz.new wr _ _).later (blA _ _)
      have HTA1 : Hid (ThAt ((wr.alloc (Obj.cells #[.int .i64 (vn : Int), .int .i64 lo, .int .i64 wd, .int .i64 bw, .slice wa nw wc] 73)).alloc (Obj.cells #[.int .i64 1, .int .i64 (vn : Int), .int .i64 (0), .int .i64 0, .int .i64 0, .slice none 0 0, .slice none 0 0] 67)) (wr.heap.size + 1) 0 (Tg.hd ⟨⟨1, (vn : Int), 0, 0, 0, [], []⟩, none, 0, none, 0⟩)) := by
       have h9 := Bz.new (wr.alloc (Obj.cells #[.int .i64 (vn : Int), .int .i64 lo, .int .i64 wd, .int .i64 bw, .slice wa nw wc] 73)) #[.int .i64 1, .int .i64 (vn : Int), .int .i64 (0), .int .i64 0, .int .i64 0, .slice none 0 0, .slice none 0 0] 67
       rw [show (wr.alloc (Obj.cells #[.int .i64 (vn : Int), .int .i64 lo, .int .i64 wd, .int .i64 bw, .slice wa nw wc] 73)).heap.size = wr.heap.size + 1 by simp] at h9
       simp only [Tg.hd, ThAt, HNW.out, List.length_nil]
       exact ⟨h9.cell 0, h9.cell 1, h9.cell 2, h9.cell 3, h9.cell 4, h9.cell 5, h9.cell 6⟩
      clear hb1
      go_wp2_with (at_builtin; refine wpList_appT7 rfl _ _ rfl w1.heap.size u6 l ⟨⟨1, (vn : Int), 0, 0, 0, [], []⟩, none, 0, none, 0⟩ (by first | rfl | simp [Act.eval]) M1.out.row (wr.heap.size + 1) 1 (by first | rfl | simp [Act.eval]) HTA1.out (by have := HLN.out; omega) (Nat.le_trans M1.out.BH M1.out.hH) ?_)
      intro g5 cap5 w5 ho5 hg5 hat5
      have M5 := kide (M1.out.pushO hg5 ho5 ⟨⟨by simp, by simp, .inl rfl⟩, by simp, by simp, .inl rfl⟩ ⟨fun _ => rfl, fun _ => rfl⟩)
      have BB5 := kide (Below.grown BB1.out hg5 BB1.out.size (fun j hj => (M1.out.row.lt hj).1))
      have XS5 : Hid (Bz w5 wr.heap.size #[.int .i64 (vn : Int), .int .i64 lo, .int .i64 wd, .int .i64 bw, .slice wa nw wc] 73) := by
       show _ = _
       rw [hg5.block _ XS1.out.lt (fun e => by obtain ⟨c9, h9⟩ := M1.out.row.typed e.symm; have h8 := XS1.out; unfold Bz at h8; rw [h8] at h9; simp at h9)]
       exact XS1.out
      obtain ⟨ln, hln⟩ : ∃ ln, l.length + 1 = ln := ⟨_, rfl⟩
      have HL5 := kide hln
      rw [hln] at M5 ⊢
      clear hln hg5 ho5 hat5 M1 BB1 XS1 HTA1 HM BB p0 p1 p2 p3 p4
      have q0 := XS5.out.cell 0
      have q1 := XS5.out.cell 1
      have q2 := XS5.out.cell 2
      simp at q0 q1 q2
      have q3 := HDA.out w5 M5.out.bl
      go_wp2_with fail
      go_quiet (fail)
      have hbq : Below w5.heap.size w5 (w5.drewN nq) := below_drewN (Below.refl _ _) _
      have MQ := kide ((M5.out.later hbq).now)
      have BBQ := kide (BB5.out.trans (hbq.mono BB5.out.size))
      have XSQ := kide (XS5.out.later hbq)
      clear hbq q0 q1 q2 q3 M5 BB5 XS5
      generalize w5.drewN nq = wq at *
      have q0 := XSQ.out.cell 0
      have q1 := XSQ.out.cell 1
      have q2 := XSQ.out.cell 2
      simp at q0 q1 q2
      have k1 : wrap64 ((ln : Int) - 1) = ((l.length : Nat) : Int) := by unfold wrap64; have := HL5.out; have := HLN.out; omega
      have k2 : wrap64 (lo + wd) = lo + wd := by unfold wrap64; omega
      have k3 : wrap64 (lo + wd - 1) = lo + wd - 1 := by unfold wrap64; omega
      have hl5 := XSQ.out.lt
      have hb6 : Below wq.heap.size wq ((wq.alloc (Obj.cells #[.int .i64 ((l.length : Nat) : Int)] 2)).alloc (Obj.cells #[.int .i64 4, .int .i64 0, .int .i64 (lo + wd - 1), .int .i64 lo, .int .i64 0, .slice none 0 0, .slice (some ⟨wq.heap.size, 0, none⟩) 1 1] 67)) := (blA _ _).alloc (by simp) _
      have M6 := kide (MQ.out.later hb6)
      have BB6 := kide (BBQ.out.trans (hb6.mono BBQ.out.size))
      have HTA6 : Hid (ThAt ((wq.alloc (Obj.cells #[.int .i64 ((l.length : Nat) : Int)] 2)).alloc (Obj.cells #[.int .i64 4, .int .i64 0, .int .i64 (lo + wd - 1), .int .i64 lo, .int .i64 0, .slice none 0 0, .slice (some ⟨wq.heap.size, 0, none⟩) 1 1] 67)) (wq.heap.size + 1) 0 (Tg.hd ⟨⟨4, 0, lo + wd - 1, lo, 0, [], [((l.length : Nat) : Int)]⟩, none, 0, some ⟨wq.heap.size, 0, none⟩, 1⟩)) := by
       have h9 := Bz.new (wq.alloc (Obj.cells #[.int .i64 ((l.length : Nat) : Int)] 2)) #[.int .i64 4, .int .i64 0, .int .i64 (lo + wd - 1), .int .i64 lo, .int .i64 0, .slice none 0 0, .slice (some ⟨wq.heap.size, 0, none⟩) 1 1] 67
       rw [show (wq.alloc (Obj.cells #[.int .i64 ((l.length : Nat) : Int)] 2)).heap.size = wq.heap.size + 1 by simp] at h9
       simp only [Tg.hd, ThAt, List.length_nil, List.length_cons, Nat.zero_add]
       exact ⟨h9.cell 0, h9.cell 1, h9.cell 2, h9.cell 3, h9.cell 4, h9.cell 5, h9.cell 6⟩
      have NI6 : Hid (Ni ((wq.alloc (Obj.cells #[.int .i64 ((l.length : Nat) : Int)] 2)).alloc (Obj.cells #[.int .i64 4, .int .i64 0, .int .i64 (lo + wd - 1), .int .i64 lo, .int .i64 0, .slice none 0 0, .slice (some ⟨wq.heap.size, 0, none⟩) 1 1] 67)) w1.heap.size (some ⟨wq.heap.size, 0, none⟩) [((l.length : Nat) : Int)]) := .inr ⟨wq.heap.size, #[.int .i64 ((l.length : Nat) : Int)], rfl, BBQ.out.size, ((Bz.new wq _ _).later (blA _ _)), fun i hi => by simp at hi; subst hi; rfl⟩
      clear hb6
      go_wp2_with (at_builtin; refine wpList_appT7 rfl _ _ rfl w1.heap.size _ _ ⟨⟨4, 0, lo + wd - 1, lo, 0, [], [((l.length : Nat) : Int)]⟩, none, 0, some ⟨wq.heap.size, 0, none⟩, 1⟩ (by first | rfl | simp [Act.eval]) M6.out.row (wq.heap.size + 1) 1 (by first | rfl | simp [Act.eval]) HTA6.out (by have := HLN.out; simp; omega) (Nat.le_trans M6.out.BH M6.out.hH) ?_)
      intro g6 cap6 w6 ho6 hg6 hat6
      replace ho6 : OT w6 w1.heap.size (.slice (some ⟨g6, 0, none⟩) (l.length + 1 + 1) cap6) ((l ++ [⟨⟨1, (vn : Int), 0, 0, 0, [], []⟩, none, 0, none, 0⟩]) ++ [⟨⟨4, 0, lo + wd - 1, lo, 0, [], [((l.length : Nat) : Int)]⟩, none, 0, some ⟨wq.heap.size, 0, none⟩, 1⟩]) := by rw [List.append_assoc]; exact ho6
      have M9 := kide (M6.out.push (y := ⟨⟨4, 0, lo + wd - 1, lo, 0, [], [((l.length : Nat) : Int)]⟩, none, 0, some ⟨wq.heap.size, 0, none⟩, 1⟩) hg6 ho6 (.inl ⟨rfl, fun x e => by cases e⟩) NI6.out (fun p hp e => by cases hp; have h9 := MQ.out.tH _ e; simp only [] at h9; omega) ⟨fun _ => rfl, fun e => by cases e⟩)
      have BB9 := kide (Below.grown BB6.out hg6 BB6.out.size (fun j hj => (M6.out.row.lt hj).1))
      obtain ⟨lm, hlm⟩ : ∃ lm, l.length + 1 + 1 = lm := ⟨_, rfl⟩
      have HLM : Hid (lm = l.length + 2) := hlm.symm
      rw [hlm] at M9 ⊢
      clear hlm hg6 ho6 hat6 M6 BB6 NI6 HTA6 q0 q1 q2 k2 k3 k1 hl5
      obtain ⟨LP, hLP⟩ : ∃ LP, l.length + 1 = LP := ⟨_, rfl⟩
      rw [hLP] at HS2
      have k4 : wrap64 ((lm : Int) - 1) = (LP : Int) := by unfold wrap64; have := HLM.out; have := HLN.out; omega
      clear hLP
      have hb7 : Below w6.heap.size w6 (w6.alloc (Obj.cells #[.int .i64 (LP : Int)] 2)) := blA _ _
      have M7 := kide (M9.out.later hb7)
      have BB7 := kide (BB9.out.trans (hb7.mono BB9.out.size))
      have HC7 : Hid ((w6.alloc (Obj.cells #[.int .i64 (LP : Int)] 2)).cell? ⟨w6.heap.size, 0, none⟩ = some (.int .i64 (LP : Int))) := (Bz.new w6 #[.int .i64 (LP : Int)] 2).cell 0
      clear hb7
      go_wp2_with (at_builtin; refine wpList_appI rfl _ _ rfl w1.heap.size u7 to (LP : Int) (by first | rfl | simp [Act.eval]) M7.out.ot w6.heap.size 1 (by first | rfl | simp [Act.eval]) HC7.out (by have := HKN.out; omega) BB7.out.size ?_)
      intro g8 cap8 w8 ho8 hg8 hat8
      have M8 := kide (M7.out.told hg8 ho8 (by rcases hat8 with h | h; exact .inl h.symm; exact .inr (congrArg some (by simpa using h))))
      have BB8 := kide (Below.grown BB7.out hg8 BB7.out.size (fun j hj => (M7.out.ot.lt hj).1))
      clear ho8 hg8 hat8 M7 BB7 HC7
      go_wp2_with fail
      rw [HJW.out]
      go_roundw
      case rel => exact ⟨j, _, by omega, rfl, by rw [HS2.out]; exact M8.out, BB8.out⟩
      case measure => simp only [intOf]; omega
     ·skip
      have HS2 : Hid (unfTo ds ((xs.map Sg.ct).drop j) = (st1 ++ [⟨1, (vn : Int), 0, 0, 0, [], []⟩], to ++ [((l.length : Nat) : Int)])) := by
       show _ = _
       rw [HUD.out, unf1, if_neg hv, if_neg (by rw [HDW.out]; omega)]
       have h9 := HLL.out
       rw [List.length_append, List.length_singleton, h9]
       congr 3
       omega
      have hb1 : Below wr.heap.size wr ((wr.alloc (Obj.cells #[.int .i64 (vn : Int), .int .i64 lo, .int .i64 wd, .int .i64 bw, .slice wa nw wc] 73)).alloc (Obj.cells #[.int .i64 1, .int .i64 (vn : Int), .int .i64 (0), .int .i64 0, .int .i64 0, .slice none 0 0, .slice none 0 0] 67)) := (blA _ _).alloc (by simp) _
      have M1 := kide (HM.out.later hb1)
      have BB1 := kide (BB.out.trans (hb1.mono BB.out.size))
      have XS1 : Hid (Bz ((wr.alloc (Obj.cells #[.int .i64 (vn : Int), .int .i64 lo, .int .i64 wd, .int .i64 bw, .slice wa nw wc] 73)).alloc (Obj.cells #[.int .i64 1, .int .i64 (vn : Int), .int .i64 (0), .int .i64 0, .int .i64 0, .slice none 0 0, .slice none 0 0] 67)) wr.heap.size #[.int .i64 (vn : Int), .int .i64 lo, .int .i64 wd, .int .i64 bw, .slice wa nw wc] 73) := (Bz.new wr _ _).later (blA _ _)
      have HTA1 : Hid (ThAt ((wr.alloc (Obj.cells #[.int .i64 (vn : Int), .int .i64 lo, .int .i64 wd, .int .i64 bw, .slice wa nw wc] 73)).alloc (Obj.cells #[.int .i64 1, .int .i64 (vn : Int), .int .i64 (0), .int .i64 0, .int .i64 0, .slice none 0 0, .slice none 0 0] 67)) (wr.heap.size + 1) 0 (Tg.hd ⟨⟨1, (vn : Int), 0, 0, 0, [], []⟩, none, 0, none, 0⟩)) := by
       have h9 := Bz.new (wr.alloc (Obj.cells #[.int .i64 (vn : Int), .int .i64 lo, .int .i64 wd, .int .i64 bw, .slice wa nw wc] 73)) #[.int .i64 1, .int .i64 (vn : Int), .int .i64 (0), .int .i64 0, .int .i64 0, .slice none 0 0, .slice none 0 0] 67
       rw [show (wr.alloc (Obj.cells #[.int .i64 (vn : Int), .int .i64 lo, .int .i64 wd, .int .i64 bw, .slice wa nw wc] 73)).heap.size = wr.heap.size + 1 by simp] at h9
       simp only [Tg.hd, ThAt, HNW.out, List.length_nil]
       exact ⟨h9.cell 0, h9.cell 1, h9.cell 2, h9.cell 3, h9.cell 4, h9.cell 5, h9.cell 6⟩
      clear hb1
      go_wp2_with (at_builtin; refine wpList_appT7 rfl _ _ rfl w1.heap.size u6 l ⟨⟨1, (vn : Int), 0, 0, 0, [], []⟩, none, 0, none, 0⟩ (by first | rfl | simp [Act.eval]) M1.out.row (wr.heap.size + 1) 1 (by first | rfl | simp [Act.eval]) HTA1.out (by have := HLN.out; omega) (Nat.le_trans M1.out.BH M1.out.hH) ?_)
      intro g5 cap5 w5 ho5 hg5 hat5
      have M5 := kide (M1.out.pushO hg5 ho5 ⟨⟨by simp, by simp, .inl rfl⟩, by simp, by simp, .inl rfl⟩ ⟨fun _ => rfl, fun _ => rfl⟩)
      have BB5 := kide (Below.grown BB1.out hg5 BB1.out.size (fun j hj => (M1.out.row.lt hj).1))
      have XS5 : Hid (Bz w5 wr.heap.size #[.int .i64 (vn : Int), .int .i64 lo, .int .i64 wd, .int .i64 bw, .slice wa nw wc] 73) := by
       show _ = _
       rw [hg5.block _ XS1.out.lt (fun e => by obtain ⟨c9, h9⟩ := M1.out.row.typed e.symm; have h8 := XS1.out; unfold Bz at h8; rw [h8] at h9; simp at h9)]
       exact XS1.out
      obtain ⟨ln, hln⟩ : ∃ ln, l.length + 1 = ln := ⟨_, rfl⟩
      have HL5 := kide hln
      rw [hln] at M5 ⊢
      clear hln hg5 ho5 hat5 M1 BB1 XS1 HTA1 HM BB p0 p1 p2 p3 p4
      have q0 := XS5.out.cell 0
      have q1 := XS5.out.cell 1
      have q2 := XS5.out.cell 2
      simp at q0 q1 q2
      have q3 := HDA.out w5 M5.out.bl
      go_wp2_with fail
      go_quiet (fail)
      have hbq : Below w5.heap.size w5 (w5.drewN nq) := below_drewN (Below.refl _ _) _
      have MQ := kide ((M5.out.later hbq).now)
      have BBQ := kide (BB5.out.trans (hbq.mono BB5.out.size))
      have XSQ := kide (XS5.out.later hbq)
      clear hbq q0 q1 q2 q3 M5 BB5 XS5
      generalize w5.drewN nq = wq at *
      have q0 := XSQ.out.cell 0
      have q1 := XSQ.out.cell 1
      have q2 := XSQ.out.cell 2
      simp at q0 q1 q2
      have hb7 : Below wq.heap.size wq (wq.alloc (Obj.cells #[.int .i64 ((l.length : Nat) : Int)] 2)) := blA _ _
      have M7 := kide (MQ.out.later hb7)
      have BB7 := kide (BBQ.out.trans (hb7.mono BBQ.out.size))
      have HC7 : Hid ((wq.alloc (Obj.cells #[.int .i64 ((l.length : Nat) : Int)] 2)).cell? ⟨wq.heap.size, 0, none⟩ = some (.int .i64 ((l.length : Nat) : Int))) := (Bz.new wq #[.int .i64 ((l.length : Nat) : Int)] 2).cell 0
      clear hb7
      have k1 : wrap64 ((ln : Int) - 1) = ((l.length : Nat) : Int) := by unfold wrap64; have := HL5.out; have := HLN.out; omega
      go_wp2_with (at_builtin; refine wpList_appI rfl _ _ rfl w1.heap.size u7 to ((l.length : Nat) : Int) (by first | rfl | simp [Act.eval]) M7.out.ot wq.heap.size 1 (by first | rfl | simp [Act.eval]) HC7.out (by have := HKN.out; omega) BB7.out.size ?_)
      intro g8 cap8 w8 ho8 hg8 hat8
      have M8 := kide (M7.out.told hg8 ho8 (by rcases hat8 with h | h; exact .inl h.symm; exact .inr (congrArg some (by simpa using h))))
      have BB8 := kide (Below.grown BB7.out hg8 BB7.out.size (fun j hj => (M7.out.ot.lt hj).1))
      clear ho8 hg8 hat8 M7 BB7 HC7
      go_wp2_with fail
      rw [HJW.out]
      go_roundw
      case rel => exact ⟨j, _, by omega, rfl, by rw [HS2.out]; exact M8.out, BB8.out⟩
      case measure => simp only [intOf]; omega

theorem unfR_ok {ds : List Dc} {fs : List Sc} (hds : ds.length ≤ 1048576) (hfs : ∀ s ∈ fs, in64 s.bw ∧ s.ws.length ≤ 1048576 ∧ ∀ y ∈ s.ws, y < 18446744073709551616) : (unfR ds fs).1.length ≤ 1048576 ∧ ∀ y ∈ (unfR ds fs).1, okT y := by
 have hi : ∀ z : Int, 0 ≤ z → z ≤ 10000000 → in64 z := fun z h1 h2 => ⟨by omega, by omega⟩
 unfold unfR
 by_cases hf : flatR ds fs = true
 ·rw [if_pos hf]
  by_cases hl : (shAll (unfN ds fs)).1.length ≤ 400
  ·rw [if_pos hl]
   refine ⟨by simp only; omega, ?_⟩
   have h2 : fs.length ≤ 2000 := by
    have h9 := hf
    simp only [flatR, Bool.and_eq_true, decide_eq_true_eq] at h9
    exact h9.1.1.2
   have hu : ∀ n ∈ (unfTo ds fs).1, okT n := unf_ok hds fs h2 fun s hs => by
    obtain ⟨j, hj, e⟩ := List.getElem_of_mem hs
    exact ⟨flat_sg hf (j := j) (by rw [List.getElem?_eq_getElem hj, e]), hfs s hs⟩
   have hP : ∀ n ∈ unfN ds fs, okT n := by
    intro n hn
    unfold unfN at hn
    split at hn
    ·rcases List.mem_append.1 hn with hn | hn
     ·exact hu n hn
     ·simp at hn
      subst hn
      have h7 := unfTo_len ds fs
      refine ⟨hi 3 (by omega) (by omega), hi 0 (by omega) (by omega), hi 0 (by omega) (by omega), hi 0 (by omega) (by omega), hi 0 (by omega) (by omega), by simp, by simp, by simp only; omega, fun y hy => ?_⟩
      have h8 := unfTo_kids ds fs y hy
      exact hi _ h8.1 (by omega)
    ·exact hu n hn
   have G := shTo_f (unfN_ahead ds fs) _ (Nat.le_refl _)
   exact fun y hy => fm_ok (G.fm y hy) hP (N := (shAll (unfN ds fs)).1.length) (by omega) (G.ks y hy)
  ·rw [if_neg hl]; simp
 ·rw [if_neg hf]; simp

end Go.Proofs.YtnpjgoklpaigjaaGreatDoor
