/- Several texts in one. -/
import Derived.Test.YtkngpgonmedgpaaGreatDoorGBC
import Derived.Test.YtkngpgonmedgpaaGreatDoorEVB
import Derived.Test.YtkngpgonmedgpaaGreatDoorGAO
import Derived.Test.YtkngpgonmedgpaaGreatDoorIG
import Derived.Test.YtkngpgonmedgpaaGreatDoorGAP
import Derived.Handy
import Derived.Test.YtkngpgonmedgpaaGreatDoorGAM
import Derived.Test.YtkngpgonmedgpaaGreatDoorGBB
import Derived.Test.YtkngpgonmedgpaaGreatDoorGAK
namespace Go.Proofs.YtkngpgonmedgpaaGreatDoor
open Go.RowKit
set_option linter.unusedVariables false
set_option linter.unusedSimpArgs false
def pick (l : List Bw) (ks : List Int) : List Bw := ks.map fun k => l.getD k.toNat ⟨0, none, 0, []⟩
theorem pick_ct (l : List Bw) (ks : List Int) (h : ∀ j ∈ ks, 0 ≤ j ∧ j < (l.length : Int)) : (pick l ks).map Bw.ct = kidsV (l.map Bw.ct) ks := by
 simp only [pick, kidsV, List.map_map]
 refine List.map_congr_left fun k hk => ?_
 have := h k hk
 have hl : k.toNat < l.length := by omega
 simp [List.getD, hl]
theorem pick_take {l : List Bw} {ks : List Int} {i : Nat} {k : Int} (h : ks[i]? = some k) : pick l (ks.take (i + 1)) = pick l (ks.take i) ++ [l.getD k.toNat ⟨0, none, 0, []⟩] := by
 simp [pick, List.take_add_one, h]
set_option maxHeartbeats 8000000 in
set_option maxRecDepth 100000 in
theorem l4Eval_any (va b : Option Addr) (vc c2 n : Nat) (ds : List Dc) (vs : List Bw) (xs : List Tg) (w : World) (hv : RdW w va vs) (hs : RdT w b xs) (hn : xs.length = n) (hW : ¬ (widthsR ds (xs.map Tg.ct)).length = 0) (hV : valR ds (vs.map Bw.ct) = true) :
  Calls Tryz.prog 41 #[.slice va vs.length vc, .agg #[.slice b n c2]] w (RetV w (evalR (vs.map Bw.ct) (xs.map Tg.ct))) := by
 have HAT0 := kide (fun (k : Nat) (m : Tc) hk => ev_at hW hV hv.words hs.words (k := k) (n := m) hk)
 have hR := eval_ok hW hV hv.words hs.words
 obtain ⟨hl1, hl2, -, -⟩ := right_kids hW
 rw [List.length_map, hn] at hl1 hl2
 have HV := kide hv
 have HS := kide hs
 have HN := kide hn
 obtain ⟨ns, hns⟩ : ∃ ns, xs.map Tg.ct = ns := ⟨_, rfl⟩
 rw [hns] at HAT0 hR ⊢
 have HNS := kide hns
 have hln : Hid (ns.length = n) := by show _ = _; rw [← HNS.out]; simpa using HN.out
 obtain ⟨R, hRe⟩ : ∃ R, evalR (vs.map Bw.ct) ns = R := ⟨_, rfl⟩
 rw [hRe] at hR ⊢
 have HRE := kide hRe
 have HRO := kide hR
 clear hv hs hn hW hV hns hRe hR
 have XR : Hid (Bz ((w.alloc (Obj.cells #[.slice b n c2] 28)).alloc (Obj.cells #[.int .i64 0, .slice none 0 0] 80)) (w.heap.size + 1) #[.int .i64 0, .slice none 0 0] 80) := by
  have := Bz.new (w.alloc (Obj.cells #[.slice b n c2] 28)) #[.int .i64 0, .slice none 0 0] 80
  rw [World.size_alloc] at this
  exact this
 have XT : Hid (Bz ((w.alloc (Obj.cells #[.slice b n c2] 28)).alloc (Obj.cells #[.int .i64 0, .slice none 0 0] 80)) w.heap.size #[.slice b n c2] 28) := (Bz.new w #[.slice b n c2] 28).later ((Below.refl _ _).alloc (Nat.le_refl _) _)
 have BL : Hid (Below w.heap.size w ((w.alloc (Obj.cells #[.slice b n c2] 28)).alloc (Obj.cells #[.int .i64 0, .slice none 0 0] 80))) := Ba (Ba (Below.refl _ _) _) _
 have hsz : ((w.alloc (Obj.cells #[.slice b n c2] 28)).alloc (Obj.cells #[.int .i64 0, .slice none 0 0] 80)).heap.size = w.heap.size + 2 := by simp
 have hb4 : Below ((w.alloc (Obj.cells #[.slice b n c2] 28)).alloc (Obj.cells #[.int .i64 0, .slice none 0 0] 80)).heap.size ((w.alloc (Obj.cells #[.slice b n c2] 28)).alloc (Obj.cells #[.int .i64 0, .slice none 0 0] 80)) (((w.alloc (Obj.cells #[.slice b n c2] 28)).alloc (Obj.cells #[.int .i64 0, .slice none 0 0] 80)).alloc (Obj.cells #[] 80)) := (Below.refl _ _).alloc (Nat.le_refl _) _
 have O0 := OB2.fresh ((w.alloc (Obj.cells #[.slice b n c2] 28)).alloc (Obj.cells #[.int .i64 0, .slice none 0 0] 80)) (w.heap.size + 2) (by rw [hsz]; exact Nat.le_refl _)
 have E0 : Hid (Es w b n c2 (((w.alloc (Obj.cells #[.slice b n c2] 28)).alloc (Obj.cells #[.int .i64 0, .slice none 0 0] 80)).alloc (Obj.cells #[] 80)) (.slice (some ⟨((w.alloc (Obj.cells #[.slice b n c2] 28)).alloc (Obj.cells #[.int .i64 0, .slice none 0 0] 80)).heap.size, 0, none⟩) 0 0) []) := ⟨XT.out.later hb4, XR.out.later hb4, O0, by simp, BL.out.trans (hb4.mono BL.out.size)⟩
 rw [hsz] at E0
 clear XR XT BL hsz hb4 O0
 go_enter Tryz.func41, Tryz.ntmps41
 go_wp2_with fail
 generalize ((w.alloc (Obj.cells #[.slice b n c2] 28)).alloc (Obj.cells #[.int .i64 0, .slice none 0 0] 80)).alloc (Obj.cells #[] 80) = w4 at *
 go_loopw [5, 6] (fun o q wr => ∃ (k : Nat) (l : List Bw), k ≤ n ∧ q = .int .i64 (k : Int) ∧ l.map Bw.ct = evR (vs.map Bw.ct) (ns.take k) ∧ Es w b n c2 wr o l) (fun _ q _ => n - (intOf q).toNat)
 case atStart => exact ⟨0, [], Nat.zero_le _, rfl, by simp [evR], E0.out⟩
 case round =>
  obtain ⟨k, l, hk, rfl, hlc0, hES⟩ := hrel
  have hlc := kide hlc0
  have ES := kide hES
  have hll : Hid (l.length = k) := by
   have h := congrArg List.length hlc0
   rw [List.length_map, ev_len, List.length_take, hln.out] at h
   show _ = _
   omega
  have g0 : wr.cell? ⟨w.heap.size, 0, none⟩ = some (.slice b n c2) := ES.out.xt.cell 0
  have hokl : Hid (∀ y ∈ l, Rd wr y.a y.ws ∧ in64 y.wd) := fun y hy => by
   obtain ⟨j, hj, rfl⟩ := List.mem_iff_getElem.1 hy
   have hjm : j < ns.length := by rw [hln.out]; rw [hll.out] at hj; omega
   have ho := (HAT0.out j ns[j] (List.getElem?_eq_getElem hjm)).is
   have hc : (l[j]).ct = nodV (vs.map Bw.ct) (evR (vs.map Bw.ct) (ns.take j)) ns[j] := by
    have h1 : (l.map Bw.ct)[j]? = some (l[j]).ct := by rw [List.getElem?_map, List.getElem?_eq_getElem hj]; rfl
    rw [hlc0, ev_pre _ _ k j (by rw [hll.out] at hj; exact hj)] at h1
    have h2 := ev_pre (vs.map Bw.ct) ns (j + 1) j (by omega)
    rw [ev_take (vs := vs.map Bw.ct) (List.getElem?_eq_getElem hjm), List.getElem?_append_right (by rw [ev_len, List.length_take]; omega), ev_len, List.length_take, show j - min j ns.length = 0 by omega] at h2
    rw [h1] at h2
    simpa using h2.symm
   rw [← hc] at ho
   have hr := right_W ho.1
   simp only [Bw.ct] at hr ho
   exact ⟨(ES.out.ek _ hy).1, by unfold in64; omega⟩
  clear hlc0 hES E0
  by_cases hlt : k < n
  ·have i0 : (k : Int) < (n : Int) := by omega
   obtain ⟨⟨s1, wa, wc, ka, kc⟩, gx⟩ : ∃ x, xs[k]? = some x := ⟨xs[k]'(by rw [HN.out]; exact hlt), List.getElem?_eq_getElem _⟩
   have gn : ns[k]? = some s1 := by rw [← HNS.out, List.getElem?_map, gx]; rfl
   obtain ⟨-, h | ⟨b3, o3, rfl, hc⟩⟩ := HS.out
   ·rw [h] at gx; simp at gx
   obtain ⟨⟨p0, p1, p2, p3, p4, p5, p6⟩, pr, pk, q1, q2, q3, -⟩ := hc k _ gx
   simp only [Tg.hd] at p0 p1 p2 p3 p4 p5 p6 pr pk q1 q2 q3
   have HX := kide (ev_take (vs := vs.map Bw.ct) gn)
   have HAT := kide (HAT0.out k s1 gn)
   obtain ⟨op, vr, A, B, bw, ws, ks⟩ := s1
   simp only [] at p0 p1 p2 p3 p4 p5 p6 pr pk q1 q2 q3
   have hkid : Hid (∀ j ∈ ks, 0 ≤ j ∧ j < (l.length : Int)) := fun j hj => by
    have := HAT.out.kid j hj
    rw [← hlc.out, List.length_map] at this
    exact this
   have HCT := kide (pick_ct l ks hkid.out)
   rw [hlc.out] at HCT
   have hks := pk.1
   have HC2 := kide (fun k2 kc2 u (hu : Below w.heap.size w u) (hkk : RdW u k2 (pick l ks)) => l4Node_all va k2 wa ka vc kc2 wc kc vs (pick l ks) ⟨op, vr, A, B, bw, ws, ks⟩ (evR (vs.map Bw.ct) (ns.take k)) w u HAT.out HV.out hu HCT.out hkk pr q3)
   simp only [nodA] at HC2
   generalize hX : nodV (vs.map Bw.ct) (evR (vs.map Bw.ct) (ns.take k)) ⟨op, vr, A, B, bw, ws, ks⟩ = X at HC2 HX
   obtain ⟨wl, hwl⟩ : ∃ m, ws.length = m := ⟨_, rfl⟩
   obtain ⟨kl, hkl⟩ : ∃ m, ks.length = m := ⟨_, rfl⟩
   have hpl : Hid ((pick l ks).length = kl) := by show _ = _; simp [pick, hkl]
   rw [hpl.out] at HC2
   rw [hwl, hkl] at HC2
   rw [hwl] at p5
   rw [hkl] at p6 hks
   have HKL := kide hkl
   have HPK := kide pk
   have d0 := (ES.out.bel.cell (p := ⟨b3, o3 + k * 7, none⟩) (block_lt_of_cell p0)).trans p0
   have d1 := (ES.out.bel.cell (p := ⟨b3, o3 + k * 7 + 1, none⟩) (block_lt_of_cell p1)).trans p1
   have d2 := (ES.out.bel.cell (p := ⟨b3, o3 + k * 7 + 2, none⟩) (block_lt_of_cell p2)).trans p2
   have d3 := (ES.out.bel.cell (p := ⟨b3, o3 + k * 7 + 3, none⟩) (block_lt_of_cell p3)).trans p3
   have d4 := (ES.out.bel.cell (p := ⟨b3, o3 + k * 7 + 4, none⟩) (block_lt_of_cell p4)).trans p4
   have d5 := (ES.out.bel.cell (p := ⟨b3, o3 + k * 7 + 5, none⟩) (block_lt_of_cell p5)).trans p5
   have d6 := (ES.out.bel.cell (p := ⟨b3, o3 + k * 7 + 6, none⟩) (block_lt_of_cell p6)).trans p6
   obtain ⟨av, cv, hvo, hrw⟩ := ES.out.row.rd (by rw [hll.out]; omega) hokl.out
   rw [hll.out] at hvo
   subst hvo
   have HRW := kide hrw
   clear hc gx gn pr pk hwl hkl q1 q2 q3 HAT0 HAT hX p0 p1 p2 p3 p4 p5 p6 hrw
   go_wp2_with fail
   obtain ⟨wo, hwo⟩ : ∃ wo, wo = wr := ⟨_, rfl⟩
   subst hwo
   go_loopw [7, 8] (fun o2 q wr' => ∃ i : Nat, i ≤ kl ∧ q = .int .i64 (i : Int) ∧ OB2 wr' wo.heap.size o2 (pick l (ks.take i)) ∧ Below wo.heap.size wo wr') (fun _ q _ => kl - (intOf q).toNat)
   case atStart => exact ⟨0, Nat.zero_le _, rfl, by simpa [pick] using OB2.fresh wo wo.heap.size (Nat.le_refl _), (Below.refl _ _).alloc (Nat.le_refl _) _⟩
   case round =>
    obtain ⟨i, hi, rfl, hown, hb'⟩ := hrel
    have HO := kide hown
    have HB := kide hb'
    have c0 := (kcell hb' _ _ (block_lt_of_cell g0)).trans g0
    have c6 := (kcell hb' _ _ (block_lt_of_cell d6)).trans d6
    by_cases hil : i < kl
    ·have j0 : (i : Int) < (kl : Int) := by omega
     obtain ⟨-, -, h | ⟨kb, ko, rfl, hkc⟩⟩ := (HPK.out.later ES.out.bel).later hb'
     ·have := HKL.out; subst h; simp at this; omega
     have q0 := hkc i (by rw [HKL.out]; exact hil)
     have hki : ks[i]? = some (ks.getD i 0) := by rw [List.getElem?_eq_getElem (by rw [HKL.out]; exact hil)]; simp [List.getD, show i < ks.length by rw [HKL.out]; exact hil]
     have hkr := hkid.out (ks.getD i 0) (List.mem_of_getElem? hki)
     have HPT := kide (pick_take (l := l) hki)
     obtain ⟨j, hj, hjk⟩ : ∃ j : Nat, ks.getD i 0 = (j : Int) ∧ j < l.length := ⟨(ks.getD i 0).toNat, by omega, by omega⟩
     rw [hj] at q0 HPT
     rw [Int.toNat_natCast] at HPT
     obtain ⟨-, h | ⟨ab, ao, rfl, hac⟩⟩ := HRW.out.later hb'
     ·rw [h] at hjk; simp at hjk
     obtain ⟨x, hx⟩ : ∃ x, l[j]? = some x := ⟨l[j], List.getElem?_eq_getElem hjk⟩
     obtain ⟨e0, e1, -, -⟩ := hac j x hx
     have hgx : l.getD j ⟨0, none, 0, []⟩ = x := by simp [List.getD, hx]
     rw [hgx] at HPT
     have jk : (j : Int) < (k : Int) := by rw [hll.out] at hjk; omega
     obtain ⟨wd, xa, xc, xs'⟩ := x
     simp only [] at e0 e1 HPT
     have hul : (pick l (ks.take i)).length ≤ 1073741824 := by simp [pick]; omega
     clear hkc hac hki hkr hj hx hgx hown hb'
     go_wp2_with (at_builtin; refine wpList_appB2E _ rfl _ _ rfl wo.heap.size _ (pick l (ks.take i)) ⟨wd, xa, xc, xs'⟩ rfl (HO.out.later ((Below.refl _ _).alloc (Nat.le_refl _) _)) wr.heap.size 1 rfl (by simp) (by simp) hul (by have := HB.out.size; simp; omega) ?_)
     intro v7 w7 hos hg
     have B7 := kide ((HB.out.trans (((Below.refl _ _).alloc (Nat.le_refl _) (Obj.cells #[.int .i64 wd, .slice xa xs'.length xc] 80)).mono HB.out.size)).grown hg (by have := HB.out.size; simp; omega) (fun b hb => (HO.out.lt hb).1))
     have O7 := kide hos
     clear hos hg c0 c6 e0 e1 q0
     go_wp2_with fail
     go_roundw
     case rel => exact ⟨i + 1, by omega, by go_num, by rw [HPT.out]; exact O7.out, B7.out⟩
     case measure => simp [intOf]; omega
    ·have hfin : Hid (ks.take i = ks) := by show _ = _; rw [List.take_of_length_le (by rw [HKL.out]; omega)]
     rw [hfin.out] at HO
     obtain ⟨ka2, kc2', hvo2, hrk⟩ := HO.out.rd (by rw [hpl.out]; exact hks) (fun y hy => by
      simp only [pick, List.mem_map] at hy
      obtain ⟨j, hj, rfl⟩ := hy
      have hj2 := hkid.out j hj
      have hjl : j.toNat < l.length := by omega
      have hm : l.getD j.toNat ⟨0, none, 0, []⟩ ∈ l := by rw [List.getD, List.getElem?_eq_getElem hjl]; exact List.getElem_mem hjl
      exact ⟨(hokl.out _ hm).1.later hb', (hokl.out _ hm).2⟩)
     rw [hpl.out] at hvo2
     subst hvo2
     have hBW := ES.out.bel.trans (hb'.mono ES.out.bel.size)
     have HCALL := kide (HC2.out ka2 kc2' wr hBW hrk)
     have f0 := (kcell hb' _ _ (block_lt_of_cell d0)).trans d0
     have f1 := (kcell hb' _ _ (block_lt_of_cell d1)).trans d1
     have f2 := (kcell hb' _ _ (block_lt_of_cell d2)).trans d2
     have f3 := (kcell hb' _ _ (block_lt_of_cell d3)).trans d3
     have f4 := (kcell hb' _ _ (block_lt_of_cell d4)).trans d4
     have f5 := (kcell hb' _ _ (block_lt_of_cell d5)).trans d5
     have ES2 := kide (ES.out.later hb')
     clear hfin hBW hrk hown hb' HC2 hokl HRW HPK
     go_wp2_with fail
     refine Calls.mono HCALL.out ?_
     rintro e w5 ⟨a5, c5, rfl, hek, hb5⟩
     have ES5 := kide (ES2.out.later hb5)
     have EK5 := kide hek
     have hul : l.length ≤ 1073741824 := by rw [hll.out]; omega
     clear hb5 hek ES2 f0 f1 f2 f3 f4 f5 c0 c6 HCALL
     go_wp2_with (at_builtin; refine wpList_appB2E _ rfl _ _ rfl (w.heap.size + 2) _ l ⟨X.1, a5, c5, X.2⟩ rfl (ES5.out.row.later ((Below.refl _ _).alloc (Nat.le_refl _) _)) w5.heap.size 1 rfl (by simp) (by simp) hul (by have := ES5.out.xr.lt; simp; omega) ?_)
     intro v7 w7 hos hg
     have ES7 := kide ((ES5.out.later ((Below.refl _ _).alloc (Nat.le_refl _) (Obj.cells #[.int .i64 X.1, .slice a5 X.2.length c5] 80))).grown hg hos (EK5.out.later ES5.out.bel.size ((Below.refl _ _).alloc (Nat.le_refl _) _)))
     clear hos hg
     go_wp2_with fail
     go_roundw
     case rel => exact ⟨k + 1, l ++ [⟨X.1, a5, c5, X.2⟩], by omega, by go_num, by rw [List.map_append, hlc.out, HX.out]; rfl, ES7.out⟩
     case measure => simp [intOf]; omega
  ·have e : k = n := by omega
   subst e
   have hfin : Hid (ns.take k = ns) := by show _ = _; rw [List.take_of_length_le (by rw [hln.out]; omega)]
   have hlc2 := hlc.out
   rw [hfin.out] at hlc2
   obtain ⟨m, rfl⟩ : ∃ m, k = m + 1 := ⟨k - 1, by omega⟩
   obtain ⟨x, hx⟩ : ∃ x, l[m]? = some x := ⟨l[m]'(by rw [hll.out]; omega), List.getElem?_eq_getElem _⟩
   have hxR : x.ct = R := by
    have h := HRE.out
    unfold evalR at h
    rw [← hlc2, hln.out, show m + 1 - 1 = m by omega, List.getD, List.getElem?_map, hx] at h
    simpa using h
   have hrx := (hokl.out x (List.mem_of_getElem? hx)).1
   have hRO := HRO.out
   rw [← hxR] at hRO
   have hne := len_ok hRO
   obtain ⟨av, cv, hv, hrw⟩ := ES.out.row.rd (by rw [hll.out]; omega) hokl.out
   rw [hll.out] at hv
   subst hv
   obtain ⟨-, h | ⟨ab, ao, rfl, hac⟩⟩ := hrw
   ·rw [h] at hx; simp at hx
   obtain ⟨d0, d1, -, -⟩ := hac m x hx
   obtain ⟨wd, xa, xc, ys⟩ := x
   simp only [Bw.ct] at hxR d0 d1 hrx hne
   have HXR := kide hxR
   have hbl : Below wr.heap.size wr (wr.alloc (Obj.cells #[.int .i64 wd, .slice xa ys.length xc] 80)) := (Below.refl _ _).alloc (Nat.le_refl _) _
   have XL := kide (Bz.new wr #[.int .i64 wd, .slice xa ys.length xc] 80)
   have ES9 := kide (ES.out.later hbl)
   have hr9 := hrx.later hbl
   obtain ⟨hyl, hyb, h | ⟨bx, ox, rfl, hcx⟩⟩ := hr9
   ·rw [h] at hne; simp at hne
   have e1 : (((m + 1 : Nat) : Int) - 1) = (m : Int) := by omega
   have e2 : (m : Int) < ((m + 1 : Nat) : Int) := by omega
   have lB := ES.out.xr.lt
   clear hac hx hxR hlc2 hfin HAT0 hrx hRO hokl
   go_wp2_with fail
   obtain ⟨lb, hlb⟩ : ∃ x, wr.heap.size = x := ⟨_, rfl⟩
   rw [hlb] at XL lB ⊢
   generalize wr.alloc (Obj.cells #[.int .i64 wd, .slice (some ⟨bx, ox, none⟩) ys.length xc] 80) = w9 at *
   have y0 : w9.cell? ⟨lb, 0, none⟩ = some (.int .i64 wd) := XL.out.cell 0
   have y1 : w9.cell? ⟨lb, 1, none⟩ = some (.slice (some ⟨bx, ox, none⟩) ys.length xc) := XL.out.cell 1
   have lL := XL.out.lt
   have hbE : Below w9.heap.size w9 (w9.alloc (Obj.cells #[] 109)) := (Below.refl _ _).alloc (Nat.le_refl _) _
   have HCE := kide (fun i (hi : i < ys.length) => (kcell hbE _ _ (block_lt_of_cell (hcx i hi))).trans (hcx i hi))
   have z0 := (kcell hbE _ _ lL).trans y0
   have z1 := (kcell hbE _ _ lL).trans y1
   clear hcx d0 d1 g0 hlb hbl
   have hoE : OwW (w9.alloc (Obj.cells #[] 109)).drew w9.heap.size (.slice (some ⟨w9.heap.size, 0, none⟩) 0 0) [] := OwW.empty w9 w9.heap.size w9.heap.size rfl (Nat.le_refl _)
   go_region_held_law (fun z => z.cell? ⟨lb, 0, none⟩ = some (Value.int IntKind.i64 wd) ∧ z.cell? ⟨lb, 1, none⟩ = some (Value.slice (some ⟨bx, ox, none⟩) ys.length xc))
    (first | (refine ⟨?_, ?_⟩ <;> assumption) | (refine ⟨?_, ?_⟩ <;> ((first | rw [set2_far _ _ _ _ _ (by simp only []; omega)] | rw [drew2_far _ _ _ _ _ (by simp only []; omega)]); assumption)))
    (first
     | (refine step_appWs _ rfl _ _ rfl w9.heap.size (.slice (some ⟨w9.heap.size, 0, none⟩) 0 0) [] ys rfl hoE bx ox xc rfl HCE.out (by simp; omega) (by show w9.heap.size ≤ (w9.alloc (Obj.cells #[] 109)).heap.size; simp) ?_; intro v5 w5 how5 hgr5; have hb5 : Below w9.heap.size w9 w5 := hbE.trans (kundrew (Below.grown (Below.refl w9.heap.size (w9.alloc (Obj.cells #[] 109)).drew) hgr5 (by show w9.heap.size ≤ (w9.alloc (Obj.cells #[] 109)).heap.size; simp) (fun k e => by cases e; exact Nat.le_refl _))); rw [List.nil_append] at how5; obtain ⟨a5, c5, rfl, hn5⟩ := how5.shape; have ES5 := ES9.out.later hb5; have y05 := (kcell hb5 _ _ lL).trans y0; have y15 := (kcell hb5 _ _ lL).trans y1; have r0 := ES5.xr.cell 0; have r1 := ES5.xr.cell 1; have f50 := ES5.xr.froz 0; have f51 := ES5.xr.froz 1; simp at r0 r1))
   go_wp2
   obtain ⟨x0, x1⟩ := ((Bz.blk ES5.xr).put0' (.int .i64 wd)).put1' (.slice a5 ys.length c5) |>.cells
   rw [← HXR.out]
   have HE := RetV.box (u := w) (W := wd) (c := c5) (Bz.blk ES5.xr) hn5 ES9.out.bel.size (Nat.le_succ _) ES5.bel
   refine bodyPost_ret (v := .agg #[.int .i64 wd, .slice a5 ys.length c5]) (by simp [results, Tryz.results41, go_sem, x0, x1]) rfl ?_
   first | exact HE | exact ⟨a5, c5, rfl, (by obtain ⟨a', c', he, h, -⟩ := HE; cases he; exact h), (by obtain ⟨-, -, -, -, h⟩ := HE; exact h.drew)⟩

def hldR (vs : List Wd) (l : Lc) : Bool := decide (evalR vs l.ss = evalR vs l.ts) == l.eq
theorem sameB_ok {x y : Wd} (hx : okWd x) (hy : okWd y) : sameB x.1 x.2 y.1 y.2 = decide (x = y) := by
 unfold sameB
 rw [hx.1, hy.1]
 obtain ⟨a, b⟩ := x
 obtain ⟨c, d⟩ := y
 simp only [Bool.true_and, Prod.mk.injEq]
 by_cases h1 : a = c <;> by_cases h2 : b = d <;> simp [h1, h2]
set_option maxHeartbeats 2000000 in
set_option maxRecDepth 100000 in
theorem holdsBy_any (va : Option Addr) (vc : Nat) (ds : List Dc) (vs : List Bw) (x : Lg) (w : World) (hv : RdW w va vs) (hs : RdT w x.sa x.ss) (ht : RdT w x.ta x.ts) (hV : valR ds (vs.map Bw.ct) = true) (hS : ¬ (widthsR ds (x.ss.map Tg.ct)).length = 0) (hT : ¬ (widthsR ds (x.ts.map Tg.ct)).length = 0) :
  Calls Tryz.prog 44 #[.slice va vs.length vc, x.val] w fun e w' => e = .returned (.bool (hldR (vs.map Bw.ct) x.ct)) ∧ Below w.heap.size w w' := by
 have HES := kide (fun u (hu : Below w.heap.size w u) => evalTerm_any va x.sa vc x.sc x.ss.length ds vs x.ss u (hv.later hu) (hs.later hu) rfl hS hV)
 have HET := kide (fun u (hu : Below w.heap.size w u) => evalTerm_any va x.ta vc x.tc x.ts.length ds vs x.ts u (hv.later hu) (ht.later hu) rfl hT hV)
 have hoS := eval_ok hS hV hv.words hs.words
 have hoT := eval_ok hT hV hv.words ht.words
 have hlS := right_W hoS.1
 have hlT := right_W hoT.1
 have HQ : Hid (hldR (vs.map Bw.ct) x.ct = (sameB (evalR (vs.map Bw.ct) (x.ss.map Tg.ct)).1 (evalR (vs.map Bw.ct) (x.ss.map Tg.ct)).2 (evalR (vs.map Bw.ct) (x.ts.map Tg.ct)).1 (evalR (vs.map Bw.ct) (x.ts.map Tg.ct)).2 == x.eq)) := by
  show _ = _
  rw [sameB_ok hoS hoT]
  rfl
 rw [HQ.out]
 generalize evalR (vs.map Bw.ct) (x.ss.map Tg.ct) = XS at *
 generalize evalR (vs.map Bw.ct) (x.ts.map Tg.ct) = XT at *
 obtain ⟨id, q, ss, sa, sc, ts, ta, tc⟩ := x
 simp only [Lg.val] at *
 generalize ss.length = sn at *
 generalize ts.length = tn at *
 have HOS := kide hoS
 have HOT := kide hoT
 have s0 := St.start w (.cells #[.int .i64 id, .bool q, .slice sa sn sc, .slice ta tn tc] 30)
 clear hv hs ht hV hS hT hoS hoT HQ
 go_enter Tryz.func44, Tryz.ntmps44
 go_wp2_with fail
 have c2 : (w.alloc (Obj.cells #[.int .i64 id, .bool q, .slice sa sn sc, .slice ta tn tc] 30)).cell? ⟨w.heap.size, 2, none⟩ = some (.slice sa sn sc) := s0.cell 2
 have c3 : (w.alloc (Obj.cells #[.int .i64 id, .bool q, .slice sa sn sc, .slice ta tn tc] 30)).cell? ⟨w.heap.size, 3, none⟩ = some (.slice ta tn tc) := s0.cell 3
 generalize w.alloc (Obj.cells #[.int .i64 id, .bool q, .slice sa sn sc, .slice ta tn tc] 30) = w0 at *
 go_region_held3 (fun z => z.cell? ⟨w.heap.size, 2, none⟩ = some (.slice sa sn sc) ∧ z.cell? ⟨w.heap.size, 3, none⟩ = some (.slice ta tn tc)) (simp [*])
  (first
   | (go_at_call 80; refine Calls.mono (HET.out w1 s1.below) ?_; rintro e w2 ⟨a2, k2, rfl, hn2, hb2⟩; have s2 := s1.next hb2; have u2 := s2.cell 2; have u3 := s2.cell 3; simp at u2 u3; have R2 := kide (R1.out.later hb2); have T2 := kide (hn2.rd (by omega) HOT.out.2))
   | (go_at_call 80; refine Calls.mono (HES.out _ ?_) ?_; exact s0.below.drew; rintro e w1 ⟨a1, k1, rfl, hn1, hb1⟩; replace hb1 := kundrew hb1; have s1 := St.next (wk := w0) s0 hb1; have d2 := s1.cell 2; have d3 := s1.cell 3; simp at d2 d3; have R1 := kide (hn1.rd (by omega) HOS.out.2))
   | (go_at_call 79; refine Calls.mono (implSame_any _ _ _ _ _ _ _ _ _ R2.out T2.out) ?_; rintro e w3 ⟨k3, rfl, hk3, hb3⟩; have s3 := s2.next hb3; have v2 := s3.cell 2; have v3 := s3.cell 3; have v1 := s3.cell 1; simp at v1 v2 v3))
 go_wp2_with fail
 go_ret
 exact ⟨rfl, s3.below⟩

def ffL (vs : List Wd) : List Lc → Int
 | [] => 0
 | l :: t => if hldR vs l = true then ffL vs t else l.id
def ffR (ds : List Dc) (vs : List Wd) (ls : List Lc) : Int := if valR ds vs = true ∧ litR ds ls = true then ffL vs ls else -1
def holR (ds : List Dc) (vs : List Wd) (l : Lc) : Bool × Bool := if valR ds vs = true ∧ litR ds [l] = true then (hldR vs l, true) else (false, false)
theorem ffL_step {vs : List Wd} {ls : List Lc} {k : Nat} {l : Lc} (h : ls[k]? = some l) : ffL vs (ls.drop k) = if hldR vs l = true then ffL vs (ls.drop (k + 1)) else l.id := by
 obtain ⟨hk, rfl⟩ := List.getElem?_eq_some_iff.1 h
 rw [List.drop_eq_getElem_cons hk, ffL]
theorem side_widths {ds : List Dc} {l : Lc} (h : sideR ds l = true) : ¬ (widthsR ds l.ss).length = 0 ∧ ¬ (widthsR ds l.ts).length = 0 := by
 simp only [sideR, Bool.and_eq_true, decide_eq_true_eq] at h
 constructor
 ·intro h0
  have : widR ds l.ss = -1 := by unfold widR; rw [if_pos h0]
  omega
 ·intro h0
  have : widR ds l.ts = -1 := by unfold widR; rw [if_pos h0]
  omega
theorem goL_each {ds : List Dc} : ∀ (ls : List Lc) (last : Int), 0 ≤ last → goL ds last ls = true → ∀ l ∈ ls, sideR ds l = true ∧ 0 < l.id ∧ l.id ≤ 1000000
 | [], _, _, _ => by simp
 | m :: t, last, h0, h => by
  simp only [goL, Bool.and_eq_true, decide_eq_true_eq] at h
  obtain ⟨⟨⟨h1, h2⟩, h3⟩, h4⟩ := h
  intro l hl
  rcases List.mem_cons.1 hl with rfl | hl
  ·exact ⟨h3, by omega, h2⟩
  ·exact goL_each t m.id (by omega) h4 l hl
theorem lit_each {ds : List Dc} {ls : List Lc} (h : litR ds ls = true) : ∀ l ∈ ls, sideR ds l = true ∧ litR ds [l] = true := fun l hl => by
 simp only [litR, Bool.and_eq_true, decide_eq_true_eq] at h
 obtain ⟨⟨h1, h2⟩, h3⟩ := h
 obtain ⟨a, b, c⟩ := goL_each ls 0 (Int.le_refl _) h3 l hl
 refine ⟨a, ?_⟩
 simp [litR, h1, goL, a, b, c]
theorem RdL.at {w : World} {a : Option Addr} {xs : List Lg} (h : RdL w a xs) {k : Nat} {x : Lg} (hx : xs[k]? = some x) : ∃ b o, a = some ⟨b, o, none⟩ ∧ LgAt w b (o + k * 4) x := by
 obtain ⟨-, h | ⟨b, o, e, hc⟩⟩ := h
 ·rw [h] at hx; simp at hx
 ·exact ⟨b, o, e, hc k x hx⟩
set_option maxHeartbeats 2000000 in
set_option maxRecDepth 100000 in
theorem implFirst_any (a va b : Option Addr) (c vc c2 n vn : Nat) (ds : List Dc) (vs : List Bw) (xs : List Lg) (w : World) (hr : RdD w a ds) (hv : RdW w va vs) (hs : RdL w b xs) (hvn : vs.length = vn) (hn : xs.length = n) (hG : GF w) :
  Calls Tryz.prog 11 #[.slice a ds.length c, .slice va vn vc, .slice b n c2] w fun e w' => e = .returned (.int .i64 (ffR ds (vs.map Bw.ct) (xs.map Lg.ct))) ∧ Below w.heap.size w w' := by
 have HVO := kide (implValues_any a va c vc ds vs w hr hv vn hvn)
 have HLO := kide (fun u (hu : Below w.heap.size w u) => implLits_any a b c c2 n ds xs u (hr.later hu) (hs.later hu) hn (hG.later hu))
 have hn2 : n ≤ 1048576 := by rw [← hn]; exact hs.1
 have HS := kide hs
 have HN := kide hn
 cases hV : valR ds (vs.map Bw.ct) with
 | false =>
  have hR : ffR ds (vs.map Bw.ct) (xs.map Lg.ct) = -1 := by simp [ffR, hV]
  rw [hR]
  rw [hV] at HVO
  clear hr hv hs hn hG hvn HLO hV hR
  go_enter Tryz.func11, Tryz.ntmps11
  go_wp2_with fail
  refine Calls.mono HVO.out ?_
  rintro e w1 ⟨rfl, hb1⟩
  go_wp2_with fail
  go_ret
  exact ⟨rfl, hb1⟩
 | true =>
  rw [hV] at HVO
  cases hL : litR ds (xs.map Lg.ct) with
  | false =>
   have hR : ffR ds (vs.map Bw.ct) (xs.map Lg.ct) = -1 := by simp [ffR, hL]
   rw [hR]
   rw [hL] at HLO
   clear hr hv hs hn hG hvn hV hR hL
   go_enter Tryz.func11, Tryz.ntmps11
   go_wp2_with fail
   refine Calls.mono HVO.out ?_
   rintro e w1 ⟨rfl, hb1⟩
   have B1 := kide hb1
   clear hb1
   go_wp2_with fail
   refine Calls.mono (HLO.out w1 B1.out) ?_
   rintro e w2 ⟨rfl, hb2⟩
   have B2 := kide (B1.out.trans (hb2.mono B1.out.size))
   clear hb2
   go_wp2_with fail
   go_ret
   exact ⟨rfl, B2.out⟩
  | true =>
   have hR : ffR ds (vs.map Bw.ct) (xs.map Lg.ct) = ffL (vs.map Bw.ct) (xs.map Lg.ct) := by simp [ffR, hL, hV]
   rw [hR]
   rw [hL] at HLO
   have HEA := kide (lit_each hL)
   have HHB := kide (fun (u : World) (x : Lg) (hu : Below w.heap.size w u) (h1 : RdT u x.sa x.ss) (h2 : RdT u x.ta x.ts) (h3 : sideR ds x.ct = true) => holdsBy_any va vc ds vs x u (hv.later hu) h1 h2 hV (side_widths h3).1 (side_widths h3).2)
   rw [hvn] at HHB
   obtain ⟨ls, hls⟩ : ∃ ls, xs.map Lg.ct = ls := ⟨_, rfl⟩
   rw [hls] at HEA ⊢
   have HLS := kide hls
   generalize hZ : ffL (vs.map Bw.ct) ls = Z
   have HZ := kide hZ
   clear hr hv hs hn hG hvn hV hR hL hls hZ
   go_enter Tryz.func11, Tryz.ntmps11
   go_wp2_with fail
   refine Calls.mono HVO.out ?_
   rintro e w1 ⟨rfl, hb1⟩
   have B1 := kide hb1
   clear hb1
   go_wp2_with fail
   refine Calls.mono (HLO.out w1 B1.out) ?_
   rintro e w2 ⟨rfl, hb2⟩
   have B2 := kide (B1.out.trans (hb2.mono B1.out.size))
   clear hb2
   go_wp2_with fail
   go_loopw [21] (fun q wr => ∃ k : Nat, k ≤ n ∧ q = .int .i64 (k : Int) ∧ ffL (vs.map Bw.ct) (ls.drop k) = Z ∧ Below w.heap.size w wr) (fun q _ => n - (intOf q).toNat)
   case atStart => exact ⟨0, Nat.zero_le _, rfl, HZ.out, B2.out⟩
   case round =>
    obtain ⟨k, hk, rfl, hff, hb⟩ := hrel
    have HFF := kide hff
    have HB := kide hb
    by_cases hlt : k < n
    ·have i0 : (k : Int) < (n : Int) := by omega
     obtain ⟨x, gx⟩ : ∃ x, xs[k]? = some x := ⟨xs[k]'(by rw [HN.out]; exact hlt), List.getElem?_eq_getElem _⟩
     have gn : ls[k]? = some x.ct := by rw [← HLS.out, List.getElem?_map, gx]; rfl
     obtain ⟨b3, o3, rfl, ⟨p0, p1, p2, p3⟩, r1, r2, -⟩ := (HS.out.later hb).at gx
     have hsd := (HEA.out _ (List.mem_of_getElem? gn)).1
     have hbx : Below wr.heap.size wr (wr.alloc (Obj.cells #[.int .i64 x.id, .bool x.eq, .slice x.sa x.ss.length x.sc, .slice x.ta x.ts.length x.tc] 30)) := (Below.refl _ _).alloc (Nat.le_refl _) _
     have HC := kide (HHB.out _ x (hb.trans (hbx.mono hb.size)) (r1.later hbx) (r2.later hbx) hsd)
     have hst := ffL_step (vs := vs.map Bw.ct) gn
     rw [hff] at hst
     have HST := kide hst
     have HBX := kide (hb.trans (hbx.mono hb.size))
     have S0 := kide (St.start wr (Obj.cells #[.int .i64 x.id, .bool x.eq, .slice x.sa x.ss.length x.sc, .slice x.ta x.ts.length x.tc] 30))
     have hid : x.ct.id = x.id := rfl
     rw [hid] at HST
     generalize hldR (vs.map Bw.ct) x.ct = V at *
     obtain ⟨id, q, ss, sa, sc, ts, ta, tc⟩ := x
     simp only [Lg.val] at *
     generalize ss.length = sn at *
     generalize ts.length = tn at *
     clear gx gn r1 r2 hsd hbx hst hb hff HFF HHB
     cases V with
     | true =>
      have HF2 := HST.out
      rw [if_pos rfl] at HF2
      have HF3 := kide HF2.symm
      clear HF2
      go_wp2_with fail
      refine Calls.mono HC.out ?_
      rintro e w3 ⟨rfl, hb3⟩
      have B3 := kide (HBX.out.trans (hb3.mono HBX.out.size))
      clear hb3 HC
      go_wp2_with fail
      go_roundw
      case rel => exact ⟨k + 1, by omega, by go_num, HF3.out, B3.out⟩
      case measure => simp [intOf]; omega
     | false =>
      have HF2 := HST.out
      rw [if_neg (by simp)] at HF2
      have HF3 := kide HF2.symm
      clear HF2
      go_wp2_with fail
      refine Calls.mono HC.out ?_
      rintro e w3 ⟨rfl, hb3⟩
      have B3 := kide (HBX.out.trans (hb3.mono HBX.out.size))
      have c0 := (S0.out.next hb3).cell 0
      simp at c0
      clear hb3 HC
      go_wp2_with fail
      go_ret
      exact ⟨ret_int HF3.out, B3.out⟩
    ·have e : k = n := by omega
     have hZ2 : Z = 0 := by
      rw [← hff, e, List.drop_of_length_le (by rw [← HLS.out, List.length_map, HN.out]; exact Nat.le_refl _)]
      rfl
     have HZ2 := kide hZ2.symm
     clear hZ2 hff hb
     go_wp2_with fail
     go_ret
     exact ⟨ret_int HZ2.out, HB.out⟩

set_option maxHeartbeats 2000000 in
set_option maxRecDepth 100000 in
theorem specHolds_any (a va : Option Addr) (c vc vn : Nat) (ds : List Dc) (vs : List Bw) (x : Lg) (w : World) (hr : RdD w a ds) (hv : RdW w va vs) (hvn : vs.length = vn) (hs : RdT w x.sa x.ss) (ht : RdT w x.ta x.ts) (hid : in64 x.id) :
  Calls Tryz.prog 9 #[.slice a ds.length c, .slice va vn vc, x.val] w fun e w' => e = .returned (.tuple #[.bool (holR ds (vs.map Bw.ct) x.ct).1, .bool (holR ds (vs.map Bw.ct) x.ct).2]) ∧ Below w.heap.size w w' := by
 have s0 := St.start w (.cells #[.int .i64 x.id, .bool x.eq, .slice x.sa x.ss.length x.sc, .slice x.ta x.ts.length x.tc] 30)
 have HVO := kide (specValues_any a va c vc ds vs _ (hr.later s0.below) (hv.later s0.below) vn hvn)
 have HLO := kide (fun u g (hu : Below w.heap.size w u) (hl : RdL u (some ⟨g, 0, none⟩) [x]) => specLits_any a (some ⟨g, 0, none⟩) c 1 1 ds [x] u (hr.later hu) hl rfl)
 have HRL : Hid (∀ u g, Below w.heap.size w u → u.cell? ⟨g, 0, none⟩ = some (.int .i64 x.id) → u.cell? ⟨g, 1, none⟩ = some (.bool x.eq) → u.cell? ⟨g, 2, none⟩ = some (.slice x.sa x.ss.length x.sc) → u.cell? ⟨g, 3, none⟩ = some (.slice x.ta x.ts.length x.tc) → RdL u (some ⟨g, 0, none⟩) [x]) := fun u g hu h0 h1 h2 h3 =>
  ⟨by simp, .inr ⟨g, 0, rfl, fun i y hy => by
   match i, hy with
   | 0, hy =>
    simp at hy
    subst hy
    exact ⟨⟨h0, h1, h2, h3⟩, hs.later hu, ht.later hu, hid⟩
   | i + 1, hy => simp at hy⟩⟩
 have HES := kide (fun u (hu : Below w.heap.size w u) (h1 : valR ds (vs.map Bw.ct) = true) (h2 : sideR ds x.ct = true) => l4Eval_any va x.sa vc x.sc x.ss.length ds vs x.ss u (hv.later hu) (hs.later hu) rfl (side_widths h2).1 h1)
 have HET := kide (fun u (hu : Below w.heap.size w u) (h1 : valR ds (vs.map Bw.ct) = true) (h2 : sideR ds x.ct = true) => l4Eval_any va x.ta vc x.tc x.ts.length ds vs x.ts u (hv.later hu) (ht.later hu) rfl (side_widths h2).2 h1)
 rw [hvn] at HES HET
 have HOK := kide (fun (h1 : valR ds (vs.map Bw.ct) = true) (h2 : sideR ds x.ct = true) => And.intro (eval_ok (side_widths h2).1 h1 hv.words hs.words) (eval_ok (side_widths h2).2 h1 hv.words ht.words))
 cases hV : valR ds (vs.map Bw.ct) with
 | false =>
  have hR : holR ds (vs.map Bw.ct) x.ct = (false, false) := by simp [holR, hV]
  rw [hR]
  rw [hV] at HVO
  obtain ⟨id, q, ss, sa, sc, ts, ta, tc⟩ := x
  simp only [Lg.val] at *
  generalize ss.length = sn at *
  generalize ts.length = tn at *
  clear hr hv hs ht HLO HRL hV hR HES HET HOK
  go_enter Tryz.func9, Tryz.ntmps9
  go_wp2_with fail
  refine Calls.mono HVO.out ?_
  rintro e w1 ⟨rfl, hb1⟩
  have s1 := s0.next hb1
  go_wp2_with fail
  go_returns
  exact ⟨rfl, s1.below⟩
 | true =>
  rw [hV] at HVO
  cases hL : litR ds [x.ct] with
  | false =>
   have hR : holR ds (vs.map Bw.ct) x.ct = (false, false) := by simp [holR, hL]
   rw [hR]
   have hLL : litR ds ([x].map Lg.ct) = false := hL
   rw [hLL] at HLO
   obtain ⟨id, q, ss, sa, sc, ts, ta, tc⟩ := x
   simp only [Lg.val] at *
   generalize ss.length = sn at *
   generalize ts.length = tn at *
   clear hr hv hs ht hV hR hL hLL HES HET HOK
   go_enter Tryz.func9, Tryz.ntmps9
   go_wp2_with fail
   refine Calls.mono HVO.out ?_
   rintro e w1 ⟨rfl, hb1⟩
   have s1 := s0.next hb1
   have c0 : w1.cell? ⟨w.heap.size, 0, none⟩ = some (.int .i64 id) := s1.cell 0
   have c1 : w1.cell? ⟨w.heap.size, 1, none⟩ = some (.bool q) := s1.cell 1
   have c2 : w1.cell? ⟨w.heap.size, 2, none⟩ = some (.slice sa sn sc) := s1.cell 2
   have c3 : w1.cell? ⟨w.heap.size, 3, none⟩ = some (.slice ta tn tc) := s1.cell 3
   have hbx : Below w1.heap.size w1 (w1.alloc (Obj.cells #[.int .i64 id, .bool q, .slice sa sn sc, .slice ta tn tc] 30)) := (Below.refl _ _).alloc (Nat.le_refl _) _
   have s2 := s1.next hbx
   have HC := kide (HLO.out _ w1.heap.size s2.below (HRL.out _ w1.heap.size s2.below (by simp) (by simp) (by simp) (by simp)))
   clear hb1 hbx HLO HRL
   go_wp2_with fail
   refine Calls.mono HC.out ?_
   rintro e w3 ⟨rfl, hb3⟩
   have s3 := s2.next hb3
   clear hb3 HC
   go_wp2_with fail
   go_returns
   exact ⟨rfl, s3.below⟩
  | true =>
   have hR : holR ds (vs.map Bw.ct) x.ct = (hldR (vs.map Bw.ct) x.ct, true) := by simp [holR, hV, hL]
   rw [hR]
   have hLL : litR ds ([x].map Lg.ct) = true := hL
   rw [hLL] at HLO
   have hsd := (lit_each hL x.ct (by simp)).1
   have HESK := kide (fun u hu => HES.out u hu hV hsd)
   have HETK := kide (fun u hu => HET.out u hu hV hsd)
   obtain ⟨hoS, hoT⟩ : okWd (evalR (vs.map Bw.ct) (x.ss.map Tg.ct)) ∧ okWd (evalR (vs.map Bw.ct) (x.ts.map Tg.ct)) := HOK.out hV hsd
   have hlS := right_W hoS.1
   have hlT := right_W hoT.1
   have HQ : Hid (hldR (vs.map Bw.ct) x.ct = ((decide ((evalR (vs.map Bw.ct) (x.ss.map Tg.ct)).1 = (evalR (vs.map Bw.ct) (x.ts.map Tg.ct)).1) && decide ((evalR (vs.map Bw.ct) (x.ss.map Tg.ct)).2 = (evalR (vs.map Bw.ct) (x.ts.map Tg.ct)).2)) == x.eq)) := by
    show _ = _
    unfold hldR
    rw [show x.ct.ss = x.ss.map Tg.ct from rfl, show x.ct.ts = x.ts.map Tg.ct from rfl, show x.ct.eq = x.eq from rfl]
    congr 1
    generalize evalR (vs.map Bw.ct) (x.ss.map Tg.ct) = P
    generalize evalR (vs.map Bw.ct) (x.ts.map Tg.ct) = Q
    obtain ⟨p1, p2⟩ := P
    obtain ⟨q1, q2⟩ := Q
    by_cases h1 : p1 = q1 <;> by_cases h2 : p2 = q2 <;> simp [h1, h2]
   rw [HQ.out]
   generalize evalR (vs.map Bw.ct) (x.ss.map Tg.ct) = XS at *
   generalize evalR (vs.map Bw.ct) (x.ts.map Tg.ct) = XT at *
   have HOS := kide hoS
   have HOT := kide hoT
   clear HES HET HOK hoS hoT HQ
   obtain ⟨id, q, ss, sa, sc, ts, ta, tc⟩ := x
   simp only [Lg.val] at *
   generalize ss.length = sn at *
   generalize ts.length = tn at *
   clear hr hv hs ht hV hR hL hLL hsd
   go_enter Tryz.func9, Tryz.ntmps9
   go_wp2_with fail
   refine Calls.mono HVO.out ?_
   rintro e w1 ⟨rfl, hb1⟩
   have s1 := s0.next hb1
   have c0 : w1.cell? ⟨w.heap.size, 0, none⟩ = some (.int .i64 id) := s1.cell 0
   have c1 : w1.cell? ⟨w.heap.size, 1, none⟩ = some (.bool q) := s1.cell 1
   have c2 : w1.cell? ⟨w.heap.size, 2, none⟩ = some (.slice sa sn sc) := s1.cell 2
   have c3 : w1.cell? ⟨w.heap.size, 3, none⟩ = some (.slice ta tn tc) := s1.cell 3
   have hbx : Below w1.heap.size w1 (w1.alloc (Obj.cells #[.int .i64 id, .bool q, .slice sa sn sc, .slice ta tn tc] 30)) := (Below.refl _ _).alloc (Nat.le_refl _) _
   have s2 := s1.next hbx
   have HC := kide (HLO.out _ w1.heap.size s2.below (HRL.out _ w1.heap.size s2.below (by simp) (by simp) (by simp) (by simp)))
   clear hb1 hbx HLO HRL
   go_wp2_with fail
   refine Calls.mono HC.out ?_
   rintro e w3 ⟨rfl, hb3⟩
   have s3 := s2.next hb3
   have d0 : w3.cell? ⟨w.heap.size, 0, none⟩ = some (.int .i64 id) := s3.cell 0
   have d1 : w3.cell? ⟨w.heap.size, 1, none⟩ = some (.bool q) := s3.cell 1
   have d2 : w3.cell? ⟨w.heap.size, 2, none⟩ = some (.slice sa sn sc) := s3.cell 2
   have d3 : w3.cell? ⟨w.heap.size, 3, none⟩ = some (.slice ta tn tc) := s3.cell 3
   clear hb3 HC c0 c1 c2 c3 s2 s0 s1 HVO
   go_wp2_with fail
   go_region_held3 (fun z => z.cell? ⟨w.heap.size, 1, none⟩ = some (.bool q) ∧ z.cell? ⟨w.heap.size, 2, none⟩ = some (.slice sa sn sc) ∧ z.cell? ⟨w.heap.size, 3, none⟩ = some (.slice ta tn tc)) (simp [*])
    (first
     | (go_at_call 41; refine Calls.mono (HETK.out w4 s4.below) ?_; rintro e w5 ⟨a5, k5, rfl, hn5, hb5⟩; have s5 := s4.next hb5; have u1 := s5.cell 1; have u2 := s5.cell 2; have u3 := s5.cell 3; simp at u1 u2 u3; have R5 := kide (R4.out.later hb5); have T5 := kide (hn5.rd (by omega) HOT.out.2))
     | (go_at_call 41; refine Calls.mono (HESK.out _ ?_) ?_; exact s3.below.drew; rintro e w4 ⟨a4, k4, rfl, hn4, hb4⟩; replace hb4 := kundrew hb4; have s4 := St.next (wk := w3) s3 hb4; have e1 := s4.cell 1; have e2 := s4.cell 2; have e3 := s4.cell 3; simp at e1 e2 e3; have R4 := kide (hn4.rd (by omega) HOS.out.2))
     | (go_at_call 40; refine Calls.mono (l3Same_any _ _ _ _ _ _ _ _ _ R5.out T5.out) ?_; rintro e w6 ⟨rfl, hb6⟩; have s6 := s5.next hb6; have v1 := s6.cell 1; have v2 := s6.cell 2; have v3 := s6.cell 3; simp at v1 v2 v3))
   go_wp2_with fail
   go_returns
   exact ⟨rfl, s6.below⟩


def wkL (vs : List Wd) (ls : List Lc) : List Int := (ls.filter fun l => !hldR vs l).map Lc.id
def wkR (ds : List Dc) (vs : List Wd) (ls : List Lc) : List Int × Bool := if valR ds vs = true ∧ litR ds ls = true then (wkL vs ls, true) else ([], false)
theorem wkL_take {vs : List Wd} {ls : List Lc} {k : Nat} {l : Lc} (h : ls[k]? = some l) : wkL vs (ls.take (k + 1)) = wkL vs (ls.take k) ++ (if hldR vs l = true then [] else [l.id]) := by
 unfold wkL
 rw [List.take_add_one, h, List.filter_append, List.map_append]
 cases hv : hldR vs l <;> simp [hv]
theorem wkL_len (vs : List Wd) (ls : List Lc) : (wkL vs ls).length ≤ ls.length := by
 unfold wkL
 rw [List.length_map]
 exact List.length_filter_le _ _
set_option maxHeartbeats 2000000 in
set_option maxRecDepth 100000 in
theorem specWeaken_any (a va b : Option Addr) (c vc c2 n vn : Nat) (ds : List Dc) (vs : List Bw) (xs : List Lg) (w : World) (hr : RdD w a ds) (hv : RdW w va vs) (hs : RdL w b xs) (hvn : vs.length = vn) (hn : xs.length = n) :
  Calls Tryz.prog 13 #[.slice a ds.length c, .slice b n c2, .slice va vn vc] w fun e w' => ∃ v, e = .returned (.tuple #[v, .bool (wkR ds (vs.map Bw.ct) (xs.map Lg.ct)).2]) ∧ OW w' w.heap.size v (wkR ds (vs.map Bw.ct) (xs.map Lg.ct)).1 ∧ Below w.heap.size w w' := by
 have hb0 : Below w.heap.size w (w.alloc (Obj.cells #[] 2)) := (Below.refl _ _).alloc (Nat.le_refl _) _
 have B0 := kide hb0
 have O0 := kide (OW.fresh w w.heap.size (Nat.le_refl _))
 have HVO := kide (fun u (hu : Below w.heap.size w u) => specValues_any a va c vc ds vs u (hr.later hu) (hv.later hu) vn hvn)
 have HLO := kide (fun u (hu : Below w.heap.size w u) => specLits_any a b c c2 n ds xs u (hr.later hu) (hs.later hu) hn)
 have hn2 : n ≤ 1048576 := by rw [← hn]; exact hs.1
 have HS := kide hs
 have HN := kide hn
 cases hV : valR ds (vs.map Bw.ct) with
 | false =>
  have hR : wkR ds (vs.map Bw.ct) (xs.map Lg.ct) = ([], false) := by simp [wkR, hV]
  rw [hR]
  rw [hV] at HVO
  clear hr hv hs hn hvn HLO hV hR hb0
  go_enter Tryz.func13, Tryz.ntmps13
  go_wp2_with fail
  refine Calls.mono (HVO.out _ B0.out) ?_
  rintro e w1 ⟨rfl, hb1⟩
  have B1 := kide (B0.out.trans (hb1.mono B0.out.size))
  have O1 := kide (O0.out.later hb1)
  clear hb1
  go_wp2_with fail
  go_returns
  exact ⟨_, rfl, O1.out, B1.out⟩
 | true =>
  rw [hV] at HVO
  cases hL : litR ds (xs.map Lg.ct) with
  | false =>
   have hR : wkR ds (vs.map Bw.ct) (xs.map Lg.ct) = ([], false) := by simp [wkR, hL]
   rw [hR]
   rw [hL] at HLO
   clear hr hv hs hn hvn hV hR hL hb0
   go_enter Tryz.func13, Tryz.ntmps13
   go_wp2_with fail
   refine Calls.mono (HVO.out _ B0.out) ?_
   rintro e w1 ⟨rfl, hb1⟩
   have B1 := kide (B0.out.trans (hb1.mono B0.out.size))
   have O1 := kide (O0.out.later hb1)
   clear hb1
   go_wp2_with fail
   refine Calls.mono (HLO.out w1 B1.out) ?_
   rintro e w2 ⟨rfl, hb2⟩
   have B2 := kide (B1.out.trans (hb2.mono B1.out.size))
   have O2 := kide (O1.out.later hb2)
   clear hb2
   go_wp2_with fail
   go_returns
   exact ⟨_, rfl, O2.out, B2.out⟩
  | true =>
   have hR : wkR ds (vs.map Bw.ct) (xs.map Lg.ct) = (wkL (vs.map Bw.ct) (xs.map Lg.ct), true) := by simp [wkR, hL, hV]
   rw [hR]
   rw [hL] at HLO
   have HEA := kide (lit_each hL)
   have HHB := kide (fun (u : World) (x : Lg) (hu : Below w.heap.size w u) (h1 : RdT u x.sa x.ss) (h2 : RdT u x.ta x.ts) (h3 : in64 x.id) => specHolds_any a va c vc vn ds vs x u (hr.later hu) (hv.later hu) hvn h1 h2 h3)
   have HVT := kide hV
   obtain ⟨ls, hls⟩ : ∃ ls, xs.map Lg.ct = ls := ⟨_, rfl⟩
   rw [hls] at HEA ⊢
   have HLS := kide hls
   have hln : Hid (ls.length = n) := by show _ = _; rw [← hls, List.length_map, hn]
   clear hr hv hs hn hvn hV hR hL hls hb0
   go_enter Tryz.func13, Tryz.ntmps13
   go_wp2_with fail
   refine Calls.mono (HVO.out _ B0.out) ?_
   rintro e w1 ⟨rfl, hb1⟩
   have B1 := kide (B0.out.trans (hb1.mono B0.out.size))
   have O1 := kide (O0.out.later hb1)
   clear hb1
   go_wp2_with fail
   refine Calls.mono (HLO.out w1 B1.out) ?_
   rintro e w2 ⟨rfl, hb2⟩
   have B2 := kide (B1.out.trans (hb2.mono B1.out.size))
   have O2 := kide (O1.out.later hb2)
   clear hb2 O0 O1 B0 B1
   go_wp2_with fail
   go_loopw [8, 9] (fun o q wr => ∃ k : Nat, k ≤ n ∧ q = .int .i64 (k : Int) ∧ OW wr w.heap.size o (wkL (vs.map Bw.ct) (ls.take k)) ∧ Below w.heap.size w wr) (fun _ q _ => n - (intOf q).toNat)
   case atStart => exact ⟨0, Nat.zero_le _, rfl, O2.out, B2.out⟩
   case round =>
    obtain ⟨k, hk, rfl, how, hb⟩ := hrel
    have HO := kide how
    have HB := kide hb
    clear how O2 B2
    by_cases hlt : k < n
    ·have i0 : (k : Int) < (n : Int) := by omega
     obtain ⟨x, gx⟩ : ∃ x, xs[k]? = some x := ⟨xs[k]'(by rw [HN.out]; exact hlt), List.getElem?_eq_getElem _⟩
     have gn : ls[k]? = some x.ct := by rw [← HLS.out, List.getElem?_map, gx]; rfl
     obtain ⟨b3, o3, rfl, ⟨p0, p1, p2, p3⟩, r1, r2, r3⟩ := (HS.out.later hb).at gx
     have hsd := (HEA.out _ (List.mem_of_getElem? gn)).2
     have HC := kide (HHB.out wr x hb r1 r2 r3)
     have hho : holR ds (vs.map Bw.ct) x.ct = (hldR (vs.map Bw.ct) x.ct, true) := by simp [holR, HVT.out, hsd]
     rw [hho] at HC
     have HST := kide (wkL_take (vs := vs.map Bw.ct) gn)
     have lP := block_lt_of_cell p0
     have hid : x.ct.id = x.id := rfl
     rw [hid] at HST
     have hul : (wkL (vs.map Bw.ct) (ls.take k)).length ≤ 1073741824 := by have h1 := wkL_len (vs.map Bw.ct) (ls.take k); have h2 := List.length_take_le k ls; omega
     generalize hldR (vs.map Bw.ct) x.ct = V at *
     obtain ⟨id, q, ss, sa, sc, ts, ta, tc⟩ := x
     simp only [Lg.val] at *
     generalize ss.length = sn at *
     generalize ts.length = tn at *
     clear gx gn r1 r2 r3 hsd hho hb HHB
     cases V with
     | true =>
      have HF2 := HST.out
      rw [if_pos rfl, List.append_nil] at HF2
      have HF3 := kide HF2
      clear HF2
      go_wp2_with fail
      refine Calls.mono HC.out ?_
      rintro e w3 ⟨rfl, hb3⟩
      have B3 := kide (HB.out.trans (hb3.mono HB.out.size))
      have O3 := kide (HO.out.later hb3)
      clear hb3 HC
      go_wp2_with fail
      go_roundw
      case rel => exact ⟨k + 1, by omega, by go_num, by rw [HF3.out]; exact O3.out, B3.out⟩
      case measure => simp [intOf]; omega
     | false =>
      have HF2 := HST.out
      rw [if_neg (by simp)] at HF2
      have HF3 := kide HF2
      clear HF2
      generalize wkL (vs.map Bw.ct) (ls.take k) = rs at *
      go_wp2_with fail
      refine Calls.mono HC.out ?_
      rintro e w3 ⟨rfl, hb3⟩
      have B3 := kide (HB.out.trans (hb3.mono HB.out.size))
      have O3 := kide (HO.out.later hb3)
      have c0 := (kcell hb3 _ _ lP).trans p0
      have hsz := B3.out.size
      clear hb3 HC
      go_wp2_with (at_builtin; refine wpList_appW rfl _ _ rfl w.heap.size _ rs id rfl (World.ownsRow.alloc O3.out _) _ rfl (by simp) hul (by simp; omega) ?_)
      intro v7 w7 hos hg
      have B7 := kide (Below.grown (B3.out.alloc hsz (Obj.cells #[.int .i64 id] 2)) hg (by simp; omega) (fun j hj => (O3.out.lt hj).1))
      have O7 := kide hos
      clear hos hg c0 p0 p1 p2 p3
      go_wp2_with fail
      go_roundw
      case rel => exact ⟨k + 1, by omega, by go_num, by rw [HF3.out]; exact O7.out, B7.out⟩
      case measure => simp [intOf]; omega
    ·have hfin : wkL (vs.map Bw.ct) (ls.take k) = wkL (vs.map Bw.ct) ls := by rw [List.take_of_length_le (by rw [hln.out]; omega)]
     rw [hfin] at HO
     clear hb hfin
     go_wp2_with fail
     go_returns
     exact ⟨_, rfl, HO.out, HB.out⟩

set_option maxHeartbeats 2000000 in
set_option maxRecDepth 100000 in
theorem weakF_any (va : Option Addr) (vc vn bv : Nat) (ds : List Dc) (vs : List Bw) (x : Lg) (w : World) (hc : w.cell? ⟨bv, 0, none⟩ = some (.slice va vn vc)) (hv : RdW w va vs) (hvn : vs.length = vn) (hs : RdT w x.sa x.ss) (ht : RdT w x.ta x.ts) (hV : valR ds (vs.map Bw.ct) = true) (hsd : sideR ds x.ct = true) :
  Calls Tryz.prog 46 #[x.val, .pointer (some ⟨bv, 0, none⟩)] w fun e w' => e = .returned (.bool (!hldR (vs.map Bw.ct) x.ct)) ∧ Below w.heap.size w w' := by
 have hbx : Below w.heap.size w (w.alloc (Obj.cells #[.int .i64 x.id, .bool x.eq, .slice x.sa x.ss.length x.sc, .slice x.ta x.ts.length x.tc] 30)) := (Below.refl _ _).alloc (Nat.le_refl _) _
 have HC := kide (holdsBy_any va vc ds vs x _ (hv.later hbx) (hs.later hbx) (ht.later hbx) hV (side_widths hsd).1 (side_widths hsd).2)
 rw [hvn] at HC
 have c1 := (kcell hbx _ _ (block_lt_of_cell hc)).trans hc
 have HBX := kide hbx
 generalize hldR (vs.map Bw.ct) x.ct = V at *
 clear hbx hs ht hV hsd hv hvn
 obtain ⟨id, q, ss, sa, sc, ts, ta, tc⟩ := x
 simp only [Lg.val] at *
 generalize ss.length = sn at *
 generalize ts.length = tn at *
 go_enter Tryz.func46, Tryz.ntmps46
 go_wp2_with fail
 refine Calls.mono HC.out ?_
 rintro e w3 ⟨rfl, hb3⟩
 have B3 := kide (HBX.out.trans (hb3.mono HBX.out.size))
 clear hb3 HC
 go_wp2_with fail
 go_ret
 exact ⟨rfl, B3.out⟩
theorem filter_take {p : Lg → Bool} {xs : List Lg} {k : Nat} {x : Lg} (h : xs[k]? = some x) : (xs.take (k + 1)).filter p = (xs.take k).filter p ++ (if p x = true then [x] else []) := by
 rw [List.take_add_one, h, List.filter_append]
 cases hv : p x <;> simp [hv]
set_option maxHeartbeats 2000000 in
set_option maxRecDepth 100000 in
theorem filtered_any (b : Option Addr) (c2 n bv : Nat) (xs : List Lg) (p : Lg → Bool) (w : World) (hk : ∀ u x, Below w.heap.size w u → x ∈ xs → Calls Tryz.prog 46 #[x.val, .pointer (some ⟨bv, 0, none⟩)] u fun e w' => e = .returned (.bool (p x)) ∧ Below u.heap.size u w') (hs : RdL w b xs) (hn : xs.length = n) :
  Calls Tryz.prog 48 #[.slice b n c2, .func (.func 46) #[] #[.pointer (some ⟨bv, 0, none⟩)]] w fun e w' => ∃ v, e = .returned v ∧ OL4 w' w.heap.size v (xs.filter p) ∧ Below w.heap.size w w' := by
 have hn2 : n ≤ 1048576 := by rw [← hn]; exact hs.1
 have HS := kide hs
 have HN := kide hn
 have HK := kide hk
 clear hk hs hn
 go_enter Tryz.func48, Tryz.ntmps48
 go_wp2_with fail
 go_loopw [5, 10] (fun o q wr => ∃ k : Nat, k ≤ n ∧ q = .int .i64 (k : Int) ∧ OL4 wr w.heap.size o ((xs.take k).filter p) ∧ Below w.heap.size w wr) (fun _ q _ => n - (intOf q).toNat)
 case atStart => exact ⟨0, Nat.zero_le _, rfl, OL4.nil _ _, Below.refl _ _⟩
 case round =>
  obtain ⟨k, hk, rfl, how, hb⟩ := hrel
  have HO := kide how
  have HB := kide hb
  clear how
  by_cases hlt : k < n
  ·have i0 : (k : Int) < (n : Int) := by omega
   obtain ⟨x, gx⟩ : ∃ x, xs[k]? = some x := ⟨xs[k]'(by rw [HN.out]; exact hlt), List.getElem?_eq_getElem _⟩
   obtain ⟨b3, o3, rfl, ⟨p0, p1, p2, p3⟩, r1, r2, r3⟩ := (HS.out.later hb).at gx
   have hbx : Below wr.heap.size wr (wr.alloc (Obj.cells #[.int .i64 x.id, .bool x.eq, .slice x.sa x.ss.length x.sc, .slice x.ta x.ts.length x.tc] 30)) := (Below.refl _ _).alloc (Nat.le_refl _) _
   have HBX := kide (hb.trans (hbx.mono hb.size))
   have HOX := kide (HO.out.later hbx)
   have HC := kide (HK.out _ x HBX.out (List.mem_of_getElem? gx))
   have HST := kide (filter_take (p := p) gx)
   have S0 := kide (St.start wr (Obj.cells #[.int .i64 x.id, .bool x.eq, .slice x.sa x.ss.length x.sc, .slice x.ta x.ts.length x.tc] 30))
   have hul : ((xs.take k).filter p).length ≤ 1073741824 := by have h1 := List.length_filter_le p (xs.take k); have h2 := List.length_take_le k xs; omega
   generalize (xs.take k).filter p = rs at *
   generalize hpx : p x = V at *
   have HY : Hid (∃ y : Lg, y = x) := ⟨x, rfl⟩
   obtain ⟨y, hy⟩ := HY.out
   have y1 : x.id = y.id := by rw [hy]
   have y2 : x.eq = y.eq := by rw [hy]
   have y3 : Value.slice x.sa x.ss.length x.sc = .slice y.sa y.ss.length y.sc := by rw [hy]
   have y4 : Value.slice x.ta x.ts.length x.tc = .slice y.ta y.ts.length y.tc := by rw [hy]
   have e1 := kide y1
   have e2 := kide y2
   have e3 := kide y3
   have e4 := kide y4
   have HY2 := kide hy
   rw [← hy] at HST
   clear y1 y2 y3 y4 hy HY gx r1 r2 r3 hbx hb hpx HO
   obtain ⟨id, q, ss, sa, sc, ts, ta, tc⟩ := x
   simp only [Lg.val] at *
   generalize ss.length = sn at *
   generalize ts.length = tn at *
   cases V with
   | true =>
    have HF2 := HST.out
    rw [if_pos rfl] at HF2
    have HF3 := kide HF2
    clear HF2 HST
    go_wp2_with fail
    refine Calls.mono HC.out ?_
    rintro e w3 ⟨rfl, hb3⟩
    have B3 := kide (HBX.out.trans (hb3.mono HBX.out.size))
    have O3 := kide (HOX.out.later hb3)
    have S3 := kide (S0.out.next hb3)
    have c0 := S3.out.cell 0
    have c1 := S3.out.cell 1
    have c2' := S3.out.cell 2
    have c3 := S3.out.cell 3
    simp at c0 c1 c2' c3
    have hsz := B3.out.size
    clear hb3 HC
    go_wp2_with (at_builtin; refine wpList_appL4 rfl _ _ rfl w.heap.size _ rs y rfl (World.ownsRow.alloc O3.out _) _ rfl (by rw [← e1.out]; simp) (by rw [← e2.out]; simp) (by rw [← e3.out]; simp) (by rw [← e4.out]; simp) hul (by simp; omega) ?_)
    intro v7 w7 hos hg
    have B7 := kide (Below.grown (B3.out.alloc hsz (Obj.cells #[.int .i64 id, .bool q, .slice sa sn sc, .slice ta tn tc] 30)) hg (by simp; omega) (fun j hj => (O3.out.lt hj).1))
    have O7 := kide hos
    clear hos hg c0 c1 c2' c3 p0 p1 p2 p3
    go_wp2_with fail
    go_roundw
    case rel => exact ⟨k + 1, by omega, by go_num, by rw [HF3.out]; exact O7.out, B7.out⟩
    case measure => simp [intOf]; omega
   | false =>
    have HF2 := HST.out
    rw [if_neg (by simp), List.append_nil] at HF2
    have HF3 := kide HF2
    clear HF2 HST
    go_wp2_with fail
    refine Calls.mono HC.out ?_
    rintro e w3 ⟨rfl, hb3⟩
    have B3 := kide (HBX.out.trans (hb3.mono HBX.out.size))
    have O3 := kide (HOX.out.later hb3)
    clear hb3 HC
    go_wp2_with fail
    go_roundw
    case rel => exact ⟨k + 1, by omega, by go_num, by rw [HF3.out]; exact O3.out, B3.out⟩
    case measure => simp [intOf]; omega
  ·have hfin : xs.take k = xs := List.take_of_length_le (by rw [HN.out]; omega)
   rw [hfin] at HO
   clear hb hfin
   go_wp2_with fail
   go_ret
   exact ⟨_, rfl, HO.out, HB.out⟩

end Go.Proofs.YtkngpgonmedgpaaGreatDoor
