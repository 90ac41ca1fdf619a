/- Several texts in one. -/
import Derived.Test.YtbpodkdlhjgncaaGreatDoorZVQ
import Derived.Test.YtbpodkdlhjgncaaGreatDoorEVB
import Derived.Test.YtbpodkdlhjgncaaGreatDoorZVE

/- The specification's l4Eval. -/
namespace Go.Proofs.YtbpodkdlhjgncaaGreatDoor
set_option linter.unusedVariables false
set_option linter.unusedSimpArgs false
open Go.RowKit

/-- The words of nodes. -/
def pick (l : List Bw) (ks : List Int) : List Bw := ks.map fun k => l.getD k.toNat ⟨0, none, 0, []⟩

theorem pick_ct (l : List Bw) (ks : List Int) (h : ∀ j ∈ ks, 0 ≤ j ∧ j < (l.length : Int)) : (pick l ks).map Bw.ct = kidsV (l.map Bw.ct) ks := by
  simp only [pick, kidsV, List.map_map]
  refine List.map_congr_left fun k hk => ?_
  have := h k hk
  have hl : k.toNat < l.length := by omega
  simp [List.getD, hl]

theorem pick_take {l : List Bw} {ks : List Int} {i : Nat} {k : Int} (h : ks[i]? = some k) : pick l (ks.take (i + 1)) = pick l (ks.take i) ++ [l.getD k.toNat ⟨0, none, 0, []⟩] := by
  simp [pick, List.take_add_one, h]

set_option maxHeartbeats 8000000 in
set_option maxRecDepth 100000 in
theorem l4Eval_any (va b : Option Addr) (vc c2 n : Nat) (ds : List Dc) (vs : List Bw) (xs : List Tg) (w : World) (hv : RdW w va vs) (hs : RdT w b xs) (hn : xs.length = n) (hW : ¬ (widthsR ds (xs.map Tg.ct)).length = 0) (hV : valR ds (vs.map Bw.ct) = true) :
    Calls Tryz.prog 25 #[.slice va vs.length vc, .agg #[.slice b n c2]] w (RetV w (evalR (vs.map Bw.ct) (xs.map Tg.ct))) := by
  have HAT0 := kide (fun (k : Nat) (m : Tc) hk => ev_at hW hV hv.words hs.words (k := k) (n := m) hk)
  have hR := eval_ok hW hV hv.words hs.words
  obtain ⟨hl1, hl2, -, -⟩ := right_kids hW
  rw [List.length_map, hn] at hl1 hl2
  have HV := kide hv
  have HS := kide hs
  have HN := kide hn
  obtain ⟨ns, hns⟩ : ∃ ns, xs.map Tg.ct = ns := ⟨_, rfl⟩
  rw [hns] at HAT0 hR ⊢
  have HNS := kide hns
  have hln : Hid (ns.length = n) := by show _ = _; rw [← HNS.out]; simpa using HN.out
  obtain ⟨R, hRe⟩ : ∃ R, evalR (vs.map Bw.ct) ns = R := ⟨_, rfl⟩
  rw [hRe] at hR ⊢
  have HRE := kide hRe
  have HRO := kide hR
  clear hv hs hn hW hV hns hRe hR
  have XR : Hid (Bz ((w.alloc (Obj.cells #[Value.slice b n c2] 60)).alloc (Obj.cells #[Value.int .i64 0, Value.slice none 0 0] 63)) (w.heap.size + 1) #[Value.int .i64 0, Value.slice none 0 0] 63) := by
    have := Bz.new (w.alloc (Obj.cells #[Value.slice b n c2] 60)) #[Value.int .i64 0, Value.slice none 0 0] 63
    rw [World.size_alloc] at this
    exact this
  have XT : Hid (Bz ((w.alloc (Obj.cells #[Value.slice b n c2] 60)).alloc (Obj.cells #[Value.int .i64 0, Value.slice none 0 0] 63)) w.heap.size #[Value.slice b n c2] 60) := (Bz.new w #[Value.slice b n c2] 60).later ((Below.refl _ _).alloc (Nat.le_refl _) _)
  have BL : Hid (Below w.heap.size w ((w.alloc (Obj.cells #[Value.slice b n c2] 60)).alloc (Obj.cells #[Value.int .i64 0, Value.slice none 0 0] 63))) := Ba (Ba (Below.refl _ _) _) _
  have hsz : ((w.alloc (Obj.cells #[Value.slice b n c2] 60)).alloc (Obj.cells #[Value.int .i64 0, Value.slice none 0 0] 63)).heap.size = w.heap.size + 2 := by simp
  have hb4 : Below ((w.alloc (Obj.cells #[Value.slice b n c2] 60)).alloc (Obj.cells #[Value.int .i64 0, Value.slice none 0 0] 63)).heap.size ((w.alloc (Obj.cells #[Value.slice b n c2] 60)).alloc (Obj.cells #[Value.int .i64 0, Value.slice none 0 0] 63)) (((w.alloc (Obj.cells #[Value.slice b n c2] 60)).alloc (Obj.cells #[Value.int .i64 0, Value.slice none 0 0] 63)).alloc (Obj.cells #[] 63)) := (Below.refl _ _).alloc (Nat.le_refl _) _
  have O0 := OB2.fresh ((w.alloc (Obj.cells #[Value.slice b n c2] 60)).alloc (Obj.cells #[Value.int .i64 0, Value.slice none 0 0] 63)) (w.heap.size + 2) (by rw [hsz]; exact Nat.le_refl _)
  have E0 : Hid (Es w b n c2 (((w.alloc (Obj.cells #[Value.slice b n c2] 60)).alloc (Obj.cells #[Value.int .i64 0, Value.slice none 0 0] 63)).alloc (Obj.cells #[] 63)) (.slice (some ⟨((w.alloc (Obj.cells #[Value.slice b n c2] 60)).alloc (Obj.cells #[Value.int .i64 0, Value.slice none 0 0] 63)).heap.size, 0, none⟩) 0 0) []) := ⟨XT.out.later hb4, XR.out.later hb4, O0, by simp, BL.out.trans (hb4.mono BL.out.size)⟩
  rw [hsz] at E0
  clear XR XT BL hsz hb4 O0
  go_enter Tryz.func25, Tryz.ntmps25
  go_wp2_with fail
  generalize ((w.alloc (Obj.cells #[Value.slice b n c2] 60)).alloc (Obj.cells #[Value.int .i64 0, Value.slice none 0 0] 63)).alloc (Obj.cells #[] 63) = w4 at *
  go_loopw [5, 6] (fun o q wr => ∃ (k : Nat) (l : List Bw), k ≤ n ∧ q = .int .i64 (k : Int) ∧ l.map Bw.ct = evR (vs.map Bw.ct) (ns.take k) ∧ Es w b n c2 wr o l) (fun _ q _ => n - (intOf q).toNat)
  case atStart => exact ⟨0, [], Nat.zero_le _, rfl, by simp [evR], E0.out⟩
  case round =>
    obtain ⟨k, l, hk, rfl, hlc0, hES⟩ := hrel
    have hlc := kide hlc0
    have ES := kide hES
    have hll : Hid (l.length = k) := by
      have h := congrArg List.length hlc0
      rw [List.length_map, ev_len, List.length_take, hln.out] at h
      show _ = _
      omega
    have g0 : wr.cell? ⟨w.heap.size, 0, none⟩ = some (.slice b n c2) := ES.out.xt.cell 0
    have hokl : Hid (∀ y ∈ l, Rd wr y.a y.ws ∧ in64 y.wd) := fun y hy => by
      obtain ⟨j, hj, rfl⟩ := List.mem_iff_getElem.1 hy
      have hjm : j < ns.length := by rw [hln.out]; rw [hll.out] at hj; omega
      have ho := (HAT0.out j ns[j] (List.getElem?_eq_getElem hjm)).is
      have hc : (l[j]).ct = nodV (vs.map Bw.ct) (evR (vs.map Bw.ct) (ns.take j)) ns[j] := by
        have h1 : (l.map Bw.ct)[j]? = some (l[j]).ct := by rw [List.getElem?_map, List.getElem?_eq_getElem hj]; rfl
        rw [hlc0, ev_pre _ _ k j (by rw [hll.out] at hj; exact hj)] at h1
        have h2 := ev_pre (vs.map Bw.ct) ns (j + 1) j (by omega)
        rw [ev_take (vs := vs.map Bw.ct) (List.getElem?_eq_getElem hjm), List.getElem?_append_right (by rw [ev_len, List.length_take]; omega), ev_len, List.length_take, show j - min j ns.length = 0 by omega] at h2
        rw [h1] at h2
        simpa using h2.symm
      rw [← hc] at ho
      have hr := right_W ho.1
      simp only [Bw.ct] at hr ho
      exact ⟨(ES.out.ek _ hy).1, by unfold in64; omega⟩
    clear hlc0 hES E0
    by_cases hlt : k < n
    · have i0 : (k : Int) < (n : Int) := by omega
      obtain ⟨⟨s1, wa, wc, ka, kc⟩, gx⟩ : ∃ x, xs[k]? = some x := ⟨xs[k]'(by rw [HN.out]; exact hlt), List.getElem?_eq_getElem _⟩
      have gn : ns[k]? = some s1 := by rw [← HNS.out, List.getElem?_map, gx]; rfl
      obtain ⟨-, h | ⟨b3, o3, rfl, hc⟩⟩ := HS.out
      · rw [h] at gx; simp at gx
      obtain ⟨⟨p0, p1, p2, p3, p4, p5, p6⟩, pr, pk, q1, q2, q3, -⟩ := hc k _ gx
      simp only [Tg.hd] at p0 p1 p2 p3 p4 p5 p6 pr pk q1 q2 q3
      have HX := kide (ev_take (vs := vs.map Bw.ct) gn)
      have HAT := kide (HAT0.out k s1 gn)
      obtain ⟨op, vr, A, B, bw, ws, ks⟩ := s1
      simp only [] at p0 p1 p2 p3 p4 p5 p6 pr pk q1 q2 q3
      have hkid : Hid (∀ j ∈ ks, 0 ≤ j ∧ j < (l.length : Int)) := fun j hj => by
        have := HAT.out.kid j hj
        rw [← hlc.out, List.length_map] at this
        exact this
      have HCT := kide (pick_ct l ks hkid.out)
      rw [hlc.out] at HCT
      have hks := pk.1
      have HC2 := kide (fun k2 kc2 u (hu : Below w.heap.size w u) (hkk : RdW u k2 (pick l ks)) => l4Node_all va k2 wa ka vc kc2 wc kc vs (pick l ks) ⟨op, vr, A, B, bw, ws, ks⟩ (evR (vs.map Bw.ct) (ns.take k)) w u HAT.out HV.out hu HCT.out hkk pr q3)
      simp only [nodA] at HC2
      generalize hX : nodV (vs.map Bw.ct) (evR (vs.map Bw.ct) (ns.take k)) ⟨op, vr, A, B, bw, ws, ks⟩ = X at HC2 HX
      obtain ⟨wl, hwl⟩ : ∃ m, ws.length = m := ⟨_, rfl⟩
      obtain ⟨kl, hkl⟩ : ∃ m, ks.length = m := ⟨_, rfl⟩
      have hpl : Hid ((pick l ks).length = kl) := by show _ = _; simp [pick, hkl]
      rw [hpl.out] at HC2
      rw [hwl, hkl] at HC2
      rw [hwl] at p5
      rw [hkl] at p6 hks
      have HKL := kide hkl
      have HPK := kide pk
      have d0 := (ES.out.bel.cell (p := ⟨b3, o3 + k * 7, none⟩) (block_lt_of_cell p0)).trans p0
      have d1 := (ES.out.bel.cell (p := ⟨b3, o3 + k * 7 + 1, none⟩) (block_lt_of_cell p1)).trans p1
      have d2 := (ES.out.bel.cell (p := ⟨b3, o3 + k * 7 + 2, none⟩) (block_lt_of_cell p2)).trans p2
      have d3 := (ES.out.bel.cell (p := ⟨b3, o3 + k * 7 + 3, none⟩) (block_lt_of_cell p3)).trans p3
      have d4 := (ES.out.bel.cell (p := ⟨b3, o3 + k * 7 + 4, none⟩) (block_lt_of_cell p4)).trans p4
      have d5 := (ES.out.bel.cell (p := ⟨b3, o3 + k * 7 + 5, none⟩) (block_lt_of_cell p5)).trans p5
      have d6 := (ES.out.bel.cell (p := ⟨b3, o3 + k * 7 + 6, none⟩) (block_lt_of_cell p6)).trans p6
      obtain ⟨av, cv, hvo, hrw⟩ := ES.out.row.rd (by rw [hll.out]; omega) hokl.out
      rw [hll.out] at hvo
      subst hvo
      have HRW := kide hrw
      clear hc gx gn pr pk hwl hkl q1 q2 q3 HAT0 HAT hX p0 p1 p2 p3 p4 p5 p6 hrw
      go_wp2_with fail
      obtain ⟨wo, hwo⟩ : ∃ wo, wo = wr := ⟨_, rfl⟩
      subst hwo
      go_loopw [7, 8] (fun o2 q wr' => ∃ i : Nat, i ≤ kl ∧ q = .int .i64 (i : Int) ∧ OB2 wr' wo.heap.size o2 (pick l (ks.take i)) ∧ Below wo.heap.size wo wr') (fun _ q _ => kl - (intOf q).toNat)
      case atStart => exact ⟨0, Nat.zero_le _, rfl, by simpa [pick] using OB2.fresh wo wo.heap.size (Nat.le_refl _), (Below.refl _ _).alloc (Nat.le_refl _) _⟩
      case round =>
        obtain ⟨i, hi, rfl, hown, hb'⟩ := hrel
        have HO := kide hown
        have HB := kide hb'
        have c0 := (kcell hb' _ _ (block_lt_of_cell g0)).trans g0
        have c6 := (kcell hb' _ _ (block_lt_of_cell d6)).trans d6
        by_cases hil : i < kl
        · have j0 : (i : Int) < (kl : Int) := by omega
          obtain ⟨-, -, h | ⟨kb, ko, rfl, hkc⟩⟩ := (HPK.out.later ES.out.bel).later hb'
          · have := HKL.out; subst h; simp at this; omega
          have q0 := hkc i (by rw [HKL.out]; exact hil)
          have hki : ks[i]? = some (ks.getD i 0) := by rw [List.getElem?_eq_getElem (by rw [HKL.out]; exact hil)]; simp [List.getD, show i < ks.length by rw [HKL.out]; exact hil]
          have hkr := hkid.out (ks.getD i 0) (List.mem_of_getElem? hki)
          have HPT := kide (pick_take (l := l) hki)
          obtain ⟨j, hj, hjk⟩ : ∃ j : Nat, ks.getD i 0 = (j : Int) ∧ j < l.length := ⟨(ks.getD i 0).toNat, by omega, by omega⟩
          rw [hj] at q0 HPT
          rw [Int.toNat_natCast] at HPT
          obtain ⟨-, h | ⟨ab, ao, rfl, hac⟩⟩ := HRW.out.later hb'
          · rw [h] at hjk; simp at hjk
          obtain ⟨x, hx⟩ : ∃ x, l[j]? = some x := ⟨l[j], List.getElem?_eq_getElem hjk⟩
          obtain ⟨e0, e1, -, -⟩ := hac j x hx
          have hgx : l.getD j ⟨0, none, 0, []⟩ = x := by simp [List.getD, hx]
          rw [hgx] at HPT
          have jk : (j : Int) < (k : Int) := by rw [hll.out] at hjk; omega
          obtain ⟨wd, xa, xc, xs'⟩ := x
          simp only [] at e0 e1 HPT
          have hul : (pick l (ks.take i)).length ≤ 1073741824 := by simp [pick]; omega
          clear hkc hac hki hkr hj hx hgx hown hb'
          go_wp2_with (at_builtin; refine wpList_appB2E _ rfl _ _ rfl wo.heap.size _ (pick l (ks.take i)) ⟨wd, xa, xc, xs'⟩ rfl (HO.out.later ((Below.refl _ _).alloc (Nat.le_refl _) _)) wr.heap.size 1 rfl (by simp) (by simp) hul (by have := HB.out.size; simp; omega) ?_)
          intro v7 w7 hos hg
          have B7 := kide ((HB.out.trans (((Below.refl _ _).alloc (Nat.le_refl _) (Obj.cells #[Value.int .i64 wd, Value.slice xa xs'.length xc] 63)).mono HB.out.size)).grown hg (by have := HB.out.size; simp; omega) (fun b hb => (HO.out.lt hb).1))
          have O7 := kide hos
          clear hos hg c0 c6 e0 e1 q0
          go_wp2_with fail
          go_roundw
          case rel => exact ⟨i + 1, by omega, by go_num, by rw [HPT.out]; exact O7.out, B7.out⟩
          case measure => simp [intOf]; omega
        · have hfin : Hid (ks.take i = ks) := by show _ = _; rw [List.take_of_length_le (by rw [HKL.out]; omega)]
          rw [hfin.out] at HO
          obtain ⟨ka2, kc2', hvo2, hrk⟩ := HO.out.rd (by rw [hpl.out]; exact hks) (fun y hy => by
            simp only [pick, List.mem_map] at hy
            obtain ⟨j, hj, rfl⟩ := hy
            have hj2 := hkid.out j hj
            have hjl : j.toNat < l.length := by omega
            have hm : l.getD j.toNat ⟨0, none, 0, []⟩ ∈ l := by rw [List.getD, List.getElem?_eq_getElem hjl]; exact List.getElem_mem hjl
            exact ⟨(hokl.out _ hm).1.later hb', (hokl.out _ hm).2⟩)
          rw [hpl.out] at hvo2
          subst hvo2
          have hBW := ES.out.bel.trans (hb'.mono ES.out.bel.size)
          have HCALL := kide (HC2.out ka2 kc2' wr hBW hrk)
          have f0 := (kcell hb' _ _ (block_lt_of_cell d0)).trans d0
          have f1 := (kcell hb' _ _ (block_lt_of_cell d1)).trans d1
          have f2 := (kcell hb' _ _ (block_lt_of_cell d2)).trans d2
          have f3 := (kcell hb' _ _ (block_lt_of_cell d3)).trans d3
          have f4 := (kcell hb' _ _ (block_lt_of_cell d4)).trans d4
          have f5 := (kcell hb' _ _ (block_lt_of_cell d5)).trans d5
          have ES2 := kide (ES.out.later hb')
          clear hfin hBW hrk hown hb' HC2 hokl HRW HPK
          go_wp2_with fail
          refine Calls.mono HCALL.out ?_
          rintro e w5 ⟨a5, c5, rfl, hek, hb5⟩
          have ES5 := kide (ES2.out.later hb5)
          have EK5 := kide hek
          have hul : l.length ≤ 1073741824 := by rw [hll.out]; omega
          clear hb5 hek ES2 f0 f1 f2 f3 f4 f5 c0 c6 HCALL
          go_wp2_with (at_builtin; refine wpList_appB2E _ rfl _ _ rfl (w.heap.size + 2) _ l ⟨X.1, a5, c5, X.2⟩ rfl (ES5.out.row.later ((Below.refl _ _).alloc (Nat.le_refl _) _)) w5.heap.size 1 rfl (by simp) (by simp) hul (by have := ES5.out.xr.lt; simp; omega) ?_)
          intro v7 w7 hos hg
          have ES7 := kide ((ES5.out.later ((Below.refl _ _).alloc (Nat.le_refl _) (Obj.cells #[Value.int .i64 X.1, Value.slice a5 X.2.length c5] 63))).grown hg hos (EK5.out.later ES5.out.bel.size ((Below.refl _ _).alloc (Nat.le_refl _) _)))
          clear hos hg
          go_wp2_with fail
          go_roundw
          case rel => exact ⟨k + 1, l ++ [⟨X.1, a5, c5, X.2⟩], by omega, by go_num, by rw [List.map_append, hlc.out, HX.out]; rfl, ES7.out⟩
          case measure => simp [intOf]; omega
    · have e : k = n := by omega
      subst e
      have hfin : Hid (ns.take k = ns) := by show _ = _; rw [List.take_of_length_le (by rw [hln.out]; omega)]
      have hlc2 := hlc.out
      rw [hfin.out] at hlc2
      obtain ⟨m, rfl⟩ : ∃ m, k = m + 1 := ⟨k - 1, by omega⟩
      obtain ⟨x, hx⟩ : ∃ x, l[m]? = some x := ⟨l[m]'(by rw [hll.out]; omega), List.getElem?_eq_getElem _⟩
      have hxR : x.ct = R := by
        have h := HRE.out
        unfold evalR at h
        rw [← hlc2, hln.out, show m + 1 - 1 = m by omega, List.getD, List.getElem?_map, hx] at h
        simpa using h
      have hrx := (hokl.out x (List.mem_of_getElem? hx)).1
      have hRO := HRO.out
      rw [← hxR] at hRO
      have hne := len_ok hRO
      obtain ⟨av, cv, hv, hrw⟩ := ES.out.row.rd (by rw [hll.out]; omega) hokl.out
      rw [hll.out] at hv
      subst hv
      obtain ⟨-, h | ⟨ab, ao, rfl, hac⟩⟩ := hrw
      · rw [h] at hx; simp at hx
      obtain ⟨d0, d1, -, -⟩ := hac m x hx
      obtain ⟨wd, xa, xc, ys⟩ := x
      simp only [Bw.ct] at hxR d0 d1 hrx hne
      have HXR := kide hxR
      have hbl : Below wr.heap.size wr (wr.alloc (Obj.cells #[Value.int .i64 wd, Value.slice xa ys.length xc] 63)) := (Below.refl _ _).alloc (Nat.le_refl _) _
      have XL := kide (Bz.new wr #[Value.int .i64 wd, Value.slice xa ys.length xc] 63)
      have ES9 := kide (ES.out.later hbl)
      have hr9 := hrx.later hbl
      obtain ⟨hyl, hyb, h | ⟨bx, ox, rfl, hcx⟩⟩ := hr9
      · rw [h] at hne; simp at hne
      have e1 : (((m + 1 : Nat) : Int) - 1) = (m : Int) := by omega
      have e2 : (m : Int) < ((m + 1 : Nat) : Int) := by omega
      have lB := ES.out.xr.lt
      clear hac hx hxR hlc2 hfin HAT0 hrx hRO hokl
      go_wp2_with fail
      obtain ⟨lb, hlb⟩ : ∃ x, wr.heap.size = x := ⟨_, rfl⟩
      rw [hlb] at XL lB ⊢
      generalize wr.alloc (Obj.cells #[Value.int .i64 wd, Value.slice (some ⟨bx, ox, none⟩) ys.length xc] 63) = w9 at *
      have y0 : w9.cell? ⟨lb, 0, none⟩ = some (.int .i64 wd) := XL.out.cell 0
      have y1 : w9.cell? ⟨lb, 1, none⟩ = some (.slice (some ⟨bx, ox, none⟩) ys.length xc) := XL.out.cell 1
      have lL := XL.out.lt
      have hbE : Below w9.heap.size w9 (w9.alloc (Obj.cells #[] 103)) := (Below.refl _ _).alloc (Nat.le_refl _) _
      have HCE := kide (fun i (hi : i < ys.length) => (kcell hbE _ _ (block_lt_of_cell (hcx i hi))).trans (hcx i hi))
      have z0 := (kcell hbE _ _ lL).trans y0
      have z1 := (kcell hbE _ _ lL).trans y1
      clear hcx d0 d1 g0 hlb hbl
      have hoE : OwW (w9.alloc (Obj.cells #[] 103)).drew w9.heap.size (.slice (some ⟨w9.heap.size, 0, none⟩) 0 0) [] := OwW.empty w9 w9.heap.size w9.heap.size rfl (Nat.le_refl _)
      go_region_held_law (fun z => z.cell? ⟨lb, 0, none⟩ = some (Value.int IntKind.i64 wd) ∧ z.cell? ⟨lb, 1, none⟩ = some (Value.slice (some ⟨bx, ox, none⟩) ys.length xc))
        (first | (refine ⟨?_, ?_⟩ <;> assumption) | (refine ⟨?_, ?_⟩ <;> ((first | rw [set2_far _ _ _ _ _ (by simp only []; omega)] | rw [drew2_far _ _ _ _ _ (by simp only []; omega)]); assumption)))
        (first
          | (refine step_appWs _ rfl _ _ rfl w9.heap.size (.slice (some ⟨w9.heap.size, 0, none⟩) 0 0) [] ys rfl hoE bx ox xc rfl HCE.out (by simp; omega) (by show w9.heap.size ≤ (w9.alloc (Obj.cells #[] 103)).heap.size; simp) ?_; intro v5 w5 how5 hgr5; have hb5 : Below w9.heap.size w9 w5 := hbE.trans (kundrew (Below.grown (Below.refl w9.heap.size (w9.alloc (Obj.cells #[] 103)).drew) hgr5 (by show w9.heap.size ≤ (w9.alloc (Obj.cells #[] 103)).heap.size; simp) (fun k e => by cases e; exact Nat.le_refl _))); rw [List.nil_append] at how5; obtain ⟨a5, c5, rfl, hn5⟩ := how5.shape; have ES5 := ES9.out.later hb5; have y05 := (kcell hb5 _ _ lL).trans y0; have y15 := (kcell hb5 _ _ lL).trans y1; have r0 := ES5.xr.cell 0; have r1 := ES5.xr.cell 1; have f50 := ES5.xr.froz 0; have f51 := ES5.xr.froz 1; simp at r0 r1))
      go_wp2
      obtain ⟨x0, x1⟩ := ((Bz.blk ES5.xr).put0' (.int .i64 wd)).put1' (.slice a5 ys.length c5) |>.cells
      rw [← HXR.out]
      have HE := RetV.box (u := w) (W := wd) (c := c5) (Bz.blk ES5.xr) hn5 ES9.out.bel.size (Nat.le_succ _) ES5.bel
      refine bodyPost_ret (v := .agg #[.int .i64 wd, .slice a5 ys.length c5]) (by simp [results, Tryz.results25, go_sem, x0, x1]) rfl ?_
      first | exact HE | exact ⟨a5, c5, rfl, (by obtain ⟨a', c', he, h, -⟩ := HE; cases he; exact h), (by obtain ⟨-, -, -, -, h⟩ := HE; exact h.drew)⟩

end Go.Proofs.YtbpodkdlhjgncaaGreatDoor

/- What the given ValuesOk answers. -/
namespace Go.Proofs.YtbpodkdlhjgncaaGreatDoor
set_option linter.unusedVariables false
set_option linter.unusedSimpArgs false
open Go.RowKit

set_option maxHeartbeats 1000000 in
theorem specValues_any (a b : Option Addr) (c c2 : Nat) (ds : List Dc) (xs : List Bw) (w : World) (hr : RdD w a ds) (hs : RdW w b xs) (n : Nat) (hn : xs.length = n) :
    Calls Tryz.prog 22 #[.slice a ds.length c, .slice b n c2] w fun e w' => e = .returned (.bool (valR ds (xs.map Bw.ct))) ∧ Below w.heap.size w w' := by
  have hl1 := hr.1
  have hl2 := hs.1
  have HDC := kide (specDecls_any a c ds w hr)
  cases hD : dclR ds with
  | false =>
    rw [hD] at HDC
    have HR : valR ds (xs.map Bw.ct) = false := by simp [valR, hD]
    rw [HR]
    clear HR hD
    go_enter Tryz.func22, Tryz.ntmps22
    go_wp2_with fail
    refine Calls.mono HDC.out ?_
    rintro e w1 ⟨rfl, hb1⟩
    go_wp2_with fail
    go_ret
    exact ⟨rfl, hb1⟩
  | true =>
    rw [hD] at HDC
    by_cases hnd : n = ds.length
    · subst hnd
      have HG := kide (fun h => valR_good (xs := xs) hD hn h)
      have HBAD := kide (fun k x d hx hd h => valR_bad (ds := ds) (xs := xs) (k := k) (x := x) (d := d) hx hd h)
      generalize valR ds (xs.map Bw.ct) = R at *
      have HN := kide hn
      have hne : ((ds.length : Int) != (ds.length : Int)) = false := by simp
      clear hD hn hl2
      go_enter Tryz.func22, Tryz.ntmps22
      go_wp2_with fail
      refine Calls.mono HDC.out ?_
      rintro e w1 ⟨rfl, hb1⟩
      have B1 := kide hb1
      clear hb1 HDC
      go_wp2_with fail
      clear hne
      go_loopw [5] (fun i wr => ∃ k : Nat, k ≤ ds.length ∧ i = .int .i64 (k : Int) ∧ (∀ (i : Nat) x d, i < k → xs[i]? = some x → ds[i]? = some d → rightB x.wd x.ws = true ∧ x.wd = d.2) ∧ Below w.heap.size w wr) (fun i _ => ds.length - (intOf i).toNat)
      case atStart => exact ⟨0, Nat.zero_le _, rfl, fun i x d h => by omega, B1.out⟩
      case round =>
        obtain ⟨k, hk, rfl, hz, hbel⟩ := hrel
        have HZ := kide hz
        have HB := kide hbel
        by_cases hlt : k < ds.length
        · obtain ⟨-, hsz, h | ⟨b1, o1, rfl, hc1⟩⟩ := hr
          · subst h; simp at hlt
          obtain ⟨-, h | ⟨b2, o2, rfl, hc2⟩⟩ := hs
          · have := HN.out; subst h; simp at this; omega
          obtain ⟨⟨t, y⟩, gd⟩ : ∃ d, ds[k]? = some d := ⟨ds[k], List.getElem?_eq_getElem hlt⟩
          obtain ⟨⟨s1, a1, c1, k1⟩, gx⟩ : ∃ x, xs[k]? = some x := ⟨xs[k]'(by rw [HN.out]; exact hlt), List.getElem?_eq_getElem _⟩
          obtain ⟨-, q1⟩ := (hc1 k _ gd).later hbel
          obtain ⟨p0, p1, p2, p3⟩ := (hc2 k _ gx).later hbel
          obtain ⟨hy, -⟩ := hsz _ (List.mem_of_getElem? gd)
          simp only [] at q1 p0 p1 p2 p3 hy
          have HBD := kide (fun h => HBAD.out k _ _ gx gd h)
          simp only [] at HBD
          have GX := kide gx
          have GD := kide gd
          have i0 : (k : Int) < (ds.length : Int) := by omega
          have HOK : Hid (∀ u, Below wr.heap.size wr u → Calls Tryz.prog 46 #[.agg #[.int .i64 s1, .slice a1 k1.length c1]] u fun e w' => e = .returned (.bool (rightB s1 k1)) ∧ Below u.heap.size u w') := fun u hu => specOk_any s1 a1 c1 k1 u (p2.later hu)
          have l1 : b1 < wr.heap.size := block_lt_of_cell q1
          have l2 : b2 < wr.heap.size := block_lt_of_cell p0
          clear hc1 hc2 hsz gx gd hbel hz p2 HBAD
          by_cases hsy : s1 = y
          · have hne : (s1 != y) = false := by simp [hsy]
            have HSY := kide hsy
            generalize hrB : rightB s1 k1 = r at *
            have HRB := kide hrB
            clear hrB hsy
            cases r with
            | false =>
              have HF := kide (HBD.out (by simp))
              go_wp2_with fail
              go_region_held3 (fun u => u.cell? ⟨b2, o2 + k * 2, none⟩ = some (Value.int .i64 s1) ∧ u.cell? ⟨b2, o2 + k * 2 + 1, none⟩ = some (Value.slice a1 k1.length c1) ∧ u.cell? ⟨b1, o1 + k * 2 + 1, none⟩ = some (Value.int .i64 y)) (simp [*])
                ((go_at_call 46; refine Calls.mono (HOK.out _ ?_) ?_; exact (Below.refl _ _).drew; rintro e w3 ⟨rfl, hb3⟩; replace hb3 := kundrew hb3; have k0 := kcell hb3 b2 (o2 + k * 2) l2; have k1' := kcell hb3 b2 (o2 + k * 2 + 1) l2; have k2' := kcell hb3 b1 (o1 + k * 2 + 1) l1))
              go_wp2_with fail
              go_ret
              exact ⟨ret_bool HF.out.symm, HB.out.trans (hb3.mono HB.out.size)⟩
            | true =>
              go_wp2_with fail
              go_region_held3 (fun u => u.cell? ⟨b2, o2 + k * 2, none⟩ = some (Value.int .i64 s1) ∧ u.cell? ⟨b2, o2 + k * 2 + 1, none⟩ = some (Value.slice a1 k1.length c1) ∧ u.cell? ⟨b1, o1 + k * 2 + 1, none⟩ = some (Value.int .i64 y)) (simp [*])
                ((go_at_call 46; refine Calls.mono (HOK.out _ ?_) ?_; exact (Below.refl _ _).drew; rintro e w3 ⟨rfl, hb3⟩; replace hb3 := kundrew hb3; have k0 := kcell hb3 b2 (o2 + k * 2) l2; have k1' := kcell hb3 b2 (o2 + k * 2 + 1) l2; have k2' := kcell hb3 b1 (o1 + k * 2 + 1) l1))
              go_wp2_with fail
              go_roundw
              case rel =>
                refine ⟨k + 1, by omega, by go_num, fun i x d hi hx hd => ?_, HB.out.trans (hb3.mono HB.out.size)⟩
                by_cases hik : i = k
                · subst hik
                  rw [GX.out] at hx
                  rw [GD.out] at hd
                  cases hx
                  cases hd
                  exact ⟨HRB.out, HSY.out⟩
                · exact HZ.out i x d (by omega) hx hd
              case measure => simp [intOf]; omega
          · have hne : (s1 != y) = true := by simp [hsy]
            have HF := kide (HBD.out (fun h => hsy h.2))
            clear hsy
            go_wp2_with fail
            go_quiet (fail)
            go_wp2_with fail
            go_ret
            exact ⟨ret_bool HF.out.symm, below_drewN HB.out _⟩
        · have e : k = ds.length := by omega
          have HR : Hid (R = true) := HG.out fun i x d hx hd => HZ.out i x d (by have := (List.getElem?_eq_some_iff.1 hd).1; omega) hx hd
          clear hz hbel e
          go_wp2_with fail
          go_ret
          exact ⟨ret_bool HR.out.symm, HB.out⟩
    · have HR : valR ds (xs.map Bw.ct) = false := by simp [valR, hn, hnd]
      rw [HR]
      have hne : ((n : Int) != (ds.length : Int)) = true := by simp; omega
      rw [hn] at hl2
      clear HR hD hn hnd
      go_enter Tryz.func22, Tryz.ntmps22
      go_wp2_with fail
      refine Calls.mono HDC.out ?_
      rintro e w1 ⟨rfl, hb1⟩
      go_wp2_with fail
      go_ret
      exact ⟨rfl, hb1⟩

end Go.Proofs.YtbpodkdlhjgncaaGreatDoor
