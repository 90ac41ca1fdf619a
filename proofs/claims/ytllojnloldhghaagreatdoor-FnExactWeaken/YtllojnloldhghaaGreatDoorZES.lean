/- Several texts in one. -/
import Derived.Test.YtllojnloldhghaaGreatDoorZEE
import Derived.Test.YtllojnloldhghaaGreatDoorEVB
import Derived.Test.YtllojnloldhghaaGreatDoorZBA
import Derived.Test.YtllojnloldhghaaGreatDoorZBA
import Derived.Deep.RegionHeld3
import Derived.Deep.RegionWith

/- The specification's l4Eval. -/
namespace Go.Proofs.YtllojnloldhghaaGreatDoor
set_option linter.unusedVariables false
set_option linter.unusedSimpArgs false
open Go.RowKit

/-- The words of nodes. -/
def pick (l : List Bw) (ks : List Int) : List Bw := ks.map fun k => l.getD k.toNat ⟨0, none, 0, []⟩

theorem pick_ct (l : List Bw) (ks : List Int) (h : ∀ j ∈ ks, 0 ≤ j ∧ j < (l.length : Int)) : (pick l ks).map Bw.ct = kidsV (l.map Bw.ct) ks := by
  simp only [pick, kidsV, List.map_map]
  refine List.map_congr_left fun k hk => ?_
  have := h k hk
  have hl : k.toNat < l.length := by omega
  simp [List.getD, hl]

theorem pick_take {l : List Bw} {ks : List Int} {i : Nat} {k : Int} (h : ks[i]? = some k) : pick l (ks.take (i + 1)) = pick l (ks.take i) ++ [l.getD k.toNat ⟨0, none, 0, []⟩] := by
  simp [pick, List.take_add_one, h]

set_option maxHeartbeats 8000000 in
set_option maxRecDepth 100000 in
theorem l4Eval_any (va b : Option Addr) (vc c2 n : Nat) (ds : List Dc) (vs : List Bw) (xs : List Tg) (w : World) (hv : RdW w va vs) (hs : RdT w b xs) (hn : xs.length = n) (hW : ¬ (widthsR ds (xs.map Tg.ct)).length = 0) (hV : valR ds (vs.map Bw.ct) = true) :
    Calls Tryz.prog 72 #[.slice va vs.length vc, .agg #[.slice b n c2]] w (RetV w (evalR (vs.map Bw.ct) (xs.map Tg.ct))) := by
  have HAT0 := kide (fun (k : Nat) (m : Tc) hk => ev_at hW hV hv.words hs.words (k := k) (n := m) hk)
  have hR := eval_ok hW hV hv.words hs.words
  obtain ⟨hl1, hl2, -, -⟩ := right_kids hW
  rw [List.length_map, hn] at hl1 hl2
  have HV := kide hv
  have HS := kide hs
  have HN := kide hn
  obtain ⟨ns, hns⟩ : ∃ ns, xs.map Tg.ct = ns := ⟨_, rfl⟩
  rw [hns] at HAT0 hR ⊢
  have HNS := kide hns
  have hln : Hid (ns.length = n) := by show _ = _; rw [← HNS.out]; simpa using HN.out
  obtain ⟨R, hRe⟩ : ∃ R, evalR (vs.map Bw.ct) ns = R := ⟨_, rfl⟩
  rw [hRe] at hR ⊢
  have HRE := kide hRe
  have HRO := kide hR
  clear hv hs hn hW hV hns hRe hR
  have XR : Hid (Bz ((w.alloc (Obj.cells #[Value.slice b n c2] 76)).alloc (Obj.cells #[Value.int .i64 0, Value.slice none 0 0] 82)) (w.heap.size + 1) #[Value.int .i64 0, Value.slice none 0 0] 82) := by
    have := Bz.new (w.alloc (Obj.cells #[Value.slice b n c2] 76)) #[Value.int .i64 0, Value.slice none 0 0] 82
    rw [World.size_alloc] at this
    exact this
  have XT : Hid (Bz ((w.alloc (Obj.cells #[Value.slice b n c2] 76)).alloc (Obj.cells #[Value.int .i64 0, Value.slice none 0 0] 82)) w.heap.size #[Value.slice b n c2] 76) := (Bz.new w #[Value.slice b n c2] 76).later ((Below.refl _ _).alloc (Nat.le_refl _) _)
  have BL : Hid (Below w.heap.size w ((w.alloc (Obj.cells #[Value.slice b n c2] 76)).alloc (Obj.cells #[Value.int .i64 0, Value.slice none 0 0] 82))) := Ba (Ba (Below.refl _ _) _) _
  have hsz : ((w.alloc (Obj.cells #[Value.slice b n c2] 76)).alloc (Obj.cells #[Value.int .i64 0, Value.slice none 0 0] 82)).heap.size = w.heap.size + 2 := by simp
  have hb4 : Below ((w.alloc (Obj.cells #[Value.slice b n c2] 76)).alloc (Obj.cells #[Value.int .i64 0, Value.slice none 0 0] 82)).heap.size ((w.alloc (Obj.cells #[Value.slice b n c2] 76)).alloc (Obj.cells #[Value.int .i64 0, Value.slice none 0 0] 82)) (((w.alloc (Obj.cells #[Value.slice b n c2] 76)).alloc (Obj.cells #[Value.int .i64 0, Value.slice none 0 0] 82)).alloc (Obj.cells #[] 82)) := (Below.refl _ _).alloc (Nat.le_refl _) _
  have O0 := OB2.fresh ((w.alloc (Obj.cells #[Value.slice b n c2] 76)).alloc (Obj.cells #[Value.int .i64 0, Value.slice none 0 0] 82)) (w.heap.size + 2) (by rw [hsz]; exact Nat.le_refl _)
  have E0 : Hid (Es w b n c2 (((w.alloc (Obj.cells #[Value.slice b n c2] 76)).alloc (Obj.cells #[Value.int .i64 0, Value.slice none 0 0] 82)).alloc (Obj.cells #[] 82)) (.slice (some ⟨((w.alloc (Obj.cells #[Value.slice b n c2] 76)).alloc (Obj.cells #[Value.int .i64 0, Value.slice none 0 0] 82)).heap.size, 0, none⟩) 0 0) []) := ⟨XT.out.later hb4, XR.out.later hb4, O0, by simp, BL.out.trans (hb4.mono BL.out.size)⟩
  rw [hsz] at E0
  clear XR XT BL hsz hb4 O0
  go_enter Tryz.func72, Tryz.ntmps72
  go_wp2_with fail
  generalize ((w.alloc (Obj.cells #[Value.slice b n c2] 76)).alloc (Obj.cells #[Value.int .i64 0, Value.slice none 0 0] 82)).alloc (Obj.cells #[] 82) = w4 at *
  go_loopw [5, 6] (fun o q wr => ∃ (k : Nat) (l : List Bw), k ≤ n ∧ q = .int .i64 (k : Int) ∧ l.map Bw.ct = evR (vs.map Bw.ct) (ns.take k) ∧ Es w b n c2 wr o l) (fun _ q _ => n - (intOf q).toNat)
  case atStart => exact ⟨0, [], Nat.zero_le _, rfl, by simp [evR], E0.out⟩
  case round =>
    obtain ⟨k, l, hk, rfl, hlc0, hES⟩ := hrel
    have hlc := kide hlc0
    have ES := kide hES
    have hll : Hid (l.length = k) := by
      have h := congrArg List.length hlc0
      rw [List.length_map, ev_len, List.length_take, hln.out] at h
      show _ = _
      omega
    have g0 : wr.cell? ⟨w.heap.size, 0, none⟩ = some (.slice b n c2) := ES.out.xt.cell 0
    have hokl : Hid (∀ y ∈ l, Rd wr y.a y.ws ∧ in64 y.wd) := fun y hy => by
      obtain ⟨j, hj, rfl⟩ := List.mem_iff_getElem.1 hy
      have hjm : j < ns.length := by rw [hln.out]; rw [hll.out] at hj; omega
      have ho := (HAT0.out j ns[j] (List.getElem?_eq_getElem hjm)).is
      have hc : (l[j]).ct = nodV (vs.map Bw.ct) (evR (vs.map Bw.ct) (ns.take j)) ns[j] := by
        have h1 : (l.map Bw.ct)[j]? = some (l[j]).ct := by rw [List.getElem?_map, List.getElem?_eq_getElem hj]; rfl
        rw [hlc0, ev_pre _ _ k j (by rw [hll.out] at hj; exact hj)] at h1
        have h2 := ev_pre (vs.map Bw.ct) ns (j + 1) j (by omega)
        rw [ev_take (vs := vs.map Bw.ct) (List.getElem?_eq_getElem hjm), List.getElem?_append_right (by rw [ev_len, List.length_take]; omega), ev_len, List.length_take, show j - min j ns.length = 0 by omega] at h2
        rw [h1] at h2
        simpa using h2.symm
      rw [← hc] at ho
      have hr := right_W ho.1
      simp only [Bw.ct] at hr ho
      exact ⟨(ES.out.ek _ hy).1, by unfold in64; omega⟩
    clear hlc0 hES E0
    by_cases hlt : k < n
    · have i0 : (k : Int) < (n : Int) := by omega
      obtain ⟨⟨s1, wa, wc, ka, kc⟩, gx⟩ : ∃ x, xs[k]? = some x := ⟨xs[k]'(by rw [HN.out]; exact hlt), List.getElem?_eq_getElem _⟩
      have gn : ns[k]? = some s1 := by rw [← HNS.out, List.getElem?_map, gx]; rfl
      obtain ⟨-, h | ⟨b3, o3, rfl, hc⟩⟩ := HS.out
      · rw [h] at gx; simp at gx
      obtain ⟨⟨p0, p1, p2, p3, p4, p5, p6⟩, pr, pk, q1, q2, q3, -⟩ := hc k _ gx
      simp only [Tg.hd] at p0 p1 p2 p3 p4 p5 p6 pr pk q1 q2 q3
      have HX := kide (ev_take (vs := vs.map Bw.ct) gn)
      have HAT := kide (HAT0.out k s1 gn)
      obtain ⟨op, vr, A, B, bw, ws, ks⟩ := s1
      simp only [] at p0 p1 p2 p3 p4 p5 p6 pr pk q1 q2 q3
      have hkid : Hid (∀ j ∈ ks, 0 ≤ j ∧ j < (l.length : Int)) := fun j hj => by
        have := HAT.out.kid j hj
        rw [← hlc.out, List.length_map] at this
        exact this
      have HCT := kide (pick_ct l ks hkid.out)
      rw [hlc.out] at HCT
      have hks := pk.1
      have HC2 := kide (fun k2 kc2 u (hu : Below w.heap.size w u) (hkk : RdW u k2 (pick l ks)) => l4Node_all va k2 wa ka vc kc2 wc kc vs (pick l ks) ⟨op, vr, A, B, bw, ws, ks⟩ (evR (vs.map Bw.ct) (ns.take k)) w u HAT.out HV.out hu HCT.out hkk pr q3)
      simp only [nodA] at HC2
      generalize hX : nodV (vs.map Bw.ct) (evR (vs.map Bw.ct) (ns.take k)) ⟨op, vr, A, B, bw, ws, ks⟩ = X at HC2 HX
      obtain ⟨wl, hwl⟩ : ∃ m, ws.length = m := ⟨_, rfl⟩
      obtain ⟨kl, hkl⟩ : ∃ m, ks.length = m := ⟨_, rfl⟩
      have hpl : Hid ((pick l ks).length = kl) := by show _ = _; simp [pick, hkl]
      rw [hpl.out] at HC2
      rw [hwl, hkl] at HC2
      rw [hwl] at p5
      rw [hkl] at p6 hks
      have HKL := kide hkl
      have HPK := kide pk
      have d0 := (ES.out.bel.cell (p := ⟨b3, o3 + k * 7, none⟩) (block_lt_of_cell p0)).trans p0
      have d1 := (ES.out.bel.cell (p := ⟨b3, o3 + k * 7 + 1, none⟩) (block_lt_of_cell p1)).trans p1
      have d2 := (ES.out.bel.cell (p := ⟨b3, o3 + k * 7 + 2, none⟩) (block_lt_of_cell p2)).trans p2
      have d3 := (ES.out.bel.cell (p := ⟨b3, o3 + k * 7 + 3, none⟩) (block_lt_of_cell p3)).trans p3
      have d4 := (ES.out.bel.cell (p := ⟨b3, o3 + k * 7 + 4, none⟩) (block_lt_of_cell p4)).trans p4
      have d5 := (ES.out.bel.cell (p := ⟨b3, o3 + k * 7 + 5, none⟩) (block_lt_of_cell p5)).trans p5
      have d6 := (ES.out.bel.cell (p := ⟨b3, o3 + k * 7 + 6, none⟩) (block_lt_of_cell p6)).trans p6
      obtain ⟨av, cv, hvo, hrw⟩ := ES.out.row.rd (by rw [hll.out]; omega) hokl.out
      rw [hll.out] at hvo
      subst hvo
      have HRW := kide hrw
      clear hc gx gn pr pk hwl hkl q1 q2 q3 HAT0 HAT hX p0 p1 p2 p3 p4 p5 p6 hrw
      go_wp2_with fail
      obtain ⟨wo, hwo⟩ : ∃ wo, wo = wr := ⟨_, rfl⟩
      subst hwo
      go_loopw [7, 8] (fun o2 q wr' => ∃ i : Nat, i ≤ kl ∧ q = .int .i64 (i : Int) ∧ OB2 wr' wo.heap.size o2 (pick l (ks.take i)) ∧ Below wo.heap.size wo wr') (fun _ q _ => kl - (intOf q).toNat)
      case atStart => exact ⟨0, Nat.zero_le _, rfl, by simpa [pick] using OB2.fresh wo wo.heap.size (Nat.le_refl _), (Below.refl _ _).alloc (Nat.le_refl _) _⟩
      case round =>
        obtain ⟨i, hi, rfl, hown, hb'⟩ := hrel
        have HO := kide hown
        have HB := kide hb'
        have c0 := (kcell hb' _ _ (block_lt_of_cell g0)).trans g0
        have c6 := (kcell hb' _ _ (block_lt_of_cell d6)).trans d6
        by_cases hil : i < kl
        · have j0 : (i : Int) < (kl : Int) := by omega
          obtain ⟨-, -, h | ⟨kb, ko, rfl, hkc⟩⟩ := (HPK.out.later ES.out.bel).later hb'
          · have := HKL.out; subst h; simp at this; omega
          have q0 := hkc i (by rw [HKL.out]; exact hil)
          have hki : ks[i]? = some (ks.getD i 0) := by rw [List.getElem?_eq_getElem (by rw [HKL.out]; exact hil)]; simp [List.getD, show i < ks.length by rw [HKL.out]; exact hil]
          have hkr := hkid.out (ks.getD i 0) (List.mem_of_getElem? hki)
          have HPT := kide (pick_take (l := l) hki)
          obtain ⟨j, hj, hjk⟩ : ∃ j : Nat, ks.getD i 0 = (j : Int) ∧ j < l.length := ⟨(ks.getD i 0).toNat, by omega, by omega⟩
          rw [hj] at q0 HPT
          rw [Int.toNat_natCast] at HPT
          obtain ⟨-, h | ⟨ab, ao, rfl, hac⟩⟩ := HRW.out.later hb'
          · rw [h] at hjk; simp at hjk
          obtain ⟨x, hx⟩ : ∃ x, l[j]? = some x := ⟨l[j], List.getElem?_eq_getElem hjk⟩
          obtain ⟨e0, e1, -, -⟩ := hac j x hx
          have hgx : l.getD j ⟨0, none, 0, []⟩ = x := by simp [List.getD, hx]
          rw [hgx] at HPT
          have jk : (j : Int) < (k : Int) := by rw [hll.out] at hjk; omega
          obtain ⟨wd, xa, xc, xs'⟩ := x
          simp only [] at e0 e1 HPT
          have hul : (pick l (ks.take i)).length ≤ 1073741824 := by simp [pick]; omega
          clear hkc hac hki hkr hj hx hgx hown hb'
          go_wp2_with (at_builtin; refine wpList_appB2 _ rfl _ _ rfl wo.heap.size _ (pick l (ks.take i)) ⟨wd, xa, xc, xs'⟩ rfl (HO.out.later ((Below.refl _ _).alloc (Nat.le_refl _) _)) wr.heap.size 1 rfl (by simp) (by simp) hul (by have := HB.out.size; simp; omega) ?_)
          intro v7 w7 hos hg
          have B7 := kide ((HB.out.trans (((Below.refl _ _).alloc (Nat.le_refl _) (Obj.cells #[Value.int .i64 wd, Value.slice xa xs'.length xc] 82)).mono HB.out.size)).grown hg (by have := HB.out.size; simp; omega) (fun b hb => (HO.out.lt hb).1))
          have O7 := kide hos
          clear hos hg c0 c6 e0 e1 q0
          go_wp2_with fail
          go_roundw
          case rel => exact ⟨i + 1, by omega, by go_num, by rw [HPT.out]; exact O7.out, B7.out⟩
          case measure => simp [intOf]; omega
        · have hfin : Hid (ks.take i = ks) := by show _ = _; rw [List.take_of_length_le (by rw [HKL.out]; omega)]
          rw [hfin.out] at HO
          obtain ⟨ka2, kc2', hvo2, hrk⟩ := HO.out.rd (by rw [hpl.out]; exact hks) (fun y hy => by
            simp only [pick, List.mem_map] at hy
            obtain ⟨j, hj, rfl⟩ := hy
            have hj2 := hkid.out j hj
            have hjl : j.toNat < l.length := by omega
            have hm : l.getD j.toNat ⟨0, none, 0, []⟩ ∈ l := by rw [List.getD, List.getElem?_eq_getElem hjl]; exact List.getElem_mem hjl
            exact ⟨(hokl.out _ hm).1.later hb', (hokl.out _ hm).2⟩)
          rw [hpl.out] at hvo2
          subst hvo2
          have hBW := ES.out.bel.trans (hb'.mono ES.out.bel.size)
          have HCALL := kide (HC2.out ka2 kc2' wr hBW hrk)
          have f0 := (kcell hb' _ _ (block_lt_of_cell d0)).trans d0
          have f1 := (kcell hb' _ _ (block_lt_of_cell d1)).trans d1
          have f2 := (kcell hb' _ _ (block_lt_of_cell d2)).trans d2
          have f3 := (kcell hb' _ _ (block_lt_of_cell d3)).trans d3
          have f4 := (kcell hb' _ _ (block_lt_of_cell d4)).trans d4
          have f5 := (kcell hb' _ _ (block_lt_of_cell d5)).trans d5
          have ES2 := kide (ES.out.later hb')
          clear hfin hBW hrk hown hb' HC2 hokl HRW HPK
          go_wp2_with fail
          refine Calls.mono HCALL.out ?_
          rintro e w5 ⟨a5, c5, rfl, hek, hb5⟩
          have ES5 := kide (ES2.out.later hb5)
          have EK5 := kide hek
          have hul : l.length ≤ 1073741824 := by rw [hll.out]; omega
          clear hb5 hek ES2 f0 f1 f2 f3 f4 f5 c0 c6 HCALL
          go_wp2_with (at_builtin; refine wpList_appB2 _ rfl _ _ rfl (w.heap.size + 2) _ l ⟨X.1, a5, c5, X.2⟩ rfl (ES5.out.row.later ((Below.refl _ _).alloc (Nat.le_refl _) _)) w5.heap.size 1 rfl (by simp) (by simp) hul (by have := ES5.out.xr.lt; simp; omega) ?_)
          intro v7 w7 hos hg
          have ES7 := kide ((ES5.out.later ((Below.refl _ _).alloc (Nat.le_refl _) (Obj.cells #[Value.int .i64 X.1, Value.slice a5 X.2.length c5] 82))).grown hg hos (EK5.out.later ES5.out.bel.size ((Below.refl _ _).alloc (Nat.le_refl _) _)))
          clear hos hg
          go_wp2_with fail
          go_roundw
          case rel => exact ⟨k + 1, l ++ [⟨X.1, a5, c5, X.2⟩], by omega, by go_num, by rw [List.map_append, hlc.out, HX.out]; rfl, ES7.out⟩
          case measure => simp [intOf]; omega
    · have e : k = n := by omega
      subst e
      have hfin : Hid (ns.take k = ns) := by show _ = _; rw [List.take_of_length_le (by rw [hln.out]; omega)]
      have hlc2 := hlc.out
      rw [hfin.out] at hlc2
      obtain ⟨m, rfl⟩ : ∃ m, k = m + 1 := ⟨k - 1, by omega⟩
      obtain ⟨x, hx⟩ : ∃ x, l[m]? = some x := ⟨l[m]'(by rw [hll.out]; omega), List.getElem?_eq_getElem _⟩
      have hxR : x.ct = R := by
        have h := HRE.out
        unfold evalR at h
        rw [← hlc2, hln.out, show m + 1 - 1 = m by omega, List.getD, List.getElem?_map, hx] at h
        simpa using h
      have hrx := (hokl.out x (List.mem_of_getElem? hx)).1
      have hRO := HRO.out
      rw [← hxR] at hRO
      have hne := len_ok hRO
      obtain ⟨av, cv, hv, hrw⟩ := ES.out.row.rd (by rw [hll.out]; omega) hokl.out
      rw [hll.out] at hv
      subst hv
      obtain ⟨-, h | ⟨ab, ao, rfl, hac⟩⟩ := hrw
      · rw [h] at hx; simp at hx
      obtain ⟨d0, d1, -, -⟩ := hac m x hx
      obtain ⟨wd, xa, xc, ys⟩ := x
      simp only [Bw.ct] at hxR d0 d1 hrx hne
      have HXR := kide hxR
      have hbl : Below wr.heap.size wr (wr.alloc (Obj.cells #[Value.int .i64 wd, Value.slice xa ys.length xc] 82)) := (Below.refl _ _).alloc (Nat.le_refl _) _
      have XL := kide (Bz.new wr #[Value.int .i64 wd, Value.slice xa ys.length xc] 82)
      have ES9 := kide (ES.out.later hbl)
      have hr9 := hrx.later hbl
      obtain ⟨hyl, hyb, h | ⟨bx, ox, rfl, hcx⟩⟩ := hr9
      · rw [h] at hne; simp at hne
      have e1 : (((m + 1 : Nat) : Int) - 1) = (m : Int) := by omega
      have e2 : (m : Int) < ((m + 1 : Nat) : Int) := by omega
      have lB := ES.out.xr.lt
      clear hac hx hxR hlc2 hfin HAT0 hrx hRO hokl
      go_wp2_with fail
      obtain ⟨lb, hlb⟩ : ∃ x, wr.heap.size = x := ⟨_, rfl⟩
      rw [hlb] at XL lB ⊢
      generalize wr.alloc (Obj.cells #[Value.int .i64 wd, Value.slice (some ⟨bx, ox, none⟩) ys.length xc] 82) = w9 at *
      have y0 : w9.cell? ⟨lb, 0, none⟩ = some (.int .i64 wd) := XL.out.cell 0
      have y1 : w9.cell? ⟨lb, 1, none⟩ = some (.slice (some ⟨bx, ox, none⟩) ys.length xc) := XL.out.cell 1
      have lL := XL.out.lt
      have hbE : Below w9.heap.size w9 (w9.alloc (Obj.cells #[] 117)) := (Below.refl _ _).alloc (Nat.le_refl _) _
      have HCE := kide (fun i (hi : i < ys.length) => (kcell hbE _ _ (block_lt_of_cell (hcx i hi))).trans (hcx i hi))
      have z0 := (kcell hbE _ _ lL).trans y0
      have z1 := (kcell hbE _ _ lL).trans y1
      clear hcx d0 d1 g0 hlb hbl
      have hoE : OwW (w9.alloc (Obj.cells #[] 117)).drew w9.heap.size (.slice (some ⟨w9.heap.size, 0, none⟩) 0 0) [] := OwW.empty w9 w9.heap.size w9.heap.size rfl (Nat.le_refl _)
      go_region_held_law (fun z => z.cell? ⟨lb, 0, none⟩ = some (Value.int IntKind.i64 wd) ∧ z.cell? ⟨lb, 1, none⟩ = some (Value.slice (some ⟨bx, ox, none⟩) ys.length xc))
        (first | (refine ⟨?_, ?_⟩ <;> assumption) | (refine ⟨?_, ?_⟩ <;> ((first | rw [set2_far _ _ _ _ _ (by simp only []; omega)] | rw [drew2_far _ _ _ _ _ (by simp only []; omega)]); assumption)))
        (first
          | (refine step_appWs _ rfl _ _ rfl w9.heap.size (.slice (some ⟨w9.heap.size, 0, none⟩) 0 0) [] ys rfl hoE bx ox xc rfl HCE.out (by simp; omega) (by show w9.heap.size ≤ (w9.alloc (Obj.cells #[] 117)).heap.size; simp) ?_; intro v5 w5 how5 hgr5; have hb5 : Below w9.heap.size w9 w5 := hbE.trans (kundrew (Below.grown (Below.refl w9.heap.size (w9.alloc (Obj.cells #[] 117)).drew) hgr5 (by show w9.heap.size ≤ (w9.alloc (Obj.cells #[] 117)).heap.size; simp) (fun k e => by cases e; exact Nat.le_refl _))); rw [List.nil_append] at how5; obtain ⟨a5, c5, rfl, hn5⟩ := how5.shape; have ES5 := ES9.out.later hb5; have y05 := (kcell hb5 _ _ lL).trans y0; have y15 := (kcell hb5 _ _ lL).trans y1; have r0 := ES5.xr.cell 0; have r1 := ES5.xr.cell 1; have f50 := ES5.xr.froz 0; have f51 := ES5.xr.froz 1; simp at r0 r1))
      go_wp2
      obtain ⟨x0, x1⟩ := ((Bz.blk ES5.xr).put0' (.int .i64 wd)).put1' (.slice a5 ys.length c5) |>.cells
      rw [← HXR.out]
      have HE := RetV.box (u := w) (W := wd) (c := c5) (Bz.blk ES5.xr) hn5 ES9.out.bel.size (Nat.le_succ _) ES5.bel
      refine bodyPost_ret (v := .agg #[.int .i64 wd, .slice a5 ys.length c5]) (by simp [results, Tryz.results72, go_sem, x0, x1]) rfl ?_
      first | exact HE | exact ⟨a5, c5, rfl, (by obtain ⟨a', c', he, h, -⟩ := HE; cases he; exact h), (by obtain ⟨-, -, -, -, h⟩ := HE; exact h.drew)⟩

end Go.Proofs.YtllojnloldhghaaGreatDoor

/- Two words compared: the program's CompareBits, the given l3SameBits. -/
namespace Go.Proofs.YtllojnloldhghaaGreatDoor
set_option linter.unusedVariables false
set_option linter.unusedSimpArgs false
open Go.RowKit

/-- Two boxes of a call still stand. -/
def Bb (w : World) (o1 o2 : Obj) (wk : World) : Prop := Below (w.heap.size + 2) ((w.alloc o1).alloc o2) wk
theorem Bb.start (w : World) (o1 o2 : Obj) : Bb w o1 o2 ((w.alloc o1).alloc o2) := Below.refl _ _
theorem Bb.size {w wk : World} {o1 o2 : Obj} (h : Bb w o1 o2 wk) : w.heap.size + 2 ≤ wk.heap.size := by have := Below.size h; simpa using this
theorem Bb.next {w wk w1 : World} {o1 o2 : Obj} (h : Bb w o1 o2 wk) (hb : Below wk.heap.size wk w1) : Bb w o1 o2 w1 := Below.trans h (hb.mono h.size)
theorem Bb.below {w wk : World} {o1 o2 : Obj} (h : Bb w o1 o2 wk) : Below w.heap.size w wk := Below.trans (Below.alloc (Below.alloc (Below.refl _ _) (Nat.le_refl _) _) (by simp) _) (Below.mono h (by omega))
theorem Bb.one {w wk : World} {cs : Array Value} {t : TypeId} {o2 : Obj} (h : Bb w (.cells cs t) o2 wk) (i : Nat) : wk.cell? ⟨w.heap.size, i, none⟩ = cs[i]? := by
  rw [Below.cell h (by simp)]; simp [go_sem]
theorem Bb.two {w wk : World} {cs : Array Value} {t : TypeId} {o1 : Obj} (h : Bb w o1 (.cells cs t) wk) (i : Nat) : wk.cell? ⟨w.heap.size + 1, i, none⟩ = cs[i]? := by
  rw [Below.cell h (by simp)]; simp [go_sem]

def cmpW (x y : Nat) : Int := if x < y then -1 else if y < x then 1 else 0

theorem cmpW_any (x y : Nat) (w : World) :
    Calls Tryz.prog 105 #[.int .u64 x, .int .u64 y] w fun e w' => e = .returned (.int .i64 (cmpW x y)) ∧ w' = w := by
  unfold cmpW
  rcases Nat.lt_trichotomy x y with h | h | h
  · rw [if_pos h]
    go_enter Tryz.func105, Tryz.ntmps105
    go_wp2
    go_ret
    exact ⟨rfl, rfl⟩
  · subst h
    rw [if_neg (by omega), if_neg (by omega)]
    go_enter Tryz.func105, Tryz.ntmps105
    go_wp2
    go_ret
    exact ⟨rfl, rfl⟩
  · rw [if_neg (by omega), if_pos h]
    go_enter Tryz.func105, Tryz.ntmps105
    go_wp2
    go_ret
    exact ⟨rfl, rfl⟩

/-- Two words are right and the same. -/
def sameB (W : Int) (xs : List Nat) (V : Int) (ys : List Nat) : Bool := rightB W xs && rightB V ys && decide (W = V) && decide (xs = ys)

/-- An answer that is 0 just where R is true. -/
def RetZ (u : World) (R : Bool) (e : Ending) (w' : World) : Prop := ∃ k : Int, e = .returned (.int .i64 k) ∧ ((k == 0) = R) ∧ Below u.heap.size u w'

set_option maxHeartbeats 2000000 in
set_option maxRecDepth 100000 in
theorem implSame_any (W : Int) (a : Option Addr) (c : Nat) (xs : List Nat) (V : Int) (b : Option Addr) (d : Nat) (ys : List Nat) (w : World) (hr : Rd w a xs) (hs : Rd w b ys) :
    Calls Tryz.prog 79 #[.agg #[.int .i64 W, .slice a xs.length c], .agg #[.int .i64 V, .slice b ys.length d]] w (RetZ w (sameB W xs V ys)) := by
  have s0 := Bb.start w (.cells #[Value.int .i64 W, Value.slice a xs.length c] 82) (.cells #[Value.int .i64 V, Value.slice b ys.length d] 82)
  have HOA := kide (fun u (hu : Below w.heap.size w u) => implOk_any W a c xs u (hr.later hu))
  have HOB := kide (fun u (hu : Below w.heap.size w u) => implOk_any V b d ys u (hs.later hu))
  have HRA := kide (fun u (hu : Below w.heap.size w u) => hr.later hu)
  have HRB := kide (fun u (hu : Below w.heap.size w u) => hs.later hu)
  have hl1 := hr.1
  have hl2 := hs.1
  clear hr hs
  cases hoa : rightB W xs with
  | false =>
    have hR : sameB W xs V ys = false := by simp [sameB, hoa]
    rw [hR]
    rw [hoa] at HOA
    clear hR hoa
    go_enter Tryz.func79, Tryz.ntmps79
    go_wp2_with fail
    refine Calls.mono (HOA.out _ s0.below) ?_
    rintro e w1 ⟨rfl, hb1⟩
    have s1 := s0.next hb1
    go_wp2_with fail
    go_ret
    exact ⟨-2, rfl, rfl, s1.below⟩
  | true =>
    rw [hoa] at HOA
    cases hob : rightB V ys with
    | false =>
      have hR : sameB W xs V ys = false := by simp [sameB, hob]
      rw [hR]
      rw [hob] at HOB
      clear hR hoa hob
      go_enter Tryz.func79, Tryz.ntmps79
      go_wp2_with fail
      refine Calls.mono (HOA.out _ s0.below) ?_
      rintro e w1 ⟨rfl, hb1⟩
      have s1 := s0.next hb1
      have k0 := s1.two 0
      have k1 := s1.two 1
      simp at k0 k1
      clear hb1 s0
      go_wp2_with fail
      refine Calls.mono (HOB.out _ s1.below) ?_
      rintro e w2 ⟨rfl, hb2⟩
      have s2 := s1.next hb2
      go_wp2_with fail
      go_ret
      exact ⟨-2, rfl, rfl, s2.below⟩
    | true =>
      rw [hob] at HOB
      have hwl1 : (xs.length : Int) ≤ 64 := by
        simp [rightB, wOk] at hoa
        omega
      by_cases hWV : W = V
      · subst hWV
        have hlen : ys.length = xs.length := by
          simp [rightB] at hoa hob
          omega
        have hR : sameB W xs W ys = decide (xs = ys) := by simp [sameB, hoa, hob]
        rw [hR]
        rw [hlen] at HOB s0
        simp only [hlen]
        have hWW : (W != W) = false := by simp
        have HLE := kide hlen
        clear hR hoa hob hlen hl2
        generalize hZ : decide (xs = ys) = Z
        have HZ := kide hZ
        clear hZ
        go_enter Tryz.func79, Tryz.ntmps79
        go_wp2_with fail
        refine Calls.mono (HOA.out _ s0.below) ?_
        rintro e w1 ⟨rfl, hb1⟩
        have s1 := s0.next hb1
        have k0 := s1.two 0
        have k1 := s1.two 1
        simp at k0 k1
        clear hb1 s0
        go_wp2_with fail
        refine Calls.mono (HOB.out _ s1.below) ?_
        rintro e w2 ⟨rfl, hb2⟩
        have s2 := s1.next hb2
        have g0 := s2.one 0
        have g1 := s2.one 1
        have f0 := s2.two 0
        have f1 := s2.two 1
        simp at g0 g1 f0 f1
        clear hb2 s1 k0 k1
        go_wp2_with fail
        clear hWW g0 g1 f0 f1
        go_loopw [5] (fun i wr => ∃ k : Nat, k ≤ xs.length ∧ i = .int .i64 ((k : Int) - 1) ∧ (∀ j, k ≤ j → j < xs.length → xs.getD j 0 = ys.getD j 0) ∧ Bb w (.cells #[Value.int .i64 W, Value.slice a xs.length c] 82) (.cells #[Value.int .i64 W, Value.slice b xs.length d] 82) wr) (fun i _ => ((intOf i) + 1).toNat)
        case atStart => exact ⟨xs.length, Nat.le_refl _, rfl, fun j h1 h2 => by omega, s2⟩
        case round =>
          obtain ⟨k, hk, rfl, heq, s3⟩ := hrel
          have g0 := s3.one 0
          have g1 := s3.one 1
          have f0 := s3.two 0
          have f1 := s3.two 1
          simp at g0 g1 f0 f1
          cases k with
          | zero =>
            have HT : Hid (Z = true) := by
              show _ = _
              rw [← HZ.out]
              simp only [decide_eq_true_eq]
              refine List.ext_getElem HLE.out.symm (fun j h1 h2 => ?_)
              have := heq j (Nat.zero_le _) h1
              simpa [List.getD, h1, h2] using this
            clear heq
            go_wp2_with fail
            go_ret
            exact ⟨0, rfl, HT.out.symm, s3.below⟩
          | succ j =>
            rw [show (((j + 1 : Nat) : Int) - 1) = (j : Int) by omega]
            have hjx : j < xs.length := by omega
            have hji : (j : Int) < (xs.length : Int) := by omega
            obtain ⟨-, hxx, hn | ⟨g, o, rfl, hc⟩⟩ := HRA.out wr s3.below
            · subst hn; simp at hjx
            obtain ⟨-, hyy, hn | ⟨g', o', rfl, hc'⟩⟩ := HRB.out wr s3.below
            · have := HLE.out; subst hn; simp at this; omega
            have hx1 := hc j hjx
            have hy1 := hc' j (by have := HLE.out; omega)
            have hjw : ((j : Int) - 1 + 1) = (j : Int) := by omega
            obtain ⟨x, hx⟩ : ∃ x, xs.getD j 0 = x := ⟨_, rfl⟩
            obtain ⟨y, hy⟩ : ∃ y, ys.getD j 0 = y := ⟨_, rfl⟩
            rw [hx] at hx1
            rw [hy] at hy1
            have HX := kide hx
            have HY := kide hy
            have HEQ := kide heq
            have HC := kide (fun u => cmpW_any x y u)
            clear hc hc' hx hy heq hxx hyy s2
            by_cases h1 : x = y
            · subst h1
              have h0 : cmpW x x = 0 := by simp [cmpW]
              rw [h0] at HC
              clear h0
              go_wp2_with fail
              go_quiet ((go_at_call 105; exact Calls.quiet_of_same (HC.out _)))
              go_wp2_with fail
              go_roundw
              case rel =>
                refine ⟨j, by omega, by go_num, fun i h1 h2 => ?_, s3.next (below_drewN (Below.refl _ _) _)⟩
                by_cases hij : i = j
                · subst hij
                  rw [HX.out, HY.out]
                · exact HEQ.out i (by omega) h2
              case measure => first | (simp [intOf]; done) | (simp [intOf]; omega)
            · have h0 : cmpW x y ≠ 0 := by unfold cmpW; split <;> (try split) <;> omega
              have HF : Hid (Z = false) := by
                show _ = _
                rw [← HZ.out]
                simp only [decide_eq_false_iff_not]
                intro he
                apply h1
                rw [← HX.out, ← HY.out, he]
              generalize cmpW x y = q at *
              have hq : (q != 0) = true := by simp [h0]
              have hq2 : (q == 0) = false := by simp [h0]
              have HQ := kide hq2
              clear h1 h0 hq2
              go_wp2_with fail
              go_quiet ((go_at_call 105; exact Calls.quiet_of_same (HC.out _)))
              go_wp2_with fail
              go_ret
              exact ⟨q, rfl, HQ.out.trans HF.out.symm, s3.below.trans (below_drewN (Below.refl _ _) _)⟩
      · have hR : sameB W xs V ys = false := by simp [sameB, hWV]
        rw [hR]
        have hWW : (W != V) = true := by simp [hWV]
        clear hR hoa hob hWV
        go_enter Tryz.func79, Tryz.ntmps79
        go_wp2_with fail
        refine Calls.mono (HOA.out _ s0.below) ?_
        rintro e w1 ⟨rfl, hb1⟩
        have s1 := s0.next hb1
        have k0 := s1.two 0
        have k1 := s1.two 1
        simp at k0 k1
        clear hb1 s0
        go_wp2_with fail
        refine Calls.mono (HOB.out _ s1.below) ?_
        rintro e w2 ⟨rfl, hb2⟩
        have s2 := s1.next hb2
        have g0 := s2.one 0
        have f0 := s2.two 0
        simp at g0 f0
        clear hb2 s1 k0 k1
        go_wp2_with fail
        go_ret
        exact ⟨-2, rfl, rfl, s2.below⟩


set_option maxHeartbeats 1000000 in
set_option maxRecDepth 100000 in
theorem l3Same_any (W : Int) (a : Option Addr) (c : Nat) (xs : List Nat) (V : Int) (b : Option Addr) (d : Nat) (ys : List Nat) (w : World) (hr : Rd w a xs) (hs : Rd w b ys) :
    Calls Tryz.prog 71 #[.agg #[.int .i64 W, .slice a xs.length c], .agg #[.int .i64 V, .slice b ys.length d]] w fun e w' => e = .returned (.bool (decide (W = V) && decide (xs = ys))) ∧ Below w.heap.size w w' := by
  have s0 := Bb.start w (.cells #[Value.int .i64 W, Value.slice a xs.length c] 82) (.cells #[Value.int .i64 V, Value.slice b ys.length d] 82)
  have HRA := kide (fun u (hu : Below w.heap.size w u) => hr.later hu)
  have HRB := kide (fun u (hu : Below w.heap.size w u) => hs.later hu)
  have hl1 := hr.1
  have hl2 := hs.1
  clear hr hs
  by_cases hWV : W = V
  · by_cases hlen : ys.length = xs.length
    · subst hWV
      have hR : (decide (W = W) && decide (xs = ys)) = decide (xs = ys) := by simp
      rw [hR]
      generalize hZ : decide (xs = ys) = Z
      have HZ := kide hZ
      have HLE := kide hlen
      rw [hlen] at s0
      simp only [hlen]
      have h1 : (W != W) = false := by simp
      have h2 : ((xs.length : Int) != (xs.length : Int)) = false := by simp
      clear hZ hlen hR hl2
      go_enter Tryz.func71, Tryz.ntmps71
      go_wp2_with fail
      clear h1 h2
      go_loopw [5] (fun i wr => ∃ k : Nat, k ≤ xs.length ∧ i = .int .i64 k ∧ (∀ j, j < k → xs.getD j 0 = ys.getD j 0) ∧ Bb w (.cells #[Value.int .i64 W, Value.slice a xs.length c] 82) (.cells #[Value.int .i64 W, Value.slice b xs.length d] 82) wr) (fun i _ => xs.length - (intOf i).toNat)
      case atStart => exact ⟨0, Nat.zero_le _, rfl, fun j h => by omega, s0⟩
      case round =>
        obtain ⟨k, hk, rfl, heq, s3⟩ := hrel
        have g1 := s3.one 1
        have f1 := s3.two 1
        simp at g1 f1
        by_cases hjx : k < xs.length
        · have hji : (k : Int) < (xs.length : Int) := by omega
          obtain ⟨-, -, hn | ⟨g, o, rfl, hc⟩⟩ := HRA.out wr s3.below
          · subst hn; simp at hjx
          obtain ⟨-, -, hn | ⟨g', o', rfl, hc'⟩⟩ := HRB.out wr s3.below
          · have := HLE.out; subst hn; simp at this; omega
          have hx1 := hc k hjx
          have hy1 := hc' k (by have := HLE.out; omega)
          obtain ⟨x, hx⟩ : ∃ x, xs.getD k 0 = x := ⟨_, rfl⟩
          obtain ⟨y, hy⟩ : ∃ y, ys.getD k 0 = y := ⟨_, rfl⟩
          rw [hx] at hx1
          rw [hy] at hy1
          have HX := kide hx
          have HY := kide hy
          have HEQ := kide heq
          clear hc hc' hx hy heq s0
          by_cases h1 : x = y
          · subst h1
            have hne : ((x : Int) != (x : Int)) = false := by simp
            go_wp2_with fail
            go_quiet (fail)
            go_wp2_with fail
            go_roundw
            case rel =>
              refine ⟨k + 1, by omega, by go_num, fun i h2 => ?_, s3.next (below_drewN (Below.refl _ _) _)⟩
              by_cases hij : i = k
              · subst hij
                rw [HX.out, HY.out]
              · exact HEQ.out i (by omega)
            case measure => first | (simp [intOf]; done) | (simp [intOf]; omega)
          · have hne : ((x : Int) != (y : Int)) = true := by simp; omega
            have HF : Hid (Z = false) := by
              show _ = _
              rw [← HZ.out]
              simp only [decide_eq_false_iff_not]
              intro he
              apply h1
              rw [← HX.out, ← HY.out, he]
            clear h1
            go_wp2_with fail
            go_quiet (fail)
            go_wp2_with fail
            go_ret
            exact ⟨ret_bool HF.out.symm, s3.below.trans (below_drewN (Below.refl _ _) _)⟩
        · have HT : Hid (Z = true) := by
            show _ = _
            rw [← HZ.out]
            simp only [decide_eq_true_eq]
            refine List.ext_getElem HLE.out.symm (fun j h1 h2 => ?_)
            have := heq j (by omega)
            simpa [List.getD, h1, h2] using this
          clear heq
          go_wp2_with fail
          go_ret
          exact ⟨ret_bool HT.out.symm, s3.below⟩
    · have hR : (decide (W = V) && decide (xs = ys)) = false := by
        simp only [Bool.and_eq_false_iff, decide_eq_false_iff_not]
        exact .inr (fun h => hlen (by rw [h]))
      rw [hR]
      have h1 : (W != V) = false := by simp [hWV]
      have h2 : ((xs.length : Int) != (ys.length : Int)) = true := by simp; omega
      clear hR hWV hlen
      go_enter Tryz.func71, Tryz.ntmps71
      go_wp2_with fail
      go_ret
      exact ⟨rfl, s0.below⟩
  · have hR : (decide (W = V) && decide (xs = ys)) = false := by simp [hWV]
    rw [hR]
    have h1 : (W != V) = true := by simp [hWV]
    clear hR hWV
    go_enter Tryz.func71, Tryz.ntmps71
    go_wp2_with fail
    go_ret
    exact ⟨rfl, s0.below⟩


end Go.Proofs.YtllojnloldhghaaGreatDoor
