/- What the program's Merge answers. -/
import Derived.Test.YtkffjdicmendkaaSF
namespace Go.Proofs.Ytkffjdicmendkaa
set_option linter.unusedVariables false
set_option linter.unusedSimpArgs false
open Go.RowKit

theorem bwc_set : ∀ (l : List Bw) (i : Nat) (x : Bw), bwc (l.set i x) = ((bwc l).set (i * 2) (.int .i64 x.wd)).set (i * 2 + 1) (.slice x.a x.ws.length x.c)
  | [], i, x => by simp [bwc]
  | y :: t, 0, x => by simp [bwc]
  | y :: t, i + 1, x => by
    rw [show (i + 1) * 2 = i * 2 + 1 + 1 by omega]
    simp [bwc, bwc_set t i x]

theorem OB2.store {w : World} {B g n c : Nat} {l : List Bw} (h : OB2 w B (.slice (some ⟨g, 0, none⟩) n c) l) (i : Nat) (x : Bw) :
    OB2 ((w.setCell ⟨g, i * 2, none⟩ (.int .i64 x.wd)).setCell ⟨g, i * 2 + 1, none⟩ (.slice x.a x.ws.length x.c)) B (.slice (some ⟨g, 0, none⟩) n c) (l.set i x) := by
  rcases h with ⟨h1, ⟨e, -⟩ | ⟨g', cap, cur, e, hg, hh, hc1, hc2, hsz, hcur⟩⟩
  · cases e
  · cases e
    refine ⟨by rw [bwc_len, List.length_set], .inr ⟨g, c, (cur.setIfInBounds (i * 2) (.int .i64 x.wd)).setIfInBounds (i * 2 + 1) (.slice x.a x.ws.length x.c), by rw [List.length_set], hg, ?_, by rw [List.length_set]; exact hc1, hc2, by simpa using hsz, ?_⟩⟩
    · exact heap_setCell_same _ g _ _ _ _ (heap_setCell_same w g _ _ _ _ hh)
    · rw [List.length_set, bwc_set, ← hcur]
      simp [List.take_set]
theorem OB2.blk {w : World} {B g n c : Nat} {l : List Bw} (h : OB2 w B (.slice (some ⟨g, 0, none⟩) n c) l) : ∃ cur, Bz w g cur 58 := h.typed rfl

theorem Bs.store {w w1 : World} {B g n c i : Nat} {l : List Bw} {x : Bw} (h : Bs w B (.slice (some ⟨g, 0, none⟩) n c) l) (hb : Below w.heap.size w w1) (hB : B ≤ w.heap.size) (hx : Nw w1 w.heap.size x.a x.ws) :
    Bs ((w1.setCell ⟨g, i * 2, none⟩ (.int .i64 x.wd)).setCell ⟨g, i * 2 + 1, none⟩ (.slice x.a x.ws.length x.c)) B (.slice (some ⟨g, 0, none⟩) n c) (l.set i x) where
  row := (h.row.later hb).store i x
  nw := fun y hy => by
    obtain ⟨cur, hc⟩ := (h.row.later hb).blk
    rcases List.mem_or_eq_of_mem_set hy with hy | rfl
    · exact nw_set (nw_set ((h.nw y hy).later hb) hc (by decide) _ _) (hc.set _ _) (by decide) _ _
    · exact (nw_set (nw_set hx hc (by decide) _ _) (hc.set _ _) (by decide) _ _).mono hB
  dj := h.dj.set h.nw fun p hp => (nw_lt hx hp).1

theorem Bs.mono {w : World} {B B' : Nat} {v : Value} {l : List Bw} (h : Bs w B v l) (hB : B' ≤ B) : Bs w B' v l := by
  refine ⟨⟨h.row.1, ?_⟩, fun x hx => (h.nw x hx).mono hB, h.dj⟩
  rcases h.row.2 with h0 | ⟨g, cap, cur, e, hg, r⟩
  · exact .inl h0
  · exact .inr ⟨g, cap, cur, e, Nat.le_trans hB hg, r⟩

theorem mrgL_step {N k : Nat} {A B : List Wq} {vs : List Int} {x : Int} (hx : vs[k]? = some x) (h0 : 0 ≤ x) (h1 : x < (N : Int)) : (mrgL N A B (vs.take k)).set x.toNat (B.getD x.toNat (0, [])) = mrgL N A B (vs.take (k + 1)) := by
  apply List.ext_getElem?
  intro i
  rw [List.getElem?_set]
  unfold mrgL
  simp only [List.length_map, List.length_range, List.getElem?_map]
  by_cases hi : i < N
  · rw [List.getElem?_range hi]
    simp only [Option.map_some, List.take_add_one, hx, Option.toList_some, List.mem_append, List.mem_singleton]
    by_cases hix : x.toNat = i
    · rw [if_pos hix, if_pos (by omega), if_pos (.inr (by omega)), hix]
    · rw [if_neg hix]
      by_cases hm : (i : Int) ∈ vs.take k
      · rw [if_pos hm, if_pos (.inl hm)]
      · rw [if_neg hm, if_neg (by
          rintro (h | h)
          · exact hm h
          · omega)]
  · rw [if_neg (by omega)]
    simp [hi]

theorem placesRise_any (a : Option Addr) (c m N : Nat) (vs : List Int) (w : World) (hv : RdI w a vs) (hm : vs.length = m) :
    Calls Try.prog 51 #[.slice a m c, .int .i64 (N : Int)] w fun e w' => e = .returned (.bool (risP N (-1) vs)) ∧ w' = w := by
  have hml := hv.1
  rw [hm] at hml
  generalize hRR : risP (N : Int) (-1) vs = R
  have HR := kide hRR
  have HM := kide hm
  clear hRR hm
  go_enter Try.func51, Try.ntmps51
  go_wp2_with fail
  go_loop [5, 10] (fun l q => ∃ (k : Nat) (last : Int), k ≤ m ∧ q = .int .i64 (k : Int) ∧ l = .int .i64 last ∧ risP N last (vs.drop k) = R) (fun _ q => m - (intOf q).toNat)
  case atStart => exact ⟨0, -1, Nat.zero_le _, rfl, rfl, by simpa using HR.out⟩
  case round =>
    obtain ⟨k, last, hk, rfl, rfl, hz⟩ := hrel
    by_cases hlt : k < m
    · have hkv : k < vs.length := by rw [HM.out]; exact hlt
      obtain ⟨-, -, h | ⟨b, o, rfl, hc⟩⟩ := hv
      · subst h; simp at hkv
      have e0 := hc k hkv
      rw [risP_step hkv] at hz
      generalize vs.getD k 0 = y at *
      have i0 : (k : Int) < (m : Int) := by omega
      have HZ := kide hz
      clear hc hz hkv
      by_cases h1 : last < y
      · by_cases h2 : y < (N : Int)
        · have HZ1 : Hid (risP N y (vs.drop (k + 1)) = R) := by have h := HZ.out; simp [h1, h2] at h; exact h
          go_wp2_with fail
          go_round
          case rel => exact ⟨k + 1, y, by omega, by go_num, rfl, HZ1.out⟩
          case measure => simp [intOf]; omega
        · have HZ1 : Hid (R = false) := by have h := HZ.out; simp [h2] at h; exact h
          go_wp2_with fail
          go_ret
          exact ⟨ret_bool HZ1.out.symm, rfl⟩
      · have HZ1 : Hid (R = false) := by have h := HZ.out; simp [h1] at h; exact h
        go_wp2_with fail
        go_ret
        exact ⟨ret_bool HZ1.out.symm, rfl⟩
    · have HZ1 : Hid (R = true) := by
        show _ = _
        rw [← hz, List.drop_eq_nil_of_le (by rw [HM.out]; omega)]
        rfl
      clear hz
      go_wp2_with fail
      go_ret
      exact ⟨ret_bool HZ1.out.symm, rfl⟩

set_option maxHeartbeats 1000000 in
theorem implMerge_any (a b d f : Option Addr) (c n c2 n2 c3 m c4 : Nat) (ds : List Dc) (xs ys : List Bw) (vs : List Int) (w : World) (hr : RdD w a ds) (hs : RdW w b xs) (hn : xs.length = n) (ht : RdW w d ys) (hn2 : ys.length = n2) (hv : RdI w f vs) (hm : vs.length = m) :
    Calls Try.prog 25 #[.slice a ds.length c, .slice b n c2, .slice d n2 c3, .slice f m c4] w (RetM w (mrgR ds (xs.map Bw.ct) (ys.map Bw.ct) vs)) := by
  have HVA := kide (implValues_any a b c c2 ds xs w hr hs n hn)
  have HVB := kide (fun u (hu : Below w.heap.size w u) => implValues_any a d c c3 ds ys u (hr.later hu) (ht.later hu) n2 hn2)
  have HPR := kide (fun u (hu : Below w.heap.size w u) => placesRise_any f c4 m ds.length vs u (hv.later hu) hm)
  cases hA : valR ds (xs.map Bw.ct) with
  | false =>
    rw [mrgR_no1 hA]
    rw [hA] at HVA
    clear hA hr hs ht hv hn hn2 hm
    go_enter Try.func25, Try.ntmps25
    go_wp2_with fail
    refine Calls.mono HVA.out ?_
    rintro e w1 ⟨rfl, hb1⟩
    go_wp2_with fail
    go_returns
    exact ⟨_, [], rfl, Bs.nil _ _, rfl, hb1⟩
  | true =>
    rw [hA] at HVA
    cases hB : valR ds (ys.map Bw.ct) with
    | false =>
      rw [mrgR_no2 hB]
      rw [hB] at HVB
      clear hA hB hr hs ht hv hn hn2 hm
      go_enter Try.func25, Try.ntmps25
      go_wp2_with fail
      refine Calls.mono HVA.out ?_
      rintro e w1 ⟨rfl, hb1⟩
      go_wp2_with fail
      refine Calls.mono (HVB.out w1 hb1) ?_
      rintro e w2 ⟨rfl, hb2⟩
      go_wp2_with fail
      go_returns
      exact ⟨_, [], rfl, Bs.nil _ _, rfl, hb1.trans (hb2.mono hb1.size)⟩
    | true =>
      rw [hB] at HVB
      cases hR : risP ds.length (-1) vs with
      | false =>
        rw [mrgR_no3 hR]
        rw [hR] at HPR
        clear hA hB hR hr hs ht hv hn hn2 hm
        go_enter Try.func25, Try.ntmps25
        go_wp2_with fail
        refine Calls.mono HVA.out ?_
        rintro e w1 ⟨rfl, hb1⟩
        go_wp2_with fail
        refine Calls.mono (HVB.out w1 hb1) ?_
        rintro e w2 ⟨rfl, hb2⟩
        have B2 := kide (hb1.trans (hb2.mono hb1.size))
        clear hb1 hb2
        go_wp2_with fail
        refine Calls.mono (HPR.out w2 B2.out) ?_
        rintro e w3 ⟨rfl, hw3⟩
        obtain rfl := hw3.symm
        go_wp2_with fail
        go_returns
        exact ⟨_, [], rfl, Bs.nil _ _, rfl, B2.out⟩
      | true =>
        rw [mrgR_yes hA hB hR]
        rw [hR] at HPR
        obtain ⟨h60, hxl, hxp⟩ := valR_pos hA
        obtain ⟨-, hyl, hyp⟩ := valR_pos hB
        rw [hn] at hxl
        rw [hn2] at hyl
        obtain rfl := hxl.symm
        obtain rfl := hyl.symm
        have HRI := kide (risP_in hR)
        have HS := kide hs
        have HT := kide ht
        have HV := kide hv
        have HN := kide hn
        have HN2 := kide hn2
        have HM := kide hm
        have HXP := kide hxp
        have HYP := kide hyp
        have hml := hv.1
        rw [hm] at hml
        have HCV := kide (fun u (hu : Below w.heap.size w u) => copyValues_any b c2 ds.length xs u (hs.later hu) hn hxp)
        generalize ds.length = N at *
        clear hA hB hR hr hs ht hv hn hn2 hm hxl hyl hxp hyp
        go_enter Try.func25, Try.ntmps25
        go_wp2_with fail
        refine Calls.mono HVA.out ?_
        rintro e w1 ⟨rfl, hb1⟩
        go_wp2_with fail
        refine Calls.mono (HVB.out w1 hb1) ?_
        rintro e w2 ⟨rfl, hb2⟩
        have B2 := kide (hb1.trans (hb2.mono hb1.size))
        clear hb1 hb2
        go_wp2_with fail
        refine Calls.mono (HPR.out w2 B2.out) ?_
        rintro e w3 ⟨rfl, hw3⟩
        obtain rfl := hw3.symm
        go_wp2_with fail
        refine Calls.mono (HCV.out w2 B2.out) ?_
        rintro e w4 ⟨v4, l4, rfl, bs4, hl4, hb4⟩
        have B4 := kide (B2.out.trans (hb4.mono B2.out.size))
        obtain ⟨av, cv, rfl⟩ := bs4.form
        have hl4l : l4.length = N := by
          have h := congrArg List.length hl4
          simp at h
          rw [h]; exact HN.out
        rw [hl4l] at bs4
        rw [hl4l]
        have BS4 := kide bs4
        have S4 := kide hb4.size
        have HL0 : Hid (l4.map Bw.ct = mrgL N (xs.map Bw.ct) (ys.map Bw.ct) (vs.take 0)) := by
          show _ = _
          rw [hl4]
          apply List.ext_getElem?
          intro i
          simp only [mrgL, List.getElem?_map, List.take_zero]
          by_cases hi : i < N
          · rw [List.getElem?_range hi]
            have hix : i < xs.length := by rw [HN.out]; exact hi
            simp [List.getD, hix]
          · simp [hi, HN.out]
        clear bs4 hl4 hb4 hl4l HCV HPR HVA HVB
        go_wp2_with fail
        go_loopw [34] (fun q wr => ∃ (k : Nat) (l : List Bw), k ≤ m ∧ q = .int .i64 (k : Int) ∧ Bs wr w2.heap.size (.slice av N cv) l ∧ l.map Bw.ct = mrgL N (xs.map Bw.ct) (ys.map Bw.ct) (vs.take k) ∧ Below w.heap.size w wr ∧ w2.heap.size ≤ wr.heap.size) (fun q _ => m - (intOf q).toNat)
        case atStart => exact ⟨0, l4, Nat.zero_le _, rfl, BS4.out, HL0.out, B4.out, S4.out⟩
        case round =>
          clear BS4 HL0 B4 S4
          obtain ⟨k, l, hk, rfl, hbs, hct, hbel, hsz⟩ := hrel
          have HB := kide hbel
          have HBS := kide hbs
          have HCT := kide hct
          by_cases hlt : k < m
          · have hkv : k < vs.length := by rw [HM.out]; exact hlt
            obtain ⟨-, -, h | ⟨b5, o5, rfl, hcv⟩⟩ := HV.out.later hbel
            · subst h; simp at hkv
            have e5 := hcv k hkv
            have gv : vs[k]? = some (vs.getD k 0) := by simp [List.getD, hkv]
            generalize vs.getD k 0 = x at *
            obtain ⟨hx0, hx1⟩ := HRI.out x (List.mem_of_getElem? gv)
            obtain ⟨q, rfl⟩ := Int.eq_ofNat_of_zero_le (show 0 ≤ x by omega)
            have hqN : q < N := by omega
            have GV := kide gv
            obtain ⟨-, h | ⟨b7, o7, rfl, hcy⟩⟩ := HT.out.later hbel
            · have := HN2.out; subst h; simp at this; omega
            obtain ⟨y, gy⟩ : ∃ y, ys[q]? = some y := ⟨ys[q]'(by rw [HN2.out]; exact hqN), List.getElem?_eq_getElem _⟩
            obtain ⟨r0, r1, r2, -⟩ := hcy q y gy
            have hy0 := HYP.out y (List.mem_of_getElem? gy)
            have ey : (ys.map Bw.ct).getD q (0, []) = y.ct := by simp [List.getD, gy]
            obtain ⟨yd, ya, yc, yw⟩ := y
            simp only [] at r0 r1 r2 hy0
            obtain ⟨-, -, h | ⟨yb, yo, rfl, -⟩⟩ := id r2
            · rw [h] at hy0; simp at hy0
            have YP := kide r2
            obtain ⟨ym, hym⟩ : ∃ m, yw.length = m := ⟨_, rfl⟩
            rw [hym] at r1
            have YM := kide hym
            have HEY := kide ey
            have i0 : (k : Int) < (m : Int) := by omega
            have i1 : (q : Int) < (N : Int) := by omega
            have hll : l.length = N := by
              have h := congrArg List.length hct
              simp [mrgL] at h
              exact h
            obtain ⟨g, c', eg, z0, z1⟩ := hbs.row.at (List.getElem?_eq_getElem (show q < l.length by omega))
            cases eg
            have LG := (hbs.row.lt rfl).2
            clear hcv hcy gy gv r2 hbs hct hbel hym hy0 ey z0 z1 hkv
            go_wp2_with fail
            refine Calls.mono (copyG yd yb yo yc ym yw _ YP.out YM.out) ?_
            rintro e w5 ⟨a2, c2, rfl, hn5, hb5⟩
            obtain ⟨g', c', eg, z0, z1⟩ := (HBS.out.row.later hb5).at (List.getElem?_eq_getElem (show q < l.length by omega))
            cases eg
            obtain ⟨cur, hcur⟩ := (HBS.out.row.later hb5).blk
            have f0 := hcur.froz (q * 2)
            have f1 := hcur.froz (q * 2 + 1)
            have HBS5 := kide (HBS.out.store (i := q) (x := ⟨yd, a2, c2, yw⟩) hb5 hsz hn5)
            have HB5 := kide (HB.out.trans (hb5.mono HB.out.size))
            have S5 := kide (Nat.le_trans hsz hb5.size)
            have GB := kide (HBS.out.row.lt rfl).1
            rw [YM.out] at HBS5
            clear hn5 hb5 hcur
            go_wp2_with fail
            go_roundw
            case rel =>
              refine ⟨k + 1, l.set q ⟨yd, a2, c2, yw⟩, by omega, by go_num, HBS5.out, ?_, ?_, ?_⟩
              · rw [List.map_set, HCT.out]
                have h := mrgL_step (A := xs.map Bw.ct) (B := ys.map Bw.ct) GV.out (by omega) i1
                rw [Int.toNat_natCast, HEY.out] at h
                exact h
              · exact (HB5.out.setCell (Nat.le_trans B2.out.size GB.out) _).setCell (Nat.le_trans B2.out.size GB.out) _
              · simpa using S5.out
            case measure => simp [intOf]; omega
          · have hkn : k = m := by omega
            have HE : Hid (l.map Bw.ct = mrgL N (xs.map Bw.ct) (ys.map Bw.ct) vs) := by
              show _ = _
              rw [hct, hkn, ← HM.out, List.take_length]
            have HBS2 : Hid (Bs wr w.heap.size (.slice av N cv) l) := hbs.mono B2.out.size
            clear hbs hct hbel
            go_wp2_with fail
            go_returns
            exact ⟨_, l, rfl, HBS2.out, HE.out, HB.out⟩

end Go.Proofs.Ytkffjdicmendkaa
