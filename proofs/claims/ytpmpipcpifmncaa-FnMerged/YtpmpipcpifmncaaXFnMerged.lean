/- The law FnMerged returns true, whatever it is handed. -/
import Derived.Test.YtpmpipcpifmncaaZME
namespace Go.Proofs.Ytpmpipcpifmncaa
set_option linter.unusedVariables false
set_option linter.unusedSimpArgs false
open Go.RowKit

theorem mrg_none {ds : List Dc} {A B : List Wq} {vs : List Int} (h : okM ds A B vs = true) : mrgR ds A B [] = (A, true) := by
  simp only [okM, Bool.and_eq_true] at h
  rw [mrgR_yes h.1.1 h.1.2 rfl]
  have hl := (valR_iff.1 h.1.1).2.1
  congr 1
  apply List.ext_getElem?
  intro i
  unfold mrgL
  rw [List.getElem?_map]
  by_cases hi : i < ds.length
  · rw [List.getElem?_range hi]
    have hia : i < A.length := by omega
    simp [List.getD, hia]
  · rw [List.getElem?_eq_none (by simp; omega), List.getElem?_eq_none (by omega)]
    rfl

set_option maxHeartbeats 2000000 in
set_option maxRecDepth 100000 in
theorem law_FnMerged (a : Option Addr) (c : Nat) (bs : List Nat) (n : Nat) (hn : bs.length = n) (hn2 : n ≤ 1048576) (w : World) (h : RdB w a bs) :
    Calls Try.prog 4 #[.slice a n c] w fun e w' => e = .returned (.bool true) ∧ Below w.heap.size w w' := by
  have HBG := kide (big_any a n c w (by omega))
  rw [decide_eq_false (by omega)] at HBG
  have HDR := kide (drawMerge_any a c bs w h)
  rw [hn] at HDR
  clear h hn
  go_enter Try.func4, Try.ntmps4
  go_wp2_with fail
  refine Calls.mono HBG.out ?_
  rintro e wq ⟨rfl, hwq⟩
  obtain rfl := hwq.symm
  go_wp2_with fail
  refine Calls.mono HDR.out ?_
  rintro e w1 ⟨a1, c1, ds, a2, c2, xs, a3, c3, ys, a4, c4, vs, rfl, rd, rx, ry, rv, hb1⟩
  have RD := kide rd
  have RX := kide rx
  have RY := kide ry
  have RV := kide rv
  have B1 := kide hb1
  have HSP := kide (specMerge_any a1 a2 a3 a4 c1 xs.length c2 ys.length c3 vs.length c4 ds xs ys vs w1 rd rx rfl ry rfl rv rfl)
  have HIM := kide (fun u (hu : Below w1.heap.size w1 u) => implMerge_any a1 a2 a3 a4 c1 xs.length c2 ys.length c3 vs.length c4 ds xs ys vs u (rd.later hu) (rx.later hu) rfl (ry.later hu) rfl (rv.later hu) rfl)
  have HIN := kide (fun u (hu : Below w1.heap.size w1 u) => implMerge_any a1 a2 a3 none c1 xs.length c2 ys.length c3 0 0 ds xs ys [] u (rd.later hu) (rx.later hu) rfl (ry.later hu) rfl ⟨by simp, by simp, .inl rfl⟩ rfl)
  have HHAS := kide (fun u (hu : Below w1.heap.size w1 u) x => has_any a4 c4 vs x u (rv.later hu))
  have HOK := kide (okW_mrg (ds := ds) (vs := vs) (okW.of rx) (okW.of ry))
  have hvl := rv.1
  have hdl := rd.1
  have hxl := rx.1
  have hyl := ry.1
  clear rd rx ry rv hb1 HDR HBG
  cases hok : okM ds (xs.map Bw.ct) (ys.map Bw.ct) vs with
  | false =>
    have hX : mrgR ds (xs.map Bw.ct) (ys.map Bw.ct) vs = ([], false) := by simp [mrgR, hok]
    rw [hX] at HSP HIM
    clear hX hok
    go_wp2_with fail
    refine Calls.mono HSP.out ?_
    rintro e w2 ⟨v2, l2, rfl, bs2, hl2, hb2⟩
    go_wp2_with fail
    refine Calls.mono (HIM.out w2 hb2) ?_
    rintro e w3 ⟨v3, l3, rfl, bs3, hl3, hb3⟩
    have hl0 : l3 = [] := by simpa using hl3
    subst hl0
    obtain ⟨a5, c5, rfl⟩ := bs3.form
    go_wp2_with fail
    go_ret
    exact ⟨by first | rfl | simp, B1.out.trans ((hb2.trans (hb3.mono hb2.size)).mono B1.out.size)⟩
  | true =>
    have hX := mrg_none hok
    have hX2 : mrgR ds (xs.map Bw.ct) (ys.map Bw.ct) vs = (mrgL ds.length (xs.map Bw.ct) (ys.map Bw.ct) vs, true) := by simp [mrgR, hok]
    rw [hX] at HIN
    rw [hX2] at HSP HIM HOK
    have hlen : xs.length = ds.length ∧ ys.length = ds.length ∧ ds.length ≤ 60 := by
      simp only [okM, Bool.and_eq_true] at hok
      have h1 := valR_pos hok.1.1
      have h2 := valR_pos hok.1.2
      exact ⟨h1.2.1, h2.2.1, h1.1⟩
    obtain ⟨hlx, hly, h60⟩ := hlen
    rw [hlx] at HSP HIM HIN
    rw [hly] at HSP HIM HIN
    have HLX := kide hlx
    have HLY := kide hly
    clear hX hX2 hok
    rw [hlx, hly]
    rw [hlx] at hxl
    rw [hly] at hyl
    clear hlx hly
    generalize ds.length = N at *
    generalize hvn : vs.length = vn at *
    have HVN := kide hvn
    clear hvn
    go_wp2_with fail
    refine Calls.mono HSP.out ?_
    rintro e w2 ⟨v2, l2, rfl, -, -, hb2⟩
    have B2 := kide hb2
    clear hb2 HSP
    go_wp2_with fail
    refine Calls.mono (HIM.out w2 B2.out) ?_
    rintro e w3 ⟨v3, l3, rfl, bs3, hl3, hb3⟩
    obtain ⟨av, cv, rfl, hr3⟩ := bs3.rd (by rw [hl3]; exact HOK.out)
    have hl3n : l3.length = N := by
      have h := congrArg List.length hl3
      simpa [mrgL] using h
    rw [hl3n]
    have R3 := kide hr3
    have HL3 := kide hl3
    have HLN := kide hl3n
    have B3 := kide (B2.out.trans (hb3.mono B2.out.size))
    clear hb3 bs3 hr3 hl3 hl3n HIM B2
    go_wp2_with fail
    go_loopw [11] (fun q wr => ∃ k : Nat, k ≤ N ∧ q = .int .i64 (k : Int) ∧ Below w3.heap.size w3 wr) (fun q _ => N - (intOf q).toNat)
    case atStart => exact ⟨0, Nat.zero_le _, rfl, Below.refl _ _⟩
    case round =>
      obtain ⟨k, hk, rfl, hbel⟩ := hrel
      have HB := kide hbel
      have BW := kide (B3.out.trans (hbel.mono B3.out.size))
      by_cases hlt : k < N
      · obtain ⟨-, h | ⟨b6, o6, rfl, hcx⟩⟩ := RX.out.later BW.out
        · have := HLX.out; subst h; simp at this; omega
        obtain ⟨-, h | ⟨b7, o7, rfl, hcy⟩⟩ := RY.out.later BW.out
        · have := HLY.out; subst h; simp at this; omega
        obtain ⟨-, h | ⟨b8, o8, rfl, hcm⟩⟩ := R3.out.later hbel
        · have := HLN.out; subst h; simp at this; omega
        obtain ⟨x, gx⟩ : ∃ y, xs[k]? = some y := ⟨xs[k]'(by rw [HLX.out]; exact hlt), List.getElem?_eq_getElem _⟩
        obtain ⟨y, gy⟩ : ∃ y, ys[k]? = some y := ⟨ys[k]'(by rw [HLY.out]; exact hlt), List.getElem?_eq_getElem _⟩
        obtain ⟨z, gz⟩ : ∃ y, l3[k]? = some y := ⟨l3[k]'(by rw [HLN.out]; exact hlt), List.getElem?_eq_getElem _⟩
        have hz : z.ct = if (k : Int) ∈ vs then y.ct else x.ct := by
          have h := congrArg (fun l => l[k]?) HL3.out
          simp only [mrgL, List.getElem?_map, gz, List.getElem?_range hlt, Option.map_some, Option.some.injEq] at h
          rw [h]
          simp [List.getD, gx, gy]
        obtain ⟨p0, p1, p2, -⟩ := hcx k x gx
        obtain ⟨r0, r1, r2, -⟩ := hcy k y gy
        obtain ⟨s0, s1, s2, -⟩ := hcm k z gz
        obtain ⟨xd, xa, xc, xw⟩ := x
        obtain ⟨yd, ya, yc, yw⟩ := y
        obtain ⟨md, ma, mc, mw⟩ := z
        simp only [] at p0 p1 p2 r0 r1 r2 s0 s1 s2
        have i0 : (k : Int) < (N : Int) := by omega
        obtain ⟨xm, hxm⟩ : ∃ m, xw.length = m := ⟨_, rfl⟩
        obtain ⟨ym, hym⟩ : ∃ m, yw.length = m := ⟨_, rfl⟩
        obtain ⟨mm, hmm⟩ : ∃ m, mw.length = m := ⟨_, rfl⟩
        rw [hxm] at p1
        rw [hym] at r1
        rw [hmm] at s1
        have XM := kide hxm
        have YM := kide hym
        have MM := kide hmm
        have XR := kide p2
        have YR := kide r2
        have MR := kide s2
        have lx := block_lt_of_cell p0
        have ly := block_lt_of_cell r0
        have lm := block_lt_of_cell s0
        have HAS := kide (fun u (hu : Below w1.heap.size w1 u) => HHAS.out u hu (k : Int))
        clear hcx hcy hcm gx gy gz p2 r2 s2 hxm hym hmm hbel
        by_cases hmem : (k : Int) ∈ vs
        · rw [decide_eq_true hmem] at HAS
          rw [if_pos hmem] at hz
          have HEQ : Hid (md = yd ∧ mw = yw) := by show _ ∧ _; simpa [Bw.ct] using hz
          clear hmem hz
          have hba : Below wr.heap.size wr (wr.alloc (Obj.cells #[Value.int .i64 yd, Value.slice ya ym yc] 30)) := (Below.refl _ _).alloc (Nat.le_refl _) _
          have HSB : Hid (∀ u, Below wr.heap.size wr u → Calls Try.prog 28 #[.agg #[.int .i64 md, .slice ma mm mc], .agg #[.int .i64 yd, .slice ya ym yc]] u fun e w' => e = .returned (.bool true) ∧ Below u.heap.size u w') := fun u hu => by
            have h := same_any md yd ma ya mc yc mw yw u (MR.out.later hu) (YR.out.later hu)
            rw [MM.out, YM.out, decide_eq_true HEQ.out] at h
            exact h
          have LA : wr.heap.size < (wr.alloc (Obj.cells #[Value.int .i64 yd, Value.slice ya ym yc] 30)).heap.size := by simp
          go_wp2_with fail
          refine Calls.mono (HAS.out _ (BW.out.trans (((Below.refl wr.heap.size wr).alloc (Nat.le_refl _) _).mono BW.out.size))) ?_
          rintro e w4 ⟨rfl, hw4⟩
          subst hw4
          go_wp2_with fail
          have t0 : (wr.alloc (Obj.cells #[Value.int .i64 yd, Value.slice ya ym yc] 30)).cell? ⟨wr.heap.size, 0, none⟩ = some (Value.int .i64 yd) := by simp
          have t1 : (wr.alloc (Obj.cells #[Value.int .i64 yd, Value.slice ya ym yc] 30)).cell? ⟨wr.heap.size, 1, none⟩ = some (Value.slice ya ym yc) := by simp
          have s0' := (kcell hba b8 (o8 + k * 2) lm).trans s0
          have s1' := (kcell hba b8 (o8 + k * 2 + 1) lm).trans s1
          have lm' : b8 < (wr.alloc (Obj.cells #[Value.int .i64 yd, Value.slice ya ym yc] 30)).heap.size := Nat.lt_of_lt_of_le lm hba.size
          have HBA := kide hba
          clear hba s0 s1 p0 p1 r0 r1
          generalize (wr.alloc (Obj.cells #[Value.int .i64 yd, Value.slice ya ym yc] 30)) = w5 at *
          go_region_held3 (fun u => u.cell? ⟨b8, o8 + k * 2, none⟩ = some (Value.int .i64 md) ∧ u.cell? ⟨b8, o8 + k * 2 + 1, none⟩ = some (Value.slice ma mm mc) ∧ u.cell? ⟨wr.heap.size, 0, none⟩ = some (Value.int .i64 yd) ∧ u.cell? ⟨wr.heap.size, 1, none⟩ = some (Value.slice ya ym yc)) (simp [*])
            ((go_at_call 28; refine Calls.mono (HSB.out _ ?_) ?_; exact HBA.out.drew; rintro e w6 ⟨rfl, hb6⟩; replace hb6 := kundrew hb6; have k0 := kcell hb6 b8 (o8 + k * 2) lm'; have k1 := kcell hb6 b8 (o8 + k * 2 + 1) lm'; have k2 := kcell hb6 wr.heap.size 0 LA; have k3 := kcell hb6 wr.heap.size 1 LA))
          go_wp2_with fail
          go_roundw
          case rel => exact ⟨k + 1, by omega, by go_num, HB.out.trans ((HBA.out.trans (hb6.mono HBA.out.size)).mono HB.out.size)⟩
          case measure => simp [intOf]; omega
        · rw [decide_eq_false hmem] at HAS
          rw [if_neg hmem] at hz
          have HEQ : Hid (md = xd ∧ mw = xw) := by show _ ∧ _; simpa [Bw.ct] using hz
          clear hmem hz
          have hba : Below wr.heap.size wr (wr.alloc (Obj.cells #[Value.int .i64 xd, Value.slice xa xm xc] 30)) := (Below.refl _ _).alloc (Nat.le_refl _) _
          have HSB : Hid (∀ u, Below wr.heap.size wr u → Calls Try.prog 28 #[.agg #[.int .i64 md, .slice ma mm mc], .agg #[.int .i64 xd, .slice xa xm xc]] u fun e w' => e = .returned (.bool true) ∧ Below u.heap.size u w') := fun u hu => by
            have h := same_any md xd ma xa mc xc mw xw u (MR.out.later hu) (XR.out.later hu)
            rw [MM.out, XM.out, decide_eq_true HEQ.out] at h
            exact h
          have LA : wr.heap.size < (wr.alloc (Obj.cells #[Value.int .i64 xd, Value.slice xa xm xc] 30)).heap.size := by simp
          go_wp2_with fail
          refine Calls.mono (HAS.out _ (BW.out.trans (((Below.refl wr.heap.size wr).alloc (Nat.le_refl _) _).mono BW.out.size))) ?_
          rintro e w4 ⟨rfl, hw4⟩
          subst hw4
          go_wp2_with fail
          have t0 : (wr.alloc (Obj.cells #[Value.int .i64 xd, Value.slice xa xm xc] 30)).cell? ⟨wr.heap.size, 0, none⟩ = some (Value.int .i64 xd) := by simp
          have t1 : (wr.alloc (Obj.cells #[Value.int .i64 xd, Value.slice xa xm xc] 30)).cell? ⟨wr.heap.size, 1, none⟩ = some (Value.slice xa xm xc) := by simp
          have s0' := (kcell hba b8 (o8 + k * 2) lm).trans s0
          have s1' := (kcell hba b8 (o8 + k * 2 + 1) lm).trans s1
          have lm' : b8 < (wr.alloc (Obj.cells #[Value.int .i64 xd, Value.slice xa xm xc] 30)).heap.size := Nat.lt_of_lt_of_le lm hba.size
          have HBA := kide hba
          clear hba s0 s1 p0 p1 r0 r1
          generalize (wr.alloc (Obj.cells #[Value.int .i64 xd, Value.slice xa xm xc] 30)) = w5 at *
          go_region_held3 (fun u => u.cell? ⟨b8, o8 + k * 2, none⟩ = some (Value.int .i64 md) ∧ u.cell? ⟨b8, o8 + k * 2 + 1, none⟩ = some (Value.slice ma mm mc) ∧ u.cell? ⟨wr.heap.size, 0, none⟩ = some (Value.int .i64 xd) ∧ u.cell? ⟨wr.heap.size, 1, none⟩ = some (Value.slice xa xm xc)) (simp [*])
            ((go_at_call 28; refine Calls.mono (HSB.out _ ?_) ?_; exact HBA.out.drew; rintro e w6 ⟨rfl, hb6⟩; replace hb6 := kundrew hb6; have k0 := kcell hb6 b8 (o8 + k * 2) lm'; have k1 := kcell hb6 b8 (o8 + k * 2 + 1) lm'; have k2 := kcell hb6 wr.heap.size 0 LA; have k3 := kcell hb6 wr.heap.size 1 LA))
          go_wp2_with fail
          go_roundw
          case rel => exact ⟨k + 1, by omega, by go_num, HB.out.trans ((HBA.out.trans (hb6.mono HBA.out.size)).mono HB.out.size)⟩
          case measure => simp [intOf]; omega
      · clear hbel
        go_wp2_with fail
        refine Calls.mono (HIN.out wr BW.out) ?_
        rintro e w7 ⟨v7, l7, rfl, bs7, hl7, hb7⟩
        have hX7 : l7.map Bw.ct = xs.map Bw.ct := hl7
        obtain ⟨a7, c7, rfl, hr7⟩ := bs7.rd (by rw [hX7]; exact okW.of RX.out)
        have hl7n : l7.length = N := by
          have h := congrArg List.length hX7
          simp at h
          rw [h]; exact HLX.out
        rw [hl7n]
        have B7 := kide (BW.out.trans (hb7.mono BW.out.size))
        have HSV := kide (sameValues_any a7 a2 c7 c2 N l7 xs w7 hr7 (RX.out.later B7.out) hX7 hl7n HLX.out)
        clear hb7 bs7 hl7 hX7 hr7 hl7n
        have hNN : ((N : Int) == (N : Int)) = true := by simp
        go_wp2_with fail
        refine Calls.mono HSV.out ?_
        rintro e w8 ⟨rfl, hb8⟩
        go_wp2_with fail
        go_ret
        exact ⟨rfl, B1.out.trans ((B7.out.trans (hb8.mono B7.out.size)).mono B1.out.size)⟩

theorem walk_FnMerged (a : Option Addr) (n c : Nat) (hn : n ≤ 9223372036854775807) (w : World) (hx : n ≤ 1048576 → ∃ bs : List Nat, bs.length = n ∧ RdB w a bs) :
    Calls Try.prog 4 #[.slice a n c] w fun e w' => e = .returned (.bool true) ∧ Below w.heap.size w w' := by
  by_cases h : n ≤ 1048576
  · obtain ⟨bs, hl, hr⟩ := hx h
    exact law_FnMerged a c bs n hl h w hr
  · have HBG := kide (big_any a n c w hn)
    rw [decide_eq_true (by omega)] at HBG
    clear hx
    go_enter Try.func4, Try.ntmps4
    go_wp2_with fail
    refine Calls.mono HBG.out ?_
    rintro e wq ⟨rfl, hwq⟩
    obtain rfl := hwq.symm
    go_wp2_with fail
    go_ret
    exact ⟨rfl, Below.refl _ _⟩

end Go.Proofs.Ytpmpipcpifmncaa
