/- The law FnForest returns true, whatever it is handed. -/
import Derived.Test.YtelndjdbfapahaaHP
import Derived.Test.YtelndjdbfapahaaHR
import Derived.Test.YtelndjdbfapahaaHS
import Derived.Handy
namespace Go.Proofs.Ytelndjdbfapahaa
set_option linter.unusedVariables false
set_option linter.unusedSimpArgs false
open Go.RowKit

/-- What holds of all that the law carries, in a world u. -/
structure Cf (w : World) (F G : Nat) (z : Int) (aF : Option Addr) (N cF : Nat) (a6 : Option Addr) (M c6 : Nat) (ls RL : List Lk) (u : World) : Prop where
  xf : Bx u F #[.int .i64 z, .slice aF N cF] 29
  xg : Bx u G #[.int .i64 z, .slice a6 M c6] 29
  rf : RdK u aF ls
  rg : RdK u a6 RL
  bl : Below w.heap.size w u
theorem Cf.later {w : World} {F G : Nat} {z : Int} {aF : Option Addr} {N cF : Nat} {a6 : Option Addr} {M c6 : Nat} {ls RL : List Lk} {u u' : World} (h : Cf w F G z aF N cF a6 M c6 ls RL u) (hb : Below u.heap.size u u') : Cf w F G z aF N cF a6 M c6 ls RL u' :=
  ⟨h.xf.later hb, h.xg.later hb, h.rf.later hb, h.rg.later hb, h.bl.trans (hb.mono h.bl.size)⟩

set_option maxHeartbeats 2000000 in
set_option maxRecDepth 100000 in
theorem law_FnForest (a : Option Addr) (c n : Nat) (bs : List Nat) (w : World) (h : RdB w a bs) (hn : bs.length = n) (hn2 : n ≤ 1048576) :
    Calls Try.prog 9 #[.slice a n c] w fun e w' => e = .returned (.bool true) ∧ Below w.heap.size w w' := by
  have HBG := kide (big_any a n c w (by omega))
  have HDJ := kide (fun u (hu : Below w.heap.size w u) => drawJoin_any a c bs u (h.later hu))
  rw [hn] at HDJ
  have hi : ¬ 1048576 < n := by omega
  simp only [decide_eq_false hi] at HBG
  clear h hn
  go_enter Try.func9, Try.ntmps9
  go_wp2_with fail
  refine Calls.mono HBG.out ?_
  rintro e w1 ⟨rfl, hw1⟩
  obtain rfl := hw1.symm
  have B1 := kide (Below.refl w.heap.size w)
  clear hi HBG
  go_wp2_with fail
  refine Calls.mono (HDJ.out w B1.out) ?_
  rintro e w2 ⟨z, x, y, q, v, ls, rfl, hz, o2, hl2, hi2, hb2⟩
  obtain ⟨aF, cF, rfl⟩ := ok3_form o2
  have hl3 : ls.length ≤ 1048576 := by omega
  obtain ⟨a', c', e', hh⟩ := OK3.hold o2 hl3 hi2
  cases e'
  have hbx : Below w2.heap.size w2 (w2.alloc (Obj.cells #[.int .i64 z, .slice aF ls.length cF] 29)) := (Below.refl _ _).alloc (Nat.le_refl _) _
  have XF := kide (Bx.new w2 #[.int .i64 z, .slice aF ls.length cF] 29)
  have RF := kide (hh.rd.later hbx)
  have OF : Hid (OK3 _ _ _ _) := own3_later o2 hbx
  have B2 := kide ((B1.out.trans (hb2.mono B1.out.size)).trans (hbx.mono (Nat.le_trans B1.out.size hb2.size)))
  have HSJ := kide (specJoin_own z x y q (.slice aF ls.length cF) _ ls _ OF.out hl3 hi2)
  have HIJ := kide (fun u (hu : RdK u aF ls) => implJoin_any z aF ls.length cF ls x y q u hu rfl)
  have HRX := kide (fun u (hu : RdK u aF ls) => implRoot_any z aF ls.length cF ls x u hu rfl)
  have HRY := kide (fun u (hu : RdK u aF ls) => implRoot_any z aF ls.length cF ls y u hu rfl)
  obtain ⟨hJl, hJi⟩ := joinR_ok z ls x y q hl3 hi2
  have hJT := joinR_true (z := z) (ls := ls) (x := x) (y := y) (q := q) rfl
  generalize joinR z ls x y q = R at *
  obtain ⟨Rz, RL, b1, b2⟩ := R
  unfold RetJ at HSJ HIJ
  simp only [] at HSJ HIJ hJl hJi hJT
  have JT := kide hJT
  have JI := kide hJi
  have HI2 := kide hi2
  obtain ⟨N, hN⟩ : ∃ N, ls.length = N := ⟨_, rfl⟩
  simp only [hN] at XF RF B2 HSJ HIJ HRX HRY ⊢
  have HN := kide hN
  have hN64 : N ≤ 64 := by omega
  clear hb2 o2 hh B1 HDJ hbx hJT hJi hi2 hN hl3 hl2 hz OF
  go_wp2_with fail
  generalize w2.alloc (Obj.cells #[.int .i64 z, .slice aF N cF] 29) = w3 at *
  refine Calls.mono HSJ.out ?_
  rintro e w4 ⟨v4, rfl, o4, hb4⟩
  obtain ⟨a4, c4, rfl⟩ := ok3_form o4
  have XF4 := kide (XF.out.later hb4)
  have RF4 := kide (RF.out.later hb4)
  have B4 := kide (B2.out.trans (hb4.mono B2.out.size))
  have p0 := XF4.out.cell 0
  have p1 := XF4.out.cell 1
  simp at p0 p1
  have hlF := XF4.out.lt
  have hbx : Below w4.heap.size w4 (w4.alloc (Obj.cells #[.int .i64 Rz, .slice a4 RL.length c4] 29)) := (Below.refl _ _).alloc (Nat.le_refl _) _
  have XF5 := kide (XF4.out.later hbx)
  have RF5 := kide (RF4.out.later hbx)
  have B5 := kide (B4.out.trans (hbx.mono B4.out.size))
  clear o4 hb4 XF RF B2 HSJ XF4 RF4 B4 hbx
  go_wp2_with fail
  generalize w4.alloc (Obj.cells #[.int .i64 Rz, .slice a4 RL.length c4] 29) = w5 at *
  clear p0 p1
  refine Calls.mono (HIJ.out w5 RF5.out) ?_
  rintro e w6 ⟨v6, rfl, o6, hb6⟩
  obtain ⟨a6, c6, e6, hh6⟩ := OK3.hold o6 hJl JI.out
  subst e6
  obtain ⟨F, hF⟩ : ∃ F, w2.heap.size = F := ⟨_, rfl⟩
  rw [hF] at XF5 hlF ⊢
  obtain ⟨M, hM⟩ : ∃ M, RL.length = M := ⟨_, rfl⟩
  have hbx : Below w6.heap.size w6 (w6.alloc (Obj.cells #[.int .i64 Rz, .slice a6 M c6] 29)) := (Below.refl _ _).alloc (Nat.le_refl _) _
  have XG := kide (Bx.new w6 #[.int .i64 Rz, .slice a6 M c6] 29)
  have XF7 := kide ((XF5.out.later hb6).later hbx)
  have RF7 := kide ((RF5.out.later hb6).later hbx)
  have RG7 := kide (hh6.rd.later hbx)
  have B7 := kide ((B5.out.trans (hb6.mono B5.out.size)).trans (hbx.mono (Nat.le_trans B5.out.size hb6.size)))
  rw [hM] at hh6 hJl ⊢
  have HM := kide hM
  clear o6 hb6 hh6 hbx XF5 RF5 B5 hF hM HIJ hlF
  cases b2 with
  | false =>
    go_wp2_with fail
    go_ret
    exact ⟨rfl, B7.out⟩
  | true =>
    obtain ⟨hRz, rx, ry, hJn⟩ := JT.out rfl
    subst hRz
    have HJN := kide hJn
    have p0 := XF7.out.cell 0
    have p1 := XF7.out.cell 1
    simp at p0 p1
    have hlF := XF7.out.lt
    have HR1 := kide (fun u (hu : RdK u aF ls) => by have := HRX.out u hu; rwa [hJn.r1] at this)
    have HR2 := kide (fun u (hu : RdK u aF ls) => by have := HRY.out u hu; rwa [hJn.r2] at this)
    have HR3 := kide (fun u (hu : RdK u a6 RL) => by have := implRoot_any Rz a6 M c6 RL x u hu HM.out; rwa [hJn.r3] at this)
    have HR4 := kide (fun u (hu : RdK u a6 RL) => by have := implRoot_any Rz a6 M c6 RL y u hu HM.out; rwa [hJn.r4] at this)
    have HOK := kide (fun u (hu : RdK u a6 RL) => by have := implForest_any Rz a6 M c6 RL u hu HM.out; rwa [hJn.ok] at this)
    have HUN := kide (fun u (hu : RdK u a6 RL) => by have := implUndo_any Rz a6 M c6 RL (N : Int) u hu HM.out; rwa [show undoR Rz RL (N : Int) = (Rz, ls) by rw [← HN.out]; exact hJn.un] at this)
    have HGR := kide (fun u (hu : RdK u a6 RL) => implGroups_any Rz a6 M c6 RL u hu HM.out)
    have Y7 := kide (Cf.mk XF7.out XG.out RF7.out RG7.out B7.out)
    clear hJn HRX HRY XF7 XG RF7 RG7 B7
    go_wp2_with fail
    generalize w6.alloc (Obj.cells #[.int .i64 Rz, .slice a6 M c6] 29) = w7 at *
    obtain ⟨G, hG⟩ : ∃ G, w6.heap.size = G := ⟨_, rfl⟩
    rw [hG] at Y7 ⊢
    clear hG p0 p1 hlF
    refine Calls.mono (HR1.out w7 Y7.out.rf) ?_
    rintro e w8 ⟨rfl, hb8⟩
    have Y8 := kide (Y7.out.later hb8)
    have p0 := Y8.out.xf.cell 0
    have p1 := Y8.out.xf.cell 1
    simp at p0 p1
    clear hb8 Y7
    go_wp2_with fail
    refine Calls.mono (HR2.out w8 Y8.out.rf) ?_
    rintro e w9 ⟨rfl, hb9⟩
    have Y9 := kide (Y8.out.later hb9)
    clear hb9 Y8 p0 p1
    have q0 := Y9.out.xg.cell 0
    have q1 := Y9.out.xg.cell 1
    simp at q0 q1
    have hnw := HJN.out.nw
    by_cases hle : rx ≤ ry
    · rw [Int.min_eq_left hle] at HR3 HR4
      have hmm : (rx != rx) = false := by simp
      go_wp2_with fail
      refine Calls.mono (HR3.out w9 Y9.out.rg) ?_
      rintro e w10 ⟨rfl, hb10⟩
      have Y10 := kide (Y9.out.later hb10)
      clear hb10 Y9 q0 q1
      have q0 := Y10.out.xg.cell 0
      have q1 := Y10.out.xg.cell 1
      simp at q0 q1
      go_wp2_with fail
      refine Calls.mono (HR4.out w10 Y10.out.rg) ?_
      rintro e w11 ⟨rfl, hb11⟩
      have Y11 := kide (Y10.out.later hb11)
      clear hb11 Y10 q0 q1
      have q0 := Y11.out.xg.cell 0
      have q1 := Y11.out.xg.cell 1
      simp at q0 q1
      go_wp2_with fail
      refine Calls.mono (HOK.out w11 Y11.out.rg) ?_
      rintro e w12 ⟨rfl, hb12⟩
      have Y12 := kide (Y11.out.later hb12)
      clear hb12 Y11 q0 q1
      have q0 := Y12.out.xg.cell 0
      have q1 := Y12.out.xg.cell 1
      have y0 := Y12.out.xf.cell 0
      have y1 := Y12.out.xf.cell 1
      simp at q0 q1 y0 y1
      go_wp2_with fail
      refine Calls.mono (HUN.out w12 Y12.out.rg) ?_
      rintro e w13 ⟨v13, rfl, o13, hb13⟩
      have o13' : OK3 w13 w12.heap.size v13 ls := o13
      obtain ⟨a13, c13, e13, hh13⟩ := OK3.hold o13' (by have := HN.out; omega) HI2.out
      have e13' : v13 = .slice a13 N c13 := by rw [e13, HN.out]
      subst e13'
      have hbx : Below w13.heap.size w13 (w13.alloc (Obj.cells #[.int .i64 Rz, .slice a13 N c13] 29)) := (Below.refl _ _).alloc (Nat.le_refl _) _
      have XB := kide (Bx.new w13 #[.int .i64 Rz, .slice a13 N c13] 29)
      have hlF : F < w13.heap.size := (Y12.out.later hb13).xf.lt
      have Y14 := kide ((Y12.out.later hb13).later hbx)
      have p0 := (Y12.out.later hb13).xf.cell 0
      have p1 := (Y12.out.later hb13).xf.cell 1
      simp at p0 p1
      have RB := kide (hh13.rd.later hbx)
      clear o13 o13' hb13 hh13 e13 hbx Y12 q0 q1 y0 y1
      have hRR : (Rz != Rz) = false := by simp
      have hNN : ((N : Int) != (N : Int)) = false := by simp
      have gx := Y14.out.xg.lt
      go_wp2_with fail
      generalize w13.alloc (Obj.cells #[.int .i64 Rz, .slice a13 N c13] 29) = w14 at *
      obtain ⟨Bk, hBk⟩ : ∃ b, w13.heap.size = b := ⟨_, rfl⟩
      rw [hBk] at XB ⊢
      clear hBk p0 p1 hlF
      go_loopw [16] (fun q wr => ∃ k : Nat, k ≤ N ∧ q = .int .i64 (k : Int) ∧ Cf w F G Rz aF N cF a6 M c6 ls RL wr ∧ Bx wr Bk #[.int .i64 Rz, .slice a13 N c13] 29 ∧ RdK wr a13 ls) (fun q _ => N - (intOf q).toNat)
      case atStart => exact ⟨0, Nat.zero_le _, rfl, Y14.out, XB.out, RB.out⟩
      case round =>
        obtain ⟨k, hk, rfl, hY, hX, hR⟩ := hrel
        have Y := kide hY
        have X := kide hX
        have R := kide hR
        clear Y14 XB RB
        have p0 := hY.xf.cell 0
        have p1 := hY.xf.cell 1
        have b0 := hX.cell 0
        have b1' := hX.cell 1
        simp at p0 p1 b0 b1'
        by_cases hlt : k < N
        · have i0 : (k : Int) < (N : Int) := by omega
          obtain ⟨⟨l1, l2, l3⟩, gx⟩ : ∃ l, ls[k]? = some l := ⟨ls[k]'(by rw [HN.out]; exact hlt), List.getElem?_eq_getElem _⟩
          obtain ⟨-, -, h0 | ⟨b5, o5, e5, hc5⟩⟩ := hY.rf
          · rw [h0] at gx; simp at gx
          obtain ⟨-, -, h0 | ⟨b6, o6, e6, hc6⟩⟩ := hR
          · rw [h0] at gx; simp at gx
          obtain ⟨s0, s1, s2⟩ := hc5 k _ gx
          obtain ⟨t0, t1, t2⟩ := hc6 k _ gx
          simp only [] at s0 s1 s2 t0 t1 t2
          rw [e5] at p1
          rw [e6] at b1'
          have E5 := kide e5
          have E6 := kide e6
          clear hc5 hc6 gx hY hX e5 e6
          have z1 : (l1 != l1) = false := by simp
          have z2 : (l2 != l2) = false := by simp
          have z3 : (l3 != l3) = false := by simp
          go_wp2_with fail
          go_quiet (fail)
          have HYr := kide (Y.out.later (below_drewN (Below.refl _ _) nq))
          have HXr := kide (X.out.later (below_drewN (Below.refl _ _) nq))
          have HRr := kide (R.out.later (below_drewN (Below.refl _ _) nq))
          go_wp2_with fail
          go_roundw
          case rel => exact ⟨k + 1, by omega, by go_num, HYr.out, HXr.out, HRr.out⟩
          case measure => simp [intOf]; omega
        · have g0 := hY.xg.cell 0
          have g1 := hY.xg.cell 1
          simp at g0 g1
          clear hY hX hR
          obtain ⟨hZ1, hZ2⟩ := grpZ_ok Rz RL
          have HG2 := kide (fun u (hu : RdK u a6 RL) => (HGR.out u hu).mono fun e w' h => h.hold hZ1 hZ2)
          have HGM := kide HJN.out.gr
          generalize grpZ Rz RL = ZL at *
          go_wp2_with fail
          refine Calls.mono (HG2.out wr Y.out.rg) ?_
          rintro e w15 ⟨a15, c15, vs, rfl, hH, hb15⟩
          obtain ⟨K, hK⟩ : ∃ K, ZL.length = K := ⟨_, rfl⟩
          rw [hK] at hZ1 ⊢
          have HK := kide hK
          have HH := kide hH
          have B15 := kide (Y.out.bl.trans (hb15.mono Y.out.bl.size))
          have HLO : Hid (wr.heap.size ≤ w15.heap.size) := hb15.size
          clear hb15 hH hK g0 g1 p0 p1 b0 b1' HG2 HGR Y X R
          go_wp2_with fail
          obtain ⟨lo, hlo⟩ : ∃ lo, wr.heap.size = lo := ⟨_, rfl⟩
          rw [hlo] at HH HLO
          clear hlo
          obtain ⟨wo, hwo⟩ : ∃ wo, wo = wr := ⟨_, rfl⟩
          subst hwo
          go_loopw [18, 19] (fun v q wr => ∃ (k : Nat) (bb : Bool), k ≤ K ∧ q = .int .i64 (k : Int) ∧ v = .bool bb ∧ (bb = true ↔ (x = y ∨ ∃ (j : Nat) (xs : List Int), j < k ∧ ZL[j]? = some xs ∧ x ∈ xs ∧ y ∈ xs)) ∧ Below w15.heap.size w15 wr) (fun _ q _ => K - (intOf q).toNat)
          case atStart => exact ⟨0, (x == y), Nat.zero_le _, rfl, rfl, by
            constructor
            · intro h; exact .inl (by simpa using h)
            · rintro (h | ⟨j, xs, hj, -⟩)
              · simpa using h
              · omega, Below.refl _ _⟩
          case round =>
            obtain ⟨k2, bb, hk2, rfl, rfl, hbb, hbel⟩ := hrel
            have HBB := kide hbb
            have HBL := kide hbel
            have HHr := kide (HH.out.out (B1 := w15.heap.size) (B2 := w15.heap.size) (Out.below hbel) (.inl (Nat.le_refl _)))
            clear hbb hbel
            by_cases hlt2 : k2 < K
            · have i2 : (k2 : Int) < (K : Int) := by omega
              obtain ⟨xs, gx⟩ : ∃ l, ZL[k2]? = some l := ⟨ZL[k2]'(by rw [HK.out]; exact hlt2), List.getElem?_eq_getElem _⟩
              obtain ⟨vv, gv⟩ : ∃ l, vs[k2]? = some l := ⟨vs[k2]'(by rw [HHr.out.n1, HK.out]; exact hlt2), List.getElem?_eq_getElem _⟩
              have hrow := HHr.out.each k2 vv xs gv gx
              have hx3 := HHr.out.n3 xs (List.mem_of_getElem? gx)
              have HHA := kide (fun u (hu : Below wr.heap.size wr u) => has_row vv xs lo w15.heap.size x u (hrow.out (B1 := w15.heap.size) (B2 := w15.heap.size) (Out.below hu) (.inl (Nat.le_refl _))) hx3)
              have HHB := kide (fun u (hu : Below wr.heap.size wr u) => has_row vv xs lo w15.heap.size y u (hrow.out (B1 := w15.heap.size) (B2 := w15.heap.size) (Out.below hu) (.inl (Nat.le_refl _))) hx3)
              rcases HHr.out.row with h0 | ⟨gr, Nr, fr, ea, -, -, h3, h4, h5⟩
              · have := HK.out; rw [h0] at this; simp at this; omega
              have u0 := h4.cell (i := k2) (by have := HK.out; omega)
              rw [h5 k2 vv gv] at u0
              obtain ⟨av, nv, cv, ev⟩ : ∃ a n c, vv = .slice a n c := by
                obtain ⟨g, c, N, f, e, -⟩ := hrow
                exact ⟨_, _, _, e⟩
              subst ev
              rw [ea]
              have EA := kide ea
              have lg := block_lt_of_cell u0
              have hstep : Hid (∀ b' : Bool, (b' = true ↔ (bb = true ∨ x ∈ xs ∧ y ∈ xs)) → (b' = true ↔ (x = y ∨ ∃ (j : Nat) (xs : List Int), j < k2 + 1 ∧ ZL[j]? = some xs ∧ x ∈ xs ∧ y ∈ xs))) := fun b' h => by
                rw [h, HBB.out]
                constructor
                · rintro ((h | ⟨j, xs', hj, h1, h2⟩) | h)
                  · exact .inl h
                  · exact .inr ⟨j, xs', by omega, h1, h2⟩
                  · exact .inr ⟨k2, xs, by omega, gx, h⟩
                · rintro (h | ⟨j, xs', hj, h1, h2⟩)
                  · exact .inl (.inl h)
                  · by_cases e : j = k2
                    · subst e
                      rw [gx] at h1
                      cases h1
                      exact .inr h2
                    · exact .inl (.inr ⟨j, xs', by omega, h1, h2⟩)
              clear hrow h4 h5 h3 gv gx ea
              cases bb with
              | true =>
                go_wp2_with fail
                go_roundw
                case rel => exact ⟨k2 + 1, true, by omega, by go_num, rfl, hstep.out true (by simp), HBL.out⟩
                case measure => simp [intOf]; omega
              | false =>
                by_cases hxm : x ∈ xs
                · simp only [decide_eq_true hxm] at HHA
                  by_cases hym : y ∈ xs
                  · simp only [decide_eq_true hym] at HHB
                    have HST := kide (hstep.out true (by simp [hxm, hym]))
                    clear hxm hym
                    go_wp2_with (first | (go_at_call 36; refine Calls.mono (HHB.out w16 HB16.out) ?_; rintro e w17 ⟨rfl, hb17⟩; have HB17 := kide (HB16.out.trans (hb17.mono HB16.out.size)); clear hb17) | (go_at_call 36; refine Calls.mono (HHA.out wr (Below.refl _ _)) ?_; rintro e w16 ⟨rfl, hb16⟩; have HB16 := kide hb16; have u1 := kcell hb16 gr k2 lg; rw [u0] at u1; have lg16 := block_lt_of_cell u1; clear hb16))
                    go_roundw
                    case rel => exact ⟨k2 + 1, true, by omega, by go_num, rfl, (by first | exact HST.out | simpa using HST.out), HBL.out.trans (HB17.out.mono HBL.out.size)⟩
                    case measure => simp [intOf]; omega
                  · simp only [decide_eq_false hym] at HHB
                    have HST := kide (hstep.out false (by simp [hym]))
                    clear hxm hym
                    go_wp2_with (first | (go_at_call 36; refine Calls.mono (HHB.out w16 HB16.out) ?_; rintro e w17 ⟨rfl, hb17⟩; have HB17 := kide (HB16.out.trans (hb17.mono HB16.out.size)); clear hb17) | (go_at_call 36; refine Calls.mono (HHA.out wr (Below.refl _ _)) ?_; rintro e w16 ⟨rfl, hb16⟩; have HB16 := kide hb16; have u1 := kcell hb16 gr k2 lg; rw [u0] at u1; have lg16 := block_lt_of_cell u1; clear hb16))
                    go_roundw
                    case rel => exact ⟨k2 + 1, false, by omega, by go_num, rfl, (by first | exact HST.out | simpa using HST.out), HBL.out.trans (HB17.out.mono HBL.out.size)⟩
                    case measure => simp [intOf]; omega
                · simp only [decide_eq_false hxm] at HHA
                  have HST := kide (hstep.out false (by simp [hxm]))
                  clear hxm
                  go_wp2_with (go_at_call 36; refine Calls.mono (HHA.out wr (Below.refl _ _)) ?_; rintro e w16 ⟨rfl, hb16⟩; have HB16 := kide hb16; have u1 := kcell hb16 gr k2 lg; rw [u0] at u1; have lg16 := block_lt_of_cell u1; clear hb16)
                  go_roundw
                  case rel => exact ⟨k2 + 1, false, by omega, by go_num, rfl, (by first | exact HST.out | simpa using HST.out), HBL.out.trans (HB16.out.mono HBL.out.size)⟩
                  case measure => simp [intOf]; omega
            · have e : k2 = K := by omega
              have hbt : bb = true := HBB.out.2 (by
                rcases HGM.out with h | ⟨xs, hm, h1, h2⟩
                · exact .inl h
                · obtain ⟨j, hj, hje⟩ := List.mem_iff_getElem.1 hm
                  exact .inr ⟨j, xs, by have := HK.out; omega, by rw [List.getElem?_eq_getElem hj, hje], h1, h2⟩)
              subst hbt
              have BE := kide (B15.out.trans (HBL.out.mono B15.out.size))
              go_wp2_with fail
              go_ret
              exact ⟨rfl, BE.out⟩
    · rw [Int.min_eq_right (by omega)] at HR3 HR4
      have hmm : (ry != ry) = false := by simp
      go_wp2_with fail
      refine Calls.mono (HR3.out w9 Y9.out.rg) ?_
      rintro e w10 ⟨rfl, hb10⟩
      have Y10 := kide (Y9.out.later hb10)
      clear hb10 Y9 q0 q1
      have q0 := Y10.out.xg.cell 0
      have q1 := Y10.out.xg.cell 1
      simp at q0 q1
      go_wp2_with fail
      refine Calls.mono (HR4.out w10 Y10.out.rg) ?_
      rintro e w11 ⟨rfl, hb11⟩
      have Y11 := kide (Y10.out.later hb11)
      clear hb11 Y10 q0 q1
      have q0 := Y11.out.xg.cell 0
      have q1 := Y11.out.xg.cell 1
      simp at q0 q1
      go_wp2_with fail
      refine Calls.mono (HOK.out w11 Y11.out.rg) ?_
      rintro e w12 ⟨rfl, hb12⟩
      have Y12 := kide (Y11.out.later hb12)
      clear hb12 Y11 q0 q1
      have q0 := Y12.out.xg.cell 0
      have q1 := Y12.out.xg.cell 1
      have y0 := Y12.out.xf.cell 0
      have y1 := Y12.out.xf.cell 1
      simp at q0 q1 y0 y1
      go_wp2_with fail
      refine Calls.mono (HUN.out w12 Y12.out.rg) ?_
      rintro e w13 ⟨v13, rfl, o13, hb13⟩
      have o13' : OK3 w13 w12.heap.size v13 ls := o13
      obtain ⟨a13, c13, e13, hh13⟩ := OK3.hold o13' (by have := HN.out; omega) HI2.out
      have e13' : v13 = .slice a13 N c13 := by rw [e13, HN.out]
      subst e13'
      have hbx : Below w13.heap.size w13 (w13.alloc (Obj.cells #[.int .i64 Rz, .slice a13 N c13] 29)) := (Below.refl _ _).alloc (Nat.le_refl _) _
      have XB := kide (Bx.new w13 #[.int .i64 Rz, .slice a13 N c13] 29)
      have hlF : F < w13.heap.size := (Y12.out.later hb13).xf.lt
      have Y14 := kide ((Y12.out.later hb13).later hbx)
      have p0 := (Y12.out.later hb13).xf.cell 0
      have p1 := (Y12.out.later hb13).xf.cell 1
      simp at p0 p1
      have RB := kide (hh13.rd.later hbx)
      clear o13 o13' hb13 hh13 e13 hbx Y12 q0 q1 y0 y1
      have hRR : (Rz != Rz) = false := by simp
      have hNN : ((N : Int) != (N : Int)) = false := by simp
      have gx := Y14.out.xg.lt
      go_wp2_with fail
      generalize w13.alloc (Obj.cells #[.int .i64 Rz, .slice a13 N c13] 29) = w14 at *
      obtain ⟨Bk, hBk⟩ : ∃ b, w13.heap.size = b := ⟨_, rfl⟩
      rw [hBk] at XB ⊢
      clear hBk p0 p1 hlF
      go_loopw [16] (fun q wr => ∃ k : Nat, k ≤ N ∧ q = .int .i64 (k : Int) ∧ Cf w F G Rz aF N cF a6 M c6 ls RL wr ∧ Bx wr Bk #[.int .i64 Rz, .slice a13 N c13] 29 ∧ RdK wr a13 ls) (fun q _ => N - (intOf q).toNat)
      case atStart => exact ⟨0, Nat.zero_le _, rfl, Y14.out, XB.out, RB.out⟩
      case round =>
        obtain ⟨k, hk, rfl, hY, hX, hR⟩ := hrel
        have Y := kide hY
        have X := kide hX
        have R := kide hR
        clear Y14 XB RB
        have p0 := hY.xf.cell 0
        have p1 := hY.xf.cell 1
        have b0 := hX.cell 0
        have b1' := hX.cell 1
        simp at p0 p1 b0 b1'
        by_cases hlt : k < N
        · have i0 : (k : Int) < (N : Int) := by omega
          obtain ⟨⟨l1, l2, l3⟩, gx⟩ : ∃ l, ls[k]? = some l := ⟨ls[k]'(by rw [HN.out]; exact hlt), List.getElem?_eq_getElem _⟩
          obtain ⟨-, -, h0 | ⟨b5, o5, e5, hc5⟩⟩ := hY.rf
          · rw [h0] at gx; simp at gx
          obtain ⟨-, -, h0 | ⟨b6, o6, e6, hc6⟩⟩ := hR
          · rw [h0] at gx; simp at gx
          obtain ⟨s0, s1, s2⟩ := hc5 k _ gx
          obtain ⟨t0, t1, t2⟩ := hc6 k _ gx
          simp only [] at s0 s1 s2 t0 t1 t2
          rw [e5] at p1
          rw [e6] at b1'
          have E5 := kide e5
          have E6 := kide e6
          clear hc5 hc6 gx hY hX e5 e6
          have z1 : (l1 != l1) = false := by simp
          have z2 : (l2 != l2) = false := by simp
          have z3 : (l3 != l3) = false := by simp
          go_wp2_with fail
          go_quiet (fail)
          have HYr := kide (Y.out.later (below_drewN (Below.refl _ _) nq))
          have HXr := kide (X.out.later (below_drewN (Below.refl _ _) nq))
          have HRr := kide (R.out.later (below_drewN (Below.refl _ _) nq))
          go_wp2_with fail
          go_roundw
          case rel => exact ⟨k + 1, by omega, by go_num, HYr.out, HXr.out, HRr.out⟩
          case measure => simp [intOf]; omega
        · have g0 := hY.xg.cell 0
          have g1 := hY.xg.cell 1
          simp at g0 g1
          clear hY hX hR
          obtain ⟨hZ1, hZ2⟩ := grpZ_ok Rz RL
          have HG2 := kide (fun u (hu : RdK u a6 RL) => (HGR.out u hu).mono fun e w' h => h.hold hZ1 hZ2)
          have HGM := kide HJN.out.gr
          generalize grpZ Rz RL = ZL at *
          go_wp2_with fail
          refine Calls.mono (HG2.out wr Y.out.rg) ?_
          rintro e w15 ⟨a15, c15, vs, rfl, hH, hb15⟩
          obtain ⟨K, hK⟩ : ∃ K, ZL.length = K := ⟨_, rfl⟩
          rw [hK] at hZ1 ⊢
          have HK := kide hK
          have HH := kide hH
          have B15 := kide (Y.out.bl.trans (hb15.mono Y.out.bl.size))
          have HLO : Hid (wr.heap.size ≤ w15.heap.size) := hb15.size
          clear hb15 hH hK g0 g1 p0 p1 b0 b1' HG2 HGR Y X R
          go_wp2_with fail
          obtain ⟨lo, hlo⟩ : ∃ lo, wr.heap.size = lo := ⟨_, rfl⟩
          rw [hlo] at HH HLO
          clear hlo
          obtain ⟨wo, hwo⟩ : ∃ wo, wo = wr := ⟨_, rfl⟩
          subst hwo
          go_loopw [18, 19] (fun v q wr => ∃ (k : Nat) (bb : Bool), k ≤ K ∧ q = .int .i64 (k : Int) ∧ v = .bool bb ∧ (bb = true ↔ (x = y ∨ ∃ (j : Nat) (xs : List Int), j < k ∧ ZL[j]? = some xs ∧ x ∈ xs ∧ y ∈ xs)) ∧ Below w15.heap.size w15 wr) (fun _ q _ => K - (intOf q).toNat)
          case atStart => exact ⟨0, (x == y), Nat.zero_le _, rfl, rfl, by
            constructor
            · intro h; exact .inl (by simpa using h)
            · rintro (h | ⟨j, xs, hj, -⟩)
              · simpa using h
              · omega, Below.refl _ _⟩
          case round =>
            obtain ⟨k2, bb, hk2, rfl, rfl, hbb, hbel⟩ := hrel
            have HBB := kide hbb
            have HBL := kide hbel
            have HHr := kide (HH.out.out (B1 := w15.heap.size) (B2 := w15.heap.size) (Out.below hbel) (.inl (Nat.le_refl _)))
            clear hbb hbel
            by_cases hlt2 : k2 < K
            · have i2 : (k2 : Int) < (K : Int) := by omega
              obtain ⟨xs, gx⟩ : ∃ l, ZL[k2]? = some l := ⟨ZL[k2]'(by rw [HK.out]; exact hlt2), List.getElem?_eq_getElem _⟩
              obtain ⟨vv, gv⟩ : ∃ l, vs[k2]? = some l := ⟨vs[k2]'(by rw [HHr.out.n1, HK.out]; exact hlt2), List.getElem?_eq_getElem _⟩
              have hrow := HHr.out.each k2 vv xs gv gx
              have hx3 := HHr.out.n3 xs (List.mem_of_getElem? gx)
              have HHA := kide (fun u (hu : Below wr.heap.size wr u) => has_row vv xs lo w15.heap.size x u (hrow.out (B1 := w15.heap.size) (B2 := w15.heap.size) (Out.below hu) (.inl (Nat.le_refl _))) hx3)
              have HHB := kide (fun u (hu : Below wr.heap.size wr u) => has_row vv xs lo w15.heap.size y u (hrow.out (B1 := w15.heap.size) (B2 := w15.heap.size) (Out.below hu) (.inl (Nat.le_refl _))) hx3)
              rcases HHr.out.row with h0 | ⟨gr, Nr, fr, ea, -, -, h3, h4, h5⟩
              · have := HK.out; rw [h0] at this; simp at this; omega
              have u0 := h4.cell (i := k2) (by have := HK.out; omega)
              rw [h5 k2 vv gv] at u0
              obtain ⟨av, nv, cv, ev⟩ : ∃ a n c, vv = .slice a n c := by
                obtain ⟨g, c, N, f, e, -⟩ := hrow
                exact ⟨_, _, _, e⟩
              subst ev
              rw [ea]
              have EA := kide ea
              have lg := block_lt_of_cell u0
              have hstep : Hid (∀ b' : Bool, (b' = true ↔ (bb = true ∨ x ∈ xs ∧ y ∈ xs)) → (b' = true ↔ (x = y ∨ ∃ (j : Nat) (xs : List Int), j < k2 + 1 ∧ ZL[j]? = some xs ∧ x ∈ xs ∧ y ∈ xs))) := fun b' h => by
                rw [h, HBB.out]
                constructor
                · rintro ((h | ⟨j, xs', hj, h1, h2⟩) | h)
                  · exact .inl h
                  · exact .inr ⟨j, xs', by omega, h1, h2⟩
                  · exact .inr ⟨k2, xs, by omega, gx, h⟩
                · rintro (h | ⟨j, xs', hj, h1, h2⟩)
                  · exact .inl (.inl h)
                  · by_cases e : j = k2
                    · subst e
                      rw [gx] at h1
                      cases h1
                      exact .inr h2
                    · exact .inl (.inr ⟨j, xs', by omega, h1, h2⟩)
              clear hrow h4 h5 h3 gv gx ea
              cases bb with
              | true =>
                go_wp2_with fail
                go_roundw
                case rel => exact ⟨k2 + 1, true, by omega, by go_num, rfl, hstep.out true (by simp), HBL.out⟩
                case measure => simp [intOf]; omega
              | false =>
                by_cases hxm : x ∈ xs
                · simp only [decide_eq_true hxm] at HHA
                  by_cases hym : y ∈ xs
                  · simp only [decide_eq_true hym] at HHB
                    have HST := kide (hstep.out true (by simp [hxm, hym]))
                    clear hxm hym
                    go_wp2_with (first | (go_at_call 36; refine Calls.mono (HHB.out w16 HB16.out) ?_; rintro e w17 ⟨rfl, hb17⟩; have HB17 := kide (HB16.out.trans (hb17.mono HB16.out.size)); clear hb17) | (go_at_call 36; refine Calls.mono (HHA.out wr (Below.refl _ _)) ?_; rintro e w16 ⟨rfl, hb16⟩; have HB16 := kide hb16; have u1 := kcell hb16 gr k2 lg; rw [u0] at u1; have lg16 := block_lt_of_cell u1; clear hb16))
                    go_roundw
                    case rel => exact ⟨k2 + 1, true, by omega, by go_num, rfl, (by first | exact HST.out | simpa using HST.out), HBL.out.trans (HB17.out.mono HBL.out.size)⟩
                    case measure => simp [intOf]; omega
                  · simp only [decide_eq_false hym] at HHB
                    have HST := kide (hstep.out false (by simp [hym]))
                    clear hxm hym
                    go_wp2_with (first | (go_at_call 36; refine Calls.mono (HHB.out w16 HB16.out) ?_; rintro e w17 ⟨rfl, hb17⟩; have HB17 := kide (HB16.out.trans (hb17.mono HB16.out.size)); clear hb17) | (go_at_call 36; refine Calls.mono (HHA.out wr (Below.refl _ _)) ?_; rintro e w16 ⟨rfl, hb16⟩; have HB16 := kide hb16; have u1 := kcell hb16 gr k2 lg; rw [u0] at u1; have lg16 := block_lt_of_cell u1; clear hb16))
                    go_roundw
                    case rel => exact ⟨k2 + 1, false, by omega, by go_num, rfl, (by first | exact HST.out | simpa using HST.out), HBL.out.trans (HB17.out.mono HBL.out.size)⟩
                    case measure => simp [intOf]; omega
                · simp only [decide_eq_false hxm] at HHA
                  have HST := kide (hstep.out false (by simp [hxm]))
                  clear hxm
                  go_wp2_with (go_at_call 36; refine Calls.mono (HHA.out wr (Below.refl _ _)) ?_; rintro e w16 ⟨rfl, hb16⟩; have HB16 := kide hb16; have u1 := kcell hb16 gr k2 lg; rw [u0] at u1; have lg16 := block_lt_of_cell u1; clear hb16)
                  go_roundw
                  case rel => exact ⟨k2 + 1, false, by omega, by go_num, rfl, (by first | exact HST.out | simpa using HST.out), HBL.out.trans (HB16.out.mono HBL.out.size)⟩
                  case measure => simp [intOf]; omega
            · have e : k2 = K := by omega
              have hbt : bb = true := HBB.out.2 (by
                rcases HGM.out with h | ⟨xs, hm, h1, h2⟩
                · exact .inl h
                · obtain ⟨j, hj, hje⟩ := List.mem_iff_getElem.1 hm
                  exact .inr ⟨j, xs, by have := HK.out; omega, by rw [List.getElem?_eq_getElem hj, hje], h1, h2⟩)
              subst hbt
              have BE := kide (B15.out.trans (HBL.out.mono B15.out.size))
              go_wp2_with fail
              go_ret
              exact ⟨rfl, BE.out⟩

theorem law_no_FnForest (a : Option Addr) (n c : Nat) (w : World) (hn : n ≤ 9223372036854775807) (h : ¬ n ≤ 1048576) :
    Calls Try.prog 9 #[.slice a n c] w fun e w' => e = .returned (.bool true) ∧ Below w.heap.size w w' := by
  have HBG := kide (big_any a n c w hn)
  have hi : 1048576 < n := by omega
  simp only [decide_eq_true hi] at HBG
  go_enter Try.func9, Try.ntmps9
  go_wp2_with fail
  refine Calls.mono HBG.out ?_
  rintro e w1 ⟨rfl, hw1⟩
  obtain rfl := hw1.symm
  go_wp2_with fail
  go_ret
  exact ⟨rfl, Below.refl _ _⟩

theorem walk_FnForest (a : Option Addr) (n c : Nat) (hn : n ≤ 9223372036854775807) (w : World) (hx : n ≤ 1048576 → ∃ bs : List Nat, bs.length = n ∧ RdB w a bs) :
    Calls Try.prog 9 #[.slice a n c] w fun e w' => e = .returned (.bool true) ∧ Below w.heap.size w w' := by
  by_cases h : n ≤ 1048576
  · obtain ⟨bs, hl, hr⟩ := hx h
    exact law_FnForest a c n bs w hr hl h
  · exact law_no_FnForest a n c w hn h

end Go.Proofs.Ytelndjdbfapahaa
