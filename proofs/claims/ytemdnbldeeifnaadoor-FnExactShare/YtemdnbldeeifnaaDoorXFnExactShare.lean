/- The law FnExactShare returns true, whatever it is handed. -/
import Derived.Test.YtemdnbldeeifnaaDoorTSM
import Derived.Test.YtemdnbldeeifnaaDoorQX
namespace Go.Proofs.YtemdnbldeeifnaaDoor
set_option linter.unusedVariables false
set_option linter.unusedSimpArgs false
open Go.RowKit

/-- What holds of all that is carried through the law. -/
structure Cs (w : World) (b : Option Addr) (n c2 nX bw : Nat) (aw : Option Addr) (cw lw hw : Nat) (lsw : List Tg) (ag : Option Addr) (cg bg lg hg : Nat) (lsg : List Tg) (u : World) : Prop where
  t : Bz u w.heap.size #[Value.slice b n c2] 25
  w0 : Bz u bw #[Value.slice aw nX cw] 30
  tw : Tt lw hw (.slice aw nX cw) lsw u
  g0 : Bz u bg #[Value.slice ag nX cg] 30
  tg : Tt lg hg (.slice ag nX cg) lsg u
  bel : Below w.heap.size w u
theorem Cs.later {w : World} {b : Option Addr} {n c2 nX bw : Nat} {aw : Option Addr} {cw lw hw : Nat} {lsw : List Tg} {ag : Option Addr} {cg bg lg hg : Nat} {lsg : List Tg} {u v : World} (h : Cs w b n c2 nX bw aw cw lw hw lsw ag cg bg lg hg lsg u) (hb : Below u.heap.size u v) : Cs w b n c2 nX bw aw cw lw hw lsw ag cg bg lg hg lsg v :=
  ⟨h.t.later hb, h.w0.later hb, h.tw.later hb, h.g0.later hb, h.tg.later hb, h.bel.trans (hb.mono h.bel.size)⟩
theorem Cs.out {w : World} {b : Option Addr} {n c2 nX bw : Nat} {aw : Option Addr} {cw lw hw : Nat} {lsw : List Tg} {ag : Option Addr} {cg bg lg hg : Nat} {lsg : List Tg} {u v : World} {B1 B2 : Nat} (h : Cs w b n c2 nX bw aw cw lw hw lsw ag cg bg lg hg lsg u) (ho : Out B1 B2 u v) (h1 : w.heap.size < B1) (h2 : bw < B1) (h3 : hw ≤ B1) (h4 : B2 ≤ lg) (h5 : B2 ≤ bg) : Cs w b n c2 nX bw aw cw lw hw lsw ag cg bg lg hg lsg v :=
  ⟨h.t.out ho (.inl h1), h.w0.out ho (.inl h2), h.tw.out ho (.inl h3), h.g0.out ho (.inr h5), h.tg.out ho (.inr h4), Out.bel h.bel ho (by omega)⟩

set_option maxHeartbeats 8000000 in
set_option maxRecDepth 100000 in
theorem law_yes_FnExactShare (a b : Option Addr) (c c2 n : Nat) (ds : List Dc) (xs : List Tg) (w : World) (hr : RdD w a ds) (hs : RdT w b xs) (hn : xs.length = n) (hG : GF w) (Z Z2 : Int)
    (hz : 0 ≤ Z) (hz2 : 0 ≤ Z2)
    (HSZ : Hid (∀ u, Below w.heap.size w u → Calls Tryd.prog 4 #[.slice a ds.length c, .int .i64 1048576] u fun e w' => e = .returned (.int .i64 Z) ∧ Below u.heap.size u w'))
    (HSC : Hid (∀ u, Below w.heap.size w u → Calls Tryd.prog 5 #[.agg #[.slice b n c2], .int .i64 Z] u fun e w' => e = .returned (.int .i64 Z2) ∧ Below u.heap.size u w')) :
    Calls Tryd.prog 3 #[.slice a ds.length c, .agg #[.slice b n c2]] w fun e w' => e = .returned (.bool true) ∧ Below w.heap.size w w' := by
  have HR := kide hr
  have HN := kide hn
  have hn2 : n ≤ 1048576 := by rw [← hn]; exact hs.1
  have hd2 : ds.length ≤ 1048576 := hr.1
  obtain ⟨hXl, hXo⟩ := shR_ok ds hs.ok
  have HXO := kide hXo
  have HTD := kide (fun u (hu : Below w.heap.size w u) => toDeclS_row a c ds u (hr.later hu))
  have HTW := kide (fun u (hu : Below w.heap.size w u) => toTerm_wr b c2 xs u (hs.later hu) n hn)
  have HTT : Hid (∀ u, Below w.heap.size w u → Calls Tryd.prog 8 #[.agg #[.slice b n c2]] u fun e w' => ∃ (g : Nat) (ms : List Tg), e = .returned (.agg #[.slice (some ⟨g, 0, none⟩) n n]) ∧ ms.map Tg.ct = xs.map Tg.ct ∧ Sn ms ∧ RdT w' (some ⟨g, 0, none⟩) ms ∧ Below u.heap.size u w') := fun u hu => (HTW.out u hu).mono (fun e w' ⟨g, ms, h1, h2, _, h4, _, h6, h7⟩ => ⟨g, ms, h1, h2, wr_sn h6, h4, h7⟩)
  obtain ⟨X, hX⟩ : ∃ X, shR ds (xs.map Tg.ct) = X := ⟨_, rfl⟩
  obtain ⟨nX, hnX⟩ : ∃ k, X.length = k := ⟨_, rfl⟩
  have HSE : Hid (∀ (u : World) (gd gt : Nat) (mt : List Tg), Below w.heap.size w u → RdD u (some ⟨gd, 0, none⟩) ds → RdT u (some ⟨gt, 0, none⟩) mt → mt.map Tg.ct = xs.map Tg.ct → Sn mt → Calls Tryd.prog 6 #[.slice (some ⟨gd, 0, none⟩) ds.length ds.length, .agg #[.slice (some ⟨gt, 0, none⟩) n n]] u fun e w' => ∃ (v : Option Addr) (k : Nat) (l : List Tg), e = .returned (.agg #[.slice v nX k]) ∧ Ts w' u.heap.size (.slice v nX k) l ∧ l.map Tg.ct = X ∧ Below u.heap.size u w') := fun u gd gt mt hu h1 h2 e2 hs2 => by
    have h := specShare_any (some ⟨gd, 0, none⟩) (some ⟨gt, 0, none⟩) ds.length n n ds mt u h1 h2 (len_of_tc e2 hn) hs2
    rw [e2, hX] at h
    refine h.mono ?_
    rintro e w' ⟨v, l, rfl, ht, hl, hb⟩
    obtain ⟨va, vc, rfl⟩ := ht.form
    rw [len_map hl hnX] at ht ⊢
    exact ⟨va, vc, l, rfl, ht, hl, hb⟩
  have HIE : Hid (∀ (u : World) (gd gt : Nat) (mt : List Tg), Below w.heap.size w u → RdD u (some ⟨gd, 0, none⟩) ds → RdT u (some ⟨gt, 0, none⟩) mt → mt.map Tg.ct = xs.map Tg.ct → Sn mt → Calls Tryd.prog 9 #[.slice (some ⟨gd, 0, none⟩) ds.length ds.length, .agg #[.slice (some ⟨gt, 0, none⟩) n n]] u fun e w' => ∃ (v : Option Addr) (k : Nat) (l : List Tg), e = .returned (.agg #[.slice v nX k]) ∧ Ts w' u.heap.size (.slice v nX k) l ∧ l.map Tg.ct = X ∧ Below u.heap.size u w') := fun u gd gt mt hu h1 h2 e2 hs2 => by
    have h := implShare_any (some ⟨gd, 0, none⟩) (some ⟨gt, 0, none⟩) ds.length n n ds mt u h1 h2 (len_of_tc e2 hn) hs2 (hG.later hu)
    rw [e2, hX] at h
    refine h.mono ?_
    rintro e w' ⟨v, l, rfl, ht, hl, hb⟩
    obtain ⟨va, vc, rfl⟩ := ht.form
    rw [len_map hl hnX] at ht ⊢
    exact ⟨va, vc, l, rfl, ht, hl, hb⟩
  rw [hX] at HXO hXl
  rw [hnX] at hXl
  have HNX := kide hnX
  have s0 := Bq.start w (.slice b n c2) 25
  have XTW := kide (Bz.new w #[Value.slice b n c2] 25)
  clear hr hs hn hG hXo hX hnX
  go_enter Tryd.func3, Tryd.ntmps3
  go_wp2_with fail
  refine Calls.mono (HSZ.out _ s0.below) ?_
  rintro e w1 ⟨rfl, hb1⟩
  have s1 := s0.next hb1
  have c1 := s1.cell
  have XT1 := kide (XTW.out.later hb1)
  clear hb1 s0
  go_wp2_with fail
  refine Calls.mono (HSC.out w1 s1.below) ?_
  rintro e w2 ⟨rfl, hb2⟩
  have XTS := kide (XT1.out.later hb2)
  have BVS := kide (s1.next hb2).below
  have c2' := (s1.next hb2).cell
  have hws : w.heap.size < w2.heap.size := XTS.out.lt
  clear hb2 s1 c1 XTW XT1
  go_wp2_with fail
  apply share5 (F := fun v bN aw cw ls gd gt => Below w2.heap.size w2 v ∧ Bz v bN #[Value.slice aw nX cw] 30 ∧ Ts v w2.heap.size (.slice aw nX cw) ls ∧ ls.map Tg.ct = X ∧ w2.heap.size ≤ bN)
  · skip
    intro key
    refine wp_region_x (SA := fun _ => False) (SB := fun z => z.cell? ⟨w.heap.size, 0, none⟩ = some (Value.slice b n c2)) (k := 999) (by kernel_rfl) ?_
    have hbd : Below w2.heap.size w2 w2.drew := (Below.refl _ _).drew
    have XT0 := kide (XTS.out.later hbd)
    have BS0 := kide hbd
    have BV0 := kide (BVS.out.drew)
    clear hbd
    generalize w2.drew = v0 at *
    have hs0 : Hid ((fun z => z.cell? ⟨w.heap.size, 0, none⟩ = some (Value.slice b n c2)) v0) := XT0.out.cell 0
    try go_simp
    refine wpAnyX_both (T := fun z => z.cell? ⟨w.heap.size, 0, none⟩ = some (Value.slice b n c2)) (i := 0) (v := Value.slice a ds.length c) rfl (by kernel_rfl) (by kernel_rfl) (by kernel_rfl) (fun _ _ _ h => by first | exact h | exact h.elim) (by decide) (fun _ h => h.elim) (fun _ h => h) (Sx.behind (by kernel_rfl) hs0.out) (Or.inl ⟨by rfl, fun z hz => by go_simp⟩) ?_
    try go_simp
    refine wpAnyX_both (T := fun z => z.cell? ⟨w.heap.size, 0, none⟩ = some (Value.slice b n c2)) (i := 2) (v := Value.agg #[Value.slice b n c2]) rfl (by kernel_rfl) (by kernel_rfl) (by kernel_rfl) (fun _ _ _ h => by first | exact h | exact h.elim) (by decide) (fun _ h => h.elim) (fun _ h => h) (Sx.behind (by kernel_rfl) hs0.out) (Or.inl ⟨by rfl, fun z hz => by go_simp⟩) ?_
    try go_simp
    refine wpAnyX_ready (rs := [1, 5]) (by kernel_rfl) (by simp) (AllX.cons rfl (fun K hK => ?_) (AllX.cons rfl (fun K hK => ?_) AllX.nil))
    · go_simp
      refine Calls.mono (HTD.out v0 BV0.out) ?_
      rintro e v1 ⟨rfl, rd, -, hb1⟩
      have XT1 := kide (XT0.out.later hb1)
      have BS1 := kide (BS0.out.trans (hb1.mono BS0.out.size))
      have BV1 := kide (BV0.out.trans (hb1.mono BV0.out.size))
      obtain ⟨gd, hgd⟩ : ∃ x, v0.heap.size = x := ⟨_, rfl⟩
      rw [hgd] at rd ⊢
      have RD1 := kide rd
      clear rd hgd hb1
      have hs1 : Hid ((fun z => z.cell? ⟨w.heap.size, 0, none⟩ = some (Value.slice b n c2)) v1) := XT1.out.cell 0
      refine hK _ _ (Sx.behind (by kernel_rfl) hs1.out) ?_
      clear hK K
      try go_simp
      refine wpAnyX_ready (rs := [3, 5]) (by kernel_rfl) (by simp) (AllX.cons rfl (fun K hK => ?_) (AllX.cons rfl (fun K hK => ?_) AllX.nil))
      · go_simp
        refine Calls.mono (HTT.out v1 BV1.out) ?_
        rintro e v2 ⟨gt, mt, rfl, hmt, hsn, rt, hb2⟩
        have XT2 := kide (XT1.out.later hb2)
        have RD2 := kide (RD1.out.later hb2)
        have BS2 := kide (BS1.out.trans (hb2.mono BS1.out.size))
        have BV2 := kide (BV1.out.trans (hb2.mono BV1.out.size))
        have RT2 := kide rt
        have MT := kide hmt
        have SN := kide hsn
        clear rt hmt hsn hb2
        have hs2 : Hid ((fun z => z.cell? ⟨w.heap.size, 0, none⟩ = some (Value.slice b n c2)) v2) := XT2.out.cell 0
        refine hK _ _ (Sx.behind (by kernel_rfl) hs2.out) ?_
        clear hK K
        try go_simp
        refine wpAnyX_ready (rs := [4, 5]) (by kernel_rfl) (by simp) (AllX.cons rfl (fun K hK => ?_) (AllX.cons rfl (fun K hK => ?_) AllX.nil))
        · go_simp
          refine Calls.mono (HSE.out v2 gd gt mt BV2.out RD2.out RT2.out MT.out SN.out) ?_
          rintro e v3 ⟨aw, cw, ls, rfl, hts, hel, hb3⟩
          have XT3 := kide (XT2.out.later hb3)
          have RD3 := kide (RD2.out.later hb3)
          have RT3 := kide (RT2.out.later hb3)
          have BS3 := kide (BS2.out.trans (hb3.mono BS2.out.size))
          have BV3 := kide (BV2.out.trans (hb3.mono BV2.out.size))
          have TW3 : Hid (Ts v3 w2.heap.size (.slice aw nX cw) ls) := hts.mono BS2.out.size
          have EL := kide hel
          clear hts hel hb3
          have hs3 : Hid ((fun z => z.cell? ⟨w.heap.size, 0, none⟩ = some (Value.slice b n c2)) v3) := XT3.out.cell 0
          refine hK _ _ (Sx.behind (by kernel_rfl) hs3.out) ?_
          clear hK K
          try go_simp
          refine wpAnyX_ready (rs := [5]) (by kernel_rfl) (by simp) (AllX.cons rfl (fun K hK => ?_) AllX.nil)
          go_simp
          have hbx : Below v3.heap.size v3 (v3.alloc (Obj.cells #[Value.slice none 0 0] 30)) := (Below.refl _ _).alloc (Nat.le_refl _) _
          have XT4 := kide (XT3.out.later hbx)
          have RD4 := kide (RD3.out.later hbx)
          have RT4 := kide (RT3.out.later hbx)
          have TW4 := kide (TW3.out.later hbx)
          have BS4 := kide (BS3.out.trans (hbx.mono BS3.out.size))
          have BV4 := kide (BV3.out.trans (hbx.mono BV3.out.size))
          have XN4 := kide (Bz.new v3 #[Value.slice none 0 0] 30)
          have hN : Hid (w2.heap.size ≤ v3.heap.size) := BS3.out.size
          obtain ⟨bN, hbN⟩ : ∃ x, v3.heap.size = x := ⟨_, rfl⟩
          rw [hbN] at XN4 hN ⊢
          clear hbN hbx
          generalize v3.alloc (Obj.cells #[Value.slice none 0 0] 30) = v4 at *
          have hs4 : Hid ((fun z => z.cell? ⟨w.heap.size, 0, none⟩ = some (Value.slice b n c2)) v4) := XT4.out.cell 0
          refine hK _ _ (Sx.behind (by kernel_rfl) hs4.out) ?_
          clear hK K
          try go_simp
          refine wpAnyX_ready (rs := [6]) (by kernel_rfl) (by simp) (AllX.cons rfl (fun K hK => ?_) AllX.nil)
          have e8 := XN4.out.cell 0
          have f8 := XN4.out.froz 0
          simp at e8
          go_simp
          have XN5 : Hid (Bz (v4.setCell ⟨bN, 0, none⟩ (Value.slice aw nX cw)) bN #[Value.slice aw nX cw] 30) := XN4.out.set 0 _
          have XT5 : Hid (Bz (v4.setCell ⟨bN, 0, none⟩ (Value.slice aw nX cw)) (w.heap.size) #[Value.slice b n c2] 25) := XT4.out.other (by have := hN.out; omega) 0 _
          have BS5 : Hid (Below w2.heap.size w2 (v4.setCell ⟨bN, 0, none⟩ (Value.slice aw nX cw))) := BS4.out.setCell (show w2.heap.size ≤ bN from hN.out) _
          have BV5 : Hid (Below w.heap.size w (v4.setCell ⟨bN, 0, none⟩ (Value.slice aw nX cw))) := BV4.out.setCell (show w.heap.size ≤ bN by have := hN.out; omega) _
          have TW5 : Hid (Ts (v4.setCell ⟨bN, 0, none⟩ (Value.slice aw nX cw)) w2.heap.size (Value.slice aw nX cw) ls) := ⟨TW4.out.row.move (fun b hb => heap_setCell_other _ _ _ _ (fun e => by simp at e; subst e; exact nsvN XN4.out (by decide) TW4.out.row hb.symm)), fun x hx => nw_set (TW4.out.wn x hx) XN4.out (by decide) 0 _, fun x hx => ni_set (TW4.out.kn x hx) XN4.out (by decide) 0 _, TW4.out.wd, TW4.out.kd⟩
          generalize v4.setCell ⟨bN, 0, none⟩ (Value.slice aw nX cw) = v5 at *
          clear e8 f8
          have hs5 : Hid ((fun z => z.cell? ⟨w.heap.size, 0, none⟩ = some (Value.slice b n c2)) v5) := XT5.out.cell 0
          refine hK _ _ (Sx.behind (by kernel_rfl) hs5.out) ?_
          clear hK K
          try go_simp
          refine wpAnyX_done (by kernel_rfl) ?_ _
          try go_simp
          exact key v5 bN aw cw ls gd gt ⟨BS5.out, XN5.out, TW5.out, EL.out, hN.out⟩
        · go_simp
          have hbx : Below v2.heap.size v2 (v2.alloc (Obj.cells #[Value.slice none 0 0] 30)) := (Below.refl _ _).alloc (Nat.le_refl _) _
          have XT3 := kide (XT2.out.later hbx)
          have RD3 := kide (RD2.out.later hbx)
          have RT3 := kide (RT2.out.later hbx)
          have BS3 := kide (BS2.out.trans (hbx.mono BS2.out.size))
          have BV3 := kide (BV2.out.trans (hbx.mono BV2.out.size))
          have XN3 := kide (Bz.new v2 #[Value.slice none 0 0] 30)
          have hN : Hid (w2.heap.size ≤ v2.heap.size) := BS2.out.size
          obtain ⟨bN, hbN⟩ : ∃ x, v2.heap.size = x := ⟨_, rfl⟩
          rw [hbN] at XN3 hN ⊢
          clear hbN hbx
          generalize v2.alloc (Obj.cells #[Value.slice none 0 0] 30) = v3 at *
          have hs3 : Hid ((fun z => z.cell? ⟨w.heap.size, 0, none⟩ = some (Value.slice b n c2)) v3) := XT3.out.cell 0
          refine hK _ _ (Sx.behind (by kernel_rfl) hs3.out) ?_
          clear hK K
          try go_simp
          refine wpAnyX_ready (rs := [4]) (by kernel_rfl) (by simp) (AllX.cons rfl (fun K hK => ?_) AllX.nil)
          go_simp
          refine Calls.mono (HSE.out v3 gd gt mt BV3.out RD3.out RT3.out MT.out SN.out) ?_
          rintro e v4 ⟨aw, cw, ls, rfl, hts, hel, hb4⟩
          have XT4 := kide (XT3.out.later hb4)
          have RD4 := kide (RD3.out.later hb4)
          have RT4 := kide (RT3.out.later hb4)
          have XN4 := kide (XN3.out.later hb4)
          have BS4 := kide (BS3.out.trans (hb4.mono BS3.out.size))
          have BV4 := kide (BV3.out.trans (hb4.mono BV3.out.size))
          have TW4 : Hid (Ts v4 w2.heap.size (.slice aw nX cw) ls) := hts.mono BS3.out.size
          have EL := kide hel
          clear hts hel hb4
          have hs4 : Hid ((fun z => z.cell? ⟨w.heap.size, 0, none⟩ = some (Value.slice b n c2)) v4) := XT4.out.cell 0
          refine hK _ _ (Sx.behind (by kernel_rfl) hs4.out) ?_
          clear hK K
          try go_simp
          refine wpAnyX_ready (rs := [6]) (by kernel_rfl) (by simp) (AllX.cons rfl (fun K hK => ?_) AllX.nil)
          have e8 := XN4.out.cell 0
          have f8 := XN4.out.froz 0
          simp at e8
          go_simp
          have XN5 : Hid (Bz (v4.setCell ⟨bN, 0, none⟩ (Value.slice aw nX cw)) bN #[Value.slice aw nX cw] 30) := XN4.out.set 0 _
          have XT5 : Hid (Bz (v4.setCell ⟨bN, 0, none⟩ (Value.slice aw nX cw)) (w.heap.size) #[Value.slice b n c2] 25) := XT4.out.other (by have := hN.out; omega) 0 _
          have BS5 : Hid (Below w2.heap.size w2 (v4.setCell ⟨bN, 0, none⟩ (Value.slice aw nX cw))) := BS4.out.setCell (show w2.heap.size ≤ bN from hN.out) _
          have BV5 : Hid (Below w.heap.size w (v4.setCell ⟨bN, 0, none⟩ (Value.slice aw nX cw))) := BV4.out.setCell (show w.heap.size ≤ bN by have := hN.out; omega) _
          have TW5 : Hid (Ts (v4.setCell ⟨bN, 0, none⟩ (Value.slice aw nX cw)) w2.heap.size (Value.slice aw nX cw) ls) := ⟨TW4.out.row.move (fun b hb => heap_setCell_other _ _ _ _ (fun e => by simp at e; subst e; exact nsvN XN4.out (by decide) TW4.out.row hb.symm)), fun x hx => nw_set (TW4.out.wn x hx) XN4.out (by decide) 0 _, fun x hx => ni_set (TW4.out.kn x hx) XN4.out (by decide) 0 _, TW4.out.wd, TW4.out.kd⟩
          generalize v4.setCell ⟨bN, 0, none⟩ (Value.slice aw nX cw) = v5 at *
          clear e8 f8
          have hs5 : Hid ((fun z => z.cell? ⟨w.heap.size, 0, none⟩ = some (Value.slice b n c2)) v5) := XT5.out.cell 0
          refine hK _ _ (Sx.behind (by kernel_rfl) hs5.out) ?_
          clear hK K
          try go_simp
          refine wpAnyX_done (by kernel_rfl) ?_ _
          try go_simp
          exact key v5 bN aw cw ls gd gt ⟨BS5.out, XN5.out, TW5.out, EL.out, hN.out⟩
      · go_simp
        have hbx : Below v1.heap.size v1 (v1.alloc (Obj.cells #[Value.slice none 0 0] 30)) := (Below.refl _ _).alloc (Nat.le_refl _) _
        have XT2 := kide (XT1.out.later hbx)
        have RD2 := kide (RD1.out.later hbx)
        have BS2 := kide (BS1.out.trans (hbx.mono BS1.out.size))
        have BV2 := kide (BV1.out.trans (hbx.mono BV1.out.size))
        have XN2 := kide (Bz.new v1 #[Value.slice none 0 0] 30)
        have hN : Hid (w2.heap.size ≤ v1.heap.size) := BS1.out.size
        obtain ⟨bN, hbN⟩ : ∃ x, v1.heap.size = x := ⟨_, rfl⟩
        rw [hbN] at XN2 hN ⊢
        clear hbN hbx
        generalize v1.alloc (Obj.cells #[Value.slice none 0 0] 30) = v2 at *
        have hs2 : Hid ((fun z => z.cell? ⟨w.heap.size, 0, none⟩ = some (Value.slice b n c2)) v2) := XT2.out.cell 0
        refine hK _ _ (Sx.behind (by kernel_rfl) hs2.out) ?_
        clear hK K
        try go_simp
        refine wpAnyX_ready (rs := [3]) (by kernel_rfl) (by simp) (AllX.cons rfl (fun K hK => ?_) AllX.nil)
        go_simp
        refine Calls.mono (HTT.out v2 BV2.out) ?_
        rintro e v3 ⟨gt, mt, rfl, hmt, hsn, rt, hb3⟩
        have XT3 := kide (XT2.out.later hb3)
        have RD3 := kide (RD2.out.later hb3)
        have XN3 := kide (XN2.out.later hb3)
        have BS3 := kide (BS2.out.trans (hb3.mono BS2.out.size))
        have BV3 := kide (BV2.out.trans (hb3.mono BV2.out.size))
        have RT3 := kide rt
        have MT := kide hmt
        have SN := kide hsn
        clear rt hmt hsn hb3
        have hs3 : Hid ((fun z => z.cell? ⟨w.heap.size, 0, none⟩ = some (Value.slice b n c2)) v3) := XT3.out.cell 0
        refine hK _ _ (Sx.behind (by kernel_rfl) hs3.out) ?_
        clear hK K
        try go_simp
        refine wpAnyX_ready (rs := [4]) (by kernel_rfl) (by simp) (AllX.cons rfl (fun K hK => ?_) AllX.nil)
        go_simp
        refine Calls.mono (HSE.out v3 gd gt mt BV3.out RD3.out RT3.out MT.out SN.out) ?_
        rintro e v4 ⟨aw, cw, ls, rfl, hts, hel, hb4⟩
        have XT4 := kide (XT3.out.later hb4)
        have RD4 := kide (RD3.out.later hb4)
        have XN4 := kide (XN3.out.later hb4)
        have RT4 := kide (RT3.out.later hb4)
        have BS4 := kide (BS3.out.trans (hb4.mono BS3.out.size))
        have BV4 := kide (BV3.out.trans (hb4.mono BV3.out.size))
        have TW4 : Hid (Ts v4 w2.heap.size (.slice aw nX cw) ls) := hts.mono BS3.out.size
        have EL := kide hel
        clear hts hel hb4
        have hs4 : Hid ((fun z => z.cell? ⟨w.heap.size, 0, none⟩ = some (Value.slice b n c2)) v4) := XT4.out.cell 0
        refine hK _ _ (Sx.behind (by kernel_rfl) hs4.out) ?_
        clear hK K
        try go_simp
        refine wpAnyX_ready (rs := [6]) (by kernel_rfl) (by simp) (AllX.cons rfl (fun K hK => ?_) AllX.nil)
        have e8 := XN4.out.cell 0
        have f8 := XN4.out.froz 0
        simp at e8
        go_simp
        have XN5 : Hid (Bz (v4.setCell ⟨bN, 0, none⟩ (Value.slice aw nX cw)) bN #[Value.slice aw nX cw] 30) := XN4.out.set 0 _
        have XT5 : Hid (Bz (v4.setCell ⟨bN, 0, none⟩ (Value.slice aw nX cw)) (w.heap.size) #[Value.slice b n c2] 25) := XT4.out.other (by have := hN.out; omega) 0 _
        have BS5 : Hid (Below w2.heap.size w2 (v4.setCell ⟨bN, 0, none⟩ (Value.slice aw nX cw))) := BS4.out.setCell (show w2.heap.size ≤ bN from hN.out) _
        have BV5 : Hid (Below w.heap.size w (v4.setCell ⟨bN, 0, none⟩ (Value.slice aw nX cw))) := BV4.out.setCell (show w.heap.size ≤ bN by have := hN.out; omega) _
        have TW5 : Hid (Ts (v4.setCell ⟨bN, 0, none⟩ (Value.slice aw nX cw)) w2.heap.size (Value.slice aw nX cw) ls) := ⟨TW4.out.row.move (fun b hb => heap_setCell_other _ _ _ _ (fun e => by simp at e; subst e; exact nsvN XN4.out (by decide) TW4.out.row hb.symm)), fun x hx => nw_set (TW4.out.wn x hx) XN4.out (by decide) 0 _, fun x hx => ni_set (TW4.out.kn x hx) XN4.out (by decide) 0 _, TW4.out.wd, TW4.out.kd⟩
        generalize v4.setCell ⟨bN, 0, none⟩ (Value.slice aw nX cw) = v5 at *
        clear e8 f8
        have hs5 : Hid ((fun z => z.cell? ⟨w.heap.size, 0, none⟩ = some (Value.slice b n c2)) v5) := XT5.out.cell 0
        refine hK _ _ (Sx.behind (by kernel_rfl) hs5.out) ?_
        clear hK K
        try go_simp
        refine wpAnyX_done (by kernel_rfl) ?_ _
        try go_simp
        exact key v5 bN aw cw ls gd gt ⟨BS5.out, XN5.out, TW5.out, EL.out, hN.out⟩
    · go_simp
      have hbx : Below v0.heap.size v0 (v0.alloc (Obj.cells #[Value.slice none 0 0] 30)) := (Below.refl _ _).alloc (Nat.le_refl _) _
      have XT1 := kide (XT0.out.later hbx)
      have BS1 := kide (BS0.out.trans (hbx.mono BS0.out.size))
      have BV1 := kide (BV0.out.trans (hbx.mono BV0.out.size))
      have XN1 := kide (Bz.new v0 #[Value.slice none 0 0] 30)
      have hN : Hid (w2.heap.size ≤ v0.heap.size) := BS0.out.size
      obtain ⟨bN, hbN⟩ : ∃ x, v0.heap.size = x := ⟨_, rfl⟩
      rw [hbN] at XN1 hN ⊢
      clear hbN hbx
      generalize v0.alloc (Obj.cells #[Value.slice none 0 0] 30) = v1 at *
      have hs1 : Hid ((fun z => z.cell? ⟨w.heap.size, 0, none⟩ = some (Value.slice b n c2)) v1) := XT1.out.cell 0
      refine hK _ _ (Sx.behind (by kernel_rfl) hs1.out) ?_
      clear hK K
      try go_simp
      refine wpAnyX_ready (rs := [1]) (by kernel_rfl) (by simp) (AllX.cons rfl (fun K hK => ?_) AllX.nil)
      go_simp
      refine Calls.mono (HTD.out v1 BV1.out) ?_
      rintro e v2 ⟨rfl, rd, -, hb2⟩
      have XT2 := kide (XT1.out.later hb2)
      have XN2 := kide (XN1.out.later hb2)
      have BS2 := kide (BS1.out.trans (hb2.mono BS1.out.size))
      have BV2 := kide (BV1.out.trans (hb2.mono BV1.out.size))
      obtain ⟨gd, hgd⟩ : ∃ x, v1.heap.size = x := ⟨_, rfl⟩
      rw [hgd] at rd ⊢
      have RD2 := kide rd
      clear rd hgd hb2
      have hs2 : Hid ((fun z => z.cell? ⟨w.heap.size, 0, none⟩ = some (Value.slice b n c2)) v2) := XT2.out.cell 0
      refine hK _ _ (Sx.behind (by kernel_rfl) hs2.out) ?_
      clear hK K
      try go_simp
      refine wpAnyX_ready (rs := [3]) (by kernel_rfl) (by simp) (AllX.cons rfl (fun K hK => ?_) AllX.nil)
      go_simp
      refine Calls.mono (HTT.out v2 BV2.out) ?_
      rintro e v3 ⟨gt, mt, rfl, hmt, hsn, rt, hb3⟩
      have XT3 := kide (XT2.out.later hb3)
      have XN3 := kide (XN2.out.later hb3)
      have RD3 := kide (RD2.out.later hb3)
      have BS3 := kide (BS2.out.trans (hb3.mono BS2.out.size))
      have BV3 := kide (BV2.out.trans (hb3.mono BV2.out.size))
      have RT3 := kide rt
      have MT := kide hmt
      have SN := kide hsn
      clear rt hmt hsn hb3
      have hs3 : Hid ((fun z => z.cell? ⟨w.heap.size, 0, none⟩ = some (Value.slice b n c2)) v3) := XT3.out.cell 0
      refine hK _ _ (Sx.behind (by kernel_rfl) hs3.out) ?_
      clear hK K
      try go_simp
      refine wpAnyX_ready (rs := [4]) (by kernel_rfl) (by simp) (AllX.cons rfl (fun K hK => ?_) AllX.nil)
      go_simp
      refine Calls.mono (HSE.out v3 gd gt mt BV3.out RD3.out RT3.out MT.out SN.out) ?_
      rintro e v4 ⟨aw, cw, ls, rfl, hts, hel, hb4⟩
      have XT4 := kide (XT3.out.later hb4)
      have XN4 := kide (XN3.out.later hb4)
      have RD4 := kide (RD3.out.later hb4)
      have RT4 := kide (RT3.out.later hb4)
      have BS4 := kide (BS3.out.trans (hb4.mono BS3.out.size))
      have BV4 := kide (BV3.out.trans (hb4.mono BV3.out.size))
      have TW4 : Hid (Ts v4 w2.heap.size (.slice aw nX cw) ls) := hts.mono BS3.out.size
      have EL := kide hel
      clear hts hel hb4
      have hs4 : Hid ((fun z => z.cell? ⟨w.heap.size, 0, none⟩ = some (Value.slice b n c2)) v4) := XT4.out.cell 0
      refine hK _ _ (Sx.behind (by kernel_rfl) hs4.out) ?_
      clear hK K
      try go_simp
      refine wpAnyX_ready (rs := [6]) (by kernel_rfl) (by simp) (AllX.cons rfl (fun K hK => ?_) AllX.nil)
      have e8 := XN4.out.cell 0
      have f8 := XN4.out.froz 0
      simp at e8
      go_simp
      have XN5 : Hid (Bz (v4.setCell ⟨bN, 0, none⟩ (Value.slice aw nX cw)) bN #[Value.slice aw nX cw] 30) := XN4.out.set 0 _
      have XT5 : Hid (Bz (v4.setCell ⟨bN, 0, none⟩ (Value.slice aw nX cw)) (w.heap.size) #[Value.slice b n c2] 25) := XT4.out.other (by have := hN.out; omega) 0 _
      have BS5 : Hid (Below w2.heap.size w2 (v4.setCell ⟨bN, 0, none⟩ (Value.slice aw nX cw))) := BS4.out.setCell (show w2.heap.size ≤ bN from hN.out) _
      have BV5 : Hid (Below w.heap.size w (v4.setCell ⟨bN, 0, none⟩ (Value.slice aw nX cw))) := BV4.out.setCell (show w.heap.size ≤ bN by have := hN.out; omega) _
      have TW5 : Hid (Ts (v4.setCell ⟨bN, 0, none⟩ (Value.slice aw nX cw)) w2.heap.size (Value.slice aw nX cw) ls) := ⟨TW4.out.row.move (fun b hb => heap_setCell_other _ _ _ _ (fun e => by simp at e; subst e; exact nsvN XN4.out (by decide) TW4.out.row hb.symm)), fun x hx => nw_set (TW4.out.wn x hx) XN4.out (by decide) 0 _, fun x hx => ni_set (TW4.out.kn x hx) XN4.out (by decide) 0 _, TW4.out.wd, TW4.out.kd⟩
      generalize v4.setCell ⟨bN, 0, none⟩ (Value.slice aw nX cw) = v5 at *
      clear e8 f8
      have hs5 : Hid ((fun z => z.cell? ⟨w.heap.size, 0, none⟩ = some (Value.slice b n c2)) v5) := XT5.out.cell 0
      refine hK _ _ (Sx.behind (by kernel_rfl) hs5.out) ?_
      clear hK K
      try go_simp
      refine wpAnyX_done (by kernel_rfl) ?_ _
      try go_simp
      exact key v5 bN aw cw ls gd gt ⟨BS5.out, XN5.out, TW5.out, EL.out, hN.out⟩
  · intro w3 bw aw cw lsw gd0 gt0 hF
    obtain ⟨hb3, xw3, ts3, el3, hlw⟩ := hF
    have B3 := kide (BVS.out.trans (hb3.mono BVS.out.size))
    have T3 := kide (XTS.out.later hb3)
    have W3 := kide xw3
    have N3 := kide (Tt.of ts3)
    have ELW := kide el3
    have lw3 := xw3.lt
    have z3 := hb3.size
    clear hb3 xw3 ts3 el3 XTS BVS HSE
    go_wp2_with fail
    refine Calls.mono (HTD.out w3 B3.out) ?_
    rintro e w4 ⟨rfl, r4, ⟨fd, q4⟩, hb4⟩
    have R4 := kide r4
    have Q4 := kide q4
    have z4 := rowIs_lt q4
    have T4 := kide (T3.out.later hb4)
    have W4 := kide (W3.out.later hb4)
    have N4 := kide (N3.out.later hb4)
    have B4 := kide (B3.out.trans (hb4.mono B3.out.size))
    have c4 : w4.cell? ⟨w.heap.size, 0, none⟩ = some (.slice b n c2) := T4.out.cell 0
    clear hb4 r4 q4 T3 W3 N3 B3
    go_wp2_with fail
    refine Calls.mono (HTW.out w4 B4.out) ?_
    rintro e w5 ⟨gt, mt, rfl, hmt, hgt, rt, ⟨ft, qt, hft⟩, hwt, hb5⟩
    have hbx : Below w5.heap.size w5 (w5.alloc (Obj.cells #[Value.slice (some ⟨gt, 0, none⟩) n n] 30)) := (Below.refl _ _).alloc (Nat.le_refl _) _
    have z5 := rowIs_lt qt
    have zz5 := hb5.size
    have SN5 := kide (wr_sn hwt)
    have R6 := kide ((R4.out.later hb5).later hbx)
    have Q6 := kide (rowIs_later (rowIs_later Q4.out hb5) hbx)
    have T6 := kide ((T4.out.later hb5).later hbx)
    have W6 := kide ((W4.out.later hb5).later hbx)
    have N6 := kide ((N4.out.later hb5).later hbx)
    have B5 := B4.out.trans (hb5.mono B4.out.size)
    have B6 := kide (B5.trans (hbx.mono B5.size))
    have MT := kide hmt
    have HGT := kide hgt
    have FT := kide hft
    have RT6 := kide (rt.later hbx)
    have QT6 := kide (rowIs_later qt hbx)
    have WT6 := kide (fun x hx => And.intro ((hwt x hx).1.out (Out.ofB (B1 := w5.heap.size) (B2 := w5.heap.size) hbx) (.inr (Nat.le_refl _))) (hwt x hx).2)
    have X6 := kide (Bz.new w5 #[Value.slice (some ⟨gt, 0, none⟩) n n] 30)
    have HI6 := kide (HIE.out _ w3.heap.size gt mt B6.out R6.out RT6.out MT.out SN5.out)
    clear hb5 hmt hgt rt qt hft hwt hbx B5 R4 Q4 T4 W4 N4 c4
    go_wp2_with fail
    have zx6 := X6.out.lt
    generalize w5.alloc (Obj.cells #[Value.slice (some ⟨gt, 0, none⟩) n n] 30) = w6 at *
    refine Calls.mono HI6.out ?_
    rintro e w7 ⟨ag, cg, lsg, rfl, ng, elg, hb7⟩
    have hbg : Below w7.heap.size w7 (w7.alloc (Obj.cells #[Value.slice ag nX cg] 30)) := (Below.refl _ _).alloc (Nat.le_refl _) _
    have z7 := hb7.size
    have Y8 : Hid (Cs w b n c2 nX bw aw cw w2.heap.size w3.heap.size lsw ag cg w7.heap.size w6.heap.size w7.heap.size lsg (w7.alloc (Obj.cells #[Value.slice ag nX cg] 30))) := ⟨(T6.out.later hb7).later hbg, (W6.out.later hb7).later hbg, (N6.out.later hb7).later hbg, Bz.new w7 _ _, (Tt.of ng).later hbg, (B6.out.trans (hb7.mono B6.out.size)).trans (hbg.mono (B6.out.trans (hb7.mono B6.out.size)).size)⟩
    have ELG := kide elg
    have X8 := kide ((X6.out.later hb7).later hbg)
    have R8 := kide ((R6.out.later hb7).later hbg)
    have Q8 := kide (rowIs_later (rowIs_later Q6.out hb7) hbg)
    have RT8 := kide ((RT6.out.later hb7).later hbg)
    have QT8 := kide (rowIs_later (rowIs_later QT6.out hb7) hbg)
    have WT8 := kide (fun x hx => And.intro (((WT6.out x hx).1.out (Out.ofB (B1 := w5.heap.size) (B2 := w5.heap.size) hb7) (.inr (Nat.le_refl _))).out (Out.ofB (B1 := w5.heap.size) (B2 := w5.heap.size) hbg) (.inr (Nat.le_refl _))) (WT6.out x hx).2)
    have z8 : w7.heap.size < (w7.alloc (Obj.cells #[Value.slice ag nX cg] 30)).heap.size := by simp
    have p8 : (w7.alloc (Obj.cells #[Value.slice ag nX cg] 30)).cell? ⟨bw, 0, none⟩ = some (.slice aw nX cw) := Y8.out.w0.cell 0
    clear hb7 hbg ng elg HI6 T6 W6 N6 B6 X6 R6 Q6 RT6 QT6 WT6
    go_wp2_with fail
    clear p8
    generalize w7.alloc (Obj.cells #[Value.slice ag nX cg] 30) = w8 at *
    refine Calls.mono (eqTerm_tt Y8.out.tg Y8.out.tw ELG.out ELW.out HXO.out HNX.out hXl) ?_
    rintro e w9 ⟨rfl, hb9⟩
    have Y9 := kide (Y8.out.later hb9)
    have X9 := kide (X8.out.later hb9)
    have R9 := kide (R8.out.later hb9)
    have Q9 := kide (rowIs_later Q8.out hb9)
    have RT9 := kide (RT8.out.later hb9)
    have QT9 := kide (rowIs_later QT8.out hb9)
    have WT9 := kide (fun x hx => And.intro ((WT8.out x hx).1.out (Out.ofB (B1 := w5.heap.size) (B2 := w5.heap.size) hb9) (.inr (Nat.le_refl _))) (WT8.out x hx).2)
    have z9 := hb9.size
    clear hb9 Y8 X8 R8 Q8 RT8 QT8 WT8
    go_wp2_with fail
    refine Calls.mono (HTD.out w9 Y9.out.bel) ?_
    rintro e w10 ⟨rfl, r10, -, hb10⟩
    have Y10 := kide (Y9.out.later hb10)
    have X10 := kide (X9.out.later hb10)
    have R10 := kide (R9.out.later hb10)
    have Q10 := kide (rowIs_later Q9.out hb10)
    have RT10 := kide (RT9.out.later hb10)
    have QT10 := kide (rowIs_later QT9.out hb10)
    have WT10 := kide (fun x hx => And.intro ((WT9.out x hx).1.out (Out.ofB (B1 := w5.heap.size) (B2 := w5.heap.size) hb10) (.inr (Nat.le_refl _))) (WT9.out x hx).2)
    have RR10 := kide r10
    have z10 := hb10.size
    clear hb10 r10 Y9 X9 R9 Q9 RT9 QT9 WT9
    go_wp2_with fail
    refine Calls.mono (eqDeclS_same _ _ ds.length ds.length ds w10 R10.out RR10.out) ?_
    rintro e w11 ⟨rfl, hb11⟩
    have Y11 := kide (Y10.out.later hb11)
    have X11 := kide (X10.out.later hb11)
    have Q11 := kide (rowIs_later Q10.out hb11)
    have RT11 := kide (RT10.out.later hb11)
    have QT11 := kide (rowIs_later QT10.out hb11)
    have WT11 := kide (fun x hx => And.intro ((WT10.out x hx).1.out (Out.ofB (B1 := w5.heap.size) (B2 := w5.heap.size) hb11) (.inr (Nat.le_refl _))) (WT10.out x hx).2)
    have z11 := hb11.size
    clear hb11 Y10 X10 R10 Q10 RT10 QT10 WT10 RR10
    have c11 : w11.cell? ⟨w.heap.size, 0, none⟩ = some (.slice b n c2) := Y11.out.t.cell 0
    have d11 : w11.cell? ⟨w5.heap.size, 0, none⟩ = some (.slice (some ⟨gt, 0, none⟩) n n) := X11.out.cell 0
    go_wp2_with fail
    go_region_held3 (fun u => u.cell? ⟨w.heap.size, 0, none⟩ = some (Value.slice b n c2) ∧ u.cell? ⟨w5.heap.size, 0, none⟩ = some (Value.slice (some { block := gt, off := 0 }) n n)) (simp [*])
      (first
        | (go_at_call 8; refine Calls.mono (HTT.out _ ?_) ?_; exact Y11.out.bel.drew; rintro e w12 ⟨g12, m12, rfl, hm12, -, r12, hb12⟩; replace hb12 := kundrew hb12; have Y12 := kide (Cs.later (u := w11) Y11.out hb12); have X12 := kide (Bz.later (u := w11) X11.out hb12); have Q12 := kide (rowIs_later (w := w11) Q11.out hb12); have RT12 := kide (RdT.later (w := w11) RT11.out hb12); have QT12 := kide (rowIs_later (w := w11) QT11.out hb12); have WT12 := kide (fun x hx => And.intro (WrT.out (w := w11) (WT11.out x hx).1 (Out.ofB (B1 := w5.heap.size) (B2 := w5.heap.size) hb12) (.inr (Nat.le_refl _))) (WT11.out x hx).2); have c12 : w12.cell? ⟨w.heap.size, 0, none⟩ = some (.slice b n c2) := Y12.out.t.cell 0; have d12 : w12.cell? ⟨w5.heap.size, 0, none⟩ = some (.slice (some ⟨gt, 0, none⟩) n n) := X12.out.cell 0; have RR12 := kide r12; have M12 := kide hm12; have z12 := hb12.size; clear hm12 r12 hb12)
        | (go_at_call 10; refine Calls.mono (eqTerm_same (some ⟨gt, 0, none⟩) (some ⟨g12, 0, none⟩) n n mt m12 _ RT12.out RR12.out (MT.out.trans M12.out.symm) n (len_of_tc MT.out HN.out) (len_of_tc M12.out HN.out)) ?_; rintro e w13 ⟨rfl, hb13⟩; have Y13 := kide (Y12.out.later hb13); have X13 := kide (X12.out.later hb13); have Q13 := kide (rowIs_later Q12.out hb13); have QT13 := kide (rowIs_later QT12.out hb13); have WT13 := kide (fun x hx => And.intro ((WT12.out x hx).1.out (Out.ofB (B1 := w5.heap.size) (B2 := w5.heap.size) hb13) (.inr (Nat.le_refl _))) (WT12.out x hx).2); have c13 : w13.cell? ⟨w.heap.size, 0, none⟩ = some (.slice b n c2) := Y13.out.t.cell 0; have d13 : w13.cell? ⟨w5.heap.size, 0, none⟩ = some (.slice (some ⟨gt, 0, none⟩) n n) := X13.out.cell 0; have z13 := hb13.size; clear hb13))
    clear Y11 X11 Q11 RT11 QT11 WT11 c11 d11 Y12 X12 Q12 RT12 QT12 WT12 c12 d12 RR12 M12
    go_wp2_with fail
    refine Calls.mono (markDeclS_one w3.heap.size ds.length ds.length fd w13 Q13.out hd2) ?_
    rintro e w14 ⟨rfl, ho14⟩
    have Y14 := kide (Y13.out.out ho14 (by omega) (by omega) (by omega) (by omega) (by omega))
    have X14 := kide (X13.out.out ho14 (.inr (by omega)))
    have QT14 := kide (rowIs_out QT13.out ho14 (.inr (by have := HGT.out; omega)))
    have WT14 := kide (fun x hx => And.intro ((WT13.out x hx).1.out ho14 (.inl (by omega))) (WT13.out x hx).2)
    have d14 : w14.cell? ⟨w5.heap.size, 0, none⟩ = some (.slice (some ⟨gt, 0, none⟩) n n) := X14.out.cell 0
    have z14 := ho14.2.2.2.1
    clear ho14 Y13 X13 Q13 QT13 WT13 c13 d13
    generalize hK : 1 + ds.length * 2 = K
    have hKb : K ≤ 4194304 := by omega
    clear hK
    go_wp2_with fail
    refine Calls.mono (markTerm_any gt n n K w4.heap.size w5.heap.size mt w14 ft QT14.out FT.out WT14.out (len_of_tc MT.out HN.out) hn2 hKb HGT.out z5) ?_
    rintro e w15 ⟨⟨r15, hr15, rfl⟩, ho15⟩
    have Y15 := kide (Y14.out.out ho15 (by omega) (by omega) (by omega) (by omega) (by omega))
    have z15 := ho15.2.2.2.1
    clear ho15 Y14 X14 QT14 WT14 d14
    have hr15' : ¬ r15 < 0 := by omega
    have p15 : w15.cell? ⟨bw, 0, none⟩ = some (.slice aw nX cw) := Y15.out.w0.cell 0
    have q15 : w15.cell? ⟨w7.heap.size, 0, none⟩ = some (.slice ag nX cg) := Y15.out.g0.cell 0
    go_wp2_with fail
    refine Calls.mono (eqTerm_tt Y15.out.tg Y15.out.tw ELG.out ELW.out HXO.out HNX.out hXl) ?_
    rintro e w16 ⟨rfl, hb16⟩
    have Y16 := kide (Y15.out.later hb16)
    have z16 := hb16.size
    clear hb16 Y15 p15 q15
    have q16 : w16.cell? ⟨w7.heap.size, 0, none⟩ = some (.slice ag nX cg) := Y16.out.g0.cell 0
    have HSH := kide (sh_map ELG.out HXO.out)
    have hlg := len_map ELG.out HNX.out
    go_wp2_with fail
    refine Calls.mono (markTerm_tt w6.heap.size w7.heap.size nX cg 1 ag lsg w16 Y16.out.tg (by omega) HSH.out hlg hXl (by omega)) ?_
    rintro e w17 ⟨rfl, hh17, ho17⟩
    have T17 := kide (Y16.out.t.out ho17 (.inl (by omega)))
    have W17 := kide (Y16.out.w0.out ho17 (.inl (by omega)))
    have N17 := kide (Y16.out.tw.out ho17 (.inl (by omega)))
    have G17 := kide (Y16.out.g0.out ho17 (.inr (Nat.le_refl _)))
    have B17 := kide (Out.bel Y16.out.bel ho17 (by omega))
    have H17 := kide hh17
    have q17 : w17.cell? ⟨w7.heap.size, 0, none⟩ = some (.slice ag nX cg) := G17.out.cell 0
    have HHL := kide (fun u (hu : HeldTv u (.slice ag nX cg) lsg 1) => heldTerm_ts nX cg 1 ag lsg u hu HSH.out hlg hXl (by omega))
    obtain ⟨V, hV⟩ : ∃ V, mkT lsg 1 lsg.length = V := ⟨_, rfl⟩
    rw [hV] at HHL
    rw [hV]
    have hv0 : ¬ (V : Int) < 0 := by omega
    have hvv : ((V : Int) != (V : Int)) = false := by simp
    clear ho17 hh17 Y16 q16 hlg hV
    go_wp2_with fail
    refine Calls.mono (HHL.out w17 H17.out) ?_
    rintro e w18 ⟨rfl, hb18⟩
    have XTS := kide (T17.out.later hb18)
    have W18 := kide (W17.out.later hb18)
    have N18 := kide (N17.out.later hb18)
    have G18 := kide (G17.out.later hb18)
    have BVS := kide (B17.out.trans (hb18.mono B17.out.size))
    have H18 := kide (H17.out.later hb18)
    clear hb18 T17 W17 N17 G17 B17 H17 q17
    have c18 : w18.cell? ⟨w.heap.size, 0, none⟩ = some (.slice b n c2) := XTS.out.cell 0
    have hws18 : w.heap.size < w18.heap.size := XTS.out.lt
    go_wp2_with fail
    apply share5 (F := fun v bN aw cw ls gd gt => Below w18.heap.size w18 v ∧ Bz v bN #[Value.slice aw nX cw] 30 ∧ Ts v w18.heap.size (.slice aw nX cw) ls ∧ ls.map Tg.ct = X ∧ w18.heap.size ≤ bN)
    · skip
      intro key
      refine wp_region_x (SA := fun _ => False) (SB := fun z => z.cell? ⟨w.heap.size, 0, none⟩ = some (Value.slice b n c2)) (k := 999) (by kernel_rfl) ?_
      have hbd : Below w18.heap.size w18 w18.drew := (Below.refl _ _).drew
      have XT0 := kide (XTS.out.later hbd)
      have BS0 := kide hbd
      have BV0 := kide (BVS.out.drew)
      clear hbd
      generalize w18.drew = v0 at *
      have hs0 : Hid ((fun z => z.cell? ⟨w.heap.size, 0, none⟩ = some (Value.slice b n c2)) v0) := XT0.out.cell 0
      try go_simp
      refine wpAnyX_both (T := fun z => z.cell? ⟨w.heap.size, 0, none⟩ = some (Value.slice b n c2)) (i := 0) (v := Value.slice a ds.length c) rfl (by kernel_rfl) (by kernel_rfl) (by kernel_rfl) (fun _ _ _ h => by first | exact h | exact h.elim) (by decide) (fun _ h => h.elim) (fun _ h => h) (Sx.behind (by kernel_rfl) hs0.out) (Or.inl ⟨by rfl, fun z hz => by go_simp⟩) ?_
      try go_simp
      refine wpAnyX_both (T := fun z => z.cell? ⟨w.heap.size, 0, none⟩ = some (Value.slice b n c2)) (i := 2) (v := Value.agg #[Value.slice b n c2]) rfl (by kernel_rfl) (by kernel_rfl) (by kernel_rfl) (fun _ _ _ h => by first | exact h | exact h.elim) (by decide) (fun _ h => h.elim) (fun _ h => h) (Sx.behind (by kernel_rfl) hs0.out) (Or.inl ⟨by rfl, fun z hz => by go_simp⟩) ?_
      try go_simp
      refine wpAnyX_ready (rs := [1, 5]) (by kernel_rfl) (by simp) (AllX.cons rfl (fun K hK => ?_) (AllX.cons rfl (fun K hK => ?_) AllX.nil))
      · go_simp
        refine Calls.mono (HTD.out v0 BV0.out) ?_
        rintro e v1 ⟨rfl, rd, -, hb1⟩
        have XT1 := kide (XT0.out.later hb1)
        have BS1 := kide (BS0.out.trans (hb1.mono BS0.out.size))
        have BV1 := kide (BV0.out.trans (hb1.mono BV0.out.size))
        obtain ⟨gd, hgd⟩ : ∃ x, v0.heap.size = x := ⟨_, rfl⟩
        rw [hgd] at rd ⊢
        have RD1 := kide rd
        clear rd hgd hb1
        have hs1 : Hid ((fun z => z.cell? ⟨w.heap.size, 0, none⟩ = some (Value.slice b n c2)) v1) := XT1.out.cell 0
        refine hK _ _ (Sx.behind (by kernel_rfl) hs1.out) ?_
        clear hK K
        try go_simp
        refine wpAnyX_ready (rs := [3, 5]) (by kernel_rfl) (by simp) (AllX.cons rfl (fun K hK => ?_) (AllX.cons rfl (fun K hK => ?_) AllX.nil))
        · go_simp
          refine Calls.mono (HTT.out v1 BV1.out) ?_
          rintro e v2 ⟨gt, mt, rfl, hmt, hsn, rt, hb2⟩
          have XT2 := kide (XT1.out.later hb2)
          have RD2 := kide (RD1.out.later hb2)
          have BS2 := kide (BS1.out.trans (hb2.mono BS1.out.size))
          have BV2 := kide (BV1.out.trans (hb2.mono BV1.out.size))
          have RT2 := kide rt
          have MT := kide hmt
          have SN := kide hsn
          clear rt hmt hsn hb2
          have hs2 : Hid ((fun z => z.cell? ⟨w.heap.size, 0, none⟩ = some (Value.slice b n c2)) v2) := XT2.out.cell 0
          refine hK _ _ (Sx.behind (by kernel_rfl) hs2.out) ?_
          clear hK K
          try go_simp
          refine wpAnyX_ready (rs := [4, 5]) (by kernel_rfl) (by simp) (AllX.cons rfl (fun K hK => ?_) (AllX.cons rfl (fun K hK => ?_) AllX.nil))
          · go_simp
            refine Calls.mono (HIE.out v2 gd gt mt BV2.out RD2.out RT2.out MT.out SN.out) ?_
            rintro e v3 ⟨aw, cw, ls, rfl, hts, hel, hb3⟩
            have XT3 := kide (XT2.out.later hb3)
            have RD3 := kide (RD2.out.later hb3)
            have RT3 := kide (RT2.out.later hb3)
            have BS3 := kide (BS2.out.trans (hb3.mono BS2.out.size))
            have BV3 := kide (BV2.out.trans (hb3.mono BV2.out.size))
            have TW3 : Hid (Ts v3 w18.heap.size (.slice aw nX cw) ls) := hts.mono BS2.out.size
            have EL := kide hel
            clear hts hel hb3
            have hs3 : Hid ((fun z => z.cell? ⟨w.heap.size, 0, none⟩ = some (Value.slice b n c2)) v3) := XT3.out.cell 0
            refine hK _ _ (Sx.behind (by kernel_rfl) hs3.out) ?_
            clear hK K
            try go_simp
            refine wpAnyX_ready (rs := [5]) (by kernel_rfl) (by simp) (AllX.cons rfl (fun K hK => ?_) AllX.nil)
            go_simp
            have hbx : Below v3.heap.size v3 (v3.alloc (Obj.cells #[Value.slice none 0 0] 30)) := (Below.refl _ _).alloc (Nat.le_refl _) _
            have XT4 := kide (XT3.out.later hbx)
            have RD4 := kide (RD3.out.later hbx)
            have RT4 := kide (RT3.out.later hbx)
            have TW4 := kide (TW3.out.later hbx)
            have BS4 := kide (BS3.out.trans (hbx.mono BS3.out.size))
            have BV4 := kide (BV3.out.trans (hbx.mono BV3.out.size))
            have XN4 := kide (Bz.new v3 #[Value.slice none 0 0] 30)
            have hN : Hid (w18.heap.size ≤ v3.heap.size) := BS3.out.size
            obtain ⟨bN, hbN⟩ : ∃ x, v3.heap.size = x := ⟨_, rfl⟩
            rw [hbN] at XN4 hN ⊢
            clear hbN hbx
            generalize v3.alloc (Obj.cells #[Value.slice none 0 0] 30) = v4 at *
            have hs4 : Hid ((fun z => z.cell? ⟨w.heap.size, 0, none⟩ = some (Value.slice b n c2)) v4) := XT4.out.cell 0
            refine hK _ _ (Sx.behind (by kernel_rfl) hs4.out) ?_
            clear hK K
            try go_simp
            refine wpAnyX_ready (rs := [6]) (by kernel_rfl) (by simp) (AllX.cons rfl (fun K hK => ?_) AllX.nil)
            have e8 := XN4.out.cell 0
            have f8 := XN4.out.froz 0
            simp at e8
            go_simp
            have XN5 : Hid (Bz (v4.setCell ⟨bN, 0, none⟩ (Value.slice aw nX cw)) bN #[Value.slice aw nX cw] 30) := XN4.out.set 0 _
            have XT5 : Hid (Bz (v4.setCell ⟨bN, 0, none⟩ (Value.slice aw nX cw)) (w.heap.size) #[Value.slice b n c2] 25) := XT4.out.other (by have := hN.out; omega) 0 _
            have BS5 : Hid (Below w18.heap.size w18 (v4.setCell ⟨bN, 0, none⟩ (Value.slice aw nX cw))) := BS4.out.setCell (show w18.heap.size ≤ bN from hN.out) _
            have BV5 : Hid (Below w.heap.size w (v4.setCell ⟨bN, 0, none⟩ (Value.slice aw nX cw))) := BV4.out.setCell (show w.heap.size ≤ bN by have := hN.out; omega) _
            have TW5 : Hid (Ts (v4.setCell ⟨bN, 0, none⟩ (Value.slice aw nX cw)) w18.heap.size (Value.slice aw nX cw) ls) := ⟨TW4.out.row.move (fun b hb => heap_setCell_other _ _ _ _ (fun e => by simp at e; subst e; exact nsvN XN4.out (by decide) TW4.out.row hb.symm)), fun x hx => nw_set (TW4.out.wn x hx) XN4.out (by decide) 0 _, fun x hx => ni_set (TW4.out.kn x hx) XN4.out (by decide) 0 _, TW4.out.wd, TW4.out.kd⟩
            generalize v4.setCell ⟨bN, 0, none⟩ (Value.slice aw nX cw) = v5 at *
            clear e8 f8
            have hs5 : Hid ((fun z => z.cell? ⟨w.heap.size, 0, none⟩ = some (Value.slice b n c2)) v5) := XT5.out.cell 0
            refine hK _ _ (Sx.behind (by kernel_rfl) hs5.out) ?_
            clear hK K
            try go_simp
            refine wpAnyX_done (by kernel_rfl) ?_ _
            try go_simp
            exact key v5 bN aw cw ls gd gt ⟨BS5.out, XN5.out, TW5.out, EL.out, hN.out⟩
          · go_simp
            have hbx : Below v2.heap.size v2 (v2.alloc (Obj.cells #[Value.slice none 0 0] 30)) := (Below.refl _ _).alloc (Nat.le_refl _) _
            have XT3 := kide (XT2.out.later hbx)
            have RD3 := kide (RD2.out.later hbx)
            have RT3 := kide (RT2.out.later hbx)
            have BS3 := kide (BS2.out.trans (hbx.mono BS2.out.size))
            have BV3 := kide (BV2.out.trans (hbx.mono BV2.out.size))
            have XN3 := kide (Bz.new v2 #[Value.slice none 0 0] 30)
            have hN : Hid (w18.heap.size ≤ v2.heap.size) := BS2.out.size
            obtain ⟨bN, hbN⟩ : ∃ x, v2.heap.size = x := ⟨_, rfl⟩
            rw [hbN] at XN3 hN ⊢
            clear hbN hbx
            generalize v2.alloc (Obj.cells #[Value.slice none 0 0] 30) = v3 at *
            have hs3 : Hid ((fun z => z.cell? ⟨w.heap.size, 0, none⟩ = some (Value.slice b n c2)) v3) := XT3.out.cell 0
            refine hK _ _ (Sx.behind (by kernel_rfl) hs3.out) ?_
            clear hK K
            try go_simp
            refine wpAnyX_ready (rs := [4]) (by kernel_rfl) (by simp) (AllX.cons rfl (fun K hK => ?_) AllX.nil)
            go_simp
            refine Calls.mono (HIE.out v3 gd gt mt BV3.out RD3.out RT3.out MT.out SN.out) ?_
            rintro e v4 ⟨aw, cw, ls, rfl, hts, hel, hb4⟩
            have XT4 := kide (XT3.out.later hb4)
            have RD4 := kide (RD3.out.later hb4)
            have RT4 := kide (RT3.out.later hb4)
            have XN4 := kide (XN3.out.later hb4)
            have BS4 := kide (BS3.out.trans (hb4.mono BS3.out.size))
            have BV4 := kide (BV3.out.trans (hb4.mono BV3.out.size))
            have TW4 : Hid (Ts v4 w18.heap.size (.slice aw nX cw) ls) := hts.mono BS3.out.size
            have EL := kide hel
            clear hts hel hb4
            have hs4 : Hid ((fun z => z.cell? ⟨w.heap.size, 0, none⟩ = some (Value.slice b n c2)) v4) := XT4.out.cell 0
            refine hK _ _ (Sx.behind (by kernel_rfl) hs4.out) ?_
            clear hK K
            try go_simp
            refine wpAnyX_ready (rs := [6]) (by kernel_rfl) (by simp) (AllX.cons rfl (fun K hK => ?_) AllX.nil)
            have e8 := XN4.out.cell 0
            have f8 := XN4.out.froz 0
            simp at e8
            go_simp
            have XN5 : Hid (Bz (v4.setCell ⟨bN, 0, none⟩ (Value.slice aw nX cw)) bN #[Value.slice aw nX cw] 30) := XN4.out.set 0 _
            have XT5 : Hid (Bz (v4.setCell ⟨bN, 0, none⟩ (Value.slice aw nX cw)) (w.heap.size) #[Value.slice b n c2] 25) := XT4.out.other (by have := hN.out; omega) 0 _
            have BS5 : Hid (Below w18.heap.size w18 (v4.setCell ⟨bN, 0, none⟩ (Value.slice aw nX cw))) := BS4.out.setCell (show w18.heap.size ≤ bN from hN.out) _
            have BV5 : Hid (Below w.heap.size w (v4.setCell ⟨bN, 0, none⟩ (Value.slice aw nX cw))) := BV4.out.setCell (show w.heap.size ≤ bN by have := hN.out; omega) _
            have TW5 : Hid (Ts (v4.setCell ⟨bN, 0, none⟩ (Value.slice aw nX cw)) w18.heap.size (Value.slice aw nX cw) ls) := ⟨TW4.out.row.move (fun b hb => heap_setCell_other _ _ _ _ (fun e => by simp at e; subst e; exact nsvN XN4.out (by decide) TW4.out.row hb.symm)), fun x hx => nw_set (TW4.out.wn x hx) XN4.out (by decide) 0 _, fun x hx => ni_set (TW4.out.kn x hx) XN4.out (by decide) 0 _, TW4.out.wd, TW4.out.kd⟩
            generalize v4.setCell ⟨bN, 0, none⟩ (Value.slice aw nX cw) = v5 at *
            clear e8 f8
            have hs5 : Hid ((fun z => z.cell? ⟨w.heap.size, 0, none⟩ = some (Value.slice b n c2)) v5) := XT5.out.cell 0
            refine hK _ _ (Sx.behind (by kernel_rfl) hs5.out) ?_
            clear hK K
            try go_simp
            refine wpAnyX_done (by kernel_rfl) ?_ _
            try go_simp
            exact key v5 bN aw cw ls gd gt ⟨BS5.out, XN5.out, TW5.out, EL.out, hN.out⟩
        · go_simp
          have hbx : Below v1.heap.size v1 (v1.alloc (Obj.cells #[Value.slice none 0 0] 30)) := (Below.refl _ _).alloc (Nat.le_refl _) _
          have XT2 := kide (XT1.out.later hbx)
          have RD2 := kide (RD1.out.later hbx)
          have BS2 := kide (BS1.out.trans (hbx.mono BS1.out.size))
          have BV2 := kide (BV1.out.trans (hbx.mono BV1.out.size))
          have XN2 := kide (Bz.new v1 #[Value.slice none 0 0] 30)
          have hN : Hid (w18.heap.size ≤ v1.heap.size) := BS1.out.size
          obtain ⟨bN, hbN⟩ : ∃ x, v1.heap.size = x := ⟨_, rfl⟩
          rw [hbN] at XN2 hN ⊢
          clear hbN hbx
          generalize v1.alloc (Obj.cells #[Value.slice none 0 0] 30) = v2 at *
          have hs2 : Hid ((fun z => z.cell? ⟨w.heap.size, 0, none⟩ = some (Value.slice b n c2)) v2) := XT2.out.cell 0
          refine hK _ _ (Sx.behind (by kernel_rfl) hs2.out) ?_
          clear hK K
          try go_simp
          refine wpAnyX_ready (rs := [3]) (by kernel_rfl) (by simp) (AllX.cons rfl (fun K hK => ?_) AllX.nil)
          go_simp
          refine Calls.mono (HTT.out v2 BV2.out) ?_
          rintro e v3 ⟨gt, mt, rfl, hmt, hsn, rt, hb3⟩
          have XT3 := kide (XT2.out.later hb3)
          have RD3 := kide (RD2.out.later hb3)
          have XN3 := kide (XN2.out.later hb3)
          have BS3 := kide (BS2.out.trans (hb3.mono BS2.out.size))
          have BV3 := kide (BV2.out.trans (hb3.mono BV2.out.size))
          have RT3 := kide rt
          have MT := kide hmt
          have SN := kide hsn
          clear rt hmt hsn hb3
          have hs3 : Hid ((fun z => z.cell? ⟨w.heap.size, 0, none⟩ = some (Value.slice b n c2)) v3) := XT3.out.cell 0
          refine hK _ _ (Sx.behind (by kernel_rfl) hs3.out) ?_
          clear hK K
          try go_simp
          refine wpAnyX_ready (rs := [4]) (by kernel_rfl) (by simp) (AllX.cons rfl (fun K hK => ?_) AllX.nil)
          go_simp
          refine Calls.mono (HIE.out v3 gd gt mt BV3.out RD3.out RT3.out MT.out SN.out) ?_
          rintro e v4 ⟨aw, cw, ls, rfl, hts, hel, hb4⟩
          have XT4 := kide (XT3.out.later hb4)
          have RD4 := kide (RD3.out.later hb4)
          have XN4 := kide (XN3.out.later hb4)
          have RT4 := kide (RT3.out.later hb4)
          have BS4 := kide (BS3.out.trans (hb4.mono BS3.out.size))
          have BV4 := kide (BV3.out.trans (hb4.mono BV3.out.size))
          have TW4 : Hid (Ts v4 w18.heap.size (.slice aw nX cw) ls) := hts.mono BS3.out.size
          have EL := kide hel
          clear hts hel hb4
          have hs4 : Hid ((fun z => z.cell? ⟨w.heap.size, 0, none⟩ = some (Value.slice b n c2)) v4) := XT4.out.cell 0
          refine hK _ _ (Sx.behind (by kernel_rfl) hs4.out) ?_
          clear hK K
          try go_simp
          refine wpAnyX_ready (rs := [6]) (by kernel_rfl) (by simp) (AllX.cons rfl (fun K hK => ?_) AllX.nil)
          have e8 := XN4.out.cell 0
          have f8 := XN4.out.froz 0
          simp at e8
          go_simp
          have XN5 : Hid (Bz (v4.setCell ⟨bN, 0, none⟩ (Value.slice aw nX cw)) bN #[Value.slice aw nX cw] 30) := XN4.out.set 0 _
          have XT5 : Hid (Bz (v4.setCell ⟨bN, 0, none⟩ (Value.slice aw nX cw)) (w.heap.size) #[Value.slice b n c2] 25) := XT4.out.other (by have := hN.out; omega) 0 _
          have BS5 : Hid (Below w18.heap.size w18 (v4.setCell ⟨bN, 0, none⟩ (Value.slice aw nX cw))) := BS4.out.setCell (show w18.heap.size ≤ bN from hN.out) _
          have BV5 : Hid (Below w.heap.size w (v4.setCell ⟨bN, 0, none⟩ (Value.slice aw nX cw))) := BV4.out.setCell (show w.heap.size ≤ bN by have := hN.out; omega) _
          have TW5 : Hid (Ts (v4.setCell ⟨bN, 0, none⟩ (Value.slice aw nX cw)) w18.heap.size (Value.slice aw nX cw) ls) := ⟨TW4.out.row.move (fun b hb => heap_setCell_other _ _ _ _ (fun e => by simp at e; subst e; exact nsvN XN4.out (by decide) TW4.out.row hb.symm)), fun x hx => nw_set (TW4.out.wn x hx) XN4.out (by decide) 0 _, fun x hx => ni_set (TW4.out.kn x hx) XN4.out (by decide) 0 _, TW4.out.wd, TW4.out.kd⟩
          generalize v4.setCell ⟨bN, 0, none⟩ (Value.slice aw nX cw) = v5 at *
          clear e8 f8
          have hs5 : Hid ((fun z => z.cell? ⟨w.heap.size, 0, none⟩ = some (Value.slice b n c2)) v5) := XT5.out.cell 0
          refine hK _ _ (Sx.behind (by kernel_rfl) hs5.out) ?_
          clear hK K
          try go_simp
          refine wpAnyX_done (by kernel_rfl) ?_ _
          try go_simp
          exact key v5 bN aw cw ls gd gt ⟨BS5.out, XN5.out, TW5.out, EL.out, hN.out⟩
      · go_simp
        have hbx : Below v0.heap.size v0 (v0.alloc (Obj.cells #[Value.slice none 0 0] 30)) := (Below.refl _ _).alloc (Nat.le_refl _) _
        have XT1 := kide (XT0.out.later hbx)
        have BS1 := kide (BS0.out.trans (hbx.mono BS0.out.size))
        have BV1 := kide (BV0.out.trans (hbx.mono BV0.out.size))
        have XN1 := kide (Bz.new v0 #[Value.slice none 0 0] 30)
        have hN : Hid (w18.heap.size ≤ v0.heap.size) := BS0.out.size
        obtain ⟨bN, hbN⟩ : ∃ x, v0.heap.size = x := ⟨_, rfl⟩
        rw [hbN] at XN1 hN ⊢
        clear hbN hbx
        generalize v0.alloc (Obj.cells #[Value.slice none 0 0] 30) = v1 at *
        have hs1 : Hid ((fun z => z.cell? ⟨w.heap.size, 0, none⟩ = some (Value.slice b n c2)) v1) := XT1.out.cell 0
        refine hK _ _ (Sx.behind (by kernel_rfl) hs1.out) ?_
        clear hK K
        try go_simp
        refine wpAnyX_ready (rs := [1]) (by kernel_rfl) (by simp) (AllX.cons rfl (fun K hK => ?_) AllX.nil)
        go_simp
        refine Calls.mono (HTD.out v1 BV1.out) ?_
        rintro e v2 ⟨rfl, rd, -, hb2⟩
        have XT2 := kide (XT1.out.later hb2)
        have XN2 := kide (XN1.out.later hb2)
        have BS2 := kide (BS1.out.trans (hb2.mono BS1.out.size))
        have BV2 := kide (BV1.out.trans (hb2.mono BV1.out.size))
        obtain ⟨gd, hgd⟩ : ∃ x, v1.heap.size = x := ⟨_, rfl⟩
        rw [hgd] at rd ⊢
        have RD2 := kide rd
        clear rd hgd hb2
        have hs2 : Hid ((fun z => z.cell? ⟨w.heap.size, 0, none⟩ = some (Value.slice b n c2)) v2) := XT2.out.cell 0
        refine hK _ _ (Sx.behind (by kernel_rfl) hs2.out) ?_
        clear hK K
        try go_simp
        refine wpAnyX_ready (rs := [3]) (by kernel_rfl) (by simp) (AllX.cons rfl (fun K hK => ?_) AllX.nil)
        go_simp
        refine Calls.mono (HTT.out v2 BV2.out) ?_
        rintro e v3 ⟨gt, mt, rfl, hmt, hsn, rt, hb3⟩
        have XT3 := kide (XT2.out.later hb3)
        have XN3 := kide (XN2.out.later hb3)
        have RD3 := kide (RD2.out.later hb3)
        have BS3 := kide (BS2.out.trans (hb3.mono BS2.out.size))
        have BV3 := kide (BV2.out.trans (hb3.mono BV2.out.size))
        have RT3 := kide rt
        have MT := kide hmt
        have SN := kide hsn
        clear rt hmt hsn hb3
        have hs3 : Hid ((fun z => z.cell? ⟨w.heap.size, 0, none⟩ = some (Value.slice b n c2)) v3) := XT3.out.cell 0
        refine hK _ _ (Sx.behind (by kernel_rfl) hs3.out) ?_
        clear hK K
        try go_simp
        refine wpAnyX_ready (rs := [4]) (by kernel_rfl) (by simp) (AllX.cons rfl (fun K hK => ?_) AllX.nil)
        go_simp
        refine Calls.mono (HIE.out v3 gd gt mt BV3.out RD3.out RT3.out MT.out SN.out) ?_
        rintro e v4 ⟨aw, cw, ls, rfl, hts, hel, hb4⟩
        have XT4 := kide (XT3.out.later hb4)
        have XN4 := kide (XN3.out.later hb4)
        have RD4 := kide (RD3.out.later hb4)
        have RT4 := kide (RT3.out.later hb4)
        have BS4 := kide (BS3.out.trans (hb4.mono BS3.out.size))
        have BV4 := kide (BV3.out.trans (hb4.mono BV3.out.size))
        have TW4 : Hid (Ts v4 w18.heap.size (.slice aw nX cw) ls) := hts.mono BS3.out.size
        have EL := kide hel
        clear hts hel hb4
        have hs4 : Hid ((fun z => z.cell? ⟨w.heap.size, 0, none⟩ = some (Value.slice b n c2)) v4) := XT4.out.cell 0
        refine hK _ _ (Sx.behind (by kernel_rfl) hs4.out) ?_
        clear hK K
        try go_simp
        refine wpAnyX_ready (rs := [6]) (by kernel_rfl) (by simp) (AllX.cons rfl (fun K hK => ?_) AllX.nil)
        have e8 := XN4.out.cell 0
        have f8 := XN4.out.froz 0
        simp at e8
        go_simp
        have XN5 : Hid (Bz (v4.setCell ⟨bN, 0, none⟩ (Value.slice aw nX cw)) bN #[Value.slice aw nX cw] 30) := XN4.out.set 0 _
        have XT5 : Hid (Bz (v4.setCell ⟨bN, 0, none⟩ (Value.slice aw nX cw)) (w.heap.size) #[Value.slice b n c2] 25) := XT4.out.other (by have := hN.out; omega) 0 _
        have BS5 : Hid (Below w18.heap.size w18 (v4.setCell ⟨bN, 0, none⟩ (Value.slice aw nX cw))) := BS4.out.setCell (show w18.heap.size ≤ bN from hN.out) _
        have BV5 : Hid (Below w.heap.size w (v4.setCell ⟨bN, 0, none⟩ (Value.slice aw nX cw))) := BV4.out.setCell (show w.heap.size ≤ bN by have := hN.out; omega) _
        have TW5 : Hid (Ts (v4.setCell ⟨bN, 0, none⟩ (Value.slice aw nX cw)) w18.heap.size (Value.slice aw nX cw) ls) := ⟨TW4.out.row.move (fun b hb => heap_setCell_other _ _ _ _ (fun e => by simp at e; subst e; exact nsvN XN4.out (by decide) TW4.out.row hb.symm)), fun x hx => nw_set (TW4.out.wn x hx) XN4.out (by decide) 0 _, fun x hx => ni_set (TW4.out.kn x hx) XN4.out (by decide) 0 _, TW4.out.wd, TW4.out.kd⟩
        generalize v4.setCell ⟨bN, 0, none⟩ (Value.slice aw nX cw) = v5 at *
        clear e8 f8
        have hs5 : Hid ((fun z => z.cell? ⟨w.heap.size, 0, none⟩ = some (Value.slice b n c2)) v5) := XT5.out.cell 0
        refine hK _ _ (Sx.behind (by kernel_rfl) hs5.out) ?_
        clear hK K
        try go_simp
        refine wpAnyX_done (by kernel_rfl) ?_ _
        try go_simp
        exact key v5 bN aw cw ls gd gt ⟨BS5.out, XN5.out, TW5.out, EL.out, hN.out⟩
    · intro w19 bh ah ch lsh gd1 gt1 hF
      obtain ⟨hb19, xh, th, elh, hlh⟩ := hF
      have W19 := kide (W18.out.later hb19)
      have N19 := kide (N18.out.later hb19)
      have G19 := kide (G18.out.later hb19)
      have B19 := kide (BVS.out.trans (hb19.mono BVS.out.size))
      have H19 := kide (H18.out.later hb19)
      have TH := kide (Tt.of th)
      have ELH := kide elh
      have h0 : w19.cell? ⟨bh, 0, none⟩ = some (.slice ah nX ch) := xh.cell 0
      have p19 : w19.cell? ⟨bw, 0, none⟩ = some (.slice aw nX cw) := W19.out.cell 0
      clear hb19 xh th elh XTS BVS W18 N18 G18 H18 c18
      go_wp2_with fail
      refine Calls.mono (eqTerm_tt TH.out N19.out ELH.out ELW.out HXO.out HNX.out hXl) ?_
      rintro e w20 ⟨rfl, hb20⟩
      have G20 := kide (G19.out.later hb20)
      have B20 := kide (B19.out.trans (hb20.mono B19.out.size))
      have H20 := kide (H19.out.later hb20)
      have q20 : w20.cell? ⟨w7.heap.size, 0, none⟩ = some (.slice ag nX cg) := G20.out.cell 0
      clear hb20 W19 N19 G19 B19 H19 TH ELH h0 p19
      go_wp2_with fail
      refine Calls.mono (HHL.out w20 H20.out) ?_
      rintro e w21 ⟨rfl, hb21⟩
      have B21 := kide (B20.out.trans (hb21.mono B20.out.size))
      clear hb21
      go_wp2_with fail
      go_ret
      exact ⟨rfl, B21.out⟩

theorem law_no_FnExactShare (a b : Option Addr) (n c n2 c2 : Nat) (w : World) (Z Z2 : Int) (h : Z < 0 ∨ 0 ≤ Z ∧ Z2 < 0)
    (HSZ : Hid (∀ u, Below w.heap.size w u → Calls Tryd.prog 4 #[.slice a n c, .int .i64 1048576] u fun e w' => e = .returned (.int .i64 Z) ∧ Below u.heap.size u w'))
    (HSC : Hid (0 ≤ Z → ∀ u, Below w.heap.size w u → Calls Tryd.prog 5 #[.agg #[.slice b n2 c2], .int .i64 Z] u fun e w' => e = .returned (.int .i64 Z2) ∧ Below u.heap.size u w')) :
    Calls Tryd.prog 3 #[.slice a n c, .agg #[.slice b n2 c2]] w fun e w' => e = .returned (.bool true) ∧ Below w.heap.size w w' := by
  have s0 := Bq.start w (.slice b n2 c2) 25
  rcases h with h | ⟨h, h2⟩
  · go_enter Tryd.func3, Tryd.ntmps3
    go_wp2_with fail
    refine Calls.mono (HSZ.out _ s0.below) ?_
    rintro e w1 ⟨rfl, hb1⟩
    have s1 := s0.next hb1
    go_wp2_with fail
    go_ret
    exact ⟨rfl, s1.below⟩
  · go_enter Tryd.func3, Tryd.ntmps3
    go_wp2_with fail
    refine Calls.mono (HSZ.out _ s0.below) ?_
    rintro e w1 ⟨rfl, hb1⟩
    have s1 := s0.next hb1
    have c1 := s1.cell
    go_wp2_with fail
    refine Calls.mono (HSC.out h w1 s1.below) ?_
    rintro e w2 ⟨rfl, hb2⟩
    have s2 := s1.next hb2
    go_wp2_with fail
    go_ret
    exact ⟨rfl, s2.below⟩

theorem walk_FnExactShare (a : Option Addr) (n c : Nat) (hn : n ≤ 9223372036854775807) (b : Option Addr) (n2 c2 : Nat) (hn2 : n2 ≤ 9223372036854775807) (w : World) (hG : GF w)
    (hx : n ≤ 1048576 → ∃ ds : List Dc, ds.length = n ∧ RdD w a ds) (hy : n2 ≤ 1048576 → ∃ hs : List Th, hs.length = n2 ∧ RdTh w b hs ∧ ∀ h ∈ hs, NodeOf w h) :
    Calls Tryd.prog 3 #[.slice a n c, .agg #[.slice b n2 c2]] w fun e w' => e = .returned (.bool true) ∧ Below w.heap.size w w' := by
  obtain ⟨Z, Z2, h1, h2, h3⟩ := sizes_term a b n c n2 c2 w hn hn2 hx hy
  by_cases hz : Z < 0
  · exact law_no_FnExactShare a b n c n2 c2 w Z Z2 (.inl hz) h1 h2
  by_cases hz2 : Z2 < 0
  · exact law_no_FnExactShare a b n c n2 c2 w Z Z2 (.inr ⟨by omega, hz2⟩) h1 h2
  obtain ⟨ds, xs, rfl, hxl, hr, hs⟩ := h3 (by omega) (by omega)
  exact law_yes_FnExactShare a b c c2 n2 ds xs w hr hs hxl hG Z Z2 (by omega) (by omega) h1 (h2 (by omega))

end Go.Proofs.YtemdnbldeeifnaaDoor
