/- The law FnExactNormal returns true, whatever it is handed. -/
import Derived.Test.YtnpjgoklpaigjaaGreatDoorGAB
import Derived.Test.YtnpjgoklpaigjaaGreatDoorGBB
import Derived.Test.YtnpjgoklpaigjaaGreatDoorGBE
import Derived.Test.YtnpjgoklpaigjaaGreatDoorGBD
import Derived.Test.YtnpjgoklpaigjaaGreatDoorFLV
namespace Go.Proofs.YtnpjgoklpaigjaaGreatDoor
set_option linter.unusedVariables false
set_option linter.unusedSimpArgs false
open Go.RowKit

structure Rq (w ws : World) (b0 n c2 : Nat) (b : Option Addr) (v : World) : Prop where
 t : Bz v b0 #[.slice b n c2] 25
 s : Below ws.heap.size ws v
 v : Below w.heap.size w v
theorem Rq.later {w ws : World} {b0 n c2 : Nat} {b : Option Addr} {v v' : World} (h : Rq w ws b0 n c2 b v) (hb : Below v.heap.size v v') : Rq w ws b0 n c2 b v' := ⟨h.t.later hb, h.s.trans (hb.mono h.s.size), h.v.trans (hb.mono h.v.size)⟩
theorem Rq.c {w ws : World} {b0 n c2 : Nat} {b : Option Addr} {v : World} (h : Rq w ws b0 n c2 b v) : v.cell? ⟨b0, 0, none⟩ = some (Value.slice b n c2) := h.t.cell 0
theorem rq_store {w ws v : World} {b0 n c2 bN nX cw : Nat} {b aw : Option Addr} {ls : List Tg} {z : Value} (h : Rq w ws b0 n c2 b v) (hX : Bz v bN #[z] 30) (hT : Ts v ws.heap.size (.slice aw nX cw) ls) (h1 : ws.heap.size ≤ bN) (h2 : b0 < ws.heap.size) (h3 : w.heap.size = b0) : Rq w ws b0 n c2 b (v.setCell ⟨bN, 0, none⟩ (.slice aw nX cw)) ∧ Bz (v.setCell ⟨bN, 0, none⟩ (.slice aw nX cw)) bN #[.slice aw nX cw] 30 ∧ Ts (v.setCell ⟨bN, 0, none⟩ (.slice aw nX cw)) ws.heap.size (.slice aw nX cw) ls :=
 ⟨⟨h.t.other (by omega) 0 _, h.s.setCell h1 _, h.v.setCell (show w.heap.size ≤ bN by omega) _⟩, hX.set 0 _, ts_setU hT hX (by decide) (by decide) (by decide) 0 _⟩
set_option maxHeartbeats 16000000 in
set_option maxRecDepth 100000 in
theorem law_yes_FnExactNormal (a b : Option Addr) (c c2 n : Nat) (ds : List Dc) (xs : List Tg) (w : World) (hr : RdD w a ds) (hxs : RdT w b xs) (hn : xs.length = n) (hG : GF w) (Z Z2 : Int)
  (hz : 0 ≤ Z) (hz2 : 0 ≤ Z2)
  (HSZ : Hid (∀ u, Below w.heap.size w u → Calls Tryz.prog 4 #[.slice a ds.length c, .int .i64 1048576] u fun e w' => e = .returned (.int .i64 Z) ∧ Below u.heap.size u w'))
  (HSC : Hid (∀ u, Below w.heap.size w u → Calls Tryz.prog 5 #[.agg #[.slice b n c2], .int .i64 Z] u fun e w' => e = .returned (.int .i64 Z2) ∧ Below u.heap.size u w')) :
  Calls Tryz.prog 3 #[.slice a ds.length c, .agg #[.slice b n c2]] w fun e w' => e = .returned (.bool true) ∧ Below w.heap.size w w' := by
 have HN := kide hn
 have hn2 : n ≤ 1048576 := by rw [← hn]; exact hxs.1
 have hd2 : ds.length ≤ 1048576 := hr.1
 obtain ⟨hXl, hXo⟩ := norR_ok ds hxs.v64 hr.1
 have HXO := kide hXo
 have HTD := kide (fun u (hu : Below w.heap.size w u) => toDeclS_row a c ds u (hr.later hu))
 have HTWT := kide (fun u (hu : Below w.heap.size w u) => toTerm_wr b c2 xs u (hxs.later hu) n hn)
 have HTTT : Hid (∀ u, Below w.heap.size w u → Calls Tryz.prog 8 #[.agg #[.slice b n c2]] u fun e w' => ∃ (g : Nat) (ms : List Tg), e = .returned (.agg #[.slice (some ⟨g, 0, none⟩) n n]) ∧ ms.map Tg.ct = xs.map Tg.ct ∧ Wl w' ms ∧ RdT w' (some ⟨g, 0, none⟩) ms ∧ Below u.heap.size u w') := fun u hu => (HTWT.out u hu).mono (fun e w' ⟨g, ms, h1, h2, _, h4, _, h6, h7⟩ => ⟨g, ms, h1, h2, Wl.of h6 (Nat.le_refl _), h4, h7⟩)
 obtain ⟨X, hX⟩ : ∃ X, (norR ds (xs.map Tg.ct)).1 = X := ⟨_, rfl⟩
 obtain ⟨Q, hQ⟩ : ∃ Q, (norR ds (xs.map Tg.ct)).2 = Q := ⟨_, rfl⟩
 obtain ⟨nX, hnX⟩ : ∃ k, X.length = k := ⟨_, rfl⟩
 have HSE : Hid (∀ (u : World) (gd gt : Nat) (mt : List Tg), Below w.heap.size w u → RdD u (some ⟨gd, 0, none⟩) ds → RdT u (some ⟨gt, 0, none⟩) mt → mt.map Tg.ct = xs.map Tg.ct → Wl u mt → Calls Tryz.prog 6 #[.slice (some ⟨gd, 0, none⟩) ds.length ds.length, .agg #[.slice (some ⟨gt, 0, none⟩) n n]] u fun e w' => ∃ (v : Option Addr) (k : Nat) (l : List Tg), e = .returned (.tuple #[.agg #[.slice v nX k], .bool Q]) ∧ Ts w' u.heap.size (.slice v nX k) l ∧ l.map Tg.ct = X ∧ Below u.heap.size u w') := fun u gd gt mt hu h1 h2 e2 s2 => by
  have h := specNormal_any (some ⟨gd, 0, none⟩) (some ⟨gt, 0, none⟩) ds.length n n ds mt u h1 h2 (len_of_tc e2 hn)
  rw [e2] at h
  refine h.mono ?_
  rintro e w' ⟨v, l, rfl, ht, hl, hb⟩
  obtain ⟨va, vc, rfl⟩ := ht.form
  rw [hX] at hl
  rw [len_map hl hnX] at ht ⊢
  exact ⟨va, vc, l, by rw [hQ], ht, hl, hb⟩
 have HIE : Hid (∀ (u : World) (gd gt : Nat) (mt : List Tg), Below w.heap.size w u → RdD u (some ⟨gd, 0, none⟩) ds → RdT u (some ⟨gt, 0, none⟩) mt → mt.map Tg.ct = xs.map Tg.ct → Wl u mt → Calls Tryz.prog 9 #[.slice (some ⟨gd, 0, none⟩) ds.length ds.length, .agg #[.slice (some ⟨gt, 0, none⟩) n n]] u fun e w' => ∃ (v : Option Addr) (k : Nat) (l : List Tg), e = .returned (.tuple #[.agg #[.slice v nX k], .bool Q]) ∧ Ts w' u.heap.size (.slice v nX k) l ∧ l.map Tg.ct = X ∧ Below u.heap.size u w') := fun u gd gt mt hu h1 h2 e2 s2 => by
  have h := implNormal_any (some ⟨gd, 0, none⟩) (some ⟨gt, 0, none⟩) ds.length n n ds mt u h1 h2 (len_of_tc e2 hn) (hG.later hu) (fun x hx e => by obtain ⟨⟨q, e1, -⟩, -⟩ := s2 x hx; rw [e1] at e; cases e) (fun x hx q hq => by obtain ⟨⟨q', e1, h1⟩, -⟩ := s2 x hx; rw [e1] at hq; cases hq; exact h1) (fun x hx q hq => by obtain ⟨-, q', e1, h1⟩ := s2 x hx; rw [e1] at hq; cases hq; exact h1)
  rw [e2] at h
  refine h.mono ?_
  rintro e w' ⟨v, l, rfl, ht, hl, hb⟩
  obtain ⟨va, vc, rfl⟩ := ht.form
  rw [hX] at hl
  rw [len_map hl hnX] at ht ⊢
  exact ⟨va, vc, l, by rw [hQ], ht, hl, hb⟩
 rw [hX] at HXO hXl
 rw [hnX] at hXl
 have HNX := kide hnX
 have HSM := kide (And.intro hn2 (And.intro hd2 hXl))
 have B0 : Hid (Below w.heap.size w (w.alloc (Obj.cells #[.slice b n c2] 25))) := blA _ _
 have T0 : Hid (Bz (w.alloc (Obj.cells #[.slice b n c2] 25)) w.heap.size #[.slice b n c2] 25) := Bz.new w _ _
 have hqq : (Q != Q) = false := by simp
 clear hr hxs hn hG hXo hX hnX hQ hn2 hd2 hXl
 go_enter Tryz.func3, Tryz.ntmps3
 go_wp2_with fail
 generalize w.alloc (Obj.cells #[.slice b n c2] 25) = w0 at *
 obtain ⟨b0, hb0⟩ : ∃ b0, w.heap.size = b0 := ⟨_, rfl⟩
 have HB0 := kide hb0
 rw [hb0] at T0
 simp only [hb0]
 clear hb0
 refine Calls.mono (HSZ.out _ B0.out) ?_
 rintro e w1 ⟨rfl, hb1⟩
 have T1 := kide (T0.out.later hb1)
 have B1 := kide (B0.out.trans (hb1.mono B0.out.size))
 have c1 := T1.out.cell 0
 simp at c1
 clear hb1 T0 B0
 go_wp2_with fail
 refine Calls.mono (HSC.out w1 B1.out) ?_
 rintro e w2 ⟨rfl, hb2⟩
 have XTS := kide (T1.out.later hb2)
 have BVS := kide (B1.out.trans (hb2.mono B1.out.size))
 have HWS : Hid (b0 < w2.heap.size) := XTS.out.lt
 have c2' := XTS.out.cell 0
 simp at c2'
 clear hb2 T1 B1 c1
 go_wp2_with fail
 apply share5 (F := fun v bN aw cw ls gd gt => Below w2.heap.size w2 v ∧ Bz v bN #[.slice aw nX cw] 30 ∧ Ts v w2.heap.size (.slice aw nX cw) ls ∧ ls.map Tg.ct = X ∧ w2.heap.size ≤ bN)
 ·skip
  intro key
  refine wp_region_x (SA := fun _ => False) (SB := fun z => z.cell? ⟨b0, 0, none⟩ = some (Value.slice b n c2)) (k := 999) (by kernel_rfl) ?_
  have Z0 : Hid (Rq w w2 b0 n c2 b w2.drew) := ⟨XTS.out.later (Below.refl _ _).drew, (Below.refl _ _).drew, BVS.out.drew⟩
  generalize w2.drew = v0 at *
  try go_simp
  refine tkP (i := 0) (v := Value.slice a ds.length c) rfl Z0.out.c ?_
  try go_simp
  refine tkP (i := 2) (v := Value.agg #[.slice b n c2]) rfl Z0.out.c ?_
  try go_simp
  refine rdX (rs := [1, 8]) (cnB rfl (fun K hK => ?_) (cnB rfl (fun K hK => ?_) AllX.nil))
  ·go_simp
   refine Calls.mono (HTD.out v0 Z0.out.v) ?_
   rintro e v1 ⟨rfl, rd, -, hb⟩
   have Z1 := kide (Z0.out.later hb)
   obtain ⟨gd, hgd⟩ : ∃ x, v0.heap.size = x := ⟨_, rfl⟩
   rw [hgd] at rd ⊢
   have RD1 := kide rd
   clear rd hgd hb
   refine hK _ _ Z1.out.c ?_
   clear hK K
   try go_simp
   refine rdX (rs := [3, 8]) (cnB rfl (fun K hK => ?_) (cnB rfl (fun K hK => ?_) AllX.nil))
   ·go_simp
    refine Calls.mono (HTTT.out v1 Z1.out.v) ?_
    rintro e v2 ⟨gt, mt, rfl, hmt, hsn, rt, hb⟩
    have Z2 := kide (Z1.out.later hb)
    have RD2 := kide (RD1.out.later hb)
    have RT2 := kide rt
    have MT := kide hmt
    have WL2 := kide hsn
    clear rt hmt hsn hb
    refine hK _ _ Z2.out.c ?_
    clear hK K
    try go_simp
    refine rdX (rs := [4, 8]) (cnB rfl (fun K hK => ?_) (cnB rfl (fun K hK => ?_) AllX.nil))
    ·go_simp
     refine Calls.mono (HSE.out v2 gd gt mt Z2.out.v RD2.out RT2.out MT.out WL2.out) ?_
     rintro e v3 ⟨aw, cw, ls, rfl, hts, hel, hb⟩
     have Z3 := kide (Z2.out.later hb)
     have TW3 := kide (hts.mono Z2.out.s.size)
     have EL := kide hel
     clear hts hel hb
     refine hK _ _ Z3.out.c ?_
     clear hK K
     try go_simp
     refine tkP (i := 5) (v := Value.tuple #[.agg #[.slice aw nX cw], .bool Q]) rfl Z3.out.c ?_
     try go_simp
     refine tkP (i := 6) (v := Value.agg #[.slice aw nX cw]) rfl Z3.out.c ?_
     try go_simp
     refine tkP (i := 7) (v := Value.bool Q) rfl Z3.out.c ?_
     try go_simp
     refine rdX (rs := [8]) (cnB rfl (fun K hK => ?_) AllX.nil)
     go_simp
     have hb : Below v3.heap.size v3 (v3.alloc (Obj.cells #[.slice none 0 0] 30)) := blA _ _
     have Z4 := kide (Z3.out.later hb)
     have TW4 := kide (TW3.out.later hb)
     have XN4 := kide (Bz.new v3 #[.slice none 0 0] 30)
     have hN := kide Z3.out.s.size
     obtain ⟨bN, hbN⟩ : ∃ x, v3.heap.size = x := ⟨_, rfl⟩
     rw [hbN] at XN4 hN ⊢
     clear hbN hb
     generalize v3.alloc (Obj.cells #[.slice none 0 0] 30) = v4 at *
     refine hK _ _ Z4.out.c ?_
     clear hK K
     try go_simp
     refine rdX (rs := [9]) (cnB rfl (fun K hK => ?_) AllX.nil)
     have e8 := XN4.out.cell 0
     have f8 := XN4.out.froz 0
     simp at e8
     go_simp
     obtain ⟨z1, z2, z3⟩ := rq_store Z4.out XN4.out TW4.out hN.out HWS.out HB0.out
     generalize v4.setCell ⟨bN, 0, none⟩ (Value.slice aw nX cw) = v5 at *
     have Z5 := kide z1
     have XN5 := kide z2
     have TW5 := kide z3
     clear e8 f8 z1 z2 z3
     refine hK _ _ Z5.out.c ?_
     clear hK K
     try go_simp
     refine tkP (i := 10) (v := Value.bool Q) rfl Z5.out.c ?_
     try go_simp
     refine wpAnyX_done (by kernel_rfl) ?_ _
     try go_simp
     exact key v5 bN aw cw ls gd gt ⟨Z5.out.s, XN5.out, TW5.out, EL.out, hN.out⟩
    ·go_simp
     have hb : Below v2.heap.size v2 (v2.alloc (Obj.cells #[.slice none 0 0] 30)) := blA _ _
     have Z3 := kide (Z2.out.later hb)
     have RD3 := kide (RD2.out.later hb)
     have RT3 := kide (RT2.out.later hb)
     have WL3 := kide (WL2.out.later hb)
     have XN3 := kide (Bz.new v2 #[.slice none 0 0] 30)
     have hN := kide Z2.out.s.size
     obtain ⟨bN, hbN⟩ : ∃ x, v2.heap.size = x := ⟨_, rfl⟩
     rw [hbN] at XN3 hN ⊢
     clear hbN hb
     generalize v2.alloc (Obj.cells #[.slice none 0 0] 30) = v3 at *
     refine hK _ _ Z3.out.c ?_
     clear hK K
     try go_simp
     refine rdX (rs := [4]) (cnB rfl (fun K hK => ?_) AllX.nil)
     go_simp
     refine Calls.mono (HSE.out v3 gd gt mt Z3.out.v RD3.out RT3.out MT.out WL3.out) ?_
     rintro e v4 ⟨aw, cw, ls, rfl, hts, hel, hb⟩
     have Z4 := kide (Z3.out.later hb)
     have XN4 := kide (XN3.out.later hb)
     have TW4 := kide (hts.mono Z3.out.s.size)
     have EL := kide hel
     clear hts hel hb
     refine hK _ _ Z4.out.c ?_
     clear hK K
     try go_simp
     refine tkP (i := 5) (v := Value.tuple #[.agg #[.slice aw nX cw], .bool Q]) rfl Z4.out.c ?_
     try go_simp
     refine tkP (i := 6) (v := Value.agg #[.slice aw nX cw]) rfl Z4.out.c ?_
     try go_simp
     refine tkP (i := 7) (v := Value.bool Q) rfl Z4.out.c ?_
     try go_simp
     refine rdX (rs := [9]) (cnB rfl (fun K hK => ?_) AllX.nil)
     have e8 := XN4.out.cell 0
     have f8 := XN4.out.froz 0
     simp at e8
     go_simp
     obtain ⟨z1, z2, z3⟩ := rq_store Z4.out XN4.out TW4.out hN.out HWS.out HB0.out
     generalize v4.setCell ⟨bN, 0, none⟩ (Value.slice aw nX cw) = v5 at *
     have Z5 := kide z1
     have XN5 := kide z2
     have TW5 := kide z3
     clear e8 f8 z1 z2 z3
     refine hK _ _ Z5.out.c ?_
     clear hK K
     try go_simp
     refine tkP (i := 10) (v := Value.bool Q) rfl Z5.out.c ?_
     try go_simp
     refine wpAnyX_done (by kernel_rfl) ?_ _
     try go_simp
     exact key v5 bN aw cw ls gd gt ⟨Z5.out.s, XN5.out, TW5.out, EL.out, hN.out⟩
   ·go_simp
    have hb : Below v1.heap.size v1 (v1.alloc (Obj.cells #[.slice none 0 0] 30)) := blA _ _
    have Z2 := kide (Z1.out.later hb)
    have RD2 := kide (RD1.out.later hb)
    have XN2 := kide (Bz.new v1 #[.slice none 0 0] 30)
    have hN := kide Z1.out.s.size
    obtain ⟨bN, hbN⟩ : ∃ x, v1.heap.size = x := ⟨_, rfl⟩
    rw [hbN] at XN2 hN ⊢
    clear hbN hb
    generalize v1.alloc (Obj.cells #[.slice none 0 0] 30) = v2 at *
    refine hK _ _ Z2.out.c ?_
    clear hK K
    try go_simp
    refine rdX (rs := [3]) (cnB rfl (fun K hK => ?_) AllX.nil)
    go_simp
    refine Calls.mono (HTTT.out v2 Z2.out.v) ?_
    rintro e v3 ⟨gt, mt, rfl, hmt, hsn, rt, hb⟩
    have Z3 := kide (Z2.out.later hb)
    have RD3 := kide (RD2.out.later hb)
    have XN3 := kide (XN2.out.later hb)
    have RT3 := kide rt
    have MT := kide hmt
    have WL3 := kide hsn
    clear rt hmt hsn hb
    refine hK _ _ Z3.out.c ?_
    clear hK K
    try go_simp
    refine rdX (rs := [4]) (cnB rfl (fun K hK => ?_) AllX.nil)
    go_simp
    refine Calls.mono (HSE.out v3 gd gt mt Z3.out.v RD3.out RT3.out MT.out WL3.out) ?_
    rintro e v4 ⟨aw, cw, ls, rfl, hts, hel, hb⟩
    have Z4 := kide (Z3.out.later hb)
    have XN4 := kide (XN3.out.later hb)
    have TW4 := kide (hts.mono Z3.out.s.size)
    have EL := kide hel
    clear hts hel hb
    refine hK _ _ Z4.out.c ?_
    clear hK K
    try go_simp
    refine tkP (i := 5) (v := Value.tuple #[.agg #[.slice aw nX cw], .bool Q]) rfl Z4.out.c ?_
    try go_simp
    refine tkP (i := 6) (v := Value.agg #[.slice aw nX cw]) rfl Z4.out.c ?_
    try go_simp
    refine tkP (i := 7) (v := Value.bool Q) rfl Z4.out.c ?_
    try go_simp
    refine rdX (rs := [9]) (cnB rfl (fun K hK => ?_) AllX.nil)
    have e8 := XN4.out.cell 0
    have f8 := XN4.out.froz 0
    simp at e8
    go_simp
    obtain ⟨z1, z2, z3⟩ := rq_store Z4.out XN4.out TW4.out hN.out HWS.out HB0.out
    generalize v4.setCell ⟨bN, 0, none⟩ (Value.slice aw nX cw) = v5 at *
    have Z5 := kide z1
    have XN5 := kide z2
    have TW5 := kide z3
    clear e8 f8 z1 z2 z3
    refine hK _ _ Z5.out.c ?_
    clear hK K
    try go_simp
    refine tkP (i := 10) (v := Value.bool Q) rfl Z5.out.c ?_
    try go_simp
    refine wpAnyX_done (by kernel_rfl) ?_ _
    try go_simp
    exact key v5 bN aw cw ls gd gt ⟨Z5.out.s, XN5.out, TW5.out, EL.out, hN.out⟩
  ·go_simp
   have hb : Below v0.heap.size v0 (v0.alloc (Obj.cells #[.slice none 0 0] 30)) := blA _ _
   have Z1 := kide (Z0.out.later hb)
   have XN1 := kide (Bz.new v0 #[.slice none 0 0] 30)
   have hN := kide Z0.out.s.size
   obtain ⟨bN, hbN⟩ : ∃ x, v0.heap.size = x := ⟨_, rfl⟩
   rw [hbN] at XN1 hN ⊢
   clear hbN hb
   generalize v0.alloc (Obj.cells #[.slice none 0 0] 30) = v1 at *
   refine hK _ _ Z1.out.c ?_
   clear hK K
   try go_simp
   refine rdX (rs := [1]) (cnB rfl (fun K hK => ?_) AllX.nil)
   go_simp
   refine Calls.mono (HTD.out v1 Z1.out.v) ?_
   rintro e v2 ⟨rfl, rd, -, hb⟩
   have Z2 := kide (Z1.out.later hb)
   have XN2 := kide (XN1.out.later hb)
   obtain ⟨gd, hgd⟩ : ∃ x, v1.heap.size = x := ⟨_, rfl⟩
   rw [hgd] at rd ⊢
   have RD2 := kide rd
   clear rd hgd hb
   refine hK _ _ Z2.out.c ?_
   clear hK K
   try go_simp
   refine rdX (rs := [3]) (cnB rfl (fun K hK => ?_) AllX.nil)
   go_simp
   refine Calls.mono (HTTT.out v2 Z2.out.v) ?_
   rintro e v3 ⟨gt, mt, rfl, hmt, hsn, rt, hb⟩
   have Z3 := kide (Z2.out.later hb)
   have XN3 := kide (XN2.out.later hb)
   have RD3 := kide (RD2.out.later hb)
   have RT3 := kide rt
   have MT := kide hmt
   have WL3 := kide hsn
   clear rt hmt hsn hb
   refine hK _ _ Z3.out.c ?_
   clear hK K
   try go_simp
   refine rdX (rs := [4]) (cnB rfl (fun K hK => ?_) AllX.nil)
   go_simp
   refine Calls.mono (HSE.out v3 gd gt mt Z3.out.v RD3.out RT3.out MT.out WL3.out) ?_
   rintro e v4 ⟨aw, cw, ls, rfl, hts, hel, hb⟩
   have Z4 := kide (Z3.out.later hb)
   have XN4 := kide (XN3.out.later hb)
   have TW4 := kide (hts.mono Z3.out.s.size)
   have EL := kide hel
   clear hts hel hb
   refine hK _ _ Z4.out.c ?_
   clear hK K
   try go_simp
   refine tkP (i := 5) (v := Value.tuple #[.agg #[.slice aw nX cw], .bool Q]) rfl Z4.out.c ?_
   try go_simp
   refine tkP (i := 6) (v := Value.agg #[.slice aw nX cw]) rfl Z4.out.c ?_
   try go_simp
   refine tkP (i := 7) (v := Value.bool Q) rfl Z4.out.c ?_
   try go_simp
   refine rdX (rs := [9]) (cnB rfl (fun K hK => ?_) AllX.nil)
   have e8 := XN4.out.cell 0
   have f8 := XN4.out.froz 0
   simp at e8
   go_simp
   obtain ⟨z1, z2, z3⟩ := rq_store Z4.out XN4.out TW4.out hN.out HWS.out HB0.out
   generalize v4.setCell ⟨bN, 0, none⟩ (Value.slice aw nX cw) = v5 at *
   have Z5 := kide z1
   have XN5 := kide z2
   have TW5 := kide z3
   clear e8 f8 z1 z2 z3
   refine hK _ _ Z5.out.c ?_
   clear hK K
   try go_simp
   refine tkP (i := 10) (v := Value.bool Q) rfl Z5.out.c ?_
   try go_simp
   refine wpAnyX_done (by kernel_rfl) ?_ _
   try go_simp
   exact key v5 bN aw cw ls gd gt ⟨Z5.out.s, XN5.out, TW5.out, EL.out, hN.out⟩
 ·intro w3 bw aw cw lsw gd0 gt0 hF
  obtain ⟨hb3, xw3, ts3, el3, hlw⟩ := hF
  have B3 := kide (BVS.out.trans (hb3.mono BVS.out.size))
  have T3 := kide (XTS.out.later hb3)
  have W3 := kide xw3
  have N3 := kide (Tt.of ts3)
  have ELW := kide el3
  have lw3 := xw3.lt
  have z3 := hb3.size
  have zz := HWS.out
  have zb := HB0.out
  clear hb3 xw3 ts3 el3 XTS BVS HSE c2'
  go_wp2_with fail
  refine Calls.mono (HTD.out w3 B3.out) ?_
  rintro e w4 ⟨rfl, r4, ⟨fd, q4⟩, hb4⟩
  have B4 := kide (B3.out.trans (hb4.mono B3.out.size))
  have z4 := hb4.size
  have T4 := kide (T3.out.later hb4)
  have W4 := kide (W3.out.later hb4)
  have N4 := kide (N3.out.later hb4)
  have R4 := kide (r4)
  have Q4 := kide (q4)
  have y4 := rowIs_lt q4
  clear r4 q4
  clear hb4 B3 T3 W3 N3
  have c4 : w4.cell? ⟨b0, 0, none⟩ = some (Value.slice b n c2) := T4.out.cell 0
  go_wp2_with fail
  refine Calls.mono (HTWT.out w4 B4.out) ?_
  rintro e w5 ⟨gt, mt, rfl, hmt, hgt, rt, ⟨ft, qt, hft⟩, hwt, hb5⟩
  have B5 := kide (B4.out.trans (hb5.mono B4.out.size))
  have z5 := hb5.size
  have T5 := kide (T4.out.later hb5)
  have W5 := kide (W4.out.later hb5)
  have N5 := kide (N4.out.later hb5)
  have R5 := kide (R4.out.later hb5)
  have Q5 := kide (rowIs_later Q4.out hb5)
  have RT5 := kide (rt)
  have QT5 := kide (qt)
  have WT5 := kide (hwt)
  have y5 := rowIs_lt qt
  have MT := kide hmt
  have HFT := kide hft
  have gt5 := hgt
  clear hmt hgt rt qt hft hwt c4
  clear hb5 B4 T4 W4 N4 R4 Q4
  have hb6 : Below w5.heap.size w5 (w5.alloc (Obj.cells #[.slice (some ⟨gt, 0, none⟩) n n] 30)) := blA _ _
  have B6 := kide (B5.out.trans (hb6.mono B5.out.size))
  have z6 : w5.heap.size < (w5.alloc (Obj.cells #[.slice (some ⟨gt, 0, none⟩) n n] 30)).heap.size := by simp
  have T6 := kide (T5.out.later hb6)
  have W6 := kide (W5.out.later hb6)
  have N6 := kide (N5.out.later hb6)
  have R6 := kide (R5.out.later hb6)
  have Q6 := kide (rowIs_later Q5.out hb6)
  have RT6 := kide (RT5.out.later hb6)
  have QT6 := kide (rowIs_later QT5.out hb6)
  have WT6 := kide (fun x hx => And.intro (WrT.out (WT5.out x hx).1 (Out.ofB (B1 := w5.heap.size) (B2 := w5.heap.size) hb6) (.inr (Nat.le_refl _))) (WT5.out x hx).2)
  have A6 := kide (Bz.new w5 #[.slice (some ⟨gt, 0, none⟩) n n] 30)
  clear hb6 B5 T5 W5 N5 R5 Q5 RT5 QT5 WT5
  go_wp2_with fail
  generalize w5.alloc (Obj.cells #[.slice (some ⟨gt, 0, none⟩) n n] 30) = w6 at *
  refine Calls.mono (HIE.out w6 w3.heap.size gt mt B6.out R6.out RT6.out MT.out (Wl.of WT6.out (by omega))) ?_
  rintro e w7 ⟨ag, cg, lsg, rfl, ng, elg, hb7⟩
  have B7 := kide (B6.out.trans (hb7.mono B6.out.size))
  have z7 := hb7.size
  have T7 := kide (T6.out.later hb7)
  have W7 := kide (W6.out.later hb7)
  have N7 := kide (N6.out.later hb7)
  have R7 := kide (R6.out.later hb7)
  have Q7 := kide (rowIs_later Q6.out hb7)
  have RT7 := kide (RT6.out.later hb7)
  have QT7 := kide (rowIs_later QT6.out hb7)
  have WT7 := kide (fun x hx => And.intro (WrT.out (WT6.out x hx).1 (Out.ofB (B1 := w5.heap.size) (B2 := w5.heap.size) hb7) (.inr (Nat.le_refl _))) (WT6.out x hx).2)
  have A7 := kide (A6.out.later hb7)
  have G7 := kide (Tt.of ng)
  have ELG := kide elg
  clear ng elg
  clear hb7 B6 T6 W6 N6 R6 Q6 RT6 QT6 WT6 A6
  have hb8 : Below w7.heap.size w7 (w7.alloc (Obj.cells #[.slice ag nX cg] 30)) := blA _ _
  have B8 := kide (B7.out.trans (hb8.mono B7.out.size))
  have z8 : w7.heap.size < (w7.alloc (Obj.cells #[.slice ag nX cg] 30)).heap.size := by simp
  have T8 := kide (T7.out.later hb8)
  have W8 := kide (W7.out.later hb8)
  have N8 := kide (N7.out.later hb8)
  have R8 := kide (R7.out.later hb8)
  have Q8 := kide (rowIs_later Q7.out hb8)
  have RT8 := kide (RT7.out.later hb8)
  have QT8 := kide (rowIs_later QT7.out hb8)
  have WT8 := kide (fun x hx => And.intro (WrT.out (WT7.out x hx).1 (Out.ofB (B1 := w5.heap.size) (B2 := w5.heap.size) hb8) (.inr (Nat.le_refl _))) (WT7.out x hx).2)
  have A8 := kide (A7.out.later hb8)
  have G8 := kide (G7.out.later hb8)
  have G08 := kide (Bz.new w7 #[.slice ag nX cg] 30)
  clear hb8 B7 T7 W7 N7 R7 Q7 RT7 QT7 WT7 A7 G7
  have p8 : (w7.alloc (Obj.cells #[.slice ag nX cg] 30)).cell? ⟨bw, 0, none⟩ = some (Value.slice aw nX cw) := W8.out.cell 0
  have hsm := HSM.out
  have hX9 := hsm.2.2
  have hn9 := hsm.1
  have hd9 := hsm.2.1
  have HX9 := kide hX9
  have HN9 := kide hn9
  have HD9 := kide hd9
  clear hsm hX9 hn9 hd9
  go_wp2_with fail
  clear p8
  generalize w7.alloc (Obj.cells #[.slice ag nX cg] 30) = w8 at *
  refine Calls.mono (eqTerm_tt G8.out N8.out ELG.out ELW.out HXO.out HNX.out HX9.out) ?_
  rintro e w9 ⟨rfl, hb9⟩
  have B9 := kide (B8.out.trans (hb9.mono B8.out.size))
  have z9 := hb9.size
  have T9 := kide (T8.out.later hb9)
  have W9 := kide (W8.out.later hb9)
  have N9 := kide (N8.out.later hb9)
  have R9 := kide (R8.out.later hb9)
  have Q9 := kide (rowIs_later Q8.out hb9)
  have RT9 := kide (RT8.out.later hb9)
  have QT9 := kide (rowIs_later QT8.out hb9)
  have WT9 := kide (fun x hx => And.intro (WrT.out (WT8.out x hx).1 (Out.ofB (B1 := w5.heap.size) (B2 := w5.heap.size) hb9) (.inr (Nat.le_refl _))) (WT8.out x hx).2)
  have A9 := kide (A8.out.later hb9)
  have G9 := kide (G8.out.later hb9)
  have G09 := kide (G08.out.later hb9)
  clear hb9 B8 T8 W8 N8 R8 Q8 RT8 QT8 WT8 A8 G8 G08
  go_wp2_with fail
  refine Calls.mono (HTD.out w9 B9.out) ?_
  rintro e w10 ⟨rfl, r10, -, hb10⟩
  have B10 := kide (B9.out.trans (hb10.mono B9.out.size))
  have z10 := hb10.size
  have T10 := kide (T9.out.later hb10)
  have W10 := kide (W9.out.later hb10)
  have N10 := kide (N9.out.later hb10)
  have R10 := kide (R9.out.later hb10)
  have Q10 := kide (rowIs_later Q9.out hb10)
  have RT10 := kide (RT9.out.later hb10)
  have QT10 := kide (rowIs_later QT9.out hb10)
  have WT10 := kide (fun x hx => And.intro (WrT.out (WT9.out x hx).1 (Out.ofB (B1 := w5.heap.size) (B2 := w5.heap.size) hb10) (.inr (Nat.le_refl _))) (WT9.out x hx).2)
  have A10 := kide (A9.out.later hb10)
  have G10 := kide (G9.out.later hb10)
  have G010 := kide (G09.out.later hb10)
  have P10 := kide (r10)
  clear r10
  clear hb10 B9 T9 W9 N9 R9 Q9 RT9 QT9 WT9 A9 G9 G09
  go_wp2_with fail
  refine Calls.mono (eqDeclS_same _ _ ds.length ds.length ds w10 R10.out P10.out) ?_
  rintro e w11 ⟨rfl, hb11⟩
  have B11 := kide (B10.out.trans (hb11.mono B10.out.size))
  have z11 := hb11.size
  have T11 := kide (T10.out.later hb11)
  have W11 := kide (W10.out.later hb11)
  have N11 := kide (N10.out.later hb11)
  have Q11 := kide (rowIs_later Q10.out hb11)
  have RT11 := kide (RT10.out.later hb11)
  have QT11 := kide (rowIs_later QT10.out hb11)
  have WT11 := kide (fun x hx => And.intro (WrT.out (WT10.out x hx).1 (Out.ofB (B1 := w5.heap.size) (B2 := w5.heap.size) hb11) (.inr (Nat.le_refl _))) (WT10.out x hx).2)
  have A11 := kide (A10.out.later hb11)
  have G11 := kide (G10.out.later hb11)
  have G011 := kide (G010.out.later hb11)
  clear hb11 B10 T10 W10 N10 Q10 RT10 QT10 WT10 A10 G10 G010 R10 P10
  have c11 : w11.cell? ⟨b0, 0, none⟩ = some (Value.slice b n c2) := T11.out.cell 0
  have d11 : w11.cell? ⟨w5.heap.size, 0, none⟩ = some (Value.slice (some ⟨gt, 0, none⟩) n n) := A11.out.cell 0
  go_wp2_with fail
  go_region_held3 (fun u => u.cell? ⟨b0, 0, none⟩ = some (Value.slice b n c2) ∧ u.cell? ⟨w5.heap.size, 0, none⟩ = some (Value.slice (some { block := gt, off := 0 }) n n)) (first | assumption | (simp [*]))
   (first
    | (go_at_call 8; refine Calls.mono (HTTT.out _ ?_) ?_; exact B11.out.drew; rintro e w12 ⟨g12, m12, rfl, hm12, -, r12, hb12⟩; replace hb12 := kundrew hb12; have T12 := kide (Bz.later (u := w11) T11.out hb12); have W12 := kide (Bz.later (u := w11) W11.out hb12); have N12 := kide (Tt.later (w := w11) N11.out hb12); have Q12 := kide (rowIs_later (w := w11) Q11.out hb12); have RT12 := kide (RdT.later (w := w11) RT11.out hb12); have QT12 := kide (rowIs_later (w := w11) QT11.out hb12); have WT12 := kide (fun x hx => And.intro (WrT.out (w := w11) (WT11.out x hx).1 (Out.ofB (B1 := w5.heap.size) (B2 := w5.heap.size) hb12) (.inr (Nat.le_refl _))) (WT11.out x hx).2); have A12 := kide (Bz.later (u := w11) A11.out hb12); have G12 := kide (Tt.later (w := w11) G11.out hb12); have G012 := kide (Bz.later (u := w11) G011.out hb12); have B12 := kide (B11.out.trans (hb12.mono B11.out.size)); have c12 : w12.cell? ⟨b0, 0, none⟩ = some (Value.slice b n c2) := T12.out.cell 0; have d12 : w12.cell? ⟨w5.heap.size, 0, none⟩ = some (Value.slice (some ⟨gt, 0, none⟩) n n) := A12.out.cell 0; have RR12 := kide r12; have M12 := kide hm12; have z12 := hb12.size; clear hm12 r12 hb12)
    | (go_at_call 10; refine Calls.mono (eqTerm_same (some ⟨gt, 0, none⟩) (some ⟨g12, 0, none⟩) n n mt m12 _ RT12.out RR12.out (MT.out.trans M12.out.symm) n (len_of_tc MT.out HN.out) (len_of_tc M12.out HN.out)) ?_; rintro e w13 ⟨rfl, hb13⟩; have T13 := kide (T12.out.later hb13); have W13 := kide (W12.out.later hb13); have N13 := kide (N12.out.later hb13); have Q13 := kide (rowIs_later Q12.out hb13); have RT13 := kide (RT12.out.later hb13); have QT13 := kide (rowIs_later QT12.out hb13); have WT13 := kide (fun x hx => And.intro (WrT.out (WT12.out x hx).1 (Out.ofB (B1 := w5.heap.size) (B2 := w5.heap.size) hb13) (.inr (Nat.le_refl _))) (WT12.out x hx).2); have A13 := kide (A12.out.later hb13); have G13 := kide (G12.out.later hb13); have G013 := kide (G012.out.later hb13); have B13 := kide (B12.out.trans (hb13.mono B12.out.size)); have c13 : w13.cell? ⟨b0, 0, none⟩ = some (Value.slice b n c2) := T13.out.cell 0; have d13 : w13.cell? ⟨w5.heap.size, 0, none⟩ = some (Value.slice (some ⟨gt, 0, none⟩) n n) := A13.out.cell 0; have z13 := hb13.size; clear hb13))
  clear T11 T12 W11 W12 N11 N12 Q11 Q12 RT11 RT12 QT11 QT12 WT11 WT12 A11 A12 G11 G12 G011 G012 c11 d11 c12 d12 c13 d13 RR12 M12 B11 B12
  clear RT13
  go_wp2_with fail
  refine Calls.mono (markDeclS_one w3.heap.size ds.length ds.length fd w13 Q13.out HD9.out) ?_
  rintro e w14 ⟨rfl, ho14⟩
  have B14 := kide (Out.bel B13.out ho14 (by omega))
  have z14 := ho14.2.2.2.1
  have T14 := kide (T13.out.out ho14 (by omega))
  have W14 := kide (W13.out.out ho14 (by omega))
  have N14 := kide (N13.out.out ho14 (by omega))
  have QT14 := kide (rowIs_out QT13.out ho14 (by omega))
  have WT14 := kide (fun x hx => And.intro ((WT13.out x hx).1.out ho14 (by omega)) (WT13.out x hx).2)
  have A14 := kide (A13.out.out ho14 (by omega))
  have G14 := kide (G13.out.out ho14 (by omega))
  have G014 := kide (G013.out.out ho14 (by omega))
  generalize hK1 : 1 + ds.length * 2 = K1
  have HK1 : Hid (K1 ≤ 4194304) := by have := HD9.out; show _ ≤ _; omega
  clear hK1
  clear ho14 B13 T13 W13 N13 QT13 WT13 A13 G13 G013 Q13
  have d14 : w14.cell? ⟨w5.heap.size, 0, none⟩ = some (Value.slice (some ⟨gt, 0, none⟩) n n) := A14.out.cell 0
  go_wp2_with fail
  refine Calls.mono (markTerm_any gt n n K1 w4.heap.size w5.heap.size mt w14 ft QT14.out HFT.out WT14.out (len_of_tc MT.out HN.out) HN9.out HK1.out gt5 y5) ?_
  rintro e w15 ⟨⟨r15, hr15, rfl⟩, ho15⟩
  have B15 := kide (Out.bel B14.out ho15 (by omega))
  have z15 := ho15.2.2.2.1
  have T15 := kide (T14.out.out ho15 (by omega))
  have W15 := kide (W14.out.out ho15 (by omega))
  have N15 := kide (N14.out.out ho15 (by omega))
  have A15 := kide (A14.out.out ho15 (by omega))
  have G15 := kide (G14.out.out ho15 (by omega))
  have G015 := kide (G014.out.out ho15 (by omega))
  have hk15 : ¬ (r15 : Int) < 0 := by omega
  clear hr15 d14
  clear ho15 B14 T14 W14 N14 A14 G14 G014 QT14 WT14
  have p15 : w15.cell? ⟨bw, 0, none⟩ = some (Value.slice aw nX cw) := W15.out.cell 0
  have q15 : w15.cell? ⟨w7.heap.size, 0, none⟩ = some (Value.slice ag nX cg) := G015.out.cell 0
  go_wp2_with fail
  refine Calls.mono (eqTerm_tt G15.out N15.out ELG.out ELW.out HXO.out HNX.out HX9.out) ?_
  rintro e w16 ⟨rfl, hb16⟩
  have B16 := kide (B15.out.trans (hb16.mono B15.out.size))
  have z16 := hb16.size
  have T16 := kide (T15.out.later hb16)
  have W16 := kide (W15.out.later hb16)
  have N16 := kide (N15.out.later hb16)
  have A16 := kide (A15.out.later hb16)
  have G16 := kide (G15.out.later hb16)
  have G016 := kide (G015.out.later hb16)
  clear p15 q15
  clear hb16 B15 T15 W15 N15 A15 G15 G015
  have q16 : w16.cell? ⟨w7.heap.size, 0, none⟩ = some (Value.slice ag nX cg) := G016.out.cell 0
  have HSH := kide (sh_map ELG.out HXO.out)
  have hlg := len_map ELG.out HNX.out
  have HLG := kide hlg
  clear hlg
  go_wp2_with fail
  refine Calls.mono (markTerm_tt w6.heap.size w7.heap.size nX cg 1 ag lsg w16 G16.out (by omega) HSH.out HLG.out HX9.out (by omega)) ?_
  rintro e w17 ⟨rfl, hh17, ho17⟩
  have B17 := kide (Out.bel B16.out ho17 (by omega))
  have z17 := ho17.2.2.2.1
  have T17 := kide (T16.out.out ho17 (by omega))
  have W17 := kide (W16.out.out ho17 (by omega))
  have N17 := kide (N16.out.out ho17 (by omega))
  have A17 := kide (A16.out.out ho17 (by omega))
  have G017 := kide (G016.out.out ho17 (by omega))
  have H17 := kide hh17
  clear hh17 q16
  clear ho17 B16 T16 W16 N16 A16 G016 G16
  have HHL := kide (fun u (hu : HeldTv u (.slice ag nX cg) lsg 1) => heldTerm_ts nX cg 1 ag lsg u hu HSH.out HLG.out HX9.out (by omega))
  obtain ⟨VV, hVV⟩ : ∃ VV, mkT lsg 1 lsg.length = VV := ⟨_, rfl⟩
  rw [hVV] at HHL
  rw [hVV]
  have hv0 : ¬ (VV : Int) < 0 := by omega
  have hvv : ((VV : Int) != (VV : Int)) = false := by simp
  clear hVV
  have q17 : w17.cell? ⟨w7.heap.size, 0, none⟩ = some (Value.slice ag nX cg) := G017.out.cell 0
  go_wp2_with fail
  refine Calls.mono (HHL.out w17 H17.out) ?_
  rintro e w18 ⟨rfl, hb18⟩
  have B18 := kide (B17.out.trans (hb18.mono B17.out.size))
  have z18 := hb18.size
  have T18 := kide (T17.out.later hb18)
  have W18 := kide (W17.out.later hb18)
  have N18 := kide (N17.out.later hb18)
  have A18 := kide (A17.out.later hb18)
  have G018 := kide (G017.out.later hb18)
  have H18 := kide (H17.out.later hb18)
  clear q17
  clear hb18 B17 T17 W17 N17 A17 G017 H17
  have XTS := kide T18.out
  have BVS := kide B18.out
  have HWS2 : Hid (b0 < w18.heap.size) := T18.out.lt
  clear HWS T18
  have HWS := HWS2
  go_wp2_with fail
  apply share5 (F := fun v bN aw cw ls gd gt => Below w18.heap.size w18 v ∧ Bz v bN #[.slice aw nX cw] 30 ∧ Ts v w18.heap.size (.slice aw nX cw) ls ∧ ls.map Tg.ct = X ∧ w18.heap.size ≤ bN)
  ·skip
   intro key
   refine wp_region_x (SA := fun _ => False) (SB := fun z => z.cell? ⟨b0, 0, none⟩ = some (Value.slice b n c2)) (k := 999) (by kernel_rfl) ?_
   have Z0 : Hid (Rq w w18 b0 n c2 b w18.drew) := ⟨XTS.out.later (Below.refl _ _).drew, (Below.refl _ _).drew, BVS.out.drew⟩
   generalize w18.drew = v0 at *
   try go_simp
   refine tkP (i := 0) (v := Value.slice a ds.length c) rfl Z0.out.c ?_
   try go_simp
   refine tkP (i := 2) (v := Value.agg #[.slice b n c2]) rfl Z0.out.c ?_
   try go_simp
   refine rdX (rs := [1, 8]) (cnB rfl (fun K hK => ?_) (cnB rfl (fun K hK => ?_) AllX.nil))
   ·go_simp
    refine Calls.mono (HTD.out v0 Z0.out.v) ?_
    rintro e v1 ⟨rfl, rd, -, hb⟩
    have Z1 := kide (Z0.out.later hb)
    obtain ⟨gd, hgd⟩ : ∃ x, v0.heap.size = x := ⟨_, rfl⟩
    rw [hgd] at rd ⊢
    have RD1 := kide rd
    clear rd hgd hb
    refine hK _ _ Z1.out.c ?_
    clear hK K
    try go_simp
    refine rdX (rs := [3, 8]) (cnB rfl (fun K hK => ?_) (cnB rfl (fun K hK => ?_) AllX.nil))
    ·go_simp
     refine Calls.mono (HTTT.out v1 Z1.out.v) ?_
     rintro e v2 ⟨gt, mt, rfl, hmt, hsn, rt, hb⟩
     have Z2 := kide (Z1.out.later hb)
     have RD2 := kide (RD1.out.later hb)
     have RT2 := kide rt
     have MT := kide hmt
     have WL2 := kide hsn
     clear rt hmt hsn hb
     refine hK _ _ Z2.out.c ?_
     clear hK K
     try go_simp
     refine rdX (rs := [4, 8]) (cnB rfl (fun K hK => ?_) (cnB rfl (fun K hK => ?_) AllX.nil))
     ·go_simp
      refine Calls.mono (HIE.out v2 gd gt mt Z2.out.v RD2.out RT2.out MT.out WL2.out) ?_
      rintro e v3 ⟨aw, cw, ls, rfl, hts, hel, hb⟩
      have Z3 := kide (Z2.out.later hb)
      have TW3 := kide (hts.mono Z2.out.s.size)
      have EL := kide hel
      clear hts hel hb
      refine hK _ _ Z3.out.c ?_
      clear hK K
      try go_simp
      refine tkP (i := 5) (v := Value.tuple #[.agg #[.slice aw nX cw], .bool Q]) rfl Z3.out.c ?_
      try go_simp
      refine tkP (i := 6) (v := Value.agg #[.slice aw nX cw]) rfl Z3.out.c ?_
      try go_simp
      refine tkP (i := 7) (v := Value.bool Q) rfl Z3.out.c ?_
      try go_simp
      refine rdX (rs := [8]) (cnB rfl (fun K hK => ?_) AllX.nil)
      go_simp
      have hb : Below v3.heap.size v3 (v3.alloc (Obj.cells #[.slice none 0 0] 30)) := blA _ _
      have Z4 := kide (Z3.out.later hb)
      have TW4 := kide (TW3.out.later hb)
      have XN4 := kide (Bz.new v3 #[.slice none 0 0] 30)
      have hN := kide Z3.out.s.size
      obtain ⟨bN, hbN⟩ : ∃ x, v3.heap.size = x := ⟨_, rfl⟩
      rw [hbN] at XN4 hN ⊢
      clear hbN hb
      generalize v3.alloc (Obj.cells #[.slice none 0 0] 30) = v4 at *
      refine hK _ _ Z4.out.c ?_
      clear hK K
      try go_simp
      refine rdX (rs := [9]) (cnB rfl (fun K hK => ?_) AllX.nil)
      have e8 := XN4.out.cell 0
      have f8 := XN4.out.froz 0
      simp at e8
      go_simp
      obtain ⟨z1, z2, z3⟩ := rq_store Z4.out XN4.out TW4.out hN.out HWS.out HB0.out
      generalize v4.setCell ⟨bN, 0, none⟩ (Value.slice aw nX cw) = v5 at *
      have Z5 := kide z1
      have XN5 := kide z2
      have TW5 := kide z3
      clear e8 f8 z1 z2 z3
      refine hK _ _ Z5.out.c ?_
      clear hK K
      try go_simp
      refine tkP (i := 10) (v := Value.bool Q) rfl Z5.out.c ?_
      try go_simp
      refine wpAnyX_done (by kernel_rfl) ?_ _
      try go_simp
      exact key v5 bN aw cw ls gd gt ⟨Z5.out.s, XN5.out, TW5.out, EL.out, hN.out⟩
     ·go_simp
      have hb : Below v2.heap.size v2 (v2.alloc (Obj.cells #[.slice none 0 0] 30)) := blA _ _
      have Z3 := kide (Z2.out.later hb)
      have RD3 := kide (RD2.out.later hb)
      have RT3 := kide (RT2.out.later hb)
      have WL3 := kide (WL2.out.later hb)
      have XN3 := kide (Bz.new v2 #[.slice none 0 0] 30)
      have hN := kide Z2.out.s.size
      obtain ⟨bN, hbN⟩ : ∃ x, v2.heap.size = x := ⟨_, rfl⟩
      rw [hbN] at XN3 hN ⊢
      clear hbN hb
      generalize v2.alloc (Obj.cells #[.slice none 0 0] 30) = v3 at *
      refine hK _ _ Z3.out.c ?_
      clear hK K
      try go_simp
      refine rdX (rs := [4]) (cnB rfl (fun K hK => ?_) AllX.nil)
      go_simp
      refine Calls.mono (HIE.out v3 gd gt mt Z3.out.v RD3.out RT3.out MT.out WL3.out) ?_
      rintro e v4 ⟨aw, cw, ls, rfl, hts, hel, hb⟩
      have Z4 := kide (Z3.out.later hb)
      have XN4 := kide (XN3.out.later hb)
      have TW4 := kide (hts.mono Z3.out.s.size)
      have EL := kide hel
      clear hts hel hb
      refine hK _ _ Z4.out.c ?_
      clear hK K
      try go_simp
      refine tkP (i := 5) (v := Value.tuple #[.agg #[.slice aw nX cw], .bool Q]) rfl Z4.out.c ?_
      try go_simp
      refine tkP (i := 6) (v := Value.agg #[.slice aw nX cw]) rfl Z4.out.c ?_
      try go_simp
      refine tkP (i := 7) (v := Value.bool Q) rfl Z4.out.c ?_
      try go_simp
      refine rdX (rs := [9]) (cnB rfl (fun K hK => ?_) AllX.nil)
      have e8 := XN4.out.cell 0
      have f8 := XN4.out.froz 0
      simp at e8
      go_simp
      obtain ⟨z1, z2, z3⟩ := rq_store Z4.out XN4.out TW4.out hN.out HWS.out HB0.out
      generalize v4.setCell ⟨bN, 0, none⟩ (Value.slice aw nX cw) = v5 at *
      have Z5 := kide z1
      have XN5 := kide z2
      have TW5 := kide z3
      clear e8 f8 z1 z2 z3
      refine hK _ _ Z5.out.c ?_
      clear hK K
      try go_simp
      refine tkP (i := 10) (v := Value.bool Q) rfl Z5.out.c ?_
      try go_simp
      refine wpAnyX_done (by kernel_rfl) ?_ _
      try go_simp
      exact key v5 bN aw cw ls gd gt ⟨Z5.out.s, XN5.out, TW5.out, EL.out, hN.out⟩
    ·go_simp
     have hb : Below v1.heap.size v1 (v1.alloc (Obj.cells #[.slice none 0 0] 30)) := blA _ _
     have Z2 := kide (Z1.out.later hb)
     have RD2 := kide (RD1.out.later hb)
     have XN2 := kide (Bz.new v1 #[.slice none 0 0] 30)
     have hN := kide Z1.out.s.size
     obtain ⟨bN, hbN⟩ : ∃ x, v1.heap.size = x := ⟨_, rfl⟩
     rw [hbN] at XN2 hN ⊢
     clear hbN hb
     generalize v1.alloc (Obj.cells #[.slice none 0 0] 30) = v2 at *
     refine hK _ _ Z2.out.c ?_
     clear hK K
     try go_simp
     refine rdX (rs := [3]) (cnB rfl (fun K hK => ?_) AllX.nil)
     go_simp
     refine Calls.mono (HTTT.out v2 Z2.out.v) ?_
     rintro e v3 ⟨gt, mt, rfl, hmt, hsn, rt, hb⟩
     have Z3 := kide (Z2.out.later hb)
     have RD3 := kide (RD2.out.later hb)
     have XN3 := kide (XN2.out.later hb)
     have RT3 := kide rt
     have MT := kide hmt
     have WL3 := kide hsn
     clear rt hmt hsn hb
     refine hK _ _ Z3.out.c ?_
     clear hK K
     try go_simp
     refine rdX (rs := [4]) (cnB rfl (fun K hK => ?_) AllX.nil)
     go_simp
     refine Calls.mono (HIE.out v3 gd gt mt Z3.out.v RD3.out RT3.out MT.out WL3.out) ?_
     rintro e v4 ⟨aw, cw, ls, rfl, hts, hel, hb⟩
     have Z4 := kide (Z3.out.later hb)
     have XN4 := kide (XN3.out.later hb)
     have TW4 := kide (hts.mono Z3.out.s.size)
     have EL := kide hel
     clear hts hel hb
     refine hK _ _ Z4.out.c ?_
     clear hK K
     try go_simp
     refine tkP (i := 5) (v := Value.tuple #[.agg #[.slice aw nX cw], .bool Q]) rfl Z4.out.c ?_
     try go_simp
     refine tkP (i := 6) (v := Value.agg #[.slice aw nX cw]) rfl Z4.out.c ?_
     try go_simp
     refine tkP (i := 7) (v := Value.bool Q) rfl Z4.out.c ?_
     try go_simp
     refine rdX (rs := [9]) (cnB rfl (fun K hK => ?_) AllX.nil)
     have e8 := XN4.out.cell 0
     have f8 := XN4.out.froz 0
     simp at e8
     go_simp
     obtain ⟨z1, z2, z3⟩ := rq_store Z4.out XN4.out TW4.out hN.out HWS.out HB0.out
     generalize v4.setCell ⟨bN, 0, none⟩ (Value.slice aw nX cw) = v5 at *
     have Z5 := kide z1
     have XN5 := kide z2
     have TW5 := kide z3
     clear e8 f8 z1 z2 z3
     refine hK _ _ Z5.out.c ?_
     clear hK K
     try go_simp
     refine tkP (i := 10) (v := Value.bool Q) rfl Z5.out.c ?_
     try go_simp
     refine wpAnyX_done (by kernel_rfl) ?_ _
     try go_simp
     exact key v5 bN aw cw ls gd gt ⟨Z5.out.s, XN5.out, TW5.out, EL.out, hN.out⟩
   ·go_simp
    have hb : Below v0.heap.size v0 (v0.alloc (Obj.cells #[.slice none 0 0] 30)) := blA _ _
    have Z1 := kide (Z0.out.later hb)
    have XN1 := kide (Bz.new v0 #[.slice none 0 0] 30)
    have hN := kide Z0.out.s.size
    obtain ⟨bN, hbN⟩ : ∃ x, v0.heap.size = x := ⟨_, rfl⟩
    rw [hbN] at XN1 hN ⊢
    clear hbN hb
    generalize v0.alloc (Obj.cells #[.slice none 0 0] 30) = v1 at *
    refine hK _ _ Z1.out.c ?_
    clear hK K
    try go_simp
    refine rdX (rs := [1]) (cnB rfl (fun K hK => ?_) AllX.nil)
    go_simp
    refine Calls.mono (HTD.out v1 Z1.out.v) ?_
    rintro e v2 ⟨rfl, rd, -, hb⟩
    have Z2 := kide (Z1.out.later hb)
    have XN2 := kide (XN1.out.later hb)
    obtain ⟨gd, hgd⟩ : ∃ x, v1.heap.size = x := ⟨_, rfl⟩
    rw [hgd] at rd ⊢
    have RD2 := kide rd
    clear rd hgd hb
    refine hK _ _ Z2.out.c ?_
    clear hK K
    try go_simp
    refine rdX (rs := [3]) (cnB rfl (fun K hK => ?_) AllX.nil)
    go_simp
    refine Calls.mono (HTTT.out v2 Z2.out.v) ?_
    rintro e v3 ⟨gt, mt, rfl, hmt, hsn, rt, hb⟩
    have Z3 := kide (Z2.out.later hb)
    have XN3 := kide (XN2.out.later hb)
    have RD3 := kide (RD2.out.later hb)
    have RT3 := kide rt
    have MT := kide hmt
    have WL3 := kide hsn
    clear rt hmt hsn hb
    refine hK _ _ Z3.out.c ?_
    clear hK K
    try go_simp
    refine rdX (rs := [4]) (cnB rfl (fun K hK => ?_) AllX.nil)
    go_simp
    refine Calls.mono (HIE.out v3 gd gt mt Z3.out.v RD3.out RT3.out MT.out WL3.out) ?_
    rintro e v4 ⟨aw, cw, ls, rfl, hts, hel, hb⟩
    have Z4 := kide (Z3.out.later hb)
    have XN4 := kide (XN3.out.later hb)
    have TW4 := kide (hts.mono Z3.out.s.size)
    have EL := kide hel
    clear hts hel hb
    refine hK _ _ Z4.out.c ?_
    clear hK K
    try go_simp
    refine tkP (i := 5) (v := Value.tuple #[.agg #[.slice aw nX cw], .bool Q]) rfl Z4.out.c ?_
    try go_simp
    refine tkP (i := 6) (v := Value.agg #[.slice aw nX cw]) rfl Z4.out.c ?_
    try go_simp
    refine tkP (i := 7) (v := Value.bool Q) rfl Z4.out.c ?_
    try go_simp
    refine rdX (rs := [9]) (cnB rfl (fun K hK => ?_) AllX.nil)
    have e8 := XN4.out.cell 0
    have f8 := XN4.out.froz 0
    simp at e8
    go_simp
    obtain ⟨z1, z2, z3⟩ := rq_store Z4.out XN4.out TW4.out hN.out HWS.out HB0.out
    generalize v4.setCell ⟨bN, 0, none⟩ (Value.slice aw nX cw) = v5 at *
    have Z5 := kide z1
    have XN5 := kide z2
    have TW5 := kide z3
    clear e8 f8 z1 z2 z3
    refine hK _ _ Z5.out.c ?_
    clear hK K
    try go_simp
    refine tkP (i := 10) (v := Value.bool Q) rfl Z5.out.c ?_
    try go_simp
    refine wpAnyX_done (by kernel_rfl) ?_ _
    try go_simp
    exact key v5 bN aw cw ls gd gt ⟨Z5.out.s, XN5.out, TW5.out, EL.out, hN.out⟩
  ·intro w19 bh ah ch lsh gd1 gt1 hF
   obtain ⟨hb19, xh, th, elh, hlh⟩ := hF
   have W19 := kide (W18.out.later hb19)
   have N19 := kide (N18.out.later hb19)
   have G019 := kide (G018.out.later hb19)
   have B19 := kide (BVS.out.trans (hb19.mono BVS.out.size))
   have H19 := kide (H18.out.later hb19)
   have TH := kide (Tt.of th)
   have ELH := kide elh
   have h0 : w19.cell? ⟨bh, 0, none⟩ = some (.slice ah nX ch) := xh.cell 0
   have p19 : w19.cell? ⟨bw, 0, none⟩ = some (.slice aw nX cw) := W19.out.cell 0
   clear hb19 xh th elh XTS BVS W18 N18 G018 H18
   go_wp2_with fail
   refine Calls.mono (eqTerm_tt TH.out N19.out ELH.out ELW.out HXO.out HNX.out HX9.out) ?_
   rintro e w20 ⟨rfl, hb20⟩
   have G020 := kide (G019.out.later hb20)
   have B20 := kide (B19.out.trans (hb20.mono B19.out.size))
   have H20 := kide (H19.out.later hb20)
   have q20 : w20.cell? ⟨w7.heap.size, 0, none⟩ = some (.slice ag nX cg) := G020.out.cell 0
   clear hb20 W19 N19 G019 B19 H19 TH ELH h0 p19
   go_wp2_with fail
   refine Calls.mono (HHL.out w20 H20.out) ?_
   rintro e w21 ⟨rfl, hb21⟩
   have B21 := kide (B20.out.trans (hb21.mono B20.out.size))
   clear hb21
   go_wp2_with fail
   go_ret
   exact ⟨rfl, B21.out⟩
theorem law_no_FnExactNormal (a b : Option Addr) (n c n2 c2 : Nat) (w : World) (Z Z2 : Int) (h : Z < 0 ∨ 0 ≤ Z ∧ Z2 < 0)
  (HSZ : Hid (∀ u, Below w.heap.size w u → Calls Tryz.prog 4 #[.slice a n c, .int .i64 1048576] u fun e w' => e = .returned (.int .i64 Z) ∧ Below u.heap.size u w'))
  (HSC : Hid (0 ≤ Z → ∀ u, Below w.heap.size w u → Calls Tryz.prog 5 #[.agg #[.slice b n2 c2], .int .i64 Z] u fun e w' => e = .returned (.int .i64 Z2) ∧ Below u.heap.size u w')) :
  Calls Tryz.prog 3 #[.slice a n c, .agg #[.slice b n2 c2]] w fun e w' => e = .returned (.bool true) ∧ Below w.heap.size w w' := by
 have s0 := Bq.start w (.slice b n2 c2) 25
 rcases h with h | ⟨h, h2⟩
 ·go_enter Tryz.func3, Tryz.ntmps3
  go_wp2_with fail
  refine Calls.mono (HSZ.out _ s0.below) ?_
  rintro e w1 ⟨rfl, hb1⟩
  have s1 := s0.next hb1
  go_wp2_with fail
  go_ret
  exact ⟨rfl, s1.below⟩
 ·go_enter Tryz.func3, Tryz.ntmps3
  go_wp2_with fail
  refine Calls.mono (HSZ.out _ s0.below) ?_
  rintro e w1 ⟨rfl, hb1⟩
  have s1 := s0.next hb1
  have c1 := s1.cell
  go_wp2_with fail
  refine Calls.mono (HSC.out h w1 s1.below) ?_
  rintro e w2 ⟨rfl, hb2⟩
  have s2 := s1.next hb2
  go_wp2_with fail
  go_ret
  exact ⟨rfl, s2.below⟩
theorem walk_FnExactNormal (a : Option Addr) (n c : Nat) (hn : n ≤ 9223372036854775807) (b : Option Addr) (n2 c2 : Nat) (hn2 : n2 ≤ 9223372036854775807) (w : World) (hG : GF w)
  (hx : n ≤ 1048576 → ∃ ds : List Dc, ds.length = n ∧ RdD w a ds) (hy : n2 ≤ 1048576 → ∃ hs : List Th, hs.length = n2 ∧ RdTh w b hs ∧ ∀ h ∈ hs, NodeOf w h) :
  Calls Tryz.prog 3 #[.slice a n c, .agg #[.slice b n2 c2]] w fun e w' => e = .returned (.bool true) ∧ Below w.heap.size w w' := by
 obtain ⟨Z, Z2, h1, h2, h3⟩ := sizes_term a b n c n2 c2 w hn hn2 hx hy
 by_cases hz : Z < 0
 ·exact law_no_FnExactNormal a b n c n2 c2 w Z Z2 (.inl hz) h1 h2
 by_cases hz2 : Z2 < 0
 ·exact law_no_FnExactNormal a b n c n2 c2 w Z Z2 (.inr ⟨by omega, hz2⟩) h1 h2
 obtain ⟨ds, xs, rfl, hxl, hr, hs⟩ := h3 (by omega) (by omega)
 exact law_yes_FnExactNormal a b c c2 n2 ds xs w hr hs hxl hG Z Z2 (by omega) (by omega) h1 (h2 (by omega))

end Go.Proofs.YtnpjgoklpaigjaaGreatDoor
