/- The law FnExactAddCuts returns true, whatever it is handed. -/
import Derived.Test.YtjnbapddfhpcnaaZGAL
namespace Go.Proofs.Ytjnbapddfhpcnaa
set_option linter.unusedVariables false
set_option linter.unusedSimpArgs false
open Go.RowKit

theorem share6 {F P : World → Nat → Option Addr → Nat → List Value → Nat → Nat → Nat → Prop} {G : Prop} (main : (∀ v b a c l x y z, F v b a c l x y z → P v b a c l x y z) → G) (key : ∀ v b a c l x y z, F v b a c l x y z → P v b a c l x y z) : G := main key

set_option maxHeartbeats 16000000 in
set_option maxRecDepth 100000 in
theorem law_yes_FnExactAddCuts (a b d : Option Addr) (c c2 c3 n m : Nat) (ds : List Dc) (xs ys : List Iw) (w : World) (hr : RdD w a ds) (hxs : RdII w b xs) (hys : RdII w d ys) (hn : xs.length = n) (hm : ys.length = m) (Z Z2 Z3 : Int)
    (hz : 0 ≤ Z) (hz2 : 0 ≤ Z2) (hz3 : 0 ≤ Z3)
    (HSZ : Hid (∀ u, Below w.heap.size w u → Calls Try.prog 4 #[.slice a ds.length c, .int .i64 1048576] u fun e w' => e = .returned (.int .i64 Z) ∧ Below u.heap.size u w'))
    (HSC : Hid (∀ u, Below w.heap.size w u → Calls Try.prog 5 #[.agg #[.slice b n c2], .int .i64 Z] u fun e w' => e = .returned (.int .i64 Z2) ∧ Below u.heap.size u w'))
    (HSD : Hid (∀ u, Below w.heap.size w u → Calls Try.prog 5 #[.agg #[.slice d m c3], .int .i64 Z2] u fun e w' => e = .returned (.int .i64 Z3) ∧ Below u.heap.size u w')) :
    Calls Try.prog 3 #[.slice a ds.length c, .agg #[.slice b n c2], .agg #[.slice d m c3]] w fun e w' => e = .returned (.bool true) ∧ Below w.heap.size w w' := by
  have HN := kide hn
  have HM := kide hm
  have hn2 : n ≤ 1048576 := by rw [← hn]; exact hxs.1
  have hm2 : m ≤ 1048576 := by rw [← hm]; exact hys.1
  have hd2 : ds.length ≤ 1048576 := hr.1
  have hXl := addZ_len (ds := ds) (cs := xs.map Iw.ks) (es := ys.map Iw.ks)
  have HXO := kide (addZ_row (ds := ds) (cs := xs.map Iw.ks) (es := ys.map Iw.ks))
  have HTD := kide (fun u (hu : Below w.heap.size w u) => toDeclS_row a c ds u (hr.later hu))
  have HTWT := kide (fun u (hu : Below w.heap.size w u) => toCuts_own b c2 xs u (hxs.later hu) n hn)
  have HTTT : Hid (∀ u, Below w.heap.size w u → Calls Try.prog 8 #[.agg #[.slice b n c2]] u fun e w' => ∃ (g : Nat) (ms : List Iw), e = .returned (.agg #[.slice (some ⟨g, 0, none⟩) n n]) ∧ ms.map Iw.ks = xs.map Iw.ks ∧ RdII w' (some ⟨g, 0, none⟩) ms ∧ Below u.heap.size u w') := fun u hu => (HTWT.out u hu).mono (fun e w' ⟨g, ms, h1, h2, _, h4, _, h6, h7⟩ => ⟨g, ms, h1, h2, h4, h7⟩)
  have HTWU := kide (fun u (hu : Below w.heap.size w u) => toCuts_own d c3 ys u (hys.later hu) m hm)
  have HTTU : Hid (∀ u, Below w.heap.size w u → Calls Try.prog 8 #[.agg #[.slice d m c3]] u fun e w' => ∃ (g : Nat) (ms : List Iw), e = .returned (.agg #[.slice (some ⟨g, 0, none⟩) m m]) ∧ ms.map Iw.ks = ys.map Iw.ks ∧ RdII w' (some ⟨g, 0, none⟩) ms ∧ Below u.heap.size u w') := fun u hu => (HTWU.out u hu).mono (fun e w' ⟨g, ms, h1, h2, _, h4, _, h6, h7⟩ => ⟨g, ms, h1, h2, h4, h7⟩)
  obtain ⟨R, hR⟩ : ∃ R, addZ ds (xs.map Iw.ks) (ys.map Iw.ks) = R := ⟨_, rfl⟩
  obtain ⟨Q, hQ⟩ : ∃ Q, okA ds (xs.map Iw.ks) (ys.map Iw.ks) = Q := ⟨_, rfl⟩
  obtain ⟨nX, hnX⟩ : ∃ k, R.length = k := ⟨_, rfl⟩
  have HSE : Hid (∀ (u : World) (gd gt gu : Nat) (mt mu : List Iw), Below w.heap.size w u → RdD u (some ⟨gd, 0, none⟩) ds → RdII u (some ⟨gt, 0, none⟩) mt → mt.map Iw.ks = xs.map Iw.ks → RdII u (some ⟨gu, 0, none⟩) mu → mu.map Iw.ks = ys.map Iw.ks → Calls Try.prog 6 #[.slice (some ⟨gd, 0, none⟩) ds.length ds.length, .agg #[.slice (some ⟨gt, 0, none⟩) n n], .agg #[.slice (some ⟨gu, 0, none⟩) m m]] u fun e w' => ∃ (v : Option Addr) (k : Nat) (vs : List Value), e = .returned (.tuple #[.agg #[.slice v nX k], .bool Q]) ∧ HoldR w' u.heap.size w'.heap.size v vs R ∧ Below u.heap.size u w') := fun u gd gt gu mt mu hu h1 h2 e2 h3 e3 => by
    have h := specAdd_any (some ⟨gd, 0, none⟩) (some ⟨gt, 0, none⟩) (some ⟨gu, 0, none⟩) ds.length n m ds mt mu n m (len_of_ks e2 hn) (len_of_ks e3 hm) u h1 h2 h3
    rw [e2, e3, hR, hQ, hnX] at h
    exact h
  have HIE : Hid (∀ (u : World) (gd gt gu : Nat) (mt mu : List Iw), Below w.heap.size w u → RdD u (some ⟨gd, 0, none⟩) ds → RdII u (some ⟨gt, 0, none⟩) mt → mt.map Iw.ks = xs.map Iw.ks → RdII u (some ⟨gu, 0, none⟩) mu → mu.map Iw.ks = ys.map Iw.ks → Calls Try.prog 9 #[.slice (some ⟨gd, 0, none⟩) ds.length ds.length, .agg #[.slice (some ⟨gt, 0, none⟩) n n], .agg #[.slice (some ⟨gu, 0, none⟩) m m]] u fun e w' => ∃ (v : Option Addr) (k : Nat) (vs : List Value), e = .returned (.tuple #[.agg #[.slice v nX k], .bool Q]) ∧ HoldR w' u.heap.size w'.heap.size v vs R ∧ Below u.heap.size u w') := fun u gd gt gu mt mu hu h1 h2 e2 h3 e3 => by
    have h := implAdd_any (some ⟨gd, 0, none⟩) (some ⟨gt, 0, none⟩) (some ⟨gu, 0, none⟩) ds.length n m ds mt mu n m (len_of_ks e2 hn) (len_of_ks e3 hm) u h1 h2 h3
    rw [e2, e3, hR, hQ, hnX] at h
    exact h
  rw [hR] at HXO hXl
  rw [hnX] at hXl
  have HNX := kide hnX
  have HSM := kide (And.intro hn2 (And.intro hm2 (And.intro hd2 hXl)))
  have B0 : Hid (Below w.heap.size w ((w.alloc (Obj.cells #[Value.slice b n c2] 25)).alloc (Obj.cells #[Value.slice d m c3] 25))) := ((Below.refl _ _).alloc (Nat.le_refl _) _).alloc (by simp) _
  have T0 : Hid (Bz ((w.alloc (Obj.cells #[Value.slice b n c2] 25)).alloc (Obj.cells #[Value.slice d m c3] 25)) w.heap.size #[Value.slice b n c2] 25) := (Bz.new w _ _).later ((Below.refl _ _).alloc (Nat.le_refl _) _)
  have U0 : Hid (Bz ((w.alloc (Obj.cells #[Value.slice b n c2] 25)).alloc (Obj.cells #[Value.slice d m c3] 25)) (w.heap.size + 1) #[Value.slice d m c3] 25) := by
    have h9 := Bz.new (w.alloc (Obj.cells #[Value.slice b n c2] 25)) #[Value.slice d m c3] 25
    rw [show (w.alloc (Obj.cells #[Value.slice b n c2] 25)).heap.size = w.heap.size + 1 by simp] at h9
    exact h9
  have hqq : (Q != Q) = false := by simp
  clear hr hxs hys hn hm hR hnX hQ hn2 hm2 hd2 hXl
  go_enter Try.func3, Try.ntmps3
  go_wp2_with fail
  generalize (w.alloc (Obj.cells #[Value.slice b n c2] 25)).alloc (Obj.cells #[Value.slice d m c3] 25) = w0 at *
  obtain ⟨b0, hb0⟩ : ∃ b0, w.heap.size = b0 := ⟨_, rfl⟩
  have HB0 := kide hb0
  rw [hb0] at T0 U0
  simp only [hb0]
  clear hb0
  refine Calls.mono (HSZ.out _ B0.out) ?_
  rintro e w1 ⟨rfl, hb1⟩
  have T1 := kide (T0.out.later hb1)
  have U1 := kide (U0.out.later hb1)
  have B1 := kide (B0.out.trans (hb1.mono B0.out.size))
  have c1 := T1.out.cell 0
  simp at c1
  clear hb1 T0 U0 B0
  go_wp2_with fail
  refine Calls.mono (HSC.out w1 B1.out) ?_
  rintro e w2 ⟨rfl, hb2⟩
  have T2 := kide (T1.out.later hb2)
  have U2 := kide (U1.out.later hb2)
  have B2 := kide (B1.out.trans (hb2.mono B1.out.size))
  have c2' := U2.out.cell 0
  simp at c2'
  clear hb2 T1 U1 B1 c1
  go_wp2_with fail
  refine Calls.mono (HSD.out w2 B2.out) ?_
  rintro e w3 ⟨rfl, hb3⟩
  have XTS := kide (T2.out.later hb3)
  have XUS := kide (U2.out.later hb3)
  have BVS := kide (B2.out.trans (hb3.mono B2.out.size))
  have HWS : Hid (b0 + 1 < w3.heap.size) := XUS.out.lt
  clear hb3 T2 U2 B2 c2'
  go_wp2_with fail
  apply share6 (F := fun v bN aw cw ls gd gt gu => Below w3.heap.size w3 v ∧ Bz v bN #[Value.slice aw nX cw] 28 ∧ HoldX v w3.heap.size aw ls R ∧ w3.heap.size ≤ bN)
  · skip
    intro key
    refine wp_region_x (SA := fun _ => False) (SB := fun z => z.cell? ⟨b0, 0, none⟩ = some (Value.slice b n c2) ∧ z.cell? ⟨b0 + 1, 0, none⟩ = some (Value.slice d m c3)) (k := 999) (by kernel_rfl) ?_
    have hbd : Below w3.heap.size w3 w3.drew := (Below.refl _ _).drew
    have XT0 := kide (XTS.out.later hbd)
    have XU0 := kide (XUS.out.later hbd)
    have BS0 := kide hbd
    have BV0 := kide (BVS.out.drew)
    clear hbd
    generalize w3.drew = v0 at *
    have hs0 : Hid ((fun z => z.cell? ⟨b0, 0, none⟩ = some (Value.slice b n c2) ∧ z.cell? ⟨b0 + 1, 0, none⟩ = some (Value.slice d m c3)) v0) := ⟨XT0.out.cell 0, XU0.out.cell 0⟩
    try go_simp
    refine wpAnyX_both (T := fun z => z.cell? ⟨b0, 0, none⟩ = some (Value.slice b n c2) ∧ z.cell? ⟨b0 + 1, 0, none⟩ = some (Value.slice d m c3)) (i := 0) (v := Value.slice a ds.length c) rfl (by kernel_rfl) (by kernel_rfl) (by kernel_rfl) (fun _ _ _ h => by first | exact h | exact h.elim) (by decide) (fun _ h => h.elim) (fun _ h => h) (Sx.behind (by kernel_rfl) hs0.out) (Or.inl ⟨by rfl, fun z hz => by obtain ⟨hz1, hz2⟩ := hz; go_simp⟩) ?_
    try go_simp
    refine wpAnyX_both (T := fun z => z.cell? ⟨b0, 0, none⟩ = some (Value.slice b n c2) ∧ z.cell? ⟨b0 + 1, 0, none⟩ = some (Value.slice d m c3)) (i := 2) (v := Value.agg #[Value.slice b n c2]) rfl (by kernel_rfl) (by kernel_rfl) (by kernel_rfl) (fun _ _ _ h => by first | exact h | exact h.elim) (by decide) (fun _ h => h.elim) (fun _ h => h) (Sx.behind (by kernel_rfl) hs0.out) (Or.inl ⟨by rfl, fun z hz => by obtain ⟨hz1, hz2⟩ := hz; go_simp⟩) ?_
    try go_simp
    refine wpAnyX_both (T := fun z => z.cell? ⟨b0, 0, none⟩ = some (Value.slice b n c2) ∧ z.cell? ⟨b0 + 1, 0, none⟩ = some (Value.slice d m c3)) (i := 4) (v := Value.agg #[Value.slice d m c3]) rfl (by kernel_rfl) (by kernel_rfl) (by kernel_rfl) (fun _ _ _ h => by first | exact h | exact h.elim) (by decide) (fun _ h => h.elim) (fun _ h => h) (Sx.behind (by kernel_rfl) hs0.out) (Or.inl ⟨by rfl, fun z hz => by obtain ⟨hz1, hz2⟩ := hz; go_simp⟩) ?_
    try go_simp
    refine wpAnyX_ready (rs := [1, 10]) (by kernel_rfl) (by simp) (AllX.cons rfl (fun K hK => ?_) (AllX.cons rfl (fun K hK => ?_) AllX.nil))
    · go_simp
      refine Calls.mono (HTD.out v0 BV0.out) ?_
      rintro e v1 ⟨rfl, rd, -, hb1⟩
      have XT1 := kide (XT0.out.later hb1)
      have XU1 := kide (XU0.out.later hb1)
      have BS1 := kide (BS0.out.trans (hb1.mono BS0.out.size))
      have BV1 := kide (BV0.out.trans (hb1.mono BV0.out.size))
      obtain ⟨gd, hgd⟩ : ∃ x, v0.heap.size = x := ⟨_, rfl⟩
      rw [hgd] at rd ⊢
      have RD1 := kide rd
      clear rd hgd hb1
      have hs1 : Hid ((fun z => z.cell? ⟨b0, 0, none⟩ = some (Value.slice b n c2) ∧ z.cell? ⟨b0 + 1, 0, none⟩ = some (Value.slice d m c3)) v1) := ⟨XT1.out.cell 0, XU1.out.cell 0⟩
      refine hK _ _ (Sx.behind (by kernel_rfl) hs1.out) ?_
      clear hK K
      try go_simp
      refine wpAnyX_ready (rs := [3, 10]) (by kernel_rfl) (by simp) (AllX.cons rfl (fun K hK => ?_) (AllX.cons rfl (fun K hK => ?_) AllX.nil))
      · go_simp
        refine Calls.mono (HTTT.out v1 BV1.out) ?_
        rintro e v2 ⟨gt, mt, rfl, hmt, rt, hb2⟩
        have XT2 := kide (XT1.out.later hb2)
        have XU2 := kide (XU1.out.later hb2)
        have RD2 := kide (RD1.out.later hb2)
        have BS2 := kide (BS1.out.trans (hb2.mono BS1.out.size))
        have BV2 := kide (BV1.out.trans (hb2.mono BV1.out.size))
        have RT2 := kide rt
        have MT := kide hmt
        clear rt hmt hb2
        have hs2 : Hid ((fun z => z.cell? ⟨b0, 0, none⟩ = some (Value.slice b n c2) ∧ z.cell? ⟨b0 + 1, 0, none⟩ = some (Value.slice d m c3)) v2) := ⟨XT2.out.cell 0, XU2.out.cell 0⟩
        refine hK _ _ (Sx.behind (by kernel_rfl) hs2.out) ?_
        clear hK K
        try go_simp
        refine wpAnyX_ready (rs := [5, 10]) (by kernel_rfl) (by simp) (AllX.cons rfl (fun K hK => ?_) (AllX.cons rfl (fun K hK => ?_) AllX.nil))
        · go_simp
          refine Calls.mono (HTTU.out v2 BV2.out) ?_
          rintro e v3 ⟨gu, mu, rfl, hmt, rt, hb3⟩
          have XT3 := kide (XT2.out.later hb3)
          have XU3 := kide (XU2.out.later hb3)
          have RD3 := kide (RD2.out.later hb3)
          have RT3 := kide (RT2.out.later hb3)
          have BS3 := kide (BS2.out.trans (hb3.mono BS2.out.size))
          have BV3 := kide (BV2.out.trans (hb3.mono BV2.out.size))
          have RU3 := kide rt
          have MU := kide hmt
          clear rt hmt hb3
          have hs3 : Hid ((fun z => z.cell? ⟨b0, 0, none⟩ = some (Value.slice b n c2) ∧ z.cell? ⟨b0 + 1, 0, none⟩ = some (Value.slice d m c3)) v3) := ⟨XT3.out.cell 0, XU3.out.cell 0⟩
          refine hK _ _ (Sx.behind (by kernel_rfl) hs3.out) ?_
          clear hK K
          try go_simp
          refine wpAnyX_ready (rs := [6, 10]) (by kernel_rfl) (by simp) (AllX.cons rfl (fun K hK => ?_) (AllX.cons rfl (fun K hK => ?_) AllX.nil))
          · go_simp
            refine Calls.mono (HSE.out v3 gd gt gu mt mu BV3.out RD3.out RT3.out MT.out RU3.out MU.out) ?_
            rintro e v4 ⟨aw, cw, ls, rfl, hts, hb4⟩
            have XT4 := kide (XT3.out.later hb4)
            have XU4 := kide (XU3.out.later hb4)
            have RD4 := kide (RD3.out.later hb4)
            have RT4 := kide (RT3.out.later hb4)
            have RU4 := kide (RU3.out.later hb4)
            have BS4 := kide (BS3.out.trans (hb4.mono BS3.out.size))
            have BV4 := kide (BV3.out.trans (hb4.mono BV3.out.size))
            have TW4 : Hid (HoldX v4 w3.heap.size aw ls R) := HoldR.lower hts BS3.out.size
            clear hts hb4
            have hs4 : Hid ((fun z => z.cell? ⟨b0, 0, none⟩ = some (Value.slice b n c2) ∧ z.cell? ⟨b0 + 1, 0, none⟩ = some (Value.slice d m c3)) v4) := ⟨XT4.out.cell 0, XU4.out.cell 0⟩
            refine hK _ _ (Sx.behind (by kernel_rfl) hs4.out) ?_
            clear hK K
            try go_simp
            refine wpAnyX_both (T := fun z => z.cell? ⟨b0, 0, none⟩ = some (Value.slice b n c2) ∧ z.cell? ⟨b0 + 1, 0, none⟩ = some (Value.slice d m c3)) (i := 7) (v := Value.tuple #[Value.agg #[Value.slice aw nX cw], Value.bool Q]) rfl (by kernel_rfl) (by kernel_rfl) (by kernel_rfl) (fun _ _ _ h => by first | exact h | exact h.elim) (by decide) (fun _ h => h.elim) (fun _ h => h) (Sx.behind (by kernel_rfl) hs4.out) (Or.inl ⟨by rfl, fun z hz => by obtain ⟨hz1, hz2⟩ := hz; go_simp⟩) ?_
            try go_simp
            refine wpAnyX_both (T := fun z => z.cell? ⟨b0, 0, none⟩ = some (Value.slice b n c2) ∧ z.cell? ⟨b0 + 1, 0, none⟩ = some (Value.slice d m c3)) (i := 8) (v := Value.agg #[Value.slice aw nX cw]) rfl (by kernel_rfl) (by kernel_rfl) (by kernel_rfl) (fun _ _ _ h => by first | exact h | exact h.elim) (by decide) (fun _ h => h.elim) (fun _ h => h) (Sx.behind (by kernel_rfl) hs4.out) (Or.inl ⟨by rfl, fun z hz => by obtain ⟨hz1, hz2⟩ := hz; go_simp⟩) ?_
            try go_simp
            refine wpAnyX_both (T := fun z => z.cell? ⟨b0, 0, none⟩ = some (Value.slice b n c2) ∧ z.cell? ⟨b0 + 1, 0, none⟩ = some (Value.slice d m c3)) (i := 9) (v := Value.bool Q) rfl (by kernel_rfl) (by kernel_rfl) (by kernel_rfl) (fun _ _ _ h => by first | exact h | exact h.elim) (by decide) (fun _ h => h.elim) (fun _ h => h) (Sx.behind (by kernel_rfl) hs4.out) (Or.inl ⟨by rfl, fun z hz => by obtain ⟨hz1, hz2⟩ := hz; go_simp⟩) ?_
            try go_simp
            refine wpAnyX_ready (rs := [10]) (by kernel_rfl) (by simp) (AllX.cons rfl (fun K hK => ?_) AllX.nil)
            go_simp
            have hbx : Below v4.heap.size v4 (v4.alloc (Obj.cells #[Value.slice none 0 0] 28)) := (Below.refl _ _).alloc (Nat.le_refl _) _
            have XT5 := kide (XT4.out.later hbx)
            have XU5 := kide (XU4.out.later hbx)
            have TW5 := kide (TW4.out.later hbx)
            have BS5 := kide (BS4.out.trans (hbx.mono BS4.out.size))
            have BV5 := kide (BV4.out.trans (hbx.mono BV4.out.size))
            have XN5 := kide (Bz.new v4 #[Value.slice none 0 0] 28)
            have hN : Hid (w3.heap.size ≤ v4.heap.size) := BS4.out.size
            obtain ⟨bN, hbN⟩ : ∃ x, v4.heap.size = x := ⟨_, rfl⟩
            rw [hbN] at XN5 hN ⊢
            clear hbN hbx
            generalize v4.alloc (Obj.cells #[Value.slice none 0 0] 28) = v5 at *
            have hs5 : Hid ((fun z => z.cell? ⟨b0, 0, none⟩ = some (Value.slice b n c2) ∧ z.cell? ⟨b0 + 1, 0, none⟩ = some (Value.slice d m c3)) v5) := ⟨XT5.out.cell 0, XU5.out.cell 0⟩
            refine hK _ _ (Sx.behind (by kernel_rfl) hs5.out) ?_
            clear hK K
            try go_simp
            refine wpAnyX_ready (rs := [11]) (by kernel_rfl) (by simp) (AllX.cons rfl (fun K hK => ?_) AllX.nil)
            have e8 := XN5.out.cell 0
            have f8 := XN5.out.froz 0
            simp at e8
            go_simp
            have XN6 : Hid (Bz (v5.setCell ⟨bN, 0, none⟩ (Value.slice aw nX cw)) bN #[Value.slice aw nX cw] 28) := XN5.out.set 0 _
            have XT6 : Hid (Bz (v5.setCell ⟨bN, 0, none⟩ (Value.slice aw nX cw)) b0 #[Value.slice b n c2] 25) := XT5.out.other (by have := hN.out; have := HWS.out; omega) 0 _
            have XU6 : Hid (Bz (v5.setCell ⟨bN, 0, none⟩ (Value.slice aw nX cw)) (b0 + 1) #[Value.slice d m c3] 25) := XU5.out.other (by have := hN.out; have := HWS.out; omega) 0 _
            have BS6 : Hid (Below w3.heap.size w3 (v5.setCell ⟨bN, 0, none⟩ (Value.slice aw nX cw))) := BS5.out.setCell (show w3.heap.size ≤ bN from hN.out) _
            have BV6 : Hid (Below w.heap.size w (v5.setCell ⟨bN, 0, none⟩ (Value.slice aw nX cw))) := BV5.out.setCell (show w.heap.size ≤ bN by have := hN.out; have := HWS.out; have := HB0.out; omega) _
            have TW6 : Hid (HoldX (v5.setCell ⟨bN, 0, none⟩ (Value.slice aw nX cw)) w3.heap.size aw ls R) := TW5.out.set XN5.out (by decide) (by decide) _
            generalize v5.setCell ⟨bN, 0, none⟩ (Value.slice aw nX cw) = v6 at *
            clear e8 f8
            have hs6 : Hid ((fun z => z.cell? ⟨b0, 0, none⟩ = some (Value.slice b n c2) ∧ z.cell? ⟨b0 + 1, 0, none⟩ = some (Value.slice d m c3)) v6) := ⟨XT6.out.cell 0, XU6.out.cell 0⟩
            refine hK _ _ (Sx.behind (by kernel_rfl) hs6.out) ?_
            clear hK K
            try go_simp
            refine wpAnyX_both (T := fun z => z.cell? ⟨b0, 0, none⟩ = some (Value.slice b n c2) ∧ z.cell? ⟨b0 + 1, 0, none⟩ = some (Value.slice d m c3)) (i := 12) (v := Value.bool Q) rfl (by kernel_rfl) (by kernel_rfl) (by kernel_rfl) (fun _ _ _ h => by first | exact h | exact h.elim) (by decide) (fun _ h => h.elim) (fun _ h => h) (Sx.behind (by kernel_rfl) hs6.out) (Or.inl ⟨by rfl, fun z hz => by obtain ⟨hz1, hz2⟩ := hz; go_simp⟩) ?_
            try go_simp
            refine wpAnyX_done (by kernel_rfl) ?_ _
            try go_simp
            exact key v6 bN aw cw ls gd gt gu ⟨BS6.out, XN6.out, TW6.out, hN.out⟩
          · go_simp
            have hbx : Below v3.heap.size v3 (v3.alloc (Obj.cells #[Value.slice none 0 0] 28)) := (Below.refl _ _).alloc (Nat.le_refl _) _
            have XT4 := kide (XT3.out.later hbx)
            have XU4 := kide (XU3.out.later hbx)
            have RD4 := kide (RD3.out.later hbx)
            have RT4 := kide (RT3.out.later hbx)
            have RU4 := kide (RU3.out.later hbx)
            have BS4 := kide (BS3.out.trans (hbx.mono BS3.out.size))
            have BV4 := kide (BV3.out.trans (hbx.mono BV3.out.size))
            have XN4 := kide (Bz.new v3 #[Value.slice none 0 0] 28)
            have hN : Hid (w3.heap.size ≤ v3.heap.size) := BS3.out.size
            obtain ⟨bN, hbN⟩ : ∃ x, v3.heap.size = x := ⟨_, rfl⟩
            rw [hbN] at XN4 hN ⊢
            clear hbN hbx
            generalize v3.alloc (Obj.cells #[Value.slice none 0 0] 28) = v4 at *
            have hs4 : Hid ((fun z => z.cell? ⟨b0, 0, none⟩ = some (Value.slice b n c2) ∧ z.cell? ⟨b0 + 1, 0, none⟩ = some (Value.slice d m c3)) v4) := ⟨XT4.out.cell 0, XU4.out.cell 0⟩
            refine hK _ _ (Sx.behind (by kernel_rfl) hs4.out) ?_
            clear hK K
            try go_simp
            refine wpAnyX_ready (rs := [6]) (by kernel_rfl) (by simp) (AllX.cons rfl (fun K hK => ?_) AllX.nil)
            go_simp
            refine Calls.mono (HSE.out v4 gd gt gu mt mu BV4.out RD4.out RT4.out MT.out RU4.out MU.out) ?_
            rintro e v5 ⟨aw, cw, ls, rfl, hts, hb5⟩
            have XT5 := kide (XT4.out.later hb5)
            have XU5 := kide (XU4.out.later hb5)
            have RD5 := kide (RD4.out.later hb5)
            have RT5 := kide (RT4.out.later hb5)
            have RU5 := kide (RU4.out.later hb5)
            have XN5 := kide (XN4.out.later hb5)
            have BS5 := kide (BS4.out.trans (hb5.mono BS4.out.size))
            have BV5 := kide (BV4.out.trans (hb5.mono BV4.out.size))
            have TW5 : Hid (HoldX v5 w3.heap.size aw ls R) := HoldR.lower hts BS4.out.size
            clear hts hb5
            have hs5 : Hid ((fun z => z.cell? ⟨b0, 0, none⟩ = some (Value.slice b n c2) ∧ z.cell? ⟨b0 + 1, 0, none⟩ = some (Value.slice d m c3)) v5) := ⟨XT5.out.cell 0, XU5.out.cell 0⟩
            refine hK _ _ (Sx.behind (by kernel_rfl) hs5.out) ?_
            clear hK K
            try go_simp
            refine wpAnyX_both (T := fun z => z.cell? ⟨b0, 0, none⟩ = some (Value.slice b n c2) ∧ z.cell? ⟨b0 + 1, 0, none⟩ = some (Value.slice d m c3)) (i := 7) (v := Value.tuple #[Value.agg #[Value.slice aw nX cw], Value.bool Q]) rfl (by kernel_rfl) (by kernel_rfl) (by kernel_rfl) (fun _ _ _ h => by first | exact h | exact h.elim) (by decide) (fun _ h => h.elim) (fun _ h => h) (Sx.behind (by kernel_rfl) hs5.out) (Or.inl ⟨by rfl, fun z hz => by obtain ⟨hz1, hz2⟩ := hz; go_simp⟩) ?_
            try go_simp
            refine wpAnyX_both (T := fun z => z.cell? ⟨b0, 0, none⟩ = some (Value.slice b n c2) ∧ z.cell? ⟨b0 + 1, 0, none⟩ = some (Value.slice d m c3)) (i := 8) (v := Value.agg #[Value.slice aw nX cw]) rfl (by kernel_rfl) (by kernel_rfl) (by kernel_rfl) (fun _ _ _ h => by first | exact h | exact h.elim) (by decide) (fun _ h => h.elim) (fun _ h => h) (Sx.behind (by kernel_rfl) hs5.out) (Or.inl ⟨by rfl, fun z hz => by obtain ⟨hz1, hz2⟩ := hz; go_simp⟩) ?_
            try go_simp
            refine wpAnyX_both (T := fun z => z.cell? ⟨b0, 0, none⟩ = some (Value.slice b n c2) ∧ z.cell? ⟨b0 + 1, 0, none⟩ = some (Value.slice d m c3)) (i := 9) (v := Value.bool Q) rfl (by kernel_rfl) (by kernel_rfl) (by kernel_rfl) (fun _ _ _ h => by first | exact h | exact h.elim) (by decide) (fun _ h => h.elim) (fun _ h => h) (Sx.behind (by kernel_rfl) hs5.out) (Or.inl ⟨by rfl, fun z hz => by obtain ⟨hz1, hz2⟩ := hz; go_simp⟩) ?_
            try go_simp
            refine wpAnyX_ready (rs := [11]) (by kernel_rfl) (by simp) (AllX.cons rfl (fun K hK => ?_) AllX.nil)
            have e8 := XN5.out.cell 0
            have f8 := XN5.out.froz 0
            simp at e8
            go_simp
            have XN6 : Hid (Bz (v5.setCell ⟨bN, 0, none⟩ (Value.slice aw nX cw)) bN #[Value.slice aw nX cw] 28) := XN5.out.set 0 _
            have XT6 : Hid (Bz (v5.setCell ⟨bN, 0, none⟩ (Value.slice aw nX cw)) b0 #[Value.slice b n c2] 25) := XT5.out.other (by have := hN.out; have := HWS.out; omega) 0 _
            have XU6 : Hid (Bz (v5.setCell ⟨bN, 0, none⟩ (Value.slice aw nX cw)) (b0 + 1) #[Value.slice d m c3] 25) := XU5.out.other (by have := hN.out; have := HWS.out; omega) 0 _
            have BS6 : Hid (Below w3.heap.size w3 (v5.setCell ⟨bN, 0, none⟩ (Value.slice aw nX cw))) := BS5.out.setCell (show w3.heap.size ≤ bN from hN.out) _
            have BV6 : Hid (Below w.heap.size w (v5.setCell ⟨bN, 0, none⟩ (Value.slice aw nX cw))) := BV5.out.setCell (show w.heap.size ≤ bN by have := hN.out; have := HWS.out; have := HB0.out; omega) _
            have TW6 : Hid (HoldX (v5.setCell ⟨bN, 0, none⟩ (Value.slice aw nX cw)) w3.heap.size aw ls R) := TW5.out.set XN5.out (by decide) (by decide) _
            generalize v5.setCell ⟨bN, 0, none⟩ (Value.slice aw nX cw) = v6 at *
            clear e8 f8
            have hs6 : Hid ((fun z => z.cell? ⟨b0, 0, none⟩ = some (Value.slice b n c2) ∧ z.cell? ⟨b0 + 1, 0, none⟩ = some (Value.slice d m c3)) v6) := ⟨XT6.out.cell 0, XU6.out.cell 0⟩
            refine hK _ _ (Sx.behind (by kernel_rfl) hs6.out) ?_
            clear hK K
            try go_simp
            refine wpAnyX_both (T := fun z => z.cell? ⟨b0, 0, none⟩ = some (Value.slice b n c2) ∧ z.cell? ⟨b0 + 1, 0, none⟩ = some (Value.slice d m c3)) (i := 12) (v := Value.bool Q) rfl (by kernel_rfl) (by kernel_rfl) (by kernel_rfl) (fun _ _ _ h => by first | exact h | exact h.elim) (by decide) (fun _ h => h.elim) (fun _ h => h) (Sx.behind (by kernel_rfl) hs6.out) (Or.inl ⟨by rfl, fun z hz => by obtain ⟨hz1, hz2⟩ := hz; go_simp⟩) ?_
            try go_simp
            refine wpAnyX_done (by kernel_rfl) ?_ _
            try go_simp
            exact key v6 bN aw cw ls gd gt gu ⟨BS6.out, XN6.out, TW6.out, hN.out⟩
        · go_simp
          have hbx : Below v2.heap.size v2 (v2.alloc (Obj.cells #[Value.slice none 0 0] 28)) := (Below.refl _ _).alloc (Nat.le_refl _) _
          have XT3 := kide (XT2.out.later hbx)
          have XU3 := kide (XU2.out.later hbx)
          have RD3 := kide (RD2.out.later hbx)
          have RT3 := kide (RT2.out.later hbx)
          have BS3 := kide (BS2.out.trans (hbx.mono BS2.out.size))
          have BV3 := kide (BV2.out.trans (hbx.mono BV2.out.size))
          have XN3 := kide (Bz.new v2 #[Value.slice none 0 0] 28)
          have hN : Hid (w3.heap.size ≤ v2.heap.size) := BS2.out.size
          obtain ⟨bN, hbN⟩ : ∃ x, v2.heap.size = x := ⟨_, rfl⟩
          rw [hbN] at XN3 hN ⊢
          clear hbN hbx
          generalize v2.alloc (Obj.cells #[Value.slice none 0 0] 28) = v3 at *
          have hs3 : Hid ((fun z => z.cell? ⟨b0, 0, none⟩ = some (Value.slice b n c2) ∧ z.cell? ⟨b0 + 1, 0, none⟩ = some (Value.slice d m c3)) v3) := ⟨XT3.out.cell 0, XU3.out.cell 0⟩
          refine hK _ _ (Sx.behind (by kernel_rfl) hs3.out) ?_
          clear hK K
          try go_simp
          refine wpAnyX_ready (rs := [5]) (by kernel_rfl) (by simp) (AllX.cons rfl (fun K hK => ?_) AllX.nil)
          go_simp
          refine Calls.mono (HTTU.out v3 BV3.out) ?_
          rintro e v4 ⟨gu, mu, rfl, hmt, rt, hb4⟩
          have XT4 := kide (XT3.out.later hb4)
          have XU4 := kide (XU3.out.later hb4)
          have RD4 := kide (RD3.out.later hb4)
          have RT4 := kide (RT3.out.later hb4)
          have XN4 := kide (XN3.out.later hb4)
          have BS4 := kide (BS3.out.trans (hb4.mono BS3.out.size))
          have BV4 := kide (BV3.out.trans (hb4.mono BV3.out.size))
          have RU4 := kide rt
          have MU := kide hmt
          clear rt hmt hb4
          have hs4 : Hid ((fun z => z.cell? ⟨b0, 0, none⟩ = some (Value.slice b n c2) ∧ z.cell? ⟨b0 + 1, 0, none⟩ = some (Value.slice d m c3)) v4) := ⟨XT4.out.cell 0, XU4.out.cell 0⟩
          refine hK _ _ (Sx.behind (by kernel_rfl) hs4.out) ?_
          clear hK K
          try go_simp
          refine wpAnyX_ready (rs := [6]) (by kernel_rfl) (by simp) (AllX.cons rfl (fun K hK => ?_) AllX.nil)
          go_simp
          refine Calls.mono (HSE.out v4 gd gt gu mt mu BV4.out RD4.out RT4.out MT.out RU4.out MU.out) ?_
          rintro e v5 ⟨aw, cw, ls, rfl, hts, hb5⟩
          have XT5 := kide (XT4.out.later hb5)
          have XU5 := kide (XU4.out.later hb5)
          have RD5 := kide (RD4.out.later hb5)
          have RT5 := kide (RT4.out.later hb5)
          have XN5 := kide (XN4.out.later hb5)
          have RU5 := kide (RU4.out.later hb5)
          have BS5 := kide (BS4.out.trans (hb5.mono BS4.out.size))
          have BV5 := kide (BV4.out.trans (hb5.mono BV4.out.size))
          have TW5 : Hid (HoldX v5 w3.heap.size aw ls R) := HoldR.lower hts BS4.out.size
          clear hts hb5
          have hs5 : Hid ((fun z => z.cell? ⟨b0, 0, none⟩ = some (Value.slice b n c2) ∧ z.cell? ⟨b0 + 1, 0, none⟩ = some (Value.slice d m c3)) v5) := ⟨XT5.out.cell 0, XU5.out.cell 0⟩
          refine hK _ _ (Sx.behind (by kernel_rfl) hs5.out) ?_
          clear hK K
          try go_simp
          refine wpAnyX_both (T := fun z => z.cell? ⟨b0, 0, none⟩ = some (Value.slice b n c2) ∧ z.cell? ⟨b0 + 1, 0, none⟩ = some (Value.slice d m c3)) (i := 7) (v := Value.tuple #[Value.agg #[Value.slice aw nX cw], Value.bool Q]) rfl (by kernel_rfl) (by kernel_rfl) (by kernel_rfl) (fun _ _ _ h => by first | exact h | exact h.elim) (by decide) (fun _ h => h.elim) (fun _ h => h) (Sx.behind (by kernel_rfl) hs5.out) (Or.inl ⟨by rfl, fun z hz => by obtain ⟨hz1, hz2⟩ := hz; go_simp⟩) ?_
          try go_simp
          refine wpAnyX_both (T := fun z => z.cell? ⟨b0, 0, none⟩ = some (Value.slice b n c2) ∧ z.cell? ⟨b0 + 1, 0, none⟩ = some (Value.slice d m c3)) (i := 8) (v := Value.agg #[Value.slice aw nX cw]) rfl (by kernel_rfl) (by kernel_rfl) (by kernel_rfl) (fun _ _ _ h => by first | exact h | exact h.elim) (by decide) (fun _ h => h.elim) (fun _ h => h) (Sx.behind (by kernel_rfl) hs5.out) (Or.inl ⟨by rfl, fun z hz => by obtain ⟨hz1, hz2⟩ := hz; go_simp⟩) ?_
          try go_simp
          refine wpAnyX_both (T := fun z => z.cell? ⟨b0, 0, none⟩ = some (Value.slice b n c2) ∧ z.cell? ⟨b0 + 1, 0, none⟩ = some (Value.slice d m c3)) (i := 9) (v := Value.bool Q) rfl (by kernel_rfl) (by kernel_rfl) (by kernel_rfl) (fun _ _ _ h => by first | exact h | exact h.elim) (by decide) (fun _ h => h.elim) (fun _ h => h) (Sx.behind (by kernel_rfl) hs5.out) (Or.inl ⟨by rfl, fun z hz => by obtain ⟨hz1, hz2⟩ := hz; go_simp⟩) ?_
          try go_simp
          refine wpAnyX_ready (rs := [11]) (by kernel_rfl) (by simp) (AllX.cons rfl (fun K hK => ?_) AllX.nil)
          have e8 := XN5.out.cell 0
          have f8 := XN5.out.froz 0
          simp at e8
          go_simp
          have XN6 : Hid (Bz (v5.setCell ⟨bN, 0, none⟩ (Value.slice aw nX cw)) bN #[Value.slice aw nX cw] 28) := XN5.out.set 0 _
          have XT6 : Hid (Bz (v5.setCell ⟨bN, 0, none⟩ (Value.slice aw nX cw)) b0 #[Value.slice b n c2] 25) := XT5.out.other (by have := hN.out; have := HWS.out; omega) 0 _
          have XU6 : Hid (Bz (v5.setCell ⟨bN, 0, none⟩ (Value.slice aw nX cw)) (b0 + 1) #[Value.slice d m c3] 25) := XU5.out.other (by have := hN.out; have := HWS.out; omega) 0 _
          have BS6 : Hid (Below w3.heap.size w3 (v5.setCell ⟨bN, 0, none⟩ (Value.slice aw nX cw))) := BS5.out.setCell (show w3.heap.size ≤ bN from hN.out) _
          have BV6 : Hid (Below w.heap.size w (v5.setCell ⟨bN, 0, none⟩ (Value.slice aw nX cw))) := BV5.out.setCell (show w.heap.size ≤ bN by have := hN.out; have := HWS.out; have := HB0.out; omega) _
          have TW6 : Hid (HoldX (v5.setCell ⟨bN, 0, none⟩ (Value.slice aw nX cw)) w3.heap.size aw ls R) := TW5.out.set XN5.out (by decide) (by decide) _
          generalize v5.setCell ⟨bN, 0, none⟩ (Value.slice aw nX cw) = v6 at *
          clear e8 f8
          have hs6 : Hid ((fun z => z.cell? ⟨b0, 0, none⟩ = some (Value.slice b n c2) ∧ z.cell? ⟨b0 + 1, 0, none⟩ = some (Value.slice d m c3)) v6) := ⟨XT6.out.cell 0, XU6.out.cell 0⟩
          refine hK _ _ (Sx.behind (by kernel_rfl) hs6.out) ?_
          clear hK K
          try go_simp
          refine wpAnyX_both (T := fun z => z.cell? ⟨b0, 0, none⟩ = some (Value.slice b n c2) ∧ z.cell? ⟨b0 + 1, 0, none⟩ = some (Value.slice d m c3)) (i := 12) (v := Value.bool Q) rfl (by kernel_rfl) (by kernel_rfl) (by kernel_rfl) (fun _ _ _ h => by first | exact h | exact h.elim) (by decide) (fun _ h => h.elim) (fun _ h => h) (Sx.behind (by kernel_rfl) hs6.out) (Or.inl ⟨by rfl, fun z hz => by obtain ⟨hz1, hz2⟩ := hz; go_simp⟩) ?_
          try go_simp
          refine wpAnyX_done (by kernel_rfl) ?_ _
          try go_simp
          exact key v6 bN aw cw ls gd gt gu ⟨BS6.out, XN6.out, TW6.out, hN.out⟩
      · go_simp
        have hbx : Below v1.heap.size v1 (v1.alloc (Obj.cells #[Value.slice none 0 0] 28)) := (Below.refl _ _).alloc (Nat.le_refl _) _
        have XT2 := kide (XT1.out.later hbx)
        have XU2 := kide (XU1.out.later hbx)
        have RD2 := kide (RD1.out.later hbx)
        have BS2 := kide (BS1.out.trans (hbx.mono BS1.out.size))
        have BV2 := kide (BV1.out.trans (hbx.mono BV1.out.size))
        have XN2 := kide (Bz.new v1 #[Value.slice none 0 0] 28)
        have hN : Hid (w3.heap.size ≤ v1.heap.size) := BS1.out.size
        obtain ⟨bN, hbN⟩ : ∃ x, v1.heap.size = x := ⟨_, rfl⟩
        rw [hbN] at XN2 hN ⊢
        clear hbN hbx
        generalize v1.alloc (Obj.cells #[Value.slice none 0 0] 28) = v2 at *
        have hs2 : Hid ((fun z => z.cell? ⟨b0, 0, none⟩ = some (Value.slice b n c2) ∧ z.cell? ⟨b0 + 1, 0, none⟩ = some (Value.slice d m c3)) v2) := ⟨XT2.out.cell 0, XU2.out.cell 0⟩
        refine hK _ _ (Sx.behind (by kernel_rfl) hs2.out) ?_
        clear hK K
        try go_simp
        refine wpAnyX_ready (rs := [3]) (by kernel_rfl) (by simp) (AllX.cons rfl (fun K hK => ?_) AllX.nil)
        go_simp
        refine Calls.mono (HTTT.out v2 BV2.out) ?_
        rintro e v3 ⟨gt, mt, rfl, hmt, rt, hb3⟩
        have XT3 := kide (XT2.out.later hb3)
        have XU3 := kide (XU2.out.later hb3)
        have RD3 := kide (RD2.out.later hb3)
        have XN3 := kide (XN2.out.later hb3)
        have BS3 := kide (BS2.out.trans (hb3.mono BS2.out.size))
        have BV3 := kide (BV2.out.trans (hb3.mono BV2.out.size))
        have RT3 := kide rt
        have MT := kide hmt
        clear rt hmt hb3
        have hs3 : Hid ((fun z => z.cell? ⟨b0, 0, none⟩ = some (Value.slice b n c2) ∧ z.cell? ⟨b0 + 1, 0, none⟩ = some (Value.slice d m c3)) v3) := ⟨XT3.out.cell 0, XU3.out.cell 0⟩
        refine hK _ _ (Sx.behind (by kernel_rfl) hs3.out) ?_
        clear hK K
        try go_simp
        refine wpAnyX_ready (rs := [5]) (by kernel_rfl) (by simp) (AllX.cons rfl (fun K hK => ?_) AllX.nil)
        go_simp
        refine Calls.mono (HTTU.out v3 BV3.out) ?_
        rintro e v4 ⟨gu, mu, rfl, hmt, rt, hb4⟩
        have XT4 := kide (XT3.out.later hb4)
        have XU4 := kide (XU3.out.later hb4)
        have RD4 := kide (RD3.out.later hb4)
        have XN4 := kide (XN3.out.later hb4)
        have RT4 := kide (RT3.out.later hb4)
        have BS4 := kide (BS3.out.trans (hb4.mono BS3.out.size))
        have BV4 := kide (BV3.out.trans (hb4.mono BV3.out.size))
        have RU4 := kide rt
        have MU := kide hmt
        clear rt hmt hb4
        have hs4 : Hid ((fun z => z.cell? ⟨b0, 0, none⟩ = some (Value.slice b n c2) ∧ z.cell? ⟨b0 + 1, 0, none⟩ = some (Value.slice d m c3)) v4) := ⟨XT4.out.cell 0, XU4.out.cell 0⟩
        refine hK _ _ (Sx.behind (by kernel_rfl) hs4.out) ?_
        clear hK K
        try go_simp
        refine wpAnyX_ready (rs := [6]) (by kernel_rfl) (by simp) (AllX.cons rfl (fun K hK => ?_) AllX.nil)
        go_simp
        refine Calls.mono (HSE.out v4 gd gt gu mt mu BV4.out RD4.out RT4.out MT.out RU4.out MU.out) ?_
        rintro e v5 ⟨aw, cw, ls, rfl, hts, hb5⟩
        have XT5 := kide (XT4.out.later hb5)
        have XU5 := kide (XU4.out.later hb5)
        have RD5 := kide (RD4.out.later hb5)
        have XN5 := kide (XN4.out.later hb5)
        have RT5 := kide (RT4.out.later hb5)
        have RU5 := kide (RU4.out.later hb5)
        have BS5 := kide (BS4.out.trans (hb5.mono BS4.out.size))
        have BV5 := kide (BV4.out.trans (hb5.mono BV4.out.size))
        have TW5 : Hid (HoldX v5 w3.heap.size aw ls R) := HoldR.lower hts BS4.out.size
        clear hts hb5
        have hs5 : Hid ((fun z => z.cell? ⟨b0, 0, none⟩ = some (Value.slice b n c2) ∧ z.cell? ⟨b0 + 1, 0, none⟩ = some (Value.slice d m c3)) v5) := ⟨XT5.out.cell 0, XU5.out.cell 0⟩
        refine hK _ _ (Sx.behind (by kernel_rfl) hs5.out) ?_
        clear hK K
        try go_simp
        refine wpAnyX_both (T := fun z => z.cell? ⟨b0, 0, none⟩ = some (Value.slice b n c2) ∧ z.cell? ⟨b0 + 1, 0, none⟩ = some (Value.slice d m c3)) (i := 7) (v := Value.tuple #[Value.agg #[Value.slice aw nX cw], Value.bool Q]) rfl (by kernel_rfl) (by kernel_rfl) (by kernel_rfl) (fun _ _ _ h => by first | exact h | exact h.elim) (by decide) (fun _ h => h.elim) (fun _ h => h) (Sx.behind (by kernel_rfl) hs5.out) (Or.inl ⟨by rfl, fun z hz => by obtain ⟨hz1, hz2⟩ := hz; go_simp⟩) ?_
        try go_simp
        refine wpAnyX_both (T := fun z => z.cell? ⟨b0, 0, none⟩ = some (Value.slice b n c2) ∧ z.cell? ⟨b0 + 1, 0, none⟩ = some (Value.slice d m c3)) (i := 8) (v := Value.agg #[Value.slice aw nX cw]) rfl (by kernel_rfl) (by kernel_rfl) (by kernel_rfl) (fun _ _ _ h => by first | exact h | exact h.elim) (by decide) (fun _ h => h.elim) (fun _ h => h) (Sx.behind (by kernel_rfl) hs5.out) (Or.inl ⟨by rfl, fun z hz => by obtain ⟨hz1, hz2⟩ := hz; go_simp⟩) ?_
        try go_simp
        refine wpAnyX_both (T := fun z => z.cell? ⟨b0, 0, none⟩ = some (Value.slice b n c2) ∧ z.cell? ⟨b0 + 1, 0, none⟩ = some (Value.slice d m c3)) (i := 9) (v := Value.bool Q) rfl (by kernel_rfl) (by kernel_rfl) (by kernel_rfl) (fun _ _ _ h => by first | exact h | exact h.elim) (by decide) (fun _ h => h.elim) (fun _ h => h) (Sx.behind (by kernel_rfl) hs5.out) (Or.inl ⟨by rfl, fun z hz => by obtain ⟨hz1, hz2⟩ := hz; go_simp⟩) ?_
        try go_simp
        refine wpAnyX_ready (rs := [11]) (by kernel_rfl) (by simp) (AllX.cons rfl (fun K hK => ?_) AllX.nil)
        have e8 := XN5.out.cell 0
        have f8 := XN5.out.froz 0
        simp at e8
        go_simp
        have XN6 : Hid (Bz (v5.setCell ⟨bN, 0, none⟩ (Value.slice aw nX cw)) bN #[Value.slice aw nX cw] 28) := XN5.out.set 0 _
        have XT6 : Hid (Bz (v5.setCell ⟨bN, 0, none⟩ (Value.slice aw nX cw)) b0 #[Value.slice b n c2] 25) := XT5.out.other (by have := hN.out; have := HWS.out; omega) 0 _
        have XU6 : Hid (Bz (v5.setCell ⟨bN, 0, none⟩ (Value.slice aw nX cw)) (b0 + 1) #[Value.slice d m c3] 25) := XU5.out.other (by have := hN.out; have := HWS.out; omega) 0 _
        have BS6 : Hid (Below w3.heap.size w3 (v5.setCell ⟨bN, 0, none⟩ (Value.slice aw nX cw))) := BS5.out.setCell (show w3.heap.size ≤ bN from hN.out) _
        have BV6 : Hid (Below w.heap.size w (v5.setCell ⟨bN, 0, none⟩ (Value.slice aw nX cw))) := BV5.out.setCell (show w.heap.size ≤ bN by have := hN.out; have := HWS.out; have := HB0.out; omega) _
        have TW6 : Hid (HoldX (v5.setCell ⟨bN, 0, none⟩ (Value.slice aw nX cw)) w3.heap.size aw ls R) := TW5.out.set XN5.out (by decide) (by decide) _
        generalize v5.setCell ⟨bN, 0, none⟩ (Value.slice aw nX cw) = v6 at *
        clear e8 f8
        have hs6 : Hid ((fun z => z.cell? ⟨b0, 0, none⟩ = some (Value.slice b n c2) ∧ z.cell? ⟨b0 + 1, 0, none⟩ = some (Value.slice d m c3)) v6) := ⟨XT6.out.cell 0, XU6.out.cell 0⟩
        refine hK _ _ (Sx.behind (by kernel_rfl) hs6.out) ?_
        clear hK K
        try go_simp
        refine wpAnyX_both (T := fun z => z.cell? ⟨b0, 0, none⟩ = some (Value.slice b n c2) ∧ z.cell? ⟨b0 + 1, 0, none⟩ = some (Value.slice d m c3)) (i := 12) (v := Value.bool Q) rfl (by kernel_rfl) (by kernel_rfl) (by kernel_rfl) (fun _ _ _ h => by first | exact h | exact h.elim) (by decide) (fun _ h => h.elim) (fun _ h => h) (Sx.behind (by kernel_rfl) hs6.out) (Or.inl ⟨by rfl, fun z hz => by obtain ⟨hz1, hz2⟩ := hz; go_simp⟩) ?_
        try go_simp
        refine wpAnyX_done (by kernel_rfl) ?_ _
        try go_simp
        exact key v6 bN aw cw ls gd gt gu ⟨BS6.out, XN6.out, TW6.out, hN.out⟩
    · go_simp
      have hbx : Below v0.heap.size v0 (v0.alloc (Obj.cells #[Value.slice none 0 0] 28)) := (Below.refl _ _).alloc (Nat.le_refl _) _
      have XT1 := kide (XT0.out.later hbx)
      have XU1 := kide (XU0.out.later hbx)
      have BS1 := kide (BS0.out.trans (hbx.mono BS0.out.size))
      have BV1 := kide (BV0.out.trans (hbx.mono BV0.out.size))
      have XN1 := kide (Bz.new v0 #[Value.slice none 0 0] 28)
      have hN : Hid (w3.heap.size ≤ v0.heap.size) := BS0.out.size
      obtain ⟨bN, hbN⟩ : ∃ x, v0.heap.size = x := ⟨_, rfl⟩
      rw [hbN] at XN1 hN ⊢
      clear hbN hbx
      generalize v0.alloc (Obj.cells #[Value.slice none 0 0] 28) = v1 at *
      have hs1 : Hid ((fun z => z.cell? ⟨b0, 0, none⟩ = some (Value.slice b n c2) ∧ z.cell? ⟨b0 + 1, 0, none⟩ = some (Value.slice d m c3)) v1) := ⟨XT1.out.cell 0, XU1.out.cell 0⟩
      refine hK _ _ (Sx.behind (by kernel_rfl) hs1.out) ?_
      clear hK K
      try go_simp
      refine wpAnyX_ready (rs := [1]) (by kernel_rfl) (by simp) (AllX.cons rfl (fun K hK => ?_) AllX.nil)
      go_simp
      refine Calls.mono (HTD.out v1 BV1.out) ?_
      rintro e v2 ⟨rfl, rd, -, hb2⟩
      have XT2 := kide (XT1.out.later hb2)
      have XU2 := kide (XU1.out.later hb2)
      have XN2 := kide (XN1.out.later hb2)
      have BS2 := kide (BS1.out.trans (hb2.mono BS1.out.size))
      have BV2 := kide (BV1.out.trans (hb2.mono BV1.out.size))
      obtain ⟨gd, hgd⟩ : ∃ x, v1.heap.size = x := ⟨_, rfl⟩
      rw [hgd] at rd ⊢
      have RD2 := kide rd
      clear rd hgd hb2
      have hs2 : Hid ((fun z => z.cell? ⟨b0, 0, none⟩ = some (Value.slice b n c2) ∧ z.cell? ⟨b0 + 1, 0, none⟩ = some (Value.slice d m c3)) v2) := ⟨XT2.out.cell 0, XU2.out.cell 0⟩
      refine hK _ _ (Sx.behind (by kernel_rfl) hs2.out) ?_
      clear hK K
      try go_simp
      refine wpAnyX_ready (rs := [3]) (by kernel_rfl) (by simp) (AllX.cons rfl (fun K hK => ?_) AllX.nil)
      go_simp
      refine Calls.mono (HTTT.out v2 BV2.out) ?_
      rintro e v3 ⟨gt, mt, rfl, hmt, rt, hb3⟩
      have XT3 := kide (XT2.out.later hb3)
      have XU3 := kide (XU2.out.later hb3)
      have XN3 := kide (XN2.out.later hb3)
      have RD3 := kide (RD2.out.later hb3)
      have BS3 := kide (BS2.out.trans (hb3.mono BS2.out.size))
      have BV3 := kide (BV2.out.trans (hb3.mono BV2.out.size))
      have RT3 := kide rt
      have MT := kide hmt
      clear rt hmt hb3
      have hs3 : Hid ((fun z => z.cell? ⟨b0, 0, none⟩ = some (Value.slice b n c2) ∧ z.cell? ⟨b0 + 1, 0, none⟩ = some (Value.slice d m c3)) v3) := ⟨XT3.out.cell 0, XU3.out.cell 0⟩
      refine hK _ _ (Sx.behind (by kernel_rfl) hs3.out) ?_
      clear hK K
      try go_simp
      refine wpAnyX_ready (rs := [5]) (by kernel_rfl) (by simp) (AllX.cons rfl (fun K hK => ?_) AllX.nil)
      go_simp
      refine Calls.mono (HTTU.out v3 BV3.out) ?_
      rintro e v4 ⟨gu, mu, rfl, hmt, rt, hb4⟩
      have XT4 := kide (XT3.out.later hb4)
      have XU4 := kide (XU3.out.later hb4)
      have XN4 := kide (XN3.out.later hb4)
      have RD4 := kide (RD3.out.later hb4)
      have RT4 := kide (RT3.out.later hb4)
      have BS4 := kide (BS3.out.trans (hb4.mono BS3.out.size))
      have BV4 := kide (BV3.out.trans (hb4.mono BV3.out.size))
      have RU4 := kide rt
      have MU := kide hmt
      clear rt hmt hb4
      have hs4 : Hid ((fun z => z.cell? ⟨b0, 0, none⟩ = some (Value.slice b n c2) ∧ z.cell? ⟨b0 + 1, 0, none⟩ = some (Value.slice d m c3)) v4) := ⟨XT4.out.cell 0, XU4.out.cell 0⟩
      refine hK _ _ (Sx.behind (by kernel_rfl) hs4.out) ?_
      clear hK K
      try go_simp
      refine wpAnyX_ready (rs := [6]) (by kernel_rfl) (by simp) (AllX.cons rfl (fun K hK => ?_) AllX.nil)
      go_simp
      refine Calls.mono (HSE.out v4 gd gt gu mt mu BV4.out RD4.out RT4.out MT.out RU4.out MU.out) ?_
      rintro e v5 ⟨aw, cw, ls, rfl, hts, hb5⟩
      have XT5 := kide (XT4.out.later hb5)
      have XU5 := kide (XU4.out.later hb5)
      have XN5 := kide (XN4.out.later hb5)
      have RD5 := kide (RD4.out.later hb5)
      have RT5 := kide (RT4.out.later hb5)
      have RU5 := kide (RU4.out.later hb5)
      have BS5 := kide (BS4.out.trans (hb5.mono BS4.out.size))
      have BV5 := kide (BV4.out.trans (hb5.mono BV4.out.size))
      have TW5 : Hid (HoldX v5 w3.heap.size aw ls R) := HoldR.lower hts BS4.out.size
      clear hts hb5
      have hs5 : Hid ((fun z => z.cell? ⟨b0, 0, none⟩ = some (Value.slice b n c2) ∧ z.cell? ⟨b0 + 1, 0, none⟩ = some (Value.slice d m c3)) v5) := ⟨XT5.out.cell 0, XU5.out.cell 0⟩
      refine hK _ _ (Sx.behind (by kernel_rfl) hs5.out) ?_
      clear hK K
      try go_simp
      refine wpAnyX_both (T := fun z => z.cell? ⟨b0, 0, none⟩ = some (Value.slice b n c2) ∧ z.cell? ⟨b0 + 1, 0, none⟩ = some (Value.slice d m c3)) (i := 7) (v := Value.tuple #[Value.agg #[Value.slice aw nX cw], Value.bool Q]) rfl (by kernel_rfl) (by kernel_rfl) (by kernel_rfl) (fun _ _ _ h => by first | exact h | exact h.elim) (by decide) (fun _ h => h.elim) (fun _ h => h) (Sx.behind (by kernel_rfl) hs5.out) (Or.inl ⟨by rfl, fun z hz => by obtain ⟨hz1, hz2⟩ := hz; go_simp⟩) ?_
      try go_simp
      refine wpAnyX_both (T := fun z => z.cell? ⟨b0, 0, none⟩ = some (Value.slice b n c2) ∧ z.cell? ⟨b0 + 1, 0, none⟩ = some (Value.slice d m c3)) (i := 8) (v := Value.agg #[Value.slice aw nX cw]) rfl (by kernel_rfl) (by kernel_rfl) (by kernel_rfl) (fun _ _ _ h => by first | exact h | exact h.elim) (by decide) (fun _ h => h.elim) (fun _ h => h) (Sx.behind (by kernel_rfl) hs5.out) (Or.inl ⟨by rfl, fun z hz => by obtain ⟨hz1, hz2⟩ := hz; go_simp⟩) ?_
      try go_simp
      refine wpAnyX_both (T := fun z => z.cell? ⟨b0, 0, none⟩ = some (Value.slice b n c2) ∧ z.cell? ⟨b0 + 1, 0, none⟩ = some (Value.slice d m c3)) (i := 9) (v := Value.bool Q) rfl (by kernel_rfl) (by kernel_rfl) (by kernel_rfl) (fun _ _ _ h => by first | exact h | exact h.elim) (by decide) (fun _ h => h.elim) (fun _ h => h) (Sx.behind (by kernel_rfl) hs5.out) (Or.inl ⟨by rfl, fun z hz => by obtain ⟨hz1, hz2⟩ := hz; go_simp⟩) ?_
      try go_simp
      refine wpAnyX_ready (rs := [11]) (by kernel_rfl) (by simp) (AllX.cons rfl (fun K hK => ?_) AllX.nil)
      have e8 := XN5.out.cell 0
      have f8 := XN5.out.froz 0
      simp at e8
      go_simp
      have XN6 : Hid (Bz (v5.setCell ⟨bN, 0, none⟩ (Value.slice aw nX cw)) bN #[Value.slice aw nX cw] 28) := XN5.out.set 0 _
      have XT6 : Hid (Bz (v5.setCell ⟨bN, 0, none⟩ (Value.slice aw nX cw)) b0 #[Value.slice b n c2] 25) := XT5.out.other (by have := hN.out; have := HWS.out; omega) 0 _
      have XU6 : Hid (Bz (v5.setCell ⟨bN, 0, none⟩ (Value.slice aw nX cw)) (b0 + 1) #[Value.slice d m c3] 25) := XU5.out.other (by have := hN.out; have := HWS.out; omega) 0 _
      have BS6 : Hid (Below w3.heap.size w3 (v5.setCell ⟨bN, 0, none⟩ (Value.slice aw nX cw))) := BS5.out.setCell (show w3.heap.size ≤ bN from hN.out) _
      have BV6 : Hid (Below w.heap.size w (v5.setCell ⟨bN, 0, none⟩ (Value.slice aw nX cw))) := BV5.out.setCell (show w.heap.size ≤ bN by have := hN.out; have := HWS.out; have := HB0.out; omega) _
      have TW6 : Hid (HoldX (v5.setCell ⟨bN, 0, none⟩ (Value.slice aw nX cw)) w3.heap.size aw ls R) := TW5.out.set XN5.out (by decide) (by decide) _
      generalize v5.setCell ⟨bN, 0, none⟩ (Value.slice aw nX cw) = v6 at *
      clear e8 f8
      have hs6 : Hid ((fun z => z.cell? ⟨b0, 0, none⟩ = some (Value.slice b n c2) ∧ z.cell? ⟨b0 + 1, 0, none⟩ = some (Value.slice d m c3)) v6) := ⟨XT6.out.cell 0, XU6.out.cell 0⟩
      refine hK _ _ (Sx.behind (by kernel_rfl) hs6.out) ?_
      clear hK K
      try go_simp
      refine wpAnyX_both (T := fun z => z.cell? ⟨b0, 0, none⟩ = some (Value.slice b n c2) ∧ z.cell? ⟨b0 + 1, 0, none⟩ = some (Value.slice d m c3)) (i := 12) (v := Value.bool Q) rfl (by kernel_rfl) (by kernel_rfl) (by kernel_rfl) (fun _ _ _ h => by first | exact h | exact h.elim) (by decide) (fun _ h => h.elim) (fun _ h => h) (Sx.behind (by kernel_rfl) hs6.out) (Or.inl ⟨by rfl, fun z hz => by obtain ⟨hz1, hz2⟩ := hz; go_simp⟩) ?_
      try go_simp
      refine wpAnyX_done (by kernel_rfl) ?_ _
      try go_simp
      exact key v6 bN aw cw ls gd gt gu ⟨BS6.out, XN6.out, TW6.out, hN.out⟩
  · intro w4 bw aw cw lsw gd0 gt0 gu0 hF
    obtain ⟨hb4, xw4, ts4, hlw⟩ := hF
    have B4 := kide (BVS.out.trans (hb4.mono BVS.out.size))
    have T4 := kide (XTS.out.later hb4)
    have U4 := kide (XUS.out.later hb4)
    have W4 := kide xw4
    have N4 : Hid (HoldR w4 w3.heap.size w4.heap.size aw lsw R) := ts4
    have lw4 := xw4.lt
    have z4 := hb4.size
    have zz := HWS.out
    have zb := HB0.out
    clear hb4 xw4 ts4 XTS XUS BVS HSE
    go_wp2_with fail
    refine Calls.mono (HTD.out w4 B4.out) ?_
    rintro e w5 ⟨rfl, r5, ⟨fd, q5⟩, hb5⟩
    have B5 := kide (B4.out.trans (hb5.mono B4.out.size))
    have z5 := hb5.size
    have T5 := kide (T4.out.later hb5)
    have U5 := kide (U4.out.later hb5)
    have W5 := kide (W4.out.later hb5)
    have N5 := kide (N4.out.later hb5)
    have R5 := kide (r5)
    have Q5 := kide (q5)
    have y5 := rowIs_lt q5
    clear r5 q5
    clear hb5 B4 T4 U4 W4 N4
    have c5 : w5.cell? ⟨b0, 0, none⟩ = some (Value.slice b n c2) := T5.out.cell 0
    go_wp2_with fail
    refine Calls.mono (HTWT.out w5 B5.out) ?_
    rintro e w6 ⟨gt, mt, rfl, hmt, hgt, rt, ⟨ft, qt, hft⟩, hwt, hb6⟩
    have B6 := kide (B5.out.trans (hb6.mono B5.out.size))
    have z6 := hb6.size
    have T6 := kide (T5.out.later hb6)
    have U6 := kide (U5.out.later hb6)
    have W6 := kide (W5.out.later hb6)
    have N6 := kide (N5.out.later hb6)
    have R6 := kide (R5.out.later hb6)
    have Q6 := kide (rowIs_later Q5.out hb6)
    have RT6 := kide (rt)
    have QT6 := kide (qt)
    have WT6 := kide (hwt)
    have y6 := rowIs_lt qt
    have MT := kide hmt
    have HFT := kide hft
    have gt6 := hgt
    clear hmt hgt rt qt hft hwt c5
    clear hb6 B5 T5 U5 W5 N5 R5 Q5
    have hb7 : Below w6.heap.size w6 (w6.alloc (Obj.cells #[Value.slice (some ⟨gt, 0, none⟩) n n] 28)) := (Below.refl _ _).alloc (Nat.le_refl _) _
    have B7 := kide (B6.out.trans (hb7.mono B6.out.size))
    have z7 : w6.heap.size < (w6.alloc (Obj.cells #[Value.slice (some ⟨gt, 0, none⟩) n n] 28)).heap.size := by simp
    have T7 := kide (T6.out.later hb7)
    have U7 := kide (U6.out.later hb7)
    have W7 := kide (W6.out.later hb7)
    have N7 := kide (N6.out.later hb7)
    have R7 := kide (R6.out.later hb7)
    have Q7 := kide (rowIs_later Q6.out hb7)
    have RT7 := kide (RT6.out.later hb7)
    have QT7 := kide (rowIs_later QT6.out hb7)
    have WT7 := kide (fun x hx => And.intro (WrI.out (WT6.out x hx).1 (Out.below (B1 := w6.heap.size) (B2 := w6.heap.size) hb7) (.inr (Nat.le_refl _))) (WT6.out x hx).2)
    have A7 := kide (Bz.new w6 #[Value.slice (some ⟨gt, 0, none⟩) n n] 28)
    clear hb7 B6 T6 U6 W6 N6 R6 Q6 RT6 QT6 WT6
    have c7 : (w6.alloc (Obj.cells #[Value.slice (some ⟨gt, 0, none⟩) n n] 28)).cell? ⟨b0 + 1, 0, none⟩ = some (Value.slice d m c3) := U7.out.cell 0
    go_wp2_with fail
    generalize w6.alloc (Obj.cells #[Value.slice (some ⟨gt, 0, none⟩) n n] 28) = w7 at *
    refine Calls.mono (HTWU.out w7 B7.out) ?_
    rintro e w8 ⟨gu, mu, rfl, hmu, hgu, ru, ⟨fu, qu, hfu⟩, hwu, hb8⟩
    have B8 := kide (B7.out.trans (hb8.mono B7.out.size))
    have z8 := hb8.size
    have T8 := kide (T7.out.later hb8)
    have U8 := kide (U7.out.later hb8)
    have W8 := kide (W7.out.later hb8)
    have N8 := kide (N7.out.later hb8)
    have R8 := kide (R7.out.later hb8)
    have Q8 := kide (rowIs_later Q7.out hb8)
    have RT8 := kide (RT7.out.later hb8)
    have QT8 := kide (rowIs_later QT7.out hb8)
    have WT8 := kide (fun x hx => And.intro (WrI.out (WT7.out x hx).1 (Out.below (B1 := w6.heap.size) (B2 := w6.heap.size) hb8) (.inr (Nat.le_refl _))) (WT7.out x hx).2)
    have A8 := kide (A7.out.later hb8)
    have RU8 := kide (ru)
    have QU8 := kide (qu)
    have WU8 := kide (hwu)
    have y8 := rowIs_lt qu
    have MU := kide hmu
    have HFU := kide hfu
    have gu8 := hgu
    clear hmu hgu ru qu hfu hwu c7
    clear hb8 B7 T7 U7 W7 N7 R7 Q7 RT7 QT7 WT7 A7
    have hb9 : Below w8.heap.size w8 (w8.alloc (Obj.cells #[Value.slice (some ⟨gu, 0, none⟩) m m] 28)) := (Below.refl _ _).alloc (Nat.le_refl _) _
    have B9 := kide (B8.out.trans (hb9.mono B8.out.size))
    have z9 : w8.heap.size < (w8.alloc (Obj.cells #[Value.slice (some ⟨gu, 0, none⟩) m m] 28)).heap.size := by simp
    have T9 := kide (T8.out.later hb9)
    have U9 := kide (U8.out.later hb9)
    have W9 := kide (W8.out.later hb9)
    have N9 := kide (N8.out.later hb9)
    have R9 := kide (R8.out.later hb9)
    have Q9 := kide (rowIs_later Q8.out hb9)
    have RT9 := kide (RT8.out.later hb9)
    have QT9 := kide (rowIs_later QT8.out hb9)
    have WT9 := kide (fun x hx => And.intro (WrI.out (WT8.out x hx).1 (Out.below (B1 := w6.heap.size) (B2 := w6.heap.size) hb9) (.inr (Nat.le_refl _))) (WT8.out x hx).2)
    have A9 := kide (A8.out.later hb9)
    have RU9 := kide (RU8.out.later hb9)
    have QU9 := kide (rowIs_later QU8.out hb9)
    have WU9 := kide (fun x hx => And.intro (WrI.out (WU8.out x hx).1 (Out.below (B1 := w8.heap.size) (B2 := w8.heap.size) hb9) (.inr (Nat.le_refl _))) (WU8.out x hx).2)
    have E9 := kide (Bz.new w8 #[Value.slice (some ⟨gu, 0, none⟩) m m] 28)
    clear hb9 B8 T8 U8 W8 N8 R8 Q8 RT8 QT8 WT8 A8 RU8 QU8 WU8
    have c9 : (w8.alloc (Obj.cells #[Value.slice (some ⟨gu, 0, none⟩) m m] 28)).cell? ⟨w6.heap.size, 0, none⟩ = some (Value.slice (some ⟨gt, 0, none⟩) n n) := A9.out.cell 0
    go_wp2_with fail
    generalize w8.alloc (Obj.cells #[Value.slice (some ⟨gu, 0, none⟩) m m] 28) = w9 at *
    refine Calls.mono (HIE.out w9 w4.heap.size gt gu mt mu B9.out R9.out RT9.out MT.out RU9.out MU.out) ?_
    rintro e w10 ⟨ag, cg, lsg, rfl, ng, hb10⟩
    have B10 := kide (B9.out.trans (hb10.mono B9.out.size))
    have z10 := hb10.size
    have T10 := kide (T9.out.later hb10)
    have U10 := kide (U9.out.later hb10)
    have W10 := kide (W9.out.later hb10)
    have N10 := kide (N9.out.later hb10)
    have R10 := kide (R9.out.later hb10)
    have Q10 := kide (rowIs_later Q9.out hb10)
    have RT10 := kide (RT9.out.later hb10)
    have QT10 := kide (rowIs_later QT9.out hb10)
    have WT10 := kide (fun x hx => And.intro (WrI.out (WT9.out x hx).1 (Out.below (B1 := w6.heap.size) (B2 := w6.heap.size) hb10) (.inr (Nat.le_refl _))) (WT9.out x hx).2)
    have A10 := kide (A9.out.later hb10)
    have RU10 := kide (RU9.out.later hb10)
    have QU10 := kide (rowIs_later QU9.out hb10)
    have WU10 := kide (fun x hx => And.intro (WrI.out (WU9.out x hx).1 (Out.below (B1 := w8.heap.size) (B2 := w8.heap.size) hb10) (.inr (Nat.le_refl _))) (WU9.out x hx).2)
    have E10 := kide (E9.out.later hb10)
    have G10 := kide (ng)
    clear ng c9
    clear hb10 B9 T9 U9 W9 N9 R9 Q9 RT9 QT9 WT9 A9 RU9 QU9 WU9 E9
    have hb11 : Below w10.heap.size w10 (w10.alloc (Obj.cells #[Value.slice ag nX cg] 28)) := (Below.refl _ _).alloc (Nat.le_refl _) _
    have B11 := kide (B10.out.trans (hb11.mono B10.out.size))
    have z11 : w10.heap.size < (w10.alloc (Obj.cells #[Value.slice ag nX cg] 28)).heap.size := by simp
    have T11 := kide (T10.out.later hb11)
    have U11 := kide (U10.out.later hb11)
    have W11 := kide (W10.out.later hb11)
    have N11 := kide (N10.out.later hb11)
    have R11 := kide (R10.out.later hb11)
    have Q11 := kide (rowIs_later Q10.out hb11)
    have RT11 := kide (RT10.out.later hb11)
    have QT11 := kide (rowIs_later QT10.out hb11)
    have WT11 := kide (fun x hx => And.intro (WrI.out (WT10.out x hx).1 (Out.below (B1 := w6.heap.size) (B2 := w6.heap.size) hb11) (.inr (Nat.le_refl _))) (WT10.out x hx).2)
    have A11 := kide (A10.out.later hb11)
    have RU11 := kide (RU10.out.later hb11)
    have QU11 := kide (rowIs_later QU10.out hb11)
    have WU11 := kide (fun x hx => And.intro (WrI.out (WU10.out x hx).1 (Out.below (B1 := w8.heap.size) (B2 := w8.heap.size) hb11) (.inr (Nat.le_refl _))) (WU10.out x hx).2)
    have E11 := kide (E10.out.later hb11)
    have G11 := kide (G10.out.later hb11)
    have G011 := kide (Bz.new w10 #[Value.slice ag nX cg] 28)
    clear hb11 B10 T10 U10 W10 N10 R10 Q10 RT10 QT10 WT10 A10 RU10 QU10 WU10 E10 G10
    have p11 : (w10.alloc (Obj.cells #[Value.slice ag nX cg] 28)).cell? ⟨bw, 0, none⟩ = some (Value.slice aw nX cw) := W11.out.cell 0
    have hsm := HSM.out
    have hX9 := hsm.2.2.2
    have hn9 := hsm.1
    have hm9 := hsm.2.1
    have hd9 := hsm.2.2.1
    have HX9 := kide hX9
    have HN9 := kide hn9
    have HM9 := kide hm9
    have HD9 := kide hd9
    clear hsm hX9 hn9 hm9 hd9
    go_wp2_with fail
    clear p11
    generalize w10.alloc (Obj.cells #[Value.slice ag nX cg] 28) = w11 at *
    refine Calls.mono (eqCuts_hold _ _ _ _ nX _ _ _ _ _ _ R HXO.out w11 G11.out N11.out HNX.out) ?_
    rintro e w12 ⟨rfl, hb12⟩
    have B12 := kide (B11.out.trans (hb12.mono B11.out.size))
    have z12 := hb12.size
    have T12 := kide (T11.out.later hb12)
    have U12 := kide (U11.out.later hb12)
    have W12 := kide (W11.out.later hb12)
    have N12 := kide (N11.out.later hb12)
    have R12 := kide (R11.out.later hb12)
    have Q12 := kide (rowIs_later Q11.out hb12)
    have RT12 := kide (RT11.out.later hb12)
    have QT12 := kide (rowIs_later QT11.out hb12)
    have WT12 := kide (fun x hx => And.intro (WrI.out (WT11.out x hx).1 (Out.below (B1 := w6.heap.size) (B2 := w6.heap.size) hb12) (.inr (Nat.le_refl _))) (WT11.out x hx).2)
    have A12 := kide (A11.out.later hb12)
    have RU12 := kide (RU11.out.later hb12)
    have QU12 := kide (rowIs_later QU11.out hb12)
    have WU12 := kide (fun x hx => And.intro (WrI.out (WU11.out x hx).1 (Out.below (B1 := w8.heap.size) (B2 := w8.heap.size) hb12) (.inr (Nat.le_refl _))) (WU11.out x hx).2)
    have E12 := kide (E11.out.later hb12)
    have G12 := kide (G11.out.later hb12)
    have G012 := kide (G011.out.later hb12)
    clear hb12 B11 T11 U11 W11 N11 R11 Q11 RT11 QT11 WT11 A11 RU11 QU11 WU11 E11 G11 G011
    go_wp2_with fail
    refine Calls.mono (HTD.out w12 B12.out) ?_
    rintro e w13 ⟨rfl, r13, -, hb13⟩
    have B13 := kide (B12.out.trans (hb13.mono B12.out.size))
    have z13 := hb13.size
    have T13 := kide (T12.out.later hb13)
    have U13 := kide (U12.out.later hb13)
    have W13 := kide (W12.out.later hb13)
    have N13 := kide (N12.out.later hb13)
    have R13 := kide (R12.out.later hb13)
    have Q13 := kide (rowIs_later Q12.out hb13)
    have RT13 := kide (RT12.out.later hb13)
    have QT13 := kide (rowIs_later QT12.out hb13)
    have WT13 := kide (fun x hx => And.intro (WrI.out (WT12.out x hx).1 (Out.below (B1 := w6.heap.size) (B2 := w6.heap.size) hb13) (.inr (Nat.le_refl _))) (WT12.out x hx).2)
    have A13 := kide (A12.out.later hb13)
    have RU13 := kide (RU12.out.later hb13)
    have QU13 := kide (rowIs_later QU12.out hb13)
    have WU13 := kide (fun x hx => And.intro (WrI.out (WU12.out x hx).1 (Out.below (B1 := w8.heap.size) (B2 := w8.heap.size) hb13) (.inr (Nat.le_refl _))) (WU12.out x hx).2)
    have E13 := kide (E12.out.later hb13)
    have G13 := kide (G12.out.later hb13)
    have G013 := kide (G012.out.later hb13)
    have P13 := kide (r13)
    clear r13
    clear hb13 B12 T12 U12 W12 N12 R12 Q12 RT12 QT12 WT12 A12 RU12 QU12 WU12 E12 G12 G012
    go_wp2_with fail
    refine Calls.mono (eqDeclS_same _ _ ds.length ds.length ds w13 R13.out P13.out) ?_
    rintro e w14 ⟨rfl, hb14⟩
    have B14 := kide (B13.out.trans (hb14.mono B13.out.size))
    have z14 := hb14.size
    have T14 := kide (T13.out.later hb14)
    have U14 := kide (U13.out.later hb14)
    have W14 := kide (W13.out.later hb14)
    have N14 := kide (N13.out.later hb14)
    have Q14 := kide (rowIs_later Q13.out hb14)
    have RT14 := kide (RT13.out.later hb14)
    have QT14 := kide (rowIs_later QT13.out hb14)
    have WT14 := kide (fun x hx => And.intro (WrI.out (WT13.out x hx).1 (Out.below (B1 := w6.heap.size) (B2 := w6.heap.size) hb14) (.inr (Nat.le_refl _))) (WT13.out x hx).2)
    have A14 := kide (A13.out.later hb14)
    have RU14 := kide (RU13.out.later hb14)
    have QU14 := kide (rowIs_later QU13.out hb14)
    have WU14 := kide (fun x hx => And.intro (WrI.out (WU13.out x hx).1 (Out.below (B1 := w8.heap.size) (B2 := w8.heap.size) hb14) (.inr (Nat.le_refl _))) (WU13.out x hx).2)
    have E14 := kide (E13.out.later hb14)
    have G14 := kide (G13.out.later hb14)
    have G014 := kide (G013.out.later hb14)
    clear hb14 B13 T13 U13 W13 N13 Q13 RT13 QT13 WT13 A13 RU13 QU13 WU13 E13 G13 G013 R13 P13
    have c14 : w14.cell? ⟨b0, 0, none⟩ = some (Value.slice b n c2) := T14.out.cell 0
    have d14 : w14.cell? ⟨w6.heap.size, 0, none⟩ = some (Value.slice (some ⟨gt, 0, none⟩) n n) := A14.out.cell 0
    go_wp2_with fail
    go_region_held3 (fun u => u.cell? ⟨b0, 0, none⟩ = some (Value.slice b n c2) ∧ u.cell? ⟨w6.heap.size, 0, none⟩ = some (Value.slice (some { block := gt, off := 0 }) n n)) (first | assumption | (simp [*]))
      (first
        | (go_at_call 8; refine Calls.mono (HTTT.out _ ?_) ?_; exact B14.out.drew; rintro e w15 ⟨g15, m15, rfl, hm15, r15, hb15⟩; replace hb15 := kundrew hb15; have T15 := kide (Bz.later (u := w14) T14.out hb15); have U15 := kide (Bz.later (u := w14) U14.out hb15); have W15 := kide (Bz.later (u := w14) W14.out hb15); have N15 := kide (HoldR.later (w := w14) N14.out hb15); have Q15 := kide (rowIs_later (w := w14) Q14.out hb15); have RT15 := kide (RdII.later (w := w14) RT14.out hb15); have QT15 := kide (rowIs_later (w := w14) QT14.out hb15); have WT15 := kide (fun x hx => And.intro (WrI.out (w := w14) (WT14.out x hx).1 (Out.below (B1 := w6.heap.size) (B2 := w6.heap.size) hb15) (.inr (Nat.le_refl _))) (WT14.out x hx).2); have A15 := kide (Bz.later (u := w14) A14.out hb15); have RU15 := kide (RdII.later (w := w14) RU14.out hb15); have QU15 := kide (rowIs_later (w := w14) QU14.out hb15); have WU15 := kide (fun x hx => And.intro (WrI.out (w := w14) (WU14.out x hx).1 (Out.below (B1 := w8.heap.size) (B2 := w8.heap.size) hb15) (.inr (Nat.le_refl _))) (WU14.out x hx).2); have E15 := kide (Bz.later (u := w14) E14.out hb15); have G15 := kide (HoldR.later (w := w14) G14.out hb15); have G015 := kide (Bz.later (u := w14) G014.out hb15); have B15 := kide (B14.out.trans (hb15.mono B14.out.size)); have c15 : w15.cell? ⟨b0, 0, none⟩ = some (Value.slice b n c2) := T15.out.cell 0; have d15 : w15.cell? ⟨w6.heap.size, 0, none⟩ = some (Value.slice (some ⟨gt, 0, none⟩) n n) := A15.out.cell 0; have RR15 := kide r15; have M15 := kide hm15; have z15 := hb15.size; clear hm15 r15 hb15)
        | (go_at_call 10; refine Calls.mono (eqCuts_same (some ⟨gt, 0, none⟩) (some ⟨g15, 0, none⟩) n n mt m15 _ RT15.out RR15.out (MT.out.trans M15.out.symm) n (len_of_ks MT.out HN.out) (len_of_ks M15.out HN.out)) ?_; rintro e w16 ⟨rfl, hb16⟩; have T16 := kide (T15.out.later hb16); have U16 := kide (U15.out.later hb16); have W16 := kide (W15.out.later hb16); have N16 := kide (N15.out.later hb16); have Q16 := kide (rowIs_later Q15.out hb16); have RT16 := kide (RT15.out.later hb16); have QT16 := kide (rowIs_later QT15.out hb16); have WT16 := kide (fun x hx => And.intro (WrI.out (WT15.out x hx).1 (Out.below (B1 := w6.heap.size) (B2 := w6.heap.size) hb16) (.inr (Nat.le_refl _))) (WT15.out x hx).2); have A16 := kide (A15.out.later hb16); have RU16 := kide (RU15.out.later hb16); have QU16 := kide (rowIs_later QU15.out hb16); have WU16 := kide (fun x hx => And.intro (WrI.out (WU15.out x hx).1 (Out.below (B1 := w8.heap.size) (B2 := w8.heap.size) hb16) (.inr (Nat.le_refl _))) (WU15.out x hx).2); have E16 := kide (E15.out.later hb16); have G16 := kide (G15.out.later hb16); have G016 := kide (G015.out.later hb16); have B16 := kide (B15.out.trans (hb16.mono B15.out.size)); have c16 : w16.cell? ⟨b0, 0, none⟩ = some (Value.slice b n c2) := T16.out.cell 0; have d16 : w16.cell? ⟨w6.heap.size, 0, none⟩ = some (Value.slice (some ⟨gt, 0, none⟩) n n) := A16.out.cell 0; have z16 := hb16.size; clear hb16))
    clear T14 T15 U14 U15 W14 W15 N14 N15 Q14 Q15 RT14 RT15 QT14 QT15 WT14 WT15 A14 A15 RU14 RU15 QU14 QU15 WU14 WU15 E14 E15 G14 G15 G014 G015 c14 d14 c15 d15 c16 d16 RR15 M15 B14 B15
    clear RT16
    have c16 : w16.cell? ⟨b0 + 1, 0, none⟩ = some (Value.slice d m c3) := U16.out.cell 0
    have d16 : w16.cell? ⟨w8.heap.size, 0, none⟩ = some (Value.slice (some ⟨gu, 0, none⟩) m m) := E16.out.cell 0
    go_wp2_with fail
    go_region_held3 (fun u => u.cell? ⟨b0 + 1, 0, none⟩ = some (Value.slice d m c3) ∧ u.cell? ⟨w8.heap.size, 0, none⟩ = some (Value.slice (some { block := gu, off := 0 }) m m)) (first | assumption | (simp [*]))
      (first
        | (go_at_call 8; refine Calls.mono (HTTU.out _ ?_) ?_; exact B16.out.drew; rintro e w17 ⟨g17, m17, rfl, hm17, r17, hb17⟩; replace hb17 := kundrew hb17; have T17 := kide (Bz.later (u := w16) T16.out hb17); have U17 := kide (Bz.later (u := w16) U16.out hb17); have W17 := kide (Bz.later (u := w16) W16.out hb17); have N17 := kide (HoldR.later (w := w16) N16.out hb17); have Q17 := kide (rowIs_later (w := w16) Q16.out hb17); have QT17 := kide (rowIs_later (w := w16) QT16.out hb17); have WT17 := kide (fun x hx => And.intro (WrI.out (w := w16) (WT16.out x hx).1 (Out.below (B1 := w6.heap.size) (B2 := w6.heap.size) hb17) (.inr (Nat.le_refl _))) (WT16.out x hx).2); have A17 := kide (Bz.later (u := w16) A16.out hb17); have RU17 := kide (RdII.later (w := w16) RU16.out hb17); have QU17 := kide (rowIs_later (w := w16) QU16.out hb17); have WU17 := kide (fun x hx => And.intro (WrI.out (w := w16) (WU16.out x hx).1 (Out.below (B1 := w8.heap.size) (B2 := w8.heap.size) hb17) (.inr (Nat.le_refl _))) (WU16.out x hx).2); have E17 := kide (Bz.later (u := w16) E16.out hb17); have G17 := kide (HoldR.later (w := w16) G16.out hb17); have G017 := kide (Bz.later (u := w16) G016.out hb17); have B17 := kide (B16.out.trans (hb17.mono B16.out.size)); have c17 : w17.cell? ⟨b0 + 1, 0, none⟩ = some (Value.slice d m c3) := U17.out.cell 0; have d17 : w17.cell? ⟨w8.heap.size, 0, none⟩ = some (Value.slice (some ⟨gu, 0, none⟩) m m) := E17.out.cell 0; have RR17 := kide r17; have M17 := kide hm17; have z17 := hb17.size; clear hm17 r17 hb17)
        | (go_at_call 10; refine Calls.mono (eqCuts_same (some ⟨gu, 0, none⟩) (some ⟨g17, 0, none⟩) m m mu m17 _ RU17.out RR17.out (MU.out.trans M17.out.symm) m (len_of_ks MU.out HM.out) (len_of_ks M17.out HM.out)) ?_; rintro e w18 ⟨rfl, hb18⟩; have T18 := kide (T17.out.later hb18); have U18 := kide (U17.out.later hb18); have W18 := kide (W17.out.later hb18); have N18 := kide (N17.out.later hb18); have Q18 := kide (rowIs_later Q17.out hb18); have QT18 := kide (rowIs_later QT17.out hb18); have WT18 := kide (fun x hx => And.intro (WrI.out (WT17.out x hx).1 (Out.below (B1 := w6.heap.size) (B2 := w6.heap.size) hb18) (.inr (Nat.le_refl _))) (WT17.out x hx).2); have A18 := kide (A17.out.later hb18); have RU18 := kide (RU17.out.later hb18); have QU18 := kide (rowIs_later QU17.out hb18); have WU18 := kide (fun x hx => And.intro (WrI.out (WU17.out x hx).1 (Out.below (B1 := w8.heap.size) (B2 := w8.heap.size) hb18) (.inr (Nat.le_refl _))) (WU17.out x hx).2); have E18 := kide (E17.out.later hb18); have G18 := kide (G17.out.later hb18); have G018 := kide (G017.out.later hb18); have B18 := kide (B17.out.trans (hb18.mono B17.out.size)); have c18 : w18.cell? ⟨b0 + 1, 0, none⟩ = some (Value.slice d m c3) := U18.out.cell 0; have d18 : w18.cell? ⟨w8.heap.size, 0, none⟩ = some (Value.slice (some ⟨gu, 0, none⟩) m m) := E18.out.cell 0; have z18 := hb18.size; clear hb18))
    clear T16 T17 U16 U17 W16 W17 N16 N17 Q16 Q17 QT16 QT17 WT16 WT17 A16 A17 RU16 RU17 QU16 QU17 WU16 WU17 E16 E17 G16 G17 G016 G017 c16 d16 c17 d17 c18 d18 RR17 M17 B16 B17
    clear RU18
    go_wp2_with fail
    refine Calls.mono (markDeclS_one w4.heap.size ds.length ds.length fd w18 Q18.out HD9.out) ?_
    rintro e w19 ⟨rfl, ho19⟩
    have B19 := kide (Out.bel B18.out ho19 (by omega))
    have z19 := ho19.2.2.2.1
    have T19 := kide (T18.out.out ho19 (by omega))
    have U19 := kide (U18.out.out ho19 (by omega))
    have W19 := kide (W18.out.out ho19 (by omega))
    have N19 := kide (N18.out.out ho19 (by omega))
    have QT19 := kide (rowIs_out QT18.out ho19 (by omega))
    have WT19 := kide (fun x hx => And.intro ((WT18.out x hx).1.out ho19 (by omega)) (WT18.out x hx).2)
    have A19 := kide (A18.out.out ho19 (by omega))
    have QU19 := kide (rowIs_out QU18.out ho19 (by omega))
    have WU19 := kide (fun x hx => And.intro ((WU18.out x hx).1.out ho19 (by omega)) (WU18.out x hx).2)
    have E19 := kide (E18.out.out ho19 (by omega))
    have G19 := kide (G18.out.out ho19 (by omega))
    have G019 := kide (G018.out.out ho19 (by omega))
    generalize hK1 : 1 + ds.length * 2 = K1
    have HK1 : Hid (K1 ≤ 100000000) := by have := HD9.out; show _ ≤ _; omega
    clear hK1
    clear ho19 B18 T18 U18 W18 N18 QT18 WT18 A18 QU18 WU18 E18 G18 G018 Q18
    have d19 : w19.cell? ⟨w6.heap.size, 0, none⟩ = some (Value.slice (some ⟨gt, 0, none⟩) n n) := A19.out.cell 0
    go_wp2_with fail
    refine Calls.mono (markCuts_far gt n n K1 w5.heap.size w6.heap.size mt w19 ft QT19.out HFT.out WT19.out (len_of_ks MT.out HN.out) HN9.out (by have h1 := HK1.out; omega)) ?_
    rintro e w20 ⟨⟨r20, hr20, rfl⟩, ho20⟩
    have B20 := kide (Out.bel B19.out ho20 (by omega))
    have z20 := ho20.2.2.2.1
    have T20 := kide (T19.out.out ho20 (by omega))
    have U20 := kide (U19.out.out ho20 (by omega))
    have W20 := kide (W19.out.out ho20 (by omega))
    have N20 := kide (N19.out.out ho20 (by omega))
    have A20 := kide (A19.out.out ho20 (by omega))
    have QU20 := kide (rowIs_out QU19.out ho20 (by omega))
    have WU20 := kide (fun x hx => And.intro ((WU19.out x hx).1.out ho20 (by omega)) (WU19.out x hx).2)
    have E20 := kide (E19.out.out ho20 (by omega))
    have G20 := kide (G19.out.out ho20 (by omega))
    have G020 := kide (G019.out.out ho20 (by omega))
    have HR20 : Hid (r20 ≤ 3000000000000) := by have h1 := HK1.out; have h2 := HN9.out; show _ ≤ _; omega
    clear hr20 d19
    clear ho20 B19 T19 U19 W19 N19 A19 QU19 WU19 E19 G19 G019 QT19 WT19
    have d20 : w20.cell? ⟨w8.heap.size, 0, none⟩ = some (Value.slice (some ⟨gu, 0, none⟩) m m) := E20.out.cell 0
    go_wp2_with fail
    refine Calls.mono (markCuts_far gu m m r20 w7.heap.size w8.heap.size mu w20 fu QU20.out HFU.out WU20.out (len_of_ks MU.out HM.out) HM9.out (by have h1 := HR20.out; omega)) ?_
    rintro e w21 ⟨⟨r21, hr21, rfl⟩, ho21⟩
    have B21 := kide (Out.bel B20.out ho21 (by omega))
    have z21 := ho21.2.2.2.1
    have T21 := kide (T20.out.out ho21 (by omega))
    have U21 := kide (U20.out.out ho21 (by omega))
    have W21 := kide (W20.out.out ho21 (by omega))
    have N21 := kide (N20.out.out ho21 (by omega))
    have A21 := kide (A20.out.out ho21 (by omega))
    have E21 := kide (E20.out.out ho21 (by omega))
    have G21 := kide (G20.out.out ho21 (by omega))
    have G021 := kide (G020.out.out ho21 (by omega))
    clear hr21 d20
    have hk21 : ¬ (r21 : Int) < 0 := by omega
    clear ho21 B20 T20 U20 W20 N20 A20 E20 G20 G020 QU20 WU20
    have p21 : w21.cell? ⟨bw, 0, none⟩ = some (Value.slice aw nX cw) := W21.out.cell 0
    have q21 : w21.cell? ⟨w10.heap.size, 0, none⟩ = some (Value.slice ag nX cg) := G021.out.cell 0
    go_wp2_with fail
    refine Calls.mono (eqCuts_hold _ _ _ _ nX _ _ _ _ _ _ R HXO.out w21 G21.out N21.out HNX.out) ?_
    rintro e w22 ⟨rfl, hb22⟩
    have B22 := kide (B21.out.trans (hb22.mono B21.out.size))
    have z22 := hb22.size
    have T22 := kide (T21.out.later hb22)
    have U22 := kide (U21.out.later hb22)
    have W22 := kide (W21.out.later hb22)
    have N22 := kide (N21.out.later hb22)
    have A22 := kide (A21.out.later hb22)
    have E22 := kide (E21.out.later hb22)
    have G22 := kide (G21.out.later hb22)
    have G022 := kide (G021.out.later hb22)
    clear p21 q21
    clear hb22 B21 T21 U21 W21 N21 A21 E21 G21 G021
    have q22 : w22.cell? ⟨w10.heap.size, 0, none⟩ = some (Value.slice ag nX cg) := G022.out.cell 0
    go_wp2_with fail
    refine Calls.mono (markCuts_hold ag cg nX w9.heap.size w10.heap.size lsg R w22 G22.out HNX.out) ?_
    rintro e w23 ⟨rfl, hh23, ho23⟩
    have B23 := kide (Out.bel B22.out ho23 (by omega))
    have z23 := ho23.2.2.2.1
    have T23 := kide (T22.out.out ho23 (by omega))
    have U23 := kide (U22.out.out ho23 (by omega))
    have W23 := kide (W22.out.out ho23 (by omega))
    have N23 := kide (N22.out.out ho23 (by omega))
    have A23 := kide (A22.out.out ho23 (by omega))
    have E23 := kide (E22.out.out ho23 (by omega))
    have G023 := kide (G022.out.out ho23 (by omega))
    have H23 := kide hh23
    clear hh23 q22
    clear ho23 B22 T22 U22 W22 N22 A22 E22 G022 G22
    have HHL := kide (fun u (hu : MkR u 1 ag lsg R) => heldCuts_hold ag cg nX lsg R u hu HNX.out)
    generalize 1 + tot R = VV at *
    have hv0 : ¬ (VV : Int) < 0 := by omega
    have hvv : ((VV : Int) != (VV : Int)) = false := by simp
    have q23 : w23.cell? ⟨w10.heap.size, 0, none⟩ = some (Value.slice ag nX cg) := G023.out.cell 0
    go_wp2_with fail
    refine Calls.mono (HHL.out w23 H23.out) ?_
    rintro e w24 ⟨rfl, hb24⟩
    have B24 := kide (B23.out.trans (hb24.mono B23.out.size))
    have z24 := hb24.size
    have T24 := kide (T23.out.later hb24)
    have U24 := kide (U23.out.later hb24)
    have W24 := kide (W23.out.later hb24)
    have N24 := kide (N23.out.later hb24)
    have A24 := kide (A23.out.later hb24)
    have E24 := kide (E23.out.later hb24)
    have G024 := kide (G023.out.later hb24)
    have H24 := kide (H23.out.later hb24)
    clear q23
    clear hb24 B23 T23 U23 W23 N23 A23 E23 G023 H23
    have XTS := kide T24.out
    have XUS := kide U24.out
    have BVS := kide B24.out
    have HWS2 : Hid (b0 + 1 < w24.heap.size) := U24.out.lt
    clear HWS T24 U24
    have HWS := HWS2
    go_wp2_with fail
    apply share6 (F := fun v bN aw cw ls gd gt gu => Below w24.heap.size w24 v ∧ Bz v bN #[Value.slice aw nX cw] 28 ∧ HoldX v w24.heap.size aw ls R ∧ w24.heap.size ≤ bN)
    · skip
      intro key
      refine wp_region_x (SA := fun _ => False) (SB := fun z => z.cell? ⟨b0, 0, none⟩ = some (Value.slice b n c2) ∧ z.cell? ⟨b0 + 1, 0, none⟩ = some (Value.slice d m c3)) (k := 999) (by kernel_rfl) ?_
      have hbd : Below w24.heap.size w24 w24.drew := (Below.refl _ _).drew
      have XT0 := kide (XTS.out.later hbd)
      have XU0 := kide (XUS.out.later hbd)
      have BS0 := kide hbd
      have BV0 := kide (BVS.out.drew)
      clear hbd
      generalize w24.drew = v0 at *
      have hs0 : Hid ((fun z => z.cell? ⟨b0, 0, none⟩ = some (Value.slice b n c2) ∧ z.cell? ⟨b0 + 1, 0, none⟩ = some (Value.slice d m c3)) v0) := ⟨XT0.out.cell 0, XU0.out.cell 0⟩
      try go_simp
      refine wpAnyX_both (T := fun z => z.cell? ⟨b0, 0, none⟩ = some (Value.slice b n c2) ∧ z.cell? ⟨b0 + 1, 0, none⟩ = some (Value.slice d m c3)) (i := 0) (v := Value.slice a ds.length c) rfl (by kernel_rfl) (by kernel_rfl) (by kernel_rfl) (fun _ _ _ h => by first | exact h | exact h.elim) (by decide) (fun _ h => h.elim) (fun _ h => h) (Sx.behind (by kernel_rfl) hs0.out) (Or.inl ⟨by rfl, fun z hz => by obtain ⟨hz1, hz2⟩ := hz; go_simp⟩) ?_
      try go_simp
      refine wpAnyX_both (T := fun z => z.cell? ⟨b0, 0, none⟩ = some (Value.slice b n c2) ∧ z.cell? ⟨b0 + 1, 0, none⟩ = some (Value.slice d m c3)) (i := 2) (v := Value.agg #[Value.slice b n c2]) rfl (by kernel_rfl) (by kernel_rfl) (by kernel_rfl) (fun _ _ _ h => by first | exact h | exact h.elim) (by decide) (fun _ h => h.elim) (fun _ h => h) (Sx.behind (by kernel_rfl) hs0.out) (Or.inl ⟨by rfl, fun z hz => by obtain ⟨hz1, hz2⟩ := hz; go_simp⟩) ?_
      try go_simp
      refine wpAnyX_both (T := fun z => z.cell? ⟨b0, 0, none⟩ = some (Value.slice b n c2) ∧ z.cell? ⟨b0 + 1, 0, none⟩ = some (Value.slice d m c3)) (i := 4) (v := Value.agg #[Value.slice d m c3]) rfl (by kernel_rfl) (by kernel_rfl) (by kernel_rfl) (fun _ _ _ h => by first | exact h | exact h.elim) (by decide) (fun _ h => h.elim) (fun _ h => h) (Sx.behind (by kernel_rfl) hs0.out) (Or.inl ⟨by rfl, fun z hz => by obtain ⟨hz1, hz2⟩ := hz; go_simp⟩) ?_
      try go_simp
      refine wpAnyX_ready (rs := [1, 10]) (by kernel_rfl) (by simp) (AllX.cons rfl (fun K hK => ?_) (AllX.cons rfl (fun K hK => ?_) AllX.nil))
      · go_simp
        refine Calls.mono (HTD.out v0 BV0.out) ?_
        rintro e v1 ⟨rfl, rd, -, hb1⟩
        have XT1 := kide (XT0.out.later hb1)
        have XU1 := kide (XU0.out.later hb1)
        have BS1 := kide (BS0.out.trans (hb1.mono BS0.out.size))
        have BV1 := kide (BV0.out.trans (hb1.mono BV0.out.size))
        obtain ⟨gd, hgd⟩ : ∃ x, v0.heap.size = x := ⟨_, rfl⟩
        rw [hgd] at rd ⊢
        have RD1 := kide rd
        clear rd hgd hb1
        have hs1 : Hid ((fun z => z.cell? ⟨b0, 0, none⟩ = some (Value.slice b n c2) ∧ z.cell? ⟨b0 + 1, 0, none⟩ = some (Value.slice d m c3)) v1) := ⟨XT1.out.cell 0, XU1.out.cell 0⟩
        refine hK _ _ (Sx.behind (by kernel_rfl) hs1.out) ?_
        clear hK K
        try go_simp
        refine wpAnyX_ready (rs := [3, 10]) (by kernel_rfl) (by simp) (AllX.cons rfl (fun K hK => ?_) (AllX.cons rfl (fun K hK => ?_) AllX.nil))
        · go_simp
          refine Calls.mono (HTTT.out v1 BV1.out) ?_
          rintro e v2 ⟨gt, mt, rfl, hmt, rt, hb2⟩
          have XT2 := kide (XT1.out.later hb2)
          have XU2 := kide (XU1.out.later hb2)
          have RD2 := kide (RD1.out.later hb2)
          have BS2 := kide (BS1.out.trans (hb2.mono BS1.out.size))
          have BV2 := kide (BV1.out.trans (hb2.mono BV1.out.size))
          have RT2 := kide rt
          have MT := kide hmt
          clear rt hmt hb2
          have hs2 : Hid ((fun z => z.cell? ⟨b0, 0, none⟩ = some (Value.slice b n c2) ∧ z.cell? ⟨b0 + 1, 0, none⟩ = some (Value.slice d m c3)) v2) := ⟨XT2.out.cell 0, XU2.out.cell 0⟩
          refine hK _ _ (Sx.behind (by kernel_rfl) hs2.out) ?_
          clear hK K
          try go_simp
          refine wpAnyX_ready (rs := [5, 10]) (by kernel_rfl) (by simp) (AllX.cons rfl (fun K hK => ?_) (AllX.cons rfl (fun K hK => ?_) AllX.nil))
          · go_simp
            refine Calls.mono (HTTU.out v2 BV2.out) ?_
            rintro e v3 ⟨gu, mu, rfl, hmt, rt, hb3⟩
            have XT3 := kide (XT2.out.later hb3)
            have XU3 := kide (XU2.out.later hb3)
            have RD3 := kide (RD2.out.later hb3)
            have RT3 := kide (RT2.out.later hb3)
            have BS3 := kide (BS2.out.trans (hb3.mono BS2.out.size))
            have BV3 := kide (BV2.out.trans (hb3.mono BV2.out.size))
            have RU3 := kide rt
            have MU := kide hmt
            clear rt hmt hb3
            have hs3 : Hid ((fun z => z.cell? ⟨b0, 0, none⟩ = some (Value.slice b n c2) ∧ z.cell? ⟨b0 + 1, 0, none⟩ = some (Value.slice d m c3)) v3) := ⟨XT3.out.cell 0, XU3.out.cell 0⟩
            refine hK _ _ (Sx.behind (by kernel_rfl) hs3.out) ?_
            clear hK K
            try go_simp
            refine wpAnyX_ready (rs := [6, 10]) (by kernel_rfl) (by simp) (AllX.cons rfl (fun K hK => ?_) (AllX.cons rfl (fun K hK => ?_) AllX.nil))
            · go_simp
              refine Calls.mono (HIE.out v3 gd gt gu mt mu BV3.out RD3.out RT3.out MT.out RU3.out MU.out) ?_
              rintro e v4 ⟨aw, cw, ls, rfl, hts, hb4⟩
              have XT4 := kide (XT3.out.later hb4)
              have XU4 := kide (XU3.out.later hb4)
              have RD4 := kide (RD3.out.later hb4)
              have RT4 := kide (RT3.out.later hb4)
              have RU4 := kide (RU3.out.later hb4)
              have BS4 := kide (BS3.out.trans (hb4.mono BS3.out.size))
              have BV4 := kide (BV3.out.trans (hb4.mono BV3.out.size))
              have TW4 : Hid (HoldX v4 w24.heap.size aw ls R) := HoldR.lower hts BS3.out.size
              clear hts hb4
              have hs4 : Hid ((fun z => z.cell? ⟨b0, 0, none⟩ = some (Value.slice b n c2) ∧ z.cell? ⟨b0 + 1, 0, none⟩ = some (Value.slice d m c3)) v4) := ⟨XT4.out.cell 0, XU4.out.cell 0⟩
              refine hK _ _ (Sx.behind (by kernel_rfl) hs4.out) ?_
              clear hK K
              try go_simp
              refine wpAnyX_both (T := fun z => z.cell? ⟨b0, 0, none⟩ = some (Value.slice b n c2) ∧ z.cell? ⟨b0 + 1, 0, none⟩ = some (Value.slice d m c3)) (i := 7) (v := Value.tuple #[Value.agg #[Value.slice aw nX cw], Value.bool Q]) rfl (by kernel_rfl) (by kernel_rfl) (by kernel_rfl) (fun _ _ _ h => by first | exact h | exact h.elim) (by decide) (fun _ h => h.elim) (fun _ h => h) (Sx.behind (by kernel_rfl) hs4.out) (Or.inl ⟨by rfl, fun z hz => by obtain ⟨hz1, hz2⟩ := hz; go_simp⟩) ?_
              try go_simp
              refine wpAnyX_both (T := fun z => z.cell? ⟨b0, 0, none⟩ = some (Value.slice b n c2) ∧ z.cell? ⟨b0 + 1, 0, none⟩ = some (Value.slice d m c3)) (i := 8) (v := Value.agg #[Value.slice aw nX cw]) rfl (by kernel_rfl) (by kernel_rfl) (by kernel_rfl) (fun _ _ _ h => by first | exact h | exact h.elim) (by decide) (fun _ h => h.elim) (fun _ h => h) (Sx.behind (by kernel_rfl) hs4.out) (Or.inl ⟨by rfl, fun z hz => by obtain ⟨hz1, hz2⟩ := hz; go_simp⟩) ?_
              try go_simp
              refine wpAnyX_both (T := fun z => z.cell? ⟨b0, 0, none⟩ = some (Value.slice b n c2) ∧ z.cell? ⟨b0 + 1, 0, none⟩ = some (Value.slice d m c3)) (i := 9) (v := Value.bool Q) rfl (by kernel_rfl) (by kernel_rfl) (by kernel_rfl) (fun _ _ _ h => by first | exact h | exact h.elim) (by decide) (fun _ h => h.elim) (fun _ h => h) (Sx.behind (by kernel_rfl) hs4.out) (Or.inl ⟨by rfl, fun z hz => by obtain ⟨hz1, hz2⟩ := hz; go_simp⟩) ?_
              try go_simp
              refine wpAnyX_ready (rs := [10]) (by kernel_rfl) (by simp) (AllX.cons rfl (fun K hK => ?_) AllX.nil)
              go_simp
              have hbx : Below v4.heap.size v4 (v4.alloc (Obj.cells #[Value.slice none 0 0] 28)) := (Below.refl _ _).alloc (Nat.le_refl _) _
              have XT5 := kide (XT4.out.later hbx)
              have XU5 := kide (XU4.out.later hbx)
              have TW5 := kide (TW4.out.later hbx)
              have BS5 := kide (BS4.out.trans (hbx.mono BS4.out.size))
              have BV5 := kide (BV4.out.trans (hbx.mono BV4.out.size))
              have XN5 := kide (Bz.new v4 #[Value.slice none 0 0] 28)
              have hN : Hid (w24.heap.size ≤ v4.heap.size) := BS4.out.size
              obtain ⟨bN, hbN⟩ : ∃ x, v4.heap.size = x := ⟨_, rfl⟩
              rw [hbN] at XN5 hN ⊢
              clear hbN hbx
              generalize v4.alloc (Obj.cells #[Value.slice none 0 0] 28) = v5 at *
              have hs5 : Hid ((fun z => z.cell? ⟨b0, 0, none⟩ = some (Value.slice b n c2) ∧ z.cell? ⟨b0 + 1, 0, none⟩ = some (Value.slice d m c3)) v5) := ⟨XT5.out.cell 0, XU5.out.cell 0⟩
              refine hK _ _ (Sx.behind (by kernel_rfl) hs5.out) ?_
              clear hK K
              try go_simp
              refine wpAnyX_ready (rs := [11]) (by kernel_rfl) (by simp) (AllX.cons rfl (fun K hK => ?_) AllX.nil)
              have e8 := XN5.out.cell 0
              have f8 := XN5.out.froz 0
              simp at e8
              go_simp
              have XN6 : Hid (Bz (v5.setCell ⟨bN, 0, none⟩ (Value.slice aw nX cw)) bN #[Value.slice aw nX cw] 28) := XN5.out.set 0 _
              have XT6 : Hid (Bz (v5.setCell ⟨bN, 0, none⟩ (Value.slice aw nX cw)) b0 #[Value.slice b n c2] 25) := XT5.out.other (by have := hN.out; have := HWS.out; omega) 0 _
              have XU6 : Hid (Bz (v5.setCell ⟨bN, 0, none⟩ (Value.slice aw nX cw)) (b0 + 1) #[Value.slice d m c3] 25) := XU5.out.other (by have := hN.out; have := HWS.out; omega) 0 _
              have BS6 : Hid (Below w24.heap.size w24 (v5.setCell ⟨bN, 0, none⟩ (Value.slice aw nX cw))) := BS5.out.setCell (show w24.heap.size ≤ bN from hN.out) _
              have BV6 : Hid (Below w.heap.size w (v5.setCell ⟨bN, 0, none⟩ (Value.slice aw nX cw))) := BV5.out.setCell (show w.heap.size ≤ bN by have := hN.out; have := HWS.out; have := HB0.out; omega) _
              have TW6 : Hid (HoldX (v5.setCell ⟨bN, 0, none⟩ (Value.slice aw nX cw)) w24.heap.size aw ls R) := TW5.out.set XN5.out (by decide) (by decide) _
              generalize v5.setCell ⟨bN, 0, none⟩ (Value.slice aw nX cw) = v6 at *
              clear e8 f8
              have hs6 : Hid ((fun z => z.cell? ⟨b0, 0, none⟩ = some (Value.slice b n c2) ∧ z.cell? ⟨b0 + 1, 0, none⟩ = some (Value.slice d m c3)) v6) := ⟨XT6.out.cell 0, XU6.out.cell 0⟩
              refine hK _ _ (Sx.behind (by kernel_rfl) hs6.out) ?_
              clear hK K
              try go_simp
              refine wpAnyX_both (T := fun z => z.cell? ⟨b0, 0, none⟩ = some (Value.slice b n c2) ∧ z.cell? ⟨b0 + 1, 0, none⟩ = some (Value.slice d m c3)) (i := 12) (v := Value.bool Q) rfl (by kernel_rfl) (by kernel_rfl) (by kernel_rfl) (fun _ _ _ h => by first | exact h | exact h.elim) (by decide) (fun _ h => h.elim) (fun _ h => h) (Sx.behind (by kernel_rfl) hs6.out) (Or.inl ⟨by rfl, fun z hz => by obtain ⟨hz1, hz2⟩ := hz; go_simp⟩) ?_
              try go_simp
              refine wpAnyX_done (by kernel_rfl) ?_ _
              try go_simp
              exact key v6 bN aw cw ls gd gt gu ⟨BS6.out, XN6.out, TW6.out, hN.out⟩
            · go_simp
              have hbx : Below v3.heap.size v3 (v3.alloc (Obj.cells #[Value.slice none 0 0] 28)) := (Below.refl _ _).alloc (Nat.le_refl _) _
              have XT4 := kide (XT3.out.later hbx)
              have XU4 := kide (XU3.out.later hbx)
              have RD4 := kide (RD3.out.later hbx)
              have RT4 := kide (RT3.out.later hbx)
              have RU4 := kide (RU3.out.later hbx)
              have BS4 := kide (BS3.out.trans (hbx.mono BS3.out.size))
              have BV4 := kide (BV3.out.trans (hbx.mono BV3.out.size))
              have XN4 := kide (Bz.new v3 #[Value.slice none 0 0] 28)
              have hN : Hid (w24.heap.size ≤ v3.heap.size) := BS3.out.size
              obtain ⟨bN, hbN⟩ : ∃ x, v3.heap.size = x := ⟨_, rfl⟩
              rw [hbN] at XN4 hN ⊢
              clear hbN hbx
              generalize v3.alloc (Obj.cells #[Value.slice none 0 0] 28) = v4 at *
              have hs4 : Hid ((fun z => z.cell? ⟨b0, 0, none⟩ = some (Value.slice b n c2) ∧ z.cell? ⟨b0 + 1, 0, none⟩ = some (Value.slice d m c3)) v4) := ⟨XT4.out.cell 0, XU4.out.cell 0⟩
              refine hK _ _ (Sx.behind (by kernel_rfl) hs4.out) ?_
              clear hK K
              try go_simp
              refine wpAnyX_ready (rs := [6]) (by kernel_rfl) (by simp) (AllX.cons rfl (fun K hK => ?_) AllX.nil)
              go_simp
              refine Calls.mono (HIE.out v4 gd gt gu mt mu BV4.out RD4.out RT4.out MT.out RU4.out MU.out) ?_
              rintro e v5 ⟨aw, cw, ls, rfl, hts, hb5⟩
              have XT5 := kide (XT4.out.later hb5)
              have XU5 := kide (XU4.out.later hb5)
              have RD5 := kide (RD4.out.later hb5)
              have RT5 := kide (RT4.out.later hb5)
              have RU5 := kide (RU4.out.later hb5)
              have XN5 := kide (XN4.out.later hb5)
              have BS5 := kide (BS4.out.trans (hb5.mono BS4.out.size))
              have BV5 := kide (BV4.out.trans (hb5.mono BV4.out.size))
              have TW5 : Hid (HoldX v5 w24.heap.size aw ls R) := HoldR.lower hts BS4.out.size
              clear hts hb5
              have hs5 : Hid ((fun z => z.cell? ⟨b0, 0, none⟩ = some (Value.slice b n c2) ∧ z.cell? ⟨b0 + 1, 0, none⟩ = some (Value.slice d m c3)) v5) := ⟨XT5.out.cell 0, XU5.out.cell 0⟩
              refine hK _ _ (Sx.behind (by kernel_rfl) hs5.out) ?_
              clear hK K
              try go_simp
              refine wpAnyX_both (T := fun z => z.cell? ⟨b0, 0, none⟩ = some (Value.slice b n c2) ∧ z.cell? ⟨b0 + 1, 0, none⟩ = some (Value.slice d m c3)) (i := 7) (v := Value.tuple #[Value.agg #[Value.slice aw nX cw], Value.bool Q]) rfl (by kernel_rfl) (by kernel_rfl) (by kernel_rfl) (fun _ _ _ h => by first | exact h | exact h.elim) (by decide) (fun _ h => h.elim) (fun _ h => h) (Sx.behind (by kernel_rfl) hs5.out) (Or.inl ⟨by rfl, fun z hz => by obtain ⟨hz1, hz2⟩ := hz; go_simp⟩) ?_
              try go_simp
              refine wpAnyX_both (T := fun z => z.cell? ⟨b0, 0, none⟩ = some (Value.slice b n c2) ∧ z.cell? ⟨b0 + 1, 0, none⟩ = some (Value.slice d m c3)) (i := 8) (v := Value.agg #[Value.slice aw nX cw]) rfl (by kernel_rfl) (by kernel_rfl) (by kernel_rfl) (fun _ _ _ h => by first | exact h | exact h.elim) (by decide) (fun _ h => h.elim) (fun _ h => h) (Sx.behind (by kernel_rfl) hs5.out) (Or.inl ⟨by rfl, fun z hz => by obtain ⟨hz1, hz2⟩ := hz; go_simp⟩) ?_
              try go_simp
              refine wpAnyX_both (T := fun z => z.cell? ⟨b0, 0, none⟩ = some (Value.slice b n c2) ∧ z.cell? ⟨b0 + 1, 0, none⟩ = some (Value.slice d m c3)) (i := 9) (v := Value.bool Q) rfl (by kernel_rfl) (by kernel_rfl) (by kernel_rfl) (fun _ _ _ h => by first | exact h | exact h.elim) (by decide) (fun _ h => h.elim) (fun _ h => h) (Sx.behind (by kernel_rfl) hs5.out) (Or.inl ⟨by rfl, fun z hz => by obtain ⟨hz1, hz2⟩ := hz; go_simp⟩) ?_
              try go_simp
              refine wpAnyX_ready (rs := [11]) (by kernel_rfl) (by simp) (AllX.cons rfl (fun K hK => ?_) AllX.nil)
              have e8 := XN5.out.cell 0
              have f8 := XN5.out.froz 0
              simp at e8
              go_simp
              have XN6 : Hid (Bz (v5.setCell ⟨bN, 0, none⟩ (Value.slice aw nX cw)) bN #[Value.slice aw nX cw] 28) := XN5.out.set 0 _
              have XT6 : Hid (Bz (v5.setCell ⟨bN, 0, none⟩ (Value.slice aw nX cw)) b0 #[Value.slice b n c2] 25) := XT5.out.other (by have := hN.out; have := HWS.out; omega) 0 _
              have XU6 : Hid (Bz (v5.setCell ⟨bN, 0, none⟩ (Value.slice aw nX cw)) (b0 + 1) #[Value.slice d m c3] 25) := XU5.out.other (by have := hN.out; have := HWS.out; omega) 0 _
              have BS6 : Hid (Below w24.heap.size w24 (v5.setCell ⟨bN, 0, none⟩ (Value.slice aw nX cw))) := BS5.out.setCell (show w24.heap.size ≤ bN from hN.out) _
              have BV6 : Hid (Below w.heap.size w (v5.setCell ⟨bN, 0, none⟩ (Value.slice aw nX cw))) := BV5.out.setCell (show w.heap.size ≤ bN by have := hN.out; have := HWS.out; have := HB0.out; omega) _
              have TW6 : Hid (HoldX (v5.setCell ⟨bN, 0, none⟩ (Value.slice aw nX cw)) w24.heap.size aw ls R) := TW5.out.set XN5.out (by decide) (by decide) _
              generalize v5.setCell ⟨bN, 0, none⟩ (Value.slice aw nX cw) = v6 at *
              clear e8 f8
              have hs6 : Hid ((fun z => z.cell? ⟨b0, 0, none⟩ = some (Value.slice b n c2) ∧ z.cell? ⟨b0 + 1, 0, none⟩ = some (Value.slice d m c3)) v6) := ⟨XT6.out.cell 0, XU6.out.cell 0⟩
              refine hK _ _ (Sx.behind (by kernel_rfl) hs6.out) ?_
              clear hK K
              try go_simp
              refine wpAnyX_both (T := fun z => z.cell? ⟨b0, 0, none⟩ = some (Value.slice b n c2) ∧ z.cell? ⟨b0 + 1, 0, none⟩ = some (Value.slice d m c3)) (i := 12) (v := Value.bool Q) rfl (by kernel_rfl) (by kernel_rfl) (by kernel_rfl) (fun _ _ _ h => by first | exact h | exact h.elim) (by decide) (fun _ h => h.elim) (fun _ h => h) (Sx.behind (by kernel_rfl) hs6.out) (Or.inl ⟨by rfl, fun z hz => by obtain ⟨hz1, hz2⟩ := hz; go_simp⟩) ?_
              try go_simp
              refine wpAnyX_done (by kernel_rfl) ?_ _
              try go_simp
              exact key v6 bN aw cw ls gd gt gu ⟨BS6.out, XN6.out, TW6.out, hN.out⟩
          · go_simp
            have hbx : Below v2.heap.size v2 (v2.alloc (Obj.cells #[Value.slice none 0 0] 28)) := (Below.refl _ _).alloc (Nat.le_refl _) _
            have XT3 := kide (XT2.out.later hbx)
            have XU3 := kide (XU2.out.later hbx)
            have RD3 := kide (RD2.out.later hbx)
            have RT3 := kide (RT2.out.later hbx)
            have BS3 := kide (BS2.out.trans (hbx.mono BS2.out.size))
            have BV3 := kide (BV2.out.trans (hbx.mono BV2.out.size))
            have XN3 := kide (Bz.new v2 #[Value.slice none 0 0] 28)
            have hN : Hid (w24.heap.size ≤ v2.heap.size) := BS2.out.size
            obtain ⟨bN, hbN⟩ : ∃ x, v2.heap.size = x := ⟨_, rfl⟩
            rw [hbN] at XN3 hN ⊢
            clear hbN hbx
            generalize v2.alloc (Obj.cells #[Value.slice none 0 0] 28) = v3 at *
            have hs3 : Hid ((fun z => z.cell? ⟨b0, 0, none⟩ = some (Value.slice b n c2) ∧ z.cell? ⟨b0 + 1, 0, none⟩ = some (Value.slice d m c3)) v3) := ⟨XT3.out.cell 0, XU3.out.cell 0⟩
            refine hK _ _ (Sx.behind (by kernel_rfl) hs3.out) ?_
            clear hK K
            try go_simp
            refine wpAnyX_ready (rs := [5]) (by kernel_rfl) (by simp) (AllX.cons rfl (fun K hK => ?_) AllX.nil)
            go_simp
            refine Calls.mono (HTTU.out v3 BV3.out) ?_
            rintro e v4 ⟨gu, mu, rfl, hmt, rt, hb4⟩
            have XT4 := kide (XT3.out.later hb4)
            have XU4 := kide (XU3.out.later hb4)
            have RD4 := kide (RD3.out.later hb4)
            have RT4 := kide (RT3.out.later hb4)
            have XN4 := kide (XN3.out.later hb4)
            have BS4 := kide (BS3.out.trans (hb4.mono BS3.out.size))
            have BV4 := kide (BV3.out.trans (hb4.mono BV3.out.size))
            have RU4 := kide rt
            have MU := kide hmt
            clear rt hmt hb4
            have hs4 : Hid ((fun z => z.cell? ⟨b0, 0, none⟩ = some (Value.slice b n c2) ∧ z.cell? ⟨b0 + 1, 0, none⟩ = some (Value.slice d m c3)) v4) := ⟨XT4.out.cell 0, XU4.out.cell 0⟩
            refine hK _ _ (Sx.behind (by kernel_rfl) hs4.out) ?_
            clear hK K
            try go_simp
            refine wpAnyX_ready (rs := [6]) (by kernel_rfl) (by simp) (AllX.cons rfl (fun K hK => ?_) AllX.nil)
            go_simp
            refine Calls.mono (HIE.out v4 gd gt gu mt mu BV4.out RD4.out RT4.out MT.out RU4.out MU.out) ?_
            rintro e v5 ⟨aw, cw, ls, rfl, hts, hb5⟩
            have XT5 := kide (XT4.out.later hb5)
            have XU5 := kide (XU4.out.later hb5)
            have RD5 := kide (RD4.out.later hb5)
            have RT5 := kide (RT4.out.later hb5)
            have XN5 := kide (XN4.out.later hb5)
            have RU5 := kide (RU4.out.later hb5)
            have BS5 := kide (BS4.out.trans (hb5.mono BS4.out.size))
            have BV5 := kide (BV4.out.trans (hb5.mono BV4.out.size))
            have TW5 : Hid (HoldX v5 w24.heap.size aw ls R) := HoldR.lower hts BS4.out.size
            clear hts hb5
            have hs5 : Hid ((fun z => z.cell? ⟨b0, 0, none⟩ = some (Value.slice b n c2) ∧ z.cell? ⟨b0 + 1, 0, none⟩ = some (Value.slice d m c3)) v5) := ⟨XT5.out.cell 0, XU5.out.cell 0⟩
            refine hK _ _ (Sx.behind (by kernel_rfl) hs5.out) ?_
            clear hK K
            try go_simp
            refine wpAnyX_both (T := fun z => z.cell? ⟨b0, 0, none⟩ = some (Value.slice b n c2) ∧ z.cell? ⟨b0 + 1, 0, none⟩ = some (Value.slice d m c3)) (i := 7) (v := Value.tuple #[Value.agg #[Value.slice aw nX cw], Value.bool Q]) rfl (by kernel_rfl) (by kernel_rfl) (by kernel_rfl) (fun _ _ _ h => by first | exact h | exact h.elim) (by decide) (fun _ h => h.elim) (fun _ h => h) (Sx.behind (by kernel_rfl) hs5.out) (Or.inl ⟨by rfl, fun z hz => by obtain ⟨hz1, hz2⟩ := hz; go_simp⟩) ?_
            try go_simp
            refine wpAnyX_both (T := fun z => z.cell? ⟨b0, 0, none⟩ = some (Value.slice b n c2) ∧ z.cell? ⟨b0 + 1, 0, none⟩ = some (Value.slice d m c3)) (i := 8) (v := Value.agg #[Value.slice aw nX cw]) rfl (by kernel_rfl) (by kernel_rfl) (by kernel_rfl) (fun _ _ _ h => by first | exact h | exact h.elim) (by decide) (fun _ h => h.elim) (fun _ h => h) (Sx.behind (by kernel_rfl) hs5.out) (Or.inl ⟨by rfl, fun z hz => by obtain ⟨hz1, hz2⟩ := hz; go_simp⟩) ?_
            try go_simp
            refine wpAnyX_both (T := fun z => z.cell? ⟨b0, 0, none⟩ = some (Value.slice b n c2) ∧ z.cell? ⟨b0 + 1, 0, none⟩ = some (Value.slice d m c3)) (i := 9) (v := Value.bool Q) rfl (by kernel_rfl) (by kernel_rfl) (by kernel_rfl) (fun _ _ _ h => by first | exact h | exact h.elim) (by decide) (fun _ h => h.elim) (fun _ h => h) (Sx.behind (by kernel_rfl) hs5.out) (Or.inl ⟨by rfl, fun z hz => by obtain ⟨hz1, hz2⟩ := hz; go_simp⟩) ?_
            try go_simp
            refine wpAnyX_ready (rs := [11]) (by kernel_rfl) (by simp) (AllX.cons rfl (fun K hK => ?_) AllX.nil)
            have e8 := XN5.out.cell 0
            have f8 := XN5.out.froz 0
            simp at e8
            go_simp
            have XN6 : Hid (Bz (v5.setCell ⟨bN, 0, none⟩ (Value.slice aw nX cw)) bN #[Value.slice aw nX cw] 28) := XN5.out.set 0 _
            have XT6 : Hid (Bz (v5.setCell ⟨bN, 0, none⟩ (Value.slice aw nX cw)) b0 #[Value.slice b n c2] 25) := XT5.out.other (by have := hN.out; have := HWS.out; omega) 0 _
            have XU6 : Hid (Bz (v5.setCell ⟨bN, 0, none⟩ (Value.slice aw nX cw)) (b0 + 1) #[Value.slice d m c3] 25) := XU5.out.other (by have := hN.out; have := HWS.out; omega) 0 _
            have BS6 : Hid (Below w24.heap.size w24 (v5.setCell ⟨bN, 0, none⟩ (Value.slice aw nX cw))) := BS5.out.setCell (show w24.heap.size ≤ bN from hN.out) _
            have BV6 : Hid (Below w.heap.size w (v5.setCell ⟨bN, 0, none⟩ (Value.slice aw nX cw))) := BV5.out.setCell (show w.heap.size ≤ bN by have := hN.out; have := HWS.out; have := HB0.out; omega) _
            have TW6 : Hid (HoldX (v5.setCell ⟨bN, 0, none⟩ (Value.slice aw nX cw)) w24.heap.size aw ls R) := TW5.out.set XN5.out (by decide) (by decide) _
            generalize v5.setCell ⟨bN, 0, none⟩ (Value.slice aw nX cw) = v6 at *
            clear e8 f8
            have hs6 : Hid ((fun z => z.cell? ⟨b0, 0, none⟩ = some (Value.slice b n c2) ∧ z.cell? ⟨b0 + 1, 0, none⟩ = some (Value.slice d m c3)) v6) := ⟨XT6.out.cell 0, XU6.out.cell 0⟩
            refine hK _ _ (Sx.behind (by kernel_rfl) hs6.out) ?_
            clear hK K
            try go_simp
            refine wpAnyX_both (T := fun z => z.cell? ⟨b0, 0, none⟩ = some (Value.slice b n c2) ∧ z.cell? ⟨b0 + 1, 0, none⟩ = some (Value.slice d m c3)) (i := 12) (v := Value.bool Q) rfl (by kernel_rfl) (by kernel_rfl) (by kernel_rfl) (fun _ _ _ h => by first | exact h | exact h.elim) (by decide) (fun _ h => h.elim) (fun _ h => h) (Sx.behind (by kernel_rfl) hs6.out) (Or.inl ⟨by rfl, fun z hz => by obtain ⟨hz1, hz2⟩ := hz; go_simp⟩) ?_
            try go_simp
            refine wpAnyX_done (by kernel_rfl) ?_ _
            try go_simp
            exact key v6 bN aw cw ls gd gt gu ⟨BS6.out, XN6.out, TW6.out, hN.out⟩
        · go_simp
          have hbx : Below v1.heap.size v1 (v1.alloc (Obj.cells #[Value.slice none 0 0] 28)) := (Below.refl _ _).alloc (Nat.le_refl _) _
          have XT2 := kide (XT1.out.later hbx)
          have XU2 := kide (XU1.out.later hbx)
          have RD2 := kide (RD1.out.later hbx)
          have BS2 := kide (BS1.out.trans (hbx.mono BS1.out.size))
          have BV2 := kide (BV1.out.trans (hbx.mono BV1.out.size))
          have XN2 := kide (Bz.new v1 #[Value.slice none 0 0] 28)
          have hN : Hid (w24.heap.size ≤ v1.heap.size) := BS1.out.size
          obtain ⟨bN, hbN⟩ : ∃ x, v1.heap.size = x := ⟨_, rfl⟩
          rw [hbN] at XN2 hN ⊢
          clear hbN hbx
          generalize v1.alloc (Obj.cells #[Value.slice none 0 0] 28) = v2 at *
          have hs2 : Hid ((fun z => z.cell? ⟨b0, 0, none⟩ = some (Value.slice b n c2) ∧ z.cell? ⟨b0 + 1, 0, none⟩ = some (Value.slice d m c3)) v2) := ⟨XT2.out.cell 0, XU2.out.cell 0⟩
          refine hK _ _ (Sx.behind (by kernel_rfl) hs2.out) ?_
          clear hK K
          try go_simp
          refine wpAnyX_ready (rs := [3]) (by kernel_rfl) (by simp) (AllX.cons rfl (fun K hK => ?_) AllX.nil)
          go_simp
          refine Calls.mono (HTTT.out v2 BV2.out) ?_
          rintro e v3 ⟨gt, mt, rfl, hmt, rt, hb3⟩
          have XT3 := kide (XT2.out.later hb3)
          have XU3 := kide (XU2.out.later hb3)
          have RD3 := kide (RD2.out.later hb3)
          have XN3 := kide (XN2.out.later hb3)
          have BS3 := kide (BS2.out.trans (hb3.mono BS2.out.size))
          have BV3 := kide (BV2.out.trans (hb3.mono BV2.out.size))
          have RT3 := kide rt
          have MT := kide hmt
          clear rt hmt hb3
          have hs3 : Hid ((fun z => z.cell? ⟨b0, 0, none⟩ = some (Value.slice b n c2) ∧ z.cell? ⟨b0 + 1, 0, none⟩ = some (Value.slice d m c3)) v3) := ⟨XT3.out.cell 0, XU3.out.cell 0⟩
          refine hK _ _ (Sx.behind (by kernel_rfl) hs3.out) ?_
          clear hK K
          try go_simp
          refine wpAnyX_ready (rs := [5]) (by kernel_rfl) (by simp) (AllX.cons rfl (fun K hK => ?_) AllX.nil)
          go_simp
          refine Calls.mono (HTTU.out v3 BV3.out) ?_
          rintro e v4 ⟨gu, mu, rfl, hmt, rt, hb4⟩
          have XT4 := kide (XT3.out.later hb4)
          have XU4 := kide (XU3.out.later hb4)
          have RD4 := kide (RD3.out.later hb4)
          have XN4 := kide (XN3.out.later hb4)
          have RT4 := kide (RT3.out.later hb4)
          have BS4 := kide (BS3.out.trans (hb4.mono BS3.out.size))
          have BV4 := kide (BV3.out.trans (hb4.mono BV3.out.size))
          have RU4 := kide rt
          have MU := kide hmt
          clear rt hmt hb4
          have hs4 : Hid ((fun z => z.cell? ⟨b0, 0, none⟩ = some (Value.slice b n c2) ∧ z.cell? ⟨b0 + 1, 0, none⟩ = some (Value.slice d m c3)) v4) := ⟨XT4.out.cell 0, XU4.out.cell 0⟩
          refine hK _ _ (Sx.behind (by kernel_rfl) hs4.out) ?_
          clear hK K
          try go_simp
          refine wpAnyX_ready (rs := [6]) (by kernel_rfl) (by simp) (AllX.cons rfl (fun K hK => ?_) AllX.nil)
          go_simp
          refine Calls.mono (HIE.out v4 gd gt gu mt mu BV4.out RD4.out RT4.out MT.out RU4.out MU.out) ?_
          rintro e v5 ⟨aw, cw, ls, rfl, hts, hb5⟩
          have XT5 := kide (XT4.out.later hb5)
          have XU5 := kide (XU4.out.later hb5)
          have RD5 := kide (RD4.out.later hb5)
          have XN5 := kide (XN4.out.later hb5)
          have RT5 := kide (RT4.out.later hb5)
          have RU5 := kide (RU4.out.later hb5)
          have BS5 := kide (BS4.out.trans (hb5.mono BS4.out.size))
          have BV5 := kide (BV4.out.trans (hb5.mono BV4.out.size))
          have TW5 : Hid (HoldX v5 w24.heap.size aw ls R) := HoldR.lower hts BS4.out.size
          clear hts hb5
          have hs5 : Hid ((fun z => z.cell? ⟨b0, 0, none⟩ = some (Value.slice b n c2) ∧ z.cell? ⟨b0 + 1, 0, none⟩ = some (Value.slice d m c3)) v5) := ⟨XT5.out.cell 0, XU5.out.cell 0⟩
          refine hK _ _ (Sx.behind (by kernel_rfl) hs5.out) ?_
          clear hK K
          try go_simp
          refine wpAnyX_both (T := fun z => z.cell? ⟨b0, 0, none⟩ = some (Value.slice b n c2) ∧ z.cell? ⟨b0 + 1, 0, none⟩ = some (Value.slice d m c3)) (i := 7) (v := Value.tuple #[Value.agg #[Value.slice aw nX cw], Value.bool Q]) rfl (by kernel_rfl) (by kernel_rfl) (by kernel_rfl) (fun _ _ _ h => by first | exact h | exact h.elim) (by decide) (fun _ h => h.elim) (fun _ h => h) (Sx.behind (by kernel_rfl) hs5.out) (Or.inl ⟨by rfl, fun z hz => by obtain ⟨hz1, hz2⟩ := hz; go_simp⟩) ?_
          try go_simp
          refine wpAnyX_both (T := fun z => z.cell? ⟨b0, 0, none⟩ = some (Value.slice b n c2) ∧ z.cell? ⟨b0 + 1, 0, none⟩ = some (Value.slice d m c3)) (i := 8) (v := Value.agg #[Value.slice aw nX cw]) rfl (by kernel_rfl) (by kernel_rfl) (by kernel_rfl) (fun _ _ _ h => by first | exact h | exact h.elim) (by decide) (fun _ h => h.elim) (fun _ h => h) (Sx.behind (by kernel_rfl) hs5.out) (Or.inl ⟨by rfl, fun z hz => by obtain ⟨hz1, hz2⟩ := hz; go_simp⟩) ?_
          try go_simp
          refine wpAnyX_both (T := fun z => z.cell? ⟨b0, 0, none⟩ = some (Value.slice b n c2) ∧ z.cell? ⟨b0 + 1, 0, none⟩ = some (Value.slice d m c3)) (i := 9) (v := Value.bool Q) rfl (by kernel_rfl) (by kernel_rfl) (by kernel_rfl) (fun _ _ _ h => by first | exact h | exact h.elim) (by decide) (fun _ h => h.elim) (fun _ h => h) (Sx.behind (by kernel_rfl) hs5.out) (Or.inl ⟨by rfl, fun z hz => by obtain ⟨hz1, hz2⟩ := hz; go_simp⟩) ?_
          try go_simp
          refine wpAnyX_ready (rs := [11]) (by kernel_rfl) (by simp) (AllX.cons rfl (fun K hK => ?_) AllX.nil)
          have e8 := XN5.out.cell 0
          have f8 := XN5.out.froz 0
          simp at e8
          go_simp
          have XN6 : Hid (Bz (v5.setCell ⟨bN, 0, none⟩ (Value.slice aw nX cw)) bN #[Value.slice aw nX cw] 28) := XN5.out.set 0 _
          have XT6 : Hid (Bz (v5.setCell ⟨bN, 0, none⟩ (Value.slice aw nX cw)) b0 #[Value.slice b n c2] 25) := XT5.out.other (by have := hN.out; have := HWS.out; omega) 0 _
          have XU6 : Hid (Bz (v5.setCell ⟨bN, 0, none⟩ (Value.slice aw nX cw)) (b0 + 1) #[Value.slice d m c3] 25) := XU5.out.other (by have := hN.out; have := HWS.out; omega) 0 _
          have BS6 : Hid (Below w24.heap.size w24 (v5.setCell ⟨bN, 0, none⟩ (Value.slice aw nX cw))) := BS5.out.setCell (show w24.heap.size ≤ bN from hN.out) _
          have BV6 : Hid (Below w.heap.size w (v5.setCell ⟨bN, 0, none⟩ (Value.slice aw nX cw))) := BV5.out.setCell (show w.heap.size ≤ bN by have := hN.out; have := HWS.out; have := HB0.out; omega) _
          have TW6 : Hid (HoldX (v5.setCell ⟨bN, 0, none⟩ (Value.slice aw nX cw)) w24.heap.size aw ls R) := TW5.out.set XN5.out (by decide) (by decide) _
          generalize v5.setCell ⟨bN, 0, none⟩ (Value.slice aw nX cw) = v6 at *
          clear e8 f8
          have hs6 : Hid ((fun z => z.cell? ⟨b0, 0, none⟩ = some (Value.slice b n c2) ∧ z.cell? ⟨b0 + 1, 0, none⟩ = some (Value.slice d m c3)) v6) := ⟨XT6.out.cell 0, XU6.out.cell 0⟩
          refine hK _ _ (Sx.behind (by kernel_rfl) hs6.out) ?_
          clear hK K
          try go_simp
          refine wpAnyX_both (T := fun z => z.cell? ⟨b0, 0, none⟩ = some (Value.slice b n c2) ∧ z.cell? ⟨b0 + 1, 0, none⟩ = some (Value.slice d m c3)) (i := 12) (v := Value.bool Q) rfl (by kernel_rfl) (by kernel_rfl) (by kernel_rfl) (fun _ _ _ h => by first | exact h | exact h.elim) (by decide) (fun _ h => h.elim) (fun _ h => h) (Sx.behind (by kernel_rfl) hs6.out) (Or.inl ⟨by rfl, fun z hz => by obtain ⟨hz1, hz2⟩ := hz; go_simp⟩) ?_
          try go_simp
          refine wpAnyX_done (by kernel_rfl) ?_ _
          try go_simp
          exact key v6 bN aw cw ls gd gt gu ⟨BS6.out, XN6.out, TW6.out, hN.out⟩
      · go_simp
        have hbx : Below v0.heap.size v0 (v0.alloc (Obj.cells #[Value.slice none 0 0] 28)) := (Below.refl _ _).alloc (Nat.le_refl _) _
        have XT1 := kide (XT0.out.later hbx)
        have XU1 := kide (XU0.out.later hbx)
        have BS1 := kide (BS0.out.trans (hbx.mono BS0.out.size))
        have BV1 := kide (BV0.out.trans (hbx.mono BV0.out.size))
        have XN1 := kide (Bz.new v0 #[Value.slice none 0 0] 28)
        have hN : Hid (w24.heap.size ≤ v0.heap.size) := BS0.out.size
        obtain ⟨bN, hbN⟩ : ∃ x, v0.heap.size = x := ⟨_, rfl⟩
        rw [hbN] at XN1 hN ⊢
        clear hbN hbx
        generalize v0.alloc (Obj.cells #[Value.slice none 0 0] 28) = v1 at *
        have hs1 : Hid ((fun z => z.cell? ⟨b0, 0, none⟩ = some (Value.slice b n c2) ∧ z.cell? ⟨b0 + 1, 0, none⟩ = some (Value.slice d m c3)) v1) := ⟨XT1.out.cell 0, XU1.out.cell 0⟩
        refine hK _ _ (Sx.behind (by kernel_rfl) hs1.out) ?_
        clear hK K
        try go_simp
        refine wpAnyX_ready (rs := [1]) (by kernel_rfl) (by simp) (AllX.cons rfl (fun K hK => ?_) AllX.nil)
        go_simp
        refine Calls.mono (HTD.out v1 BV1.out) ?_
        rintro e v2 ⟨rfl, rd, -, hb2⟩
        have XT2 := kide (XT1.out.later hb2)
        have XU2 := kide (XU1.out.later hb2)
        have XN2 := kide (XN1.out.later hb2)
        have BS2 := kide (BS1.out.trans (hb2.mono BS1.out.size))
        have BV2 := kide (BV1.out.trans (hb2.mono BV1.out.size))
        obtain ⟨gd, hgd⟩ : ∃ x, v1.heap.size = x := ⟨_, rfl⟩
        rw [hgd] at rd ⊢
        have RD2 := kide rd
        clear rd hgd hb2
        have hs2 : Hid ((fun z => z.cell? ⟨b0, 0, none⟩ = some (Value.slice b n c2) ∧ z.cell? ⟨b0 + 1, 0, none⟩ = some (Value.slice d m c3)) v2) := ⟨XT2.out.cell 0, XU2.out.cell 0⟩
        refine hK _ _ (Sx.behind (by kernel_rfl) hs2.out) ?_
        clear hK K
        try go_simp
        refine wpAnyX_ready (rs := [3]) (by kernel_rfl) (by simp) (AllX.cons rfl (fun K hK => ?_) AllX.nil)
        go_simp
        refine Calls.mono (HTTT.out v2 BV2.out) ?_
        rintro e v3 ⟨gt, mt, rfl, hmt, rt, hb3⟩
        have XT3 := kide (XT2.out.later hb3)
        have XU3 := kide (XU2.out.later hb3)
        have XN3 := kide (XN2.out.later hb3)
        have RD3 := kide (RD2.out.later hb3)
        have BS3 := kide (BS2.out.trans (hb3.mono BS2.out.size))
        have BV3 := kide (BV2.out.trans (hb3.mono BV2.out.size))
        have RT3 := kide rt
        have MT := kide hmt
        clear rt hmt hb3
        have hs3 : Hid ((fun z => z.cell? ⟨b0, 0, none⟩ = some (Value.slice b n c2) ∧ z.cell? ⟨b0 + 1, 0, none⟩ = some (Value.slice d m c3)) v3) := ⟨XT3.out.cell 0, XU3.out.cell 0⟩
        refine hK _ _ (Sx.behind (by kernel_rfl) hs3.out) ?_
        clear hK K
        try go_simp
        refine wpAnyX_ready (rs := [5]) (by kernel_rfl) (by simp) (AllX.cons rfl (fun K hK => ?_) AllX.nil)
        go_simp
        refine Calls.mono (HTTU.out v3 BV3.out) ?_
        rintro e v4 ⟨gu, mu, rfl, hmt, rt, hb4⟩
        have XT4 := kide (XT3.out.later hb4)
        have XU4 := kide (XU3.out.later hb4)
        have XN4 := kide (XN3.out.later hb4)
        have RD4 := kide (RD3.out.later hb4)
        have RT4 := kide (RT3.out.later hb4)
        have BS4 := kide (BS3.out.trans (hb4.mono BS3.out.size))
        have BV4 := kide (BV3.out.trans (hb4.mono BV3.out.size))
        have RU4 := kide rt
        have MU := kide hmt
        clear rt hmt hb4
        have hs4 : Hid ((fun z => z.cell? ⟨b0, 0, none⟩ = some (Value.slice b n c2) ∧ z.cell? ⟨b0 + 1, 0, none⟩ = some (Value.slice d m c3)) v4) := ⟨XT4.out.cell 0, XU4.out.cell 0⟩
        refine hK _ _ (Sx.behind (by kernel_rfl) hs4.out) ?_
        clear hK K
        try go_simp
        refine wpAnyX_ready (rs := [6]) (by kernel_rfl) (by simp) (AllX.cons rfl (fun K hK => ?_) AllX.nil)
        go_simp
        refine Calls.mono (HIE.out v4 gd gt gu mt mu BV4.out RD4.out RT4.out MT.out RU4.out MU.out) ?_
        rintro e v5 ⟨aw, cw, ls, rfl, hts, hb5⟩
        have XT5 := kide (XT4.out.later hb5)
        have XU5 := kide (XU4.out.later hb5)
        have XN5 := kide (XN4.out.later hb5)
        have RD5 := kide (RD4.out.later hb5)
        have RT5 := kide (RT4.out.later hb5)
        have RU5 := kide (RU4.out.later hb5)
        have BS5 := kide (BS4.out.trans (hb5.mono BS4.out.size))
        have BV5 := kide (BV4.out.trans (hb5.mono BV4.out.size))
        have TW5 : Hid (HoldX v5 w24.heap.size aw ls R) := HoldR.lower hts BS4.out.size
        clear hts hb5
        have hs5 : Hid ((fun z => z.cell? ⟨b0, 0, none⟩ = some (Value.slice b n c2) ∧ z.cell? ⟨b0 + 1, 0, none⟩ = some (Value.slice d m c3)) v5) := ⟨XT5.out.cell 0, XU5.out.cell 0⟩
        refine hK _ _ (Sx.behind (by kernel_rfl) hs5.out) ?_
        clear hK K
        try go_simp
        refine wpAnyX_both (T := fun z => z.cell? ⟨b0, 0, none⟩ = some (Value.slice b n c2) ∧ z.cell? ⟨b0 + 1, 0, none⟩ = some (Value.slice d m c3)) (i := 7) (v := Value.tuple #[Value.agg #[Value.slice aw nX cw], Value.bool Q]) rfl (by kernel_rfl) (by kernel_rfl) (by kernel_rfl) (fun _ _ _ h => by first | exact h | exact h.elim) (by decide) (fun _ h => h.elim) (fun _ h => h) (Sx.behind (by kernel_rfl) hs5.out) (Or.inl ⟨by rfl, fun z hz => by obtain ⟨hz1, hz2⟩ := hz; go_simp⟩) ?_
        try go_simp
        refine wpAnyX_both (T := fun z => z.cell? ⟨b0, 0, none⟩ = some (Value.slice b n c2) ∧ z.cell? ⟨b0 + 1, 0, none⟩ = some (Value.slice d m c3)) (i := 8) (v := Value.agg #[Value.slice aw nX cw]) rfl (by kernel_rfl) (by kernel_rfl) (by kernel_rfl) (fun _ _ _ h => by first | exact h | exact h.elim) (by decide) (fun _ h => h.elim) (fun _ h => h) (Sx.behind (by kernel_rfl) hs5.out) (Or.inl ⟨by rfl, fun z hz => by obtain ⟨hz1, hz2⟩ := hz; go_simp⟩) ?_
        try go_simp
        refine wpAnyX_both (T := fun z => z.cell? ⟨b0, 0, none⟩ = some (Value.slice b n c2) ∧ z.cell? ⟨b0 + 1, 0, none⟩ = some (Value.slice d m c3)) (i := 9) (v := Value.bool Q) rfl (by kernel_rfl) (by kernel_rfl) (by kernel_rfl) (fun _ _ _ h => by first | exact h | exact h.elim) (by decide) (fun _ h => h.elim) (fun _ h => h) (Sx.behind (by kernel_rfl) hs5.out) (Or.inl ⟨by rfl, fun z hz => by obtain ⟨hz1, hz2⟩ := hz; go_simp⟩) ?_
        try go_simp
        refine wpAnyX_ready (rs := [11]) (by kernel_rfl) (by simp) (AllX.cons rfl (fun K hK => ?_) AllX.nil)
        have e8 := XN5.out.cell 0
        have f8 := XN5.out.froz 0
        simp at e8
        go_simp
        have XN6 : Hid (Bz (v5.setCell ⟨bN, 0, none⟩ (Value.slice aw nX cw)) bN #[Value.slice aw nX cw] 28) := XN5.out.set 0 _
        have XT6 : Hid (Bz (v5.setCell ⟨bN, 0, none⟩ (Value.slice aw nX cw)) b0 #[Value.slice b n c2] 25) := XT5.out.other (by have := hN.out; have := HWS.out; omega) 0 _
        have XU6 : Hid (Bz (v5.setCell ⟨bN, 0, none⟩ (Value.slice aw nX cw)) (b0 + 1) #[Value.slice d m c3] 25) := XU5.out.other (by have := hN.out; have := HWS.out; omega) 0 _
        have BS6 : Hid (Below w24.heap.size w24 (v5.setCell ⟨bN, 0, none⟩ (Value.slice aw nX cw))) := BS5.out.setCell (show w24.heap.size ≤ bN from hN.out) _
        have BV6 : Hid (Below w.heap.size w (v5.setCell ⟨bN, 0, none⟩ (Value.slice aw nX cw))) := BV5.out.setCell (show w.heap.size ≤ bN by have := hN.out; have := HWS.out; have := HB0.out; omega) _
        have TW6 : Hid (HoldX (v5.setCell ⟨bN, 0, none⟩ (Value.slice aw nX cw)) w24.heap.size aw ls R) := TW5.out.set XN5.out (by decide) (by decide) _
        generalize v5.setCell ⟨bN, 0, none⟩ (Value.slice aw nX cw) = v6 at *
        clear e8 f8
        have hs6 : Hid ((fun z => z.cell? ⟨b0, 0, none⟩ = some (Value.slice b n c2) ∧ z.cell? ⟨b0 + 1, 0, none⟩ = some (Value.slice d m c3)) v6) := ⟨XT6.out.cell 0, XU6.out.cell 0⟩
        refine hK _ _ (Sx.behind (by kernel_rfl) hs6.out) ?_
        clear hK K
        try go_simp
        refine wpAnyX_both (T := fun z => z.cell? ⟨b0, 0, none⟩ = some (Value.slice b n c2) ∧ z.cell? ⟨b0 + 1, 0, none⟩ = some (Value.slice d m c3)) (i := 12) (v := Value.bool Q) rfl (by kernel_rfl) (by kernel_rfl) (by kernel_rfl) (fun _ _ _ h => by first | exact h | exact h.elim) (by decide) (fun _ h => h.elim) (fun _ h => h) (Sx.behind (by kernel_rfl) hs6.out) (Or.inl ⟨by rfl, fun z hz => by obtain ⟨hz1, hz2⟩ := hz; go_simp⟩) ?_
        try go_simp
        refine wpAnyX_done (by kernel_rfl) ?_ _
        try go_simp
        exact key v6 bN aw cw ls gd gt gu ⟨BS6.out, XN6.out, TW6.out, hN.out⟩
    · intro w25 bh ah ch lsh gd1 gt1 gu1 hF
      obtain ⟨hb25, xh, th, hlh⟩ := hF
      have W25 := kide (W24.out.later hb25)
      have N25 := kide (N24.out.later hb25)
      have G025 := kide (G024.out.later hb25)
      have B25 := kide (BVS.out.trans (hb25.mono BVS.out.size))
      have H25 := kide (H24.out.later hb25)
      have TH : Hid (HoldR w25 w24.heap.size w25.heap.size ah lsh R) := th
      have h0 : w25.cell? ⟨bh, 0, none⟩ = some (.slice ah nX ch) := xh.cell 0
      have p25 : w25.cell? ⟨bw, 0, none⟩ = some (.slice aw nX cw) := W25.out.cell 0
      clear hb25 xh th XTS XUS BVS W24 N24 G024 H24
      go_wp2_with fail
      refine Calls.mono (eqCuts_hold _ _ _ _ nX _ _ _ _ _ _ R HXO.out w25 TH.out N25.out HNX.out) ?_
      rintro e w26 ⟨rfl, hb26⟩
      have G026 := kide (G025.out.later hb26)
      have B26 := kide (B25.out.trans (hb26.mono B25.out.size))
      have H26 := kide (H25.out.later hb26)
      have q26 : w26.cell? ⟨w10.heap.size, 0, none⟩ = some (.slice ag nX cg) := G026.out.cell 0
      clear hb26 W25 N25 G025 B25 H25 TH h0 p25
      go_wp2_with fail
      refine Calls.mono (HHL.out w26 H26.out) ?_
      rintro e w27 ⟨rfl, hb27⟩
      have B27 := kide (B26.out.trans (hb27.mono B26.out.size))
      clear hb27
      go_wp2_with fail
      go_ret
      exact ⟨rfl, B27.out⟩

theorem law_no_FnExactAddCuts (a b d : Option Addr) (c c2 c3 n0 n m : Nat) (w : World) (Z Z2 Z3 : Int) (h : Z < 0 ∨ 0 ≤ Z ∧ Z2 < 0 ∨ 0 ≤ Z ∧ 0 ≤ Z2 ∧ Z3 < 0)
    (HSZ : Hid (∀ u, Below w.heap.size w u → Calls Try.prog 4 #[.slice a n0 c, .int .i64 1048576] u fun e w' => e = .returned (.int .i64 Z) ∧ Below u.heap.size u w'))
    (HSC : Hid (0 ≤ Z → ∀ u, Below w.heap.size w u → Calls Try.prog 5 #[.agg #[.slice b n c2], .int .i64 Z] u fun e w' => e = .returned (.int .i64 Z2) ∧ Below u.heap.size u w'))
    (HSD : Hid (0 ≤ Z → 0 ≤ Z2 → ∀ u, Below w.heap.size w u → Calls Try.prog 5 #[.agg #[.slice d m c3], .int .i64 Z2] u fun e w' => e = .returned (.int .i64 Z3) ∧ Below u.heap.size u w')) :
    Calls Try.prog 3 #[.slice a n0 c, .agg #[.slice b n c2], .agg #[.slice d m c3]] w fun e w' => e = .returned (.bool true) ∧ Below w.heap.size w w' := by
  have B0 : Hid (Below w.heap.size w ((w.alloc (Obj.cells #[Value.slice b n c2] 25)).alloc (Obj.cells #[Value.slice d m c3] 25))) := ((Below.refl _ _).alloc (Nat.le_refl _) _).alloc (by simp) _
  have T0 : Hid (Bz ((w.alloc (Obj.cells #[Value.slice b n c2] 25)).alloc (Obj.cells #[Value.slice d m c3] 25)) w.heap.size #[Value.slice b n c2] 25) := (Bz.new w _ _).later ((Below.refl _ _).alloc (Nat.le_refl _) _)
  have U0 : Hid (Bz ((w.alloc (Obj.cells #[Value.slice b n c2] 25)).alloc (Obj.cells #[Value.slice d m c3] 25)) (w.heap.size + 1) #[Value.slice d m c3] 25) := by
    have h9 := Bz.new (w.alloc (Obj.cells #[Value.slice b n c2] 25)) #[Value.slice d m c3] 25
    rw [show (w.alloc (Obj.cells #[Value.slice b n c2] 25)).heap.size = w.heap.size + 1 by simp] at h9
    exact h9
  rcases h with h | ⟨h, h2⟩ | ⟨h, h2, h3⟩
  · go_enter Try.func3, Try.ntmps3
    go_wp2_with fail
    generalize (w.alloc (Obj.cells #[Value.slice b n c2] 25)).alloc (Obj.cells #[Value.slice d m c3] 25) = w0 at *
    refine Calls.mono (HSZ.out _ B0.out) ?_
    rintro e w1 ⟨rfl, hb1⟩
    have T1 := kide (T0.out.later hb1)
    have U1 := kide (U0.out.later hb1)
    have B1 := kide (B0.out.trans (hb1.mono B0.out.size))
    have c1 := T1.out.cell 0
    simp at c1
    clear hb1
    go_wp2_with fail
    go_ret
    exact ⟨rfl, B1.out⟩
  · go_enter Try.func3, Try.ntmps3
    go_wp2_with fail
    generalize (w.alloc (Obj.cells #[Value.slice b n c2] 25)).alloc (Obj.cells #[Value.slice d m c3] 25) = w0 at *
    refine Calls.mono (HSZ.out _ B0.out) ?_
    rintro e w1 ⟨rfl, hb1⟩
    have T1 := kide (T0.out.later hb1)
    have U1 := kide (U0.out.later hb1)
    have B1 := kide (B0.out.trans (hb1.mono B0.out.size))
    have c1 := T1.out.cell 0
    simp at c1
    clear hb1
    go_wp2_with fail
    refine Calls.mono (HSC.out h w1 B1.out) ?_
    rintro e w2 ⟨rfl, hb2⟩
    have U2 := kide (U1.out.later hb2)
    have B2 := kide (B1.out.trans (hb2.mono B1.out.size))
    have c2' := U2.out.cell 0
    simp at c2'
    clear hb2
    go_wp2_with fail
    go_ret
    exact ⟨rfl, B2.out⟩
  · go_enter Try.func3, Try.ntmps3
    go_wp2_with fail
    generalize (w.alloc (Obj.cells #[Value.slice b n c2] 25)).alloc (Obj.cells #[Value.slice d m c3] 25) = w0 at *
    refine Calls.mono (HSZ.out _ B0.out) ?_
    rintro e w1 ⟨rfl, hb1⟩
    have T1 := kide (T0.out.later hb1)
    have U1 := kide (U0.out.later hb1)
    have B1 := kide (B0.out.trans (hb1.mono B0.out.size))
    have c1 := T1.out.cell 0
    simp at c1
    clear hb1
    go_wp2_with fail
    refine Calls.mono (HSC.out h w1 B1.out) ?_
    rintro e w2 ⟨rfl, hb2⟩
    have U2 := kide (U1.out.later hb2)
    have B2 := kide (B1.out.trans (hb2.mono B1.out.size))
    have c2' := U2.out.cell 0
    simp at c2'
    clear hb2
    go_wp2_with fail
    refine Calls.mono (HSD.out h h2 w2 B2.out) ?_
    rintro e w3 ⟨rfl, hb3⟩
    have B3 := kide (B2.out.trans (hb3.mono B2.out.size))
    clear hb3
    go_wp2_with fail
    go_ret
    exact ⟨rfl, B3.out⟩

theorem walk_FnExactAddCuts (a : Option Addr) (n0 c : Nat) (hn0 : n0 ≤ 9223372036854775807) (b : Option Addr) (n c2 : Nat) (hn : n ≤ 9223372036854775807) (d : Option Addr) (m c3 : Nat) (hm : m ≤ 9223372036854775807) (w : World)
    (hx : n0 ≤ 1048576 → ∃ ds : List Dc, ds.length = n0 ∧ RdD w a ds) (hy : n ≤ 1048576 → ∃ hs : List Ih, hs.length = n ∧ RdIh w b hs ∧ ∀ h ∈ hs, NumsOf w h) (hu : m ≤ 1048576 → ∃ hs : List Ih, hs.length = m ∧ RdIh w d hs ∧ ∀ h ∈ hs, NumsOf w h) :
    Calls Try.prog 3 #[.slice a n0 c, .agg #[.slice b n c2], .agg #[.slice d m c3]] w fun e w' => e = .returned (.bool true) ∧ Below w.heap.size w w' := by
  obtain ⟨Z, h1, z1, g1⟩ := size_dec a n0 c w hn0 hx
  by_cases hz : Z < 0
  · exact law_no_FnExactAddCuts a b d c c2 c3 n0 n m w Z 0 0 (.inl hz) h1 (fun h => by omega) (fun h => by omega)
  obtain ⟨Z2, h2, z2, g2⟩ := size_cut b n c2 Z w (by omega) z1 hn hy
  by_cases hz2 : Z2 < 0
  · exact law_no_FnExactAddCuts a b d c c2 c3 n0 n m w Z Z2 0 (.inr (.inl ⟨by omega, hz2⟩)) h1 (fun _ => h2) (fun _ h => by omega)
  obtain ⟨Z3, h3, z3, g3⟩ := size_cut d m c3 Z2 w (by omega) z2 hm hu
  by_cases hz3 : Z3 < 0
  · exact law_no_FnExactAddCuts a b d c c2 c3 n0 n m w Z Z2 Z3 (.inr (.inr ⟨by omega, by omega, hz3⟩)) h1 (fun _ => h2) (fun _ _ => h3)
  obtain ⟨ds, rfl, hr⟩ := g1 (by omega)
  obtain ⟨xs, hxl, hxs⟩ := g2 (by omega)
  obtain ⟨ys, hyl, hys⟩ := g3 (by omega)
  exact law_yes_FnExactAddCuts a b d c c2 c3 n m ds xs ys w hr hxs hys hxl hyl Z Z2 Z3 (by omega) (by omega) (by omega) h1 h2 h3

end Go.Proofs.Ytjnbapddfhpcnaa
