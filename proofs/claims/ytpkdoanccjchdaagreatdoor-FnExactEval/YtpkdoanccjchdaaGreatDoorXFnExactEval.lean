/- The law FnExactEval returns true, whatever it is handed. -/
import Derived.Test.YtpkdoanccjchdaaGreatDoorEVQ
namespace Go.Proofs.YtpkdoanccjchdaaGreatDoor
set_option linter.unusedVariables false
set_option linter.unusedSimpArgs false
open Go.RowKit

theorem len_of_ct {ms xs : List Bw} {n : Nat} (h : ms.map Bw.ct = xs.map Bw.ct) (hn : xs.length = n) : ms.length = n := by
  rw [← hn]; simpa using congrArg List.length h

theorem evl_bounds (ds : List Dc) (vs : List Bw) (xs : List Tg) {w : World} {a b : Option Addr} (hv : RdW w a vs) (hs : RdT w b xs) : (evlR ds (vs.map Bw.ct) (xs.map Tg.ct)).1.2.length ≤ 1048576 ∧ ∀ y ∈ (evlR ds (vs.map Bw.ct) (xs.map Tg.ct)).1.2, y < 18446744073709551616 := by
  unfold evlR
  split
  · rename_i h
    have ho := eval_ok h.2 h.1 hv.words hs.words
    have := right_W ho.1
    exact ⟨by simp only []; omega, ho.2⟩
  · simp

theorem words_le {w : World} {a : Option Addr} {vs mv : List Bw} (hv : RdW w a vs) (h : mv.map Bw.ct = vs.map Bw.ct) : ∀ x ∈ mv, x.ws.length ≤ 1048576 := fun x hx => by
  have : x.ct ∈ vs.map Bw.ct := by rw [← h]; exact List.mem_map_of_mem hx
  obtain ⟨y, hy, e⟩ := List.mem_map.1 this
  obtain ⟨i, hi, rfl⟩ := List.mem_iff_getElem.1 hy
  obtain ⟨-, h | ⟨b, o, -, hc⟩⟩ := hv
  · subst h; simp at hi
  · have r := (hc i _ (List.getElem?_eq_getElem hi)).2.2.1.1
    have e2 : (vs[i]).ws = x.ws := congrArg Prod.snd e
    rw [e2] at r
    exact r

set_option maxHeartbeats 8000000 in
set_option maxRecDepth 100000 in
theorem law_yes_FnExactEval (a va b : Option Addr) (c vc c2 vn n : Nat) (ds : List Dc) (vs : List Bw) (xs : List Tg) (w : World) (hr : RdD w a ds) (hv : RdW w va vs) (hs : RdT w b xs) (hvn : vs.length = vn) (hn : xs.length = n) (hsum : vn + (vs.map fun x => x.ws.length).sum ≤ 1048576) (hG : GF w) (Z Z2 Z3 : Int)
    (hz : 0 ≤ Z) (hz2 : 0 ≤ Z2) (hz3 : 0 ≤ Z3)
    (HSZ : Hid (∀ u, Below w.heap.size w u → Calls Tryz.prog 9 #[.slice a ds.length c, .int .i64 1048576] u fun e w' => e = .returned (.int .i64 Z) ∧ Below u.heap.size u w'))
    (HSV : Hid (∀ u, Below w.heap.size w u → Calls Tryz.prog 28 #[.slice va vn vc, .int .i64 Z] u fun e w' => e = .returned (.int .i64 Z2) ∧ Below u.heap.size u w'))
    (HST : Hid (∀ u, Below w.heap.size w u → Calls Tryz.prog 34 #[.agg #[.slice b n c2], .int .i64 Z2] u fun e w' => e = .returned (.int .i64 Z3) ∧ Below u.heap.size u w')) :
    Calls Tryz.prog 6 #[.slice a ds.length c, .slice va vn vc, .agg #[.slice b n c2]] w fun e w' => e = .returned (.bool true) ∧ Below w.heap.size w w' := by
  have HR := kide hr
  have HN := kide hn
  have HVN := kide hvn
  have HSUM := kide hsum
  have hd2 : ds.length ≤ 1048576 := hr.1
  have hn2 : n ≤ 1048576 := by rw [← hn]; exact hs.1
  have hv2 : vn ≤ 1048576 := by rw [← hvn]; exact hv.1
  obtain ⟨hXl, hXx'⟩ := evl_bounds ds vs xs hv hs
  have hXx := kide hXx'
  have HVL := kide (fun mv hmv => words_le (mv := mv) hv hmv)
  have HTD := kide (fun u (hu : Below w.heap.size w u) => toDeclS_row a c ds u (hr.later hu))
  have HTB : Hid (∀ u, Below w.heap.size w u → Calls Tryz.prog 30 #[.slice va vn vc] u fun e w' => ∃ ms : List Bw, e = .returned (.slice (some ⟨u.heap.size, 0, none⟩) vn vn) ∧ ms.map Bw.ct = vs.map Bw.ct ∧ RdW w' (some ⟨u.heap.size, 0, none⟩) ms ∧ (∃ f, w'.rowIs u.heap.size 61 (vn * 2) f ∧ ∀ j x, ms[j]? = some x → BwOwn w' u.heap.size f j x) ∧ Below u.heap.size u w') := fun u hu => by
    have := toBitsS_own va vc vs u (hv.later hu)
    rwa [hvn] at this
  have HTV : Hid (∀ u, Below w.heap.size w u → Calls Tryz.prog 30 #[.slice va vn vc] u fun e w' => ∃ ms : List Bw, e = .returned (.slice (some ⟨u.heap.size, 0, none⟩) vn vn) ∧ ms.map Bw.ct = vs.map Bw.ct ∧ RdW w' (some ⟨u.heap.size, 0, none⟩) ms ∧ Below u.heap.size u w') := fun u hu => by
    have := toBitsS_any va vc vs u (hv.later hu)
    rwa [hvn] at this
  have HTW := kide (fun u (hu : Below w.heap.size w u) => toTerm_wr b c2 xs u (hs.later hu) n hn)
  have HTT : Hid (∀ u, Below w.heap.size w u → Calls Tryz.prog 36 #[.agg #[.slice b n c2]] u fun e w' => ∃ (g : Nat) (ms : List Tg), e = .returned (.agg #[.slice (some ⟨g, 0, none⟩) n n]) ∧ ms.map Tg.ct = xs.map Tg.ct ∧ RdT w' (some ⟨g, 0, none⟩) ms ∧ Below u.heap.size u w') := fun u hu => (HTW.out u hu).mono (fun e w' ⟨g, ms, h1, h2, _, h4, _, _, h7⟩ => ⟨g, ms, h1, h2, h4, h7⟩)
  have HSE := kide (fun (u : World) (gd gv gt : Nat) (mv : List Bw) (mt : List Tg) (hu : Below w.heap.size w u) (h1 : RdD u (some ⟨gd, 0, none⟩) ds) (h2 : RdW u (some ⟨gv, 0, none⟩) mv) (h3 : RdT u (some ⟨gt, 0, none⟩) mt) (e1 : mv.map Bw.ct = vs.map Bw.ct) (e2 : mt.map Tg.ct = xs.map Tg.ct) => by
    have h := specEval_any (some ⟨gd, 0, none⟩) (some ⟨gv, 0, none⟩) (some ⟨gt, 0, none⟩) ds.length vn n n vn ds mv mt u h1 h2 h3 (len_of_ct e1 hvn) (len_of_tc e2 hn)
    rwa [e1, e2] at h)
  have HIE := kide (fun (u : World) (gd gv gt : Nat) (mv : List Bw) (mt : List Tg) (hu : Below w.heap.size w u) (h1 : RdD u (some ⟨gd, 0, none⟩) ds) (h2 : RdW u (some ⟨gv, 0, none⟩) mv) (h3 : RdT u (some ⟨gt, 0, none⟩) mt) (e1 : mv.map Bw.ct = vs.map Bw.ct) (e2 : mt.map Tg.ct = xs.map Tg.ct) => by
    have h := implEval_any (some ⟨gd, 0, none⟩) (some ⟨gv, 0, none⟩) (some ⟨gt, 0, none⟩) ds.length vn n n vn ds mv mt u h1 h2 h3 (len_of_ct e1 hvn) (len_of_tc e2 hn) (hG.later hu)
    rwa [e1, e2] at h)
  generalize evlR ds (vs.map Bw.ct) (xs.map Tg.ct) = X at *
  have s0 := Bq.start w (.slice b n c2) 57
  have XTW := kide (Bz.new w #[Value.slice b n c2] 57)
  clear hr hv hs hn hvn hG hsum hXx'
  go_enter Tryz.func6, Tryz.ntmps6
  go_wp2_with fail
  refine Calls.mono (HSZ.out _ s0.below) ?_
  rintro e w1 ⟨rfl, hb1⟩
  have s1 := s0.next hb1
  have c1 := s1.cell
  have XT1 := kide (XTW.out.later hb1)
  clear hb1 s0
  go_wp2_with fail
  refine Calls.mono (HSV.out w1 s1.below) ?_
  rintro e w2 ⟨rfl, hb2⟩
  have s2 := s1.next hb2
  have c2' := s2.cell
  have XT2 := kide (XT1.out.later hb2)
  clear hb2 s1 c1
  go_wp2_with fail
  refine Calls.mono (HST.out w2 s2.below) ?_
  rintro e w3 ⟨rfl, hb3⟩
  have XTS := kide (XT2.out.later hb3)
  have BVS := kide (s2.next hb3).below
  have c3' := (s2.next hb3).cell
  have hws : w.heap.size < w3.heap.size := XTS.out.lt
  clear hb3 s2 c2' XTW XT1 XT2
  go_wp2_with fail
  apply share7 (F := fun v bN aw cw gd gv gt => Below w3.heap.size w3 v ∧ Bz v bN #[Value.int .i64 X.1.1, Value.slice aw X.1.2.length cw] 61 ∧ Nw v w.heap.size aw X.1.2 ∧ w3.heap.size ≤ bN)
  · skip
    intro key
    refine wp_region_x (SA := fun _ => False) (SB := fun z => z.cell? ⟨w.heap.size, 0, none⟩ = some (Value.slice b n c2)) (k := 999) (by kernel_rfl) ?_
    have hbd : Below w3.heap.size w3 w3.drew := (Below.refl _ _).drew
    have XT0 := kide (XTS.out.later hbd)
    have BS0 := kide hbd
    have BV0 := kide (BVS.out.drew)
    clear hbd
    generalize w3.drew = v0 at *
    have hs0 : Hid ((fun z => z.cell? ⟨w.heap.size, 0, none⟩ = some (Value.slice b n c2)) v0) := XT0.out.cell 0
    try go_simp
    refine wpAnyX_both (T := fun z => z.cell? ⟨w.heap.size, 0, none⟩ = some (Value.slice b n c2)) (i := 0) (v := Value.slice a ds.length c) rfl (by kernel_rfl) (by kernel_rfl) (by kernel_rfl) (fun _ _ _ h => by first | exact h | exact h.elim | cases h.1) (by decide) (fun _ h => h.elim) (fun _ h => h) (Sx.behind (by kernel_rfl) hs0.out) (Or.inl ⟨by rfl, fun z hz => by go_simp⟩) ?_
    try go_simp
    refine wpAnyX_both (T := fun z => z.cell? ⟨w.heap.size, 0, none⟩ = some (Value.slice b n c2)) (i := 2) (v := Value.slice va vn vc) rfl (by kernel_rfl) (by kernel_rfl) (by kernel_rfl) (fun _ _ _ h => by first | exact h | exact h.elim | cases h.1) (by decide) (fun _ h => h.elim) (fun _ h => h) (Sx.behind (by kernel_rfl) hs0.out) (Or.inl ⟨by rfl, fun z hz => by go_simp⟩) ?_
    try go_simp
    refine wpAnyX_both (T := fun z => z.cell? ⟨w.heap.size, 0, none⟩ = some (Value.slice b n c2)) (i := 4) (v := Value.agg #[Value.slice b n c2]) rfl (by kernel_rfl) (by kernel_rfl) (by kernel_rfl) (fun _ _ _ h => by first | exact h | exact h.elim | cases h.1) (by decide) (fun _ h => h.elim) (fun _ h => h) (Sx.behind (by kernel_rfl) hs0.out) (Or.inl ⟨by rfl, fun z hz => by go_simp⟩) ?_
    try go_simp
    refine wpAnyX_ready (rs := [1, 10]) (by kernel_rfl) (by simp) (AllX.cons rfl (fun K hK => ?_) (AllX.cons rfl (fun K hK => ?_) AllX.nil))
    · go_simp
      refine Calls.mono (toDeclS_any a c ds v0 (HR.out.later BV0.out)) ?_
      rintro e v1 ⟨rfl, rd, hb1⟩
      have XT1 := kide (XT0.out.later hb1)
      have BS1 := kide (BS0.out.trans (hb1.mono BS0.out.size))
      have BV1 := kide (BV0.out.trans (hb1.mono BV0.out.size))
      obtain ⟨gd, hgd⟩ : ∃ x, v0.heap.size = x := ⟨_, rfl⟩
      rw [hgd] at rd ⊢
      have RD1 := kide rd
      clear rd hgd hb1
      have hs1 : Hid ((fun z => z.cell? ⟨w.heap.size, 0, none⟩ = some (Value.slice b n c2)) v1) := XT1.out.cell 0
      refine hK _ _ (Sx.behind (by kernel_rfl) hs1.out) ?_
      clear hK K
      try go_simp
      refine wpAnyX_ready (rs := [3, 10]) (by kernel_rfl) (by simp) (AllX.cons rfl (fun K hK => ?_) (AllX.cons rfl (fun K hK => ?_) AllX.nil))
      · go_simp
        refine Calls.mono (HTV.out v1 BV1.out) ?_
        rintro e v2 ⟨mv, rfl, hmv, rv, hb2⟩
        have XT2 := kide (XT1.out.later hb2)
        have RD2 := kide (RD1.out.later hb2)
        have BS2 := kide (BS1.out.trans (hb2.mono BS1.out.size))
        have BV2 := kide (BV1.out.trans (hb2.mono BV1.out.size))
        obtain ⟨gv, hgv⟩ : ∃ x, v1.heap.size = x := ⟨_, rfl⟩
        rw [hgv] at rv ⊢
        have RV2 := kide rv
        have MV := kide hmv
        clear rv hgv hmv hb2
        have hs2 : Hid ((fun z => z.cell? ⟨w.heap.size, 0, none⟩ = some (Value.slice b n c2)) v2) := XT2.out.cell 0
        refine hK _ _ (Sx.behind (by kernel_rfl) hs2.out) ?_
        clear hK K
        try go_simp
        refine wpAnyX_ready (rs := [5, 10]) (by kernel_rfl) (by simp) (AllX.cons rfl (fun K hK => ?_) (AllX.cons rfl (fun K hK => ?_) AllX.nil))
        · go_simp
          refine Calls.mono (HTT.out v2 BV2.out) ?_
          rintro e v3 ⟨gt, mt, rfl, hmt, rt, hb3⟩
          have XT3 := kide (XT2.out.later hb3)
          have RD3 := kide (RD2.out.later hb3)
          have RV3 := kide (RV2.out.later hb3)
          have BS3 := kide (BS2.out.trans (hb3.mono BS2.out.size))
          have BV3 := kide (BV2.out.trans (hb3.mono BV2.out.size))
          have RT3 := kide rt
          have MT := kide hmt
          clear rt hmt hb3
          have hs3 : Hid ((fun z => z.cell? ⟨w.heap.size, 0, none⟩ = some (Value.slice b n c2)) v3) := XT3.out.cell 0
          refine hK _ _ (Sx.behind (by kernel_rfl) hs3.out) ?_
          clear hK K
          try go_simp
          refine wpAnyX_ready (rs := [6, 10]) (by kernel_rfl) (by simp) (AllX.cons rfl (fun K hK => ?_) (AllX.cons rfl (fun K hK => ?_) AllX.nil))
          · go_simp
            refine Calls.mono (HSE.out v3 gd gv gt mv mt BV3.out RD3.out RV3.out RT3.out MV.out MT.out) ?_
            rintro e v4 ⟨aw, cw, rfl, hn4, hb4⟩
            have XT4 := kide (XT3.out.later hb4)
            have RD4 := kide (RD3.out.later hb4)
            have RV4 := kide (RV3.out.later hb4)
            have RT4 := kide (RT3.out.later hb4)
            have BS4 := kide (BS3.out.trans (hb4.mono BS3.out.size))
            have BV4 := kide (BV3.out.trans (hb4.mono BV3.out.size))
            have NW4 := kide (hn4.mono (lo' := w.heap.size) BV3.out.size)
            clear hn4 hb4
            have hs4 : Hid ((fun z => z.cell? ⟨w.heap.size, 0, none⟩ = some (Value.slice b n c2)) v4) := XT4.out.cell 0
            refine hK _ _ (Sx.behind (by kernel_rfl) hs4.out) ?_
            clear hK K
            try go_simp
            refine wpAnyX_both (T := fun z => z.cell? ⟨w.heap.size, 0, none⟩ = some (Value.slice b n c2)) (i := 7) (v := Value.tuple #[Value.agg #[Value.int .i64 X.1.1, Value.slice aw X.1.2.length cw], Value.bool X.2]) rfl (by kernel_rfl) (by kernel_rfl) (by kernel_rfl) (fun _ _ _ h => by first | exact h | exact h.elim | cases h.1) (by decide) (fun _ h => h.elim) (fun _ h => h) (Sx.behind (by kernel_rfl) hs4.out) (Or.inl ⟨by rfl, fun z hz => by go_simp⟩) ?_
            try go_simp
            refine wpAnyX_both (T := fun z => z.cell? ⟨w.heap.size, 0, none⟩ = some (Value.slice b n c2)) (i := 8) (v := Value.agg #[Value.int .i64 X.1.1, Value.slice aw X.1.2.length cw]) rfl (by kernel_rfl) (by kernel_rfl) (by kernel_rfl) (fun _ _ _ h => by first | exact h | exact h.elim | cases h.1) (by decide) (fun _ h => h.elim) (fun _ h => h) (Sx.behind (by kernel_rfl) hs4.out) (Or.inl ⟨by rfl, fun z hz => by go_simp⟩) ?_
            try go_simp
            refine wpAnyX_both (T := fun z => z.cell? ⟨w.heap.size, 0, none⟩ = some (Value.slice b n c2)) (i := 9) (v := Value.bool X.2) rfl (by kernel_rfl) (by kernel_rfl) (by kernel_rfl) (fun _ _ _ h => by first | exact h | exact h.elim | cases h.1) (by decide) (fun _ h => h.elim) (fun _ h => h) (Sx.behind (by kernel_rfl) hs4.out) (Or.inl ⟨by rfl, fun z hz => by go_simp⟩) ?_
            try go_simp
            refine wpAnyX_ready (rs := [10]) (by kernel_rfl) (by simp) (AllX.cons rfl (fun K hK => ?_) AllX.nil)
            go_simp
            have hbx : Below v4.heap.size v4 (v4.alloc (Obj.cells #[Value.int .i64 0, Value.slice none 0 0] 61)) := (Below.refl _ _).alloc (Nat.le_refl _) _
            have XT5 := kide (XT4.out.later hbx)
            have RD5 := kide (RD4.out.later hbx)
            have RV5 := kide (RV4.out.later hbx)
            have RT5 := kide (RT4.out.later hbx)
            have NW5 := kide (NW4.out.later hbx)
            have BS5 := kide (BS4.out.trans (hbx.mono BS4.out.size))
            have BV5 := kide (BV4.out.trans (hbx.mono BV4.out.size))
            have XN5 := kide (Bz.new v4 #[Value.int .i64 0, Value.slice none 0 0] 61)
            have hN : Hid (w3.heap.size ≤ v4.heap.size) := BS4.out.size
            obtain ⟨bN, hbN⟩ : ∃ x, v4.heap.size = x := ⟨_, rfl⟩
            rw [hbN] at XN5 hN ⊢
            clear hbN hbx
            generalize v4.alloc (Obj.cells #[Value.int .i64 0, Value.slice none 0 0] 61) = v5 at *
            have hs5 : Hid ((fun z => z.cell? ⟨w.heap.size, 0, none⟩ = some (Value.slice b n c2)) v5) := XT5.out.cell 0
            refine hK _ _ (Sx.behind (by kernel_rfl) hs5.out) ?_
            clear hK K
            try go_simp
            refine wpAnyX_ready (rs := [11]) (by kernel_rfl) (by simp) (AllX.cons rfl (fun K hK => ?_) AllX.nil)
            have e8 := XN5.out.cell 0
            have e9 := XN5.out.cell 1
            have f8 := XN5.out.froz 0
            have f9 := XN5.out.froz 1
            simp at e8 e9
            go_simp
            have XN6 : Hid (Bz ((v5.setCell ⟨bN, 0, none⟩ (Value.int .i64 X.1.1)).setCell ⟨bN, 1, none⟩ (Value.slice aw X.1.2.length cw)) bN #[Value.int .i64 X.1.1, Value.slice aw X.1.2.length cw] 61) := (XN5.out.set 0 _).set 1 _
            have XT6 : Hid (Bz ((v5.setCell ⟨bN, 0, none⟩ (Value.int .i64 X.1.1)).setCell ⟨bN, 1, none⟩ (Value.slice aw X.1.2.length cw)) (w.heap.size) #[Value.slice b n c2] 57) := (XT5.out.other (by have := hN.out; omega) 0 _).other (by have := hN.out; omega) 1 _
            have BS6 : Hid (Below w3.heap.size w3 ((v5.setCell ⟨bN, 0, none⟩ (Value.int .i64 X.1.1)).setCell ⟨bN, 1, none⟩ (Value.slice aw X.1.2.length cw))) := (BS5.out.setCell (show w3.heap.size ≤ bN from hN.out) _).setCell (show w3.heap.size ≤ bN from hN.out) _
            have BV6 : Hid (Below w.heap.size w ((v5.setCell ⟨bN, 0, none⟩ (Value.int .i64 X.1.1)).setCell ⟨bN, 1, none⟩ (Value.slice aw X.1.2.length cw))) := (BV5.out.setCell (show w.heap.size ≤ bN by have := hN.out; omega) _).setCell (show w.heap.size ≤ bN by have := hN.out; omega) _
            have NW6 : Hid (Nw ((v5.setCell ⟨bN, 0, none⟩ (Value.int .i64 X.1.1)).setCell ⟨bN, 1, none⟩ (Value.slice aw X.1.2.length cw)) w.heap.size aw X.1.2) := ((NW5.out.set XN5.out (by decide) 0 _).set (XN5.out.set 0 _) (by decide) 1 _)
            generalize (v5.setCell ⟨bN, 0, none⟩ (Value.int .i64 X.1.1)).setCell ⟨bN, 1, none⟩ (Value.slice aw X.1.2.length cw) = v6 at *
            clear e8 e9 f8 f9
            have hs6 : Hid ((fun z => z.cell? ⟨w.heap.size, 0, none⟩ = some (Value.slice b n c2)) v6) := XT6.out.cell 0
            refine hK _ _ (Sx.behind (by kernel_rfl) hs6.out) ?_
            clear hK K
            try go_simp
            refine wpAnyX_both (T := fun z => z.cell? ⟨w.heap.size, 0, none⟩ = some (Value.slice b n c2)) (i := 12) (v := Value.bool X.2) rfl (by kernel_rfl) (by kernel_rfl) (by kernel_rfl) (fun _ _ _ h => by first | exact h | exact h.elim | cases h.1) (by decide) (fun _ h => h.elim) (fun _ h => h) (Sx.behind (by kernel_rfl) hs6.out) (Or.inl ⟨by rfl, fun z hz => by go_simp⟩) ?_
            try go_simp
            refine wpAnyX_done (by kernel_rfl) ?_ _
            try go_simp
            exact key v6 bN aw cw gd gv gt ⟨BS6.out, XN6.out, NW6.out, hN.out⟩
          · go_simp
            have hbx : Below v3.heap.size v3 (v3.alloc (Obj.cells #[Value.int .i64 0, Value.slice none 0 0] 61)) := (Below.refl _ _).alloc (Nat.le_refl _) _
            have XT4 := kide (XT3.out.later hbx)
            have RD4 := kide (RD3.out.later hbx)
            have RV4 := kide (RV3.out.later hbx)
            have RT4 := kide (RT3.out.later hbx)
            have BS4 := kide (BS3.out.trans (hbx.mono BS3.out.size))
            have BV4 := kide (BV3.out.trans (hbx.mono BV3.out.size))
            have XN4 := kide (Bz.new v3 #[Value.int .i64 0, Value.slice none 0 0] 61)
            have hN : Hid (w3.heap.size ≤ v3.heap.size) := BS3.out.size
            obtain ⟨bN, hbN⟩ : ∃ x, v3.heap.size = x := ⟨_, rfl⟩
            rw [hbN] at XN4 hN ⊢
            clear hbN hbx
            generalize v3.alloc (Obj.cells #[Value.int .i64 0, Value.slice none 0 0] 61) = v4 at *
            have hs4 : Hid ((fun z => z.cell? ⟨w.heap.size, 0, none⟩ = some (Value.slice b n c2)) v4) := XT4.out.cell 0
            refine hK _ _ (Sx.behind (by kernel_rfl) hs4.out) ?_
            clear hK K
            try go_simp
            refine wpAnyX_ready (rs := [6]) (by kernel_rfl) (by simp) (AllX.cons rfl (fun K hK => ?_) AllX.nil)
            go_simp
            refine Calls.mono (HSE.out v4 gd gv gt mv mt BV4.out RD4.out RV4.out RT4.out MV.out MT.out) ?_
            rintro e v5 ⟨aw, cw, rfl, hn5, hb5⟩
            have XT5 := kide (XT4.out.later hb5)
            have RD5 := kide (RD4.out.later hb5)
            have RV5 := kide (RV4.out.later hb5)
            have RT5 := kide (RT4.out.later hb5)
            have XN5 := kide (XN4.out.later hb5)
            have BS5 := kide (BS4.out.trans (hb5.mono BS4.out.size))
            have BV5 := kide (BV4.out.trans (hb5.mono BV4.out.size))
            have NW5 := kide (hn5.mono (lo' := w.heap.size) BV4.out.size)
            clear hn5 hb5
            have hs5 : Hid ((fun z => z.cell? ⟨w.heap.size, 0, none⟩ = some (Value.slice b n c2)) v5) := XT5.out.cell 0
            refine hK _ _ (Sx.behind (by kernel_rfl) hs5.out) ?_
            clear hK K
            try go_simp
            refine wpAnyX_both (T := fun z => z.cell? ⟨w.heap.size, 0, none⟩ = some (Value.slice b n c2)) (i := 7) (v := Value.tuple #[Value.agg #[Value.int .i64 X.1.1, Value.slice aw X.1.2.length cw], Value.bool X.2]) rfl (by kernel_rfl) (by kernel_rfl) (by kernel_rfl) (fun _ _ _ h => by first | exact h | exact h.elim | cases h.1) (by decide) (fun _ h => h.elim) (fun _ h => h) (Sx.behind (by kernel_rfl) hs5.out) (Or.inl ⟨by rfl, fun z hz => by go_simp⟩) ?_
            try go_simp
            refine wpAnyX_both (T := fun z => z.cell? ⟨w.heap.size, 0, none⟩ = some (Value.slice b n c2)) (i := 8) (v := Value.agg #[Value.int .i64 X.1.1, Value.slice aw X.1.2.length cw]) rfl (by kernel_rfl) (by kernel_rfl) (by kernel_rfl) (fun _ _ _ h => by first | exact h | exact h.elim | cases h.1) (by decide) (fun _ h => h.elim) (fun _ h => h) (Sx.behind (by kernel_rfl) hs5.out) (Or.inl ⟨by rfl, fun z hz => by go_simp⟩) ?_
            try go_simp
            refine wpAnyX_both (T := fun z => z.cell? ⟨w.heap.size, 0, none⟩ = some (Value.slice b n c2)) (i := 9) (v := Value.bool X.2) rfl (by kernel_rfl) (by kernel_rfl) (by kernel_rfl) (fun _ _ _ h => by first | exact h | exact h.elim | cases h.1) (by decide) (fun _ h => h.elim) (fun _ h => h) (Sx.behind (by kernel_rfl) hs5.out) (Or.inl ⟨by rfl, fun z hz => by go_simp⟩) ?_
            try go_simp
            refine wpAnyX_ready (rs := [11]) (by kernel_rfl) (by simp) (AllX.cons rfl (fun K hK => ?_) AllX.nil)
            have e8 := XN5.out.cell 0
            have e9 := XN5.out.cell 1
            have f8 := XN5.out.froz 0
            have f9 := XN5.out.froz 1
            simp at e8 e9
            go_simp
            have XN6 : Hid (Bz ((v5.setCell ⟨bN, 0, none⟩ (Value.int .i64 X.1.1)).setCell ⟨bN, 1, none⟩ (Value.slice aw X.1.2.length cw)) bN #[Value.int .i64 X.1.1, Value.slice aw X.1.2.length cw] 61) := (XN5.out.set 0 _).set 1 _
            have XT6 : Hid (Bz ((v5.setCell ⟨bN, 0, none⟩ (Value.int .i64 X.1.1)).setCell ⟨bN, 1, none⟩ (Value.slice aw X.1.2.length cw)) (w.heap.size) #[Value.slice b n c2] 57) := (XT5.out.other (by have := hN.out; omega) 0 _).other (by have := hN.out; omega) 1 _
            have BS6 : Hid (Below w3.heap.size w3 ((v5.setCell ⟨bN, 0, none⟩ (Value.int .i64 X.1.1)).setCell ⟨bN, 1, none⟩ (Value.slice aw X.1.2.length cw))) := (BS5.out.setCell (show w3.heap.size ≤ bN from hN.out) _).setCell (show w3.heap.size ≤ bN from hN.out) _
            have BV6 : Hid (Below w.heap.size w ((v5.setCell ⟨bN, 0, none⟩ (Value.int .i64 X.1.1)).setCell ⟨bN, 1, none⟩ (Value.slice aw X.1.2.length cw))) := (BV5.out.setCell (show w.heap.size ≤ bN by have := hN.out; omega) _).setCell (show w.heap.size ≤ bN by have := hN.out; omega) _
            have NW6 : Hid (Nw ((v5.setCell ⟨bN, 0, none⟩ (Value.int .i64 X.1.1)).setCell ⟨bN, 1, none⟩ (Value.slice aw X.1.2.length cw)) w.heap.size aw X.1.2) := ((NW5.out.set XN5.out (by decide) 0 _).set (XN5.out.set 0 _) (by decide) 1 _)
            generalize (v5.setCell ⟨bN, 0, none⟩ (Value.int .i64 X.1.1)).setCell ⟨bN, 1, none⟩ (Value.slice aw X.1.2.length cw) = v6 at *
            clear e8 e9 f8 f9
            have hs6 : Hid ((fun z => z.cell? ⟨w.heap.size, 0, none⟩ = some (Value.slice b n c2)) v6) := XT6.out.cell 0
            refine hK _ _ (Sx.behind (by kernel_rfl) hs6.out) ?_
            clear hK K
            try go_simp
            refine wpAnyX_both (T := fun z => z.cell? ⟨w.heap.size, 0, none⟩ = some (Value.slice b n c2)) (i := 12) (v := Value.bool X.2) rfl (by kernel_rfl) (by kernel_rfl) (by kernel_rfl) (fun _ _ _ h => by first | exact h | exact h.elim | cases h.1) (by decide) (fun _ h => h.elim) (fun _ h => h) (Sx.behind (by kernel_rfl) hs6.out) (Or.inl ⟨by rfl, fun z hz => by go_simp⟩) ?_
            try go_simp
            refine wpAnyX_done (by kernel_rfl) ?_ _
            try go_simp
            exact key v6 bN aw cw gd gv gt ⟨BS6.out, XN6.out, NW6.out, hN.out⟩
        · go_simp
          have hbx : Below v2.heap.size v2 (v2.alloc (Obj.cells #[Value.int .i64 0, Value.slice none 0 0] 61)) := (Below.refl _ _).alloc (Nat.le_refl _) _
          have XT3 := kide (XT2.out.later hbx)
          have RD3 := kide (RD2.out.later hbx)
          have RV3 := kide (RV2.out.later hbx)
          have BS3 := kide (BS2.out.trans (hbx.mono BS2.out.size))
          have BV3 := kide (BV2.out.trans (hbx.mono BV2.out.size))
          have XN3 := kide (Bz.new v2 #[Value.int .i64 0, Value.slice none 0 0] 61)
          have hN : Hid (w3.heap.size ≤ v2.heap.size) := BS2.out.size
          obtain ⟨bN, hbN⟩ : ∃ x, v2.heap.size = x := ⟨_, rfl⟩
          rw [hbN] at XN3 hN ⊢
          clear hbN hbx
          generalize v2.alloc (Obj.cells #[Value.int .i64 0, Value.slice none 0 0] 61) = v3 at *
          have hs3 : Hid ((fun z => z.cell? ⟨w.heap.size, 0, none⟩ = some (Value.slice b n c2)) v3) := XT3.out.cell 0
          refine hK _ _ (Sx.behind (by kernel_rfl) hs3.out) ?_
          clear hK K
          try go_simp
          refine wpAnyX_ready (rs := [5]) (by kernel_rfl) (by simp) (AllX.cons rfl (fun K hK => ?_) AllX.nil)
          go_simp
          refine Calls.mono (HTT.out v3 BV3.out) ?_
          rintro e v4 ⟨gt, mt, rfl, hmt, rt, hb4⟩
          have XT4 := kide (XT3.out.later hb4)
          have RD4 := kide (RD3.out.later hb4)
          have RV4 := kide (RV3.out.later hb4)
          have XN4 := kide (XN3.out.later hb4)
          have BS4 := kide (BS3.out.trans (hb4.mono BS3.out.size))
          have BV4 := kide (BV3.out.trans (hb4.mono BV3.out.size))
          have RT4 := kide rt
          have MT := kide hmt
          clear rt hmt hb4
          have hs4 : Hid ((fun z => z.cell? ⟨w.heap.size, 0, none⟩ = some (Value.slice b n c2)) v4) := XT4.out.cell 0
          refine hK _ _ (Sx.behind (by kernel_rfl) hs4.out) ?_
          clear hK K
          try go_simp
          refine wpAnyX_ready (rs := [6]) (by kernel_rfl) (by simp) (AllX.cons rfl (fun K hK => ?_) AllX.nil)
          go_simp
          refine Calls.mono (HSE.out v4 gd gv gt mv mt BV4.out RD4.out RV4.out RT4.out MV.out MT.out) ?_
          rintro e v5 ⟨aw, cw, rfl, hn5, hb5⟩
          have XT5 := kide (XT4.out.later hb5)
          have RD5 := kide (RD4.out.later hb5)
          have RV5 := kide (RV4.out.later hb5)
          have XN5 := kide (XN4.out.later hb5)
          have RT5 := kide (RT4.out.later hb5)
          have BS5 := kide (BS4.out.trans (hb5.mono BS4.out.size))
          have BV5 := kide (BV4.out.trans (hb5.mono BV4.out.size))
          have NW5 := kide (hn5.mono (lo' := w.heap.size) BV4.out.size)
          clear hn5 hb5
          have hs5 : Hid ((fun z => z.cell? ⟨w.heap.size, 0, none⟩ = some (Value.slice b n c2)) v5) := XT5.out.cell 0
          refine hK _ _ (Sx.behind (by kernel_rfl) hs5.out) ?_
          clear hK K
          try go_simp
          refine wpAnyX_both (T := fun z => z.cell? ⟨w.heap.size, 0, none⟩ = some (Value.slice b n c2)) (i := 7) (v := Value.tuple #[Value.agg #[Value.int .i64 X.1.1, Value.slice aw X.1.2.length cw], Value.bool X.2]) rfl (by kernel_rfl) (by kernel_rfl) (by kernel_rfl) (fun _ _ _ h => by first | exact h | exact h.elim | cases h.1) (by decide) (fun _ h => h.elim) (fun _ h => h) (Sx.behind (by kernel_rfl) hs5.out) (Or.inl ⟨by rfl, fun z hz => by go_simp⟩) ?_
          try go_simp
          refine wpAnyX_both (T := fun z => z.cell? ⟨w.heap.size, 0, none⟩ = some (Value.slice b n c2)) (i := 8) (v := Value.agg #[Value.int .i64 X.1.1, Value.slice aw X.1.2.length cw]) rfl (by kernel_rfl) (by kernel_rfl) (by kernel_rfl) (fun _ _ _ h => by first | exact h | exact h.elim | cases h.1) (by decide) (fun _ h => h.elim) (fun _ h => h) (Sx.behind (by kernel_rfl) hs5.out) (Or.inl ⟨by rfl, fun z hz => by go_simp⟩) ?_
          try go_simp
          refine wpAnyX_both (T := fun z => z.cell? ⟨w.heap.size, 0, none⟩ = some (Value.slice b n c2)) (i := 9) (v := Value.bool X.2) rfl (by kernel_rfl) (by kernel_rfl) (by kernel_rfl) (fun _ _ _ h => by first | exact h | exact h.elim | cases h.1) (by decide) (fun _ h => h.elim) (fun _ h => h) (Sx.behind (by kernel_rfl) hs5.out) (Or.inl ⟨by rfl, fun z hz => by go_simp⟩) ?_
          try go_simp
          refine wpAnyX_ready (rs := [11]) (by kernel_rfl) (by simp) (AllX.cons rfl (fun K hK => ?_) AllX.nil)
          have e8 := XN5.out.cell 0
          have e9 := XN5.out.cell 1
          have f8 := XN5.out.froz 0
          have f9 := XN5.out.froz 1
          simp at e8 e9
          go_simp
          have XN6 : Hid (Bz ((v5.setCell ⟨bN, 0, none⟩ (Value.int .i64 X.1.1)).setCell ⟨bN, 1, none⟩ (Value.slice aw X.1.2.length cw)) bN #[Value.int .i64 X.1.1, Value.slice aw X.1.2.length cw] 61) := (XN5.out.set 0 _).set 1 _
          have XT6 : Hid (Bz ((v5.setCell ⟨bN, 0, none⟩ (Value.int .i64 X.1.1)).setCell ⟨bN, 1, none⟩ (Value.slice aw X.1.2.length cw)) (w.heap.size) #[Value.slice b n c2] 57) := (XT5.out.other (by have := hN.out; omega) 0 _).other (by have := hN.out; omega) 1 _
          have BS6 : Hid (Below w3.heap.size w3 ((v5.setCell ⟨bN, 0, none⟩ (Value.int .i64 X.1.1)).setCell ⟨bN, 1, none⟩ (Value.slice aw X.1.2.length cw))) := (BS5.out.setCell (show w3.heap.size ≤ bN from hN.out) _).setCell (show w3.heap.size ≤ bN from hN.out) _
          have BV6 : Hid (Below w.heap.size w ((v5.setCell ⟨bN, 0, none⟩ (Value.int .i64 X.1.1)).setCell ⟨bN, 1, none⟩ (Value.slice aw X.1.2.length cw))) := (BV5.out.setCell (show w.heap.size ≤ bN by have := hN.out; omega) _).setCell (show w.heap.size ≤ bN by have := hN.out; omega) _
          have NW6 : Hid (Nw ((v5.setCell ⟨bN, 0, none⟩ (Value.int .i64 X.1.1)).setCell ⟨bN, 1, none⟩ (Value.slice aw X.1.2.length cw)) w.heap.size aw X.1.2) := ((NW5.out.set XN5.out (by decide) 0 _).set (XN5.out.set 0 _) (by decide) 1 _)
          generalize (v5.setCell ⟨bN, 0, none⟩ (Value.int .i64 X.1.1)).setCell ⟨bN, 1, none⟩ (Value.slice aw X.1.2.length cw) = v6 at *
          clear e8 e9 f8 f9
          have hs6 : Hid ((fun z => z.cell? ⟨w.heap.size, 0, none⟩ = some (Value.slice b n c2)) v6) := XT6.out.cell 0
          refine hK _ _ (Sx.behind (by kernel_rfl) hs6.out) ?_
          clear hK K
          try go_simp
          refine wpAnyX_both (T := fun z => z.cell? ⟨w.heap.size, 0, none⟩ = some (Value.slice b n c2)) (i := 12) (v := Value.bool X.2) rfl (by kernel_rfl) (by kernel_rfl) (by kernel_rfl) (fun _ _ _ h => by first | exact h | exact h.elim | cases h.1) (by decide) (fun _ h => h.elim) (fun _ h => h) (Sx.behind (by kernel_rfl) hs6.out) (Or.inl ⟨by rfl, fun z hz => by go_simp⟩) ?_
          try go_simp
          refine wpAnyX_done (by kernel_rfl) ?_ _
          try go_simp
          exact key v6 bN aw cw gd gv gt ⟨BS6.out, XN6.out, NW6.out, hN.out⟩
      · go_simp
        have hbx : Below v1.heap.size v1 (v1.alloc (Obj.cells #[Value.int .i64 0, Value.slice none 0 0] 61)) := (Below.refl _ _).alloc (Nat.le_refl _) _
        have XT2 := kide (XT1.out.later hbx)
        have RD2 := kide (RD1.out.later hbx)
        have BS2 := kide (BS1.out.trans (hbx.mono BS1.out.size))
        have BV2 := kide (BV1.out.trans (hbx.mono BV1.out.size))
        have XN2 := kide (Bz.new v1 #[Value.int .i64 0, Value.slice none 0 0] 61)
        have hN : Hid (w3.heap.size ≤ v1.heap.size) := BS1.out.size
        obtain ⟨bN, hbN⟩ : ∃ x, v1.heap.size = x := ⟨_, rfl⟩
        rw [hbN] at XN2 hN ⊢
        clear hbN hbx
        generalize v1.alloc (Obj.cells #[Value.int .i64 0, Value.slice none 0 0] 61) = v2 at *
        have hs2 : Hid ((fun z => z.cell? ⟨w.heap.size, 0, none⟩ = some (Value.slice b n c2)) v2) := XT2.out.cell 0
        refine hK _ _ (Sx.behind (by kernel_rfl) hs2.out) ?_
        clear hK K
        try go_simp
        refine wpAnyX_ready (rs := [3]) (by kernel_rfl) (by simp) (AllX.cons rfl (fun K hK => ?_) AllX.nil)
        go_simp
        refine Calls.mono (HTV.out v2 BV2.out) ?_
        rintro e v3 ⟨mv, rfl, hmv, rv, hb3⟩
        have XT3 := kide (XT2.out.later hb3)
        have RD3 := kide (RD2.out.later hb3)
        have XN3 := kide (XN2.out.later hb3)
        have BS3 := kide (BS2.out.trans (hb3.mono BS2.out.size))
        have BV3 := kide (BV2.out.trans (hb3.mono BV2.out.size))
        obtain ⟨gv, hgv⟩ : ∃ x, v2.heap.size = x := ⟨_, rfl⟩
        rw [hgv] at rv ⊢
        have RV3 := kide rv
        have MV := kide hmv
        clear rv hgv hmv hb3
        have hs3 : Hid ((fun z => z.cell? ⟨w.heap.size, 0, none⟩ = some (Value.slice b n c2)) v3) := XT3.out.cell 0
        refine hK _ _ (Sx.behind (by kernel_rfl) hs3.out) ?_
        clear hK K
        try go_simp
        refine wpAnyX_ready (rs := [5]) (by kernel_rfl) (by simp) (AllX.cons rfl (fun K hK => ?_) AllX.nil)
        go_simp
        refine Calls.mono (HTT.out v3 BV3.out) ?_
        rintro e v4 ⟨gt, mt, rfl, hmt, rt, hb4⟩
        have XT4 := kide (XT3.out.later hb4)
        have RD4 := kide (RD3.out.later hb4)
        have XN4 := kide (XN3.out.later hb4)
        have RV4 := kide (RV3.out.later hb4)
        have BS4 := kide (BS3.out.trans (hb4.mono BS3.out.size))
        have BV4 := kide (BV3.out.trans (hb4.mono BV3.out.size))
        have RT4 := kide rt
        have MT := kide hmt
        clear rt hmt hb4
        have hs4 : Hid ((fun z => z.cell? ⟨w.heap.size, 0, none⟩ = some (Value.slice b n c2)) v4) := XT4.out.cell 0
        refine hK _ _ (Sx.behind (by kernel_rfl) hs4.out) ?_
        clear hK K
        try go_simp
        refine wpAnyX_ready (rs := [6]) (by kernel_rfl) (by simp) (AllX.cons rfl (fun K hK => ?_) AllX.nil)
        go_simp
        refine Calls.mono (HSE.out v4 gd gv gt mv mt BV4.out RD4.out RV4.out RT4.out MV.out MT.out) ?_
        rintro e v5 ⟨aw, cw, rfl, hn5, hb5⟩
        have XT5 := kide (XT4.out.later hb5)
        have RD5 := kide (RD4.out.later hb5)
        have XN5 := kide (XN4.out.later hb5)
        have RV5 := kide (RV4.out.later hb5)
        have RT5 := kide (RT4.out.later hb5)
        have BS5 := kide (BS4.out.trans (hb5.mono BS4.out.size))
        have BV5 := kide (BV4.out.trans (hb5.mono BV4.out.size))
        have NW5 := kide (hn5.mono (lo' := w.heap.size) BV4.out.size)
        clear hn5 hb5
        have hs5 : Hid ((fun z => z.cell? ⟨w.heap.size, 0, none⟩ = some (Value.slice b n c2)) v5) := XT5.out.cell 0
        refine hK _ _ (Sx.behind (by kernel_rfl) hs5.out) ?_
        clear hK K
        try go_simp
        refine wpAnyX_both (T := fun z => z.cell? ⟨w.heap.size, 0, none⟩ = some (Value.slice b n c2)) (i := 7) (v := Value.tuple #[Value.agg #[Value.int .i64 X.1.1, Value.slice aw X.1.2.length cw], Value.bool X.2]) rfl (by kernel_rfl) (by kernel_rfl) (by kernel_rfl) (fun _ _ _ h => by first | exact h | exact h.elim | cases h.1) (by decide) (fun _ h => h.elim) (fun _ h => h) (Sx.behind (by kernel_rfl) hs5.out) (Or.inl ⟨by rfl, fun z hz => by go_simp⟩) ?_
        try go_simp
        refine wpAnyX_both (T := fun z => z.cell? ⟨w.heap.size, 0, none⟩ = some (Value.slice b n c2)) (i := 8) (v := Value.agg #[Value.int .i64 X.1.1, Value.slice aw X.1.2.length cw]) rfl (by kernel_rfl) (by kernel_rfl) (by kernel_rfl) (fun _ _ _ h => by first | exact h | exact h.elim | cases h.1) (by decide) (fun _ h => h.elim) (fun _ h => h) (Sx.behind (by kernel_rfl) hs5.out) (Or.inl ⟨by rfl, fun z hz => by go_simp⟩) ?_
        try go_simp
        refine wpAnyX_both (T := fun z => z.cell? ⟨w.heap.size, 0, none⟩ = some (Value.slice b n c2)) (i := 9) (v := Value.bool X.2) rfl (by kernel_rfl) (by kernel_rfl) (by kernel_rfl) (fun _ _ _ h => by first | exact h | exact h.elim | cases h.1) (by decide) (fun _ h => h.elim) (fun _ h => h) (Sx.behind (by kernel_rfl) hs5.out) (Or.inl ⟨by rfl, fun z hz => by go_simp⟩) ?_
        try go_simp
        refine wpAnyX_ready (rs := [11]) (by kernel_rfl) (by simp) (AllX.cons rfl (fun K hK => ?_) AllX.nil)
        have e8 := XN5.out.cell 0
        have e9 := XN5.out.cell 1
        have f8 := XN5.out.froz 0
        have f9 := XN5.out.froz 1
        simp at e8 e9
        go_simp
        have XN6 : Hid (Bz ((v5.setCell ⟨bN, 0, none⟩ (Value.int .i64 X.1.1)).setCell ⟨bN, 1, none⟩ (Value.slice aw X.1.2.length cw)) bN #[Value.int .i64 X.1.1, Value.slice aw X.1.2.length cw] 61) := (XN5.out.set 0 _).set 1 _
        have XT6 : Hid (Bz ((v5.setCell ⟨bN, 0, none⟩ (Value.int .i64 X.1.1)).setCell ⟨bN, 1, none⟩ (Value.slice aw X.1.2.length cw)) (w.heap.size) #[Value.slice b n c2] 57) := (XT5.out.other (by have := hN.out; omega) 0 _).other (by have := hN.out; omega) 1 _
        have BS6 : Hid (Below w3.heap.size w3 ((v5.setCell ⟨bN, 0, none⟩ (Value.int .i64 X.1.1)).setCell ⟨bN, 1, none⟩ (Value.slice aw X.1.2.length cw))) := (BS5.out.setCell (show w3.heap.size ≤ bN from hN.out) _).setCell (show w3.heap.size ≤ bN from hN.out) _
        have BV6 : Hid (Below w.heap.size w ((v5.setCell ⟨bN, 0, none⟩ (Value.int .i64 X.1.1)).setCell ⟨bN, 1, none⟩ (Value.slice aw X.1.2.length cw))) := (BV5.out.setCell (show w.heap.size ≤ bN by have := hN.out; omega) _).setCell (show w.heap.size ≤ bN by have := hN.out; omega) _
        have NW6 : Hid (Nw ((v5.setCell ⟨bN, 0, none⟩ (Value.int .i64 X.1.1)).setCell ⟨bN, 1, none⟩ (Value.slice aw X.1.2.length cw)) w.heap.size aw X.1.2) := ((NW5.out.set XN5.out (by decide) 0 _).set (XN5.out.set 0 _) (by decide) 1 _)
        generalize (v5.setCell ⟨bN, 0, none⟩ (Value.int .i64 X.1.1)).setCell ⟨bN, 1, none⟩ (Value.slice aw X.1.2.length cw) = v6 at *
        clear e8 e9 f8 f9
        have hs6 : Hid ((fun z => z.cell? ⟨w.heap.size, 0, none⟩ = some (Value.slice b n c2)) v6) := XT6.out.cell 0
        refine hK _ _ (Sx.behind (by kernel_rfl) hs6.out) ?_
        clear hK K
        try go_simp
        refine wpAnyX_both (T := fun z => z.cell? ⟨w.heap.size, 0, none⟩ = some (Value.slice b n c2)) (i := 12) (v := Value.bool X.2) rfl (by kernel_rfl) (by kernel_rfl) (by kernel_rfl) (fun _ _ _ h => by first | exact h | exact h.elim | cases h.1) (by decide) (fun _ h => h.elim) (fun _ h => h) (Sx.behind (by kernel_rfl) hs6.out) (Or.inl ⟨by rfl, fun z hz => by go_simp⟩) ?_
        try go_simp
        refine wpAnyX_done (by kernel_rfl) ?_ _
        try go_simp
        exact key v6 bN aw cw gd gv gt ⟨BS6.out, XN6.out, NW6.out, hN.out⟩
    · go_simp
      have hbx : Below v0.heap.size v0 (v0.alloc (Obj.cells #[Value.int .i64 0, Value.slice none 0 0] 61)) := (Below.refl _ _).alloc (Nat.le_refl _) _
      have XT1 := kide (XT0.out.later hbx)
      have BS1 := kide (BS0.out.trans (hbx.mono BS0.out.size))
      have BV1 := kide (BV0.out.trans (hbx.mono BV0.out.size))
      have XN1 := kide (Bz.new v0 #[Value.int .i64 0, Value.slice none 0 0] 61)
      have hN : Hid (w3.heap.size ≤ v0.heap.size) := BS0.out.size
      obtain ⟨bN, hbN⟩ : ∃ x, v0.heap.size = x := ⟨_, rfl⟩
      rw [hbN] at XN1 hN ⊢
      clear hbN hbx
      generalize v0.alloc (Obj.cells #[Value.int .i64 0, Value.slice none 0 0] 61) = v1 at *
      have hs1 : Hid ((fun z => z.cell? ⟨w.heap.size, 0, none⟩ = some (Value.slice b n c2)) v1) := XT1.out.cell 0
      refine hK _ _ (Sx.behind (by kernel_rfl) hs1.out) ?_
      clear hK K
      try go_simp
      refine wpAnyX_ready (rs := [1]) (by kernel_rfl) (by simp) (AllX.cons rfl (fun K hK => ?_) AllX.nil)
      go_simp
      refine Calls.mono (toDeclS_any a c ds v1 (HR.out.later BV1.out)) ?_
      rintro e v2 ⟨rfl, rd, hb2⟩
      have XT2 := kide (XT1.out.later hb2)
      have XN2 := kide (XN1.out.later hb2)
      have BS2 := kide (BS1.out.trans (hb2.mono BS1.out.size))
      have BV2 := kide (BV1.out.trans (hb2.mono BV1.out.size))
      obtain ⟨gd, hgd⟩ : ∃ x, v1.heap.size = x := ⟨_, rfl⟩
      rw [hgd] at rd ⊢
      have RD2 := kide rd
      clear rd hgd hb2
      have hs2 : Hid ((fun z => z.cell? ⟨w.heap.size, 0, none⟩ = some (Value.slice b n c2)) v2) := XT2.out.cell 0
      refine hK _ _ (Sx.behind (by kernel_rfl) hs2.out) ?_
      clear hK K
      try go_simp
      refine wpAnyX_ready (rs := [3]) (by kernel_rfl) (by simp) (AllX.cons rfl (fun K hK => ?_) AllX.nil)
      go_simp
      refine Calls.mono (HTV.out v2 BV2.out) ?_
      rintro e v3 ⟨mv, rfl, hmv, rv, hb3⟩
      have XT3 := kide (XT2.out.later hb3)
      have XN3 := kide (XN2.out.later hb3)
      have RD3 := kide (RD2.out.later hb3)
      have BS3 := kide (BS2.out.trans (hb3.mono BS2.out.size))
      have BV3 := kide (BV2.out.trans (hb3.mono BV2.out.size))
      obtain ⟨gv, hgv⟩ : ∃ x, v2.heap.size = x := ⟨_, rfl⟩
      rw [hgv] at rv ⊢
      have RV3 := kide rv
      have MV := kide hmv
      clear rv hgv hmv hb3
      have hs3 : Hid ((fun z => z.cell? ⟨w.heap.size, 0, none⟩ = some (Value.slice b n c2)) v3) := XT3.out.cell 0
      refine hK _ _ (Sx.behind (by kernel_rfl) hs3.out) ?_
      clear hK K
      try go_simp
      refine wpAnyX_ready (rs := [5]) (by kernel_rfl) (by simp) (AllX.cons rfl (fun K hK => ?_) AllX.nil)
      go_simp
      refine Calls.mono (HTT.out v3 BV3.out) ?_
      rintro e v4 ⟨gt, mt, rfl, hmt, rt, hb4⟩
      have XT4 := kide (XT3.out.later hb4)
      have XN4 := kide (XN3.out.later hb4)
      have RD4 := kide (RD3.out.later hb4)
      have RV4 := kide (RV3.out.later hb4)
      have BS4 := kide (BS3.out.trans (hb4.mono BS3.out.size))
      have BV4 := kide (BV3.out.trans (hb4.mono BV3.out.size))
      have RT4 := kide rt
      have MT := kide hmt
      clear rt hmt hb4
      have hs4 : Hid ((fun z => z.cell? ⟨w.heap.size, 0, none⟩ = some (Value.slice b n c2)) v4) := XT4.out.cell 0
      refine hK _ _ (Sx.behind (by kernel_rfl) hs4.out) ?_
      clear hK K
      try go_simp
      refine wpAnyX_ready (rs := [6]) (by kernel_rfl) (by simp) (AllX.cons rfl (fun K hK => ?_) AllX.nil)
      go_simp
      refine Calls.mono (HSE.out v4 gd gv gt mv mt BV4.out RD4.out RV4.out RT4.out MV.out MT.out) ?_
      rintro e v5 ⟨aw, cw, rfl, hn5, hb5⟩
      have XT5 := kide (XT4.out.later hb5)
      have XN5 := kide (XN4.out.later hb5)
      have RD5 := kide (RD4.out.later hb5)
      have RV5 := kide (RV4.out.later hb5)
      have RT5 := kide (RT4.out.later hb5)
      have BS5 := kide (BS4.out.trans (hb5.mono BS4.out.size))
      have BV5 := kide (BV4.out.trans (hb5.mono BV4.out.size))
      have NW5 := kide (hn5.mono (lo' := w.heap.size) BV4.out.size)
      clear hn5 hb5
      have hs5 : Hid ((fun z => z.cell? ⟨w.heap.size, 0, none⟩ = some (Value.slice b n c2)) v5) := XT5.out.cell 0
      refine hK _ _ (Sx.behind (by kernel_rfl) hs5.out) ?_
      clear hK K
      try go_simp
      refine wpAnyX_both (T := fun z => z.cell? ⟨w.heap.size, 0, none⟩ = some (Value.slice b n c2)) (i := 7) (v := Value.tuple #[Value.agg #[Value.int .i64 X.1.1, Value.slice aw X.1.2.length cw], Value.bool X.2]) rfl (by kernel_rfl) (by kernel_rfl) (by kernel_rfl) (fun _ _ _ h => by first | exact h | exact h.elim | cases h.1) (by decide) (fun _ h => h.elim) (fun _ h => h) (Sx.behind (by kernel_rfl) hs5.out) (Or.inl ⟨by rfl, fun z hz => by go_simp⟩) ?_
      try go_simp
      refine wpAnyX_both (T := fun z => z.cell? ⟨w.heap.size, 0, none⟩ = some (Value.slice b n c2)) (i := 8) (v := Value.agg #[Value.int .i64 X.1.1, Value.slice aw X.1.2.length cw]) rfl (by kernel_rfl) (by kernel_rfl) (by kernel_rfl) (fun _ _ _ h => by first | exact h | exact h.elim | cases h.1) (by decide) (fun _ h => h.elim) (fun _ h => h) (Sx.behind (by kernel_rfl) hs5.out) (Or.inl ⟨by rfl, fun z hz => by go_simp⟩) ?_
      try go_simp
      refine wpAnyX_both (T := fun z => z.cell? ⟨w.heap.size, 0, none⟩ = some (Value.slice b n c2)) (i := 9) (v := Value.bool X.2) rfl (by kernel_rfl) (by kernel_rfl) (by kernel_rfl) (fun _ _ _ h => by first | exact h | exact h.elim | cases h.1) (by decide) (fun _ h => h.elim) (fun _ h => h) (Sx.behind (by kernel_rfl) hs5.out) (Or.inl ⟨by rfl, fun z hz => by go_simp⟩) ?_
      try go_simp
      refine wpAnyX_ready (rs := [11]) (by kernel_rfl) (by simp) (AllX.cons rfl (fun K hK => ?_) AllX.nil)
      have e8 := XN5.out.cell 0
      have e9 := XN5.out.cell 1
      have f8 := XN5.out.froz 0
      have f9 := XN5.out.froz 1
      simp at e8 e9
      go_simp
      have XN6 : Hid (Bz ((v5.setCell ⟨bN, 0, none⟩ (Value.int .i64 X.1.1)).setCell ⟨bN, 1, none⟩ (Value.slice aw X.1.2.length cw)) bN #[Value.int .i64 X.1.1, Value.slice aw X.1.2.length cw] 61) := (XN5.out.set 0 _).set 1 _
      have XT6 : Hid (Bz ((v5.setCell ⟨bN, 0, none⟩ (Value.int .i64 X.1.1)).setCell ⟨bN, 1, none⟩ (Value.slice aw X.1.2.length cw)) (w.heap.size) #[Value.slice b n c2] 57) := (XT5.out.other (by have := hN.out; omega) 0 _).other (by have := hN.out; omega) 1 _
      have BS6 : Hid (Below w3.heap.size w3 ((v5.setCell ⟨bN, 0, none⟩ (Value.int .i64 X.1.1)).setCell ⟨bN, 1, none⟩ (Value.slice aw X.1.2.length cw))) := (BS5.out.setCell (show w3.heap.size ≤ bN from hN.out) _).setCell (show w3.heap.size ≤ bN from hN.out) _
      have BV6 : Hid (Below w.heap.size w ((v5.setCell ⟨bN, 0, none⟩ (Value.int .i64 X.1.1)).setCell ⟨bN, 1, none⟩ (Value.slice aw X.1.2.length cw))) := (BV5.out.setCell (show w.heap.size ≤ bN by have := hN.out; omega) _).setCell (show w.heap.size ≤ bN by have := hN.out; omega) _
      have NW6 : Hid (Nw ((v5.setCell ⟨bN, 0, none⟩ (Value.int .i64 X.1.1)).setCell ⟨bN, 1, none⟩ (Value.slice aw X.1.2.length cw)) w.heap.size aw X.1.2) := ((NW5.out.set XN5.out (by decide) 0 _).set (XN5.out.set 0 _) (by decide) 1 _)
      generalize (v5.setCell ⟨bN, 0, none⟩ (Value.int .i64 X.1.1)).setCell ⟨bN, 1, none⟩ (Value.slice aw X.1.2.length cw) = v6 at *
      clear e8 e9 f8 f9
      have hs6 : Hid ((fun z => z.cell? ⟨w.heap.size, 0, none⟩ = some (Value.slice b n c2)) v6) := XT6.out.cell 0
      refine hK _ _ (Sx.behind (by kernel_rfl) hs6.out) ?_
      clear hK K
      try go_simp
      refine wpAnyX_both (T := fun z => z.cell? ⟨w.heap.size, 0, none⟩ = some (Value.slice b n c2)) (i := 12) (v := Value.bool X.2) rfl (by kernel_rfl) (by kernel_rfl) (by kernel_rfl) (fun _ _ _ h => by first | exact h | exact h.elim | cases h.1) (by decide) (fun _ h => h.elim) (fun _ h => h) (Sx.behind (by kernel_rfl) hs6.out) (Or.inl ⟨by rfl, fun z hz => by go_simp⟩) ?_
      try go_simp
      refine wpAnyX_done (by kernel_rfl) ?_ _
      try go_simp
      exact key v6 bN aw cw gd gv gt ⟨BS6.out, XN6.out, NW6.out, hN.out⟩
  · intro w4 bw aw cw gd0 gv0 gt0 hF
    obtain ⟨hb4, xw4, nw4, hlw⟩ := hF
    have B4 := kide (BVS.out.trans (hb4.mono BVS.out.size))
    have T4 := kide (XTS.out.later hb4)
    have W4 := kide xw4
    have N4 := kide nw4.nh
    have lw4 := xw4.lt
    clear hb4 xw4 nw4 XTS BVS HSE
    go_wp2_with fail
    refine Calls.mono (HTD.out w4 B4.out) ?_
    rintro e w5 ⟨rfl, r5, ⟨fd, q5⟩, hb5⟩
    have R5 := kide r5
    have Q5 := kide q5
    have z5 := rowIs_lt q5
    have T5 := kide (T4.out.later hb5)
    have W5 := kide (W4.out.later hb5)
    have N5 := kide (N4.out.later hb5)
    have B5 := kide (B4.out.trans (hb5.mono B4.out.size))
    clear hb5 r5 q5 T4 W4 N4
    go_wp2_with fail
    refine Calls.mono (HTB.out w5 B5.out) ?_
    rintro e w6 ⟨mv, rfl, hmv, rv, ⟨fv, qv, hov⟩, hb6⟩
    have R6 := kide (R5.out.later hb6)
    have Q6 := kide (rowIs_later Q5.out hb6)
    have T6 := kide (T5.out.later hb6)
    have W6 := kide (W5.out.later hb6)
    have N6 := kide (N5.out.later hb6)
    have B6 := kide (B5.out.trans (hb6.mono B5.out.size))
    have MV6 := kide hmv
    have RV6 := kide rv
    have QV6 := kide qv
    have FV := kide (BwOwn.f hov)
    have WV6 := kide (BwOwn.wr hov (B := w5.heap.size) (Nat.le_refl _))
    have z6 := rowIs_lt qv
    have c6 : w6.cell? ⟨w.heap.size, 0, none⟩ = some (.slice b n c2) := T6.out.cell 0
    clear hb6 hmv rv qv hov R5 Q5 T5 W5 N5
    go_wp2_with fail
    refine Calls.mono (HTW.out w6 B6.out) ?_
    rintro e w7 ⟨gt, mt, rfl, hmt, hgt, rt, ⟨ft, qt, hft⟩, hwt, hb7⟩
    have hbx : Below w7.heap.size w7 (w7.alloc (Obj.cells #[Value.slice (some ⟨gt, 0, none⟩) n n] 66)) := (Below.refl _ _).alloc (Nat.le_refl _) _
    have z7 := rowIs_lt qt
    have zz7 := hb7.size
    have R8 := kide ((R6.out.later hb7).later hbx)
    have Q8 := kide (rowIs_later (rowIs_later Q6.out hb7) hbx)
    have T8 := kide ((T6.out.later hb7).later hbx)
    have W8 := kide ((W6.out.later hb7).later hbx)
    have N8 := kide ((N6.out.later hb7).later hbx)
    have B7 := B6.out.trans (hb7.mono B6.out.size)
    have B8 := kide (B7.trans (hbx.mono B7.size))
    have RV8 := kide ((RV6.out.later hb7).later hbx)
    have QV8 := kide (rowIs_later (rowIs_later QV6.out hb7) hbx)
    have WV8 := kide (fun x hx => ((WV6.out x hx).out (Out.below (B1 := w6.heap.size) (B2 := w6.heap.size) hb7) (.inr (Nat.le_refl _))).out (Out.below (B1 := w6.heap.size) (B2 := w6.heap.size) hbx) (.inr (Nat.le_refl _)))
    have MT := kide hmt
    have HGT := kide hgt
    have FT := kide hft
    have RT8 := kide (rt.later hbx)
    have QT8 := kide (rowIs_later qt hbx)
    have WT8 := kide (fun x hx => And.intro ((hwt x hx).1.out (Out.below (B1 := w7.heap.size) (B2 := w7.heap.size) hbx) (.inr (Nat.le_refl _))) (hwt x hx).2)
    have X8 := kide (Bz.new w7 #[Value.slice (some ⟨gt, 0, none⟩) n n] 66)
    have HI8 := kide (HIE.out _ w4.heap.size w5.heap.size gt mv mt B8.out R8.out RV8.out RT8.out MV6.out MT.out)
    clear hb7 hmt hgt rt qt hft hwt hbx B7 R6 Q6 T6 W6 N6 RV6 QV6 WV6 c6
    go_wp2_with fail
    have zx8 := X8.out.lt
    generalize w7.alloc (Obj.cells #[Value.slice (some ⟨gt, 0, none⟩) n n] 66) = w8 at *
    refine Calls.mono HI8.out ?_
    rintro e w9 ⟨ag, cg, rfl, ng, hb9⟩
    have hbg : Below w9.heap.size w9 (w9.alloc (Obj.cells #[Value.int .i64 X.1.1, Value.slice ag X.1.2.length cg] 61)) := (Below.refl _ _).alloc (Nat.le_refl _) _
    have z9 := hb9.size
    have Y10 : Hid (Ce w b n c2 X bw aw cw w4.heap.size w5.heap.size gt w7.heap.size w9.heap.size ag cg ds mv mt fd fv ft vn w.heap.size w4.heap.size w8.heap.size w9.heap.size w5.heap.size w6.heap.size w6.heap.size w7.heap.size (w9.alloc (Obj.cells #[Value.int .i64 X.1.1, Value.slice ag X.1.2.length cg] 61))) :=
      { t := (T8.out.later hb9).later hbg
        w0 := (W8.out.later hb9).later hbg
        x2 := (X8.out.later hb9).later hbg
        g0 := Bz.new w9 _ _
        qd := rowIs_later (rowIs_later Q8.out hb9) hbg
        rd := (R8.out.later hb9).later hbg
        qv := rowIs_later (rowIs_later QV8.out hb9) hbg
        rv := (RV8.out.later hb9).later hbg
        wv := fun x hx => ⟨((WV8.out x hx).out (Out.below (B1 := w6.heap.size) (B2 := w6.heap.size) hb9) (.inr (Nat.le_refl _))).out (Out.below (B1 := w6.heap.size) (B2 := w6.heap.size) hbg) (.inr (Nat.le_refl _)), HVL.out mv MV6.out x hx⟩
        qt := rowIs_later (rowIs_later QT8.out hb9) hbg
        rt := (RT8.out.later hb9).later hbg
        wt := fun x hx => ⟨((WT8.out x hx).1.out (Out.below (B1 := w7.heap.size) (B2 := w7.heap.size) hb9) (.inr (Nat.le_refl _))).out (Out.below (B1 := w7.heap.size) (B2 := w7.heap.size) hbg) (.inr (Nat.le_refl _)), (WT8.out x hx).2⟩
        nw := (N8.out.later hb9).later hbg
        ng := ng.nh.later hbg
        bel := (B8.out.trans (hb9.mono B8.out.size)).trans (hbg.mono (B8.out.trans (hb9.mono B8.out.size)).size) }
    clear hb9 hbg ng HI8 T8 W8 X8 Q8 R8 QV8 RV8 WV8 QT8 RT8 WT8 N8 B8
    have q0 : (w9.alloc (Obj.cells #[Value.int .i64 X.1.1, Value.slice ag X.1.2.length cg] 61)).cell? ⟨bw, 0, none⟩ = some (.int .i64 X.1.1) := Y10.out.w0.cell 0
    have q1 : (w9.alloc (Obj.cells #[Value.int .i64 X.1.1, Value.slice ag X.1.2.length cg] 61)).cell? ⟨bw, 1, none⟩ = some (.slice aw X.1.2.length cw) := Y10.out.w0.cell 1
    go_wp2_with fail
    clear q0 q1
    generalize hA0 : w4.heap.size = A0 at *
    generalize hA1 : w5.heap.size = A1 at *
    generalize hA2 : w6.heap.size = A2 at *
    generalize hA3 : w7.heap.size = A3 at *
    generalize hA4 : w8.heap.size = A4 at *
    generalize w9.alloc (Obj.cells #[Value.int .i64 X.1.1, Value.slice ag X.1.2.length cg] 61) = w10 at *
    generalize hA5 : w9.heap.size = A5 at *
    refine Calls.mono (eqBits_same X.1.1 ag aw cg cw X.1.2 w10 (Y10.out.ng.rd hXl hXx.out) (Y10.out.nw.rd hXl hXx.out)) ?_
    rintro e w11 ⟨rfl, hb11⟩
    have Y11 := kide (Y10.out.later hb11)
    have hbb : (X.2 != X.2) = false := by simp
    clear hb11 Y10
    go_wp2_with fail
    refine Calls.mono (HTD.out w11 Y11.out.bel) ?_
    rintro e w12 ⟨rfl, r12, -, hb12⟩
    have Y12 := kide (Y11.out.later hb12)
    have R12 := kide r12
    clear hb12 r12 Y11
    go_wp2_with fail
    refine Calls.mono (eqDeclS_same _ _ ds.length ds.length ds w12 Y12.out.rd R12.out) ?_
    rintro e w13 ⟨rfl, hb13⟩
    have Y13 := kide (Y12.out.later hb13)
    clear hb13 Y12 R12
    go_wp2_with fail
    refine Calls.mono (HTV.out w13 Y13.out.bel) ?_
    rintro e w14 ⟨m14, rfl, hm14, r14, hb14⟩
    have Y14 := kide (Y13.out.later hb14)
    have R14 := kide r14
    have M14 := kide hm14
    clear hb14 r14 hm14 Y13
    go_wp2_with fail
    refine Calls.mono (eqBitsS_same _ _ vn vn mv m14 w14 Y14.out.rv R14.out (MV6.out.trans M14.out.symm) vn (len_of_ct MV6.out HVN.out) (len_of_ct M14.out HVN.out)) ?_
    rintro e w15 ⟨rfl, hb15⟩
    have Y15 := kide (Y14.out.later hb15)
    have c15 : w15.cell? ⟨w.heap.size, 0, none⟩ = some (.slice b n c2) := Y15.out.t.cell 0
    have d15 : w15.cell? ⟨A3, 0, none⟩ = some (.slice (some ⟨gt, 0, none⟩) n n) := Y15.out.x2.cell 0
    clear hb15 R14 M14 Y14
    go_wp2_with fail
    go_region_held3 (fun u => u.cell? ⟨w.heap.size, 0, none⟩ = some (Value.slice b n c2) ∧ u.cell? ⟨A3, 0, none⟩ = some (Value.slice (some { block := gt, off := 0 }) n n)) (simp [*])
      (first
        | (go_at_call 36; refine Calls.mono (HTT.out _ ?_) ?_; exact Y15.out.bel.drew; rintro e w16 ⟨g16, m16, rfl, hm16, r16, hb16⟩; replace hb16 := kundrew hb16; have Y16 := kide (Ce.later (v := w15) Y15.out hb16); have c16 : w16.cell? ⟨w.heap.size, 0, none⟩ = some (.slice b n c2) := Y16.out.t.cell 0; have d16 : w16.cell? ⟨A3, 0, none⟩ = some (.slice (some ⟨gt, 0, none⟩) n n) := Y16.out.x2.cell 0; have R16 := kide r16; have M16 := kide hm16; clear hm16 r16 hb16)
        | (go_at_call 39; refine Calls.mono (eqTerm_same (some ⟨gt, 0, none⟩) (some ⟨g16, 0, none⟩) n n mt m16 _ Y16.out.rt R16.out (MT.out.trans M16.out.symm) n (len_of_tc MT.out HN.out) (len_of_tc M16.out HN.out)) ?_; rintro e w17 ⟨rfl, hb17⟩; have Y17 := kide (Y16.out.later hb17); have c17 : w17.cell? ⟨w.heap.size, 0, none⟩ = some (.slice b n c2) := Y17.out.t.cell 0; have d17 : w17.cell? ⟨A3, 0, none⟩ = some (.slice (some ⟨gt, 0, none⟩) n n) := Y17.out.x2.cell 0; clear hb17))
    clear Y15 c15 d15 Y16 c16 d16 R16 M16 hbb
    go_wp2_with fail
    refine Calls.mono (markDeclS_one A0 ds.length ds.length fd w17 Y17.out.qd hd2) ?_
    rintro e w18 ⟨rfl, ho18⟩
    have X18 := kide (Y17.out.x2.out ho18 (.inr (by omega)))
    have QV18 := kide (rowIs_out Y17.out.qv ho18 (.inr (by omega)))
    have WV18 := kide (fun x hx => And.intro ((Y17.out.wv x hx).1.out ho18 (.inl (by omega))) (Y17.out.wv x hx).2)
    have QT18 := kide (rowIs_out Y17.out.qt ho18 (.inr (by have := HGT.out; omega)))
    have WT18 := kide (fun x hx => And.intro ((Y17.out.wt x hx).1.out ho18 (.inl (by omega))) (Y17.out.wt x hx).2)
    have V18 : Hid (Cf w b n c2 X bw aw cw A5 ag cg w.heap.size A0 A4 A5 X.1.2 w18) := ⟨Y17.out.t.out ho18 (.inl (by omega)), Y17.out.w0.out ho18 (.inl (by omega)), Y17.out.g0.out ho18 (.inr (by omega)), Y17.out.nw.out ho18 (.inl (Nat.le_refl _)), Y17.out.ng.out ho18 (.inr (by omega)), Out.bel Y17.out.bel ho18 (by omega)⟩
    clear ho18 Y17 c17 d17
    generalize hK1 : 1 + ds.length * 2 = K1
    go_wp2_with fail
    refine Calls.mono (markBitsS_any A1 vn vn K1 A1 A2 mv w18 fv QV18.out FV.out WV18.out (len_of_ct MV6.out HVN.out) hv2 (by rw [sumB_ct MV6.out]; have := HSUM.out; unfold sumB; omega) (Nat.le_refl _) (by omega)) ?_
    rintro e w19 ⟨rfl, ho19⟩
    have X19 := kide (X18.out.out ho19 (.inr (by omega)))
    have QT19 := kide (rowIs_out QT18.out ho19 (.inr (by have := HGT.out; omega)))
    have WT19 := kide (fun x hx => And.intro ((WT18.out x hx).1.out ho19 (.inl (Nat.le_refl _))) (WT18.out x hx).2)
    have V19 : Hid (Cf w b n c2 X bw aw cw A5 ag cg w.heap.size A0 A4 A5 X.1.2 w19) := ⟨V18.out.t.out ho19 (.inl (by omega)), V18.out.w0.out ho19 (.inl (by omega)), V18.out.g0.out ho19 (.inr (by omega)), V18.out.nw.out ho19 (.inl (by omega)), V18.out.ng.out ho19 (.inr (by omega)), Out.bel V18.out.bel ho19 (by omega)⟩
    have d19 : w19.cell? ⟨A3, 0, none⟩ = some (.slice (some ⟨gt, 0, none⟩) n n) := X19.out.cell 0
    generalize hK2 : K1 + vn + sumB mv = K2
    have hKb : K2 ≤ 4194304 := by rw [← hK2, ← hK1, sumB_ct MV6.out]; have := HSUM.out; unfold sumB; omega
    clear ho19 hK1 hK2 X18 QV18 WV18 QT18 WT18 V18
    go_wp2_with fail
    refine Calls.mono (markTerm_any gt n n K2 A2 A3 mt w19 ft QT19.out FT.out WT19.out (len_of_tc MT.out HN.out) hn2 hKb HGT.out (by omega)) ?_
    rintro e w20 ⟨⟨r20, hr20, rfl⟩, ho20⟩
    have V20 : Hid (Cf w b n c2 X bw aw cw A5 ag cg w.heap.size A0 A4 A5 X.1.2 w20) := ⟨V19.out.t.out ho20 (.inl (by omega)), V19.out.w0.out ho20 (.inl (by omega)), V19.out.g0.out ho20 (.inr (by omega)), V19.out.nw.out ho20 (.inl (by omega)), V19.out.ng.out ho20 (.inr (by omega)), Out.bel V19.out.bel ho20 (by omega)⟩
    clear ho20 X19 QT19 WT19 V19 d19
    have p0 : w20.cell? ⟨A5, 0, none⟩ = some (.int .i64 X.1.1) := V20.out.g0.cell 0
    have p1 : w20.cell? ⟨A5, 1, none⟩ = some (.slice ag X.1.2.length cg) := V20.out.g0.cell 1
    have q0 : w20.cell? ⟨bw, 0, none⟩ = some (.int .i64 X.1.1) := V20.out.w0.cell 0
    have q1 : w20.cell? ⟨bw, 1, none⟩ = some (.slice aw X.1.2.length cw) := V20.out.w0.cell 1
    have hr20' : ¬ r20 < 0 := by omega
    have hbb : (X.2 != X.2) = false := by simp
    go_wp2_with fail
    refine Calls.mono (eqBits_same X.1.1 ag aw cg cw X.1.2 w20 (V20.out.ng.rd hXl hXx.out) (V20.out.nw.rd hXl hXx.out)) ?_
    rintro e w21 ⟨rfl, hb21⟩
    have V21 := kide (V20.out.later hb21)
    clear hb21 V20 p0 p1 q0 q1
    have p0 : w21.cell? ⟨A5, 0, none⟩ = some (.int .i64 X.1.1) := V21.out.g0.cell 0
    have p1 : w21.cell? ⟨A5, 1, none⟩ = some (.slice ag X.1.2.length cg) := V21.out.g0.cell 1
    have q0 : w21.cell? ⟨bw, 0, none⟩ = some (.int .i64 X.1.1) := V21.out.w0.cell 0
    have q1 : w21.cell? ⟨bw, 1, none⟩ = some (.slice aw X.1.2.length cw) := V21.out.w0.cell 1
    go_wp2_with fail
    refine Calls.mono (markBits_nh X.1.1 ag cg A4 A5 X.1.2 w21 hXl V21.out.ng) ?_
    rintro e w22 ⟨rfl, n22, ho22⟩
    have V22 : Hid (Cf w b n c2 X bw aw cw A5 ag cg w.heap.size A0 A4 A5 (marks 1 X.1.2.length) w22) := ⟨V21.out.t.out ho22 (.inl (by omega)), V21.out.w0.out ho22 (.inl (by omega)), V21.out.g0.out ho22 (.inr (Nat.le_refl _)), V21.out.nw.out ho22 (.inl (by omega)), n22, Out.bel V21.out.bel ho22 (by omega)⟩
    clear n22 ho22 V21 p0 p1 q0 q1
    have p0 : w22.cell? ⟨A5, 0, none⟩ = some (.int .i64 X.1.1) := V22.out.g0.cell 0
    have p1 : w22.cell? ⟨A5, 1, none⟩ = some (.slice ag X.1.2.length cg) := V22.out.g0.cell 1
    have q0 : w22.cell? ⟨bw, 0, none⟩ = some (.int .i64 X.1.1) := V22.out.w0.cell 0
    have q1 : w22.cell? ⟨bw, 1, none⟩ = some (.slice aw X.1.2.length cw) := V22.out.w0.cell 1
    have HHL := kide (fun u (hu : Rd u ag (marks 1 X.1.2.length)) => heldBits_yes X.1.1 ag cg 1 X.1.2.length u (by omega) hu)
    have HRM := kide (fun u (hu : Nh u A4 A5 ag (marks 1 X.1.2.length)) => hu.rd (by rw [marks_len]; exact hXl) (fun y hy => marks_lt 1 X.1.2.length (by omega) hXl y hy))
    generalize hV : 1 + X.1.2.length = V at *
    have hvv : ((V : Int) != (V : Int)) = false := by simp
    have hv0 : ¬ (V : Int) < 0 := by omega
    go_wp2_with fail
    refine Calls.mono (HHL.out w22 (HRM.out w22 V22.out.ng)) ?_
    rintro e w23 ⟨rfl, hb23⟩
    have V23 := kide (V22.out.later hb23)
    clear hb23 V22 p0 p1 q0 q1
    have XTS := kide V23.out.t
    have BVS := kide V23.out.bel
    have c23 : w23.cell? ⟨w.heap.size, 0, none⟩ = some (.slice b n c2) := V23.out.t.cell 0
    have hws : w.heap.size < w23.heap.size := V23.out.t.lt
    go_wp2_with fail
    apply share7 (F := fun v bN aw cw gd gv gt => Below w23.heap.size w23 v ∧ Bz v bN #[Value.int .i64 X.1.1, Value.slice aw X.1.2.length cw] 61 ∧ Nw v w.heap.size aw X.1.2 ∧ w23.heap.size ≤ bN)
    · skip
      intro key
      refine wp_region_x (SA := fun _ => False) (SB := fun z => z.cell? ⟨w.heap.size, 0, none⟩ = some (Value.slice b n c2)) (k := 999) (by kernel_rfl) ?_
      have hbd : Below w23.heap.size w23 w23.drew := (Below.refl _ _).drew
      have XT0 := kide (XTS.out.later hbd)
      have BS0 := kide hbd
      have BV0 := kide (BVS.out.drew)
      clear hbd
      generalize w23.drew = v0 at *
      have hs0 : Hid ((fun z => z.cell? ⟨w.heap.size, 0, none⟩ = some (Value.slice b n c2)) v0) := XT0.out.cell 0
      try go_simp
      refine wpAnyX_both (T := fun z => z.cell? ⟨w.heap.size, 0, none⟩ = some (Value.slice b n c2)) (i := 0) (v := Value.slice a ds.length c) rfl (by kernel_rfl) (by kernel_rfl) (by kernel_rfl) (fun _ _ _ h => by first | exact h | exact h.elim | cases h.1) (by decide) (fun _ h => h.elim) (fun _ h => h) (Sx.behind (by kernel_rfl) hs0.out) (Or.inl ⟨by rfl, fun z hz => by go_simp⟩) ?_
      try go_simp
      refine wpAnyX_both (T := fun z => z.cell? ⟨w.heap.size, 0, none⟩ = some (Value.slice b n c2)) (i := 2) (v := Value.slice va vn vc) rfl (by kernel_rfl) (by kernel_rfl) (by kernel_rfl) (fun _ _ _ h => by first | exact h | exact h.elim | cases h.1) (by decide) (fun _ h => h.elim) (fun _ h => h) (Sx.behind (by kernel_rfl) hs0.out) (Or.inl ⟨by rfl, fun z hz => by go_simp⟩) ?_
      try go_simp
      refine wpAnyX_both (T := fun z => z.cell? ⟨w.heap.size, 0, none⟩ = some (Value.slice b n c2)) (i := 4) (v := Value.agg #[Value.slice b n c2]) rfl (by kernel_rfl) (by kernel_rfl) (by kernel_rfl) (fun _ _ _ h => by first | exact h | exact h.elim | cases h.1) (by decide) (fun _ h => h.elim) (fun _ h => h) (Sx.behind (by kernel_rfl) hs0.out) (Or.inl ⟨by rfl, fun z hz => by go_simp⟩) ?_
      try go_simp
      refine wpAnyX_ready (rs := [1, 10]) (by kernel_rfl) (by simp) (AllX.cons rfl (fun K hK => ?_) (AllX.cons rfl (fun K hK => ?_) AllX.nil))
      · go_simp
        refine Calls.mono (toDeclS_any a c ds v0 (HR.out.later BV0.out)) ?_
        rintro e v1 ⟨rfl, rd, hb1⟩
        have XT1 := kide (XT0.out.later hb1)
        have BS1 := kide (BS0.out.trans (hb1.mono BS0.out.size))
        have BV1 := kide (BV0.out.trans (hb1.mono BV0.out.size))
        obtain ⟨gd, hgd⟩ : ∃ x, v0.heap.size = x := ⟨_, rfl⟩
        rw [hgd] at rd ⊢
        have RD1 := kide rd
        clear rd hgd hb1
        have hs1 : Hid ((fun z => z.cell? ⟨w.heap.size, 0, none⟩ = some (Value.slice b n c2)) v1) := XT1.out.cell 0
        refine hK _ _ (Sx.behind (by kernel_rfl) hs1.out) ?_
        clear hK K
        try go_simp
        refine wpAnyX_ready (rs := [3, 10]) (by kernel_rfl) (by simp) (AllX.cons rfl (fun K hK => ?_) (AllX.cons rfl (fun K hK => ?_) AllX.nil))
        · go_simp
          refine Calls.mono (HTV.out v1 BV1.out) ?_
          rintro e v2 ⟨mv, rfl, hmv, rv, hb2⟩
          have XT2 := kide (XT1.out.later hb2)
          have RD2 := kide (RD1.out.later hb2)
          have BS2 := kide (BS1.out.trans (hb2.mono BS1.out.size))
          have BV2 := kide (BV1.out.trans (hb2.mono BV1.out.size))
          obtain ⟨gv, hgv⟩ : ∃ x, v1.heap.size = x := ⟨_, rfl⟩
          rw [hgv] at rv ⊢
          have RV2 := kide rv
          have MV := kide hmv
          clear rv hgv hmv hb2
          have hs2 : Hid ((fun z => z.cell? ⟨w.heap.size, 0, none⟩ = some (Value.slice b n c2)) v2) := XT2.out.cell 0
          refine hK _ _ (Sx.behind (by kernel_rfl) hs2.out) ?_
          clear hK K
          try go_simp
          refine wpAnyX_ready (rs := [5, 10]) (by kernel_rfl) (by simp) (AllX.cons rfl (fun K hK => ?_) (AllX.cons rfl (fun K hK => ?_) AllX.nil))
          · go_simp
            refine Calls.mono (HTT.out v2 BV2.out) ?_
            rintro e v3 ⟨gt, mt, rfl, hmt, rt, hb3⟩
            have XT3 := kide (XT2.out.later hb3)
            have RD3 := kide (RD2.out.later hb3)
            have RV3 := kide (RV2.out.later hb3)
            have BS3 := kide (BS2.out.trans (hb3.mono BS2.out.size))
            have BV3 := kide (BV2.out.trans (hb3.mono BV2.out.size))
            have RT3 := kide rt
            have MT := kide hmt
            clear rt hmt hb3
            have hs3 : Hid ((fun z => z.cell? ⟨w.heap.size, 0, none⟩ = some (Value.slice b n c2)) v3) := XT3.out.cell 0
            refine hK _ _ (Sx.behind (by kernel_rfl) hs3.out) ?_
            clear hK K
            try go_simp
            refine wpAnyX_ready (rs := [6, 10]) (by kernel_rfl) (by simp) (AllX.cons rfl (fun K hK => ?_) (AllX.cons rfl (fun K hK => ?_) AllX.nil))
            · go_simp
              refine Calls.mono (HIE.out v3 gd gv gt mv mt BV3.out RD3.out RV3.out RT3.out MV.out MT.out) ?_
              rintro e v4 ⟨aw, cw, rfl, hn4, hb4⟩
              have XT4 := kide (XT3.out.later hb4)
              have RD4 := kide (RD3.out.later hb4)
              have RV4 := kide (RV3.out.later hb4)
              have RT4 := kide (RT3.out.later hb4)
              have BS4 := kide (BS3.out.trans (hb4.mono BS3.out.size))
              have BV4 := kide (BV3.out.trans (hb4.mono BV3.out.size))
              have NW4 := kide (hn4.mono (lo' := w.heap.size) BV3.out.size)
              clear hn4 hb4
              have hs4 : Hid ((fun z => z.cell? ⟨w.heap.size, 0, none⟩ = some (Value.slice b n c2)) v4) := XT4.out.cell 0
              refine hK _ _ (Sx.behind (by kernel_rfl) hs4.out) ?_
              clear hK K
              try go_simp
              refine wpAnyX_both (T := fun z => z.cell? ⟨w.heap.size, 0, none⟩ = some (Value.slice b n c2)) (i := 7) (v := Value.tuple #[Value.agg #[Value.int .i64 X.1.1, Value.slice aw X.1.2.length cw], Value.bool X.2]) rfl (by kernel_rfl) (by kernel_rfl) (by kernel_rfl) (fun _ _ _ h => by first | exact h | exact h.elim | cases h.1) (by decide) (fun _ h => h.elim) (fun _ h => h) (Sx.behind (by kernel_rfl) hs4.out) (Or.inl ⟨by rfl, fun z hz => by go_simp⟩) ?_
              try go_simp
              refine wpAnyX_both (T := fun z => z.cell? ⟨w.heap.size, 0, none⟩ = some (Value.slice b n c2)) (i := 8) (v := Value.agg #[Value.int .i64 X.1.1, Value.slice aw X.1.2.length cw]) rfl (by kernel_rfl) (by kernel_rfl) (by kernel_rfl) (fun _ _ _ h => by first | exact h | exact h.elim | cases h.1) (by decide) (fun _ h => h.elim) (fun _ h => h) (Sx.behind (by kernel_rfl) hs4.out) (Or.inl ⟨by rfl, fun z hz => by go_simp⟩) ?_
              try go_simp
              refine wpAnyX_both (T := fun z => z.cell? ⟨w.heap.size, 0, none⟩ = some (Value.slice b n c2)) (i := 9) (v := Value.bool X.2) rfl (by kernel_rfl) (by kernel_rfl) (by kernel_rfl) (fun _ _ _ h => by first | exact h | exact h.elim | cases h.1) (by decide) (fun _ h => h.elim) (fun _ h => h) (Sx.behind (by kernel_rfl) hs4.out) (Or.inl ⟨by rfl, fun z hz => by go_simp⟩) ?_
              try go_simp
              refine wpAnyX_ready (rs := [10]) (by kernel_rfl) (by simp) (AllX.cons rfl (fun K hK => ?_) AllX.nil)
              go_simp
              have hbx : Below v4.heap.size v4 (v4.alloc (Obj.cells #[Value.int .i64 0, Value.slice none 0 0] 61)) := (Below.refl _ _).alloc (Nat.le_refl _) _
              have XT5 := kide (XT4.out.later hbx)
              have RD5 := kide (RD4.out.later hbx)
              have RV5 := kide (RV4.out.later hbx)
              have RT5 := kide (RT4.out.later hbx)
              have NW5 := kide (NW4.out.later hbx)
              have BS5 := kide (BS4.out.trans (hbx.mono BS4.out.size))
              have BV5 := kide (BV4.out.trans (hbx.mono BV4.out.size))
              have XN5 := kide (Bz.new v4 #[Value.int .i64 0, Value.slice none 0 0] 61)
              have hN : Hid (w23.heap.size ≤ v4.heap.size) := BS4.out.size
              obtain ⟨bN, hbN⟩ : ∃ x, v4.heap.size = x := ⟨_, rfl⟩
              rw [hbN] at XN5 hN ⊢
              clear hbN hbx
              generalize v4.alloc (Obj.cells #[Value.int .i64 0, Value.slice none 0 0] 61) = v5 at *
              have hs5 : Hid ((fun z => z.cell? ⟨w.heap.size, 0, none⟩ = some (Value.slice b n c2)) v5) := XT5.out.cell 0
              refine hK _ _ (Sx.behind (by kernel_rfl) hs5.out) ?_
              clear hK K
              try go_simp
              refine wpAnyX_ready (rs := [11]) (by kernel_rfl) (by simp) (AllX.cons rfl (fun K hK => ?_) AllX.nil)
              have e8 := XN5.out.cell 0
              have e9 := XN5.out.cell 1
              have f8 := XN5.out.froz 0
              have f9 := XN5.out.froz 1
              simp at e8 e9
              go_simp
              have XN6 : Hid (Bz ((v5.setCell ⟨bN, 0, none⟩ (Value.int .i64 X.1.1)).setCell ⟨bN, 1, none⟩ (Value.slice aw X.1.2.length cw)) bN #[Value.int .i64 X.1.1, Value.slice aw X.1.2.length cw] 61) := (XN5.out.set 0 _).set 1 _
              have XT6 : Hid (Bz ((v5.setCell ⟨bN, 0, none⟩ (Value.int .i64 X.1.1)).setCell ⟨bN, 1, none⟩ (Value.slice aw X.1.2.length cw)) (w.heap.size) #[Value.slice b n c2] 57) := (XT5.out.other (by have := hN.out; omega) 0 _).other (by have := hN.out; omega) 1 _
              have BS6 : Hid (Below w23.heap.size w23 ((v5.setCell ⟨bN, 0, none⟩ (Value.int .i64 X.1.1)).setCell ⟨bN, 1, none⟩ (Value.slice aw X.1.2.length cw))) := (BS5.out.setCell (show w23.heap.size ≤ bN from hN.out) _).setCell (show w23.heap.size ≤ bN from hN.out) _
              have BV6 : Hid (Below w.heap.size w ((v5.setCell ⟨bN, 0, none⟩ (Value.int .i64 X.1.1)).setCell ⟨bN, 1, none⟩ (Value.slice aw X.1.2.length cw))) := (BV5.out.setCell (show w.heap.size ≤ bN by have := hN.out; omega) _).setCell (show w.heap.size ≤ bN by have := hN.out; omega) _
              have NW6 : Hid (Nw ((v5.setCell ⟨bN, 0, none⟩ (Value.int .i64 X.1.1)).setCell ⟨bN, 1, none⟩ (Value.slice aw X.1.2.length cw)) w.heap.size aw X.1.2) := ((NW5.out.set XN5.out (by decide) 0 _).set (XN5.out.set 0 _) (by decide) 1 _)
              generalize (v5.setCell ⟨bN, 0, none⟩ (Value.int .i64 X.1.1)).setCell ⟨bN, 1, none⟩ (Value.slice aw X.1.2.length cw) = v6 at *
              clear e8 e9 f8 f9
              have hs6 : Hid ((fun z => z.cell? ⟨w.heap.size, 0, none⟩ = some (Value.slice b n c2)) v6) := XT6.out.cell 0
              refine hK _ _ (Sx.behind (by kernel_rfl) hs6.out) ?_
              clear hK K
              try go_simp
              refine wpAnyX_both (T := fun z => z.cell? ⟨w.heap.size, 0, none⟩ = some (Value.slice b n c2)) (i := 12) (v := Value.bool X.2) rfl (by kernel_rfl) (by kernel_rfl) (by kernel_rfl) (fun _ _ _ h => by first | exact h | exact h.elim | cases h.1) (by decide) (fun _ h => h.elim) (fun _ h => h) (Sx.behind (by kernel_rfl) hs6.out) (Or.inl ⟨by rfl, fun z hz => by go_simp⟩) ?_
              try go_simp
              refine wpAnyX_done (by kernel_rfl) ?_ _
              try go_simp
              exact key v6 bN aw cw gd gv gt ⟨BS6.out, XN6.out, NW6.out, hN.out⟩
            · go_simp
              have hbx : Below v3.heap.size v3 (v3.alloc (Obj.cells #[Value.int .i64 0, Value.slice none 0 0] 61)) := (Below.refl _ _).alloc (Nat.le_refl _) _
              have XT4 := kide (XT3.out.later hbx)
              have RD4 := kide (RD3.out.later hbx)
              have RV4 := kide (RV3.out.later hbx)
              have RT4 := kide (RT3.out.later hbx)
              have BS4 := kide (BS3.out.trans (hbx.mono BS3.out.size))
              have BV4 := kide (BV3.out.trans (hbx.mono BV3.out.size))
              have XN4 := kide (Bz.new v3 #[Value.int .i64 0, Value.slice none 0 0] 61)
              have hN : Hid (w23.heap.size ≤ v3.heap.size) := BS3.out.size
              obtain ⟨bN, hbN⟩ : ∃ x, v3.heap.size = x := ⟨_, rfl⟩
              rw [hbN] at XN4 hN ⊢
              clear hbN hbx
              generalize v3.alloc (Obj.cells #[Value.int .i64 0, Value.slice none 0 0] 61) = v4 at *
              have hs4 : Hid ((fun z => z.cell? ⟨w.heap.size, 0, none⟩ = some (Value.slice b n c2)) v4) := XT4.out.cell 0
              refine hK _ _ (Sx.behind (by kernel_rfl) hs4.out) ?_
              clear hK K
              try go_simp
              refine wpAnyX_ready (rs := [6]) (by kernel_rfl) (by simp) (AllX.cons rfl (fun K hK => ?_) AllX.nil)
              go_simp
              refine Calls.mono (HIE.out v4 gd gv gt mv mt BV4.out RD4.out RV4.out RT4.out MV.out MT.out) ?_
              rintro e v5 ⟨aw, cw, rfl, hn5, hb5⟩
              have XT5 := kide (XT4.out.later hb5)
              have RD5 := kide (RD4.out.later hb5)
              have RV5 := kide (RV4.out.later hb5)
              have RT5 := kide (RT4.out.later hb5)
              have XN5 := kide (XN4.out.later hb5)
              have BS5 := kide (BS4.out.trans (hb5.mono BS4.out.size))
              have BV5 := kide (BV4.out.trans (hb5.mono BV4.out.size))
              have NW5 := kide (hn5.mono (lo' := w.heap.size) BV4.out.size)
              clear hn5 hb5
              have hs5 : Hid ((fun z => z.cell? ⟨w.heap.size, 0, none⟩ = some (Value.slice b n c2)) v5) := XT5.out.cell 0
              refine hK _ _ (Sx.behind (by kernel_rfl) hs5.out) ?_
              clear hK K
              try go_simp
              refine wpAnyX_both (T := fun z => z.cell? ⟨w.heap.size, 0, none⟩ = some (Value.slice b n c2)) (i := 7) (v := Value.tuple #[Value.agg #[Value.int .i64 X.1.1, Value.slice aw X.1.2.length cw], Value.bool X.2]) rfl (by kernel_rfl) (by kernel_rfl) (by kernel_rfl) (fun _ _ _ h => by first | exact h | exact h.elim | cases h.1) (by decide) (fun _ h => h.elim) (fun _ h => h) (Sx.behind (by kernel_rfl) hs5.out) (Or.inl ⟨by rfl, fun z hz => by go_simp⟩) ?_
              try go_simp
              refine wpAnyX_both (T := fun z => z.cell? ⟨w.heap.size, 0, none⟩ = some (Value.slice b n c2)) (i := 8) (v := Value.agg #[Value.int .i64 X.1.1, Value.slice aw X.1.2.length cw]) rfl (by kernel_rfl) (by kernel_rfl) (by kernel_rfl) (fun _ _ _ h => by first | exact h | exact h.elim | cases h.1) (by decide) (fun _ h => h.elim) (fun _ h => h) (Sx.behind (by kernel_rfl) hs5.out) (Or.inl ⟨by rfl, fun z hz => by go_simp⟩) ?_
              try go_simp
              refine wpAnyX_both (T := fun z => z.cell? ⟨w.heap.size, 0, none⟩ = some (Value.slice b n c2)) (i := 9) (v := Value.bool X.2) rfl (by kernel_rfl) (by kernel_rfl) (by kernel_rfl) (fun _ _ _ h => by first | exact h | exact h.elim | cases h.1) (by decide) (fun _ h => h.elim) (fun _ h => h) (Sx.behind (by kernel_rfl) hs5.out) (Or.inl ⟨by rfl, fun z hz => by go_simp⟩) ?_
              try go_simp
              refine wpAnyX_ready (rs := [11]) (by kernel_rfl) (by simp) (AllX.cons rfl (fun K hK => ?_) AllX.nil)
              have e8 := XN5.out.cell 0
              have e9 := XN5.out.cell 1
              have f8 := XN5.out.froz 0
              have f9 := XN5.out.froz 1
              simp at e8 e9
              go_simp
              have XN6 : Hid (Bz ((v5.setCell ⟨bN, 0, none⟩ (Value.int .i64 X.1.1)).setCell ⟨bN, 1, none⟩ (Value.slice aw X.1.2.length cw)) bN #[Value.int .i64 X.1.1, Value.slice aw X.1.2.length cw] 61) := (XN5.out.set 0 _).set 1 _
              have XT6 : Hid (Bz ((v5.setCell ⟨bN, 0, none⟩ (Value.int .i64 X.1.1)).setCell ⟨bN, 1, none⟩ (Value.slice aw X.1.2.length cw)) (w.heap.size) #[Value.slice b n c2] 57) := (XT5.out.other (by have := hN.out; omega) 0 _).other (by have := hN.out; omega) 1 _
              have BS6 : Hid (Below w23.heap.size w23 ((v5.setCell ⟨bN, 0, none⟩ (Value.int .i64 X.1.1)).setCell ⟨bN, 1, none⟩ (Value.slice aw X.1.2.length cw))) := (BS5.out.setCell (show w23.heap.size ≤ bN from hN.out) _).setCell (show w23.heap.size ≤ bN from hN.out) _
              have BV6 : Hid (Below w.heap.size w ((v5.setCell ⟨bN, 0, none⟩ (Value.int .i64 X.1.1)).setCell ⟨bN, 1, none⟩ (Value.slice aw X.1.2.length cw))) := (BV5.out.setCell (show w.heap.size ≤ bN by have := hN.out; omega) _).setCell (show w.heap.size ≤ bN by have := hN.out; omega) _
              have NW6 : Hid (Nw ((v5.setCell ⟨bN, 0, none⟩ (Value.int .i64 X.1.1)).setCell ⟨bN, 1, none⟩ (Value.slice aw X.1.2.length cw)) w.heap.size aw X.1.2) := ((NW5.out.set XN5.out (by decide) 0 _).set (XN5.out.set 0 _) (by decide) 1 _)
              generalize (v5.setCell ⟨bN, 0, none⟩ (Value.int .i64 X.1.1)).setCell ⟨bN, 1, none⟩ (Value.slice aw X.1.2.length cw) = v6 at *
              clear e8 e9 f8 f9
              have hs6 : Hid ((fun z => z.cell? ⟨w.heap.size, 0, none⟩ = some (Value.slice b n c2)) v6) := XT6.out.cell 0
              refine hK _ _ (Sx.behind (by kernel_rfl) hs6.out) ?_
              clear hK K
              try go_simp
              refine wpAnyX_both (T := fun z => z.cell? ⟨w.heap.size, 0, none⟩ = some (Value.slice b n c2)) (i := 12) (v := Value.bool X.2) rfl (by kernel_rfl) (by kernel_rfl) (by kernel_rfl) (fun _ _ _ h => by first | exact h | exact h.elim | cases h.1) (by decide) (fun _ h => h.elim) (fun _ h => h) (Sx.behind (by kernel_rfl) hs6.out) (Or.inl ⟨by rfl, fun z hz => by go_simp⟩) ?_
              try go_simp
              refine wpAnyX_done (by kernel_rfl) ?_ _
              try go_simp
              exact key v6 bN aw cw gd gv gt ⟨BS6.out, XN6.out, NW6.out, hN.out⟩
          · go_simp
            have hbx : Below v2.heap.size v2 (v2.alloc (Obj.cells #[Value.int .i64 0, Value.slice none 0 0] 61)) := (Below.refl _ _).alloc (Nat.le_refl _) _
            have XT3 := kide (XT2.out.later hbx)
            have RD3 := kide (RD2.out.later hbx)
            have RV3 := kide (RV2.out.later hbx)
            have BS3 := kide (BS2.out.trans (hbx.mono BS2.out.size))
            have BV3 := kide (BV2.out.trans (hbx.mono BV2.out.size))
            have XN3 := kide (Bz.new v2 #[Value.int .i64 0, Value.slice none 0 0] 61)
            have hN : Hid (w23.heap.size ≤ v2.heap.size) := BS2.out.size
            obtain ⟨bN, hbN⟩ : ∃ x, v2.heap.size = x := ⟨_, rfl⟩
            rw [hbN] at XN3 hN ⊢
            clear hbN hbx
            generalize v2.alloc (Obj.cells #[Value.int .i64 0, Value.slice none 0 0] 61) = v3 at *
            have hs3 : Hid ((fun z => z.cell? ⟨w.heap.size, 0, none⟩ = some (Value.slice b n c2)) v3) := XT3.out.cell 0
            refine hK _ _ (Sx.behind (by kernel_rfl) hs3.out) ?_
            clear hK K
            try go_simp
            refine wpAnyX_ready (rs := [5]) (by kernel_rfl) (by simp) (AllX.cons rfl (fun K hK => ?_) AllX.nil)
            go_simp
            refine Calls.mono (HTT.out v3 BV3.out) ?_
            rintro e v4 ⟨gt, mt, rfl, hmt, rt, hb4⟩
            have XT4 := kide (XT3.out.later hb4)
            have RD4 := kide (RD3.out.later hb4)
            have RV4 := kide (RV3.out.later hb4)
            have XN4 := kide (XN3.out.later hb4)
            have BS4 := kide (BS3.out.trans (hb4.mono BS3.out.size))
            have BV4 := kide (BV3.out.trans (hb4.mono BV3.out.size))
            have RT4 := kide rt
            have MT := kide hmt
            clear rt hmt hb4
            have hs4 : Hid ((fun z => z.cell? ⟨w.heap.size, 0, none⟩ = some (Value.slice b n c2)) v4) := XT4.out.cell 0
            refine hK _ _ (Sx.behind (by kernel_rfl) hs4.out) ?_
            clear hK K
            try go_simp
            refine wpAnyX_ready (rs := [6]) (by kernel_rfl) (by simp) (AllX.cons rfl (fun K hK => ?_) AllX.nil)
            go_simp
            refine Calls.mono (HIE.out v4 gd gv gt mv mt BV4.out RD4.out RV4.out RT4.out MV.out MT.out) ?_
            rintro e v5 ⟨aw, cw, rfl, hn5, hb5⟩
            have XT5 := kide (XT4.out.later hb5)
            have RD5 := kide (RD4.out.later hb5)
            have RV5 := kide (RV4.out.later hb5)
            have XN5 := kide (XN4.out.later hb5)
            have RT5 := kide (RT4.out.later hb5)
            have BS5 := kide (BS4.out.trans (hb5.mono BS4.out.size))
            have BV5 := kide (BV4.out.trans (hb5.mono BV4.out.size))
            have NW5 := kide (hn5.mono (lo' := w.heap.size) BV4.out.size)
            clear hn5 hb5
            have hs5 : Hid ((fun z => z.cell? ⟨w.heap.size, 0, none⟩ = some (Value.slice b n c2)) v5) := XT5.out.cell 0
            refine hK _ _ (Sx.behind (by kernel_rfl) hs5.out) ?_
            clear hK K
            try go_simp
            refine wpAnyX_both (T := fun z => z.cell? ⟨w.heap.size, 0, none⟩ = some (Value.slice b n c2)) (i := 7) (v := Value.tuple #[Value.agg #[Value.int .i64 X.1.1, Value.slice aw X.1.2.length cw], Value.bool X.2]) rfl (by kernel_rfl) (by kernel_rfl) (by kernel_rfl) (fun _ _ _ h => by first | exact h | exact h.elim | cases h.1) (by decide) (fun _ h => h.elim) (fun _ h => h) (Sx.behind (by kernel_rfl) hs5.out) (Or.inl ⟨by rfl, fun z hz => by go_simp⟩) ?_
            try go_simp
            refine wpAnyX_both (T := fun z => z.cell? ⟨w.heap.size, 0, none⟩ = some (Value.slice b n c2)) (i := 8) (v := Value.agg #[Value.int .i64 X.1.1, Value.slice aw X.1.2.length cw]) rfl (by kernel_rfl) (by kernel_rfl) (by kernel_rfl) (fun _ _ _ h => by first | exact h | exact h.elim | cases h.1) (by decide) (fun _ h => h.elim) (fun _ h => h) (Sx.behind (by kernel_rfl) hs5.out) (Or.inl ⟨by rfl, fun z hz => by go_simp⟩) ?_
            try go_simp
            refine wpAnyX_both (T := fun z => z.cell? ⟨w.heap.size, 0, none⟩ = some (Value.slice b n c2)) (i := 9) (v := Value.bool X.2) rfl (by kernel_rfl) (by kernel_rfl) (by kernel_rfl) (fun _ _ _ h => by first | exact h | exact h.elim | cases h.1) (by decide) (fun _ h => h.elim) (fun _ h => h) (Sx.behind (by kernel_rfl) hs5.out) (Or.inl ⟨by rfl, fun z hz => by go_simp⟩) ?_
            try go_simp
            refine wpAnyX_ready (rs := [11]) (by kernel_rfl) (by simp) (AllX.cons rfl (fun K hK => ?_) AllX.nil)
            have e8 := XN5.out.cell 0
            have e9 := XN5.out.cell 1
            have f8 := XN5.out.froz 0
            have f9 := XN5.out.froz 1
            simp at e8 e9
            go_simp
            have XN6 : Hid (Bz ((v5.setCell ⟨bN, 0, none⟩ (Value.int .i64 X.1.1)).setCell ⟨bN, 1, none⟩ (Value.slice aw X.1.2.length cw)) bN #[Value.int .i64 X.1.1, Value.slice aw X.1.2.length cw] 61) := (XN5.out.set 0 _).set 1 _
            have XT6 : Hid (Bz ((v5.setCell ⟨bN, 0, none⟩ (Value.int .i64 X.1.1)).setCell ⟨bN, 1, none⟩ (Value.slice aw X.1.2.length cw)) (w.heap.size) #[Value.slice b n c2] 57) := (XT5.out.other (by have := hN.out; omega) 0 _).other (by have := hN.out; omega) 1 _
            have BS6 : Hid (Below w23.heap.size w23 ((v5.setCell ⟨bN, 0, none⟩ (Value.int .i64 X.1.1)).setCell ⟨bN, 1, none⟩ (Value.slice aw X.1.2.length cw))) := (BS5.out.setCell (show w23.heap.size ≤ bN from hN.out) _).setCell (show w23.heap.size ≤ bN from hN.out) _
            have BV6 : Hid (Below w.heap.size w ((v5.setCell ⟨bN, 0, none⟩ (Value.int .i64 X.1.1)).setCell ⟨bN, 1, none⟩ (Value.slice aw X.1.2.length cw))) := (BV5.out.setCell (show w.heap.size ≤ bN by have := hN.out; omega) _).setCell (show w.heap.size ≤ bN by have := hN.out; omega) _
            have NW6 : Hid (Nw ((v5.setCell ⟨bN, 0, none⟩ (Value.int .i64 X.1.1)).setCell ⟨bN, 1, none⟩ (Value.slice aw X.1.2.length cw)) w.heap.size aw X.1.2) := ((NW5.out.set XN5.out (by decide) 0 _).set (XN5.out.set 0 _) (by decide) 1 _)
            generalize (v5.setCell ⟨bN, 0, none⟩ (Value.int .i64 X.1.1)).setCell ⟨bN, 1, none⟩ (Value.slice aw X.1.2.length cw) = v6 at *
            clear e8 e9 f8 f9
            have hs6 : Hid ((fun z => z.cell? ⟨w.heap.size, 0, none⟩ = some (Value.slice b n c2)) v6) := XT6.out.cell 0
            refine hK _ _ (Sx.behind (by kernel_rfl) hs6.out) ?_
            clear hK K
            try go_simp
            refine wpAnyX_both (T := fun z => z.cell? ⟨w.heap.size, 0, none⟩ = some (Value.slice b n c2)) (i := 12) (v := Value.bool X.2) rfl (by kernel_rfl) (by kernel_rfl) (by kernel_rfl) (fun _ _ _ h => by first | exact h | exact h.elim | cases h.1) (by decide) (fun _ h => h.elim) (fun _ h => h) (Sx.behind (by kernel_rfl) hs6.out) (Or.inl ⟨by rfl, fun z hz => by go_simp⟩) ?_
            try go_simp
            refine wpAnyX_done (by kernel_rfl) ?_ _
            try go_simp
            exact key v6 bN aw cw gd gv gt ⟨BS6.out, XN6.out, NW6.out, hN.out⟩
        · go_simp
          have hbx : Below v1.heap.size v1 (v1.alloc (Obj.cells #[Value.int .i64 0, Value.slice none 0 0] 61)) := (Below.refl _ _).alloc (Nat.le_refl _) _
          have XT2 := kide (XT1.out.later hbx)
          have RD2 := kide (RD1.out.later hbx)
          have BS2 := kide (BS1.out.trans (hbx.mono BS1.out.size))
          have BV2 := kide (BV1.out.trans (hbx.mono BV1.out.size))
          have XN2 := kide (Bz.new v1 #[Value.int .i64 0, Value.slice none 0 0] 61)
          have hN : Hid (w23.heap.size ≤ v1.heap.size) := BS1.out.size
          obtain ⟨bN, hbN⟩ : ∃ x, v1.heap.size = x := ⟨_, rfl⟩
          rw [hbN] at XN2 hN ⊢
          clear hbN hbx
          generalize v1.alloc (Obj.cells #[Value.int .i64 0, Value.slice none 0 0] 61) = v2 at *
          have hs2 : Hid ((fun z => z.cell? ⟨w.heap.size, 0, none⟩ = some (Value.slice b n c2)) v2) := XT2.out.cell 0
          refine hK _ _ (Sx.behind (by kernel_rfl) hs2.out) ?_
          clear hK K
          try go_simp
          refine wpAnyX_ready (rs := [3]) (by kernel_rfl) (by simp) (AllX.cons rfl (fun K hK => ?_) AllX.nil)
          go_simp
          refine Calls.mono (HTV.out v2 BV2.out) ?_
          rintro e v3 ⟨mv, rfl, hmv, rv, hb3⟩
          have XT3 := kide (XT2.out.later hb3)
          have RD3 := kide (RD2.out.later hb3)
          have XN3 := kide (XN2.out.later hb3)
          have BS3 := kide (BS2.out.trans (hb3.mono BS2.out.size))
          have BV3 := kide (BV2.out.trans (hb3.mono BV2.out.size))
          obtain ⟨gv, hgv⟩ : ∃ x, v2.heap.size = x := ⟨_, rfl⟩
          rw [hgv] at rv ⊢
          have RV3 := kide rv
          have MV := kide hmv
          clear rv hgv hmv hb3
          have hs3 : Hid ((fun z => z.cell? ⟨w.heap.size, 0, none⟩ = some (Value.slice b n c2)) v3) := XT3.out.cell 0
          refine hK _ _ (Sx.behind (by kernel_rfl) hs3.out) ?_
          clear hK K
          try go_simp
          refine wpAnyX_ready (rs := [5]) (by kernel_rfl) (by simp) (AllX.cons rfl (fun K hK => ?_) AllX.nil)
          go_simp
          refine Calls.mono (HTT.out v3 BV3.out) ?_
          rintro e v4 ⟨gt, mt, rfl, hmt, rt, hb4⟩
          have XT4 := kide (XT3.out.later hb4)
          have RD4 := kide (RD3.out.later hb4)
          have XN4 := kide (XN3.out.later hb4)
          have RV4 := kide (RV3.out.later hb4)
          have BS4 := kide (BS3.out.trans (hb4.mono BS3.out.size))
          have BV4 := kide (BV3.out.trans (hb4.mono BV3.out.size))
          have RT4 := kide rt
          have MT := kide hmt
          clear rt hmt hb4
          have hs4 : Hid ((fun z => z.cell? ⟨w.heap.size, 0, none⟩ = some (Value.slice b n c2)) v4) := XT4.out.cell 0
          refine hK _ _ (Sx.behind (by kernel_rfl) hs4.out) ?_
          clear hK K
          try go_simp
          refine wpAnyX_ready (rs := [6]) (by kernel_rfl) (by simp) (AllX.cons rfl (fun K hK => ?_) AllX.nil)
          go_simp
          refine Calls.mono (HIE.out v4 gd gv gt mv mt BV4.out RD4.out RV4.out RT4.out MV.out MT.out) ?_
          rintro e v5 ⟨aw, cw, rfl, hn5, hb5⟩
          have XT5 := kide (XT4.out.later hb5)
          have RD5 := kide (RD4.out.later hb5)
          have XN5 := kide (XN4.out.later hb5)
          have RV5 := kide (RV4.out.later hb5)
          have RT5 := kide (RT4.out.later hb5)
          have BS5 := kide (BS4.out.trans (hb5.mono BS4.out.size))
          have BV5 := kide (BV4.out.trans (hb5.mono BV4.out.size))
          have NW5 := kide (hn5.mono (lo' := w.heap.size) BV4.out.size)
          clear hn5 hb5
          have hs5 : Hid ((fun z => z.cell? ⟨w.heap.size, 0, none⟩ = some (Value.slice b n c2)) v5) := XT5.out.cell 0
          refine hK _ _ (Sx.behind (by kernel_rfl) hs5.out) ?_
          clear hK K
          try go_simp
          refine wpAnyX_both (T := fun z => z.cell? ⟨w.heap.size, 0, none⟩ = some (Value.slice b n c2)) (i := 7) (v := Value.tuple #[Value.agg #[Value.int .i64 X.1.1, Value.slice aw X.1.2.length cw], Value.bool X.2]) rfl (by kernel_rfl) (by kernel_rfl) (by kernel_rfl) (fun _ _ _ h => by first | exact h | exact h.elim | cases h.1) (by decide) (fun _ h => h.elim) (fun _ h => h) (Sx.behind (by kernel_rfl) hs5.out) (Or.inl ⟨by rfl, fun z hz => by go_simp⟩) ?_
          try go_simp
          refine wpAnyX_both (T := fun z => z.cell? ⟨w.heap.size, 0, none⟩ = some (Value.slice b n c2)) (i := 8) (v := Value.agg #[Value.int .i64 X.1.1, Value.slice aw X.1.2.length cw]) rfl (by kernel_rfl) (by kernel_rfl) (by kernel_rfl) (fun _ _ _ h => by first | exact h | exact h.elim | cases h.1) (by decide) (fun _ h => h.elim) (fun _ h => h) (Sx.behind (by kernel_rfl) hs5.out) (Or.inl ⟨by rfl, fun z hz => by go_simp⟩) ?_
          try go_simp
          refine wpAnyX_both (T := fun z => z.cell? ⟨w.heap.size, 0, none⟩ = some (Value.slice b n c2)) (i := 9) (v := Value.bool X.2) rfl (by kernel_rfl) (by kernel_rfl) (by kernel_rfl) (fun _ _ _ h => by first | exact h | exact h.elim | cases h.1) (by decide) (fun _ h => h.elim) (fun _ h => h) (Sx.behind (by kernel_rfl) hs5.out) (Or.inl ⟨by rfl, fun z hz => by go_simp⟩) ?_
          try go_simp
          refine wpAnyX_ready (rs := [11]) (by kernel_rfl) (by simp) (AllX.cons rfl (fun K hK => ?_) AllX.nil)
          have e8 := XN5.out.cell 0
          have e9 := XN5.out.cell 1
          have f8 := XN5.out.froz 0
          have f9 := XN5.out.froz 1
          simp at e8 e9
          go_simp
          have XN6 : Hid (Bz ((v5.setCell ⟨bN, 0, none⟩ (Value.int .i64 X.1.1)).setCell ⟨bN, 1, none⟩ (Value.slice aw X.1.2.length cw)) bN #[Value.int .i64 X.1.1, Value.slice aw X.1.2.length cw] 61) := (XN5.out.set 0 _).set 1 _
          have XT6 : Hid (Bz ((v5.setCell ⟨bN, 0, none⟩ (Value.int .i64 X.1.1)).setCell ⟨bN, 1, none⟩ (Value.slice aw X.1.2.length cw)) (w.heap.size) #[Value.slice b n c2] 57) := (XT5.out.other (by have := hN.out; omega) 0 _).other (by have := hN.out; omega) 1 _
          have BS6 : Hid (Below w23.heap.size w23 ((v5.setCell ⟨bN, 0, none⟩ (Value.int .i64 X.1.1)).setCell ⟨bN, 1, none⟩ (Value.slice aw X.1.2.length cw))) := (BS5.out.setCell (show w23.heap.size ≤ bN from hN.out) _).setCell (show w23.heap.size ≤ bN from hN.out) _
          have BV6 : Hid (Below w.heap.size w ((v5.setCell ⟨bN, 0, none⟩ (Value.int .i64 X.1.1)).setCell ⟨bN, 1, none⟩ (Value.slice aw X.1.2.length cw))) := (BV5.out.setCell (show w.heap.size ≤ bN by have := hN.out; omega) _).setCell (show w.heap.size ≤ bN by have := hN.out; omega) _
          have NW6 : Hid (Nw ((v5.setCell ⟨bN, 0, none⟩ (Value.int .i64 X.1.1)).setCell ⟨bN, 1, none⟩ (Value.slice aw X.1.2.length cw)) w.heap.size aw X.1.2) := ((NW5.out.set XN5.out (by decide) 0 _).set (XN5.out.set 0 _) (by decide) 1 _)
          generalize (v5.setCell ⟨bN, 0, none⟩ (Value.int .i64 X.1.1)).setCell ⟨bN, 1, none⟩ (Value.slice aw X.1.2.length cw) = v6 at *
          clear e8 e9 f8 f9
          have hs6 : Hid ((fun z => z.cell? ⟨w.heap.size, 0, none⟩ = some (Value.slice b n c2)) v6) := XT6.out.cell 0
          refine hK _ _ (Sx.behind (by kernel_rfl) hs6.out) ?_
          clear hK K
          try go_simp
          refine wpAnyX_both (T := fun z => z.cell? ⟨w.heap.size, 0, none⟩ = some (Value.slice b n c2)) (i := 12) (v := Value.bool X.2) rfl (by kernel_rfl) (by kernel_rfl) (by kernel_rfl) (fun _ _ _ h => by first | exact h | exact h.elim | cases h.1) (by decide) (fun _ h => h.elim) (fun _ h => h) (Sx.behind (by kernel_rfl) hs6.out) (Or.inl ⟨by rfl, fun z hz => by go_simp⟩) ?_
          try go_simp
          refine wpAnyX_done (by kernel_rfl) ?_ _
          try go_simp
          exact key v6 bN aw cw gd gv gt ⟨BS6.out, XN6.out, NW6.out, hN.out⟩
      · go_simp
        have hbx : Below v0.heap.size v0 (v0.alloc (Obj.cells #[Value.int .i64 0, Value.slice none 0 0] 61)) := (Below.refl _ _).alloc (Nat.le_refl _) _
        have XT1 := kide (XT0.out.later hbx)
        have BS1 := kide (BS0.out.trans (hbx.mono BS0.out.size))
        have BV1 := kide (BV0.out.trans (hbx.mono BV0.out.size))
        have XN1 := kide (Bz.new v0 #[Value.int .i64 0, Value.slice none 0 0] 61)
        have hN : Hid (w23.heap.size ≤ v0.heap.size) := BS0.out.size
        obtain ⟨bN, hbN⟩ : ∃ x, v0.heap.size = x := ⟨_, rfl⟩
        rw [hbN] at XN1 hN ⊢
        clear hbN hbx
        generalize v0.alloc (Obj.cells #[Value.int .i64 0, Value.slice none 0 0] 61) = v1 at *
        have hs1 : Hid ((fun z => z.cell? ⟨w.heap.size, 0, none⟩ = some (Value.slice b n c2)) v1) := XT1.out.cell 0
        refine hK _ _ (Sx.behind (by kernel_rfl) hs1.out) ?_
        clear hK K
        try go_simp
        refine wpAnyX_ready (rs := [1]) (by kernel_rfl) (by simp) (AllX.cons rfl (fun K hK => ?_) AllX.nil)
        go_simp
        refine Calls.mono (toDeclS_any a c ds v1 (HR.out.later BV1.out)) ?_
        rintro e v2 ⟨rfl, rd, hb2⟩
        have XT2 := kide (XT1.out.later hb2)
        have XN2 := kide (XN1.out.later hb2)
        have BS2 := kide (BS1.out.trans (hb2.mono BS1.out.size))
        have BV2 := kide (BV1.out.trans (hb2.mono BV1.out.size))
        obtain ⟨gd, hgd⟩ : ∃ x, v1.heap.size = x := ⟨_, rfl⟩
        rw [hgd] at rd ⊢
        have RD2 := kide rd
        clear rd hgd hb2
        have hs2 : Hid ((fun z => z.cell? ⟨w.heap.size, 0, none⟩ = some (Value.slice b n c2)) v2) := XT2.out.cell 0
        refine hK _ _ (Sx.behind (by kernel_rfl) hs2.out) ?_
        clear hK K
        try go_simp
        refine wpAnyX_ready (rs := [3]) (by kernel_rfl) (by simp) (AllX.cons rfl (fun K hK => ?_) AllX.nil)
        go_simp
        refine Calls.mono (HTV.out v2 BV2.out) ?_
        rintro e v3 ⟨mv, rfl, hmv, rv, hb3⟩
        have XT3 := kide (XT2.out.later hb3)
        have XN3 := kide (XN2.out.later hb3)
        have RD3 := kide (RD2.out.later hb3)
        have BS3 := kide (BS2.out.trans (hb3.mono BS2.out.size))
        have BV3 := kide (BV2.out.trans (hb3.mono BV2.out.size))
        obtain ⟨gv, hgv⟩ : ∃ x, v2.heap.size = x := ⟨_, rfl⟩
        rw [hgv] at rv ⊢
        have RV3 := kide rv
        have MV := kide hmv
        clear rv hgv hmv hb3
        have hs3 : Hid ((fun z => z.cell? ⟨w.heap.size, 0, none⟩ = some (Value.slice b n c2)) v3) := XT3.out.cell 0
        refine hK _ _ (Sx.behind (by kernel_rfl) hs3.out) ?_
        clear hK K
        try go_simp
        refine wpAnyX_ready (rs := [5]) (by kernel_rfl) (by simp) (AllX.cons rfl (fun K hK => ?_) AllX.nil)
        go_simp
        refine Calls.mono (HTT.out v3 BV3.out) ?_
        rintro e v4 ⟨gt, mt, rfl, hmt, rt, hb4⟩
        have XT4 := kide (XT3.out.later hb4)
        have XN4 := kide (XN3.out.later hb4)
        have RD4 := kide (RD3.out.later hb4)
        have RV4 := kide (RV3.out.later hb4)
        have BS4 := kide (BS3.out.trans (hb4.mono BS3.out.size))
        have BV4 := kide (BV3.out.trans (hb4.mono BV3.out.size))
        have RT4 := kide rt
        have MT := kide hmt
        clear rt hmt hb4
        have hs4 : Hid ((fun z => z.cell? ⟨w.heap.size, 0, none⟩ = some (Value.slice b n c2)) v4) := XT4.out.cell 0
        refine hK _ _ (Sx.behind (by kernel_rfl) hs4.out) ?_
        clear hK K
        try go_simp
        refine wpAnyX_ready (rs := [6]) (by kernel_rfl) (by simp) (AllX.cons rfl (fun K hK => ?_) AllX.nil)
        go_simp
        refine Calls.mono (HIE.out v4 gd gv gt mv mt BV4.out RD4.out RV4.out RT4.out MV.out MT.out) ?_
        rintro e v5 ⟨aw, cw, rfl, hn5, hb5⟩
        have XT5 := kide (XT4.out.later hb5)
        have XN5 := kide (XN4.out.later hb5)
        have RD5 := kide (RD4.out.later hb5)
        have RV5 := kide (RV4.out.later hb5)
        have RT5 := kide (RT4.out.later hb5)
        have BS5 := kide (BS4.out.trans (hb5.mono BS4.out.size))
        have BV5 := kide (BV4.out.trans (hb5.mono BV4.out.size))
        have NW5 := kide (hn5.mono (lo' := w.heap.size) BV4.out.size)
        clear hn5 hb5
        have hs5 : Hid ((fun z => z.cell? ⟨w.heap.size, 0, none⟩ = some (Value.slice b n c2)) v5) := XT5.out.cell 0
        refine hK _ _ (Sx.behind (by kernel_rfl) hs5.out) ?_
        clear hK K
        try go_simp
        refine wpAnyX_both (T := fun z => z.cell? ⟨w.heap.size, 0, none⟩ = some (Value.slice b n c2)) (i := 7) (v := Value.tuple #[Value.agg #[Value.int .i64 X.1.1, Value.slice aw X.1.2.length cw], Value.bool X.2]) rfl (by kernel_rfl) (by kernel_rfl) (by kernel_rfl) (fun _ _ _ h => by first | exact h | exact h.elim | cases h.1) (by decide) (fun _ h => h.elim) (fun _ h => h) (Sx.behind (by kernel_rfl) hs5.out) (Or.inl ⟨by rfl, fun z hz => by go_simp⟩) ?_
        try go_simp
        refine wpAnyX_both (T := fun z => z.cell? ⟨w.heap.size, 0, none⟩ = some (Value.slice b n c2)) (i := 8) (v := Value.agg #[Value.int .i64 X.1.1, Value.slice aw X.1.2.length cw]) rfl (by kernel_rfl) (by kernel_rfl) (by kernel_rfl) (fun _ _ _ h => by first | exact h | exact h.elim | cases h.1) (by decide) (fun _ h => h.elim) (fun _ h => h) (Sx.behind (by kernel_rfl) hs5.out) (Or.inl ⟨by rfl, fun z hz => by go_simp⟩) ?_
        try go_simp
        refine wpAnyX_both (T := fun z => z.cell? ⟨w.heap.size, 0, none⟩ = some (Value.slice b n c2)) (i := 9) (v := Value.bool X.2) rfl (by kernel_rfl) (by kernel_rfl) (by kernel_rfl) (fun _ _ _ h => by first | exact h | exact h.elim | cases h.1) (by decide) (fun _ h => h.elim) (fun _ h => h) (Sx.behind (by kernel_rfl) hs5.out) (Or.inl ⟨by rfl, fun z hz => by go_simp⟩) ?_
        try go_simp
        refine wpAnyX_ready (rs := [11]) (by kernel_rfl) (by simp) (AllX.cons rfl (fun K hK => ?_) AllX.nil)
        have e8 := XN5.out.cell 0
        have e9 := XN5.out.cell 1
        have f8 := XN5.out.froz 0
        have f9 := XN5.out.froz 1
        simp at e8 e9
        go_simp
        have XN6 : Hid (Bz ((v5.setCell ⟨bN, 0, none⟩ (Value.int .i64 X.1.1)).setCell ⟨bN, 1, none⟩ (Value.slice aw X.1.2.length cw)) bN #[Value.int .i64 X.1.1, Value.slice aw X.1.2.length cw] 61) := (XN5.out.set 0 _).set 1 _
        have XT6 : Hid (Bz ((v5.setCell ⟨bN, 0, none⟩ (Value.int .i64 X.1.1)).setCell ⟨bN, 1, none⟩ (Value.slice aw X.1.2.length cw)) (w.heap.size) #[Value.slice b n c2] 57) := (XT5.out.other (by have := hN.out; omega) 0 _).other (by have := hN.out; omega) 1 _
        have BS6 : Hid (Below w23.heap.size w23 ((v5.setCell ⟨bN, 0, none⟩ (Value.int .i64 X.1.1)).setCell ⟨bN, 1, none⟩ (Value.slice aw X.1.2.length cw))) := (BS5.out.setCell (show w23.heap.size ≤ bN from hN.out) _).setCell (show w23.heap.size ≤ bN from hN.out) _
        have BV6 : Hid (Below w.heap.size w ((v5.setCell ⟨bN, 0, none⟩ (Value.int .i64 X.1.1)).setCell ⟨bN, 1, none⟩ (Value.slice aw X.1.2.length cw))) := (BV5.out.setCell (show w.heap.size ≤ bN by have := hN.out; omega) _).setCell (show w.heap.size ≤ bN by have := hN.out; omega) _
        have NW6 : Hid (Nw ((v5.setCell ⟨bN, 0, none⟩ (Value.int .i64 X.1.1)).setCell ⟨bN, 1, none⟩ (Value.slice aw X.1.2.length cw)) w.heap.size aw X.1.2) := ((NW5.out.set XN5.out (by decide) 0 _).set (XN5.out.set 0 _) (by decide) 1 _)
        generalize (v5.setCell ⟨bN, 0, none⟩ (Value.int .i64 X.1.1)).setCell ⟨bN, 1, none⟩ (Value.slice aw X.1.2.length cw) = v6 at *
        clear e8 e9 f8 f9
        have hs6 : Hid ((fun z => z.cell? ⟨w.heap.size, 0, none⟩ = some (Value.slice b n c2)) v6) := XT6.out.cell 0
        refine hK _ _ (Sx.behind (by kernel_rfl) hs6.out) ?_
        clear hK K
        try go_simp
        refine wpAnyX_both (T := fun z => z.cell? ⟨w.heap.size, 0, none⟩ = some (Value.slice b n c2)) (i := 12) (v := Value.bool X.2) rfl (by kernel_rfl) (by kernel_rfl) (by kernel_rfl) (fun _ _ _ h => by first | exact h | exact h.elim | cases h.1) (by decide) (fun _ h => h.elim) (fun _ h => h) (Sx.behind (by kernel_rfl) hs6.out) (Or.inl ⟨by rfl, fun z hz => by go_simp⟩) ?_
        try go_simp
        refine wpAnyX_done (by kernel_rfl) ?_ _
        try go_simp
        exact key v6 bN aw cw gd gv gt ⟨BS6.out, XN6.out, NW6.out, hN.out⟩
    · intro w24 bh ah ch gd1 gv1 gt1 hF
      obtain ⟨hb24, xh, nh, hlh⟩ := hF
      have V24 := kide (V23.out.later hb24)
      have NH := kide nh
      have h0 : w24.cell? ⟨bh, 0, none⟩ = some (.int .i64 X.1.1) := xh.cell 0
      have h1 : w24.cell? ⟨bh, 1, none⟩ = some (.slice ah X.1.2.length ch) := xh.cell 1
      have p0 : w24.cell? ⟨A5, 0, none⟩ = some (.int .i64 X.1.1) := V24.out.g0.cell 0
      have p1 : w24.cell? ⟨A5, 1, none⟩ = some (.slice ag X.1.2.length cg) := V24.out.g0.cell 1
      have q0 : w24.cell? ⟨bw, 0, none⟩ = some (.int .i64 X.1.1) := V24.out.w0.cell 0
      have q1 : w24.cell? ⟨bw, 1, none⟩ = some (.slice aw X.1.2.length cw) := V24.out.w0.cell 1
      have hbb : (X.2 != X.2) = false := by simp
      clear hb24 xh nh V23 XTS BVS c23
      go_wp2_with fail
      refine Calls.mono (eqBits_same X.1.1 ah aw ch cw X.1.2 w24 (NH.out.rd hXl hXx.out) (V24.out.nw.rd hXl hXx.out)) ?_
      rintro e w25 ⟨rfl, hb25⟩
      have V25 := kide (V24.out.later hb25)
      clear hb25 V24 NH h0 h1 p0 p1 q0 q1
      have p0 : w25.cell? ⟨A5, 0, none⟩ = some (.int .i64 X.1.1) := V25.out.g0.cell 0
      have p1 : w25.cell? ⟨A5, 1, none⟩ = some (.slice ag X.1.2.length cg) := V25.out.g0.cell 1
      have q0 : w25.cell? ⟨bw, 0, none⟩ = some (.int .i64 X.1.1) := V25.out.w0.cell 0
      have q1 : w25.cell? ⟨bw, 1, none⟩ = some (.slice aw X.1.2.length cw) := V25.out.w0.cell 1
      go_wp2_with fail
      refine Calls.mono (HHL.out w25 (HRM.out w25 V25.out.ng)) ?_
      rintro e w26 ⟨rfl, hb26⟩
      have V26 := kide (V25.out.later hb26)
      clear hb26 V25 p0 p1 q0 q1
      go_wp2_with fail
      go_ret
      exact ⟨rfl, V26.out.bel⟩

theorem law_no_FnExactEval (a va b : Option Addr) (n0 c vn vc n c2 : Nat) (w : World) (Z Z2 Z3 : Int) (h : Z < 0 ∨ 0 ≤ Z ∧ Z2 < 0 ∨ 0 ≤ Z ∧ 0 ≤ Z2 ∧ Z3 < 0)
    (HSZ : Hid (∀ u, Below w.heap.size w u → Calls Tryz.prog 9 #[.slice a n0 c, .int .i64 1048576] u fun e w' => e = .returned (.int .i64 Z) ∧ Below u.heap.size u w'))
    (HSV : Hid (0 ≤ Z → ∀ u, Below w.heap.size w u → Calls Tryz.prog 28 #[.slice va vn vc, .int .i64 Z] u fun e w' => e = .returned (.int .i64 Z2) ∧ Below u.heap.size u w'))
    (HST : Hid (0 ≤ Z → 0 ≤ Z2 → ∀ u, Below w.heap.size w u → Calls Tryz.prog 34 #[.agg #[.slice b n c2], .int .i64 Z2] u fun e w' => e = .returned (.int .i64 Z3) ∧ Below u.heap.size u w')) :
    Calls Tryz.prog 6 #[.slice a n0 c, .slice va vn vc, .agg #[.slice b n c2]] w fun e w' => e = .returned (.bool true) ∧ Below w.heap.size w w' := by
  have s0 := Bq.start w (.slice b n c2) 57
  rcases h with h | ⟨h, h2⟩ | ⟨h, h2, h3⟩
  · go_enter Tryz.func6, Tryz.ntmps6
    go_wp2_with fail
    refine Calls.mono (HSZ.out _ s0.below) ?_
    rintro e w1 ⟨rfl, hb1⟩
    have s1 := s0.next hb1
    go_wp2_with fail
    go_ret
    exact ⟨rfl, s1.below⟩
  · go_enter Tryz.func6, Tryz.ntmps6
    go_wp2_with fail
    refine Calls.mono (HSZ.out _ s0.below) ?_
    rintro e w1 ⟨rfl, hb1⟩
    have s1 := s0.next hb1
    go_wp2_with fail
    refine Calls.mono (HSV.out h w1 s1.below) ?_
    rintro e w2 ⟨rfl, hb2⟩
    have s2 := s1.next hb2
    have c2' := s2.cell
    go_wp2_with fail
    go_ret
    exact ⟨rfl, s2.below⟩
  · go_enter Tryz.func6, Tryz.ntmps6
    go_wp2_with fail
    refine Calls.mono (HSZ.out _ s0.below) ?_
    rintro e w1 ⟨rfl, hb1⟩
    have s1 := s0.next hb1
    go_wp2_with fail
    refine Calls.mono (HSV.out h w1 s1.below) ?_
    rintro e w2 ⟨rfl, hb2⟩
    have s2 := s1.next hb2
    have c2' := s2.cell
    go_wp2_with fail
    refine Calls.mono (HST.out h h2 w2 s2.below) ?_
    rintro e w3 ⟨rfl, hb3⟩
    have s3 := s2.next hb3
    go_wp2_with fail
    go_ret
    exact ⟨rfl, s3.below⟩

theorem walk_FnExactEval (a : Option Addr) (n0 c : Nat) (hn0 : n0 ≤ 9223372036854775807) (va : Option Addr) (vn vc : Nat) (hvn : vn ≤ 9223372036854775807) (b : Option Addr) (n c2 : Nat) (hn : n ≤ 9223372036854775807) (w : World) (hG : GF w)
    (hx : n0 ≤ 1048576 → ∃ ds : List Dc, ds.length = n0 ∧ RdD w a ds) (hv : vn ≤ 1048576 → ∃ hs : List Bh, hs.length = vn ∧ RdBh w va hs ∧ ∀ h ∈ hs, WordsOf w h) (hy : n ≤ 1048576 → ∃ hs : List Th, hs.length = n ∧ RdTh w b hs ∧ ∀ h ∈ hs, NodeOf w h) :
    Calls Tryz.prog 6 #[.slice a n0 c, .slice va vn vc, .agg #[.slice b n c2]] w fun e w' => e = .returned (.bool true) ∧ Below w.heap.size w w' := by
  obtain ⟨Z, Z2, h1, h2, h3⟩ := sizes_dv a va n0 c vn vc w hn0 hvn hx hv
  by_cases hz : Z < 0
  · exact law_no_FnExactEval a va b n0 c vn vc n c2 w Z Z2 0 (.inl hz) h1 h2 (fun h => by omega)
  by_cases hz2 : Z2 < 0
  · exact law_no_FnExactEval a va b n0 c vn vc n c2 w Z Z2 0 (.inr (.inl ⟨by omega, hz2⟩)) h1 h2 (fun _ h => by omega)
  obtain ⟨hZ2, ds, vs, rfl, hvl, hr, hvr, hsum⟩ := h3 (by omega) (by omega)
  obtain ⟨Z3, h4, h5⟩ := sizes_tm b n c2 Z2 w (by omega) hZ2 hn hy
  by_cases hz3 : Z3 < 0
  · exact law_no_FnExactEval a va b _ c vn vc n c2 w Z Z2 Z3 (.inr (.inr ⟨by omega, by omega, hz3⟩)) h1 h2 (fun _ _ => h4)
  obtain ⟨xs, hxl, hs⟩ := h5 (by omega)
  exact law_yes_FnExactEval a va b c vc c2 vn n ds vs xs w hr hvr hs hvl hxl hsum hG Z Z2 Z3 (by omega) (by omega) (by omega) h1 (h2 (by omega)) h4

end Go.Proofs.YtpkdoanccjchdaaGreatDoor
