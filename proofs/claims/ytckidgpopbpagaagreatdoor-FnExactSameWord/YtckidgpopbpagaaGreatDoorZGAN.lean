/- Several texts in one. -/
import Derived.Test.YtckidgpopbpagaaGreatDoorFLJ
import Derived.Test.YtckidgpopbpagaaGreatDoorZGAB
import Derived.Test.YtckidgpopbpagaaGreatDoorZGAC
import Derived.Handy
import Derived.Test.YtckidgpopbpagaaGreatDoorZGAL
import Derived.Test.YtckidgpopbpagaaGreatDoorZGAE
import Derived.Test.YtckidgpopbpagaaGreatDoorFPF

/- The segments of a node, as an iterator. -/
namespace Go.Proofs.YtckidgpopbpagaaGreatDoor
set_option linter.unusedVariables false
set_option linter.unusedSimpArgs false
open Go.RowKit Go.Shelf

/-- A node that is at hand. -/
structure NdA (w : World) (x : Tg) : Prop where
  rd : Rd w x.wa x.ct.ws
  rk : RdI w x.ka x.ct.ks
  no : x.wa = none → x.wc = 0
  pw : ∀ q, x.wa = some q → q.block < w.heap.size
  pk : ∀ q, x.ka = some q → q.block < w.heap.size
  v64 : in64 x.ct.vr
theorem NdA.later {w w' : World} {x : Tg} (h : NdA w x) (hb : Below w.heap.size w w') : NdA w' x := ⟨h.rd.later hb, h.rk.later hb, h.no, fun q hq => Nat.lt_of_lt_of_le (h.pw q hq) hb.size, fun q hq => Nat.lt_of_lt_of_le (h.pk q hq) hb.size, h.v64⟩

set_option maxHeartbeats 4000000 in
set_option maxRecDepth 100000 in
theorem segsOf_it (da : Option Addr) (dc nd : Nat) (ds : List Dc) (x : Tg) (aa : Option Addr) (na ac : Nat) (all : List (List Ib)) (w : World) (hd : RdD w da ds) (hnd : ds.length = nd) (hx : NdA w x) (hA : Ah w aa (all.map formB)) (hna : all.length ≤ na) (hna2 : na ≤ 1048576) (hN : FNode ds all x.ct) :
    Calls Tryz.prog 45 #[.slice da nd dc, .agg #[.int .i64 x.ct.op, .int .i64 x.ct.vr, .int .i64 x.ct.a, .int .i64 x.ct.b, .int .i64 x.ct.bw, .slice x.wa x.ct.ws.length x.wc, .slice x.ka x.ct.ks.length x.kc], .slice aa na ac] w (RetIt (sgL ds all x.ct) w) := by
  obtain ⟨L, hL⟩ : ∃ L, sgL ds all x.ct = L := ⟨_, rfl⟩
  rw [hL]
  have HX := kide hx
  have HD := kide hd
  have HA := kide hA
  have HN := kide hN
  have HND := kide hnd
  have hop := hN.op
  clear hd hx hA hN
  obtain ⟨⟨op, vr, A, Bb, bw, ws, ks⟩, wa, wc, ka, kc⟩ := x
  simp only [] at hop hL ⊢
  obtain ⟨nw, hnw⟩ : ∃ n, ws.length = n := ⟨_, rfl⟩
  obtain ⟨nk, hnk⟩ : ∃ n, ks.length = n := ⟨_, rfl⟩
  rw [hnw, hnk]
  have HNW := kide hnw
  have HNK := kide hnk
  clear hnw hnk
  rcases (show op = 1 ∨ op = 2 ∨ op = 3 ∨ 4 ≤ op by omega) with e | e | e | e
  · subst e
    obtain ⟨⟨v1, v2⟩, v3, v4⟩ := HN.out.var rfl
    simp only [] at v1 v2 v3 v4
    obtain ⟨V, rfl⟩ : ∃ V : Nat, vr = (V : Int) := ⟨vr.toNat, by omega⟩
    have hVn : V < nd := by rw [← HND.out]; omega
    rw [Int.toNat_natCast] at v3 v4
    have hLs : L = List.replicate 1 ⟨(V : Int), 0, (ds.getD V (.empty, 0)).2, 0, []⟩ := by rw [← hL]; unfold sgL; simp
    clear hL
    obtain ⟨db, dq, rfl, hdc⟩ : ∃ b o, da = some ⟨b, o, none⟩ ∧ DcAt w b (o + V * 2) (ds.getD V (.empty, 0)) := by
      rcases HD.out.2.2 with h9 | ⟨b, o, e, hc⟩
      · have := HND.out; rw [h9] at this; simp at this; omega
      · refine ⟨b, o, e, hc V _ ?_⟩
        have hl : V < ds.length := by rw [HND.out]; exact hVn
        simp [List.getD, hl]
    obtain ⟨d0, d1⟩ := hdc
    generalize (ds.getD V (.empty, 0)).2 = E at *
    have HAG := kide (fun u (hu : Below w.heap.size w u) => again_it (m := 1) (x := ⟨⟨(V : Int), 0, E, 0, []⟩, none, 0⟩) (w := u) (by omega) ⟨⟨v3, v4, by simp, .inr ⟨by simp only []; omega, rfl, rfl⟩⟩, by simp only []; omega, ⟨by simp, by simp, .inl rfl⟩, fun _ => rfl, fun q hq => by cases hq⟩)
    unfold sgV at HAG
    simp only [List.length_nil] at HAG
    rw [hLs]
    have q1 : (V : Int) < (nd : Int) := by omega
    have q2 : (V : Int) ≥ 0 := by omega
    clear hLs d0
    have BY : Hid (Below w.heap.size w (w.alloc (Obj.cells #[Value.int .i64 1, Value.int .i64 (V : Int), Value.int .i64 A, Value.int .i64 Bb, Value.int .i64 bw, Value.slice wa nw wc, Value.slice ka nk kc] 62))) := (Below.refl _ _).alloc (Nat.le_refl _) _
    have XY : Hid (Bz (w.alloc (Obj.cells #[Value.int .i64 1, Value.int .i64 (V : Int), Value.int .i64 A, Value.int .i64 Bb, Value.int .i64 bw, Value.slice wa nw wc, Value.slice ka nk kc] 62)) w.heap.size #[Value.int .i64 1, Value.int .i64 (V : Int), Value.int .i64 A, Value.int .i64 Bb, Value.int .i64 bw, Value.slice wa nw wc, Value.slice ka nk kc] 62) := Bz.new w _ _
    go_enter Tryz.func45, Tryz.ntmps45
    go_wp2_with fail
    generalize w.alloc (Obj.cells #[Value.int .i64 1, Value.int .i64 (V : Int), Value.int .i64 A, Value.int .i64 Bb, Value.int .i64 bw, Value.slice wa nw wc, Value.slice ka nk kc] 62) = Y at *
    obtain ⟨b0, hb0⟩ : ∃ b0, w.heap.size = b0 := ⟨_, rfl⟩
    have HB0 := kide hb0
    rw [hb0] at XY
    simp only [hb0]
    have lb0 := XY.out.lt
    have c1 := XY.out.cell 1
    simp at c1
    have ldb : db < Y.heap.size := Nat.lt_of_lt_of_le (block_lt_of_cell d1) BY.out.size
    have c9 := (BY.out.cell (p := ⟨db, dq + V * 2 + 1, none⟩) (block_lt_of_cell d1)).trans d1
    clear d1 hb0
    refine wp_region_x (SA := fun _ => False) (SB := fun uu => Below Y.heap.size Y uu) (k := 999) (by kernel_rfl) ?_
    have hu0 : Hid (Below Y.heap.size Y Y.drew) := (Below.refl _ _).drew
    generalize Y.drew = u0 at *
    try go_simp
    refine wpAnyX_both (T := fun uu => Below Y.heap.size Y uu) (i := 0) (v := Value.pointer (some ⟨b0, 1, none⟩)) rfl (by kernel_rfl) (by kernel_rfl) (by kernel_rfl) (fun _ _ _ h => by first | exact h | exact h.elim) (by decide) (fun _ h => h.elim) (fun _ h => h) (Sx.behind (by kernel_rfl) hu0.out) (Or.inl ⟨by rfl, fun uu hu => by go_simp⟩) ?_
    try go_simp
    refine wpAnyX_both (T := fun uu => Below Y.heap.size Y uu) (i := 1) (v := Value.int .i64 (V : Int)) rfl (by kernel_rfl) (by kernel_rfl) (by kernel_rfl) (fun _ _ _ h => by first | exact h | exact h.elim) (by decide) (fun _ h => h.elim) (fun _ h => h) (Sx.behind (by kernel_rfl) hu0.out) (Or.inl ⟨by rfl, fun uu hu => by have e0 := (kcell hu b0 1 lb0).trans c1; go_simp⟩) ?_
    try go_simp
    refine wpAnyX_both (T := fun uu => Below Y.heap.size Y uu) (i := 2) (v := Value.slice (some ⟨db, dq, none⟩) nd dc) rfl (by kernel_rfl) (by kernel_rfl) (by kernel_rfl) (fun _ _ _ h => by first | exact h | exact h.elim) (by decide) (fun _ h => h.elim) (fun _ h => h) (Sx.behind (by kernel_rfl) hu0.out) (Or.inl ⟨by rfl, fun uu hu => by go_simp⟩) ?_
    try go_simp
    refine wpAnyX_both (T := fun uu => Below Y.heap.size Y uu) (i := 3) (v := Value.pointer (some ⟨b0, 1, none⟩)) rfl (by kernel_rfl) (by kernel_rfl) (by kernel_rfl) (fun _ _ _ h => by first | exact h | exact h.elim) (by decide) (fun _ h => h.elim) (fun _ h => h) (Sx.behind (by kernel_rfl) hu0.out) (Or.inl ⟨by rfl, fun uu hu => by go_simp⟩) ?_
    try go_simp
    refine wpAnyX_both (T := fun uu => Below Y.heap.size Y uu) (i := 4) (v := Value.int .i64 (V : Int)) rfl (by kernel_rfl) (by kernel_rfl) (by kernel_rfl) (fun _ _ _ h => by first | exact h | exact h.elim) (by decide) (fun _ h => h.elim) (fun _ h => h) (Sx.behind (by kernel_rfl) hu0.out) (Or.inl ⟨by rfl, fun uu hu => by have e0 := (kcell hu b0 1 lb0).trans c1; go_simp⟩) ?_
    try go_simp
    refine wpAnyX_both (T := fun uu => Below Y.heap.size Y uu) (i := 5) (v := Value.pointer (some ⟨db, dq + V * 2, none⟩)) rfl (by kernel_rfl) (by kernel_rfl) (by kernel_rfl) (fun _ _ _ h => by first | exact h | exact h.elim) (by decide) (fun _ h => h.elim) (fun _ h => h) (Sx.behind (by kernel_rfl) hu0.out) (Or.inl ⟨by rfl, fun uu hu => by go_simp⟩) ?_
    try go_simp
    refine wpAnyX_both (T := fun uu => Below Y.heap.size Y uu) (i := 6) (v := Value.pointer (some ⟨db, dq + V * 2 + 1, none⟩)) rfl (by kernel_rfl) (by kernel_rfl) (by kernel_rfl) (fun _ _ _ h => by first | exact h | exact h.elim) (by decide) (fun _ h => h.elim) (fun _ h => h) (Sx.behind (by kernel_rfl) hu0.out) (Or.inl ⟨by rfl, fun uu hu => by go_simp⟩) ?_
    try go_simp
    refine wpAnyX_both (T := fun uu => Below Y.heap.size Y uu) (i := 7) (v := Value.int .i64 E) rfl (by kernel_rfl) (by kernel_rfl) (by kernel_rfl) (fun _ _ _ h => by first | exact h | exact h.elim) (by decide) (fun _ h => h.elim) (fun _ h => h) (Sx.behind (by kernel_rfl) hu0.out) (Or.inl ⟨by rfl, fun uu hu => by have e0 := (kcell hu db (dq + V * 2 + 1) ldb).trans c9; go_simp⟩) ?_
    try go_simp
    refine wpAnyX_both (T := fun uu => Below Y.heap.size Y uu) (i := 8) (v := Value.agg #[Value.int .i64 (V : Int), Value.int .i64 0, Value.int .i64 E, Value.int .i64 0, Value.slice none 0 0]) rfl (by kernel_rfl) (by kernel_rfl) (by kernel_rfl) (fun _ _ _ h => by first | exact h | exact h.elim) (by decide) (fun _ h => h.elim) (fun _ h => h) (Sx.behind (by kernel_rfl) hu0.out) (Or.inl ⟨by rfl, fun uu hu => by go_simp⟩) ?_
    try go_simp
    refine wpAnyX_ready (rs := [9]) (by kernel_rfl) (by simp) (AllX.cons rfl (fun K hK => ?_) AllX.nil)
    go_simp
    refine Calls.mono (HAG.out u0 (BY.out.trans (hu0.out.mono BY.out.size))) ?_
    rintro e u1 ⟨v4, rfl, hi4, hb4⟩
    have hu1 : Hid (Below Y.heap.size Y u1) := hu0.out.trans (hb4.mono hu0.out.size)
    have I4 := kide hi4
    clear hi4
    refine hK _ _ (Sx.behind (by kernel_rfl) hu1.out) ?_
    clear hK K hb4
    try go_simp
    refine wpAnyX_both (T := fun uu => Below Y.heap.size Y uu) (i := 10) (v := v4) rfl (by kernel_rfl) (by kernel_rfl) (by kernel_rfl) (fun _ _ _ h => by first | exact h | exact h.elim) (by decide) (fun _ h => h.elim) (fun _ h => h) (Sx.behind (by kernel_rfl) hu1.out) (Or.inl ⟨by rfl, fun uu hu => by go_simp⟩) ?_
    try go_simp
    refine wpAnyX_done (by kernel_rfl) ?_ _
    have B4 := kide (BY.out.trans (hu1.out.mono BY.out.size))
    go_wp2_with fail
    exact bodyPost_ret (v := v4) (by simp [results, Tryz.results45, go_sem]) rfl ⟨v4, rfl, I4.out, B4.out⟩
  · subst e
    have hc := HN.out.cst rfl
    simp only [] at hc
    have hLs : L = List.replicate 1 ⟨-1, 0, bw, bw, ws⟩ := by rw [← hL]; unfold sgL; simp
    clear hL
    have hW := right_W hc
    have HAG := kide (fun u (hu : Below w.heap.size w u) => again_it (m := 1) (x := ⟨⟨-1, 0, bw, bw, ws⟩, wa, wc⟩) (w := u) (by omega) ⟨⟨by simp only []; omega, by simp only []; omega, HX.out.rd.2.1, .inl ⟨rfl, rfl, rfl, hc⟩⟩, by simp only []; omega, HX.out.rd.later hu, HX.out.no, fun q hq => Nat.lt_of_lt_of_le (HX.out.pw q hq) hu.size⟩)
    unfold sgV at HAG
    simp only [] at HAG
    rw [HNW.out] at HAG
    rw [hLs]
    clear hLs hc hW
    have BY : Hid (Below w.heap.size w (w.alloc (Obj.cells #[Value.int .i64 2, Value.int .i64 vr, Value.int .i64 A, Value.int .i64 Bb, Value.int .i64 bw, Value.slice wa nw wc, Value.slice ka nk kc] 62))) := (Below.refl _ _).alloc (Nat.le_refl _) _
    have XY : Hid (Bz (w.alloc (Obj.cells #[Value.int .i64 2, Value.int .i64 vr, Value.int .i64 A, Value.int .i64 Bb, Value.int .i64 bw, Value.slice wa nw wc, Value.slice ka nk kc] 62)) w.heap.size #[Value.int .i64 2, Value.int .i64 vr, Value.int .i64 A, Value.int .i64 Bb, Value.int .i64 bw, Value.slice wa nw wc, Value.slice ka nk kc] 62) := Bz.new w _ _
    go_enter Tryz.func45, Tryz.ntmps45
    go_wp2_with fail
    generalize w.alloc (Obj.cells #[Value.int .i64 2, Value.int .i64 vr, Value.int .i64 A, Value.int .i64 Bb, Value.int .i64 bw, Value.slice wa nw wc, Value.slice ka nk kc] 62) = Y at *
    refine Calls.mono (constSeg_any _ _ _ _ _) ?_
    rintro e w2 ⟨rfl, hb2⟩
    have B2 := kide (BY.out.trans (hb2.mono BY.out.size))
    clear hb2
    go_wp2_with fail
    refine Calls.mono (HAG.out _ B2.out) ?_
    rintro e w4 ⟨v4, rfl, hi4, hb4⟩
    have I4 := kide hi4
    have B4 := kide (B2.out.trans (hb4.mono B2.out.size))
    clear hi4 hb4
    go_wp2_with fail
    exact bodyPost_ret (v := v4) (by simp [results, Tryz.results45, go_sem]) rfl ⟨v4, rfl, I4.out, B4.out⟩
  · subst e
    have hLs : L = (ks.reverse.map fun k => (all.map formB).getD k.toNat []).flatten := by
      rw [← hL]
      unfold sgL
      simp only []
      rw [if_neg (by omega), if_neg (by omega), if_pos trivial]
      unfold kidsB
      rw [← List.map_reverse, List.map_map]
      congr 1
      refine List.map_congr_left fun k hk => ?_
      simp only [Function.comp, List.getD, List.getElem?_map]
      cases all[k.toNat]? <;> simp [formB_nil]
    clear hL
    have HJD := kide (fun u (hu : Below w.heap.size w u) => joined_it ka nk kc aa na ac ks (all.map formB) u (HX.out.rk.later hu) (fun q hq => Nat.lt_of_lt_of_le (HX.out.pk q hq) hu.size) HNK.out (by have := HN.out.many rfl; simp only [] at this; rw [HNK.out] at this; omega) (HA.out.later hu) (by rw [List.length_map]; exact hna) hna2 (fun k hk => by rw [List.length_map]; exact (HN.out.kid k hk).1))
    rw [hLs]
    clear hLs
    have BY : Hid (Below w.heap.size w (w.alloc (Obj.cells #[Value.int .i64 3, Value.int .i64 vr, Value.int .i64 A, Value.int .i64 Bb, Value.int .i64 bw, Value.slice wa nw wc, Value.slice ka nk kc] 62))) := (Below.refl _ _).alloc (Nat.le_refl _) _
    have XY : Hid (Bz (w.alloc (Obj.cells #[Value.int .i64 3, Value.int .i64 vr, Value.int .i64 A, Value.int .i64 Bb, Value.int .i64 bw, Value.slice wa nw wc, Value.slice ka nk kc] 62)) w.heap.size #[Value.int .i64 3, Value.int .i64 vr, Value.int .i64 A, Value.int .i64 Bb, Value.int .i64 bw, Value.slice wa nw wc, Value.slice ka nk kc] 62) := Bz.new w _ _
    go_enter Tryz.func45, Tryz.ntmps45
    go_wp2_with fail
    generalize w.alloc (Obj.cells #[Value.int .i64 3, Value.int .i64 vr, Value.int .i64 A, Value.int .i64 Bb, Value.int .i64 bw, Value.slice wa nw wc, Value.slice ka nk kc] 62) = Y at *
    refine Calls.mono (HJD.out _ BY.out) ?_
    rintro e w4 ⟨v4, rfl, hi4, hb4⟩
    have I4 := kide hi4
    have B4 := kide (BY.out.trans (hb4.mono BY.out.size))
    clear hi4 hb4
    go_wp2_with fail
    exact bodyPost_ret (v := v4) (by simp [results, Tryz.results45, go_sem]) rfl ⟨v4, rfl, I4.out, B4.out⟩
  · obtain ⟨j, hj⟩ := HN.out.one (by simp only []; omega)
    simp only [] at hj
    have hkid := HN.out.kid j (by simp only []; rw [hj]; simp)
    obtain ⟨J, rfl⟩ : ∃ J : Nat, j = (J : Int) := ⟨j.toNat, by omega⟩
    rw [Int.toNat_natCast] at hkid
    obtain ⟨⟨-, hJ⟩, hK1, hK2, hK3⟩ := hkid
    have hJ2 : J < all.length := by omega
    have hgK : (all.map formB)[J]? = some (formB (all.getD J [])) := by rw [List.getElem?_map]; simp [List.getD, hJ2]
    have eK : (kidsB all ks).getD 0 [] = all.getD J [] := by rw [hj]; simp [kidsB]
    obtain ⟨ab, ao, rfl, fv, xs, hfc, hFm⟩ : ∃ ab ao, aa = some ⟨ab, ao, none⟩ ∧ ∃ fv xs, w.cell? ⟨ab, ao + J, none⟩ = some fv ∧ Fm w fv (formB (all.getD J [])) xs := by
      rcases HA.out with h9 | ⟨ab, ao, e, h9⟩
      · rw [h9] at hgK; simp at hgK
      · obtain ⟨fv, xs, h8⟩ := h9 J _ hgK
        exact ⟨ab, ao, e, fv, xs, h8⟩
    obtain ⟨kb, ko, rfl, hkc⟩ : ∃ kb ko, ka = some ⟨kb, ko, none⟩ ∧ w.cell? ⟨kb, ko + 0, none⟩ = some (.int .i64 (J : Int)) := by
      rcases HX.out.rk.2.2 with h9 | ⟨b, o, e, hc⟩
      · simp only [] at h9; rw [h9] at hj; cases hj
      · have h8 := hc 0 (by simp only []; rw [hj]; simp)
        simp only [] at h8
        rw [hj] at h8
        exact ⟨b, o, e, h8⟩
    rw [Nat.add_zero] at hkc
    obtain rfl : nk = 1 := by rw [← HNK.out, hj]; rfl
    obtain ⟨fb, fo, fc, rfl, -, -⟩ := id hFm.pl
    obtain ⟨xn, hxn⟩ : ∃ n, xs.length = n := ⟨_, rfl⟩
    obtain ⟨hP, hO⟩ := formB_P _ (all.getD J []) (Nat.le_refl _) hK2 hK3
    have hsum : sumS (formB (all.getD J [])) = ((all.getD J []).length : Int) := by
      have h9 := formP_len (formB (all.getD J [])) (fun s hs => by have := (hO s hs).1.1; omega)
      rw [hP] at h9
      exact h9.symm
    unfold sgL at hL
    simp only [] at hL
    rw [if_neg (by omega), if_neg (by omega), if_neg (by omega), eK] at hL
    have hpart := HN.out.part
    have hamt := HN.out.amt
    have hrep := HN.out.rep
    simp only [] at hpart hamt hrep
    rw [eK] at hpart
    have HFM := kide hFm
    generalize all.getD J [] = K at *
    obtain ⟨Wd, hWd⟩ : ∃ n, K.length = n := ⟨_, rfl⟩
    rw [hWd] at hL hsum hK1 hK2 hpart
    have HFW := kide (fun u (hu : Below w.heap.size w u) => formWidth_any (some ⟨fb, fo, none⟩) fc xs.length xs u (hFm.rds.later hu) rfl hFm.n2 (fun x hx => by have h9 := (hFm.at' x hx).ok; exact ⟨h9.1, h9.2.1⟩))
    have ect := hFm.ct
    rw [ect, hsum, hxn] at HFW
    have HS := kide hsum
    rw [hxn] at hfc
    have lab := block_lt_of_cell hfc
    have lkb := block_lt_of_cell hkc
    have qJ : (J : Int) < (na : Int) := by omega
    have qJ0 : (J : Int) ≥ 0 := by omega
    clear hgK eK hP hO hK3 hj hWd hFm hsum ect
    obtain ⟨F, hF⟩ : ∃ F, formB K = F := ⟨_, rfl⟩
    rw [hF] at hL HFM HS
    rw [hxn] at HFM
    clear hF
    rcases (show op = 4 ∨ op = 5 ∨ op = 6 ∨ op = 7 ∨ op = 8 ∨ op = 9 by omega) with e | e | e | e | e | e
    · subst e
      obtain ⟨p1, p2, p3⟩ := hpart rfl
      simp at hL
      obtain ⟨An, rfl⟩ : ∃ n : Nat, A = (n : Int) := ⟨A.toNat, by omega⟩
      obtain ⟨Bn, rfl⟩ : ∃ n : Nat, Bb = (n : Int) := ⟨Bb.toNat, by omega⟩
      simp only [Int.toNat_natCast] at hL
      subst hL
      exact seg4 HFM HS HFW hfc hkc qJ hK1 hK2 (by omega) (by omega)
    · subst e
      have ha := hamt (by omega)
      skip
      simp at hL
      obtain ⟨An, rfl⟩ : ∃ n : Nat, A = (n : Int) := ⟨A.toNat, by omega⟩
      simp only [Int.toNat_natCast] at hL
      subst hL
      exact seg5 HFM HS HFW hfc hkc qJ hK1 hK2 (by omega)
    · subst e
      have ha := hamt (by omega)
      skip
      simp at hL
      obtain ⟨An, rfl⟩ : ∃ n : Nat, A = (n : Int) := ⟨A.toNat, by omega⟩
      simp only [Int.toNat_natCast] at hL
      subst hL
      exact seg6 HFM HS HFW hfc hkc qJ hK1 hK2 (by omega)
    · subst e
      have ha := hamt (by omega)
      skip
      simp at hL
      obtain ⟨An, rfl⟩ : ∃ n : Nat, A = (n : Int) := ⟨A.toNat, by omega⟩
      simp only [Int.toNat_natCast] at hL
      subst hL
      exact seg7 HFM HS HFW hfc hkc qJ hK1 hK2 (by omega)
    · subst e
      have ha := hamt (by omega)
      skip
      simp at hL
      obtain ⟨An, rfl⟩ : ∃ n : Nat, A = (n : Int) := ⟨A.toNat, by omega⟩
      simp only [Int.toNat_natCast] at hL
      subst hL
      exact seg8 HFM HS HFW hfc hkc qJ hK1 hK2 (by omega)
    · subst e
      have ha := hamt (by omega)
      have hr := hrep rfl
      simp at hL
      obtain ⟨An, rfl⟩ : ∃ n : Nat, A = (n : Int) := ⟨A.toNat, by omega⟩
      simp only [Int.toNat_natCast] at hL
      subst hL
      exact seg9 HFM HS HFW hfc hkc qJ hK1 hK2 (by omega) (by omega)
end Go.Proofs.YtckidgpopbpagaaGreatDoor

/- Segments of one's own are marked, and hold their marks. -/
namespace Go.Proofs.YtckidgpopbpagaaGreatDoor
set_option linter.unusedVariables false
set_option linter.unusedSimpArgs false
open Go.RowKit

def lnAt (l : List Sg) (i : Nat) : Nat := match l[i]? with | some x => x.ct.ws.length | none => 0
/-- The mark at which the i-th begins. -/
def mkAt (l : List Sg) (k : Nat) : Nat → Nat
  | 0 => k
  | i + 1 => mkAt l k i + 4 + lnAt l i
theorem mkAt_le {l : List Sg} {k : Nat} (h : ∀ x ∈ l, x.ct.ws.length ≤ 1048576) : ∀ i, mkAt l k i ≤ k + i * 1048580
  | 0 => by simp [mkAt]
  | i + 1 => by
    have h1 := mkAt_le (k := k) h i
    have h2 : lnAt l i ≤ 1048576 := by
      unfold lnAt
      cases e : l[i]? with
      | none => simp
      | some x => exact h x (List.mem_of_getElem? e)
    unfold mkAt
    omega

/-- Words in a block of words, or none. -/
def WSh (w : World) (lo hi : Nat) (x : Sg) : Prop := x.ct.ws.length = 0 ∨ ∃ h cur, x.a = some ⟨h, 0, none⟩ ∧ lo ≤ h ∧ h < hi ∧ w.heap[h]? = some (.cells cur 83 (0, 0)) ∧ ∀ t, t < x.ct.ws.length → ∃ y : Int, cur[t]? = some (.int .u64 y)
theorem WSh.of {w : World} {lo hi : Nat} {x : Sg} (h : Nw w lo x.a x.ct.ws) (hh : w.heap.size ≤ hi) : WSh w lo hi x := by
  rcases h with ⟨h1, -⟩ | ⟨g, cur, h1, h2, h3, h4⟩
  · exact .inl (by rw [h1]; rfl)
  · exact .inr ⟨g, cur, h1, h2, Nat.lt_of_lt_of_le (lt_of_block h3) hh, h3, fun t ht => ⟨_, h4 t ht⟩⟩
theorem WSh.shp {w w' : World} {lo hi : Nat} {x : Sg} (h : WSh w lo hi x) (hs : Shp w w') : WSh w' lo hi x := by
  rcases h with h | ⟨g, cur, h1, h2, h3, h4, h5⟩
  · exact .inl h
  · obtain ⟨cur', e', r⟩ := hs g cur _ h4
    exact .inr ⟨g, cur', h1, h2, h3, e', fun t ht => keep_int r (h5 t ht)⟩

/-- The i-th holds its marks. -/
def HeldOne (w : World) (g i : Nat) (x : Sg) (K : Nat) : Prop :=
  w.cell? ⟨g, i * 5, none⟩ = some (.int .i64 (K : Int)) ∧ w.cell? ⟨g, i * 5 + 1, none⟩ = some (.int .i64 ((K + 1 : Nat) : Int)) ∧ w.cell? ⟨g, i * 5 + 2, none⟩ = some (.int .i64 ((K + 2 : Nat) : Int)) ∧ w.cell? ⟨g, i * 5 + 3, none⟩ = some (.int .i64 ((K + 3 : Nat) : Int)) ∧ w.cell? ⟨g, i * 5 + 4, none⟩ = some (.slice x.a x.ct.ws.length x.c) ∧
  (∀ t, t < x.ct.ws.length → ∃ h, x.a = some ⟨h, 0, none⟩ ∧ w.cell? ⟨h, t, none⟩ = some (.int .u64 ((K + 4 + t : Nat) : Int)))
theorem HeldOne.keep {w w' : World} {g i K : Nat} {x : Sg} (h : HeldOne w g i x K) (hr : ∀ o, i * 5 ≤ o → o < i * 5 + 5 → w'.cell? ⟨g, o, none⟩ = w.cell? ⟨g, o, none⟩) (hw : ∀ p, x.ct.ws.length ≠ 0 → x.a = some p → w'.heap[p.block]? = w.heap[p.block]?) : HeldOne w' g i x K := by
  obtain ⟨h0, h1, h2, h3, h5, h4⟩ := h
  refine ⟨by rw [hr _ (by omega) (by omega)]; exact h0, by rw [hr _ (by omega) (by omega)]; exact h1, by rw [hr _ (by omega) (by omega)]; exact h2, by rw [hr _ (by omega) (by omega)]; exact h3, by rw [hr _ (by omega) (by omega)]; exact h5, fun t ht => ?_⟩
  obtain ⟨b, e, hc⟩ := h4 t ht
  exact ⟨b, e, (World.cell?_of_block (a := ⟨b, t, none⟩) (show w'.heap[b]? = w.heap[b]? from hw ⟨b, 0, none⟩ (by omega) e)).trans hc⟩
def HeldB (w : World) (g : Nat) (l : List Sg) (k : Nat) : Prop := ∀ i x, l[i]? = some x → HeldOne w g i x (mkAt l k i)
theorem HeldB.later {w w' : World} {g k : Nat} {l : List Sg} (h : HeldB w g l k) (hb : Below w.heap.size w w') : HeldB w' g l k := fun i x hi => by
  have h1 := h i x hi
  refine h1.keep (fun o _ _ => kcell hb g o (block_lt_of_cell h1.1)) (fun p hp e => ?_)
  obtain ⟨b, e', hc⟩ := h1.2.2.2.2.2 0 (by omega)
  rw [e'] at e
  cases e
  exact hb.block _ (block_lt_of_cell hc)
theorem cell_ne {w : World} {g o o' : Nat} {cur : Array Value} {t : TypeId} (hg : w.heap[g]? = some (.cells cur t (0, 0))) (v : Value) (h : o ≠ o') : (w.setCell ⟨g, o, none⟩ v).cell? ⟨g, o', none⟩ = w.cell? ⟨g, o', none⟩ := by
  rw [cell_of_row _ g o' _ _ _ (heap_setCell_same w g o _ _ v hg), cell_of_row w g o' _ _ _ hg, Array.getElem?_setIfInBounds_ne h]


/-- The row itself, in a block of segments. -/
def RowSh (w : World) (g : Nat) (l : List Sg) : Prop := ∃ cur, w.heap[g]? = some (.cells cur 67 (0, 0)) ∧ ∀ i x, l[i]? = some x → (∃ y : Int, cur[i * 5]? = some (.int .i64 y)) ∧ (∃ y : Int, cur[i * 5 + 1]? = some (.int .i64 y)) ∧ (∃ y : Int, cur[i * 5 + 2]? = some (.int .i64 y)) ∧ (∃ y : Int, cur[i * 5 + 3]? = some (.int .i64 y)) ∧ cur[i * 5 + 4]? = some (.slice x.a x.ct.ws.length x.c)
theorem RowSh.shp {w w' : World} {g : Nat} {l : List Sg} (h : RowSh w g l) (hs : Shp w w') : RowSh w' g l := by
  obtain ⟨cur, hg, r⟩ := h
  obtain ⟨cur', e', r'⟩ := hs g cur _ hg
  refine ⟨cur', e', fun i x hi => ?_⟩
  obtain ⟨h1, h2, h3, h5, h4⟩ := r i x hi
  obtain ⟨v', j1, j2⟩ := r' _ _ h4
  exact ⟨keep_int r' h1, keep_int r' h2, keep_int r' h3, keep_int r' h5, by rw [← j2.slice]; exact j1⟩

def RetMk (w : World) (lo hi g : Nat) (l : List Sg) (k : Nat) (e : Ending) (w' : World) : Prop := e = .returned (.int .i64 (mkAt l k l.length : Int)) ∧ HeldB w' g l k ∧ Out lo hi w w'


theorem sgc_get : ∀ {l : List Sg} {i : Nat} {x : Sg}, l[i]? = some x → (sgc l)[i * 5]? = some (.int .i64 x.ct.v) ∧ (sgc l)[i * 5 + 1]? = some (.int .i64 x.ct.lo) ∧ (sgc l)[i * 5 + 2]? = some (.int .i64 x.ct.wd) ∧ (sgc l)[i * 5 + 3]? = some (.int .i64 x.ct.bw) ∧ (sgc l)[i * 5 + 4]? = some (.slice x.a x.ct.ws.length x.c)
  | [], i, x, h => by simp at h
  | y :: t, 0, x, h => by simp at h; subst h; simp [sgc]
  | y :: t, i + 1, x, h => by
    simp only [List.getElem?_cons_succ] at h
    have := sgc_get h
    rw [show (i + 1) * 5 = i * 5 + 5 by omega, show i * 5 + 5 + 1 = (i * 5 + 1) + 5 by omega, show i * 5 + 5 + 2 = (i * 5 + 2) + 5 by omega, show i * 5 + 5 + 3 = (i * 5 + 3) + 5 by omega, show i * 5 + 5 + 4 = (i * 5 + 4) + 5 by omega]
    simpa [sgc] using this
theorem RowSh.of {w : World} {B g n c : Nat} {l : List Sg} (h : OS5 w B (.slice (some ⟨g, 0, none⟩) n c) l) : RowSh w g l ∧ B ≤ g ∧ g < w.heap.size := by
  rcases h.2 with ⟨e, -⟩ | ⟨g', cap, cur, e, hg, hh, hc1, hc2, hsz, hcur⟩
  · cases e
  · cases e
    refine ⟨⟨cur, hh, fun i x hi => ?_⟩, hg, lt_of_block hh⟩
    have hil := (List.getElem?_eq_some_iff.1 hi).1
    obtain ⟨e0, e1, e2, e3, e4⟩ := sgc_get hi
    rw [← hcur] at e0 e1 e2 e3 e4
    rw [List.getElem?_take, if_pos (by omega)] at e0 e1 e2 e3 e4
    simp only [Array.getElem?_toList] at e0 e1 e2 e3 e4
    exact ⟨⟨_, e0⟩, ⟨_, e1⟩, ⟨_, e2⟩, ⟨_, e3⟩, e4⟩



/-- A row of segments that holds its marks. -/
def HeldV (w : World) (v : Value) (l : List Sg) (k : Nat) : Prop := l = [] ∨ ∃ g n c, v = .slice (some ⟨g, 0, none⟩) n c ∧ HeldB w g l k
theorem HeldV.later {w w' : World} {v : Value} {l : List Sg} {k : Nat} (h : HeldV w v l k) (hb : Below w.heap.size w w') : HeldV w' v l k := by
  rcases h with h | ⟨g, n, c, e, h⟩
  · exact .inl h
  · exact .inr ⟨g, n, c, e, h.later hb⟩




end Go.Proofs.YtckidgpopbpagaaGreatDoor

/- The forms of all nodes of a right term. -/
namespace Go.Proofs.YtckidgpopbpagaaGreatDoor
set_option linter.unusedVariables false
set_option linter.unusedSimpArgs false
open Go.RowKit Go.Shelf

theorem formB_v64 : ∀ (n : Nat) (l : List Ib), l.length ≤ n → (∀ p ∈ l, in64 p.1) → ∀ s ∈ formB l, in64 s.v
  | 0, l, h, _, s, hs => by
    have : l = [] := List.eq_nil_of_length_eq_zero (by omega)
    subst this
    rw [formB_nil] at hs
    cases hs
  | n + 1, [], _, _, s, hs => by rw [formB_nil] at hs; cases hs
  | n + 1, p :: t, h, hp, s, hs => by
    have hlen : (p :: t).length = t.length + 1 := rfl
    rw [formB_cons] at hs
    split at hs
    · rcases List.mem_cons.1 hs with rfl | hs
      · unfold segC in64; simp
      · exact formB_v64 n _ (by rw [List.length_drop]; omega) (fun q hq => hp q (List.mem_cons_of_mem _ (List.mem_of_mem_drop hq))) s hs
    · rcases List.mem_cons.1 hs with rfl | hs
      · exact hp p (by simp)
      · exact formB_v64 n _ (by rw [List.length_drop]; omega) (fun q hq => hp q (List.mem_cons_of_mem _ (List.mem_of_mem_drop hq))) s hs

/-- A form that was gathered. -/
structure Fg (W : World) (B : Nat) (v : Value) (F : List Sc) (l : List Sg) : Prop where
  row : OS5 W B v l
  ct : l.map Sg.ct = F
  len : l.length ≤ 2000
  rd : ∀ x ∈ l, Rd W x.a x.ct.ws
  no : ∀ x ∈ l, x.a = none → x.c = 0
  ra : ∀ x ∈ l, ∀ p, x.a = some p → v.ownBlock ≠ some p.block
  pl : ∀ x ∈ l, ∀ p, x.a = some p → p.block < W.heap.size
theorem Fg.later {W W' : World} {B : Nat} {v : Value} {F : List Sc} {l : List Sg} (h : Fg W B v F l) (hb : Below W.heap.size W W') : Fg W' B v F l :=
  ⟨h.row.later hb, h.ct, h.len, fun x hx => (h.rd x hx).later hb, h.no, h.ra, fun x hx p hp => Nat.lt_of_lt_of_le (h.pl x hx p hp) hb.size⟩
theorem Fg.low {W : World} {B B' : Nat} {v : Value} {F : List Sc} {l : List Sg} (h : Fg W B v F l) (hB : B' ≤ B) : Fg W B' v F l := by
  refine ⟨?_, h.ct, h.len, h.rd, h.no, h.ra, h.pl⟩
  obtain ⟨h1, h2⟩ := h.row
  refine ⟨h1, ?_⟩
  rcases h2 with h2 | ⟨g, cap, cur, rfl, hg, hh, r⟩
  · exact .inl h2
  · exact .inr ⟨g, cap, cur, rfl, by omega, hh, r⟩
theorem Fg.set {W : World} {B G i : Nat} {v : Value} {F : List Sc} {l : List Sg} {cs : Array Value} (h : Fg W B v F l) (hb : Bz W G cs 42) (hno : ∀ (j : Nat) (n : Int), cs[j]? ≠ some (.int .u64 n)) (u : Value) : Fg (W.setCell ⟨G, i, none⟩ u) B v F l :=
  ⟨os5_set h.row hb (by decide) u, h.ct, h.len, fun x hx => rd_set (h.rd x hx) hb hno i u, h.no, h.ra, fun x hx p hp => by have := h.pl x hx p hp; simpa using this⟩
theorem Fg.fm {W : World} {B : Nat} {v : Value} {K : List Ib} {l : List Sg} (h : Fg W B v (formB K) l) (h1 : 1 ≤ K.length) (h2 : K.length ≤ 4096) (h3 : ∀ p ∈ K, okI p) : Fm W v (formB K) l := by
  obtain ⟨hP, hO⟩ := formB_P _ K (Nat.le_refl _) h2 h3
  have hne : l ≠ [] := fun e => by
    have h9 := h.ct
    rw [e] at h9
    rw [← h9] at hP
    simp [formP] at hP
    rw [hP] at h1
    simp at h1
  have hlen : 1 ≤ l.length := List.length_pos_iff.2 hne
  have hob : ∀ x ∈ l, okS x.ct ∧ 0 ≤ x.ct.lo ∧ x.ct.lo + x.ct.wd ≤ 4096 := fun x hx => hO x.ct (by rw [← h.ct]; exact List.mem_map_of_mem hx)
  refine ⟨?_, h.ct, fun x hx => ⟨(hob x hx).1, (hob x hx).2, h.rd x hx, h.no x hx, h.pl x hx⟩, hlen, h.len, fun x hx => ?_⟩
  · rcases h.row.2 with ⟨e, h0⟩ | ⟨g, cap, cur, rfl, hg, hh, r⟩
    · exact absurd (List.eq_nil_of_length_eq_zero h0) hne
    · refine ⟨g, 0, cap, rfl, lt_of_block hh, fun i x hx => ?_⟩
      obtain ⟨e0, e1, e2, e3, e4⟩ := sgc_get hx
      have key : ∀ (j : Nat) (u : Value), (sgc l)[j]? = some u → W.cell? ⟨g, 0 + j, none⟩ = some u := fun j u hj => by
        have hc := World.ownsRow.cells h.row (g := g) rfl j u hj
        rw [Addr.add_lit] at hc
        exact hc
      exact ⟨key _ _ e0, key _ _ e1, key _ _ e2, key _ _ e3, key _ _ e4⟩
  · -- numbers of variables
    have hx9 : x.ct ∈ formB K := by rw [← h.ct]; exact List.mem_map_of_mem hx
    exact (formB_v64 _ K (Nat.le_refl _) (fun p hp => (h3 p hp).1) x.ct hx9)

/-- What holds when k nodes are over. -/
structure Ft (w : World) (b G n : Nat) (all : List (List Ib)) (W : World) : Prop where
  row : ∃ cur : Array Value, Bz W G cur 42 ∧ cur.size = n ∧ (∀ (j : Nat) (z : Int), cur[j]? ≠ some (.int .u64 z)) ∧ ∀ i, i < all.length → ∃ v l, cur[i]? = some v ∧ Fg W b v (formB (all.getD i [])) l
  bel : Below b w W
theorem Ft.later {w W W' : World} {b G n : Nat} {all : List (List Ib)} (h : Ft w b G n all W) (hb : Below W.heap.size W W') (hbW : b ≤ W.heap.size) : Ft w b G n all W' := by
  obtain ⟨cur, h1, h2, h3, h4⟩ := h.row
  exact ⟨⟨cur, h1.later hb, h2, h3, fun i hi => by
    obtain ⟨v, l, h5, h6⟩ := h4 i hi
    exact ⟨v, l, h5, h6.later hb⟩⟩, h.bel.trans (hb.mono hbW)⟩
theorem Ft.ah {w W : World} {b G n : Nat} {all : List (List Ib)} {wide : List Int} (h : Ft w b G n all W) (hA : AheadB wide all) : Ah W (some ⟨G, 0, none⟩) (all.map formB) := by
  obtain ⟨cur, h1, h2, h3, h4⟩ := h.row
  refine .inr ⟨G, 0, rfl, fun i F hF => ?_⟩
  rw [List.getElem?_map] at hF
  have hi : i < all.length := by
    cases e : all[i]? with
    | none => rw [e] at hF; cases hF
    | some x => exact (List.getElem?_eq_some_iff.1 e).1
  obtain ⟨v, l, h5, h6⟩ := h4 i hi
  have e : F = formB (all.getD i []) := by
    rw [List.getElem?_eq_getElem hi] at hF
    simp [List.getD, hi]
    simpa using hF.symm
  obtain ⟨k1, k2, k3, k4⟩ := hA.ok i hi
  subst e
  refine ⟨v, l, ?_, h6.fm (by omega) (by omega) k4⟩
  rw [Nat.zero_add, h1.cell i]
  exact h5
/-- One form more. -/
theorem Ft.put {w W : World} {b G n : Nat} {all : List (List Ib)} {K : List Ib} {v : Value} {l : List Sg} (h : Ft w b G n all W) (hn : all.length < n) (hv : Fg W b v (formB K) l) (hbG : b ≤ G) : Ft w b G n (all ++ [K]) (W.setCell ⟨G, all.length, none⟩ v) := by
  obtain ⟨cur, h1, h2, h3, h4⟩ := h.row
  have hvs : ∀ z : Int, v ≠ .int .u64 z := fun z e => by
    obtain ⟨a, c, e9⟩ := hv.row.form
    rw [e9] at e
    cases e
  refine ⟨⟨_, h1.set all.length v, by rw [Array.size_setIfInBounds]; exact h2, fun j z e => ?_, fun i hi => ?_⟩, h.bel.setCell (p := ⟨G, all.length, none⟩) hbG _⟩
  · by_cases hj : all.length = j
    · subst hj
      rw [Array.getElem?_setIfInBounds_self_of_lt (by omega)] at e
      exact hvs z (Option.some.inj e)
    · rw [Array.getElem?_setIfInBounds_ne hj] at e
      exact h3 j z e
  · by_cases hlt : i < all.length
    · obtain ⟨v', l', h5, h6⟩ := h4 i hlt
      refine ⟨v', l', by rw [Array.getElem?_setIfInBounds_ne (by omega)]; exact h5, ?_⟩
      have e1 : (all ++ [K]).getD i [] = all.getD i [] := by simp [List.getD, List.getElem?_append_left hlt]
      rw [e1]
      exact h6.set h1 h3 v
    · have e : i = all.length := by simp at hi; omega
      subst e
      have e1 : (all ++ [K]).getD all.length [] = K := by simp [List.getD]
      rw [e1]
      exact ⟨v, l, Array.getElem?_setIfInBounds_self_of_lt (by omega), hv.set h1 h3 v⟩
theorem Tryz.infoSs : (Tryz.prog.info? 42).map (fun i => (i.zero, i.size, i.bytes)) = some (some (.slice none 0 0), 1, 24) := by kernel_rfl
theorem make_sss (n : Nat) (hn : n ≤ 1048576) (kl kc : IntKind) (w : World) :
    (Instr.makeSlice 88 (.int kl (n : Int)) (.int kc (n : Int))).run Tryz.prog w = .ok (.slice (some ⟨w.heap.size, 0, none⟩) n n) (w.alloc (.cells (madeCells #[.slice none 0 0] n) 42)) := by
  obtain ⟨i0, hi, hz0, hz1, hz2⟩ := info_parts Tryz.infoSs
  have := run_make (P := Tryz.prog) w 88 42 i0 _ Tryz.underlying88 hi hz0 kl kc n n (by omega) (Int.le_refl _) (by rw [hz2]; omega) (by omega)
  rw [hz1, Nat.mul_one] at this
  simp only [Int.toNat_natCast] at this
  exact this
end Go.Proofs.YtckidgpopbpagaaGreatDoor
