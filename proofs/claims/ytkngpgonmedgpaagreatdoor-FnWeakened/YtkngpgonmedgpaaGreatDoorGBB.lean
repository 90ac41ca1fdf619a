/- Several texts in one. -/
import Derived.Test.YtkngpgonmedgpaaGreatDoorRX
import Derived.Test.YtkngpgonmedgpaaGreatDoorEW
import Derived.Test.YtkngpgonmedgpaaGreatDoorGAI
import Derived.Test.YtkngpgonmedgpaaGreatDoorEO
import Derived.Deep.AppendLies
import Derived.Test.YtkngpgonmedgpaaGreatDoorQU
import Derived.Handy
namespace Go.Proofs.YtkngpgonmedgpaaGreatDoor
open Go.RowKit
set_option linter.unusedVariables false
set_option linter.unusedSimpArgs false
set_option maxHeartbeats 4000000 in
set_option maxRecDepth 100000 in
theorem l4Cat_any (va k2 wa ka : Option Addr) (vc kc2 wc kc : Nat) (vs kd : List Bw) (vr A B bw : Int) (ws : List Nat) (ks : List Int) (u : World) (hd : RdW u k2 kd) (hok : ∀ x ∈ kd.map Bw.ct, okWd x) (hm : 2 ≤ kd.length) (hf : sumV (kd.map Bw.ct) ≤ 4096) :
  Calls Tryz.prog 74 #[.slice va vs.length vc, nodA ⟨3, vr, A, B, bw, ws, ks⟩ wa ka wc kc, .slice k2 kd.length kc2] u (RetV u (catS (kd.map Bw.ct))) := by
 have hla := hd.1
 obtain ⟨-, h | ⟨kb, ko, rfl, hkc⟩⟩ := hd
 ·rw [h] at hm; simp at hm
 have HKC := kide hkc
 have HOK := kide hok
 have HF := kide hf
 have hx0 : kd[0]? = some kd[0] := List.getElem?_eq_getElem (by omega)
 obtain ⟨x0, hx0e⟩ : ∃ x, kd[0] = x := ⟨_, rfl⟩
 rw [hx0e] at hx0
 have HX0 := kide hx0
 obtain ⟨p0, p1, pr0, -⟩ := hkc 0 x0 hx0
 rw [Nat.zero_mul, Nat.add_zero] at p0 p1
 have HP0 := kide pr0
 obtain ⟨kl, hkl⟩ : ∃ m, kd.length = m := ⟨_, rfl⟩
 have HKL := kide hkl
 rw [hkl] at hm hla ⊢
 have hkl' : (0 : Int) < (kl : Int) := by omega
 simp only [nodA] at *
 clear hkc hx0 hx0e pr0 hok hf hkl
 generalize ws.length = wl at *
 generalize ks.length = kl2 at *
 have XA : Bz (((u.alloc (Obj.cells #[.int .i64 3, .int .i64 vr, .int .i64 A, .int .i64 B, .int .i64 bw, .slice wa wl wc, .slice ka kl2 kc] 119)).alloc (Obj.cells #[.int .i64 0, .slice none 0 0] 80)).alloc (Obj.cells #[.int .i64 0, .slice none 0 0] 80)) u.heap.size #[.int .i64 3, .int .i64 vr, .int .i64 A, .int .i64 B, .int .i64 bw, .slice wa wl wc, .slice ka kl2 kc] 119 := ((Bz.new u #[.int .i64 3, .int .i64 vr, .int .i64 A, .int .i64 B, .int .i64 bw, .slice wa wl wc, .slice ka kl2 kc] 119).later ((Below.refl _ _).alloc (Nat.le_refl _) _)).later ((Below.refl _ _).alloc (Nat.le_refl _) _)
 have XR : Bz (((u.alloc (Obj.cells #[.int .i64 3, .int .i64 vr, .int .i64 A, .int .i64 B, .int .i64 bw, .slice wa wl wc, .slice ka kl2 kc] 119)).alloc (Obj.cells #[.int .i64 0, .slice none 0 0] 80)).alloc (Obj.cells #[.int .i64 0, .slice none 0 0] 80)) (u.heap.size + 1) #[.int .i64 0, .slice none 0 0] 80 := by
  have := (Bz.new (u.alloc (Obj.cells #[.int .i64 3, .int .i64 vr, .int .i64 A, .int .i64 B, .int .i64 bw, .slice wa wl wc, .slice ka kl2 kc] 119)) #[.int .i64 0, .slice none 0 0] 80).later ((Below.refl _ _).alloc (Nat.le_refl _) (Obj.cells #[.int .i64 0, .slice none 0 0] 80))
  rw [World.size_alloc] at this
  exact this
 have XQ : Bz (((u.alloc (Obj.cells #[.int .i64 3, .int .i64 vr, .int .i64 A, .int .i64 B, .int .i64 bw, .slice wa wl wc, .slice ka kl2 kc] 119)).alloc (Obj.cells #[.int .i64 0, .slice none 0 0] 80)).alloc (Obj.cells #[.int .i64 0, .slice none 0 0] 80)) (u.heap.size + 1 + 1) #[.int .i64 0, .slice none 0 0] 80 := by
  have := Bz.new ((u.alloc (Obj.cells #[.int .i64 3, .int .i64 vr, .int .i64 A, .int .i64 B, .int .i64 bw, .slice wa wl wc, .slice ka kl2 kc] 119)).alloc (Obj.cells #[.int .i64 0, .slice none 0 0] 80)) #[.int .i64 0, .slice none 0 0] 80
  simp only [World.size_alloc] at this
  exact this
 have BW : Below u.heap.size u (((u.alloc (Obj.cells #[.int .i64 3, .int .i64 vr, .int .i64 A, .int .i64 B, .int .i64 bw, .slice wa wl wc, .slice ka kl2 kc] 119)).alloc (Obj.cells #[.int .i64 0, .slice none 0 0] 80)).alloc (Obj.cells #[.int .i64 0, .slice none 0 0] 80)) := Ba (Ba (Ba (Below.refl _ _) _) _) _
 have d0 := (kcell BW _ _ (block_lt_of_cell p0)).trans p0
 have d1 := (kcell BW _ _ (block_lt_of_cell p1)).trans p1
 have t0 : (((u.alloc (Obj.cells #[.int .i64 3, .int .i64 vr, .int .i64 A, .int .i64 B, .int .i64 bw, .slice wa wl wc, .slice ka kl2 kc] 119)).alloc (Obj.cells #[.int .i64 0, .slice none 0 0] 80)).alloc (Obj.cells #[.int .i64 0, .slice none 0 0] 80)).cell? ⟨u.heap.size, 0, none⟩ = some (.int .i64 3) := XA.cell 0
 have XR4 : Bz (((u.alloc (Obj.cells #[.int .i64 3, .int .i64 vr, .int .i64 A, .int .i64 B, .int .i64 bw, .slice wa wl wc, .slice ka kl2 kc] 119)).alloc (Obj.cells #[.int .i64 0, .slice none 0 0] 80)).alloc (Obj.cells #[.int .i64 x0.wd, .slice x0.a x0.ws.length x0.c] 80)) (u.heap.size + 1) #[.int .i64 0, .slice none 0 0] 80 := by
  have := (Bz.new (u.alloc (Obj.cells #[.int .i64 3, .int .i64 vr, .int .i64 A, .int .i64 B, .int .i64 bw, .slice wa wl wc, .slice ka kl2 kc] 119)) #[.int .i64 0, .slice none 0 0] 80).later ((Below.refl _ _).alloc (Nat.le_refl _) (Obj.cells #[.int .i64 x0.wd, .slice x0.a x0.ws.length x0.c] 80))
  rw [World.size_alloc] at this
  exact this
 have XQ4 : Bz (((u.alloc (Obj.cells #[.int .i64 3, .int .i64 vr, .int .i64 A, .int .i64 B, .int .i64 bw, .slice wa wl wc, .slice ka kl2 kc] 119)).alloc (Obj.cells #[.int .i64 0, .slice none 0 0] 80)).alloc (Obj.cells #[.int .i64 x0.wd, .slice x0.a x0.ws.length x0.c] 80)) (u.heap.size + 1 + 1) #[.int .i64 x0.wd, .slice x0.a x0.ws.length x0.c] 80 := by
  have := Bz.new ((u.alloc (Obj.cells #[.int .i64 3, .int .i64 vr, .int .i64 A, .int .i64 B, .int .i64 bw, .slice wa wl wc, .slice ka kl2 kc] 119)).alloc (Obj.cells #[.int .i64 0, .slice none 0 0] 80)) #[.int .i64 x0.wd, .slice x0.a x0.ws.length x0.c] 80
  simp only [World.size_alloc] at this
  exact this
 have BW4 : Below u.heap.size u (((u.alloc (Obj.cells #[.int .i64 3, .int .i64 vr, .int .i64 A, .int .i64 B, .int .i64 bw, .slice wa wl wc, .slice ka kl2 kc] 119)).alloc (Obj.cells #[.int .i64 0, .slice none 0 0] 80)).alloc (Obj.cells #[.int .i64 x0.wd, .slice x0.a x0.ws.length x0.c] 80)) := Ba (Ba (Ba (Below.refl _ _) _) _) _
 clear p0 p1
 go_enter Tryz.func74, Tryz.ntmps74
 go_wp2_with fail
 clear XA XR XQ BW d0 d1 t0
 generalize (((u.alloc (Obj.cells #[.int .i64 3, .int .i64 vr, .int .i64 A, .int .i64 B, .int .i64 bw, .slice wa wl wc, .slice ka kl2 kc] 119)).alloc (Obj.cells #[.int .i64 0, .slice none 0 0] 80)).alloc (Obj.cells #[.int .i64 x0.wd, .slice x0.a x0.ws.length x0.c] 80)) = w4 at *
 go_loopw [8] (fun q wr => ∃ (i : Nat) (xb : Option Addr) (cb : Nat), 1 ≤ i ∧ i ≤ kl ∧ q = .int .i64 (i : Int) ∧ Bz wr (u.heap.size + 1 + 1) #[.int .i64 (catS ((kd.map Bw.ct).take i)).1, .slice xb (catS ((kd.map Bw.ct).take i)).2.length cb] 80 ∧ Bz wr (u.heap.size + 1) #[.int .i64 0, .slice none 0 0] 80 ∧ Below u.heap.size u wr ∧ (i = 1 ∧ xb = x0.a ∨ Nw wr u.heap.size xb (catS ((kd.map Bw.ct).take i)).2)) (fun q _ => kl - (intOf q).toNat)
 case atStart =>
  have e : catS ((kd.map Bw.ct).take 1) = x0.ct := by
   have := catS_take (l := kd.map Bw.ct) (i := 0) (y := x0.ct) (by rw [List.getElem?_map, HX0.out]; rfl)
   simpa using this
  exact ⟨1, x0.a, x0.c, Nat.le_refl _, by omega, rfl, by rw [e]; exact XQ4, XR4, BW4, .inl ⟨rfl, rfl⟩⟩
 case round =>
  obtain ⟨i, xb, cb, hi1, hi, rfl, hq, hr, hb, halt⟩ := hrel
  have XQ := kide hq
  have XR := kide hr
  have BW := kide hb
  obtain ⟨hc1, hc2⟩ := cat_ok HOK.out HF.out (i - 1) (by rw [List.length_map, HKL.out]; omega)
  rw [show i - 1 + 1 = i by omega] at hc1 hc2
  have hwX := right_W hc2.1
  have HRB : Hid (Rd wr xb (catS ((kd.map Bw.ct).take i)).2) := by
   rcases halt with ⟨rfl, rfl⟩ | h
   ·have e : catS ((kd.map Bw.ct).take 1) = x0.ct := by
     have := catS_take (l := kd.map Bw.ct) (i := 0) (y := x0.ct) (by rw [List.getElem?_map, HX0.out]; rfl)
     simpa using this
    show Rd _ _ _
    rw [e]
    exact HP0.out.later hb
   ·exact h.rd (by omega) hc2.2
  have z0 := XQ.out.cell 0
  have z1 := XQ.out.cell 1
  simp at z0 z1
  by_cases hlt : i < kl
  ·have i0 : (i : Int) < (kl : Int) := by omega
   obtain ⟨x, hx⟩ : ∃ x, kd[i]? = some x := ⟨kd[i]'(by rw [HKL.out]; exact hlt), List.getElem?_eq_getElem _⟩
   obtain ⟨p0, p1, pr, -⟩ := HKC.out i x hx
   have hy : (kd.map Bw.ct)[i]? = some x.ct := by rw [List.getElem?_map, hx]; rfl
   have HX := kide (catS_take hy)
   rw [if_neg (by omega)] at HX
   have D0 := kide ((kcell hb _ _ (block_lt_of_cell p0)).trans p0)
   have D1 := kide ((kcell hb _ _ (block_lt_of_cell p1)).trans p1)
   have HJ := kide (fun v (hv : Below u.heap.size u v) (hrb : Rd v xb (catS ((kd.map Bw.ct).take i)).2) => specJoin_any (catS ((kd.map Bw.ct).take i)).1 xb cb (catS ((kd.map Bw.ct).take i)).2 x.wd x.a x.c x.ws v hrb (pr.later hv))
   obtain ⟨wd, xa, xc, xs⟩ := x
   simp only [Bw.ct, joinW] at HX HJ D0 D1
   generalize catS ((kd.map Bw.ct).take i) = X at *
   generalize hR : joinR X.1 X.2 wd xs = R at *
   have HR2 : Hid ((R.1, R.2.1) = two R) := rfl
   clear hq hr hb halt hc1 hc2 hwX hx hy p0 p1 pr hR
   go_wp2_with fail
   refine wp_region_x (SA := fun z => z.cell? ⟨u.heap.size + 1 + 1, 0, none⟩ = some (Value.int .i64 X.1) ∧ z.cell? ⟨u.heap.size + 1 + 1, 1, none⟩ = some (Value.slice xb X.2.length cb) ∧ z.cell? ⟨kb, ko + i * 2, none⟩ = some (Value.int .i64 wd) ∧ z.cell? ⟨kb, ko + i * 2 + 1, none⟩ = some (Value.slice xa xs.length xc)) (SB := fun _ => True) (k := 9) (by kernel_rfl) ?_
   have hbd : Below wr.heap.size wr wr.drew := (Below.refl _ _).drew
   have XQ0 := kide (XQ.out.later hbd)
   have XR0 := kide (XR.out.later hbd)
   have BW0 := kide BW.out.drew
   have D00 := kide ((kcell hbd _ _ (block_lt_of_cell D0.out)).trans D0.out)
   have D10 := kide ((kcell hbd _ _ (block_lt_of_cell D1.out)).trans D1.out)
   have HRB0 := kide (HRB.out.later hbd)
   clear hbd XQ XR BW D0 D1 HRB z0 z1
   generalize wr.drew = v0 at *
   have hs0 : Hid ((fun z => z.cell? ⟨u.heap.size + 1 + 1, 0, none⟩ = some (Value.int .i64 X.1) ∧ z.cell? ⟨u.heap.size + 1 + 1, 1, none⟩ = some (Value.slice xb X.2.length cb) ∧ z.cell? ⟨kb, ko + i * 2, none⟩ = some (Value.int .i64 wd) ∧ z.cell? ⟨kb, ko + i * 2 + 1, none⟩ = some (Value.slice xa xs.length xc)) v0) := ⟨XQ0.out.cell 0, XQ0.out.cell 1, D00.out, D10.out⟩
   try go_simp
   refine tkX (i := 0) (v := Value.agg #[.int .i64 X.1, .slice xb X.2.length cb]) rfl (by kernel_rfl) (fun _ _ _ h => by first | exact h | exact h.elim | cases h.1) hs0.out (Or.inl ⟨by rfl, fun z hz => by obtain ⟨e0, e1, e2, e3⟩ := hz; go_simp⟩) ?_
   try go_simp
   refine tkT (i := 1) (v := Value.slice (some ⟨kb, ko, none⟩) kl kc2) rfl (by kernel_rfl) (fun _ _ _ h => by first | exact h | exact h.elim | cases h.1) (Sx.before (by kernel_rfl) hs0.out) (Or.inl ⟨by rfl, fun z hz => by go_simp⟩) ?_
   try go_simp
   refine tkT (i := 2) (v := Value.int .i64 (i : Int)) rfl (by kernel_rfl) (fun _ _ _ h => by first | exact h | exact h.elim | cases h.1) (Sx.before (by kernel_rfl) hs0.out) (Or.inl ⟨by rfl, fun z hz => by go_simp⟩) ?_
   try go_simp
   refine tkT (i := 3) (v := Value.pointer (some ⟨kb, ko + i * 2, none⟩)) rfl (by kernel_rfl) (fun _ _ _ h => by first | exact h | exact h.elim | cases h.1) (Sx.before (by kernel_rfl) hs0.out) (Or.inl ⟨by rfl, fun z hz => by go_simp⟩) ?_
   try go_simp
   refine tkX (i := 4) (v := Value.agg #[.int .i64 wd, .slice xa xs.length xc]) rfl (by kernel_rfl) (fun _ _ _ h => by first | exact h | exact h.elim | cases h.1) hs0.out (Or.inl ⟨by rfl, fun z hz => by obtain ⟨e0, e1, e2, e3⟩ := hz; go_simp⟩) ?_
   try go_simp
   refine wpAnyX_ready (rs := [5]) (by kernel_rfl) (by simp) (AllX.cons rfl (fun K hK => ?_) AllX.nil)
   go_simp
   refine Calls.mono (HJ.out v0 BW0.out HRB0.out) ?_
   rintro e v1 ⟨a5, c5, rfl, hf1, hb1⟩
   have XQ1 := kide (XQ0.out.later hb1)
   have XR1 := kide (XR0.out.later hb1)
   have D01 := kide ((kcell hb1 _ _ (block_lt_of_cell D00.out)).trans D00.out)
   have D11 := kide ((kcell hb1 _ _ (block_lt_of_cell D10.out)).trans D10.out)
   have NW := kide ((Fresh.nwE hf1).mono (lo' := u.heap.size) BW0.out.size)
   have BW1 := kide (BW0.out.trans (hb1.mono BW0.out.size))
   clear hb1 hf1
   have hs1 : Hid ((fun z => z.cell? ⟨u.heap.size + 1 + 1, 0, none⟩ = some (Value.int .i64 X.1) ∧ z.cell? ⟨u.heap.size + 1 + 1, 1, none⟩ = some (Value.slice xb X.2.length cb) ∧ z.cell? ⟨kb, ko + i * 2, none⟩ = some (Value.int .i64 wd) ∧ z.cell? ⟨kb, ko + i * 2 + 1, none⟩ = some (Value.slice xa xs.length xc)) v1) := ⟨XQ1.out.cell 0, XQ1.out.cell 1, D01.out, D11.out⟩
   refine hK _ _ (Sx.before (by kernel_rfl) hs1.out) ?_
   clear hK K
   try go_simp
   refine tkT (i := 6) (v := Value.tuple #[.agg #[.int .i64 R.1, .slice a5 R.2.1.length c5], .bool R.2.2]) rfl (by kernel_rfl) (fun _ _ _ h => by first | exact h | exact h.elim | cases h.1) (Sx.before (by kernel_rfl) hs1.out) (Or.inl ⟨by rfl, fun z hz => by go_simp⟩) ?_
   try go_simp
   refine tkT (i := 7) (v := Value.agg #[.int .i64 R.1, .slice a5 R.2.1.length c5]) rfl (by kernel_rfl) (fun _ _ _ h => by first | exact h | exact h.elim | cases h.1) (Sx.before (by kernel_rfl) hs1.out) (Or.inl ⟨by rfl, fun z hz => by go_simp⟩) ?_
   try go_simp
   refine tkT (i := 8) (v := Value.bool R.2.2) rfl (by kernel_rfl) (fun _ _ _ h => by first | exact h | exact h.elim | cases h.1) (Sx.before (by kernel_rfl) hs1.out) (Or.inl ⟨by rfl, fun z hz => by go_simp⟩) ?_
   try go_simp
   refine wpAnyX_ready (rs := [9]) (by kernel_rfl) (by simp) (AllX.cons rfl (fun K hK => ?_) AllX.nil)
   have e8 := XQ1.out.cell 0
   have e9 := XQ1.out.cell 1
   have f8 := XQ1.out.froz 0
   have f9 := XQ1.out.froz 1
   simp at e8 e9
   go_simp
   have XQ2 : Hid (Bz ((v1.setCell ⟨u.heap.size + 1 + 1, 0, none⟩ (Value.int .i64 R.1)).setCell ⟨u.heap.size + 1 + 1, 1, none⟩ (Value.slice a5 R.2.1.length c5)) (u.heap.size + 1 + 1) #[.int .i64 R.1, .slice a5 R.2.1.length c5] 80) := (XQ1.out.set 0 _).set 1 _
   have XR2 : Hid (Bz ((v1.setCell ⟨u.heap.size + 1 + 1, 0, none⟩ (Value.int .i64 R.1)).setCell ⟨u.heap.size + 1 + 1, 1, none⟩ (Value.slice a5 R.2.1.length c5)) (u.heap.size + 1) #[.int .i64 0, .slice none 0 0] 80) := (XR1.out.other (by omega) 0 _).other (by omega) 1 _
   have BW2 : Hid (Below u.heap.size u ((v1.setCell ⟨u.heap.size + 1 + 1, 0, none⟩ (Value.int .i64 R.1)).setCell ⟨u.heap.size + 1 + 1, 1, none⟩ (Value.slice a5 R.2.1.length c5))) := (BW1.out.setCell (show u.heap.size ≤ u.heap.size + 1 + 1 by omega) _).setCell (show u.heap.size ≤ u.heap.size + 1 + 1 by omega) _
   have NW2 : Hid (Nw ((v1.setCell ⟨u.heap.size + 1 + 1, 0, none⟩ (Value.int .i64 R.1)).setCell ⟨u.heap.size + 1 + 1, 1, none⟩ (Value.slice a5 R.2.1.length c5)) u.heap.size a5 R.2.1) := ((NW.out.set XQ1.out (by decide) 0 _).set (XQ1.out.set 0 _) (by decide) 1 _)
   generalize (v1.setCell ⟨u.heap.size + 1 + 1, 0, none⟩ (Value.int .i64 R.1)).setCell ⟨u.heap.size + 1 + 1, 1, none⟩ (Value.slice a5 R.2.1.length c5) = v2 at *
   clear e8 e9 f8 f9
   refine hK _ _ (Sx.behind (by kernel_rfl) trivial) ?_
   clear hK K
   try go_simp
   refine wpAnyX_done (by kernel_rfl) ?_ _
   go_wp2_with fail
   go_roundw
   case rel => exact ⟨i + 1, a5, c5, by omega, by omega, by go_num, by rw [HX.out, ← HR2.out]; exact XQ2.out, XR2.out, BW2.out, .inr (by rw [HX.out, ← HR2.out]; exact NW2.out)⟩
   case measure => simp [intOf]; omega
  ·have e : i = kl := by omega
   have hfin : Hid ((kd.map Bw.ct).take i = kd.map Bw.ct) := by show _ = _; rw [List.take_of_length_le (by rw [List.length_map, HKL.out]; omega)]
   rcases halt with ⟨h1, -⟩ | hnw
   ·omega
   have NWX := kide hnw
   rw [hfin.out] at XQ NWX z0 z1
   have r0 := XR.out.cell 0
   have r1 := XR.out.cell 1
   have f0 := XR.out.froz 0
   have f1 := XR.out.froz 1
   simp at r0 r1
   generalize catS (kd.map Bw.ct) = X at *
   clear hq hr hb hnw hc1 hc2 hwX HRB hfin
   go_wp2_with fail
   obtain ⟨y0, y1⟩ := ((Bz.blk XR.out).put0' (.int .i64 X.1)).put1' (.slice xb X.2.length cb) |>.cells
   exact bodyPost_ret (v := .agg #[.int .i64 X.1, .slice xb X.2.length cb]) (by simp [results, Tryz.results74, go_sem, y0, y1]) rfl (RetV.box (Bz.blk XR.out) NWX.out (Nat.le_refl _) (Nat.le_succ _) BW.out)

theorem step_appB2E (w : World) {ops : Array Oper} {o : Oper} {a : Act} {K : Act → World → Prop} {Q : Exit → Act → World → Prop} {E : Prop} (hgd : o.guard = none) (s x : Operand)
  (ho : o.op = .call { callee := .builtin .append, args := #[s, x], argTypes := #[25, 25] })
  (base : Nat) (v : Value) (l : List Bw) (y : Bw) (hs : a.eval s = v) (hown : OB2 w base v l) (b c : Nat) (hx : a.eval x = .slice (some ⟨b, 0, none⟩) 1 c)
  (h0 : w.cell? ⟨b, 0, none⟩ = some (.int .i64 y.wd)) (h1 : w.cell? ⟨b, 1, none⟩ = some (.slice y.a y.ws.length y.c)) (hl : l.length ≤ 1073741824) (hbase : base ≤ w.heap.size)
  (h : ∀ g cap N w', OB2 w' base (.slice (some ⟨g, 0, none⟩) N cap) (l ++ [y]) → w.grownBy w' v.ownBlock → K (a.put o.dst (.slice (some ⟨g, 0, none⟩) N cap)) w') :
  if Region.wanted o (yielded ops a.tmps) = true then Oper.wp Tryz.prog o a w K Q else E :=
 step_appB2 w hgd s x ho base v l y hs hown b c hx h0 h1 hl hbase fun g cap w' k1 k2 => h g cap _ w' k1 k2
theorem OB2.typedE {w : World} {B : Nat} {v : Value} {l : List Bw} (h : OB2 w B v l) {b : Nat} {cs : Array Value} {t : TypeId} {fr : Nat × Nat} (hb : w.heap[b]? = some (.cells cs t fr)) (ht : t ≠ 80) : some b ≠ v.ownBlock := fun hk => by
 rcases h.2 with ⟨rfl, -⟩ | ⟨g, cap, cur, rfl, hg, hh, -⟩
 ·cases hk
 ·cases hk
  rw [hb] at hh
  cases hh
  exact ht rfl
theorem OB2.low {w : World} {B : Nat} {v : Value} {l : List Bw} (h : OB2 w B v l) {b : Nat} (hb : b < B) : some b ≠ v.ownBlock := fun hk => by
 have := (h.lt hk.symm).1
 omega
theorem OB2.put {w : World} {B : Nat} {v : Value} {l : List Bw} (h : OB2 w B v l) {b o : Nat} (hb : b < B) (x : Value) : OB2 (w.setCell ⟨b, o, none⟩ x) B v l := by
 have hne := h.low hb
 refine ⟨h.1, ?_⟩
 rcases h.2 with hn | ⟨g, cap, cur, rfl, hg, hh, rest⟩
 ·exact .inl hn
 ·refine .inr ⟨g, cap, cur, rfl, hg, ?_, rest⟩
  rw [heap_setCell_other _ _ _ _ (fun e => hne (by simp [Value.ownBlock, e]))]
  exact hh
structure Eh (w : World) (va b : Option Addr) (vn vc n c2 : Nat) (wr : World) (v : Value) (l : List Bw) : Prop where
 xt : Bz wr w.heap.size #[.slice b n c2] 28
 xr : Bz wr (w.heap.size + 1) #[.int .i64 0, .slice none 0 0] 80
 xe : Bz wr (w.heap.size + 1 + 1) #[.slice va vn vc, v] 151
 xb : Bz wr (w.heap.size + 1 + 1 + 1) #[Value.nilFunc, .func (Fn.func 109) #[.pointer (some ⟨w.heap.size + 1 + 1, 0, none⟩)] #[], .func (Fn.func 110) #[.pointer (some ⟨w.heap.size + 1 + 1, 0, none⟩)] #[], .func (Fn.func 111) #[.pointer (some ⟨w.heap.size + 1 + 1, 0, none⟩)] #[], .func (Fn.func 112) #[.pointer (some ⟨w.heap.size + 1 + 1, 0, none⟩)] #[], .func (Fn.func 113) #[.pointer (some ⟨w.heap.size + 1 + 1, 0, none⟩)] #[], .func (Fn.func 114) #[.pointer (some ⟨w.heap.size + 1 + 1, 0, none⟩)] #[], .func (Fn.func 115) #[.pointer (some ⟨w.heap.size + 1 + 1, 0, none⟩)] #[], .func (Fn.func 116) #[.pointer (some ⟨w.heap.size + 1 + 1, 0, none⟩)] #[], .func (Fn.func 117) #[.pointer (some ⟨w.heap.size + 1 + 1, 0, none⟩)] #[]] 153
 row : OB2 wr (w.heap.size + 4) v l
 nw : ∀ x ∈ l, Nw wr w.heap.size x.a x.ws
 bel : Below w.heap.size w wr
theorem Eh.later {w wr wr' : World} {va b : Option Addr} {vn vc n c2 : Nat} {v : Value} {l : List Bw} (h : Eh w va b vn vc n c2 wr v l) (hb : Below wr.heap.size wr wr') : Eh w va b vn vc n c2 wr' v l :=
 ⟨h.xt.later hb, h.xr.later hb, h.xe.later hb, h.xb.later hb, h.row.later hb, fun x hx => (h.nw x hx).later hb, h.bel.trans (hb.mono h.bel.size)⟩
theorem Eh.grown {w wr wr' : World} {va b : Option Addr} {vn vc n c2 : Nat} {v v' : Value} {l : List Bw} {y : Bw} (h : Eh w va b vn vc n c2 wr v l) (hg : wr.grownBy wr' v.ownBlock) (ho : OB2 wr' (w.heap.size + 4) v' (l ++ [y])) (hy : Nw wr w.heap.size y.a y.ws) :
  Eh w va b vn vc n c2 (wr'.setCell ⟨w.heap.size + 1 + 1, 1, none⟩ v') v' (l ++ [y]) := by
 have far : ∀ {b : Nat} {cs : Array Value} {t : TypeId}, Bz wr b cs t → b < w.heap.size + 4 → Bz wr' b cs t := fun {b cs t} hB hl => by
  unfold Bz; rw [hg.block b hB.lt (h.row.low hl)]; exact hB
 have kp : ∀ (k : Nat) (cur : Array Value), wr.heap[k]? = some (Obj.cells cur 109 (0, 0)) → (wr'.setCell ⟨w.heap.size + 1 + 1, 1, none⟩ v').heap[k]? = wr.heap[k]? := fun k cur hc => by
  have h1 := hg.block k (lt_of_block hc) (h.row.typedE hc (by decide))
  have hne : k ≠ w.heap.size + 1 + 1 := fun e => by
   subst e
   have := h.xe
   unfold Bz at this
   rw [this] at hc
   cases hc
  rw [heap_setCell_other _ _ _ _ (by simpa using hne), h1]
 refine ⟨(far h.xt (by omega)).other (by omega) 1 _, (far h.xr (by omega)).other (by omega) 1 _, (far h.xe (by omega)).set 1 _, (far h.xb (by omega)).other (by omega) 1 _, ho.put (by omega) _, fun x hx => ?_, ?_⟩
 ·rcases List.mem_append.1 hx with hx | hx
  ·exact Nw.kept (h.nw x hx) kp
  ·rw [List.mem_singleton.1 hx]; exact Nw.kept hy kp
 ·exact (h.bel.grown hg h.bel.size (fun k hk => by have := (h.row.lt hk).1; omega)).setCell (show w.heap.size ≤ w.heap.size + 1 + 1 by omega) _

theorem kids_at {l : List Bw} {ks : List Int} {i : Nat} (hi : i < ks.length) (hr : ∀ j ∈ ks, 0 ≤ j ∧ j < (l.length : Int)) :
  ∃ (j : Nat) (x : Bw), ks.getD i 0 = (j : Int) ∧ l[j]? = some x ∧ (kidsV (l.map Bw.ct) ks)[i]? = some x.ct := by
 have hg : ks.getD i 0 = ks[i] := by simp [List.getD, hi]
 have hm := hr ks[i] (List.getElem_mem hi)
 have hjl : ks[i].toNat < l.length := by omega
 refine ⟨ks[i].toNat, l[ks[i].toNat], by rw [hg]; omega, List.getElem?_eq_getElem hjl, ?_⟩
 simp [kidsV, List.getElem?_map, List.getElem?_eq_getElem hi, List.getD, hjl]
set_option maxHeartbeats 4000000 in
set_option maxRecDepth 100000 in
theorem evCat_any (eb : Nat) (vs l : List Bw) (n : Tc) (wa ka : Option Addr) (wc kc : Nat) (u : World) (hE : Evl u eb vs l) (hk : RdI u ka n.ks) (hr : ∀ j ∈ n.ks, 0 ≤ j ∧ j < (l.length : Int)) (hm : 1 ≤ n.ks.length) (hf : sumV (kidsV (l.map Bw.ct) n.ks) ≤ 4096) (hok : ∀ x ∈ l.map Bw.ct, okWd x) :
  Calls Tryz.prog 111 #[.pointer (some ⟨eb, 0, none⟩), nodA n wa ka wc kc] u (RetV u (catS (kidsV (l.map Bw.ct) n.ks))) := by
 obtain ⟨-, ⟨aa, ac, c1, ha⟩⟩ := hE
 have hla := ha.1
 have hlk := hk.1
 have HOK : Hid (∀ x ∈ kidsV (l.map Bw.ct) n.ks, okWd x) := fun x hx => by
  simp only [kidsV, List.mem_map] at hx
  obtain ⟨k, hk', rfl⟩ := hx
  have h := hr k hk'
  refine hok _ ?_
  have : k.toNat < (l.map Bw.ct).length := by simp; omega
  rw [List.getD, List.getElem?_eq_getElem this]
  exact List.getElem_mem this
 have HKA := kide (fun (i : Nat) (hi : i < n.ks.length) => kids_at hi hr)
 have HF := kide hf
 have HST := kide (sumV_take_le HOK.out)
 have HPOS : Hid (1 ≤ sumV (kidsV (l.map Bw.ct) n.ks)) := by
  have h := cat_all HOK.out hf (by simpa [kidsV] using hm)
  have := right_W h.2.1
  show _ ≤ _
  omega
 obtain ⟨op, vr, A, B, bw, ws, ks⟩ := n
 simp only [nodA] at *
 obtain ⟨kv, hkv⟩ : ∃ kv, kidsV (l.map Bw.ct) ks = kv := ⟨_, rfl⟩
 have HKV : Hid (kv.length = ks.length) := by show _ = _; rw [← hkv]; simp [kidsV]
 rw [hkv] at HOK HKA HF HST HPOS ⊢
 obtain ⟨kl, hkl⟩ : ∃ m, ks.length = m := ⟨_, rfl⟩
 rw [hkl] at HKA HKV hlk hm ⊢
 have HKL := kide hkl
 generalize ws.length = wl at *
 obtain ⟨-, -, h | ⟨kb, ko, rfl, hkc⟩⟩ := hk
 ·rw [h] at hkl; simp at hkl; omega
 have q0 := hkc 0 (by omega)
 have p0 : ∃ ab ao, aa = some ⟨ab, ao, none⟩ ∧ ∀ i x, l[i]? = some x → BwAt u ab (ao + i * 2) x := by
  obtain ⟨-, h | h⟩ := ha
  ·obtain ⟨j, x, -, h2, -⟩ := HKA.out 0 (by omega)
   rw [h] at h2; simp at h2
  ·exact h
 obtain ⟨ab, ao, rfl, hac⟩ := p0
 have lE := block_lt_of_cell c1
 have lK := block_lt_of_cell q0
 have HKC := kide hkc
 have HAC := kide hac
 have XA : Bz ((u.alloc (Obj.cells #[.int .i64 op, .int .i64 vr, .int .i64 A, .int .i64 B, .int .i64 bw, .slice wa wl wc, .slice (some ⟨kb, ko, none⟩) kl kc] 119)).alloc (Obj.cells #[.int .i64 0, .slice none 0 0] 80)) u.heap.size #[.int .i64 op, .int .i64 vr, .int .i64 A, .int .i64 B, .int .i64 bw, .slice wa wl wc, .slice (some ⟨kb, ko, none⟩) kl kc] 119 := (Bz.new u #[.int .i64 op, .int .i64 vr, .int .i64 A, .int .i64 B, .int .i64 bw, .slice wa wl wc, .slice (some ⟨kb, ko, none⟩) kl kc] 119).later ((Below.refl _ _).alloc (Nat.le_refl _) _)
 have XR : Bz ((u.alloc (Obj.cells #[.int .i64 op, .int .i64 vr, .int .i64 A, .int .i64 B, .int .i64 bw, .slice wa wl wc, .slice (some ⟨kb, ko, none⟩) kl kc] 119)).alloc (Obj.cells #[.int .i64 0, .slice none 0 0] 80)) (u.heap.size + 1) #[.int .i64 0, .slice none 0 0] 80 := by
  have := Bz.new (u.alloc (Obj.cells #[.int .i64 op, .int .i64 vr, .int .i64 A, .int .i64 B, .int .i64 bw, .slice wa wl wc, .slice (some ⟨kb, ko, none⟩) kl kc] 119)) #[.int .i64 0, .slice none 0 0] 80
  rw [World.size_alloc] at this
  exact this
 have BW : Below u.heap.size u ((u.alloc (Obj.cells #[.int .i64 op, .int .i64 vr, .int .i64 A, .int .i64 B, .int .i64 bw, .slice wa wl wc, .slice (some ⟨kb, ko, none⟩) kl kc] 119)).alloc (Obj.cells #[.int .i64 0, .slice none 0 0] 80)) := Ba (Ba (Below.refl _ _) _) _
 have t6 : ((u.alloc (Obj.cells #[.int .i64 op, .int .i64 vr, .int .i64 A, .int .i64 B, .int .i64 bw, .slice wa wl wc, .slice (some ⟨kb, ko, none⟩) kl kc] 119)).alloc (Obj.cells #[.int .i64 0, .slice none 0 0] 80)).cell? ⟨u.heap.size, 6, none⟩ = some (.slice (some ⟨kb, ko, none⟩) kl kc) := XA.cell 6
 clear hr hkl ha hkc hac q0 hok hf hkv
 go_enter Tryz.func111, Tryz.ntmps111
 go_wp2_with fail
 generalize ((u.alloc (Obj.cells #[.int .i64 op, .int .i64 vr, .int .i64 A, .int .i64 B, .int .i64 bw, .slice wa wl wc, .slice (some ⟨kb, ko, none⟩) kl kc] 119)).alloc (Obj.cells #[.int .i64 0, .slice none 0 0] 80)) = w1 at *
 go_loopw [5, 14] (fun m q wr => ∃ i : Nat, i ≤ kl ∧ q = .int .i64 (i : Int) ∧ m = .int .i64 (sumV (kv.take i)) ∧ wr = w1) (fun _ q _ => kl - (intOf q).toNat)
 case atStart => exact ⟨0, Nat.zero_le _, rfl, by simp [sumV], by trivial⟩
 case round =>
  obtain ⟨i, hi, rfl, rfl, hwe⟩ := hrel
  subst hwe
  have hsr := HST.out i
  have hT := HF.out
  by_cases hlt : i < kl
  ·obtain ⟨j, x, hj, hx, hy⟩ := HKA.out i hlt
   have k0 := HKC.out i (by rw [HKL.out]; exact hlt)
   rw [hj] at k0
   have d0 := (kcell BW _ _ (block_lt_of_cell k0)).trans k0
   obtain ⟨p0, -, -, -⟩ := HAC.out j x hx
   have d1 := (kcell BW _ _ (block_lt_of_cell p0)).trans p0
   have d2 := (kcell BW _ _ lE).trans c1
   have HTK := kide (sumV_take hy)
   have hsr2 := HST.out (i + 1)
   rw [HTK.out] at hsr2
   have hwr := right_W (HOK.out _ (List.mem_of_getElem? hy)).1
   have hjl : j < l.length := (List.getElem?_eq_some_iff.1 hx).1
   obtain ⟨wd, xa, xc, xs⟩ := x
   simp only [Bw.ct] at *
   generalize sumV (kv.take i) = sm at *
   generalize sumV kv = T at *
   have i0 : (i : Int) < (kl : Int) := by omega
   have i1 : (j : Int) < (l.length : Int) := by omega
   clear k0 p0 hx hy hj
   go_wp2_with fail
   go_roundw
   case rel => exact ⟨i + 1, by omega, by go_num, by rw [HTK.out], by trivial⟩
   case measure => simp [intOf]; omega
  ·have hfin : Hid (kv.take i = kv) := by show _ = _; rw [List.take_of_length_le (by rw [HKV.out]; omega)]
   rw [hfin.out]
   obtain ⟨T, hTn⟩ := Int.eq_ofNat_of_zero_le (show 0 ≤ sumV kv by have := HPOS.out; omega)
   have hp := HPOS.out
   have HTN := kide hTn
   rw [hTn] at hT hp ⊢
   have HZ := kide (zeroBits_any T wr (by omega) (by omega))
   clear hsr hTn hfin
   go_wp2_with fail
   refine Calls.mono HZ.out ?_
   rintro e w2 ⟨g, rfl, hg, ho2, hb2⟩
   have XA2 := XA.later hb2
   have XR2 := XR.later hb2
   have BW2 := BW.trans (hb2.mono BW.size)
   have hb3 : Below w2.heap.size w2 (w2.alloc (Obj.cells #[.int .i64 (T : Int), .slice (some ⟨g, 0, none⟩) ((T + 63) / 64) ((T + 63) / 64)] 80)) := (Below.refl _ _).alloc (Nat.le_refl _) _
   have XA3 := XA2.later hb3
   have XR3 := XR2.later hb3
   have XK3 := Bz.new w2 #[.int .i64 (T : Int), .slice (some ⟨g, 0, none⟩) ((T + 63) / 64) ((T + 63) / 64)] 80
   have BW3 := BW2.trans (hb3.mono BW2.size)
   have OW3 := ho2.later hb3 ho2.lt
   have t63 : (w2.alloc (Obj.cells #[.int .i64 (T : Int), .slice (some ⟨g, 0, none⟩) ((T + 63) / 64) ((T + 63) / 64)] 80)).cell? ⟨u.heap.size, 6, none⟩ = some (.slice (some ⟨kb, ko, none⟩) kl kc) := XA3.cell 6
   have hgw := ho2.lt
   have hgl : u.heap.size + 2 ≤ g := by have := XR.lt; omega
   clear HZ hlt hb3 ho2 hb2 XA2 XR2 BW2
   go_wp2_with fail
   obtain ⟨rb, hrb⟩ : ∃ rb, w2.heap.size = rb := ⟨_, rfl⟩
   rw [hrb] at XK3 hgw ⊢
   generalize w2.alloc (Obj.cells #[.int .i64 (T : Int), .slice (some ⟨g, 0, none⟩) ((T + 63) / 64) ((T + 63) / 64)] 80) = w3 at *
   go_loopw [5, 34] (fun m q wr => ∃ (i P : Nat) (zs : List Nat), i ≤ kl ∧ q = .int .i64 (i : Int) ∧ m = .int .i64 (P : Int) ∧ (P : Int) + sumV (kv.take i) = (T : Int) ∧ catSo kv i P zs ∧ zs.length = (T + 63) / 64 ∧ (∀ y ∈ zs, y < 18446744073709551616) ∧ Own wr g zs ∧ w3.grownBy wr (some g)) (fun _ q _ => kl - (intOf q).toNat)
   case atStart => exact ⟨0, T, List.replicate ((T + 63) / 64) 0, Nat.zero_le _, rfl, rfl, by simp [sumV], catSo.start _ _ _, by simp, by simp, OW3, World.grownBy.refl _ _⟩
   case round =>
    obtain ⟨i2, P, zs, hi2, rfl, rfl, hPs, hso, hzl, hzb, hown, hgr⟩ := hrel
    have BR := BW3.grown hgr BW3.size (fun k e => by cases e; omega)
    have hbk := fun (b : Nat) (h1 : b < w3.heap.size) (h2 : b ≠ g) => hgr.block b h1 (by simpa using h2)
    have XKr : Bz wr rb #[.int .i64 (T : Int), .slice (some ⟨g, 0, none⟩) ((T + 63) / 64) ((T + 63) / 64)] 80 := by
     unfold Bz; rw [hbk rb XK3.lt (by omega)]; exact XK3
    have XRr : Bz wr (u.heap.size + 1) #[.int .i64 0, .slice none 0 0] 80 := by
     unfold Bz; rw [hbk _ XR3.lt (by omega)]; exact XR3
    have y0 := XKr.cell 0
    have y1 := XKr.cell 1
    simp at y0 y1
    by_cases hlt : i2 < kl
    ·obtain ⟨j, x, hj, hx, hy⟩ := HKA.out i2 hlt
     have k0 := HKC.out i2 (by rw [HKL.out]; exact hlt)
     rw [hj] at k0
     have d0 := (BR.cell (p := ⟨kb, ko + i2, none⟩) (block_lt_of_cell k0)).trans k0
     obtain ⟨p0, p1, pr, -⟩ := HAC.out j x hx
     have d1 := (BR.cell (p := ⟨ab, ao + j * 2, none⟩) (block_lt_of_cell p0)).trans p0
     have d3 := (BR.cell (p := ⟨ab, ao + j * 2 + 1, none⟩) (block_lt_of_cell p1)).trans p1
     have d2 := (BR.cell (p := ⟨eb, 1, none⟩) lE).trans c1
     have HTK := kide (sumV_take hy)
     have hsr2 := HST.out (i2 + 1)
     have hsr0 := (HST.out i2).1
     rw [HTK.out, HTN.out] at hsr2
     have hxo := HOK.out _ (List.mem_of_getElem? hy)
     have hwr := right_W hxo.1
     have hjl : j < l.length := (List.getElem?_eq_some_iff.1 hx).1
     have HSTP := kide (fun (P V : Nat) (hz : catSo kv i2 (P + V) zs) (hV : x.ct.1 = (V : Int)) (hrm : P + V ≤ 64 * zs.length) => hz.step HOK.out HF.out hy hV hrm)
     obtain ⟨wd, xa, xc, xs⟩ := x
     simp only [Bw.ct] at *
     obtain ⟨V, rfl⟩ := Int.eq_ofNat_of_zero_le (show 0 ≤ wd by omega)
     obtain ⟨Q, hQ⟩ := Int.eq_ofNat_of_zero_le (show 0 ≤ (P : Int) - (V : Int) by omega)
     have hPQ : P = Q + V := by omega
     have hSt := HSTP.out Q V (by rw [← hPQ]; exact hso) rfl (by omega)
     have hrr : Rd wr xa xs := by
      refine ⟨pr.1, pr.2.1, ?_⟩
      rcases pr.2.2 with h | ⟨b', o', h, hc'⟩
      ·exact .inl h
      ·exact .inr ⟨b', o', h, fun i hi => (BR.cell (p := ⟨b', o' + i, none⟩) (block_lt_of_cell (hc' i hi))).trans (hc' i hi)⟩
     have HPB := kide (fun v (hv : Own v g zs) (hr : Rd v xa xs) => putBits_any (T : Int) (V : Int) g ((T + 63) / 64) xc Q xa zs xs v hv hr hzb (by omega) (by omega) (by omega) (put_fit hxo.1 hxo.2 Q zs.length (by omega)) (fun x e => by have := Rd.lt pr (by omega) x e; omega))
     rw [hzl] at HPB
     have HLT := kide (putTo_lt zs xs (Q / 64) (Q % 64) xs.length hzb hxo.2)
     have HLN := kide (putTo_len zs xs (Q / 64) (Q % 64) xs.length)
     have HSS := kide hSt
     have i0 : (i2 : Int) < (kl : Int) := by omega
     have i1 : (j : Int) < (l.length : Int) := by omega
     have hOW := kide hown
     have HRR := kide hrr
     have wQ : IntKind.i64.wrap (Q : Int) = (Q : Int) := by rw [IntKind.wrap_i64]; omega
     have hgw3 : g < wr.heap.size := hown.lt
     have lA := block_lt_of_cell d1
     have lA1 := block_lt_of_cell d3
     have lE2 := block_lt_of_cell d2
     have lR := XKr.lt
     have nA : ab ≠ g := by have := block_lt_of_cell p0; simp only [] at this; omega
     have nE : eb ≠ g := by omega
     have nR : rb ≠ g := by omega
     clear k0 p0 p1 pr hx hy hj hso hSt hrr hown hbk HSTP hsr2 hxo XRr XKr
     go_wp2_with fail
     go_region_held3 (fun v => v.cell? ⟨rb, 0, none⟩ = some (.int .i64 (T : Int)) ∧ v.cell? ⟨rb, 1, none⟩ = some (.slice (some ⟨g, 0, none⟩) ((T + 63) / 64) ((T + 63) / 64)) ∧ v.cell? ⟨eb, 1, none⟩ = some (.slice (some ⟨ab, ao, none⟩) l.length ac) ∧ v.cell? ⟨ab, ao + j * 2, none⟩ = some (.int .i64 (V : Int)) ∧ v.cell? ⟨ab, ao + j * 2 + 1, none⟩ = some (.slice xa xs.length xc)) (simp [*])
      ((go_at_call 136; refine Calls.mono (HPB.out _ hOW.out HRR.out) ?_; rintro e w5 ⟨rfl, ho5, hg5⟩; replace hg5 : wr.grownBy w5 (some g) := ⟨hg5.os, hg5.tape, hg5.output, hg5.size, hg5.block⟩; have z0 := (World.cell?_of_block (a := ⟨rb, 0, none⟩) (hg5.block rb lR (by simpa using nR))).trans y0; have z1 := (World.cell?_of_block (a := ⟨rb, 1, none⟩) (hg5.block rb lR (by simpa using nR))).trans y1; have z2 := (World.cell?_of_block (a := ⟨eb, 1, none⟩) (hg5.block eb lE2 (by simpa using nE))).trans d2; have z3 := (World.cell?_of_block (a := ⟨ab, ao + j * 2, none⟩) (hg5.block ab lA (by simpa using nA))).trans d1; have z4 := (World.cell?_of_block (a := ⟨ab, ao + j * 2 + 1, none⟩) (hg5.block ab lA1 (by simpa using nA))).trans d3))
     go_wp2_with fail
     go_roundw
     case rel => exact ⟨i2 + 1, Q, _, by omega, by go_num, by first | rfl | rw [hQ], by rw [HTK.out]; omega, HSS.out, by rw [HLN.out]; exact hzl, HLT.out, ho5, hgr.trans hg5⟩
     case measure => simp [intOf]; omega
    ·have hfin : Hid (kv.take i2 = kv) := by show _ = _; rw [List.take_of_length_le (by rw [HKV.out]; omega)]
     have e2 : i2 = kv.length := by rw [HKV.out]; omega
     rw [hfin.out, HTN.out] at hPs
     have hP0 : P = 0 := by omega
     subst hP0
     rw [e2] at hso
     have HD := kide (hso.done HOK.out HF.out (by rw [HKV.out]; omega) HTN.out hzl hzb)
     rw [HD.out]
     have r0 := XRr.cell 0
     have r1 := XRr.cell 1
     have f0 := XRr.froz 0
     have f1 := XRr.froz 1
     simp at r0 r1
     have HOW := kide hown
     have HZL := kide hzl
     have HBR := kide BR
     have HXR := kide XRr
     clear hso hown hbk hfin e2 hzb
     go_wp2_with fail
     obtain ⟨x0, x1⟩ := ((Bz.blk HXR.out).put0' (.int .i64 (T : Int))).put1' (.slice (some ⟨g, 0, none⟩) ((T + 63) / 64) ((T + 63) / 64)) |>.cells
     refine bodyPost_ret (v := .agg #[.int .i64 (T : Int), .slice (some ⟨g, 0, none⟩) ((T + 63) / 64) ((T + 63) / 64)]) (by simp [results, Tryz.results111, go_sem, x0, x1]) rfl ?_
     first | rw [HD.out, ← HZL.out] | rw [← HZL.out]
     exact RetV.box (Bz.blk HXR.out) (Own.nw HOW.out (lo := u.heap.size) (by omega)) (Nat.le_refl _) (Nat.le_succ _) HBR.out

set_option maxHeartbeats 1000000 in
set_option maxRecDepth 100000 in
theorem evVar_any (eb : Nat) (vs l : List Bw) (n : Tc) (wa ka : Option Addr) (wc kc : Nat) (u : World) (hE : Evl u eb vs l) (k : Nat) (x : Bw) (hk : n.vr = (k : Int)) (hx : vs[k]? = some x) (hw : 1 ≤ x.ws.length) :
  Calls Tryz.prog 109 #[.pointer (some ⟨eb, 0, none⟩), nodA n wa ka wc kc] u (RetV u x.ct) := by
 obtain ⟨⟨va, vc, c1, hv⟩, -⟩ := hE
 have hkl := (List.getElem?_eq_some_iff.1 hx).1
 have hla := hv.1
 obtain ⟨-, h | ⟨vb, vo, rfl, hvc⟩⟩ := hv
 ·rw [h] at hkl; simp at hkl
 obtain ⟨p0, p1, pr, -⟩ := hvc k x hx
 have HC := kide (fun v (hv : Below u.heap.size u v) => copyBits_any x.wd x.a x.c x.ws v (pr.later hv) hw)
 have l0 := block_lt_of_cell c1
 have l2 := block_lt_of_cell p0
 have l3 := block_lt_of_cell p1
 obtain ⟨op, vr, A, B, bw, ws, ks⟩ := n
 obtain ⟨wd, xa, xc, xs⟩ := x
 simp only [nodA, Bw.ct] at *
 subst hk
 have hkl' : (k : Int) < (vs.length : Int) := by omega
 clear hvc hx pr
 generalize ws.length = wl at *
 generalize ks.length = kl at *
 have XA : Bz ((u.alloc (Obj.cells #[.int .i64 op, .int .i64 (k : Int), .int .i64 A, .int .i64 B, .int .i64 bw, .slice wa wl wc, .slice ka kl kc] 119)).alloc (Obj.cells #[.int .i64 0, .slice none 0 0] 80)) u.heap.size #[.int .i64 op, .int .i64 (k : Int), .int .i64 A, .int .i64 B, .int .i64 bw, .slice wa wl wc, .slice ka kl kc] 119 := (Bz.new u #[.int .i64 op, .int .i64 (k : Int), .int .i64 A, .int .i64 B, .int .i64 bw, .slice wa wl wc, .slice ka kl kc] 119).later ((Below.refl _ _).alloc (Nat.le_refl _) _)
 have XR : Bz ((u.alloc (Obj.cells #[.int .i64 op, .int .i64 (k : Int), .int .i64 A, .int .i64 B, .int .i64 bw, .slice wa wl wc, .slice ka kl kc] 119)).alloc (Obj.cells #[.int .i64 0, .slice none 0 0] 80)) (u.heap.size + 1) #[.int .i64 0, .slice none 0 0] 80 := by
  have := Bz.new (u.alloc (Obj.cells #[.int .i64 op, .int .i64 (k : Int), .int .i64 A, .int .i64 B, .int .i64 bw, .slice wa wl wc, .slice ka kl kc] 119)) #[.int .i64 0, .slice none 0 0] 80
  rw [World.size_alloc] at this
  exact this
 have BW : Below u.heap.size u ((u.alloc (Obj.cells #[.int .i64 op, .int .i64 (k : Int), .int .i64 A, .int .i64 B, .int .i64 bw, .slice wa wl wc, .slice ka kl kc] 119)).alloc (Obj.cells #[.int .i64 0, .slice none 0 0] 80)) := Ba (Ba (Below.refl _ _) _) _
 have d0 := (kcell BW _ _ l0).trans c1
 have d1 : ((u.alloc (Obj.cells #[.int .i64 op, .int .i64 (k : Int), .int .i64 A, .int .i64 B, .int .i64 bw, .slice wa wl wc, .slice ka kl kc] 119)).alloc (Obj.cells #[.int .i64 0, .slice none 0 0] 80)).cell? ⟨u.heap.size, 1, none⟩ = some (.int .i64 (k : Int)) := XA.cell 1
 have d2 := (kcell BW _ _ l2).trans p0
 have d3 := (kcell BW _ _ l3).trans p1
 have m0 := Nat.lt_of_lt_of_le l0 BW.size
 have m1 := XA.lt
 have m2 := Nat.lt_of_lt_of_le l2 BW.size
 have m3 := Nat.lt_of_lt_of_le l3 BW.size
 try simp only [] at l0 l2 l3 m0 m2 m3
 clear c1 p0 p1
 go_enter Tryz.func109, Tryz.ntmps109
 go_wp2_with fail
 generalize ((u.alloc (Obj.cells #[.int .i64 op, .int .i64 (k : Int), .int .i64 A, .int .i64 B, .int .i64 bw, .slice wa wl wc, .slice ka kl kc] 119)).alloc (Obj.cells #[.int .i64 0, .slice none 0 0] 80)) = w1 at *
 go_region_held_law (fun v => v.cell? ⟨eb, 0, none⟩ = some (.slice (some ⟨vb, vo, none⟩) vs.length vc) ∧ v.cell? ⟨u.heap.size, 1, none⟩ = some (.int .i64 (k : Int)) ∧ v.cell? ⟨vb, vo + k * 2, none⟩ = some (.int .i64 wd) ∧ v.cell? ⟨vb, vo + k * 2 + 1, none⟩ = some (.slice xa xs.length xc))
  (first | (refine ⟨?_, ?_, ?_, ?_⟩ <;> assumption) | (refine ⟨?_, ?_, ?_, ?_⟩ <;> ((first | rw [set2_far _ _ _ _ _ (by simp only []; omega)] | rw [drew2_far _ _ _ _ _ (by simp only []; omega)]); assumption)))
  (first
   | (go_at_call 134; refine Calls.mono (HC.out _ ?_) ?_; exact BW.drew; rintro e w2 ⟨a5, c5, rfl, hn2, hb2⟩; replace hb2 := kundrew hb2; have XR2 := XR.later hb2; have d0x := (kcell hb2 _ _ m0).trans d0; have d1x := (kcell hb2 _ _ m1).trans d1; have d2x := (kcell hb2 _ _ m2).trans d2; have d3x := (kcell hb2 _ _ m3).trans d3; obtain ⟨r0, r1⟩ := XR2.blk.cells; have f50 := XR2.froz 0; have f51 := XR2.froz 1; simp only [] at hn2 r0 r1))
 go_wp2
 obtain ⟨y0, y1⟩ := ((Bz.blk XR2).put0' (.int .i64 wd)).put1' (.slice a5 xs.length c5) |>.cells
 have BW2 := BW.trans (hb2.mono BW.size)
 refine bodyPost_ret (v := .agg #[.int .i64 wd, .slice a5 xs.length c5]) (by simp [results, Tryz.results109, go_sem, y0, y1]) rfl ?_
 have HN := RetV.box (W := wd) (c := c5) (Bz.blk XR2) hn2 BW.size (Nat.le_succ _) BW2
 first | exact HN | exact ⟨a5, c5, rfl, (by obtain ⟨-, -, -, h, -⟩ := HN; exact h), (by obtain ⟨-, -, -, -, h⟩ := HN; exact h.drew)⟩
set_option maxHeartbeats 1000000 in
set_option maxRecDepth 100000 in
theorem evConst_any (eb : Nat) (n : Tc) (wa ka : Option Addr) (wc kc : Nat) (u : World) (hr : Rd u wa n.ws) (hw : 1 ≤ n.ws.length) :
  Calls Tryz.prog 110 #[.pointer (some ⟨eb, 0, none⟩), nodA n wa ka wc kc] u (RetV u (n.bw, n.ws)) := by
 have HC := kide (fun v (hv : Below u.heap.size u v) => copyBits_any n.bw wa wc n.ws v (hr.later hv) hw)
 obtain ⟨op, vr, A, B, bw, ws, ks⟩ := n
 simp only [nodA] at *
 clear hr
 generalize ks.length = kl at *
 have XA : Bz ((u.alloc (Obj.cells #[.int .i64 op, .int .i64 vr, .int .i64 A, .int .i64 B, .int .i64 bw, .slice wa ws.length wc, .slice ka kl kc] 119)).alloc (Obj.cells #[.int .i64 0, .slice none 0 0] 80)) u.heap.size #[.int .i64 op, .int .i64 vr, .int .i64 A, .int .i64 B, .int .i64 bw, .slice wa ws.length wc, .slice ka kl kc] 119 := (Bz.new u #[.int .i64 op, .int .i64 vr, .int .i64 A, .int .i64 B, .int .i64 bw, .slice wa ws.length wc, .slice ka kl kc] 119).later ((Below.refl _ _).alloc (Nat.le_refl _) _)
 have XR : Bz ((u.alloc (Obj.cells #[.int .i64 op, .int .i64 vr, .int .i64 A, .int .i64 B, .int .i64 bw, .slice wa ws.length wc, .slice ka kl kc] 119)).alloc (Obj.cells #[.int .i64 0, .slice none 0 0] 80)) (u.heap.size + 1) #[.int .i64 0, .slice none 0 0] 80 := by
  have := Bz.new (u.alloc (Obj.cells #[.int .i64 op, .int .i64 vr, .int .i64 A, .int .i64 B, .int .i64 bw, .slice wa ws.length wc, .slice ka kl kc] 119)) #[.int .i64 0, .slice none 0 0] 80
  rw [World.size_alloc] at this
  exact this
 have BW : Below u.heap.size u ((u.alloc (Obj.cells #[.int .i64 op, .int .i64 vr, .int .i64 A, .int .i64 B, .int .i64 bw, .slice wa ws.length wc, .slice ka kl kc] 119)).alloc (Obj.cells #[.int .i64 0, .slice none 0 0] 80)) := Ba (Ba (Below.refl _ _) _) _
 have d0 : ((u.alloc (Obj.cells #[.int .i64 op, .int .i64 vr, .int .i64 A, .int .i64 B, .int .i64 bw, .slice wa ws.length wc, .slice ka kl kc] 119)).alloc (Obj.cells #[.int .i64 0, .slice none 0 0] 80)).cell? ⟨u.heap.size, 4, none⟩ = some (.int .i64 bw) := XA.cell 4
 have d1 : ((u.alloc (Obj.cells #[.int .i64 op, .int .i64 vr, .int .i64 A, .int .i64 B, .int .i64 bw, .slice wa ws.length wc, .slice ka kl kc] 119)).alloc (Obj.cells #[.int .i64 0, .slice none 0 0] 80)).cell? ⟨u.heap.size, 5, none⟩ = some (.slice wa ws.length wc) := XA.cell 5
 have m0 := XA.lt
 have m1 := XA.lt
 go_enter Tryz.func110, Tryz.ntmps110
 go_wp2_with fail
 generalize ((u.alloc (Obj.cells #[.int .i64 op, .int .i64 vr, .int .i64 A, .int .i64 B, .int .i64 bw, .slice wa ws.length wc, .slice ka kl kc] 119)).alloc (Obj.cells #[.int .i64 0, .slice none 0 0] 80)) = w1 at *
 refine Calls.mono (HC.out _ BW) ?_
 rintro e w2 ⟨a5, c5, rfl, hn2, hb2⟩
 have XR2 := XR.later hb2
 obtain ⟨r0, r1⟩ := XR2.blk.cells
 have f50 := XR2.froz 0
 have f51 := XR2.froz 1
 simp only [] at hn2 r0 r1
 go_wp2
 obtain ⟨y0, y1⟩ := ((Bz.blk XR2).put0' (.int .i64 bw)).put1' (.slice a5 ws.length c5) |>.cells
 have BW2 := BW.trans (hb2.mono BW.size)
 refine bodyPost_ret (v := .agg #[.int .i64 bw, .slice a5 ws.length c5]) (by simp [results, Tryz.results110, go_sem, y0, y1]) rfl ?_
 have HN := RetV.box (W := bw) (c := c5) (Bz.blk XR2) hn2 BW.size (Nat.le_succ _) BW2
 first | exact HN | exact ⟨a5, c5, rfl, (by obtain ⟨-, -, -, h, -⟩ := HN; exact h), (by obtain ⟨-, -, -, -, h⟩ := HN; exact h.drew)⟩



def sideR (ds : List Dc) (l : Lc) : Bool := decide (0 ≤ widR ds l.ss) && decide (widR ds l.ts = widR ds l.ss)
def goL (ds : List Dc) : Int → List Lc → Bool
 | _, [] => true
 | last, l :: t => decide (last < l.id ∧ l.id ≤ 1000000) && sideR ds l && goL ds l.id t
def litR (ds : List Dc) (ls : List Lc) : Bool := dclR ds && decide (ls.length ≤ 60) && goL ds 0 ls
theorem goL_step {ds : List Dc} {last : Int} {ls : List Lc} {k : Nat} {l : Lc} (h : ls[k]? = some l) : goL ds last (ls.drop k) = (decide (last < l.id ∧ l.id ≤ 1000000) && sideR ds l && goL ds l.id (ls.drop (k + 1))) := by
 obtain ⟨hk, rfl⟩ := List.getElem?_eq_some_iff.1 h
 rw [List.drop_eq_getElem_cons hk, goL]
def lastR (R : List Int) : Int := if R.length = 0 then -1 else R.getD (R.length - 1) 0
theorem lastR_pos {R : List Int} (h : ∀ x ∈ R, 1 ≤ x ∧ x ≤ 4096) (h0 : R.length ≠ 0) : 1 ≤ lastR R := by
 unfold lastR
 rw [if_neg h0]
 have hl : R.length - 1 < R.length := by omega
 have := h _ (List.getElem_mem hl)
 simp [List.getD, hl]
 omega
def sideL (R T : List Int) : Bool := decide (0 ≤ lastR R) && decide (lastR T = lastR R)
set_option maxHeartbeats 1000000 in
set_option maxRecDepth 100000 in
theorem sidesOk_any (a : Option Addr) (c : Nat) (ds : List Dc) (id : Int) (q : Bool) (sa ta : Option Addr) (n sc m tc : Nat) (xs ys : List Tg) (w : World) (hr : RdD w a ds) (h1 : RdT w sa xs) (h2 : RdT w ta ys) (l1 : xs.length = n) (l2 : ys.length = m) (hG : GF w) (hD : dclR ds = true) :
  Calls Tryz.prog 78 #[.slice a ds.length c, .agg #[.int .i64 id, .bool q, .slice sa n sc, .slice ta m tc]] w fun e w' => e = .returned (.bool (sideR ds ⟨id, q, xs.map Tg.ct, ys.map Tg.ct⟩)) ∧ Below w.heap.size w w' := by
 have H1 := kide (fun u (hu : Below w.heap.size w u) => widthsOf_any a sa c sc n ds xs u (hr.later hu) (h1.later hu) l1 (hG.later hu) hD)
 have H2 := kide (fun u (hu : Below w.heap.size w u) => widthsOf_any a ta c tc m ds ys u (hr.later hu) (h2.later hu) l2 (hG.later hu) hD)
 have b1 := widthsR_bounds ds (xs.map Tg.ct)
 have b2 := widthsR_bounds ds (ys.map Tg.ct)
 rw [show sideR ds ⟨id, q, xs.map Tg.ct, ys.map Tg.ct⟩ = sideL (widthsR ds (xs.map Tg.ct)) (widthsR ds (ys.map Tg.ct)) from rfl]
 generalize widthsR ds (xs.map Tg.ct) = R at *
 generalize widthsR ds (ys.map Tg.ct) = T at *
 obtain ⟨b1, b1'⟩ := b1
 obtain ⟨b2, b2'⟩ := b2
 have s0 := St.start w (.cells #[.int .i64 id, .bool q, .slice sa n sc, .slice ta m tc] 30)
 have HB1 := kide b1'
 have HB2 := kide b2'
 clear hr h1 h2 l1 l2 hG hD b1' b2'
 generalize hZ : sideL R T = Z
 have HZ := kide hZ
 clear hZ
 go_enter Tryz.func78, Tryz.ntmps78
 go_wp2_with fail
 have t2 := s0.cell 2
 have t3 := s0.cell 3
 simp only [List.getElem?_toArray, List.getElem?_cons_succ, List.getElem?_cons_zero] at t2 t3
 generalize w.alloc (Obj.cells #[.int .i64 id, .bool q, .slice sa n sc, .slice ta m tc] 30) = W at *
 have S0 := kide s0.below
 go_region_held3 (fun u => u.cell? ⟨w.heap.size, 2, none⟩ = some (Value.slice sa n sc) ∧ u.cell? ⟨w.heap.size, 3, none⟩ = some (Value.slice ta m tc)) (simp [*])
  (first
   | (go_at_call 107; refine Calls.mono (H2.out w1 S1.out) ?_; rintro e w2 ⟨aT, cT, rfl, rT, nT, hb2⟩; have s2 := s1.next hb2; have j2 := (kcell hb2 w.heap.size 2 s1.size).trans k2; have j3 := (kcell hb2 w.heap.size 3 s1.size).trans k3; have RR2 := kide (RR.out.later hb2); have RT := kide rT; have NT := kide nT; clear rT nT hb2)
   | (go_at_call 107; refine Calls.mono (H1.out _ ?_) ?_; exact S0.out.drew; rintro e w1 ⟨aR, cR, rfl, rR, nR, hb1⟩; replace hb1 := kundrew hb1; have s1 := St.next (wk := W) s0 hb1; have k2 := (kcell hb1 w.heap.size 2 s0.size).trans t2; have k3 := (kcell hb1 w.heap.size 3 s0.size).trans t3; have RR := kide rR; have NR := kide nR; have S1 := kide s1.below; clear rR nR hb1))
 clear s0 s1 t2 t3 k2 k3 j2 j3
 have hneq := fun (w : World) (a : Option Addr) (n c : Nat) => run_neq_slice_nil_any (P := Tryz.prog) w 39 2 a n c 0 0 Tryz.underlying39
 by_cases hR0 : R = []
 ·have e := NR.out hR0
  subst hR0
  subst e
  have HF : Hid (Z = false) := by show _ = _; rw [← HZ.out]; simp [sideL, lastR]
  go_wp2_with fail
  go_quiet (fail)
  go_wp2_with fail
  go_ret
  exact ⟨ret_bool HF.out.symm, below_drewN s2.below _⟩
 ·obtain ⟨-, -, h | ⟨b3, o3, rfl, hc3⟩⟩ := RR2.out
  ·exact absurd h hR0
  by_cases hT0 : T = []
  ·have e := NT.out hT0
   subst hT0
   subst e
   have HF : Hid (Z = false) := by
    show _ = _
    rw [← HZ.out]
    have := lastR_pos HB1.out (fun h => hR0 (List.eq_nil_of_length_eq_zero h))
    have e0 : lastR [] = -1 := rfl
    show (decide (0 ≤ lastR R) && decide (lastR [] = lastR R)) = false
    rw [e0, decide_eq_false (by omega : ¬ (-1 = lastR R)), Bool.and_false]
   clear hc3 hR0
   go_wp2_with fail
   go_quiet (fail)
   go_wp2_with fail
   go_ret
   exact ⟨ret_bool HF.out.symm, below_drewN s2.below _⟩
  ·obtain ⟨-, -, h | ⟨b4, o4, rfl, hc4⟩⟩ := RT.out
   ·exact absurd h hT0
   have r0 : R.length ≠ 0 := fun h => hR0 (List.eq_nil_of_length_eq_zero h)
   have r1 : T.length ≠ 0 := fun h => hT0 (List.eq_nil_of_length_eq_zero h)
   obtain ⟨k, hk⟩ : ∃ k, R.length = k + 1 := ⟨R.length - 1, by omega⟩
   obtain ⟨j, hj⟩ : ∃ j, T.length = j + 1 := ⟨T.length - 1, by omega⟩
   have c3 := hc3 k (by omega)
   have c4 := hc4 j (by omega)
   have hp1 := lastR_pos HB1.out r0
   have hlR : lastR R = R.getD k 0 := by rw [lastR, if_neg r0, hk]; rfl
   have hlT : lastR T = T.getD j 0 := by rw [lastR, if_neg r1, hj]; rfl
   have hz : Z = decide (T.getD j 0 = R.getD k 0) := by
    rw [← HZ.out, sideL, decide_eq_true (by omega : 0 ≤ lastR R), Bool.true_and, hlR, hlT]
   have hkk : ((k + 1 : Nat) : Int) - 1 = (k : Int) := by omega
   have hjj : ((j + 1 : Nat) : Int) - 1 = (j : Int) := by omega
   have hki : (k : Int) < ((k + 1 : Nat) : Int) := by omega
   have hji : (j : Int) < ((j + 1 : Nat) : Int) := by omega
   rw [hk] at b1 ⊢
   rw [hj] at b2 ⊢
   obtain ⟨x, hx⟩ : ∃ x, R.getD k 0 = x := ⟨_, rfl⟩
   obtain ⟨y, hy⟩ : ∃ y, T.getD j 0 = y := ⟨_, rfl⟩
   rw [hx] at c3 hz
   rw [hy] at c4 hz
   have HZ3 := kide hz
   clear hc3 hc4 hR0 hT0 r0 r1 hk hj hlR hlT hp1 hx hy hz
   obtain ⟨E, hE⟩ : ∃ E : Bool, (x == y) = E := ⟨_, rfl⟩
   have HZ4 : Hid (E = Z) := by
    show _ = _
    rw [HZ3.out, ← hE]
    by_cases h : x = y
    ·simp [h]
    ·simp [h, Ne.symm h]
   clear HZ3
   cases E
   all_goals
    go_wp2_with fail
    go_quiet (fail)
    go_wp2_with fail
    go_ret
    exact ⟨ret_bool HZ4.out, below_drewN s2.below _⟩

def idR : Int → List Lc → Bool
 | _, [] => true
 | last, l :: t => decide (last < l.id ∧ l.id ≤ 1000000) && idR l.id t
def idsR (ls : List Lc) : Bool := decide (ls.length ≤ 60) && idR 0 ls
theorem goL_eq (ds : List Dc) (last : Int) (ls : List Lc) : goL ds last ls = (idR last ls && ls.all (sideR ds)) := by
 induction ls generalizing last with
 | nil => rfl
 | cons l t ih =>
  rw [goL, idR, List.all_cons, ih]
  cases decide (last < l.id ∧ l.id ≤ 1000000) <;> cases sideR ds l <;> cases idR l.id t <;> simp
theorem litR_eq (ds : List Dc) (ls : List Lc) : litR ds ls = (dclR ds && idsR ls && ls.all (sideR ds)) := by
 unfold litR idsR
 rw [goL_eq]
 cases dclR ds <;> cases decide (ls.length ≤ 60) <;> simp
theorem idR_step {last : Int} {ls : List Lc} {k : Nat} {l : Lc} (h : ls[k]? = some l) : idR last (ls.drop k) = (decide (last < l.id ∧ l.id ≤ 1000000) && idR l.id (ls.drop (k + 1))) := by
 obtain ⟨hk, rfl⟩ := List.getElem?_eq_some_iff.1 h
 rw [List.drop_eq_getElem_cons hk, idR]
theorem all_step {p : Lc → Bool} {ls : List Lc} {k : Nat} {l : Lc} (h : ls[k]? = some l) : (ls.drop k).all p = (p l && (ls.drop (k + 1)).all p) := by
 obtain ⟨hk, rfl⟩ := List.getElem?_eq_some_iff.1 h
 rw [List.drop_eq_getElem_cons hk, List.all_cons]
set_option maxHeartbeats 1000000 in
set_option maxRecDepth 100000 in
theorem idsOk_any (b : Option Addr) (c2 n : Nat) (xs : List Lg) (w : World) (hs : RdL w b xs) (hn : xs.length = n) :
  Calls Tryz.prog 77 #[.slice b n c2] w fun e w' => e = .returned (.bool (idsR (xs.map Lg.ct))) ∧ Below w.heap.size w w' := by
 have hl2 := hs.1
 rw [hn] at hl2
 have HRL := kide (fun u (hu : Below w.heap.size w u) => hs.later hu)
 have HN := kide hn
 by_cases h60 : n ≤ 60
 ·generalize hZ : idsR (xs.map Lg.ct) = Z
  have HZ : Hid (idR 0 (xs.map Lg.ct) = Z) := by
   show _ = _
   rw [← hZ, idsR]
   simp [hn, h60]
  clear hZ hs hn
  go_enter Tryz.func77, Tryz.ntmps77
  go_wp2_with fail
  go_loopw [3, 11] (fun l i wr => ∃ (k : Nat) (last : Int), k ≤ n ∧ i = .int .i64 k ∧ l = .int .i64 last ∧ in64 last ∧ idR last ((xs.map Lg.ct).drop k) = Z ∧ Below w.heap.size w wr) (fun _ i _ => n - (intOf i).toNat)
  case atStart => exact ⟨0, 0, Nat.zero_le _, rfl, rfl, by unfold in64; omega, by rw [List.drop_zero]; exact HZ.out, Below.refl _ _⟩
  case round =>
   obtain ⟨k, last, hk, rfl, rfl, hin, hq, hbel⟩ := hrel
   have HB := kide hbel
   have HIN := kide hin
   by_cases hlt : k < n
   ·obtain ⟨-, h | ⟨b1, o1, rfl, hc⟩⟩ := HRL.out wr hbel
    ·have := HN.out; subst h; simp at this; omega
    obtain ⟨⟨id, q, ss, sa, sc, ts, ta, tc⟩, hx⟩ : ∃ x, xs[k]? = some x := ⟨_, List.getElem?_eq_getElem (by rw [HN.out]; exact hlt)⟩
    obtain ⟨⟨p0, p1, p2, p3⟩, pr, pr2, hid⟩ := hc k _ hx
    simp only [] at p0 p1 p2 p3 pr pr2 hid
    rw [idR_step (l := ⟨id, q, ss.map Tg.ct, ts.map Tg.ct⟩) (by rw [List.getElem?_map, hx]; rfl)] at hq
    simp only [] at hq
    have HQ := kide hq
    have hki : (k : Int) < (n : Int) := by omega
    have HA := kide (HB.out.alloc HB.out.size (.cells #[.int .i64 id, .bool q, .slice sa ss.length sc, .slice ta ts.length tc] 30))
    have HID := kide hid
    generalize ss.length = m1 at *
    generalize ts.length = m2 at *
    clear hc hx hq hbel pr pr2 hin hid
    by_cases h1 : id ≤ last
    ·have HF : Hid (Z = false) := by
      show _ = _
      rw [← HQ.out, decide_eq_false (by omega)]
      rfl
     go_wp2_with fail
     go_ret
     exact ⟨ret_bool HF.out.symm, HA.out⟩
    by_cases h2 : 1000000 < id
    ·have HF : Hid (Z = false) := by
      show _ = _
      rw [← HQ.out, decide_eq_false (by omega)]
      rfl
     go_wp2_with fail
     go_ret
     exact ⟨ret_bool HF.out.symm, HA.out⟩
    have hdt : decide (last < id ∧ id ≤ 1000000) = true := decide_eq_true (by omega)
    rw [hdt, Bool.true_and] at HQ
    clear hdt
    go_wp2_with fail
    go_roundw
    case rel => exact ⟨k + 1, id, by omega, by go_num, rfl, HID.out, HQ.out, HA.out⟩
    case measure => simp [intOf]; omega
   ·have e : k = n := by omega
    rw [e, List.drop_of_length_le (by simp [HN.out]), idR] at hq
    have HQ := kide hq
    clear hq hin
    go_wp2_with fail
    go_ret
    exact ⟨ret_bool HQ.out, HB.out⟩
 ·have hR : idsR (xs.map Lg.ct) = false := by simp [idsR, hn]; omega
  rw [hR]
  clear hR hs hn
  have h61 : (60 : Int) < (n : Int) := by omega
  go_enter Tryz.func77, Tryz.ntmps77
  go_wp2_with fail
  go_ret
  exact ⟨rfl, Below.refl _ _⟩

end Go.Proofs.YtkngpgonmedgpaaGreatDoor
