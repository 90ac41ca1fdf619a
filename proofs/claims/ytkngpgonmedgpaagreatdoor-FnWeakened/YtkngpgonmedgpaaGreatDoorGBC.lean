/- Several texts in one. -/
import Derived.Test.YtkngpgonmedgpaaGreatDoorRX
import Derived.Test.YtkngpgonmedgpaaGreatDoorEO
import Derived.Test.YtkngpgonmedgpaaGreatDoorGBB
namespace Go.Proofs.YtkngpgonmedgpaaGreatDoor
open Go.RowKit
set_option linter.unusedVariables false
set_option linter.unusedSimpArgs false
theorem wrap_smallE (x : Int) (h0 : 0 ≤ x) (h1 : x ≤ 4096) : IntKind.i64.wrap x = x := by rw [IntKind.wrap_i64]; omega
theorem turn_mod {W : Int} {xs : List Nat} {q : Int} (hok : rightB W xs = true) (h0 : 0 ≤ q) (h1 : q ≤ 4096) : turnR W xs (q % W) = turnR W xs q := by
 have hr := right_W hok
 obtain ⟨V, rfl⟩ := Int.eq_ofNat_of_zero_le (show 0 ≤ W by omega)
 obtain ⟨m, rfl⟩ := Int.eq_ofNat_of_zero_le h0
 have e : (m : Int) % (V : Int) = ((m % V : Nat) : Int) := rfl
 have hl : m % V ≤ m := Nat.mod_le _ _
 rw [e, turnR, turnR, if_pos ⟨hok, by omega, by omega⟩, if_pos ⟨hok, by omega, by omega⟩, Int.toNat_natCast, Int.toNat_natCast, Int.toNat_natCast, Nat.mod_mod]
set_option maxHeartbeats 4000000 in
set_option maxRecDepth 100000 in
theorem evRight_any (eb : Nat) (vs l : List Bw) (n : Tc) (wa ka : Option Addr) (wc kc : Nat) (u : World) (hE : Evl u eb vs l) (hk : RdI u ka n.ks) (h1 : n.ks.length = 1) (j : Nat) (x : Bw) (hj : n.ks.getD 0 0 = (j : Int)) (hx : l[j]? = some x) (hok : okWd x.ct) (ha : 0 ≤ n.a ∧ n.a ≤ 4096) :
  Calls Tryz.prog 116 #[.pointer (some ⟨eb, 0, none⟩), nodA n wa ka wc kc] u (RetV u (two (turnR x.wd x.ws ((x.wd - n.a % x.wd) % x.wd)))) := by
 have HKID := kide (fun v (hv : Below u.heap.size u v) => kid_any eb vs l n wa ka wc kc v (hE.later hv) (hk.later hv) h1 j x hj hx)
 have hxr : Rd u x.a x.ws := by
  obtain ⟨aa, ac, -, ha⟩ := hE.ahd
  obtain ⟨-, h | ⟨ab, ao, rfl, hac⟩⟩ := ha
  ·rw [h] at hx; simp at hx
  exact (hac j x hx).2.2.1
 have HOP := kide (fun v (hv : Below u.heap.size u v) => implTurn_any x.wd x.a x.c x.ws (x.wd - n.a % x.wd) v (hxr.later hv))
 have hw1 := right_W hok.1
 simp only [Bw.ct] at hw1
 have hm1 := Int.emod_nonneg n.a (show x.wd ≠ 0 by omega)
 have hm2 := Int.emod_lt_of_pos n.a (show 0 < x.wd by omega)
 rw [turn_mod (W := x.wd) (xs := x.ws) hok.1 (by omega) (by omega)]
 generalize hR : turnR x.wd x.ws (x.wd - n.a % x.wd) = R at *
 clear hR hE hk hj hx hxr h1
 obtain ⟨op, vr, A, B, bw, ws, ks⟩ := n
 obtain ⟨wd, xa, xc, xs⟩ := x
 simp only [nodA, RetB] at *
 obtain ⟨r, hr⟩ := Int.eq_ofNat_of_zero_le hm1
 obtain ⟨q, hq⟩ := Int.eq_ofNat_of_zero_le (show 0 ≤ wd - A % wd by omega)
 rw [hq] at HOP
 rw [hr] at hq
 have hwz : ¬ wd = 0 := by omega
 have htm : A.tmod wd = (r : Int) := by rw [Int.tmod_eq_emod_of_nonneg ha.1]; exact hr
 have wr1 : IntKind.i64.wrap (r : Int) = (r : Int) := wrap_smallE _ (by omega) (by omega)
 have wq1 : IntKind.i64.wrap (q : Int) = (q : Int) := wrap_smallE _ (by omega) (by omega)
 clear hok hm1 hm2
 generalize ws.length = wl at *
 generalize ks.length = kl at *
 generalize xs.length = xl at *
 have XA : Hid (Bz ((u.alloc (Obj.cells #[.int .i64 op, .int .i64 vr, .int .i64 A, .int .i64 B, .int .i64 bw, .slice wa wl wc, .slice ka kl kc] 119)).alloc (Obj.cells #[.int .i64 0, .slice none 0 0] 80)) u.heap.size #[.int .i64 op, .int .i64 vr, .int .i64 A, .int .i64 B, .int .i64 bw, .slice wa wl wc, .slice ka kl kc] 119) := (Bz.new u #[.int .i64 op, .int .i64 vr, .int .i64 A, .int .i64 B, .int .i64 bw, .slice wa wl wc, .slice ka kl kc] 119).later ((Below.refl _ _).alloc (Nat.le_refl _) _)
 have XR : Hid (Bz ((u.alloc (Obj.cells #[.int .i64 op, .int .i64 vr, .int .i64 A, .int .i64 B, .int .i64 bw, .slice wa wl wc, .slice ka kl kc] 119)).alloc (Obj.cells #[.int .i64 0, .slice none 0 0] 80)) (u.heap.size + 1) #[.int .i64 0, .slice none 0 0] 80) := by
  have := Bz.new (u.alloc (Obj.cells #[.int .i64 op, .int .i64 vr, .int .i64 A, .int .i64 B, .int .i64 bw, .slice wa wl wc, .slice ka kl kc] 119)) #[.int .i64 0, .slice none 0 0] 80
  rw [World.size_alloc] at this
  exact this
 have BW : Hid (Below u.heap.size u ((u.alloc (Obj.cells #[.int .i64 op, .int .i64 vr, .int .i64 A, .int .i64 B, .int .i64 bw, .slice wa wl wc, .slice ka kl kc] 119)).alloc (Obj.cells #[.int .i64 0, .slice none 0 0] 80))) := Ba (Ba (Below.refl _ _) _) _
 go_enter Tryz.func116, Tryz.ntmps116
 go_wp2_with fail
 generalize ((u.alloc (Obj.cells #[.int .i64 op, .int .i64 vr, .int .i64 A, .int .i64 B, .int .i64 bw, .slice wa wl wc, .slice ka kl kc] 119)).alloc (Obj.cells #[.int .i64 0, .slice none 0 0] 80)) = w1 at *
 refine Calls.mono (HKID.out w1 BW.out) ?_
 rintro e v0 ⟨rfl, hb0⟩
 have XA0 := kide (XA.out.later hb0)
 have XR0 := kide (XR.out.later hb0)
 have BW0 := kide (BW.out.trans (hb0.mono BW.out.size))
 clear XA XR BW hb0
 have hbk : Below v0.heap.size v0 (v0.alloc (Obj.cells #[.int .i64 wd, .slice xa xl xc] 80)) := (Below.refl _ _).alloc (Nat.le_refl _) _
 have XA1 := kide (XA0.out.later hbk)
 have XR1 := kide (XR0.out.later hbk)
 have BW1 := kide (BW0.out.trans (hbk.mono BW0.out.size))
 have XN1 := kide (Bz.new v0 #[.int .i64 wd, .slice xa xl xc] 80)
 have hNkb : Hid (u.heap.size + 2 ≤ v0.heap.size) := by have := XR0.out.lt; show _ ≤ _; omega
 go_wp2_with fail
 obtain ⟨kb, hkb⟩ : ∃ x, v0.heap.size = x := ⟨_, rfl⟩
 rw [hkb] at XN1 hNkb ⊢
 generalize v0.alloc (Obj.cells #[.int .i64 wd, .slice xa xl xc] 80) = v1 at *
 clear hbk hkb XA0 XR0 BW0
 have hKB := hNkb
 have XK1 := XN1
 clear XN1
 have c0 := XA1.out.cell 2
 have c1 := XK1.out.cell 0
 simp at c0 c1
 refine wp_region_x (SA := fun _ => False) (SB := fun z => S9 u.heap.size op vr A B bw wa wl wc ka kl kc kb wd xa xl xc z) (k := 999) (by kernel_rfl) ?_
 have hbd : Below v1.heap.size v1 v1.drew := (Below.refl _ _).drew
 have XA2 := kide (XA1.out.later hbd)
 have XR2 := kide (XR1.out.later hbd)
 have XK2 := kide (XK1.out.later hbd)
 have BW2 := kide (BW1.out.drew)
 clear hbd c0 c1 XA1 XR1 XK1 BW1
 generalize v1.drew = v2 at *
 have hs2 : Hid ((fun z => S9 u.heap.size op vr A B bw wa wl wc ka kl kc kb wd xa xl xc z) v2) := ⟨XA2.out.cell 0, XA2.out.cell 1, XA2.out.cell 2, XA2.out.cell 3, XA2.out.cell 4, XA2.out.cell 5, XA2.out.cell 6, XK2.out.cell 0, XK2.out.cell 1⟩
 try go_simp
 refine tkB (T := fun z => S9 u.heap.size op vr A B bw wa wl wc ka kl kc kb wd xa xl xc z) (i := 0) (v := Value.agg #[.int .i64 wd, .slice xa xl xc]) rfl (by kernel_rfl) (fun _ _ _ h => by first | exact h | exact h.elim | cases h.1) (fun _ h => h.elim) (fun _ h => h) (Sx.behind (by kernel_rfl) hs2.out) (Or.inl ⟨by rfl, fun z hz => by obtain ⟨e0, e1, e2, e3, e4, e5, e6, e7, e8⟩ := hz; go_simp⟩) ?_
 try go_simp
 refine tkB (T := fun z => S9 u.heap.size op vr A B bw wa wl wc ka kl kc kb wd xa xl xc z) (i := 1) (v := Value.pointer (some ⟨kb, 0, none⟩)) rfl (by kernel_rfl) (fun _ _ _ h => by first | exact h | exact h.elim | cases h.1) (fun _ h => h.elim) (fun _ h => h) (Sx.behind (by kernel_rfl) hs2.out) (Or.inl ⟨by rfl, fun z hz => by obtain ⟨e0, e1, e2, e3, e4, e5, e6, e7, e8⟩ := hz; go_simp⟩) ?_
 try go_simp
 refine tkB (T := fun z => S9 u.heap.size op vr A B bw wa wl wc ka kl kc kb wd xa xl xc z) (i := 2) (v := Value.int .i64 wd) rfl (by kernel_rfl) (fun _ _ _ h => by first | exact h | exact h.elim | cases h.1) (fun _ h => h.elim) (fun _ h => h) (Sx.behind (by kernel_rfl) hs2.out) (Or.inl ⟨by rfl, fun z hz => by obtain ⟨e0, e1, e2, e3, e4, e5, e6, e7, e8⟩ := hz; go_simp⟩) ?_
 try go_simp
 refine tkB (T := fun z => S9 u.heap.size op vr A B bw wa wl wc ka kl kc kb wd xa xl xc z) (i := 3) (v := Value.pointer (some ⟨u.heap.size, 2, none⟩)) rfl (by kernel_rfl) (fun _ _ _ h => by first | exact h | exact h.elim | cases h.1) (fun _ h => h.elim) (fun _ h => h) (Sx.behind (by kernel_rfl) hs2.out) (Or.inl ⟨by rfl, fun z hz => by obtain ⟨e0, e1, e2, e3, e4, e5, e6, e7, e8⟩ := hz; go_simp⟩) ?_
 try go_simp
 refine tkB (T := fun z => S9 u.heap.size op vr A B bw wa wl wc ka kl kc kb wd xa xl xc z) (i := 4) (v := Value.int .i64 A) rfl (by kernel_rfl) (fun _ _ _ h => by first | exact h | exact h.elim | cases h.1) (fun _ h => h.elim) (fun _ h => h) (Sx.behind (by kernel_rfl) hs2.out) (Or.inl ⟨by rfl, fun z hz => by obtain ⟨e0, e1, e2, e3, e4, e5, e6, e7, e8⟩ := hz; go_simp⟩) ?_
 try go_simp
 refine tkB (T := fun z => S9 u.heap.size op vr A B bw wa wl wc ka kl kc kb wd xa xl xc z) (i := 5) (v := Value.pointer (some ⟨kb, 0, none⟩)) rfl (by kernel_rfl) (fun _ _ _ h => by first | exact h | exact h.elim | cases h.1) (fun _ h => h.elim) (fun _ h => h) (Sx.behind (by kernel_rfl) hs2.out) (Or.inl ⟨by rfl, fun z hz => by obtain ⟨e0, e1, e2, e3, e4, e5, e6, e7, e8⟩ := hz; go_simp⟩) ?_
 try go_simp
 refine tkB (T := fun z => S9 u.heap.size op vr A B bw wa wl wc ka kl kc kb wd xa xl xc z) (i := 6) (v := Value.int .i64 wd) rfl (by kernel_rfl) (fun _ _ _ h => by first | exact h | exact h.elim | cases h.1) (fun _ h => h.elim) (fun _ h => h) (Sx.behind (by kernel_rfl) hs2.out) (Or.inl ⟨by rfl, fun z hz => by obtain ⟨e0, e1, e2, e3, e4, e5, e6, e7, e8⟩ := hz; go_simp⟩) ?_
 try go_simp
 refine tkB (T := fun z => S9 u.heap.size op vr A B bw wa wl wc ka kl kc kb wd xa xl xc z) (i := 7) (v := Value.int .i64 (r : Int)) rfl (by kernel_rfl) (fun _ _ _ h => by first | exact h | exact h.elim | cases h.1) (fun _ h => h.elim) (fun _ h => h) (Sx.behind (by kernel_rfl) hs2.out) (Or.inl ⟨by rfl, fun z hz => by obtain ⟨e0, e1, e2, e3, e4, e5, e6, e7, e8⟩ := hz; go_simp⟩) ?_
 try go_simp
 refine tkB (T := fun z => S9 u.heap.size op vr A B bw wa wl wc ka kl kc kb wd xa xl xc z) (i := 8) (v := Value.int .i64 (q : Int)) rfl (by kernel_rfl) (fun _ _ _ h => by first | exact h | exact h.elim | cases h.1) (fun _ h => h.elim) (fun _ h => h) (Sx.behind (by kernel_rfl) hs2.out) (Or.inl ⟨by rfl, fun z hz => by obtain ⟨e0, e1, e2, e3, e4, e5, e6, e7, e8⟩ := hz; go_simp⟩) ?_
 try go_simp
 refine wpAnyX_ready (rs := [9, 13]) (by kernel_rfl) (by simp) (AllX.cons rfl (fun K hK => ?_) (AllX.cons rfl (fun K hK => ?_) AllX.nil))
 ·go_simp
  refine Calls.mono (HOP.out v2 BW2.out) ?_
  rintro e v3 ⟨a5, c5, rfl, hf3, hb3⟩
  have XA3 := kide (XA2.out.later hb3)
  have XR3 := kide (XR2.out.later hb3)
  have XK3 := kide (XK2.out.later hb3)
  have BW3 := kide (BW2.out.trans (hb3.mono BW2.out.size))
  have NW3 := kide ((Fresh.nwE hf3).mono (lo' := u.heap.size) BW2.out.size)
  clear hb3 hf3
  have hs3 : Hid ((fun z => S9 u.heap.size op vr A B bw wa wl wc ka kl kc kb wd xa xl xc z) v3) := ⟨XA3.out.cell 0, XA3.out.cell 1, XA3.out.cell 2, XA3.out.cell 3, XA3.out.cell 4, XA3.out.cell 5, XA3.out.cell 6, XK3.out.cell 0, XK3.out.cell 1⟩
  refine hK _ _ (Sx.behind (by kernel_rfl) hs3.out) ?_
  clear hK K
  try go_simp
  refine tkB (T := fun z => S9 u.heap.size op vr A B bw wa wl wc ka kl kc kb wd xa xl xc z) (i := 10) (v := Value.tuple #[.agg #[.int .i64 R.1, .slice a5 R.2.1.length c5], .bool R.2.2]) rfl (by kernel_rfl) (fun _ _ _ h => by first | exact h | exact h.elim | cases h.1) (fun _ h => h.elim) (fun _ h => h) (Sx.behind (by kernel_rfl) hs3.out) (Or.inl ⟨by rfl, fun z hz => by obtain ⟨e0, e1, e2, e3, e4, e5, e6, e7, e8⟩ := hz; go_simp⟩) ?_
  try go_simp
  refine tkB (T := fun z => S9 u.heap.size op vr A B bw wa wl wc ka kl kc kb wd xa xl xc z) (i := 11) (v := Value.agg #[.int .i64 R.1, .slice a5 R.2.1.length c5]) rfl (by kernel_rfl) (fun _ _ _ h => by first | exact h | exact h.elim | cases h.1) (fun _ h => h.elim) (fun _ h => h) (Sx.behind (by kernel_rfl) hs3.out) (Or.inl ⟨by rfl, fun z hz => by obtain ⟨e0, e1, e2, e3, e4, e5, e6, e7, e8⟩ := hz; go_simp⟩) ?_
  try go_simp
  refine tkB (T := fun z => S9 u.heap.size op vr A B bw wa wl wc ka kl kc kb wd xa xl xc z) (i := 12) (v := Value.bool R.2.2) rfl (by kernel_rfl) (fun _ _ _ h => by first | exact h | exact h.elim | cases h.1) (fun _ h => h.elim) (fun _ h => h) (Sx.behind (by kernel_rfl) hs3.out) (Or.inl ⟨by rfl, fun z hz => by obtain ⟨e0, e1, e2, e3, e4, e5, e6, e7, e8⟩ := hz; go_simp⟩) ?_
  try go_simp
  refine wpAnyX_ready (rs := [13]) (by kernel_rfl) (by simp) (AllX.cons rfl (fun K hK => ?_) AllX.nil)
  go_simp
  have hbx : Below v3.heap.size v3 (v3.alloc (Obj.cells #[.int .i64 0, .slice none 0 0] 80)) := (Below.refl _ _).alloc (Nat.le_refl _) _
  have XA4 := kide (XA3.out.later hbx)
  have XR4 := kide (XR3.out.later hbx)
  have XK4 := kide (XK3.out.later hbx)
  have BW4 := kide (BW3.out.trans (hbx.mono BW3.out.size))
  have NW4 := kide (NW3.out.later hbx)
  have XN4 := kide (Bz.new v3 #[.int .i64 0, .slice none 0 0] 80)
  have hNbN : Hid (u.heap.size + 2 ≤ v3.heap.size) := by have := XR3.out.lt; show _ ≤ _; omega
  have hNK : Hid (kb < v3.heap.size) := XK3.out.lt
  obtain ⟨bN, hbbN⟩ : ∃ x, v3.heap.size = x := ⟨_, rfl⟩
  rw [hbbN] at XN4 hNbN hNK ⊢
  clear hbbN hbx
  generalize v3.alloc (Obj.cells #[.int .i64 0, .slice none 0 0] 80) = v4 at *
  have hs4 : Hid ((fun z => S9 u.heap.size op vr A B bw wa wl wc ka kl kc kb wd xa xl xc z) v4) := ⟨XA4.out.cell 0, XA4.out.cell 1, XA4.out.cell 2, XA4.out.cell 3, XA4.out.cell 4, XA4.out.cell 5, XA4.out.cell 6, XK4.out.cell 0, XK4.out.cell 1⟩
  refine hK _ _ (Sx.behind (by kernel_rfl) hs4.out) ?_
  clear hK K
  try go_simp
  refine wpAnyX_ready (rs := [14]) (by kernel_rfl) (by simp) (AllX.cons rfl (fun K hK => ?_) AllX.nil)
  have e8 := XN4.out.cell 0
  have e9 := XN4.out.cell 1
  have f8 := XN4.out.froz 0
  have f9 := XN4.out.froz 1
  simp at e8 e9
  go_simp
  have XN5 : Hid (Bz ((v4.setCell ⟨bN, 0, none⟩ (Value.int .i64 R.1)).setCell ⟨bN, 1, none⟩ (Value.slice a5 R.2.1.length c5)) bN #[.int .i64 R.1, .slice a5 R.2.1.length c5] 80) := (XN4.out.set 0 _).set 1 _
  have XA5 : Hid (Bz ((v4.setCell ⟨bN, 0, none⟩ (Value.int .i64 R.1)).setCell ⟨bN, 1, none⟩ (Value.slice a5 R.2.1.length c5)) (u.heap.size) #[.int .i64 op, .int .i64 vr, .int .i64 A, .int .i64 B, .int .i64 bw, .slice wa wl wc, .slice ka kl kc] 119) := (XA4.out.other (by have := hNbN.out; omega) 0 _).other (by have := hNbN.out; omega) 1 _
  have XR5 : Hid (Bz ((v4.setCell ⟨bN, 0, none⟩ (Value.int .i64 R.1)).setCell ⟨bN, 1, none⟩ (Value.slice a5 R.2.1.length c5)) (u.heap.size + 1) #[.int .i64 0, .slice none 0 0] 80) := (XR4.out.other (by have := hNbN.out; omega) 0 _).other (by have := hNbN.out; omega) 1 _
  have BW5 : Hid (Below u.heap.size u ((v4.setCell ⟨bN, 0, none⟩ (Value.int .i64 R.1)).setCell ⟨bN, 1, none⟩ (Value.slice a5 R.2.1.length c5))) := (BW4.out.setCell (show u.heap.size ≤ bN by have := hNbN.out; omega) _).setCell (show u.heap.size ≤ bN by have := hNbN.out; omega) _
  have XK5 : Hid (Bz ((v4.setCell ⟨bN, 0, none⟩ (Value.int .i64 R.1)).setCell ⟨bN, 1, none⟩ (Value.slice a5 R.2.1.length c5)) kb #[.int .i64 wd, .slice xa xl xc] 80) := (XK4.out.other (by have := hNK.out; omega) 0 _).other (by have := hNK.out; omega) 1 _
  have NW5 : Hid (Nw ((v4.setCell ⟨bN, 0, none⟩ (Value.int .i64 R.1)).setCell ⟨bN, 1, none⟩ (Value.slice a5 R.2.1.length c5)) u.heap.size a5 R.2.1) := ((NW4.out.set XN4.out (by decide) 0 _).set (XN4.out.set 0 _) (by decide) 1 _)
  generalize (v4.setCell ⟨bN, 0, none⟩ (Value.int .i64 R.1)).setCell ⟨bN, 1, none⟩ (Value.slice a5 R.2.1.length c5) = v5 at *
  clear e8 e9 f8 f9
  have hs5 : Hid ((fun z => S9 u.heap.size op vr A B bw wa wl wc ka kl kc kb wd xa xl xc z) v5) := ⟨XA5.out.cell 0, XA5.out.cell 1, XA5.out.cell 2, XA5.out.cell 3, XA5.out.cell 4, XA5.out.cell 5, XA5.out.cell 6, XK5.out.cell 0, XK5.out.cell 1⟩
  refine hK _ _ (Sx.behind (by kernel_rfl) hs5.out) ?_
  clear hK K
  try go_simp
  refine tkB (T := fun z => S9 u.heap.size op vr A B bw wa wl wc ka kl kc kb wd xa xl xc z) (i := 15) (v := Value.bool R.2.2) rfl (by kernel_rfl) (fun _ _ _ h => by first | exact h | exact h.elim | cases h.1) (fun _ h => h.elim) (fun _ h => h) (Sx.behind (by kernel_rfl) hs5.out) (Or.inl ⟨by rfl, fun z hz => by obtain ⟨e0, e1, e2, e3, e4, e5, e6, e7, e8⟩ := hz; go_simp⟩) ?_
  try go_simp
  refine wpAnyX_done (by kernel_rfl) ?_ _
  have q0 := XN5.out.cell 0
  have q1 := XN5.out.cell 1
  have r0 := XR5.out.cell 0
  have r1 := XR5.out.cell 1
  have f0 := XR5.out.froz 0
  have f1 := XR5.out.froz 1
  simp at q0 q1 r0 r1
  go_wp2_with fail
  obtain ⟨y0, y1⟩ := ((Bz.blk XR5.out).put0' (.int .i64 R.1)).put1' (.slice a5 R.2.1.length c5) |>.cells
  exact bodyPost_ret (v := Value.agg #[.int .i64 R.1, .slice a5 R.2.1.length c5]) (by simp [results, Tryz.results116, go_sem, y0, y1]) rfl (RetV.box (Bz.blk XR5.out) NW5.out (Nat.le_refl _) (Nat.le_succ _) BW5.out)
 ·go_simp
  have hbx : Below v2.heap.size v2 (v2.alloc (Obj.cells #[.int .i64 0, .slice none 0 0] 80)) := (Below.refl _ _).alloc (Nat.le_refl _) _
  have XA3 := kide (XA2.out.later hbx)
  have XR3 := kide (XR2.out.later hbx)
  have XK3 := kide (XK2.out.later hbx)
  have BW3 := kide (BW2.out.trans (hbx.mono BW2.out.size))
  have XN3 := kide (Bz.new v2 #[.int .i64 0, .slice none 0 0] 80)
  have hNbN : Hid (u.heap.size + 2 ≤ v2.heap.size) := by have := XR2.out.lt; show _ ≤ _; omega
  have hNK : Hid (kb < v2.heap.size) := XK2.out.lt
  obtain ⟨bN, hbbN⟩ : ∃ x, v2.heap.size = x := ⟨_, rfl⟩
  rw [hbbN] at XN3 hNbN hNK ⊢
  clear hbbN hbx
  generalize v2.alloc (Obj.cells #[.int .i64 0, .slice none 0 0] 80) = v3 at *
  have hs3 : Hid ((fun z => S9 u.heap.size op vr A B bw wa wl wc ka kl kc kb wd xa xl xc z) v3) := ⟨XA3.out.cell 0, XA3.out.cell 1, XA3.out.cell 2, XA3.out.cell 3, XA3.out.cell 4, XA3.out.cell 5, XA3.out.cell 6, XK3.out.cell 0, XK3.out.cell 1⟩
  refine hK _ _ (Sx.behind (by kernel_rfl) hs3.out) ?_
  clear hK K
  try go_simp
  refine wpAnyX_ready (rs := [9]) (by kernel_rfl) (by simp) (AllX.cons rfl (fun K hK => ?_) AllX.nil)
  go_simp
  refine Calls.mono (HOP.out v3 BW3.out) ?_
  rintro e v4 ⟨a5, c5, rfl, hf4, hb4⟩
  have XA4 := kide (XA3.out.later hb4)
  have XR4 := kide (XR3.out.later hb4)
  have XN4 := kide (XN3.out.later hb4)
  have XK4 := kide (XK3.out.later hb4)
  have BW4 := kide (BW3.out.trans (hb4.mono BW3.out.size))
  have NW4 := kide ((Fresh.nwE hf4).mono (lo' := u.heap.size) BW3.out.size)
  clear hb4 hf4
  have hs4 : Hid ((fun z => S9 u.heap.size op vr A B bw wa wl wc ka kl kc kb wd xa xl xc z) v4) := ⟨XA4.out.cell 0, XA4.out.cell 1, XA4.out.cell 2, XA4.out.cell 3, XA4.out.cell 4, XA4.out.cell 5, XA4.out.cell 6, XK4.out.cell 0, XK4.out.cell 1⟩
  refine hK _ _ (Sx.behind (by kernel_rfl) hs4.out) ?_
  clear hK K
  try go_simp
  refine tkB (T := fun z => S9 u.heap.size op vr A B bw wa wl wc ka kl kc kb wd xa xl xc z) (i := 10) (v := Value.tuple #[.agg #[.int .i64 R.1, .slice a5 R.2.1.length c5], .bool R.2.2]) rfl (by kernel_rfl) (fun _ _ _ h => by first | exact h | exact h.elim | cases h.1) (fun _ h => h.elim) (fun _ h => h) (Sx.behind (by kernel_rfl) hs4.out) (Or.inl ⟨by rfl, fun z hz => by obtain ⟨e0, e1, e2, e3, e4, e5, e6, e7, e8⟩ := hz; go_simp⟩) ?_
  try go_simp
  refine tkB (T := fun z => S9 u.heap.size op vr A B bw wa wl wc ka kl kc kb wd xa xl xc z) (i := 11) (v := Value.agg #[.int .i64 R.1, .slice a5 R.2.1.length c5]) rfl (by kernel_rfl) (fun _ _ _ h => by first | exact h | exact h.elim | cases h.1) (fun _ h => h.elim) (fun _ h => h) (Sx.behind (by kernel_rfl) hs4.out) (Or.inl ⟨by rfl, fun z hz => by obtain ⟨e0, e1, e2, e3, e4, e5, e6, e7, e8⟩ := hz; go_simp⟩) ?_
  try go_simp
  refine tkB (T := fun z => S9 u.heap.size op vr A B bw wa wl wc ka kl kc kb wd xa xl xc z) (i := 12) (v := Value.bool R.2.2) rfl (by kernel_rfl) (fun _ _ _ h => by first | exact h | exact h.elim | cases h.1) (fun _ h => h.elim) (fun _ h => h) (Sx.behind (by kernel_rfl) hs4.out) (Or.inl ⟨by rfl, fun z hz => by obtain ⟨e0, e1, e2, e3, e4, e5, e6, e7, e8⟩ := hz; go_simp⟩) ?_
  try go_simp
  refine wpAnyX_ready (rs := [14]) (by kernel_rfl) (by simp) (AllX.cons rfl (fun K hK => ?_) AllX.nil)
  have e8 := XN4.out.cell 0
  have e9 := XN4.out.cell 1
  have f8 := XN4.out.froz 0
  have f9 := XN4.out.froz 1
  simp at e8 e9
  go_simp
  have XN5 : Hid (Bz ((v4.setCell ⟨bN, 0, none⟩ (Value.int .i64 R.1)).setCell ⟨bN, 1, none⟩ (Value.slice a5 R.2.1.length c5)) bN #[.int .i64 R.1, .slice a5 R.2.1.length c5] 80) := (XN4.out.set 0 _).set 1 _
  have XA5 : Hid (Bz ((v4.setCell ⟨bN, 0, none⟩ (Value.int .i64 R.1)).setCell ⟨bN, 1, none⟩ (Value.slice a5 R.2.1.length c5)) (u.heap.size) #[.int .i64 op, .int .i64 vr, .int .i64 A, .int .i64 B, .int .i64 bw, .slice wa wl wc, .slice ka kl kc] 119) := (XA4.out.other (by have := hNbN.out; omega) 0 _).other (by have := hNbN.out; omega) 1 _
  have XR5 : Hid (Bz ((v4.setCell ⟨bN, 0, none⟩ (Value.int .i64 R.1)).setCell ⟨bN, 1, none⟩ (Value.slice a5 R.2.1.length c5)) (u.heap.size + 1) #[.int .i64 0, .slice none 0 0] 80) := (XR4.out.other (by have := hNbN.out; omega) 0 _).other (by have := hNbN.out; omega) 1 _
  have BW5 : Hid (Below u.heap.size u ((v4.setCell ⟨bN, 0, none⟩ (Value.int .i64 R.1)).setCell ⟨bN, 1, none⟩ (Value.slice a5 R.2.1.length c5))) := (BW4.out.setCell (show u.heap.size ≤ bN by have := hNbN.out; omega) _).setCell (show u.heap.size ≤ bN by have := hNbN.out; omega) _
  have XK5 : Hid (Bz ((v4.setCell ⟨bN, 0, none⟩ (Value.int .i64 R.1)).setCell ⟨bN, 1, none⟩ (Value.slice a5 R.2.1.length c5)) kb #[.int .i64 wd, .slice xa xl xc] 80) := (XK4.out.other (by have := hNK.out; omega) 0 _).other (by have := hNK.out; omega) 1 _
  have NW5 : Hid (Nw ((v4.setCell ⟨bN, 0, none⟩ (Value.int .i64 R.1)).setCell ⟨bN, 1, none⟩ (Value.slice a5 R.2.1.length c5)) u.heap.size a5 R.2.1) := ((NW4.out.set XN4.out (by decide) 0 _).set (XN4.out.set 0 _) (by decide) 1 _)
  generalize (v4.setCell ⟨bN, 0, none⟩ (Value.int .i64 R.1)).setCell ⟨bN, 1, none⟩ (Value.slice a5 R.2.1.length c5) = v5 at *
  clear e8 e9 f8 f9
  have hs5 : Hid ((fun z => S9 u.heap.size op vr A B bw wa wl wc ka kl kc kb wd xa xl xc z) v5) := ⟨XA5.out.cell 0, XA5.out.cell 1, XA5.out.cell 2, XA5.out.cell 3, XA5.out.cell 4, XA5.out.cell 5, XA5.out.cell 6, XK5.out.cell 0, XK5.out.cell 1⟩
  refine hK _ _ (Sx.behind (by kernel_rfl) hs5.out) ?_
  clear hK K
  try go_simp
  refine tkB (T := fun z => S9 u.heap.size op vr A B bw wa wl wc ka kl kc kb wd xa xl xc z) (i := 15) (v := Value.bool R.2.2) rfl (by kernel_rfl) (fun _ _ _ h => by first | exact h | exact h.elim | cases h.1) (fun _ h => h.elim) (fun _ h => h) (Sx.behind (by kernel_rfl) hs5.out) (Or.inl ⟨by rfl, fun z hz => by obtain ⟨e0, e1, e2, e3, e4, e5, e6, e7, e8⟩ := hz; go_simp⟩) ?_
  try go_simp
  refine wpAnyX_done (by kernel_rfl) ?_ _
  have q0 := XN5.out.cell 0
  have q1 := XN5.out.cell 1
  have r0 := XR5.out.cell 0
  have r1 := XR5.out.cell 1
  have f0 := XR5.out.froz 0
  have f1 := XR5.out.froz 1
  simp at q0 q1 r0 r1
  go_wp2_with fail
  obtain ⟨y0, y1⟩ := ((Bz.blk XR5.out).put0' (.int .i64 R.1)).put1' (.slice a5 R.2.1.length c5) |>.cells
  exact bodyPost_ret (v := Value.agg #[.int .i64 R.1, .slice a5 R.2.1.length c5]) (by simp [results, Tryz.results116, go_sem, y0, y1]) rfl (RetV.box (Bz.blk XR5.out) NW5.out (Nat.le_refl _) (Nat.le_succ _) BW5.out)

theorem one_kid {vs all : List Wd} {l : List Bw} {n : Tc} (hA : NodeAt vs all n) (h4 : 4 ≤ n.op) (hl : l.map Bw.ct = all := by rfl) :
    ∃ (j : Nat) (x : Bw), n.ks.length = 1 ∧ n.ks.getD 0 0 = (j : Int) ∧ l[j]? = some x ∧ all.getD (n.ks.getD 0 0).toNat (0, []) = x.ct ∧ okWd x.ct := by
  have h1 := hA.one h4
  have hm : n.ks.getD 0 0 ∈ n.ks := by
    have : n.ks.getD 0 0 = n.ks[0] := by simp [List.getD, show 0 < n.ks.length by omega]
    rw [this]; exact List.getElem_mem _
  have hk := hA.kid _ hm
  subst hl
  simp only [List.length_map] at hk
  have hjl : (n.ks.getD 0 0).toNat < l.length := by omega
  refine ⟨(n.ks.getD 0 0).toNat, l[(n.ks.getD 0 0).toNat], h1, by omega, List.getElem?_eq_getElem hjl, ?_, ?_⟩
  · rw [List.getD, List.getElem?_map, List.getElem?_eq_getElem hjl]; rfl
  · exact hA.oks _ (List.mem_map_of_mem (List.getElem_mem hjl))
theorem wf_in64 {x : Int} (h : in64 x) : (Lit.int .i64 x).wf = true := by
  unfold in64 at h
  have a1 : IntKind.i64.min ≤ x := by have : IntKind.i64.min = -9223372036854775808 := by decide
                                      omega
  have a2 : x ≤ IntKind.i64.max := by have : IntKind.i64.max = 9223372036854775807 := by decide
                                      omega
  simp only [Lit.wf, a1, a2, decide_true, Bool.and_self]
theorem len_ok {x : Wd} (h : okWd x) : 1 ≤ x.2.length := by have := right_W h.1; omega
theorem meth1 (eb : Nat) (vs l : List Bw) (n : Tc) (wa ka : Option Addr) (wc kc : Nat) (u : World) (hE : Evl u eb vs l) (hA : NodeAt (vs.map Bw.ct) (l.map Bw.ct) n) (hk : RdI u ka n.ks) (hw : Rd u wa n.ws) (h64 : in64 n.a) (ho : n.op = 1) : Calls Tryz.prog 109 #[.pointer (some ⟨eb, 0, none⟩), nodA n wa ka wc kc] u (RetV u (nodV (vs.map Bw.ct) (l.map Bw.ct) n)) := by
  obtain ⟨h1, h2⟩ := hA.var ho
  simp only [List.length_map] at h2
  have hl : n.vr.toNat < vs.length := by omega
  have e : nodV (vs.map Bw.ct) (l.map Bw.ct) n = (vs[n.vr.toNat]).ct := by
    unfold nodV
    rw [if_pos ho, List.getD, List.getElem?_map, List.getElem?_eq_getElem hl]; rfl
  have hi := hA.is
  rw [e] at hi ⊢
  exact evVar_any eb vs l n wa ka wc kc u hE n.vr.toNat _ (by omega) (List.getElem?_eq_getElem hl) (len_ok hi)
theorem meth2 (eb : Nat) (vs l : List Bw) (n : Tc) (wa ka : Option Addr) (wc kc : Nat) (u : World) (hE : Evl u eb vs l) (hA : NodeAt (vs.map Bw.ct) (l.map Bw.ct) n) (hk : RdI u ka n.ks) (hw : Rd u wa n.ws) (h64 : in64 n.a) (ho : n.op = 2) : Calls Tryz.prog 110 #[.pointer (some ⟨eb, 0, none⟩), nodA n wa ka wc kc] u (RetV u (nodV (vs.map Bw.ct) (l.map Bw.ct) n)) := by
  have e : nodV (vs.map Bw.ct) (l.map Bw.ct) n = (n.bw, n.ws) := by
    unfold nodV
    rw [if_neg (by omega), if_pos ho]
  have hi := hA.is
  rw [e] at hi ⊢
  exact evConst_any eb n wa ka wc kc u hw (len_ok hi)
theorem meth3 (eb : Nat) (vs l : List Bw) (n : Tc) (wa ka : Option Addr) (wc kc : Nat) (u : World) (hE : Evl u eb vs l) (hA : NodeAt (vs.map Bw.ct) (l.map Bw.ct) n) (hk : RdI u ka n.ks) (hw : Rd u wa n.ws) (h64 : in64 n.a) (ho : n.op = 3) : Calls Tryz.prog 111 #[.pointer (some ⟨eb, 0, none⟩), nodA n wa ka wc kc] u (RetV u (nodV (vs.map Bw.ct) (l.map Bw.ct) n)) := by
  have e : nodV (vs.map Bw.ct) (l.map Bw.ct) n = catS (kidsV (l.map Bw.ct) n.ks) := by
    unfold nodV
    rw [if_neg (by omega), if_neg (by omega), if_pos ho]
  rw [e]
  exact evCat_any eb vs l n wa ka wc kc u hE hk (fun j hj => by have := hA.kid j hj; simpa using this) (by have := hA.many ho; omega) (hA.fit ho) hA.oks
theorem meth4 (eb : Nat) (vs l : List Bw) (n : Tc) (wa ka : Option Addr) (wc kc : Nat) (u : World) (hE : Evl u eb vs l) (hA : NodeAt (vs.map Bw.ct) (l.map Bw.ct) n) (hk : RdI u ka n.ks) (hw : Rd u wa n.ws) (h64 : in64 n.a) (ho : n.op = 4) : Calls Tryz.prog 112 #[.pointer (some ⟨eb, 0, none⟩), nodA n wa ka wc kc] u (RetV u (nodV (vs.map Bw.ct) (l.map Bw.ct) n)) := by
  obtain ⟨j, x, h1, h2, h3, h4, h5⟩ := one_kid hA (by omega)
  have e : nodV (vs.map Bw.ct) (l.map Bw.ct) n = two (partR x.wd x.ws n.a n.b) := by
    have hg : (l.map Bw.ct).getD (n.ks.getD 0 0).toNat (0, []) = (x.wd, x.ws) := h4
    unfold nodV opV
    simp only [ho, hg]
    simp
  rw [e]
  exact evPart_any eb vs l n wa ka wc kc u hE hk h1 j x h2 h3 (wf_in64 h64)
theorem meth5 (eb : Nat) (vs l : List Bw) (n : Tc) (wa ka : Option Addr) (wc kc : Nat) (u : World) (hE : Evl u eb vs l) (hA : NodeAt (vs.map Bw.ct) (l.map Bw.ct) n) (hk : RdI u ka n.ks) (hw : Rd u wa n.ws) (h64 : in64 n.a) (ho : n.op = 5) : Calls Tryz.prog 113 #[.pointer (some ⟨eb, 0, none⟩), nodA n wa ka wc kc] u (RetV u (nodV (vs.map Bw.ct) (l.map Bw.ct) n)) := by
  obtain ⟨j, x, h1, h2, h3, h4, h5⟩ := one_kid hA (by omega)
  have e : nodV (vs.map Bw.ct) (l.map Bw.ct) n = two (wdnR x.wd x.ws n.a false) := by
    have hg : (l.map Bw.ct).getD (n.ks.getD 0 0).toNat (0, []) = (x.wd, x.ws) := h4
    unfold nodV opV
    simp only [ho, hg]
    simp
  rw [e]
  exact evZero_any eb vs l n wa ka wc kc u hE hk h1 j x h2 h3
theorem meth6 (eb : Nat) (vs l : List Bw) (n : Tc) (wa ka : Option Addr) (wc kc : Nat) (u : World) (hE : Evl u eb vs l) (hA : NodeAt (vs.map Bw.ct) (l.map Bw.ct) n) (hk : RdI u ka n.ks) (hw : Rd u wa n.ws) (h64 : in64 n.a) (ho : n.op = 6) : Calls Tryz.prog 114 #[.pointer (some ⟨eb, 0, none⟩), nodA n wa ka wc kc] u (RetV u (nodV (vs.map Bw.ct) (l.map Bw.ct) n)) := by
  obtain ⟨j, x, h1, h2, h3, h4, h5⟩ := one_kid hA (by omega)
  have e : nodV (vs.map Bw.ct) (l.map Bw.ct) n = two (wdnR x.wd x.ws n.a true) := by
    have hg : (l.map Bw.ct).getD (n.ks.getD 0 0).toNat (0, []) = (x.wd, x.ws) := h4
    unfold nodV opV
    simp only [ho, hg]
    simp
  rw [e]
  exact evSign_any eb vs l n wa ka wc kc u hE hk h1 j x h2 h3
theorem meth7 (eb : Nat) (vs l : List Bw) (n : Tc) (wa ka : Option Addr) (wc kc : Nat) (u : World) (hE : Evl u eb vs l) (hA : NodeAt (vs.map Bw.ct) (l.map Bw.ct) n) (hk : RdI u ka n.ks) (hw : Rd u wa n.ws) (h64 : in64 n.a) (ho : n.op = 7) : Calls Tryz.prog 115 #[.pointer (some ⟨eb, 0, none⟩), nodA n wa ka wc kc] u (RetV u (nodV (vs.map Bw.ct) (l.map Bw.ct) n)) := by
  obtain ⟨j, x, h1, h2, h3, h4, h5⟩ := one_kid hA (by omega)
  have e : nodV (vs.map Bw.ct) (l.map Bw.ct) n = two (turnR x.wd x.ws n.a) := by
    have hg : (l.map Bw.ct).getD (n.ks.getD 0 0).toNat (0, []) = (x.wd, x.ws) := h4
    unfold nodV opV
    simp only [ho, hg]
    simp
  rw [e]
  exact evLeft_any eb vs l n wa ka wc kc u hE hk h1 j x h2 h3
theorem meth8 (eb : Nat) (vs l : List Bw) (n : Tc) (wa ka : Option Addr) (wc kc : Nat) (u : World) (hE : Evl u eb vs l) (hA : NodeAt (vs.map Bw.ct) (l.map Bw.ct) n) (hk : RdI u ka n.ks) (hw : Rd u wa n.ws) (h64 : in64 n.a) (ho : n.op = 8) : Calls Tryz.prog 116 #[.pointer (some ⟨eb, 0, none⟩), nodA n wa ka wc kc] u (RetV u (nodV (vs.map Bw.ct) (l.map Bw.ct) n)) := by
  obtain ⟨j, x, h1, h2, h3, h4, h5⟩ := one_kid hA (by omega)
  have e : nodV (vs.map Bw.ct) (l.map Bw.ct) n = two (turnR x.wd x.ws ((x.wd - n.a % x.wd) % x.wd)) := by
    have hg : (l.map Bw.ct).getD (n.ks.getD 0 0).toNat (0, []) = (x.wd, x.ws) := h4
    unfold nodV opV
    simp only [ho, hg]
    simp
  rw [e]
  exact evRight_any eb vs l n wa ka wc kc u hE hk h1 j x h2 h3 h5 (hA.wide ho)
theorem meth9 (eb : Nat) (vs l : List Bw) (n : Tc) (wa ka : Option Addr) (wc kc : Nat) (u : World) (hE : Evl u eb vs l) (hA : NodeAt (vs.map Bw.ct) (l.map Bw.ct) n) (hk : RdI u ka n.ks) (hw : Rd u wa n.ws) (h64 : in64 n.a) (ho : n.op = 9) : Calls Tryz.prog 117 #[.pointer (some ⟨eb, 0, none⟩), nodA n wa ka wc kc] u (RetV u (nodV (vs.map Bw.ct) (l.map Bw.ct) n)) := by
  obtain ⟨j, x, h1, h2, h3, h4, h5⟩ := one_kid hA (by omega)
  have e : nodV (vs.map Bw.ct) (l.map Bw.ct) n = two (repR x.wd x.ws n.a) := by
    have hg : (l.map Bw.ct).getD (n.ks.getD 0 0).toNat (0, []) = (x.wd, x.ws) := h4
    unfold nodV opV
    simp only [ho, hg]
    simp
  rw [e]
  exact evRep_any eb vs l n wa ka wc kc u hE hk h1 j x h2 h3

theorem RdW.at {w : World} {a : Option Addr} {l : List Bw} (h : RdW w a l) : ∀ x ∈ l, Rd w x.a x.ws ∧ in64 x.wd := fun x hx => by
 obtain ⟨i, hi, rfl⟩ := List.mem_iff_getElem.1 hx
 obtain ⟨-, h | ⟨b, o, -, hc⟩⟩ := h
 ·subst h; simp at hi
 ·exact ⟨(hc i _ (List.getElem?_eq_getElem hi)).2.2.1, (hc i _ (List.getElem?_eq_getElem hi)).2.2.2⟩
def Ek (w wr : World) (a : Option Addr) (xs : List Nat) : Prop := Rd wr a xs ∧ ∀ ad, a = some ad → ad.block < w.heap.size ∨ ∃ cur, wr.heap[ad.block]? = some (.cells cur 109 (0, 0))
theorem Ek.kept {w wr wr' : World} {a : Option Addr} {xs : List Nat} (h : Ek w wr a xs) (h1 : ∀ k, k < w.heap.size → wr'.heap[k]? = wr.heap[k]?) (h2 : ∀ (k : Nat) (cur : Array Value), wr.heap[k]? = some (Obj.cells cur 109 (0, 0)) → wr'.heap[k]? = wr.heap[k]?) : Ek w wr' a xs := by
 obtain ⟨⟨r1, r2, r3⟩, h3⟩ := h
 have hblk : ∀ ad, a = some ad → wr'.heap[ad.block]? = wr.heap[ad.block]? := fun ad e => by
  rcases h3 ad e with h | ⟨cur, h⟩
  ·exact h1 _ h
  ·exact h2 _ cur h
 refine ⟨⟨r1, r2, ?_⟩, fun ad e => ?_⟩
 ·rcases r3 with h | ⟨b, o, rfl, hc⟩
  ·exact .inl h
  ·exact .inr ⟨b, o, rfl, fun i hi => (World.cell?_of_block (a := ⟨b, o + i, none⟩) (hblk ⟨b, o, none⟩ rfl)).trans (hc i hi)⟩
 ·rcases h3 ad e with h | ⟨cur, h⟩
  ·exact .inl h
  ·exact .inr ⟨cur, by rw [hblk ad e]; exact h⟩
theorem Ek.later {w wr wr' : World} {a : Option Addr} {xs : List Nat} (h : Ek w wr a xs) (hs : w.heap.size ≤ wr.heap.size) (hb : Below wr.heap.size wr wr') : Ek w wr' a xs :=
 h.kept (fun k hk => hb.block k (Nat.lt_of_lt_of_le hk hs)) (fun k cur hc => hb.block k (lt_of_block hc))
theorem Nw.ek {w wr : World} {lo : Nat} {a : Option Addr} {xs : List Nat} (h : Nw wr lo a xs) (hl : xs.length ≤ 1048576) (hx : ∀ x ∈ xs, x < 18446744073709551616) : Ek w wr a xs := by
 refine ⟨h.rd hl hx, fun ad e => .inr ?_⟩
 rcases h with ⟨-, h2⟩ | ⟨g, cur, h1, -, h3, -⟩
 ·exact (h2 ad e).2.2
 ·rw [h1] at e; cases e; exact ⟨cur, h3⟩
theorem Rd.ek {w wr : World} {a : Option Addr} {xs : List Nat} (h : Rd w a xs) (hx : 1 ≤ xs.length) (hb : Below w.heap.size w wr) : Ek w wr a xs :=
 ⟨h.later hb, fun ad e => .inl (Rd.lt h (by omega) ad e)⟩
def RetE (w u : World) (X : Wd) (e : Ending) (w' : World) : Prop := ∃ a c, e = .returned (.agg #[.int .i64 X.1, .slice a X.2.length c]) ∧ Ek w w' a X.2 ∧ Below u.heap.size u w'
theorem RetV.ek {w u : World} {X : Wd} (h : okWd X) {e : Ending} {w' : World} (hr : RetV u X e w') : RetE w u X e w' := by
 obtain ⟨a, c, he, hn, hb⟩ := hr
 have := right_W h.1
 exact ⟨a, c, he, hn.ek (by omega) h.2, hb⟩
theorem kd_one {vs all : List Wd} {kd : List Bw} {n : Tc} (hA : NodeAt vs all n) (h4 : 4 ≤ n.op) (hd : kd.map Bw.ct = kidsV all n.ks) : ∃ x, kd[0]? = some x ∧ all.getD (n.ks.getD 0 0).toNat (0, []) = x.ct ∧ okWd x.ct := by
 have h1 := hA.one h4
 have hl : kd.length = 1 := by
  have := congrArg List.length hd
  simpa [kidsV, h1] using this
 have hx : kd[0]? = some kd[0] := List.getElem?_eq_getElem (by omega)
 have e : all.getD (n.ks.getD 0 0).toNat (0, []) = (kd[0]).ct := by
  have h2 : (kd.map Bw.ct)[0]? = some (kd[0]).ct := by rw [List.getElem?_map, hx]; rfl
  rw [hd] at h2
  match hks : n.ks, h1 with
  | [k], _ =>
   rw [hks] at h2
   simp only [kidsV, List.map_cons, List.map_nil, List.getElem?_cons_zero, Option.some.injEq] at h2
   simpa using h2
 refine ⟨kd[0], hx, e, ?_⟩
 rw [← e]
 have hm : n.ks.getD 0 0 ∈ n.ks := by
  have : n.ks.getD 0 0 = n.ks[0] := by simp [List.getD, show 0 < n.ks.length by omega]
  rw [this]; exact List.getElem_mem _
 have hk := hA.kid _ hm
 have hjl : (n.ks.getD 0 0).toNat < all.length := by omega
 rw [List.getD, List.getElem?_eq_getElem hjl]
 exact hA.oks _ (List.getElem_mem hjl)
theorem l4Node_all (va k2 wa ka : Option Addr) (vc kc2 wc kc : Nat) (vs kd : List Bw) (n : Tc) (all : List Wd) (w u : World) (hA : NodeAt (vs.map Bw.ct) all n) (hv0 : RdW w va vs) (hb : Below w.heap.size w u) (hd : kd.map Bw.ct = kidsV all n.ks) (hk : RdW u k2 kd) (hw : Rd w wa n.ws) (h64 : in64 n.a) :
  Calls Tryz.prog 74 #[.slice va vs.length vc, nodA n wa ka wc kc, .slice k2 kd.length kc2] u (RetE w u (nodV (vs.map Bw.ct) all n)) := by
 have hop := hA.op
 obtain ⟨op, vr, A, B, bw, ws, ks⟩ := n
 simp only [] at hop hd hw h64
 rcases op_nine hop.1 hop.2 with rfl | rfl | rfl | rfl | rfl | rfl | rfl | rfl | rfl
 ·obtain ⟨h1, h2⟩ := hA.var rfl
  simp only [List.length_map] at h1 h2
  have hl : vr.toNat < vs.length := by omega
  have hx : vs[vr.toNat]? = some vs[vr.toNat] := List.getElem?_eq_getElem hl
  have e : nodV (vs.map Bw.ct) all ⟨1, vr, A, B, bw, ws, ks⟩ = (vs[vr.toNat]).ct := by
   unfold nodV
   simp only [if_true, List.getD, List.getElem?_map, hx]
   rfl
  have hi := hA.is
  rw [e] at hi ⊢
  refine (l4Var_any va k2 wa ka vc kc2 wc kc vs kd vr A B bw ws ks u vr.toNat _ (hv0.later hb) (by omega) hx).mono ?_
  rintro en w' ⟨rfl, hb'⟩
  exact ⟨_, _, rfl, ((hv0.at _ (List.getElem_mem hl)).1.ek (len_ok hi) hb).later hb.size hb', hb'⟩
 ·have e : nodV (vs.map Bw.ct) all ⟨2, vr, A, B, bw, ws, ks⟩ = (bw, ws) := by simp [nodV]
  have hi := hA.is
  rw [e] at hi ⊢
  refine (l4Con_any va k2 wa ka vc kc2 wc kc vs kd vr A B bw ws ks u).mono ?_
  rintro en w' ⟨rfl, hb'⟩
  exact ⟨_, _, rfl, (hw.ek (len_ok hi) hb).later hb.size hb', hb'⟩
 ·have e : nodV (vs.map Bw.ct) all ⟨3, vr, A, B, bw, ws, ks⟩ = catS (kd.map Bw.ct) := by rw [hd]; simp [nodV]
  have hi := hA.is
  have hm := hA.many rfl
  have hf := hA.fit rfl
  simp only [] at hm hf
  rw [← hd] at hf
  have hl : kd.length = ks.length := by
   have := congrArg List.length hd
   simpa [kidsV] using this
  rw [e] at hi ⊢
  refine (l4Cat_any va k2 wa ka vc kc2 wc kc vs kd vr A B bw ws ks u hk (fun x hx => ?_) (by omega) hf).mono (fun _ _ h => h.ek hi)
  rw [hd] at hx
  simp only [kidsV, List.mem_map] at hx
  obtain ⟨j, hj, rfl⟩ := hx
  have h := hA.kid j hj
  have hjl : j.toNat < all.length := by omega
  rw [List.getD, List.getElem?_eq_getElem hjl]
  exact hA.oks _ (List.getElem_mem hjl)
 ·obtain ⟨x, h1, h2, h3⟩ := kd_one hA (by simp) hd
  have e : nodV (vs.map Bw.ct) all ⟨4, vr, A, B, bw, ws, ks⟩ = two (partR x.wd x.ws A B) := by
   have hg : all.getD ((ks.getD 0 0).toNat) (0, []) = (x.wd, x.ws) := h2
   unfold nodV opV
   simp only [hg]
   simp
  have hi := hA.is
  rw [e] at hi ⊢
  exact (l4Part_any va k2 wa ka vc kc2 wc kc vs kd vr A B bw ws ks u x hk h1 (wf_in64 h64)).mono (fun _ _ h => h.ek hi)
 ·obtain ⟨x, h1, h2, h3⟩ := kd_one hA (by simp) hd
  have e : nodV (vs.map Bw.ct) all ⟨5, vr, A, B, bw, ws, ks⟩ = two (wdnR x.wd x.ws A false) := by
   have hg : all.getD ((ks.getD 0 0).toNat) (0, []) = (x.wd, x.ws) := h2
   unfold nodV opV
   simp only [hg]
   simp
  have hi := hA.is
  rw [e] at hi ⊢
  exact (l4Zero_any va k2 wa ka vc kc2 wc kc vs kd vr A B bw ws ks u x hk h1).mono (fun _ _ h => h.ek hi)
 ·obtain ⟨x, h1, h2, h3⟩ := kd_one hA (by simp) hd
  have e : nodV (vs.map Bw.ct) all ⟨6, vr, A, B, bw, ws, ks⟩ = two (wdnR x.wd x.ws A true) := by
   have hg : all.getD ((ks.getD 0 0).toNat) (0, []) = (x.wd, x.ws) := h2
   unfold nodV opV
   simp only [hg]
   simp
  have hi := hA.is
  rw [e] at hi ⊢
  exact (l4Sign_any va k2 wa ka vc kc2 wc kc vs kd vr A B bw ws ks u x hk h1).mono (fun _ _ h => h.ek hi)
 ·obtain ⟨x, h1, h2, h3⟩ := kd_one hA (by simp) hd
  have e : nodV (vs.map Bw.ct) all ⟨7, vr, A, B, bw, ws, ks⟩ = two (turnR x.wd x.ws A) := by
   have hg : all.getD ((ks.getD 0 0).toNat) (0, []) = (x.wd, x.ws) := h2
   unfold nodV opV
   simp only [hg]
   simp
  have hi := hA.is
  rw [e] at hi ⊢
  exact (l4Left_any va k2 wa ka vc kc2 wc kc vs kd vr A B bw ws ks u x hk h1).mono (fun _ _ h => h.ek hi)
 ·obtain ⟨x, h1, h2, h3⟩ := kd_one hA (by simp) hd
  have e : nodV (vs.map Bw.ct) all ⟨8, vr, A, B, bw, ws, ks⟩ = two (turnR x.wd x.ws ((x.wd - A % x.wd) % x.wd)) := by
   have hg : all.getD ((ks.getD 0 0).toNat) (0, []) = (x.wd, x.ws) := h2
   unfold nodV opV
   simp only [hg]
   simp
  have hi := hA.is
  rw [e] at hi ⊢
  exact (l4Right_any va k2 wa ka vc kc2 wc kc vs kd vr A B bw ws ks u x hk h1 h3 (hA.wide rfl)).mono (fun _ _ h => h.ek hi)
 ·obtain ⟨x, h1, h2, h3⟩ := kd_one hA (by simp) hd
  have e : nodV (vs.map Bw.ct) all ⟨9, vr, A, B, bw, ws, ks⟩ = two (repR x.wd x.ws A) := by
   have hg : all.getD ((ks.getD 0 0).toNat) (0, []) = (x.wd, x.ws) := h2
   unfold nodV opV
   simp only [hg]
   simp
  have hi := hA.is
  rw [e] at hi ⊢
  exact (l4Rep_any va k2 wa ka vc kc2 wc kc vs kd vr A B bw ws ks u x hk h1).mono (fun _ _ h => h.ek hi)

structure Es (w : World) (b : Option Addr) (n c2 : Nat) (wr : World) (v : Value) (l : List Bw) : Prop where
 xt : Bz wr w.heap.size #[.slice b n c2] 28
 xr : Bz wr (w.heap.size + 1) #[.int .i64 0, .slice none 0 0] 80
 row : OB2 wr (w.heap.size + 2) v l
 ek : ∀ x ∈ l, Ek w wr x.a x.ws
 bel : Below w.heap.size w wr
theorem Es.later {w wr wr' : World} {b : Option Addr} {n c2 : Nat} {v : Value} {l : List Bw} (h : Es w b n c2 wr v l) (hb : Below wr.heap.size wr wr') : Es w b n c2 wr' v l :=
 ⟨h.xt.later hb, h.xr.later hb, h.row.later hb, fun x hx => (h.ek x hx).later h.bel.size hb, h.bel.trans (hb.mono h.bel.size)⟩
theorem Es.grown {w wr wr' : World} {b : Option Addr} {n c2 : Nat} {v v' : Value} {l : List Bw} {y : Bw} (h : Es w b n c2 wr v l) (hg : wr.grownBy wr' v.ownBlock) (ho : OB2 wr' (w.heap.size + 2) v' (l ++ [y])) (hy : Ek w wr y.a y.ws) : Es w b n c2 wr' v' (l ++ [y]) := by
 have far : ∀ {b : Nat} {cs : Array Value} {t : TypeId}, Bz wr b cs t → b < w.heap.size + 2 → Bz wr' b cs t := fun {b cs t} hB hl => by
  unfold Bz; rw [hg.block b hB.lt (h.row.low hl)]; exact hB
 have k1 : ∀ k, k < w.heap.size → wr'.heap[k]? = wr.heap[k]? := fun k hk => hg.block k (Nat.lt_of_lt_of_le hk h.bel.size) (h.row.low (by omega))
 have k2 : ∀ (k : Nat) (cur : Array Value), wr.heap[k]? = some (Obj.cells cur 109 (0, 0)) → wr'.heap[k]? = wr.heap[k]? := fun k cur hc => hg.block k (lt_of_block hc) (h.row.typedE hc (by decide))
 refine ⟨far h.xt (by omega), far h.xr (by omega), ho, fun x hx => ?_, h.bel.grown hg h.bel.size (fun k hk => by have := (h.row.lt hk).1; omega)⟩
 rcases List.mem_append.1 hx with hx | hx
 ·exact (h.ek x hx).kept k1 k2
 ·rw [List.mem_singleton.1 hx]; exact hy.kept k1 k2
theorem OB2.fresh (w : World) (B : Nat) (hB : B ≤ w.heap.size) : OB2 (w.alloc (Obj.cells #[] 80)) B (.slice (some ⟨w.heap.size, 0, none⟩) 0 0) [] :=
 World.ownsRow_made w #[] 0 hB (Nat.zero_le _) (by simp)
theorem wpList_appB2E (w : World) {ops : Array Oper} {rest : List Oper} {o : Oper} {a : Act} {Q : Exit → Act → World → Prop} (hgd : o.guard = none) (s x : Operand)
  (ho : o.op = .call { callee := .builtin .append, args := #[s, x], argTypes := #[25, 25] })
  (base : Nat) (v : Value) (l : List Bw) (y : Bw) (hs : a.eval s = v) (hown : OB2 w base v l) (b c : Nat) (hx : a.eval x = .slice (some ⟨b, 0, none⟩) 1 c)
  (h0 : w.cell? ⟨b, 0, none⟩ = some (.int .i64 y.wd)) (h1 : w.cell? ⟨b, 1, none⟩ = some (.slice y.a y.ws.length y.c)) (hl : l.length ≤ 1073741824) (hbase : base ≤ w.heap.size)
  (h : ∀ v' w', OB2 w' base v' (l ++ [y]) → w.grownBy w' v.ownBlock → wpList Tryz.prog ops Q rest (a.put o.dst v') w') : wpList Tryz.prog ops Q (o :: rest) a w := by
 obtain ⟨i0, hi, hz0, hz1, hz2⟩ := info_parts Tryz.infoBits
 refine wpList_append_lies w hgd s x 25 ho base 80 i0 _ 2 32 Tryz.underlying25 hi hz0 hz1 hz2 rfl (by decide) v l.length (bwc l) hs hown ⟨b, 0, none⟩ 1 c (bwc [y]) hx rfl ?_ ?_ (by decide) ?_ ?_ hbase _ rfl ?_
 ·intro j u hj
  rw [Addr.add_lit]
  match j, hj with
  | 0, hj => simp [bwc] at hj; subst hj; exact h0
  | 1, hj => simp [bwc] at hj; subst hj; exact h1
  | j + 2, hj => simp [bwc] at hj
 ·intro u hu
  simp [bwc] at hu
  rcases hu with rfl | rfl <;> rfl
 ·unfold maxLen; omega
 ·omega
 ·intro g cap w' h1 h2 _ _
  refine h _ w' ?_ h2
  unfold OB2
  rw [bwc_append, List.length_append]
  exact h1

set_option maxHeartbeats 2000000 in
set_option maxRecDepth 100000 in
theorem implLits_any (a b : Option Addr) (c c2 n : Nat) (ds : List Dc) (xs : List Lg) (w : World) (hr : RdD w a ds) (hs : RdL w b xs) (hn : xs.length = n) (hG : GF w) :
  Calls Tryz.prog 43 #[.slice a ds.length c, .slice b n c2] w fun e w' => e = .returned (.bool (litR ds (xs.map Lg.ct))) ∧ Below w.heap.size w w' := by
 have hl1 := hr.1
 have hl2 := hs.1
 rw [hn] at hl2
 have HD := kide (fun u (hu : Below w.heap.size w u) => implDecls_any a c ds u (hr.later hu))
 have HI := kide (fun u (hu : Below w.heap.size w u) => idsOk_any b c2 n xs u (hs.later hu) hn)
 have HRD := kide (fun u (hu : Below w.heap.size w u) => hr.later hu)
 have HRL := kide (fun u (hu : Below w.heap.size w u) => hs.later hu)
 have HG := kide (fun u (hu : Below w.heap.size w u) => hG.later hu)
 have HN := kide hn
 cases hd : dclR ds with
 | false =>
  have hR : litR ds (xs.map Lg.ct) = false := by simp [litR, hd]
  rw [hR]
  rw [hd] at HD
  clear hR hd hr hs hn hG
  go_enter Tryz.func43, Tryz.ntmps43
  go_wp2_with fail
  refine Calls.mono (HD.out _ (Below.refl _ _)) ?_
  rintro e w1 ⟨rfl, hb1⟩
  go_wp2_with fail
  go_ret
  exact ⟨rfl, hb1⟩
 | true =>
  rw [hd] at HD
  have HDT := kide hd
  cases hI : idsR (xs.map Lg.ct) with
  | false =>
   have hR : litR ds (xs.map Lg.ct) = false := by rw [litR_eq, hI]; simp
   rw [hR]
   rw [hI] at HI
   clear hR hd hr hs hn hG hI
   go_enter Tryz.func43, Tryz.ntmps43
   go_wp2_with fail
   refine Calls.mono (HD.out _ (Below.refl _ _)) ?_
   rintro e w1 ⟨rfl, hb1⟩
   have B1 := kide hb1
   clear hb1
   go_wp2_with fail
   refine Calls.mono (HI.out _ B1.out) ?_
   rintro e w2 ⟨rfl, hb2⟩
   go_wp2_with fail
   go_ret
   exact ⟨rfl, B1.out.trans (hb2.mono B1.out.size)⟩
  | true =>
   rw [hI] at HI
   generalize hZ : litR ds (xs.map Lg.ct) = Z
   have HZ : Hid ((xs.map Lg.ct).all (sideR ds) = Z) := by
    show _ = _
    rw [← hZ, litR_eq, hI, hd]
    simp
   clear hZ hd hr hs hn hG hI
   go_enter Tryz.func43, Tryz.ntmps43
   go_wp2_with fail
   refine Calls.mono (HD.out _ (Below.refl _ _)) ?_
   rintro e w1 ⟨rfl, hb1⟩
   have B1 := kide hb1
   clear hb1
   go_wp2_with fail
   refine Calls.mono (HI.out _ B1.out) ?_
   rintro e w2 ⟨rfl, hb2⟩
   have B2 := kide (B1.out.trans (hb2.mono B1.out.size))
   clear hb2 B1
   go_wp2_with fail
   go_loopw [17] (fun i wr => ∃ (k : Nat), k ≤ n ∧ i = .int .i64 k ∧ ((xs.map Lg.ct).drop k).all (sideR ds) = Z ∧ Below w.heap.size w wr) (fun i _ => n - (intOf i).toNat)
   case atStart => exact ⟨0, Nat.zero_le _, rfl, by rw [List.drop_zero]; exact HZ.out, B2.out⟩
   case round =>
    obtain ⟨k, hk, rfl, hq, hbel⟩ := hrel
    have HB := kide hbel
    by_cases hlt : k < n
    ·obtain ⟨-, h | ⟨b1, o1, rfl, hc⟩⟩ := HRL.out wr hbel
     ·have := HN.out; subst h; simp at this; omega
     obtain ⟨⟨id, q, ss, sa, sc, ts, ta, tc⟩, hx⟩ : ∃ x, xs[k]? = some x := ⟨_, List.getElem?_eq_getElem (by rw [HN.out]; exact hlt)⟩
     obtain ⟨⟨p0, p1, p2, p3⟩, pr, pr2, hid⟩ := hc k _ hx
     simp only [] at p0 p1 p2 p3 pr pr2 hid
     rw [all_step (l := ⟨id, q, ss.map Tg.ct, ts.map Tg.ct⟩) (by rw [List.getElem?_map, hx]; rfl)] at hq
     have HQ := kide hq
     have hki : (k : Int) < (n : Int) := by omega
     have HA := kide (HB.out.alloc HB.out.size (.cells #[.int .i64 id, .bool q, .slice sa ss.length sc, .slice ta ts.length tc] 30))
     have hbx : Below wr.heap.size wr (wr.alloc (.cells #[.int .i64 id, .bool q, .slice sa ss.length sc, .slice ta ts.length tc] 30)) := (Below.refl _ _).alloc (Nat.le_refl _) _
     have HSD := kide (sidesOk_any a c ds id q sa ta ss.length sc ts.length tc ss ts _ (HRD.out _ HA.out) (pr.later hbx) (pr2.later hbx) rfl rfl (HG.out _ HA.out) HDT.out)
     generalize sideR ds ⟨id, q, ss.map Tg.ct, ts.map Tg.ct⟩ = SR at *
     generalize ss.length = m1 at *
     generalize ts.length = m2 at *
     clear hc hx hq hbel pr pr2 hid hbx
     cases SR with
     | false =>
      go_wp2_with fail
      refine Calls.mono HSD.out ?_
      rintro e w2 ⟨rfl, hb2⟩
      have HF : Hid (Z = false) := by show _ = _; rw [← HQ.out]; rfl
      go_wp2_with fail
      go_ret
      exact ⟨ret_bool HF.out.symm, HA.out.trans (hb2.mono HA.out.size)⟩
     | true =>
      rw [Bool.true_and] at HQ
      go_wp2_with fail
      refine Calls.mono HSD.out ?_
      rintro e w2 ⟨rfl, hb2⟩
      have HB2 := kide (HA.out.trans (hb2.mono HA.out.size))
      clear hb2
      go_wp2_with fail
      go_roundw
      case rel => exact ⟨k + 1, by omega, by go_num, HQ.out, HB2.out⟩
      case measure => simp [intOf]; omega
    ·have e : k = n := by omega
     rw [e, List.drop_of_length_le (by simp [HN.out])] at hq
     have HQ := kide hq
     clear hq
     go_wp2_with fail
     go_ret
     exact ⟨ret_bool HQ.out, HB.out⟩

end Go.Proofs.YtkngpgonmedgpaaGreatDoor
