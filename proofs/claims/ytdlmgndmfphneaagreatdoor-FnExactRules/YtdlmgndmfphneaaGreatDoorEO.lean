/- The evaluator's methods with one Kid. -/
import Derived.Test.YtdlmgndmfphneaaGreatDoorZGAD
import Derived.Test.YtdlmgndmfphneaaGreatDoorZGAP
import Derived.Test.YtdlmgndmfphneaaGreatDoorRX
namespace Go.Proofs.YtdlmgndmfphneaaGreatDoor
set_option linter.unusedVariables false
set_option linter.unusedSimpArgs false
open Go.RowKit

theorem Bz.blk {u : World} {b : Nat} {x y : Value} {t : TypeId} (h : Bz u b #[x, y] t) : Blk u b x y t := h
theorem Nw.set {w : World} {lo β : Nat} {a : Option Addr} {xs : List Nat} {cs : Array Value} {t : TypeId} (h : Nw w lo a xs) (hB : Bz w β cs t) (ht : t ≠ 136) (i : Nat) (v : Value) : Nw (w.setCell ⟨β, i, none⟩ v) lo a xs :=
  Nw.kept h fun k cur hc => heap_setCell_other _ _ _ _ (fun e => by
    simp only [] at e
    subst e
    rw [hB] at hc
    cases hc
    exact ht rfl)

set_option maxHeartbeats 4000000 in
set_option maxRecDepth 100000 in
theorem evPart_any (eb : Nat) (vs l : List Bw) (n : Tc) (wa ka : Option Addr) (wc kc : Nat) (u : World) (hE : Evl u eb vs l) (hk : RdI u ka n.ks) (h1 : n.ks.length = 1) (j : Nat) (x : Bw) (hj : n.ks.getD 0 0 = (j : Int)) (hx : l[j]? = some x) (h64 : (Lit.int .i64 n.a).wf = true) :
    Calls Tryz.prog 132 #[.pointer (some ⟨eb, 0, none⟩), nodA n wa ka wc kc] u (RetV u (two (partR x.wd x.ws n.a n.b))) := by
  have HKID := kide (fun v (hv : Below u.heap.size u v) => kid_any eb vs l n wa ka wc kc v (hE.later hv) (hk.later hv) h1 j x hj hx)
  have hxr : Rd u x.a x.ws := by
    obtain ⟨aa, ac, -, ha⟩ := hE.ahd
    obtain ⟨-, h | ⟨ab, ao, rfl, hac⟩⟩ := ha
    · rw [h] at hx; simp at hx
    exact (hac j x hx).2.2.1
  have HOP := kide (fun v (hv : Below u.heap.size u v) => implPart_any x.wd x.a x.c x.ws n.a n.b v (hxr.later hv) h64)
  generalize hR : partR x.wd x.ws n.a n.b = R at *
  clear hR hE hk hj hx hxr h1
  obtain ⟨op, vr, A, B, bw, ws, ks⟩ := n
  obtain ⟨wd, xa, xc, xs⟩ := x
  simp only [nodA, RetB] at *
  generalize ws.length = wl at *
  generalize ks.length = kl at *
  generalize xs.length = xl at *
  have XA : Hid (Bz ((u.alloc (Obj.cells #[Value.int .i64 op, Value.int .i64 vr, Value.int .i64 A, Value.int .i64 B, Value.int .i64 bw, Value.slice wa wl wc, Value.slice ka kl kc] 63)).alloc (Obj.cells #[Value.int .i64 0, Value.slice none 0 0] 61)) u.heap.size #[Value.int .i64 op, Value.int .i64 vr, Value.int .i64 A, Value.int .i64 B, Value.int .i64 bw, Value.slice wa wl wc, Value.slice ka kl kc] 63) := (Bz.new u #[Value.int .i64 op, Value.int .i64 vr, Value.int .i64 A, Value.int .i64 B, Value.int .i64 bw, Value.slice wa wl wc, Value.slice ka kl kc] 63).later ((Below.refl _ _).alloc (Nat.le_refl _) _)
  have XR : Hid (Bz ((u.alloc (Obj.cells #[Value.int .i64 op, Value.int .i64 vr, Value.int .i64 A, Value.int .i64 B, Value.int .i64 bw, Value.slice wa wl wc, Value.slice ka kl kc] 63)).alloc (Obj.cells #[Value.int .i64 0, Value.slice none 0 0] 61)) (u.heap.size + 1) #[Value.int .i64 0, Value.slice none 0 0] 61) := by
    have := Bz.new (u.alloc (Obj.cells #[Value.int .i64 op, Value.int .i64 vr, Value.int .i64 A, Value.int .i64 B, Value.int .i64 bw, Value.slice wa wl wc, Value.slice ka kl kc] 63)) #[Value.int .i64 0, Value.slice none 0 0] 61
    rw [World.size_alloc] at this
    exact this
  have BW : Hid (Below u.heap.size u ((u.alloc (Obj.cells #[Value.int .i64 op, Value.int .i64 vr, Value.int .i64 A, Value.int .i64 B, Value.int .i64 bw, Value.slice wa wl wc, Value.slice ka kl kc] 63)).alloc (Obj.cells #[Value.int .i64 0, Value.slice none 0 0] 61))) := Ba (Ba (Below.refl _ _) _) _
  go_enter Tryz.func132, Tryz.ntmps132
  go_wp2_with fail
  generalize ((u.alloc (Obj.cells #[Value.int .i64 op, Value.int .i64 vr, Value.int .i64 A, Value.int .i64 B, Value.int .i64 bw, Value.slice wa wl wc, Value.slice ka kl kc] 63)).alloc (Obj.cells #[Value.int .i64 0, Value.slice none 0 0] 61)) = w1 at *
  refine wp_region_x (SA := fun _ => False) (SB := fun z => S7 u.heap.size op vr A B bw wa wl wc ka kl kc z) (k := 999) (by kernel_rfl) ?_
  have hbd : Below w1.heap.size w1 w1.drew := (Below.refl _ _).drew
  have XA0 := kide (XA.out.later hbd)
  have XR0 := kide (XR.out.later hbd)
  have BW0 := kide (BW.out.drew)
  clear hbd XA XR BW
  generalize w1.drew = v0 at *
  have hs0 : Hid ((fun z => S7 u.heap.size op vr A B bw wa wl wc ka kl kc z) v0) := ⟨XA0.out.cell 0, XA0.out.cell 1, XA0.out.cell 2, XA0.out.cell 3, XA0.out.cell 4, XA0.out.cell 5, XA0.out.cell 6⟩
  try go_simp
  refine wpAnyX_both (T := fun z => S7 u.heap.size op vr A B bw wa wl wc ka kl kc z) (i := 0) (v := Value.pointer (some ⟨eb, 0, none⟩)) rfl (by kernel_rfl) (by kernel_rfl) (by kernel_rfl) (fun _ _ _ h => by first | exact h | exact h.elim | cases h.1) (by decide) (fun _ h => h.elim) (fun _ h => h) (Sx.behind (by kernel_rfl) hs0.out) (Or.inl ⟨by rfl, fun z hz => by obtain ⟨e0, e1, e2, e3, e4, e5, e6⟩ := hz; go_simp⟩) ?_
  try go_simp
  refine wpAnyX_both (T := fun z => S7 u.heap.size op vr A B bw wa wl wc ka kl kc z) (i := 1) (v := Value.agg #[Value.int .i64 op, Value.int .i64 vr, Value.int .i64 A, Value.int .i64 B, Value.int .i64 bw, Value.slice wa wl wc, Value.slice ka kl kc]) rfl (by kernel_rfl) (by kernel_rfl) (by kernel_rfl) (fun _ _ _ h => by first | exact h | exact h.elim | cases h.1) (by decide) (fun _ h => h.elim) (fun _ h => h) (Sx.behind (by kernel_rfl) hs0.out) (Or.inl ⟨by rfl, fun z hz => by obtain ⟨e0, e1, e2, e3, e4, e5, e6⟩ := hz; go_simp⟩) ?_
  try go_simp
  refine wpAnyX_both (T := fun z => S7 u.heap.size op vr A B bw wa wl wc ka kl kc z) (i := 3) (v := Value.pointer (some ⟨u.heap.size, 2, none⟩)) rfl (by kernel_rfl) (by kernel_rfl) (by kernel_rfl) (fun _ _ _ h => by first | exact h | exact h.elim | cases h.1) (by decide) (fun _ h => h.elim) (fun _ h => h) (Sx.behind (by kernel_rfl) hs0.out) (Or.inl ⟨by rfl, fun z hz => by obtain ⟨e0, e1, e2, e3, e4, e5, e6⟩ := hz; go_simp⟩) ?_
  try go_simp
  refine wpAnyX_both (T := fun z => S7 u.heap.size op vr A B bw wa wl wc ka kl kc z) (i := 4) (v := Value.int .i64 A) rfl (by kernel_rfl) (by kernel_rfl) (by kernel_rfl) (fun _ _ _ h => by first | exact h | exact h.elim | cases h.1) (by decide) (fun _ h => h.elim) (fun _ h => h) (Sx.behind (by kernel_rfl) hs0.out) (Or.inl ⟨by rfl, fun z hz => by obtain ⟨e0, e1, e2, e3, e4, e5, e6⟩ := hz; go_simp⟩) ?_
  try go_simp
  refine wpAnyX_both (T := fun z => S7 u.heap.size op vr A B bw wa wl wc ka kl kc z) (i := 5) (v := Value.pointer (some ⟨u.heap.size, 3, none⟩)) rfl (by kernel_rfl) (by kernel_rfl) (by kernel_rfl) (fun _ _ _ h => by first | exact h | exact h.elim | cases h.1) (by decide) (fun _ h => h.elim) (fun _ h => h) (Sx.behind (by kernel_rfl) hs0.out) (Or.inl ⟨by rfl, fun z hz => by obtain ⟨e0, e1, e2, e3, e4, e5, e6⟩ := hz; go_simp⟩) ?_
  try go_simp
  refine wpAnyX_both (T := fun z => S7 u.heap.size op vr A B bw wa wl wc ka kl kc z) (i := 6) (v := Value.int .i64 B) rfl (by kernel_rfl) (by kernel_rfl) (by kernel_rfl) (fun _ _ _ h => by first | exact h | exact h.elim | cases h.1) (by decide) (fun _ h => h.elim) (fun _ h => h) (Sx.behind (by kernel_rfl) hs0.out) (Or.inl ⟨by rfl, fun z hz => by obtain ⟨e0, e1, e2, e3, e4, e5, e6⟩ := hz; go_simp⟩) ?_
  try go_simp
  refine wpAnyX_ready (rs := [2, 11]) (by kernel_rfl) (by simp) (AllX.cons rfl (fun K hK => ?_) (AllX.cons rfl (fun K hK => ?_) AllX.nil))
  · go_simp
    refine Calls.mono (HKID.out v0 BW0.out) ?_
    rintro e v1 ⟨rfl, hb1⟩
    have XA1 := kide (XA0.out.later hb1)
    have XR1 := kide (XR0.out.later hb1)
    have BW1 := kide (BW0.out.trans (hb1.mono BW0.out.size))
    clear hb1
    have hs1 : Hid ((fun z => S7 u.heap.size op vr A B bw wa wl wc ka kl kc z) v1) := ⟨XA1.out.cell 0, XA1.out.cell 1, XA1.out.cell 2, XA1.out.cell 3, XA1.out.cell 4, XA1.out.cell 5, XA1.out.cell 6⟩
    refine hK _ _ (Sx.behind (by kernel_rfl) hs1.out) ?_
    clear hK K
    try go_simp
    refine wpAnyX_ready (rs := [7, 11]) (by kernel_rfl) (by simp) (AllX.cons rfl (fun K hK => ?_) (AllX.cons rfl (fun K hK => ?_) AllX.nil))
    · go_simp
      refine Calls.mono (HOP.out v1 BW1.out) ?_
      rintro e v2 ⟨a5, c5, rfl, hf2, hb2⟩
      have XA2 := kide (XA1.out.later hb2)
      have XR2 := kide (XR1.out.later hb2)
      have BW2 := kide (BW1.out.trans (hb2.mono BW1.out.size))
      have NW2 := kide ((Fresh.nwE hf2).mono (lo' := u.heap.size) BW1.out.size)
      clear hb2 hf2
      have hs2 : Hid ((fun z => S7 u.heap.size op vr A B bw wa wl wc ka kl kc z) v2) := ⟨XA2.out.cell 0, XA2.out.cell 1, XA2.out.cell 2, XA2.out.cell 3, XA2.out.cell 4, XA2.out.cell 5, XA2.out.cell 6⟩
      refine hK _ _ (Sx.behind (by kernel_rfl) hs2.out) ?_
      clear hK K
      try go_simp
      refine wpAnyX_both (T := fun z => S7 u.heap.size op vr A B bw wa wl wc ka kl kc z) (i := 8) (v := Value.tuple #[Value.agg #[Value.int .i64 R.1, Value.slice a5 R.2.1.length c5], Value.bool R.2.2]) rfl (by kernel_rfl) (by kernel_rfl) (by kernel_rfl) (fun _ _ _ h => by first | exact h | exact h.elim | cases h.1) (by decide) (fun _ h => h.elim) (fun _ h => h) (Sx.behind (by kernel_rfl) hs2.out) (Or.inl ⟨by rfl, fun z hz => by obtain ⟨e0, e1, e2, e3, e4, e5, e6⟩ := hz; go_simp⟩) ?_
      try go_simp
      refine wpAnyX_both (T := fun z => S7 u.heap.size op vr A B bw wa wl wc ka kl kc z) (i := 9) (v := Value.agg #[Value.int .i64 R.1, Value.slice a5 R.2.1.length c5]) rfl (by kernel_rfl) (by kernel_rfl) (by kernel_rfl) (fun _ _ _ h => by first | exact h | exact h.elim | cases h.1) (by decide) (fun _ h => h.elim) (fun _ h => h) (Sx.behind (by kernel_rfl) hs2.out) (Or.inl ⟨by rfl, fun z hz => by obtain ⟨e0, e1, e2, e3, e4, e5, e6⟩ := hz; go_simp⟩) ?_
      try go_simp
      refine wpAnyX_both (T := fun z => S7 u.heap.size op vr A B bw wa wl wc ka kl kc z) (i := 10) (v := Value.bool R.2.2) rfl (by kernel_rfl) (by kernel_rfl) (by kernel_rfl) (fun _ _ _ h => by first | exact h | exact h.elim | cases h.1) (by decide) (fun _ h => h.elim) (fun _ h => h) (Sx.behind (by kernel_rfl) hs2.out) (Or.inl ⟨by rfl, fun z hz => by obtain ⟨e0, e1, e2, e3, e4, e5, e6⟩ := hz; go_simp⟩) ?_
      try go_simp
      refine wpAnyX_ready (rs := [11]) (by kernel_rfl) (by simp) (AllX.cons rfl (fun K hK => ?_) AllX.nil)
      go_simp
      have hbx : Below v2.heap.size v2 (v2.alloc (Obj.cells #[Value.int .i64 0, Value.slice none 0 0] 61)) := (Below.refl _ _).alloc (Nat.le_refl _) _
      have XA3 := kide (XA2.out.later hbx)
      have XR3 := kide (XR2.out.later hbx)
      have BW3 := kide (BW2.out.trans (hbx.mono BW2.out.size))
      have NW3 := kide (NW2.out.later hbx)
      have XN3 := kide (Bz.new v2 #[Value.int .i64 0, Value.slice none 0 0] 61)
      have hNbN : Hid (u.heap.size + 2 ≤ v2.heap.size) := by have := XR2.out.lt; show _ ≤ _; omega
      obtain ⟨bN, hbbN⟩ : ∃ x, v2.heap.size = x := ⟨_, rfl⟩
      rw [hbbN] at XN3 hNbN ⊢
      clear hbbN hbx
      generalize v2.alloc (Obj.cells #[Value.int .i64 0, Value.slice none 0 0] 61) = v3 at *
      have hs3 : Hid ((fun z => S7 u.heap.size op vr A B bw wa wl wc ka kl kc z) v3) := ⟨XA3.out.cell 0, XA3.out.cell 1, XA3.out.cell 2, XA3.out.cell 3, XA3.out.cell 4, XA3.out.cell 5, XA3.out.cell 6⟩
      refine hK _ _ (Sx.behind (by kernel_rfl) hs3.out) ?_
      clear hK K
      try go_simp
      refine wpAnyX_ready (rs := [12]) (by kernel_rfl) (by simp) (AllX.cons rfl (fun K hK => ?_) AllX.nil)
      have e8 := XN3.out.cell 0
      have e9 := XN3.out.cell 1
      have f8 := XN3.out.froz 0
      have f9 := XN3.out.froz 1
      simp at e8 e9
      go_simp
      have XN4 : Hid (Bz ((v3.setCell ⟨bN, 0, none⟩ (Value.int .i64 R.1)).setCell ⟨bN, 1, none⟩ (Value.slice a5 R.2.1.length c5)) bN #[Value.int .i64 R.1, Value.slice a5 R.2.1.length c5] 61) := (XN3.out.set 0 _).set 1 _
      have XA4 : Hid (Bz ((v3.setCell ⟨bN, 0, none⟩ (Value.int .i64 R.1)).setCell ⟨bN, 1, none⟩ (Value.slice a5 R.2.1.length c5)) (u.heap.size) #[Value.int .i64 op, Value.int .i64 vr, Value.int .i64 A, Value.int .i64 B, Value.int .i64 bw, Value.slice wa wl wc, Value.slice ka kl kc] 63) := (XA3.out.other (by have := hNbN.out; omega) 0 _).other (by have := hNbN.out; omega) 1 _
      have XR4 : Hid (Bz ((v3.setCell ⟨bN, 0, none⟩ (Value.int .i64 R.1)).setCell ⟨bN, 1, none⟩ (Value.slice a5 R.2.1.length c5)) (u.heap.size + 1) #[Value.int .i64 0, Value.slice none 0 0] 61) := (XR3.out.other (by have := hNbN.out; omega) 0 _).other (by have := hNbN.out; omega) 1 _
      have BW4 : Hid (Below u.heap.size u ((v3.setCell ⟨bN, 0, none⟩ (Value.int .i64 R.1)).setCell ⟨bN, 1, none⟩ (Value.slice a5 R.2.1.length c5))) := (BW3.out.setCell (show u.heap.size ≤ bN by have := hNbN.out; omega) _).setCell (show u.heap.size ≤ bN by have := hNbN.out; omega) _
      have NW4 : Hid (Nw ((v3.setCell ⟨bN, 0, none⟩ (Value.int .i64 R.1)).setCell ⟨bN, 1, none⟩ (Value.slice a5 R.2.1.length c5)) u.heap.size a5 R.2.1) := ((NW3.out.set XN3.out (by decide) 0 _).set (XN3.out.set 0 _) (by decide) 1 _)
      generalize (v3.setCell ⟨bN, 0, none⟩ (Value.int .i64 R.1)).setCell ⟨bN, 1, none⟩ (Value.slice a5 R.2.1.length c5) = v4 at *
      clear e8 e9 f8 f9
      have hs4 : Hid ((fun z => S7 u.heap.size op vr A B bw wa wl wc ka kl kc z) v4) := ⟨XA4.out.cell 0, XA4.out.cell 1, XA4.out.cell 2, XA4.out.cell 3, XA4.out.cell 4, XA4.out.cell 5, XA4.out.cell 6⟩
      refine hK _ _ (Sx.behind (by kernel_rfl) hs4.out) ?_
      clear hK K
      try go_simp
      refine wpAnyX_both (T := fun z => S7 u.heap.size op vr A B bw wa wl wc ka kl kc z) (i := 13) (v := Value.bool R.2.2) rfl (by kernel_rfl) (by kernel_rfl) (by kernel_rfl) (fun _ _ _ h => by first | exact h | exact h.elim | cases h.1) (by decide) (fun _ h => h.elim) (fun _ h => h) (Sx.behind (by kernel_rfl) hs4.out) (Or.inl ⟨by rfl, fun z hz => by obtain ⟨e0, e1, e2, e3, e4, e5, e6⟩ := hz; go_simp⟩) ?_
      try go_simp
      refine wpAnyX_done (by kernel_rfl) ?_ _
      have q0 := XN4.out.cell 0
      have q1 := XN4.out.cell 1
      have r0 := XR4.out.cell 0
      have r1 := XR4.out.cell 1
      have f0 := XR4.out.froz 0
      have f1 := XR4.out.froz 1
      simp at q0 q1 r0 r1
      go_wp2_with fail
      obtain ⟨y0, y1⟩ := ((Bz.blk XR4.out).put0' (.int .i64 R.1)).put1' (.slice a5 R.2.1.length c5) |>.cells
      exact bodyPost_ret (v := Value.agg #[Value.int .i64 R.1, Value.slice a5 R.2.1.length c5]) (by simp [results, Tryz.results132, go_sem, y0, y1]) rfl (RetV.box (Bz.blk XR4.out) NW4.out (Nat.le_refl _) (Nat.le_succ _) BW4.out)
    · go_simp
      have hbx : Below v1.heap.size v1 (v1.alloc (Obj.cells #[Value.int .i64 0, Value.slice none 0 0] 61)) := (Below.refl _ _).alloc (Nat.le_refl _) _
      have XA2 := kide (XA1.out.later hbx)
      have XR2 := kide (XR1.out.later hbx)
      have BW2 := kide (BW1.out.trans (hbx.mono BW1.out.size))
      have XN2 := kide (Bz.new v1 #[Value.int .i64 0, Value.slice none 0 0] 61)
      have hNbN : Hid (u.heap.size + 2 ≤ v1.heap.size) := by have := XR1.out.lt; show _ ≤ _; omega
      obtain ⟨bN, hbbN⟩ : ∃ x, v1.heap.size = x := ⟨_, rfl⟩
      rw [hbbN] at XN2 hNbN ⊢
      clear hbbN hbx
      generalize v1.alloc (Obj.cells #[Value.int .i64 0, Value.slice none 0 0] 61) = v2 at *
      have hs2 : Hid ((fun z => S7 u.heap.size op vr A B bw wa wl wc ka kl kc z) v2) := ⟨XA2.out.cell 0, XA2.out.cell 1, XA2.out.cell 2, XA2.out.cell 3, XA2.out.cell 4, XA2.out.cell 5, XA2.out.cell 6⟩
      refine hK _ _ (Sx.behind (by kernel_rfl) hs2.out) ?_
      clear hK K
      try go_simp
      refine wpAnyX_ready (rs := [7]) (by kernel_rfl) (by simp) (AllX.cons rfl (fun K hK => ?_) AllX.nil)
      go_simp
      refine Calls.mono (HOP.out v2 BW2.out) ?_
      rintro e v3 ⟨a5, c5, rfl, hf3, hb3⟩
      have XA3 := kide (XA2.out.later hb3)
      have XR3 := kide (XR2.out.later hb3)
      have XN3 := kide (XN2.out.later hb3)
      have BW3 := kide (BW2.out.trans (hb3.mono BW2.out.size))
      have NW3 := kide ((Fresh.nwE hf3).mono (lo' := u.heap.size) BW2.out.size)
      clear hb3 hf3
      have hs3 : Hid ((fun z => S7 u.heap.size op vr A B bw wa wl wc ka kl kc z) v3) := ⟨XA3.out.cell 0, XA3.out.cell 1, XA3.out.cell 2, XA3.out.cell 3, XA3.out.cell 4, XA3.out.cell 5, XA3.out.cell 6⟩
      refine hK _ _ (Sx.behind (by kernel_rfl) hs3.out) ?_
      clear hK K
      try go_simp
      refine wpAnyX_both (T := fun z => S7 u.heap.size op vr A B bw wa wl wc ka kl kc z) (i := 8) (v := Value.tuple #[Value.agg #[Value.int .i64 R.1, Value.slice a5 R.2.1.length c5], Value.bool R.2.2]) rfl (by kernel_rfl) (by kernel_rfl) (by kernel_rfl) (fun _ _ _ h => by first | exact h | exact h.elim | cases h.1) (by decide) (fun _ h => h.elim) (fun _ h => h) (Sx.behind (by kernel_rfl) hs3.out) (Or.inl ⟨by rfl, fun z hz => by obtain ⟨e0, e1, e2, e3, e4, e5, e6⟩ := hz; go_simp⟩) ?_
      try go_simp
      refine wpAnyX_both (T := fun z => S7 u.heap.size op vr A B bw wa wl wc ka kl kc z) (i := 9) (v := Value.agg #[Value.int .i64 R.1, Value.slice a5 R.2.1.length c5]) rfl (by kernel_rfl) (by kernel_rfl) (by kernel_rfl) (fun _ _ _ h => by first | exact h | exact h.elim | cases h.1) (by decide) (fun _ h => h.elim) (fun _ h => h) (Sx.behind (by kernel_rfl) hs3.out) (Or.inl ⟨by rfl, fun z hz => by obtain ⟨e0, e1, e2, e3, e4, e5, e6⟩ := hz; go_simp⟩) ?_
      try go_simp
      refine wpAnyX_both (T := fun z => S7 u.heap.size op vr A B bw wa wl wc ka kl kc z) (i := 10) (v := Value.bool R.2.2) rfl (by kernel_rfl) (by kernel_rfl) (by kernel_rfl) (fun _ _ _ h => by first | exact h | exact h.elim | cases h.1) (by decide) (fun _ h => h.elim) (fun _ h => h) (Sx.behind (by kernel_rfl) hs3.out) (Or.inl ⟨by rfl, fun z hz => by obtain ⟨e0, e1, e2, e3, e4, e5, e6⟩ := hz; go_simp⟩) ?_
      try go_simp
      refine wpAnyX_ready (rs := [12]) (by kernel_rfl) (by simp) (AllX.cons rfl (fun K hK => ?_) AllX.nil)
      have e8 := XN3.out.cell 0
      have e9 := XN3.out.cell 1
      have f8 := XN3.out.froz 0
      have f9 := XN3.out.froz 1
      simp at e8 e9
      go_simp
      have XN4 : Hid (Bz ((v3.setCell ⟨bN, 0, none⟩ (Value.int .i64 R.1)).setCell ⟨bN, 1, none⟩ (Value.slice a5 R.2.1.length c5)) bN #[Value.int .i64 R.1, Value.slice a5 R.2.1.length c5] 61) := (XN3.out.set 0 _).set 1 _
      have XA4 : Hid (Bz ((v3.setCell ⟨bN, 0, none⟩ (Value.int .i64 R.1)).setCell ⟨bN, 1, none⟩ (Value.slice a5 R.2.1.length c5)) (u.heap.size) #[Value.int .i64 op, Value.int .i64 vr, Value.int .i64 A, Value.int .i64 B, Value.int .i64 bw, Value.slice wa wl wc, Value.slice ka kl kc] 63) := (XA3.out.other (by have := hNbN.out; omega) 0 _).other (by have := hNbN.out; omega) 1 _
      have XR4 : Hid (Bz ((v3.setCell ⟨bN, 0, none⟩ (Value.int .i64 R.1)).setCell ⟨bN, 1, none⟩ (Value.slice a5 R.2.1.length c5)) (u.heap.size + 1) #[Value.int .i64 0, Value.slice none 0 0] 61) := (XR3.out.other (by have := hNbN.out; omega) 0 _).other (by have := hNbN.out; omega) 1 _
      have BW4 : Hid (Below u.heap.size u ((v3.setCell ⟨bN, 0, none⟩ (Value.int .i64 R.1)).setCell ⟨bN, 1, none⟩ (Value.slice a5 R.2.1.length c5))) := (BW3.out.setCell (show u.heap.size ≤ bN by have := hNbN.out; omega) _).setCell (show u.heap.size ≤ bN by have := hNbN.out; omega) _
      have NW4 : Hid (Nw ((v3.setCell ⟨bN, 0, none⟩ (Value.int .i64 R.1)).setCell ⟨bN, 1, none⟩ (Value.slice a5 R.2.1.length c5)) u.heap.size a5 R.2.1) := ((NW3.out.set XN3.out (by decide) 0 _).set (XN3.out.set 0 _) (by decide) 1 _)
      generalize (v3.setCell ⟨bN, 0, none⟩ (Value.int .i64 R.1)).setCell ⟨bN, 1, none⟩ (Value.slice a5 R.2.1.length c5) = v4 at *
      clear e8 e9 f8 f9
      have hs4 : Hid ((fun z => S7 u.heap.size op vr A B bw wa wl wc ka kl kc z) v4) := ⟨XA4.out.cell 0, XA4.out.cell 1, XA4.out.cell 2, XA4.out.cell 3, XA4.out.cell 4, XA4.out.cell 5, XA4.out.cell 6⟩
      refine hK _ _ (Sx.behind (by kernel_rfl) hs4.out) ?_
      clear hK K
      try go_simp
      refine wpAnyX_both (T := fun z => S7 u.heap.size op vr A B bw wa wl wc ka kl kc z) (i := 13) (v := Value.bool R.2.2) rfl (by kernel_rfl) (by kernel_rfl) (by kernel_rfl) (fun _ _ _ h => by first | exact h | exact h.elim | cases h.1) (by decide) (fun _ h => h.elim) (fun _ h => h) (Sx.behind (by kernel_rfl) hs4.out) (Or.inl ⟨by rfl, fun z hz => by obtain ⟨e0, e1, e2, e3, e4, e5, e6⟩ := hz; go_simp⟩) ?_
      try go_simp
      refine wpAnyX_done (by kernel_rfl) ?_ _
      have q0 := XN4.out.cell 0
      have q1 := XN4.out.cell 1
      have r0 := XR4.out.cell 0
      have r1 := XR4.out.cell 1
      have f0 := XR4.out.froz 0
      have f1 := XR4.out.froz 1
      simp at q0 q1 r0 r1
      go_wp2_with fail
      obtain ⟨y0, y1⟩ := ((Bz.blk XR4.out).put0' (.int .i64 R.1)).put1' (.slice a5 R.2.1.length c5) |>.cells
      exact bodyPost_ret (v := Value.agg #[Value.int .i64 R.1, Value.slice a5 R.2.1.length c5]) (by simp [results, Tryz.results132, go_sem, y0, y1]) rfl (RetV.box (Bz.blk XR4.out) NW4.out (Nat.le_refl _) (Nat.le_succ _) BW4.out)
  · go_simp
    have hbx : Below v0.heap.size v0 (v0.alloc (Obj.cells #[Value.int .i64 0, Value.slice none 0 0] 61)) := (Below.refl _ _).alloc (Nat.le_refl _) _
    have XA1 := kide (XA0.out.later hbx)
    have XR1 := kide (XR0.out.later hbx)
    have BW1 := kide (BW0.out.trans (hbx.mono BW0.out.size))
    have XN1 := kide (Bz.new v0 #[Value.int .i64 0, Value.slice none 0 0] 61)
    have hNbN : Hid (u.heap.size + 2 ≤ v0.heap.size) := by have := XR0.out.lt; show _ ≤ _; omega
    obtain ⟨bN, hbbN⟩ : ∃ x, v0.heap.size = x := ⟨_, rfl⟩
    rw [hbbN] at XN1 hNbN ⊢
    clear hbbN hbx
    generalize v0.alloc (Obj.cells #[Value.int .i64 0, Value.slice none 0 0] 61) = v1 at *
    have hs1 : Hid ((fun z => S7 u.heap.size op vr A B bw wa wl wc ka kl kc z) v1) := ⟨XA1.out.cell 0, XA1.out.cell 1, XA1.out.cell 2, XA1.out.cell 3, XA1.out.cell 4, XA1.out.cell 5, XA1.out.cell 6⟩
    refine hK _ _ (Sx.behind (by kernel_rfl) hs1.out) ?_
    clear hK K
    try go_simp
    refine wpAnyX_ready (rs := [2]) (by kernel_rfl) (by simp) (AllX.cons rfl (fun K hK => ?_) AllX.nil)
    go_simp
    refine Calls.mono (HKID.out v1 BW1.out) ?_
    rintro e v2 ⟨rfl, hb2⟩
    have XA2 := kide (XA1.out.later hb2)
    have XR2 := kide (XR1.out.later hb2)
    have XN2 := kide (XN1.out.later hb2)
    have BW2 := kide (BW1.out.trans (hb2.mono BW1.out.size))
    clear hb2
    have hs2 : Hid ((fun z => S7 u.heap.size op vr A B bw wa wl wc ka kl kc z) v2) := ⟨XA2.out.cell 0, XA2.out.cell 1, XA2.out.cell 2, XA2.out.cell 3, XA2.out.cell 4, XA2.out.cell 5, XA2.out.cell 6⟩
    refine hK _ _ (Sx.behind (by kernel_rfl) hs2.out) ?_
    clear hK K
    try go_simp
    refine wpAnyX_ready (rs := [7]) (by kernel_rfl) (by simp) (AllX.cons rfl (fun K hK => ?_) AllX.nil)
    go_simp
    refine Calls.mono (HOP.out v2 BW2.out) ?_
    rintro e v3 ⟨a5, c5, rfl, hf3, hb3⟩
    have XA3 := kide (XA2.out.later hb3)
    have XR3 := kide (XR2.out.later hb3)
    have XN3 := kide (XN2.out.later hb3)
    have BW3 := kide (BW2.out.trans (hb3.mono BW2.out.size))
    have NW3 := kide ((Fresh.nwE hf3).mono (lo' := u.heap.size) BW2.out.size)
    clear hb3 hf3
    have hs3 : Hid ((fun z => S7 u.heap.size op vr A B bw wa wl wc ka kl kc z) v3) := ⟨XA3.out.cell 0, XA3.out.cell 1, XA3.out.cell 2, XA3.out.cell 3, XA3.out.cell 4, XA3.out.cell 5, XA3.out.cell 6⟩
    refine hK _ _ (Sx.behind (by kernel_rfl) hs3.out) ?_
    clear hK K
    try go_simp
    refine wpAnyX_both (T := fun z => S7 u.heap.size op vr A B bw wa wl wc ka kl kc z) (i := 8) (v := Value.tuple #[Value.agg #[Value.int .i64 R.1, Value.slice a5 R.2.1.length c5], Value.bool R.2.2]) rfl (by kernel_rfl) (by kernel_rfl) (by kernel_rfl) (fun _ _ _ h => by first | exact h | exact h.elim | cases h.1) (by decide) (fun _ h => h.elim) (fun _ h => h) (Sx.behind (by kernel_rfl) hs3.out) (Or.inl ⟨by rfl, fun z hz => by obtain ⟨e0, e1, e2, e3, e4, e5, e6⟩ := hz; go_simp⟩) ?_
    try go_simp
    refine wpAnyX_both (T := fun z => S7 u.heap.size op vr A B bw wa wl wc ka kl kc z) (i := 9) (v := Value.agg #[Value.int .i64 R.1, Value.slice a5 R.2.1.length c5]) rfl (by kernel_rfl) (by kernel_rfl) (by kernel_rfl) (fun _ _ _ h => by first | exact h | exact h.elim | cases h.1) (by decide) (fun _ h => h.elim) (fun _ h => h) (Sx.behind (by kernel_rfl) hs3.out) (Or.inl ⟨by rfl, fun z hz => by obtain ⟨e0, e1, e2, e3, e4, e5, e6⟩ := hz; go_simp⟩) ?_
    try go_simp
    refine wpAnyX_both (T := fun z => S7 u.heap.size op vr A B bw wa wl wc ka kl kc z) (i := 10) (v := Value.bool R.2.2) rfl (by kernel_rfl) (by kernel_rfl) (by kernel_rfl) (fun _ _ _ h => by first | exact h | exact h.elim | cases h.1) (by decide) (fun _ h => h.elim) (fun _ h => h) (Sx.behind (by kernel_rfl) hs3.out) (Or.inl ⟨by rfl, fun z hz => by obtain ⟨e0, e1, e2, e3, e4, e5, e6⟩ := hz; go_simp⟩) ?_
    try go_simp
    refine wpAnyX_ready (rs := [12]) (by kernel_rfl) (by simp) (AllX.cons rfl (fun K hK => ?_) AllX.nil)
    have e8 := XN3.out.cell 0
    have e9 := XN3.out.cell 1
    have f8 := XN3.out.froz 0
    have f9 := XN3.out.froz 1
    simp at e8 e9
    go_simp
    have XN4 : Hid (Bz ((v3.setCell ⟨bN, 0, none⟩ (Value.int .i64 R.1)).setCell ⟨bN, 1, none⟩ (Value.slice a5 R.2.1.length c5)) bN #[Value.int .i64 R.1, Value.slice a5 R.2.1.length c5] 61) := (XN3.out.set 0 _).set 1 _
    have XA4 : Hid (Bz ((v3.setCell ⟨bN, 0, none⟩ (Value.int .i64 R.1)).setCell ⟨bN, 1, none⟩ (Value.slice a5 R.2.1.length c5)) (u.heap.size) #[Value.int .i64 op, Value.int .i64 vr, Value.int .i64 A, Value.int .i64 B, Value.int .i64 bw, Value.slice wa wl wc, Value.slice ka kl kc] 63) := (XA3.out.other (by have := hNbN.out; omega) 0 _).other (by have := hNbN.out; omega) 1 _
    have XR4 : Hid (Bz ((v3.setCell ⟨bN, 0, none⟩ (Value.int .i64 R.1)).setCell ⟨bN, 1, none⟩ (Value.slice a5 R.2.1.length c5)) (u.heap.size + 1) #[Value.int .i64 0, Value.slice none 0 0] 61) := (XR3.out.other (by have := hNbN.out; omega) 0 _).other (by have := hNbN.out; omega) 1 _
    have BW4 : Hid (Below u.heap.size u ((v3.setCell ⟨bN, 0, none⟩ (Value.int .i64 R.1)).setCell ⟨bN, 1, none⟩ (Value.slice a5 R.2.1.length c5))) := (BW3.out.setCell (show u.heap.size ≤ bN by have := hNbN.out; omega) _).setCell (show u.heap.size ≤ bN by have := hNbN.out; omega) _
    have NW4 : Hid (Nw ((v3.setCell ⟨bN, 0, none⟩ (Value.int .i64 R.1)).setCell ⟨bN, 1, none⟩ (Value.slice a5 R.2.1.length c5)) u.heap.size a5 R.2.1) := ((NW3.out.set XN3.out (by decide) 0 _).set (XN3.out.set 0 _) (by decide) 1 _)
    generalize (v3.setCell ⟨bN, 0, none⟩ (Value.int .i64 R.1)).setCell ⟨bN, 1, none⟩ (Value.slice a5 R.2.1.length c5) = v4 at *
    clear e8 e9 f8 f9
    have hs4 : Hid ((fun z => S7 u.heap.size op vr A B bw wa wl wc ka kl kc z) v4) := ⟨XA4.out.cell 0, XA4.out.cell 1, XA4.out.cell 2, XA4.out.cell 3, XA4.out.cell 4, XA4.out.cell 5, XA4.out.cell 6⟩
    refine hK _ _ (Sx.behind (by kernel_rfl) hs4.out) ?_
    clear hK K
    try go_simp
    refine wpAnyX_both (T := fun z => S7 u.heap.size op vr A B bw wa wl wc ka kl kc z) (i := 13) (v := Value.bool R.2.2) rfl (by kernel_rfl) (by kernel_rfl) (by kernel_rfl) (fun _ _ _ h => by first | exact h | exact h.elim | cases h.1) (by decide) (fun _ h => h.elim) (fun _ h => h) (Sx.behind (by kernel_rfl) hs4.out) (Or.inl ⟨by rfl, fun z hz => by obtain ⟨e0, e1, e2, e3, e4, e5, e6⟩ := hz; go_simp⟩) ?_
    try go_simp
    refine wpAnyX_done (by kernel_rfl) ?_ _
    have q0 := XN4.out.cell 0
    have q1 := XN4.out.cell 1
    have r0 := XR4.out.cell 0
    have r1 := XR4.out.cell 1
    have f0 := XR4.out.froz 0
    have f1 := XR4.out.froz 1
    simp at q0 q1 r0 r1
    go_wp2_with fail
    obtain ⟨y0, y1⟩ := ((Bz.blk XR4.out).put0' (.int .i64 R.1)).put1' (.slice a5 R.2.1.length c5) |>.cells
    exact bodyPost_ret (v := Value.agg #[Value.int .i64 R.1, Value.slice a5 R.2.1.length c5]) (by simp [results, Tryz.results132, go_sem, y0, y1]) rfl (RetV.box (Bz.blk XR4.out) NW4.out (Nat.le_refl _) (Nat.le_succ _) BW4.out)

set_option maxHeartbeats 4000000 in
set_option maxRecDepth 100000 in
theorem evZero_any (eb : Nat) (vs l : List Bw) (n : Tc) (wa ka : Option Addr) (wc kc : Nat) (u : World) (hE : Evl u eb vs l) (hk : RdI u ka n.ks) (h1 : n.ks.length = 1) (j : Nat) (x : Bw) (hj : n.ks.getD 0 0 = (j : Int)) (hx : l[j]? = some x) :
    Calls Tryz.prog 133 #[.pointer (some ⟨eb, 0, none⟩), nodA n wa ka wc kc] u (RetV u (two (wdnR x.wd x.ws n.a false))) := by
  have HKID := kide (fun v (hv : Below u.heap.size u v) => kid_any eb vs l n wa ka wc kc v (hE.later hv) (hk.later hv) h1 j x hj hx)
  have hxr : Rd u x.a x.ws := by
    obtain ⟨aa, ac, -, ha⟩ := hE.ahd
    obtain ⟨-, h | ⟨ab, ao, rfl, hac⟩⟩ := ha
    · rw [h] at hx; simp at hx
    exact (hac j x hx).2.2.1
  have HOP := kide (fun v (hv : Below u.heap.size u v) => implWid_any x.wd x.a x.c x.ws n.a false v (hxr.later hv))
  generalize hR : wdnR x.wd x.ws n.a false = R at *
  clear hR hE hk hj hx hxr h1
  obtain ⟨op, vr, A, B, bw, ws, ks⟩ := n
  obtain ⟨wd, xa, xc, xs⟩ := x
  simp only [nodA, RetB] at *
  generalize ws.length = wl at *
  generalize ks.length = kl at *
  generalize xs.length = xl at *
  have XA : Hid (Bz ((u.alloc (Obj.cells #[Value.int .i64 op, Value.int .i64 vr, Value.int .i64 A, Value.int .i64 B, Value.int .i64 bw, Value.slice wa wl wc, Value.slice ka kl kc] 63)).alloc (Obj.cells #[Value.int .i64 0, Value.slice none 0 0] 61)) u.heap.size #[Value.int .i64 op, Value.int .i64 vr, Value.int .i64 A, Value.int .i64 B, Value.int .i64 bw, Value.slice wa wl wc, Value.slice ka kl kc] 63) := (Bz.new u #[Value.int .i64 op, Value.int .i64 vr, Value.int .i64 A, Value.int .i64 B, Value.int .i64 bw, Value.slice wa wl wc, Value.slice ka kl kc] 63).later ((Below.refl _ _).alloc (Nat.le_refl _) _)
  have XR : Hid (Bz ((u.alloc (Obj.cells #[Value.int .i64 op, Value.int .i64 vr, Value.int .i64 A, Value.int .i64 B, Value.int .i64 bw, Value.slice wa wl wc, Value.slice ka kl kc] 63)).alloc (Obj.cells #[Value.int .i64 0, Value.slice none 0 0] 61)) (u.heap.size + 1) #[Value.int .i64 0, Value.slice none 0 0] 61) := by
    have := Bz.new (u.alloc (Obj.cells #[Value.int .i64 op, Value.int .i64 vr, Value.int .i64 A, Value.int .i64 B, Value.int .i64 bw, Value.slice wa wl wc, Value.slice ka kl kc] 63)) #[Value.int .i64 0, Value.slice none 0 0] 61
    rw [World.size_alloc] at this
    exact this
  have BW : Hid (Below u.heap.size u ((u.alloc (Obj.cells #[Value.int .i64 op, Value.int .i64 vr, Value.int .i64 A, Value.int .i64 B, Value.int .i64 bw, Value.slice wa wl wc, Value.slice ka kl kc] 63)).alloc (Obj.cells #[Value.int .i64 0, Value.slice none 0 0] 61))) := Ba (Ba (Below.refl _ _) _) _
  go_enter Tryz.func133, Tryz.ntmps133
  go_wp2_with fail
  generalize ((u.alloc (Obj.cells #[Value.int .i64 op, Value.int .i64 vr, Value.int .i64 A, Value.int .i64 B, Value.int .i64 bw, Value.slice wa wl wc, Value.slice ka kl kc] 63)).alloc (Obj.cells #[Value.int .i64 0, Value.slice none 0 0] 61)) = w1 at *
  refine wp_region_x (SA := fun _ => False) (SB := fun z => S7 u.heap.size op vr A B bw wa wl wc ka kl kc z) (k := 999) (by kernel_rfl) ?_
  have hbd : Below w1.heap.size w1 w1.drew := (Below.refl _ _).drew
  have XA0 := kide (XA.out.later hbd)
  have XR0 := kide (XR.out.later hbd)
  have BW0 := kide (BW.out.drew)
  clear hbd XA XR BW
  generalize w1.drew = v0 at *
  have hs0 : Hid ((fun z => S7 u.heap.size op vr A B bw wa wl wc ka kl kc z) v0) := ⟨XA0.out.cell 0, XA0.out.cell 1, XA0.out.cell 2, XA0.out.cell 3, XA0.out.cell 4, XA0.out.cell 5, XA0.out.cell 6⟩
  try go_simp
  refine wpAnyX_both (T := fun z => S7 u.heap.size op vr A B bw wa wl wc ka kl kc z) (i := 0) (v := Value.pointer (some ⟨eb, 0, none⟩)) rfl (by kernel_rfl) (by kernel_rfl) (by kernel_rfl) (fun _ _ _ h => by first | exact h | exact h.elim | cases h.1) (by decide) (fun _ h => h.elim) (fun _ h => h) (Sx.behind (by kernel_rfl) hs0.out) (Or.inl ⟨by rfl, fun z hz => by obtain ⟨e0, e1, e2, e3, e4, e5, e6⟩ := hz; go_simp⟩) ?_
  try go_simp
  refine wpAnyX_both (T := fun z => S7 u.heap.size op vr A B bw wa wl wc ka kl kc z) (i := 1) (v := Value.agg #[Value.int .i64 op, Value.int .i64 vr, Value.int .i64 A, Value.int .i64 B, Value.int .i64 bw, Value.slice wa wl wc, Value.slice ka kl kc]) rfl (by kernel_rfl) (by kernel_rfl) (by kernel_rfl) (fun _ _ _ h => by first | exact h | exact h.elim | cases h.1) (by decide) (fun _ h => h.elim) (fun _ h => h) (Sx.behind (by kernel_rfl) hs0.out) (Or.inl ⟨by rfl, fun z hz => by obtain ⟨e0, e1, e2, e3, e4, e5, e6⟩ := hz; go_simp⟩) ?_
  try go_simp
  refine wpAnyX_both (T := fun z => S7 u.heap.size op vr A B bw wa wl wc ka kl kc z) (i := 3) (v := Value.pointer (some ⟨u.heap.size, 2, none⟩)) rfl (by kernel_rfl) (by kernel_rfl) (by kernel_rfl) (fun _ _ _ h => by first | exact h | exact h.elim | cases h.1) (by decide) (fun _ h => h.elim) (fun _ h => h) (Sx.behind (by kernel_rfl) hs0.out) (Or.inl ⟨by rfl, fun z hz => by obtain ⟨e0, e1, e2, e3, e4, e5, e6⟩ := hz; go_simp⟩) ?_
  try go_simp
  refine wpAnyX_both (T := fun z => S7 u.heap.size op vr A B bw wa wl wc ka kl kc z) (i := 4) (v := Value.int .i64 A) rfl (by kernel_rfl) (by kernel_rfl) (by kernel_rfl) (fun _ _ _ h => by first | exact h | exact h.elim | cases h.1) (by decide) (fun _ h => h.elim) (fun _ h => h) (Sx.behind (by kernel_rfl) hs0.out) (Or.inl ⟨by rfl, fun z hz => by obtain ⟨e0, e1, e2, e3, e4, e5, e6⟩ := hz; go_simp⟩) ?_
  try go_simp
  refine wpAnyX_ready (rs := [2, 9]) (by kernel_rfl) (by simp) (AllX.cons rfl (fun K hK => ?_) (AllX.cons rfl (fun K hK => ?_) AllX.nil))
  · go_simp
    refine Calls.mono (HKID.out v0 BW0.out) ?_
    rintro e v1 ⟨rfl, hb1⟩
    have XA1 := kide (XA0.out.later hb1)
    have XR1 := kide (XR0.out.later hb1)
    have BW1 := kide (BW0.out.trans (hb1.mono BW0.out.size))
    clear hb1
    have hs1 : Hid ((fun z => S7 u.heap.size op vr A B bw wa wl wc ka kl kc z) v1) := ⟨XA1.out.cell 0, XA1.out.cell 1, XA1.out.cell 2, XA1.out.cell 3, XA1.out.cell 4, XA1.out.cell 5, XA1.out.cell 6⟩
    refine hK _ _ (Sx.behind (by kernel_rfl) hs1.out) ?_
    clear hK K
    try go_simp
    refine wpAnyX_ready (rs := [5, 9]) (by kernel_rfl) (by simp) (AllX.cons rfl (fun K hK => ?_) (AllX.cons rfl (fun K hK => ?_) AllX.nil))
    · go_simp
      refine Calls.mono (HOP.out v1 BW1.out) ?_
      rintro e v2 ⟨a5, c5, rfl, hf2, hb2⟩
      have XA2 := kide (XA1.out.later hb2)
      have XR2 := kide (XR1.out.later hb2)
      have BW2 := kide (BW1.out.trans (hb2.mono BW1.out.size))
      have NW2 := kide ((Fresh.nwE hf2).mono (lo' := u.heap.size) BW1.out.size)
      clear hb2 hf2
      have hs2 : Hid ((fun z => S7 u.heap.size op vr A B bw wa wl wc ka kl kc z) v2) := ⟨XA2.out.cell 0, XA2.out.cell 1, XA2.out.cell 2, XA2.out.cell 3, XA2.out.cell 4, XA2.out.cell 5, XA2.out.cell 6⟩
      refine hK _ _ (Sx.behind (by kernel_rfl) hs2.out) ?_
      clear hK K
      try go_simp
      refine wpAnyX_both (T := fun z => S7 u.heap.size op vr A B bw wa wl wc ka kl kc z) (i := 6) (v := Value.tuple #[Value.agg #[Value.int .i64 R.1, Value.slice a5 R.2.1.length c5], Value.bool R.2.2]) rfl (by kernel_rfl) (by kernel_rfl) (by kernel_rfl) (fun _ _ _ h => by first | exact h | exact h.elim | cases h.1) (by decide) (fun _ h => h.elim) (fun _ h => h) (Sx.behind (by kernel_rfl) hs2.out) (Or.inl ⟨by rfl, fun z hz => by obtain ⟨e0, e1, e2, e3, e4, e5, e6⟩ := hz; go_simp⟩) ?_
      try go_simp
      refine wpAnyX_both (T := fun z => S7 u.heap.size op vr A B bw wa wl wc ka kl kc z) (i := 7) (v := Value.agg #[Value.int .i64 R.1, Value.slice a5 R.2.1.length c5]) rfl (by kernel_rfl) (by kernel_rfl) (by kernel_rfl) (fun _ _ _ h => by first | exact h | exact h.elim | cases h.1) (by decide) (fun _ h => h.elim) (fun _ h => h) (Sx.behind (by kernel_rfl) hs2.out) (Or.inl ⟨by rfl, fun z hz => by obtain ⟨e0, e1, e2, e3, e4, e5, e6⟩ := hz; go_simp⟩) ?_
      try go_simp
      refine wpAnyX_both (T := fun z => S7 u.heap.size op vr A B bw wa wl wc ka kl kc z) (i := 8) (v := Value.bool R.2.2) rfl (by kernel_rfl) (by kernel_rfl) (by kernel_rfl) (fun _ _ _ h => by first | exact h | exact h.elim | cases h.1) (by decide) (fun _ h => h.elim) (fun _ h => h) (Sx.behind (by kernel_rfl) hs2.out) (Or.inl ⟨by rfl, fun z hz => by obtain ⟨e0, e1, e2, e3, e4, e5, e6⟩ := hz; go_simp⟩) ?_
      try go_simp
      refine wpAnyX_ready (rs := [9]) (by kernel_rfl) (by simp) (AllX.cons rfl (fun K hK => ?_) AllX.nil)
      go_simp
      have hbx : Below v2.heap.size v2 (v2.alloc (Obj.cells #[Value.int .i64 0, Value.slice none 0 0] 61)) := (Below.refl _ _).alloc (Nat.le_refl _) _
      have XA3 := kide (XA2.out.later hbx)
      have XR3 := kide (XR2.out.later hbx)
      have BW3 := kide (BW2.out.trans (hbx.mono BW2.out.size))
      have NW3 := kide (NW2.out.later hbx)
      have XN3 := kide (Bz.new v2 #[Value.int .i64 0, Value.slice none 0 0] 61)
      have hNbN : Hid (u.heap.size + 2 ≤ v2.heap.size) := by have := XR2.out.lt; show _ ≤ _; omega
      obtain ⟨bN, hbbN⟩ : ∃ x, v2.heap.size = x := ⟨_, rfl⟩
      rw [hbbN] at XN3 hNbN ⊢
      clear hbbN hbx
      generalize v2.alloc (Obj.cells #[Value.int .i64 0, Value.slice none 0 0] 61) = v3 at *
      have hs3 : Hid ((fun z => S7 u.heap.size op vr A B bw wa wl wc ka kl kc z) v3) := ⟨XA3.out.cell 0, XA3.out.cell 1, XA3.out.cell 2, XA3.out.cell 3, XA3.out.cell 4, XA3.out.cell 5, XA3.out.cell 6⟩
      refine hK _ _ (Sx.behind (by kernel_rfl) hs3.out) ?_
      clear hK K
      try go_simp
      refine wpAnyX_ready (rs := [10]) (by kernel_rfl) (by simp) (AllX.cons rfl (fun K hK => ?_) AllX.nil)
      have e8 := XN3.out.cell 0
      have e9 := XN3.out.cell 1
      have f8 := XN3.out.froz 0
      have f9 := XN3.out.froz 1
      simp at e8 e9
      go_simp
      have XN4 : Hid (Bz ((v3.setCell ⟨bN, 0, none⟩ (Value.int .i64 R.1)).setCell ⟨bN, 1, none⟩ (Value.slice a5 R.2.1.length c5)) bN #[Value.int .i64 R.1, Value.slice a5 R.2.1.length c5] 61) := (XN3.out.set 0 _).set 1 _
      have XA4 : Hid (Bz ((v3.setCell ⟨bN, 0, none⟩ (Value.int .i64 R.1)).setCell ⟨bN, 1, none⟩ (Value.slice a5 R.2.1.length c5)) (u.heap.size) #[Value.int .i64 op, Value.int .i64 vr, Value.int .i64 A, Value.int .i64 B, Value.int .i64 bw, Value.slice wa wl wc, Value.slice ka kl kc] 63) := (XA3.out.other (by have := hNbN.out; omega) 0 _).other (by have := hNbN.out; omega) 1 _
      have XR4 : Hid (Bz ((v3.setCell ⟨bN, 0, none⟩ (Value.int .i64 R.1)).setCell ⟨bN, 1, none⟩ (Value.slice a5 R.2.1.length c5)) (u.heap.size + 1) #[Value.int .i64 0, Value.slice none 0 0] 61) := (XR3.out.other (by have := hNbN.out; omega) 0 _).other (by have := hNbN.out; omega) 1 _
      have BW4 : Hid (Below u.heap.size u ((v3.setCell ⟨bN, 0, none⟩ (Value.int .i64 R.1)).setCell ⟨bN, 1, none⟩ (Value.slice a5 R.2.1.length c5))) := (BW3.out.setCell (show u.heap.size ≤ bN by have := hNbN.out; omega) _).setCell (show u.heap.size ≤ bN by have := hNbN.out; omega) _
      have NW4 : Hid (Nw ((v3.setCell ⟨bN, 0, none⟩ (Value.int .i64 R.1)).setCell ⟨bN, 1, none⟩ (Value.slice a5 R.2.1.length c5)) u.heap.size a5 R.2.1) := ((NW3.out.set XN3.out (by decide) 0 _).set (XN3.out.set 0 _) (by decide) 1 _)
      generalize (v3.setCell ⟨bN, 0, none⟩ (Value.int .i64 R.1)).setCell ⟨bN, 1, none⟩ (Value.slice a5 R.2.1.length c5) = v4 at *
      clear e8 e9 f8 f9
      have hs4 : Hid ((fun z => S7 u.heap.size op vr A B bw wa wl wc ka kl kc z) v4) := ⟨XA4.out.cell 0, XA4.out.cell 1, XA4.out.cell 2, XA4.out.cell 3, XA4.out.cell 4, XA4.out.cell 5, XA4.out.cell 6⟩
      refine hK _ _ (Sx.behind (by kernel_rfl) hs4.out) ?_
      clear hK K
      try go_simp
      refine wpAnyX_both (T := fun z => S7 u.heap.size op vr A B bw wa wl wc ka kl kc z) (i := 11) (v := Value.bool R.2.2) rfl (by kernel_rfl) (by kernel_rfl) (by kernel_rfl) (fun _ _ _ h => by first | exact h | exact h.elim | cases h.1) (by decide) (fun _ h => h.elim) (fun _ h => h) (Sx.behind (by kernel_rfl) hs4.out) (Or.inl ⟨by rfl, fun z hz => by obtain ⟨e0, e1, e2, e3, e4, e5, e6⟩ := hz; go_simp⟩) ?_
      try go_simp
      refine wpAnyX_done (by kernel_rfl) ?_ _
      have q0 := XN4.out.cell 0
      have q1 := XN4.out.cell 1
      have r0 := XR4.out.cell 0
      have r1 := XR4.out.cell 1
      have f0 := XR4.out.froz 0
      have f1 := XR4.out.froz 1
      simp at q0 q1 r0 r1
      go_wp2_with fail
      obtain ⟨y0, y1⟩ := ((Bz.blk XR4.out).put0' (.int .i64 R.1)).put1' (.slice a5 R.2.1.length c5) |>.cells
      exact bodyPost_ret (v := Value.agg #[Value.int .i64 R.1, Value.slice a5 R.2.1.length c5]) (by simp [results, Tryz.results133, go_sem, y0, y1]) rfl (RetV.box (Bz.blk XR4.out) NW4.out (Nat.le_refl _) (Nat.le_succ _) BW4.out)
    · go_simp
      have hbx : Below v1.heap.size v1 (v1.alloc (Obj.cells #[Value.int .i64 0, Value.slice none 0 0] 61)) := (Below.refl _ _).alloc (Nat.le_refl _) _
      have XA2 := kide (XA1.out.later hbx)
      have XR2 := kide (XR1.out.later hbx)
      have BW2 := kide (BW1.out.trans (hbx.mono BW1.out.size))
      have XN2 := kide (Bz.new v1 #[Value.int .i64 0, Value.slice none 0 0] 61)
      have hNbN : Hid (u.heap.size + 2 ≤ v1.heap.size) := by have := XR1.out.lt; show _ ≤ _; omega
      obtain ⟨bN, hbbN⟩ : ∃ x, v1.heap.size = x := ⟨_, rfl⟩
      rw [hbbN] at XN2 hNbN ⊢
      clear hbbN hbx
      generalize v1.alloc (Obj.cells #[Value.int .i64 0, Value.slice none 0 0] 61) = v2 at *
      have hs2 : Hid ((fun z => S7 u.heap.size op vr A B bw wa wl wc ka kl kc z) v2) := ⟨XA2.out.cell 0, XA2.out.cell 1, XA2.out.cell 2, XA2.out.cell 3, XA2.out.cell 4, XA2.out.cell 5, XA2.out.cell 6⟩
      refine hK _ _ (Sx.behind (by kernel_rfl) hs2.out) ?_
      clear hK K
      try go_simp
      refine wpAnyX_ready (rs := [5]) (by kernel_rfl) (by simp) (AllX.cons rfl (fun K hK => ?_) AllX.nil)
      go_simp
      refine Calls.mono (HOP.out v2 BW2.out) ?_
      rintro e v3 ⟨a5, c5, rfl, hf3, hb3⟩
      have XA3 := kide (XA2.out.later hb3)
      have XR3 := kide (XR2.out.later hb3)
      have XN3 := kide (XN2.out.later hb3)
      have BW3 := kide (BW2.out.trans (hb3.mono BW2.out.size))
      have NW3 := kide ((Fresh.nwE hf3).mono (lo' := u.heap.size) BW2.out.size)
      clear hb3 hf3
      have hs3 : Hid ((fun z => S7 u.heap.size op vr A B bw wa wl wc ka kl kc z) v3) := ⟨XA3.out.cell 0, XA3.out.cell 1, XA3.out.cell 2, XA3.out.cell 3, XA3.out.cell 4, XA3.out.cell 5, XA3.out.cell 6⟩
      refine hK _ _ (Sx.behind (by kernel_rfl) hs3.out) ?_
      clear hK K
      try go_simp
      refine wpAnyX_both (T := fun z => S7 u.heap.size op vr A B bw wa wl wc ka kl kc z) (i := 6) (v := Value.tuple #[Value.agg #[Value.int .i64 R.1, Value.slice a5 R.2.1.length c5], Value.bool R.2.2]) rfl (by kernel_rfl) (by kernel_rfl) (by kernel_rfl) (fun _ _ _ h => by first | exact h | exact h.elim | cases h.1) (by decide) (fun _ h => h.elim) (fun _ h => h) (Sx.behind (by kernel_rfl) hs3.out) (Or.inl ⟨by rfl, fun z hz => by obtain ⟨e0, e1, e2, e3, e4, e5, e6⟩ := hz; go_simp⟩) ?_
      try go_simp
      refine wpAnyX_both (T := fun z => S7 u.heap.size op vr A B bw wa wl wc ka kl kc z) (i := 7) (v := Value.agg #[Value.int .i64 R.1, Value.slice a5 R.2.1.length c5]) rfl (by kernel_rfl) (by kernel_rfl) (by kernel_rfl) (fun _ _ _ h => by first | exact h | exact h.elim | cases h.1) (by decide) (fun _ h => h.elim) (fun _ h => h) (Sx.behind (by kernel_rfl) hs3.out) (Or.inl ⟨by rfl, fun z hz => by obtain ⟨e0, e1, e2, e3, e4, e5, e6⟩ := hz; go_simp⟩) ?_
      try go_simp
      refine wpAnyX_both (T := fun z => S7 u.heap.size op vr A B bw wa wl wc ka kl kc z) (i := 8) (v := Value.bool R.2.2) rfl (by kernel_rfl) (by kernel_rfl) (by kernel_rfl) (fun _ _ _ h => by first | exact h | exact h.elim | cases h.1) (by decide) (fun _ h => h.elim) (fun _ h => h) (Sx.behind (by kernel_rfl) hs3.out) (Or.inl ⟨by rfl, fun z hz => by obtain ⟨e0, e1, e2, e3, e4, e5, e6⟩ := hz; go_simp⟩) ?_
      try go_simp
      refine wpAnyX_ready (rs := [10]) (by kernel_rfl) (by simp) (AllX.cons rfl (fun K hK => ?_) AllX.nil)
      have e8 := XN3.out.cell 0
      have e9 := XN3.out.cell 1
      have f8 := XN3.out.froz 0
      have f9 := XN3.out.froz 1
      simp at e8 e9
      go_simp
      have XN4 : Hid (Bz ((v3.setCell ⟨bN, 0, none⟩ (Value.int .i64 R.1)).setCell ⟨bN, 1, none⟩ (Value.slice a5 R.2.1.length c5)) bN #[Value.int .i64 R.1, Value.slice a5 R.2.1.length c5] 61) := (XN3.out.set 0 _).set 1 _
      have XA4 : Hid (Bz ((v3.setCell ⟨bN, 0, none⟩ (Value.int .i64 R.1)).setCell ⟨bN, 1, none⟩ (Value.slice a5 R.2.1.length c5)) (u.heap.size) #[Value.int .i64 op, Value.int .i64 vr, Value.int .i64 A, Value.int .i64 B, Value.int .i64 bw, Value.slice wa wl wc, Value.slice ka kl kc] 63) := (XA3.out.other (by have := hNbN.out; omega) 0 _).other (by have := hNbN.out; omega) 1 _
      have XR4 : Hid (Bz ((v3.setCell ⟨bN, 0, none⟩ (Value.int .i64 R.1)).setCell ⟨bN, 1, none⟩ (Value.slice a5 R.2.1.length c5)) (u.heap.size + 1) #[Value.int .i64 0, Value.slice none 0 0] 61) := (XR3.out.other (by have := hNbN.out; omega) 0 _).other (by have := hNbN.out; omega) 1 _
      have BW4 : Hid (Below u.heap.size u ((v3.setCell ⟨bN, 0, none⟩ (Value.int .i64 R.1)).setCell ⟨bN, 1, none⟩ (Value.slice a5 R.2.1.length c5))) := (BW3.out.setCell (show u.heap.size ≤ bN by have := hNbN.out; omega) _).setCell (show u.heap.size ≤ bN by have := hNbN.out; omega) _
      have NW4 : Hid (Nw ((v3.setCell ⟨bN, 0, none⟩ (Value.int .i64 R.1)).setCell ⟨bN, 1, none⟩ (Value.slice a5 R.2.1.length c5)) u.heap.size a5 R.2.1) := ((NW3.out.set XN3.out (by decide) 0 _).set (XN3.out.set 0 _) (by decide) 1 _)
      generalize (v3.setCell ⟨bN, 0, none⟩ (Value.int .i64 R.1)).setCell ⟨bN, 1, none⟩ (Value.slice a5 R.2.1.length c5) = v4 at *
      clear e8 e9 f8 f9
      have hs4 : Hid ((fun z => S7 u.heap.size op vr A B bw wa wl wc ka kl kc z) v4) := ⟨XA4.out.cell 0, XA4.out.cell 1, XA4.out.cell 2, XA4.out.cell 3, XA4.out.cell 4, XA4.out.cell 5, XA4.out.cell 6⟩
      refine hK _ _ (Sx.behind (by kernel_rfl) hs4.out) ?_
      clear hK K
      try go_simp
      refine wpAnyX_both (T := fun z => S7 u.heap.size op vr A B bw wa wl wc ka kl kc z) (i := 11) (v := Value.bool R.2.2) rfl (by kernel_rfl) (by kernel_rfl) (by kernel_rfl) (fun _ _ _ h => by first | exact h | exact h.elim | cases h.1) (by decide) (fun _ h => h.elim) (fun _ h => h) (Sx.behind (by kernel_rfl) hs4.out) (Or.inl ⟨by rfl, fun z hz => by obtain ⟨e0, e1, e2, e3, e4, e5, e6⟩ := hz; go_simp⟩) ?_
      try go_simp
      refine wpAnyX_done (by kernel_rfl) ?_ _
      have q0 := XN4.out.cell 0
      have q1 := XN4.out.cell 1
      have r0 := XR4.out.cell 0
      have r1 := XR4.out.cell 1
      have f0 := XR4.out.froz 0
      have f1 := XR4.out.froz 1
      simp at q0 q1 r0 r1
      go_wp2_with fail
      obtain ⟨y0, y1⟩ := ((Bz.blk XR4.out).put0' (.int .i64 R.1)).put1' (.slice a5 R.2.1.length c5) |>.cells
      exact bodyPost_ret (v := Value.agg #[Value.int .i64 R.1, Value.slice a5 R.2.1.length c5]) (by simp [results, Tryz.results133, go_sem, y0, y1]) rfl (RetV.box (Bz.blk XR4.out) NW4.out (Nat.le_refl _) (Nat.le_succ _) BW4.out)
  · go_simp
    have hbx : Below v0.heap.size v0 (v0.alloc (Obj.cells #[Value.int .i64 0, Value.slice none 0 0] 61)) := (Below.refl _ _).alloc (Nat.le_refl _) _
    have XA1 := kide (XA0.out.later hbx)
    have XR1 := kide (XR0.out.later hbx)
    have BW1 := kide (BW0.out.trans (hbx.mono BW0.out.size))
    have XN1 := kide (Bz.new v0 #[Value.int .i64 0, Value.slice none 0 0] 61)
    have hNbN : Hid (u.heap.size + 2 ≤ v0.heap.size) := by have := XR0.out.lt; show _ ≤ _; omega
    obtain ⟨bN, hbbN⟩ : ∃ x, v0.heap.size = x := ⟨_, rfl⟩
    rw [hbbN] at XN1 hNbN ⊢
    clear hbbN hbx
    generalize v0.alloc (Obj.cells #[Value.int .i64 0, Value.slice none 0 0] 61) = v1 at *
    have hs1 : Hid ((fun z => S7 u.heap.size op vr A B bw wa wl wc ka kl kc z) v1) := ⟨XA1.out.cell 0, XA1.out.cell 1, XA1.out.cell 2, XA1.out.cell 3, XA1.out.cell 4, XA1.out.cell 5, XA1.out.cell 6⟩
    refine hK _ _ (Sx.behind (by kernel_rfl) hs1.out) ?_
    clear hK K
    try go_simp
    refine wpAnyX_ready (rs := [2]) (by kernel_rfl) (by simp) (AllX.cons rfl (fun K hK => ?_) AllX.nil)
    go_simp
    refine Calls.mono (HKID.out v1 BW1.out) ?_
    rintro e v2 ⟨rfl, hb2⟩
    have XA2 := kide (XA1.out.later hb2)
    have XR2 := kide (XR1.out.later hb2)
    have XN2 := kide (XN1.out.later hb2)
    have BW2 := kide (BW1.out.trans (hb2.mono BW1.out.size))
    clear hb2
    have hs2 : Hid ((fun z => S7 u.heap.size op vr A B bw wa wl wc ka kl kc z) v2) := ⟨XA2.out.cell 0, XA2.out.cell 1, XA2.out.cell 2, XA2.out.cell 3, XA2.out.cell 4, XA2.out.cell 5, XA2.out.cell 6⟩
    refine hK _ _ (Sx.behind (by kernel_rfl) hs2.out) ?_
    clear hK K
    try go_simp
    refine wpAnyX_ready (rs := [5]) (by kernel_rfl) (by simp) (AllX.cons rfl (fun K hK => ?_) AllX.nil)
    go_simp
    refine Calls.mono (HOP.out v2 BW2.out) ?_
    rintro e v3 ⟨a5, c5, rfl, hf3, hb3⟩
    have XA3 := kide (XA2.out.later hb3)
    have XR3 := kide (XR2.out.later hb3)
    have XN3 := kide (XN2.out.later hb3)
    have BW3 := kide (BW2.out.trans (hb3.mono BW2.out.size))
    have NW3 := kide ((Fresh.nwE hf3).mono (lo' := u.heap.size) BW2.out.size)
    clear hb3 hf3
    have hs3 : Hid ((fun z => S7 u.heap.size op vr A B bw wa wl wc ka kl kc z) v3) := ⟨XA3.out.cell 0, XA3.out.cell 1, XA3.out.cell 2, XA3.out.cell 3, XA3.out.cell 4, XA3.out.cell 5, XA3.out.cell 6⟩
    refine hK _ _ (Sx.behind (by kernel_rfl) hs3.out) ?_
    clear hK K
    try go_simp
    refine wpAnyX_both (T := fun z => S7 u.heap.size op vr A B bw wa wl wc ka kl kc z) (i := 6) (v := Value.tuple #[Value.agg #[Value.int .i64 R.1, Value.slice a5 R.2.1.length c5], Value.bool R.2.2]) rfl (by kernel_rfl) (by kernel_rfl) (by kernel_rfl) (fun _ _ _ h => by first | exact h | exact h.elim | cases h.1) (by decide) (fun _ h => h.elim) (fun _ h => h) (Sx.behind (by kernel_rfl) hs3.out) (Or.inl ⟨by rfl, fun z hz => by obtain ⟨e0, e1, e2, e3, e4, e5, e6⟩ := hz; go_simp⟩) ?_
    try go_simp
    refine wpAnyX_both (T := fun z => S7 u.heap.size op vr A B bw wa wl wc ka kl kc z) (i := 7) (v := Value.agg #[Value.int .i64 R.1, Value.slice a5 R.2.1.length c5]) rfl (by kernel_rfl) (by kernel_rfl) (by kernel_rfl) (fun _ _ _ h => by first | exact h | exact h.elim | cases h.1) (by decide) (fun _ h => h.elim) (fun _ h => h) (Sx.behind (by kernel_rfl) hs3.out) (Or.inl ⟨by rfl, fun z hz => by obtain ⟨e0, e1, e2, e3, e4, e5, e6⟩ := hz; go_simp⟩) ?_
    try go_simp
    refine wpAnyX_both (T := fun z => S7 u.heap.size op vr A B bw wa wl wc ka kl kc z) (i := 8) (v := Value.bool R.2.2) rfl (by kernel_rfl) (by kernel_rfl) (by kernel_rfl) (fun _ _ _ h => by first | exact h | exact h.elim | cases h.1) (by decide) (fun _ h => h.elim) (fun _ h => h) (Sx.behind (by kernel_rfl) hs3.out) (Or.inl ⟨by rfl, fun z hz => by obtain ⟨e0, e1, e2, e3, e4, e5, e6⟩ := hz; go_simp⟩) ?_
    try go_simp
    refine wpAnyX_ready (rs := [10]) (by kernel_rfl) (by simp) (AllX.cons rfl (fun K hK => ?_) AllX.nil)
    have e8 := XN3.out.cell 0
    have e9 := XN3.out.cell 1
    have f8 := XN3.out.froz 0
    have f9 := XN3.out.froz 1
    simp at e8 e9
    go_simp
    have XN4 : Hid (Bz ((v3.setCell ⟨bN, 0, none⟩ (Value.int .i64 R.1)).setCell ⟨bN, 1, none⟩ (Value.slice a5 R.2.1.length c5)) bN #[Value.int .i64 R.1, Value.slice a5 R.2.1.length c5] 61) := (XN3.out.set 0 _).set 1 _
    have XA4 : Hid (Bz ((v3.setCell ⟨bN, 0, none⟩ (Value.int .i64 R.1)).setCell ⟨bN, 1, none⟩ (Value.slice a5 R.2.1.length c5)) (u.heap.size) #[Value.int .i64 op, Value.int .i64 vr, Value.int .i64 A, Value.int .i64 B, Value.int .i64 bw, Value.slice wa wl wc, Value.slice ka kl kc] 63) := (XA3.out.other (by have := hNbN.out; omega) 0 _).other (by have := hNbN.out; omega) 1 _
    have XR4 : Hid (Bz ((v3.setCell ⟨bN, 0, none⟩ (Value.int .i64 R.1)).setCell ⟨bN, 1, none⟩ (Value.slice a5 R.2.1.length c5)) (u.heap.size + 1) #[Value.int .i64 0, Value.slice none 0 0] 61) := (XR3.out.other (by have := hNbN.out; omega) 0 _).other (by have := hNbN.out; omega) 1 _
    have BW4 : Hid (Below u.heap.size u ((v3.setCell ⟨bN, 0, none⟩ (Value.int .i64 R.1)).setCell ⟨bN, 1, none⟩ (Value.slice a5 R.2.1.length c5))) := (BW3.out.setCell (show u.heap.size ≤ bN by have := hNbN.out; omega) _).setCell (show u.heap.size ≤ bN by have := hNbN.out; omega) _
    have NW4 : Hid (Nw ((v3.setCell ⟨bN, 0, none⟩ (Value.int .i64 R.1)).setCell ⟨bN, 1, none⟩ (Value.slice a5 R.2.1.length c5)) u.heap.size a5 R.2.1) := ((NW3.out.set XN3.out (by decide) 0 _).set (XN3.out.set 0 _) (by decide) 1 _)
    generalize (v3.setCell ⟨bN, 0, none⟩ (Value.int .i64 R.1)).setCell ⟨bN, 1, none⟩ (Value.slice a5 R.2.1.length c5) = v4 at *
    clear e8 e9 f8 f9
    have hs4 : Hid ((fun z => S7 u.heap.size op vr A B bw wa wl wc ka kl kc z) v4) := ⟨XA4.out.cell 0, XA4.out.cell 1, XA4.out.cell 2, XA4.out.cell 3, XA4.out.cell 4, XA4.out.cell 5, XA4.out.cell 6⟩
    refine hK _ _ (Sx.behind (by kernel_rfl) hs4.out) ?_
    clear hK K
    try go_simp
    refine wpAnyX_both (T := fun z => S7 u.heap.size op vr A B bw wa wl wc ka kl kc z) (i := 11) (v := Value.bool R.2.2) rfl (by kernel_rfl) (by kernel_rfl) (by kernel_rfl) (fun _ _ _ h => by first | exact h | exact h.elim | cases h.1) (by decide) (fun _ h => h.elim) (fun _ h => h) (Sx.behind (by kernel_rfl) hs4.out) (Or.inl ⟨by rfl, fun z hz => by obtain ⟨e0, e1, e2, e3, e4, e5, e6⟩ := hz; go_simp⟩) ?_
    try go_simp
    refine wpAnyX_done (by kernel_rfl) ?_ _
    have q0 := XN4.out.cell 0
    have q1 := XN4.out.cell 1
    have r0 := XR4.out.cell 0
    have r1 := XR4.out.cell 1
    have f0 := XR4.out.froz 0
    have f1 := XR4.out.froz 1
    simp at q0 q1 r0 r1
    go_wp2_with fail
    obtain ⟨y0, y1⟩ := ((Bz.blk XR4.out).put0' (.int .i64 R.1)).put1' (.slice a5 R.2.1.length c5) |>.cells
    exact bodyPost_ret (v := Value.agg #[Value.int .i64 R.1, Value.slice a5 R.2.1.length c5]) (by simp [results, Tryz.results133, go_sem, y0, y1]) rfl (RetV.box (Bz.blk XR4.out) NW4.out (Nat.le_refl _) (Nat.le_succ _) BW4.out)

set_option maxHeartbeats 4000000 in
set_option maxRecDepth 100000 in
theorem evSign_any (eb : Nat) (vs l : List Bw) (n : Tc) (wa ka : Option Addr) (wc kc : Nat) (u : World) (hE : Evl u eb vs l) (hk : RdI u ka n.ks) (h1 : n.ks.length = 1) (j : Nat) (x : Bw) (hj : n.ks.getD 0 0 = (j : Int)) (hx : l[j]? = some x) :
    Calls Tryz.prog 134 #[.pointer (some ⟨eb, 0, none⟩), nodA n wa ka wc kc] u (RetV u (two (wdnR x.wd x.ws n.a true))) := by
  have HKID := kide (fun v (hv : Below u.heap.size u v) => kid_any eb vs l n wa ka wc kc v (hE.later hv) (hk.later hv) h1 j x hj hx)
  have hxr : Rd u x.a x.ws := by
    obtain ⟨aa, ac, -, ha⟩ := hE.ahd
    obtain ⟨-, h | ⟨ab, ao, rfl, hac⟩⟩ := ha
    · rw [h] at hx; simp at hx
    exact (hac j x hx).2.2.1
  have HOP := kide (fun v (hv : Below u.heap.size u v) => implWid_any x.wd x.a x.c x.ws n.a true v (hxr.later hv))
  generalize hR : wdnR x.wd x.ws n.a true = R at *
  clear hR hE hk hj hx hxr h1
  obtain ⟨op, vr, A, B, bw, ws, ks⟩ := n
  obtain ⟨wd, xa, xc, xs⟩ := x
  simp only [nodA, RetB] at *
  generalize ws.length = wl at *
  generalize ks.length = kl at *
  generalize xs.length = xl at *
  have XA : Hid (Bz ((u.alloc (Obj.cells #[Value.int .i64 op, Value.int .i64 vr, Value.int .i64 A, Value.int .i64 B, Value.int .i64 bw, Value.slice wa wl wc, Value.slice ka kl kc] 63)).alloc (Obj.cells #[Value.int .i64 0, Value.slice none 0 0] 61)) u.heap.size #[Value.int .i64 op, Value.int .i64 vr, Value.int .i64 A, Value.int .i64 B, Value.int .i64 bw, Value.slice wa wl wc, Value.slice ka kl kc] 63) := (Bz.new u #[Value.int .i64 op, Value.int .i64 vr, Value.int .i64 A, Value.int .i64 B, Value.int .i64 bw, Value.slice wa wl wc, Value.slice ka kl kc] 63).later ((Below.refl _ _).alloc (Nat.le_refl _) _)
  have XR : Hid (Bz ((u.alloc (Obj.cells #[Value.int .i64 op, Value.int .i64 vr, Value.int .i64 A, Value.int .i64 B, Value.int .i64 bw, Value.slice wa wl wc, Value.slice ka kl kc] 63)).alloc (Obj.cells #[Value.int .i64 0, Value.slice none 0 0] 61)) (u.heap.size + 1) #[Value.int .i64 0, Value.slice none 0 0] 61) := by
    have := Bz.new (u.alloc (Obj.cells #[Value.int .i64 op, Value.int .i64 vr, Value.int .i64 A, Value.int .i64 B, Value.int .i64 bw, Value.slice wa wl wc, Value.slice ka kl kc] 63)) #[Value.int .i64 0, Value.slice none 0 0] 61
    rw [World.size_alloc] at this
    exact this
  have BW : Hid (Below u.heap.size u ((u.alloc (Obj.cells #[Value.int .i64 op, Value.int .i64 vr, Value.int .i64 A, Value.int .i64 B, Value.int .i64 bw, Value.slice wa wl wc, Value.slice ka kl kc] 63)).alloc (Obj.cells #[Value.int .i64 0, Value.slice none 0 0] 61))) := Ba (Ba (Below.refl _ _) _) _
  go_enter Tryz.func134, Tryz.ntmps134
  go_wp2_with fail
  generalize ((u.alloc (Obj.cells #[Value.int .i64 op, Value.int .i64 vr, Value.int .i64 A, Value.int .i64 B, Value.int .i64 bw, Value.slice wa wl wc, Value.slice ka kl kc] 63)).alloc (Obj.cells #[Value.int .i64 0, Value.slice none 0 0] 61)) = w1 at *
  refine wp_region_x (SA := fun _ => False) (SB := fun z => S7 u.heap.size op vr A B bw wa wl wc ka kl kc z) (k := 999) (by kernel_rfl) ?_
  have hbd : Below w1.heap.size w1 w1.drew := (Below.refl _ _).drew
  have XA0 := kide (XA.out.later hbd)
  have XR0 := kide (XR.out.later hbd)
  have BW0 := kide (BW.out.drew)
  clear hbd XA XR BW
  generalize w1.drew = v0 at *
  have hs0 : Hid ((fun z => S7 u.heap.size op vr A B bw wa wl wc ka kl kc z) v0) := ⟨XA0.out.cell 0, XA0.out.cell 1, XA0.out.cell 2, XA0.out.cell 3, XA0.out.cell 4, XA0.out.cell 5, XA0.out.cell 6⟩
  try go_simp
  refine wpAnyX_both (T := fun z => S7 u.heap.size op vr A B bw wa wl wc ka kl kc z) (i := 0) (v := Value.pointer (some ⟨eb, 0, none⟩)) rfl (by kernel_rfl) (by kernel_rfl) (by kernel_rfl) (fun _ _ _ h => by first | exact h | exact h.elim | cases h.1) (by decide) (fun _ h => h.elim) (fun _ h => h) (Sx.behind (by kernel_rfl) hs0.out) (Or.inl ⟨by rfl, fun z hz => by obtain ⟨e0, e1, e2, e3, e4, e5, e6⟩ := hz; go_simp⟩) ?_
  try go_simp
  refine wpAnyX_both (T := fun z => S7 u.heap.size op vr A B bw wa wl wc ka kl kc z) (i := 1) (v := Value.agg #[Value.int .i64 op, Value.int .i64 vr, Value.int .i64 A, Value.int .i64 B, Value.int .i64 bw, Value.slice wa wl wc, Value.slice ka kl kc]) rfl (by kernel_rfl) (by kernel_rfl) (by kernel_rfl) (fun _ _ _ h => by first | exact h | exact h.elim | cases h.1) (by decide) (fun _ h => h.elim) (fun _ h => h) (Sx.behind (by kernel_rfl) hs0.out) (Or.inl ⟨by rfl, fun z hz => by obtain ⟨e0, e1, e2, e3, e4, e5, e6⟩ := hz; go_simp⟩) ?_
  try go_simp
  refine wpAnyX_both (T := fun z => S7 u.heap.size op vr A B bw wa wl wc ka kl kc z) (i := 3) (v := Value.pointer (some ⟨u.heap.size, 2, none⟩)) rfl (by kernel_rfl) (by kernel_rfl) (by kernel_rfl) (fun _ _ _ h => by first | exact h | exact h.elim | cases h.1) (by decide) (fun _ h => h.elim) (fun _ h => h) (Sx.behind (by kernel_rfl) hs0.out) (Or.inl ⟨by rfl, fun z hz => by obtain ⟨e0, e1, e2, e3, e4, e5, e6⟩ := hz; go_simp⟩) ?_
  try go_simp
  refine wpAnyX_both (T := fun z => S7 u.heap.size op vr A B bw wa wl wc ka kl kc z) (i := 4) (v := Value.int .i64 A) rfl (by kernel_rfl) (by kernel_rfl) (by kernel_rfl) (fun _ _ _ h => by first | exact h | exact h.elim | cases h.1) (by decide) (fun _ h => h.elim) (fun _ h => h) (Sx.behind (by kernel_rfl) hs0.out) (Or.inl ⟨by rfl, fun z hz => by obtain ⟨e0, e1, e2, e3, e4, e5, e6⟩ := hz; go_simp⟩) ?_
  try go_simp
  refine wpAnyX_ready (rs := [2, 9]) (by kernel_rfl) (by simp) (AllX.cons rfl (fun K hK => ?_) (AllX.cons rfl (fun K hK => ?_) AllX.nil))
  · go_simp
    refine Calls.mono (HKID.out v0 BW0.out) ?_
    rintro e v1 ⟨rfl, hb1⟩
    have XA1 := kide (XA0.out.later hb1)
    have XR1 := kide (XR0.out.later hb1)
    have BW1 := kide (BW0.out.trans (hb1.mono BW0.out.size))
    clear hb1
    have hs1 : Hid ((fun z => S7 u.heap.size op vr A B bw wa wl wc ka kl kc z) v1) := ⟨XA1.out.cell 0, XA1.out.cell 1, XA1.out.cell 2, XA1.out.cell 3, XA1.out.cell 4, XA1.out.cell 5, XA1.out.cell 6⟩
    refine hK _ _ (Sx.behind (by kernel_rfl) hs1.out) ?_
    clear hK K
    try go_simp
    refine wpAnyX_ready (rs := [5, 9]) (by kernel_rfl) (by simp) (AllX.cons rfl (fun K hK => ?_) (AllX.cons rfl (fun K hK => ?_) AllX.nil))
    · go_simp
      refine Calls.mono (HOP.out v1 BW1.out) ?_
      rintro e v2 ⟨a5, c5, rfl, hf2, hb2⟩
      have XA2 := kide (XA1.out.later hb2)
      have XR2 := kide (XR1.out.later hb2)
      have BW2 := kide (BW1.out.trans (hb2.mono BW1.out.size))
      have NW2 := kide ((Fresh.nwE hf2).mono (lo' := u.heap.size) BW1.out.size)
      clear hb2 hf2
      have hs2 : Hid ((fun z => S7 u.heap.size op vr A B bw wa wl wc ka kl kc z) v2) := ⟨XA2.out.cell 0, XA2.out.cell 1, XA2.out.cell 2, XA2.out.cell 3, XA2.out.cell 4, XA2.out.cell 5, XA2.out.cell 6⟩
      refine hK _ _ (Sx.behind (by kernel_rfl) hs2.out) ?_
      clear hK K
      try go_simp
      refine wpAnyX_both (T := fun z => S7 u.heap.size op vr A B bw wa wl wc ka kl kc z) (i := 6) (v := Value.tuple #[Value.agg #[Value.int .i64 R.1, Value.slice a5 R.2.1.length c5], Value.bool R.2.2]) rfl (by kernel_rfl) (by kernel_rfl) (by kernel_rfl) (fun _ _ _ h => by first | exact h | exact h.elim | cases h.1) (by decide) (fun _ h => h.elim) (fun _ h => h) (Sx.behind (by kernel_rfl) hs2.out) (Or.inl ⟨by rfl, fun z hz => by obtain ⟨e0, e1, e2, e3, e4, e5, e6⟩ := hz; go_simp⟩) ?_
      try go_simp
      refine wpAnyX_both (T := fun z => S7 u.heap.size op vr A B bw wa wl wc ka kl kc z) (i := 7) (v := Value.agg #[Value.int .i64 R.1, Value.slice a5 R.2.1.length c5]) rfl (by kernel_rfl) (by kernel_rfl) (by kernel_rfl) (fun _ _ _ h => by first | exact h | exact h.elim | cases h.1) (by decide) (fun _ h => h.elim) (fun _ h => h) (Sx.behind (by kernel_rfl) hs2.out) (Or.inl ⟨by rfl, fun z hz => by obtain ⟨e0, e1, e2, e3, e4, e5, e6⟩ := hz; go_simp⟩) ?_
      try go_simp
      refine wpAnyX_both (T := fun z => S7 u.heap.size op vr A B bw wa wl wc ka kl kc z) (i := 8) (v := Value.bool R.2.2) rfl (by kernel_rfl) (by kernel_rfl) (by kernel_rfl) (fun _ _ _ h => by first | exact h | exact h.elim | cases h.1) (by decide) (fun _ h => h.elim) (fun _ h => h) (Sx.behind (by kernel_rfl) hs2.out) (Or.inl ⟨by rfl, fun z hz => by obtain ⟨e0, e1, e2, e3, e4, e5, e6⟩ := hz; go_simp⟩) ?_
      try go_simp
      refine wpAnyX_ready (rs := [9]) (by kernel_rfl) (by simp) (AllX.cons rfl (fun K hK => ?_) AllX.nil)
      go_simp
      have hbx : Below v2.heap.size v2 (v2.alloc (Obj.cells #[Value.int .i64 0, Value.slice none 0 0] 61)) := (Below.refl _ _).alloc (Nat.le_refl _) _
      have XA3 := kide (XA2.out.later hbx)
      have XR3 := kide (XR2.out.later hbx)
      have BW3 := kide (BW2.out.trans (hbx.mono BW2.out.size))
      have NW3 := kide (NW2.out.later hbx)
      have XN3 := kide (Bz.new v2 #[Value.int .i64 0, Value.slice none 0 0] 61)
      have hNbN : Hid (u.heap.size + 2 ≤ v2.heap.size) := by have := XR2.out.lt; show _ ≤ _; omega
      obtain ⟨bN, hbbN⟩ : ∃ x, v2.heap.size = x := ⟨_, rfl⟩
      rw [hbbN] at XN3 hNbN ⊢
      clear hbbN hbx
      generalize v2.alloc (Obj.cells #[Value.int .i64 0, Value.slice none 0 0] 61) = v3 at *
      have hs3 : Hid ((fun z => S7 u.heap.size op vr A B bw wa wl wc ka kl kc z) v3) := ⟨XA3.out.cell 0, XA3.out.cell 1, XA3.out.cell 2, XA3.out.cell 3, XA3.out.cell 4, XA3.out.cell 5, XA3.out.cell 6⟩
      refine hK _ _ (Sx.behind (by kernel_rfl) hs3.out) ?_
      clear hK K
      try go_simp
      refine wpAnyX_ready (rs := [10]) (by kernel_rfl) (by simp) (AllX.cons rfl (fun K hK => ?_) AllX.nil)
      have e8 := XN3.out.cell 0
      have e9 := XN3.out.cell 1
      have f8 := XN3.out.froz 0
      have f9 := XN3.out.froz 1
      simp at e8 e9
      go_simp
      have XN4 : Hid (Bz ((v3.setCell ⟨bN, 0, none⟩ (Value.int .i64 R.1)).setCell ⟨bN, 1, none⟩ (Value.slice a5 R.2.1.length c5)) bN #[Value.int .i64 R.1, Value.slice a5 R.2.1.length c5] 61) := (XN3.out.set 0 _).set 1 _
      have XA4 : Hid (Bz ((v3.setCell ⟨bN, 0, none⟩ (Value.int .i64 R.1)).setCell ⟨bN, 1, none⟩ (Value.slice a5 R.2.1.length c5)) (u.heap.size) #[Value.int .i64 op, Value.int .i64 vr, Value.int .i64 A, Value.int .i64 B, Value.int .i64 bw, Value.slice wa wl wc, Value.slice ka kl kc] 63) := (XA3.out.other (by have := hNbN.out; omega) 0 _).other (by have := hNbN.out; omega) 1 _
      have XR4 : Hid (Bz ((v3.setCell ⟨bN, 0, none⟩ (Value.int .i64 R.1)).setCell ⟨bN, 1, none⟩ (Value.slice a5 R.2.1.length c5)) (u.heap.size + 1) #[Value.int .i64 0, Value.slice none 0 0] 61) := (XR3.out.other (by have := hNbN.out; omega) 0 _).other (by have := hNbN.out; omega) 1 _
      have BW4 : Hid (Below u.heap.size u ((v3.setCell ⟨bN, 0, none⟩ (Value.int .i64 R.1)).setCell ⟨bN, 1, none⟩ (Value.slice a5 R.2.1.length c5))) := (BW3.out.setCell (show u.heap.size ≤ bN by have := hNbN.out; omega) _).setCell (show u.heap.size ≤ bN by have := hNbN.out; omega) _
      have NW4 : Hid (Nw ((v3.setCell ⟨bN, 0, none⟩ (Value.int .i64 R.1)).setCell ⟨bN, 1, none⟩ (Value.slice a5 R.2.1.length c5)) u.heap.size a5 R.2.1) := ((NW3.out.set XN3.out (by decide) 0 _).set (XN3.out.set 0 _) (by decide) 1 _)
      generalize (v3.setCell ⟨bN, 0, none⟩ (Value.int .i64 R.1)).setCell ⟨bN, 1, none⟩ (Value.slice a5 R.2.1.length c5) = v4 at *
      clear e8 e9 f8 f9
      have hs4 : Hid ((fun z => S7 u.heap.size op vr A B bw wa wl wc ka kl kc z) v4) := ⟨XA4.out.cell 0, XA4.out.cell 1, XA4.out.cell 2, XA4.out.cell 3, XA4.out.cell 4, XA4.out.cell 5, XA4.out.cell 6⟩
      refine hK _ _ (Sx.behind (by kernel_rfl) hs4.out) ?_
      clear hK K
      try go_simp
      refine wpAnyX_both (T := fun z => S7 u.heap.size op vr A B bw wa wl wc ka kl kc z) (i := 11) (v := Value.bool R.2.2) rfl (by kernel_rfl) (by kernel_rfl) (by kernel_rfl) (fun _ _ _ h => by first | exact h | exact h.elim | cases h.1) (by decide) (fun _ h => h.elim) (fun _ h => h) (Sx.behind (by kernel_rfl) hs4.out) (Or.inl ⟨by rfl, fun z hz => by obtain ⟨e0, e1, e2, e3, e4, e5, e6⟩ := hz; go_simp⟩) ?_
      try go_simp
      refine wpAnyX_done (by kernel_rfl) ?_ _
      have q0 := XN4.out.cell 0
      have q1 := XN4.out.cell 1
      have r0 := XR4.out.cell 0
      have r1 := XR4.out.cell 1
      have f0 := XR4.out.froz 0
      have f1 := XR4.out.froz 1
      simp at q0 q1 r0 r1
      go_wp2_with fail
      obtain ⟨y0, y1⟩ := ((Bz.blk XR4.out).put0' (.int .i64 R.1)).put1' (.slice a5 R.2.1.length c5) |>.cells
      exact bodyPost_ret (v := Value.agg #[Value.int .i64 R.1, Value.slice a5 R.2.1.length c5]) (by simp [results, Tryz.results134, go_sem, y0, y1]) rfl (RetV.box (Bz.blk XR4.out) NW4.out (Nat.le_refl _) (Nat.le_succ _) BW4.out)
    · go_simp
      have hbx : Below v1.heap.size v1 (v1.alloc (Obj.cells #[Value.int .i64 0, Value.slice none 0 0] 61)) := (Below.refl _ _).alloc (Nat.le_refl _) _
      have XA2 := kide (XA1.out.later hbx)
      have XR2 := kide (XR1.out.later hbx)
      have BW2 := kide (BW1.out.trans (hbx.mono BW1.out.size))
      have XN2 := kide (Bz.new v1 #[Value.int .i64 0, Value.slice none 0 0] 61)
      have hNbN : Hid (u.heap.size + 2 ≤ v1.heap.size) := by have := XR1.out.lt; show _ ≤ _; omega
      obtain ⟨bN, hbbN⟩ : ∃ x, v1.heap.size = x := ⟨_, rfl⟩
      rw [hbbN] at XN2 hNbN ⊢
      clear hbbN hbx
      generalize v1.alloc (Obj.cells #[Value.int .i64 0, Value.slice none 0 0] 61) = v2 at *
      have hs2 : Hid ((fun z => S7 u.heap.size op vr A B bw wa wl wc ka kl kc z) v2) := ⟨XA2.out.cell 0, XA2.out.cell 1, XA2.out.cell 2, XA2.out.cell 3, XA2.out.cell 4, XA2.out.cell 5, XA2.out.cell 6⟩
      refine hK _ _ (Sx.behind (by kernel_rfl) hs2.out) ?_
      clear hK K
      try go_simp
      refine wpAnyX_ready (rs := [5]) (by kernel_rfl) (by simp) (AllX.cons rfl (fun K hK => ?_) AllX.nil)
      go_simp
      refine Calls.mono (HOP.out v2 BW2.out) ?_
      rintro e v3 ⟨a5, c5, rfl, hf3, hb3⟩
      have XA3 := kide (XA2.out.later hb3)
      have XR3 := kide (XR2.out.later hb3)
      have XN3 := kide (XN2.out.later hb3)
      have BW3 := kide (BW2.out.trans (hb3.mono BW2.out.size))
      have NW3 := kide ((Fresh.nwE hf3).mono (lo' := u.heap.size) BW2.out.size)
      clear hb3 hf3
      have hs3 : Hid ((fun z => S7 u.heap.size op vr A B bw wa wl wc ka kl kc z) v3) := ⟨XA3.out.cell 0, XA3.out.cell 1, XA3.out.cell 2, XA3.out.cell 3, XA3.out.cell 4, XA3.out.cell 5, XA3.out.cell 6⟩
      refine hK _ _ (Sx.behind (by kernel_rfl) hs3.out) ?_
      clear hK K
      try go_simp
      refine wpAnyX_both (T := fun z => S7 u.heap.size op vr A B bw wa wl wc ka kl kc z) (i := 6) (v := Value.tuple #[Value.agg #[Value.int .i64 R.1, Value.slice a5 R.2.1.length c5], Value.bool R.2.2]) rfl (by kernel_rfl) (by kernel_rfl) (by kernel_rfl) (fun _ _ _ h => by first | exact h | exact h.elim | cases h.1) (by decide) (fun _ h => h.elim) (fun _ h => h) (Sx.behind (by kernel_rfl) hs3.out) (Or.inl ⟨by rfl, fun z hz => by obtain ⟨e0, e1, e2, e3, e4, e5, e6⟩ := hz; go_simp⟩) ?_
      try go_simp
      refine wpAnyX_both (T := fun z => S7 u.heap.size op vr A B bw wa wl wc ka kl kc z) (i := 7) (v := Value.agg #[Value.int .i64 R.1, Value.slice a5 R.2.1.length c5]) rfl (by kernel_rfl) (by kernel_rfl) (by kernel_rfl) (fun _ _ _ h => by first | exact h | exact h.elim | cases h.1) (by decide) (fun _ h => h.elim) (fun _ h => h) (Sx.behind (by kernel_rfl) hs3.out) (Or.inl ⟨by rfl, fun z hz => by obtain ⟨e0, e1, e2, e3, e4, e5, e6⟩ := hz; go_simp⟩) ?_
      try go_simp
      refine wpAnyX_both (T := fun z => S7 u.heap.size op vr A B bw wa wl wc ka kl kc z) (i := 8) (v := Value.bool R.2.2) rfl (by kernel_rfl) (by kernel_rfl) (by kernel_rfl) (fun _ _ _ h => by first | exact h | exact h.elim | cases h.1) (by decide) (fun _ h => h.elim) (fun _ h => h) (Sx.behind (by kernel_rfl) hs3.out) (Or.inl ⟨by rfl, fun z hz => by obtain ⟨e0, e1, e2, e3, e4, e5, e6⟩ := hz; go_simp⟩) ?_
      try go_simp
      refine wpAnyX_ready (rs := [10]) (by kernel_rfl) (by simp) (AllX.cons rfl (fun K hK => ?_) AllX.nil)
      have e8 := XN3.out.cell 0
      have e9 := XN3.out.cell 1
      have f8 := XN3.out.froz 0
      have f9 := XN3.out.froz 1
      simp at e8 e9
      go_simp
      have XN4 : Hid (Bz ((v3.setCell ⟨bN, 0, none⟩ (Value.int .i64 R.1)).setCell ⟨bN, 1, none⟩ (Value.slice a5 R.2.1.length c5)) bN #[Value.int .i64 R.1, Value.slice a5 R.2.1.length c5] 61) := (XN3.out.set 0 _).set 1 _
      have XA4 : Hid (Bz ((v3.setCell ⟨bN, 0, none⟩ (Value.int .i64 R.1)).setCell ⟨bN, 1, none⟩ (Value.slice a5 R.2.1.length c5)) (u.heap.size) #[Value.int .i64 op, Value.int .i64 vr, Value.int .i64 A, Value.int .i64 B, Value.int .i64 bw, Value.slice wa wl wc, Value.slice ka kl kc] 63) := (XA3.out.other (by have := hNbN.out; omega) 0 _).other (by have := hNbN.out; omega) 1 _
      have XR4 : Hid (Bz ((v3.setCell ⟨bN, 0, none⟩ (Value.int .i64 R.1)).setCell ⟨bN, 1, none⟩ (Value.slice a5 R.2.1.length c5)) (u.heap.size + 1) #[Value.int .i64 0, Value.slice none 0 0] 61) := (XR3.out.other (by have := hNbN.out; omega) 0 _).other (by have := hNbN.out; omega) 1 _
      have BW4 : Hid (Below u.heap.size u ((v3.setCell ⟨bN, 0, none⟩ (Value.int .i64 R.1)).setCell ⟨bN, 1, none⟩ (Value.slice a5 R.2.1.length c5))) := (BW3.out.setCell (show u.heap.size ≤ bN by have := hNbN.out; omega) _).setCell (show u.heap.size ≤ bN by have := hNbN.out; omega) _
      have NW4 : Hid (Nw ((v3.setCell ⟨bN, 0, none⟩ (Value.int .i64 R.1)).setCell ⟨bN, 1, none⟩ (Value.slice a5 R.2.1.length c5)) u.heap.size a5 R.2.1) := ((NW3.out.set XN3.out (by decide) 0 _).set (XN3.out.set 0 _) (by decide) 1 _)
      generalize (v3.setCell ⟨bN, 0, none⟩ (Value.int .i64 R.1)).setCell ⟨bN, 1, none⟩ (Value.slice a5 R.2.1.length c5) = v4 at *
      clear e8 e9 f8 f9
      have hs4 : Hid ((fun z => S7 u.heap.size op vr A B bw wa wl wc ka kl kc z) v4) := ⟨XA4.out.cell 0, XA4.out.cell 1, XA4.out.cell 2, XA4.out.cell 3, XA4.out.cell 4, XA4.out.cell 5, XA4.out.cell 6⟩
      refine hK _ _ (Sx.behind (by kernel_rfl) hs4.out) ?_
      clear hK K
      try go_simp
      refine wpAnyX_both (T := fun z => S7 u.heap.size op vr A B bw wa wl wc ka kl kc z) (i := 11) (v := Value.bool R.2.2) rfl (by kernel_rfl) (by kernel_rfl) (by kernel_rfl) (fun _ _ _ h => by first | exact h | exact h.elim | cases h.1) (by decide) (fun _ h => h.elim) (fun _ h => h) (Sx.behind (by kernel_rfl) hs4.out) (Or.inl ⟨by rfl, fun z hz => by obtain ⟨e0, e1, e2, e3, e4, e5, e6⟩ := hz; go_simp⟩) ?_
      try go_simp
      refine wpAnyX_done (by kernel_rfl) ?_ _
      have q0 := XN4.out.cell 0
      have q1 := XN4.out.cell 1
      have r0 := XR4.out.cell 0
      have r1 := XR4.out.cell 1
      have f0 := XR4.out.froz 0
      have f1 := XR4.out.froz 1
      simp at q0 q1 r0 r1
      go_wp2_with fail
      obtain ⟨y0, y1⟩ := ((Bz.blk XR4.out).put0' (.int .i64 R.1)).put1' (.slice a5 R.2.1.length c5) |>.cells
      exact bodyPost_ret (v := Value.agg #[Value.int .i64 R.1, Value.slice a5 R.2.1.length c5]) (by simp [results, Tryz.results134, go_sem, y0, y1]) rfl (RetV.box (Bz.blk XR4.out) NW4.out (Nat.le_refl _) (Nat.le_succ _) BW4.out)
  · go_simp
    have hbx : Below v0.heap.size v0 (v0.alloc (Obj.cells #[Value.int .i64 0, Value.slice none 0 0] 61)) := (Below.refl _ _).alloc (Nat.le_refl _) _
    have XA1 := kide (XA0.out.later hbx)
    have XR1 := kide (XR0.out.later hbx)
    have BW1 := kide (BW0.out.trans (hbx.mono BW0.out.size))
    have XN1 := kide (Bz.new v0 #[Value.int .i64 0, Value.slice none 0 0] 61)
    have hNbN : Hid (u.heap.size + 2 ≤ v0.heap.size) := by have := XR0.out.lt; show _ ≤ _; omega
    obtain ⟨bN, hbbN⟩ : ∃ x, v0.heap.size = x := ⟨_, rfl⟩
    rw [hbbN] at XN1 hNbN ⊢
    clear hbbN hbx
    generalize v0.alloc (Obj.cells #[Value.int .i64 0, Value.slice none 0 0] 61) = v1 at *
    have hs1 : Hid ((fun z => S7 u.heap.size op vr A B bw wa wl wc ka kl kc z) v1) := ⟨XA1.out.cell 0, XA1.out.cell 1, XA1.out.cell 2, XA1.out.cell 3, XA1.out.cell 4, XA1.out.cell 5, XA1.out.cell 6⟩
    refine hK _ _ (Sx.behind (by kernel_rfl) hs1.out) ?_
    clear hK K
    try go_simp
    refine wpAnyX_ready (rs := [2]) (by kernel_rfl) (by simp) (AllX.cons rfl (fun K hK => ?_) AllX.nil)
    go_simp
    refine Calls.mono (HKID.out v1 BW1.out) ?_
    rintro e v2 ⟨rfl, hb2⟩
    have XA2 := kide (XA1.out.later hb2)
    have XR2 := kide (XR1.out.later hb2)
    have XN2 := kide (XN1.out.later hb2)
    have BW2 := kide (BW1.out.trans (hb2.mono BW1.out.size))
    clear hb2
    have hs2 : Hid ((fun z => S7 u.heap.size op vr A B bw wa wl wc ka kl kc z) v2) := ⟨XA2.out.cell 0, XA2.out.cell 1, XA2.out.cell 2, XA2.out.cell 3, XA2.out.cell 4, XA2.out.cell 5, XA2.out.cell 6⟩
    refine hK _ _ (Sx.behind (by kernel_rfl) hs2.out) ?_
    clear hK K
    try go_simp
    refine wpAnyX_ready (rs := [5]) (by kernel_rfl) (by simp) (AllX.cons rfl (fun K hK => ?_) AllX.nil)
    go_simp
    refine Calls.mono (HOP.out v2 BW2.out) ?_
    rintro e v3 ⟨a5, c5, rfl, hf3, hb3⟩
    have XA3 := kide (XA2.out.later hb3)
    have XR3 := kide (XR2.out.later hb3)
    have XN3 := kide (XN2.out.later hb3)
    have BW3 := kide (BW2.out.trans (hb3.mono BW2.out.size))
    have NW3 := kide ((Fresh.nwE hf3).mono (lo' := u.heap.size) BW2.out.size)
    clear hb3 hf3
    have hs3 : Hid ((fun z => S7 u.heap.size op vr A B bw wa wl wc ka kl kc z) v3) := ⟨XA3.out.cell 0, XA3.out.cell 1, XA3.out.cell 2, XA3.out.cell 3, XA3.out.cell 4, XA3.out.cell 5, XA3.out.cell 6⟩
    refine hK _ _ (Sx.behind (by kernel_rfl) hs3.out) ?_
    clear hK K
    try go_simp
    refine wpAnyX_both (T := fun z => S7 u.heap.size op vr A B bw wa wl wc ka kl kc z) (i := 6) (v := Value.tuple #[Value.agg #[Value.int .i64 R.1, Value.slice a5 R.2.1.length c5], Value.bool R.2.2]) rfl (by kernel_rfl) (by kernel_rfl) (by kernel_rfl) (fun _ _ _ h => by first | exact h | exact h.elim | cases h.1) (by decide) (fun _ h => h.elim) (fun _ h => h) (Sx.behind (by kernel_rfl) hs3.out) (Or.inl ⟨by rfl, fun z hz => by obtain ⟨e0, e1, e2, e3, e4, e5, e6⟩ := hz; go_simp⟩) ?_
    try go_simp
    refine wpAnyX_both (T := fun z => S7 u.heap.size op vr A B bw wa wl wc ka kl kc z) (i := 7) (v := Value.agg #[Value.int .i64 R.1, Value.slice a5 R.2.1.length c5]) rfl (by kernel_rfl) (by kernel_rfl) (by kernel_rfl) (fun _ _ _ h => by first | exact h | exact h.elim | cases h.1) (by decide) (fun _ h => h.elim) (fun _ h => h) (Sx.behind (by kernel_rfl) hs3.out) (Or.inl ⟨by rfl, fun z hz => by obtain ⟨e0, e1, e2, e3, e4, e5, e6⟩ := hz; go_simp⟩) ?_
    try go_simp
    refine wpAnyX_both (T := fun z => S7 u.heap.size op vr A B bw wa wl wc ka kl kc z) (i := 8) (v := Value.bool R.2.2) rfl (by kernel_rfl) (by kernel_rfl) (by kernel_rfl) (fun _ _ _ h => by first | exact h | exact h.elim | cases h.1) (by decide) (fun _ h => h.elim) (fun _ h => h) (Sx.behind (by kernel_rfl) hs3.out) (Or.inl ⟨by rfl, fun z hz => by obtain ⟨e0, e1, e2, e3, e4, e5, e6⟩ := hz; go_simp⟩) ?_
    try go_simp
    refine wpAnyX_ready (rs := [10]) (by kernel_rfl) (by simp) (AllX.cons rfl (fun K hK => ?_) AllX.nil)
    have e8 := XN3.out.cell 0
    have e9 := XN3.out.cell 1
    have f8 := XN3.out.froz 0
    have f9 := XN3.out.froz 1
    simp at e8 e9
    go_simp
    have XN4 : Hid (Bz ((v3.setCell ⟨bN, 0, none⟩ (Value.int .i64 R.1)).setCell ⟨bN, 1, none⟩ (Value.slice a5 R.2.1.length c5)) bN #[Value.int .i64 R.1, Value.slice a5 R.2.1.length c5] 61) := (XN3.out.set 0 _).set 1 _
    have XA4 : Hid (Bz ((v3.setCell ⟨bN, 0, none⟩ (Value.int .i64 R.1)).setCell ⟨bN, 1, none⟩ (Value.slice a5 R.2.1.length c5)) (u.heap.size) #[Value.int .i64 op, Value.int .i64 vr, Value.int .i64 A, Value.int .i64 B, Value.int .i64 bw, Value.slice wa wl wc, Value.slice ka kl kc] 63) := (XA3.out.other (by have := hNbN.out; omega) 0 _).other (by have := hNbN.out; omega) 1 _
    have XR4 : Hid (Bz ((v3.setCell ⟨bN, 0, none⟩ (Value.int .i64 R.1)).setCell ⟨bN, 1, none⟩ (Value.slice a5 R.2.1.length c5)) (u.heap.size + 1) #[Value.int .i64 0, Value.slice none 0 0] 61) := (XR3.out.other (by have := hNbN.out; omega) 0 _).other (by have := hNbN.out; omega) 1 _
    have BW4 : Hid (Below u.heap.size u ((v3.setCell ⟨bN, 0, none⟩ (Value.int .i64 R.1)).setCell ⟨bN, 1, none⟩ (Value.slice a5 R.2.1.length c5))) := (BW3.out.setCell (show u.heap.size ≤ bN by have := hNbN.out; omega) _).setCell (show u.heap.size ≤ bN by have := hNbN.out; omega) _
    have NW4 : Hid (Nw ((v3.setCell ⟨bN, 0, none⟩ (Value.int .i64 R.1)).setCell ⟨bN, 1, none⟩ (Value.slice a5 R.2.1.length c5)) u.heap.size a5 R.2.1) := ((NW3.out.set XN3.out (by decide) 0 _).set (XN3.out.set 0 _) (by decide) 1 _)
    generalize (v3.setCell ⟨bN, 0, none⟩ (Value.int .i64 R.1)).setCell ⟨bN, 1, none⟩ (Value.slice a5 R.2.1.length c5) = v4 at *
    clear e8 e9 f8 f9
    have hs4 : Hid ((fun z => S7 u.heap.size op vr A B bw wa wl wc ka kl kc z) v4) := ⟨XA4.out.cell 0, XA4.out.cell 1, XA4.out.cell 2, XA4.out.cell 3, XA4.out.cell 4, XA4.out.cell 5, XA4.out.cell 6⟩
    refine hK _ _ (Sx.behind (by kernel_rfl) hs4.out) ?_
    clear hK K
    try go_simp
    refine wpAnyX_both (T := fun z => S7 u.heap.size op vr A B bw wa wl wc ka kl kc z) (i := 11) (v := Value.bool R.2.2) rfl (by kernel_rfl) (by kernel_rfl) (by kernel_rfl) (fun _ _ _ h => by first | exact h | exact h.elim | cases h.1) (by decide) (fun _ h => h.elim) (fun _ h => h) (Sx.behind (by kernel_rfl) hs4.out) (Or.inl ⟨by rfl, fun z hz => by obtain ⟨e0, e1, e2, e3, e4, e5, e6⟩ := hz; go_simp⟩) ?_
    try go_simp
    refine wpAnyX_done (by kernel_rfl) ?_ _
    have q0 := XN4.out.cell 0
    have q1 := XN4.out.cell 1
    have r0 := XR4.out.cell 0
    have r1 := XR4.out.cell 1
    have f0 := XR4.out.froz 0
    have f1 := XR4.out.froz 1
    simp at q0 q1 r0 r1
    go_wp2_with fail
    obtain ⟨y0, y1⟩ := ((Bz.blk XR4.out).put0' (.int .i64 R.1)).put1' (.slice a5 R.2.1.length c5) |>.cells
    exact bodyPost_ret (v := Value.agg #[Value.int .i64 R.1, Value.slice a5 R.2.1.length c5]) (by simp [results, Tryz.results134, go_sem, y0, y1]) rfl (RetV.box (Bz.blk XR4.out) NW4.out (Nat.le_refl _) (Nat.le_succ _) BW4.out)

set_option maxHeartbeats 4000000 in
set_option maxRecDepth 100000 in
theorem evLeft_any (eb : Nat) (vs l : List Bw) (n : Tc) (wa ka : Option Addr) (wc kc : Nat) (u : World) (hE : Evl u eb vs l) (hk : RdI u ka n.ks) (h1 : n.ks.length = 1) (j : Nat) (x : Bw) (hj : n.ks.getD 0 0 = (j : Int)) (hx : l[j]? = some x) :
    Calls Tryz.prog 135 #[.pointer (some ⟨eb, 0, none⟩), nodA n wa ka wc kc] u (RetV u (two (turnR x.wd x.ws n.a))) := by
  have HKID := kide (fun v (hv : Below u.heap.size u v) => kid_any eb vs l n wa ka wc kc v (hE.later hv) (hk.later hv) h1 j x hj hx)
  have hxr : Rd u x.a x.ws := by
    obtain ⟨aa, ac, -, ha⟩ := hE.ahd
    obtain ⟨-, h | ⟨ab, ao, rfl, hac⟩⟩ := ha
    · rw [h] at hx; simp at hx
    exact (hac j x hx).2.2.1
  have HOP := kide (fun v (hv : Below u.heap.size u v) => implTurn_any x.wd x.a x.c x.ws n.a v (hxr.later hv))
  generalize hR : turnR x.wd x.ws n.a = R at *
  clear hR hE hk hj hx hxr h1
  obtain ⟨op, vr, A, B, bw, ws, ks⟩ := n
  obtain ⟨wd, xa, xc, xs⟩ := x
  simp only [nodA, RetB] at *
  generalize ws.length = wl at *
  generalize ks.length = kl at *
  generalize xs.length = xl at *
  have XA : Hid (Bz ((u.alloc (Obj.cells #[Value.int .i64 op, Value.int .i64 vr, Value.int .i64 A, Value.int .i64 B, Value.int .i64 bw, Value.slice wa wl wc, Value.slice ka kl kc] 63)).alloc (Obj.cells #[Value.int .i64 0, Value.slice none 0 0] 61)) u.heap.size #[Value.int .i64 op, Value.int .i64 vr, Value.int .i64 A, Value.int .i64 B, Value.int .i64 bw, Value.slice wa wl wc, Value.slice ka kl kc] 63) := (Bz.new u #[Value.int .i64 op, Value.int .i64 vr, Value.int .i64 A, Value.int .i64 B, Value.int .i64 bw, Value.slice wa wl wc, Value.slice ka kl kc] 63).later ((Below.refl _ _).alloc (Nat.le_refl _) _)
  have XR : Hid (Bz ((u.alloc (Obj.cells #[Value.int .i64 op, Value.int .i64 vr, Value.int .i64 A, Value.int .i64 B, Value.int .i64 bw, Value.slice wa wl wc, Value.slice ka kl kc] 63)).alloc (Obj.cells #[Value.int .i64 0, Value.slice none 0 0] 61)) (u.heap.size + 1) #[Value.int .i64 0, Value.slice none 0 0] 61) := by
    have := Bz.new (u.alloc (Obj.cells #[Value.int .i64 op, Value.int .i64 vr, Value.int .i64 A, Value.int .i64 B, Value.int .i64 bw, Value.slice wa wl wc, Value.slice ka kl kc] 63)) #[Value.int .i64 0, Value.slice none 0 0] 61
    rw [World.size_alloc] at this
    exact this
  have BW : Hid (Below u.heap.size u ((u.alloc (Obj.cells #[Value.int .i64 op, Value.int .i64 vr, Value.int .i64 A, Value.int .i64 B, Value.int .i64 bw, Value.slice wa wl wc, Value.slice ka kl kc] 63)).alloc (Obj.cells #[Value.int .i64 0, Value.slice none 0 0] 61))) := Ba (Ba (Below.refl _ _) _) _
  go_enter Tryz.func135, Tryz.ntmps135
  go_wp2_with fail
  generalize ((u.alloc (Obj.cells #[Value.int .i64 op, Value.int .i64 vr, Value.int .i64 A, Value.int .i64 B, Value.int .i64 bw, Value.slice wa wl wc, Value.slice ka kl kc] 63)).alloc (Obj.cells #[Value.int .i64 0, Value.slice none 0 0] 61)) = w1 at *
  refine wp_region_x (SA := fun _ => False) (SB := fun z => S7 u.heap.size op vr A B bw wa wl wc ka kl kc z) (k := 999) (by kernel_rfl) ?_
  have hbd : Below w1.heap.size w1 w1.drew := (Below.refl _ _).drew
  have XA0 := kide (XA.out.later hbd)
  have XR0 := kide (XR.out.later hbd)
  have BW0 := kide (BW.out.drew)
  clear hbd XA XR BW
  generalize w1.drew = v0 at *
  have hs0 : Hid ((fun z => S7 u.heap.size op vr A B bw wa wl wc ka kl kc z) v0) := ⟨XA0.out.cell 0, XA0.out.cell 1, XA0.out.cell 2, XA0.out.cell 3, XA0.out.cell 4, XA0.out.cell 5, XA0.out.cell 6⟩
  try go_simp
  refine wpAnyX_both (T := fun z => S7 u.heap.size op vr A B bw wa wl wc ka kl kc z) (i := 0) (v := Value.pointer (some ⟨eb, 0, none⟩)) rfl (by kernel_rfl) (by kernel_rfl) (by kernel_rfl) (fun _ _ _ h => by first | exact h | exact h.elim | cases h.1) (by decide) (fun _ h => h.elim) (fun _ h => h) (Sx.behind (by kernel_rfl) hs0.out) (Or.inl ⟨by rfl, fun z hz => by obtain ⟨e0, e1, e2, e3, e4, e5, e6⟩ := hz; go_simp⟩) ?_
  try go_simp
  refine wpAnyX_both (T := fun z => S7 u.heap.size op vr A B bw wa wl wc ka kl kc z) (i := 1) (v := Value.agg #[Value.int .i64 op, Value.int .i64 vr, Value.int .i64 A, Value.int .i64 B, Value.int .i64 bw, Value.slice wa wl wc, Value.slice ka kl kc]) rfl (by kernel_rfl) (by kernel_rfl) (by kernel_rfl) (fun _ _ _ h => by first | exact h | exact h.elim | cases h.1) (by decide) (fun _ h => h.elim) (fun _ h => h) (Sx.behind (by kernel_rfl) hs0.out) (Or.inl ⟨by rfl, fun z hz => by obtain ⟨e0, e1, e2, e3, e4, e5, e6⟩ := hz; go_simp⟩) ?_
  try go_simp
  refine wpAnyX_both (T := fun z => S7 u.heap.size op vr A B bw wa wl wc ka kl kc z) (i := 3) (v := Value.pointer (some ⟨u.heap.size, 2, none⟩)) rfl (by kernel_rfl) (by kernel_rfl) (by kernel_rfl) (fun _ _ _ h => by first | exact h | exact h.elim | cases h.1) (by decide) (fun _ h => h.elim) (fun _ h => h) (Sx.behind (by kernel_rfl) hs0.out) (Or.inl ⟨by rfl, fun z hz => by obtain ⟨e0, e1, e2, e3, e4, e5, e6⟩ := hz; go_simp⟩) ?_
  try go_simp
  refine wpAnyX_both (T := fun z => S7 u.heap.size op vr A B bw wa wl wc ka kl kc z) (i := 4) (v := Value.int .i64 A) rfl (by kernel_rfl) (by kernel_rfl) (by kernel_rfl) (fun _ _ _ h => by first | exact h | exact h.elim | cases h.1) (by decide) (fun _ h => h.elim) (fun _ h => h) (Sx.behind (by kernel_rfl) hs0.out) (Or.inl ⟨by rfl, fun z hz => by obtain ⟨e0, e1, e2, e3, e4, e5, e6⟩ := hz; go_simp⟩) ?_
  try go_simp
  refine wpAnyX_ready (rs := [2, 9]) (by kernel_rfl) (by simp) (AllX.cons rfl (fun K hK => ?_) (AllX.cons rfl (fun K hK => ?_) AllX.nil))
  · go_simp
    refine Calls.mono (HKID.out v0 BW0.out) ?_
    rintro e v1 ⟨rfl, hb1⟩
    have XA1 := kide (XA0.out.later hb1)
    have XR1 := kide (XR0.out.later hb1)
    have BW1 := kide (BW0.out.trans (hb1.mono BW0.out.size))
    clear hb1
    have hs1 : Hid ((fun z => S7 u.heap.size op vr A B bw wa wl wc ka kl kc z) v1) := ⟨XA1.out.cell 0, XA1.out.cell 1, XA1.out.cell 2, XA1.out.cell 3, XA1.out.cell 4, XA1.out.cell 5, XA1.out.cell 6⟩
    refine hK _ _ (Sx.behind (by kernel_rfl) hs1.out) ?_
    clear hK K
    try go_simp
    refine wpAnyX_ready (rs := [5, 9]) (by kernel_rfl) (by simp) (AllX.cons rfl (fun K hK => ?_) (AllX.cons rfl (fun K hK => ?_) AllX.nil))
    · go_simp
      refine Calls.mono (HOP.out v1 BW1.out) ?_
      rintro e v2 ⟨a5, c5, rfl, hf2, hb2⟩
      have XA2 := kide (XA1.out.later hb2)
      have XR2 := kide (XR1.out.later hb2)
      have BW2 := kide (BW1.out.trans (hb2.mono BW1.out.size))
      have NW2 := kide ((Fresh.nwE hf2).mono (lo' := u.heap.size) BW1.out.size)
      clear hb2 hf2
      have hs2 : Hid ((fun z => S7 u.heap.size op vr A B bw wa wl wc ka kl kc z) v2) := ⟨XA2.out.cell 0, XA2.out.cell 1, XA2.out.cell 2, XA2.out.cell 3, XA2.out.cell 4, XA2.out.cell 5, XA2.out.cell 6⟩
      refine hK _ _ (Sx.behind (by kernel_rfl) hs2.out) ?_
      clear hK K
      try go_simp
      refine wpAnyX_both (T := fun z => S7 u.heap.size op vr A B bw wa wl wc ka kl kc z) (i := 6) (v := Value.tuple #[Value.agg #[Value.int .i64 R.1, Value.slice a5 R.2.1.length c5], Value.bool R.2.2]) rfl (by kernel_rfl) (by kernel_rfl) (by kernel_rfl) (fun _ _ _ h => by first | exact h | exact h.elim | cases h.1) (by decide) (fun _ h => h.elim) (fun _ h => h) (Sx.behind (by kernel_rfl) hs2.out) (Or.inl ⟨by rfl, fun z hz => by obtain ⟨e0, e1, e2, e3, e4, e5, e6⟩ := hz; go_simp⟩) ?_
      try go_simp
      refine wpAnyX_both (T := fun z => S7 u.heap.size op vr A B bw wa wl wc ka kl kc z) (i := 7) (v := Value.agg #[Value.int .i64 R.1, Value.slice a5 R.2.1.length c5]) rfl (by kernel_rfl) (by kernel_rfl) (by kernel_rfl) (fun _ _ _ h => by first | exact h | exact h.elim | cases h.1) (by decide) (fun _ h => h.elim) (fun _ h => h) (Sx.behind (by kernel_rfl) hs2.out) (Or.inl ⟨by rfl, fun z hz => by obtain ⟨e0, e1, e2, e3, e4, e5, e6⟩ := hz; go_simp⟩) ?_
      try go_simp
      refine wpAnyX_both (T := fun z => S7 u.heap.size op vr A B bw wa wl wc ka kl kc z) (i := 8) (v := Value.bool R.2.2) rfl (by kernel_rfl) (by kernel_rfl) (by kernel_rfl) (fun _ _ _ h => by first | exact h | exact h.elim | cases h.1) (by decide) (fun _ h => h.elim) (fun _ h => h) (Sx.behind (by kernel_rfl) hs2.out) (Or.inl ⟨by rfl, fun z hz => by obtain ⟨e0, e1, e2, e3, e4, e5, e6⟩ := hz; go_simp⟩) ?_
      try go_simp
      refine wpAnyX_ready (rs := [9]) (by kernel_rfl) (by simp) (AllX.cons rfl (fun K hK => ?_) AllX.nil)
      go_simp
      have hbx : Below v2.heap.size v2 (v2.alloc (Obj.cells #[Value.int .i64 0, Value.slice none 0 0] 61)) := (Below.refl _ _).alloc (Nat.le_refl _) _
      have XA3 := kide (XA2.out.later hbx)
      have XR3 := kide (XR2.out.later hbx)
      have BW3 := kide (BW2.out.trans (hbx.mono BW2.out.size))
      have NW3 := kide (NW2.out.later hbx)
      have XN3 := kide (Bz.new v2 #[Value.int .i64 0, Value.slice none 0 0] 61)
      have hNbN : Hid (u.heap.size + 2 ≤ v2.heap.size) := by have := XR2.out.lt; show _ ≤ _; omega
      obtain ⟨bN, hbbN⟩ : ∃ x, v2.heap.size = x := ⟨_, rfl⟩
      rw [hbbN] at XN3 hNbN ⊢
      clear hbbN hbx
      generalize v2.alloc (Obj.cells #[Value.int .i64 0, Value.slice none 0 0] 61) = v3 at *
      have hs3 : Hid ((fun z => S7 u.heap.size op vr A B bw wa wl wc ka kl kc z) v3) := ⟨XA3.out.cell 0, XA3.out.cell 1, XA3.out.cell 2, XA3.out.cell 3, XA3.out.cell 4, XA3.out.cell 5, XA3.out.cell 6⟩
      refine hK _ _ (Sx.behind (by kernel_rfl) hs3.out) ?_
      clear hK K
      try go_simp
      refine wpAnyX_ready (rs := [10]) (by kernel_rfl) (by simp) (AllX.cons rfl (fun K hK => ?_) AllX.nil)
      have e8 := XN3.out.cell 0
      have e9 := XN3.out.cell 1
      have f8 := XN3.out.froz 0
      have f9 := XN3.out.froz 1
      simp at e8 e9
      go_simp
      have XN4 : Hid (Bz ((v3.setCell ⟨bN, 0, none⟩ (Value.int .i64 R.1)).setCell ⟨bN, 1, none⟩ (Value.slice a5 R.2.1.length c5)) bN #[Value.int .i64 R.1, Value.slice a5 R.2.1.length c5] 61) := (XN3.out.set 0 _).set 1 _
      have XA4 : Hid (Bz ((v3.setCell ⟨bN, 0, none⟩ (Value.int .i64 R.1)).setCell ⟨bN, 1, none⟩ (Value.slice a5 R.2.1.length c5)) (u.heap.size) #[Value.int .i64 op, Value.int .i64 vr, Value.int .i64 A, Value.int .i64 B, Value.int .i64 bw, Value.slice wa wl wc, Value.slice ka kl kc] 63) := (XA3.out.other (by have := hNbN.out; omega) 0 _).other (by have := hNbN.out; omega) 1 _
      have XR4 : Hid (Bz ((v3.setCell ⟨bN, 0, none⟩ (Value.int .i64 R.1)).setCell ⟨bN, 1, none⟩ (Value.slice a5 R.2.1.length c5)) (u.heap.size + 1) #[Value.int .i64 0, Value.slice none 0 0] 61) := (XR3.out.other (by have := hNbN.out; omega) 0 _).other (by have := hNbN.out; omega) 1 _
      have BW4 : Hid (Below u.heap.size u ((v3.setCell ⟨bN, 0, none⟩ (Value.int .i64 R.1)).setCell ⟨bN, 1, none⟩ (Value.slice a5 R.2.1.length c5))) := (BW3.out.setCell (show u.heap.size ≤ bN by have := hNbN.out; omega) _).setCell (show u.heap.size ≤ bN by have := hNbN.out; omega) _
      have NW4 : Hid (Nw ((v3.setCell ⟨bN, 0, none⟩ (Value.int .i64 R.1)).setCell ⟨bN, 1, none⟩ (Value.slice a5 R.2.1.length c5)) u.heap.size a5 R.2.1) := ((NW3.out.set XN3.out (by decide) 0 _).set (XN3.out.set 0 _) (by decide) 1 _)
      generalize (v3.setCell ⟨bN, 0, none⟩ (Value.int .i64 R.1)).setCell ⟨bN, 1, none⟩ (Value.slice a5 R.2.1.length c5) = v4 at *
      clear e8 e9 f8 f9
      have hs4 : Hid ((fun z => S7 u.heap.size op vr A B bw wa wl wc ka kl kc z) v4) := ⟨XA4.out.cell 0, XA4.out.cell 1, XA4.out.cell 2, XA4.out.cell 3, XA4.out.cell 4, XA4.out.cell 5, XA4.out.cell 6⟩
      refine hK _ _ (Sx.behind (by kernel_rfl) hs4.out) ?_
      clear hK K
      try go_simp
      refine wpAnyX_both (T := fun z => S7 u.heap.size op vr A B bw wa wl wc ka kl kc z) (i := 11) (v := Value.bool R.2.2) rfl (by kernel_rfl) (by kernel_rfl) (by kernel_rfl) (fun _ _ _ h => by first | exact h | exact h.elim | cases h.1) (by decide) (fun _ h => h.elim) (fun _ h => h) (Sx.behind (by kernel_rfl) hs4.out) (Or.inl ⟨by rfl, fun z hz => by obtain ⟨e0, e1, e2, e3, e4, e5, e6⟩ := hz; go_simp⟩) ?_
      try go_simp
      refine wpAnyX_done (by kernel_rfl) ?_ _
      have q0 := XN4.out.cell 0
      have q1 := XN4.out.cell 1
      have r0 := XR4.out.cell 0
      have r1 := XR4.out.cell 1
      have f0 := XR4.out.froz 0
      have f1 := XR4.out.froz 1
      simp at q0 q1 r0 r1
      go_wp2_with fail
      obtain ⟨y0, y1⟩ := ((Bz.blk XR4.out).put0' (.int .i64 R.1)).put1' (.slice a5 R.2.1.length c5) |>.cells
      exact bodyPost_ret (v := Value.agg #[Value.int .i64 R.1, Value.slice a5 R.2.1.length c5]) (by simp [results, Tryz.results135, go_sem, y0, y1]) rfl (RetV.box (Bz.blk XR4.out) NW4.out (Nat.le_refl _) (Nat.le_succ _) BW4.out)
    · go_simp
      have hbx : Below v1.heap.size v1 (v1.alloc (Obj.cells #[Value.int .i64 0, Value.slice none 0 0] 61)) := (Below.refl _ _).alloc (Nat.le_refl _) _
      have XA2 := kide (XA1.out.later hbx)
      have XR2 := kide (XR1.out.later hbx)
      have BW2 := kide (BW1.out.trans (hbx.mono BW1.out.size))
      have XN2 := kide (Bz.new v1 #[Value.int .i64 0, Value.slice none 0 0] 61)
      have hNbN : Hid (u.heap.size + 2 ≤ v1.heap.size) := by have := XR1.out.lt; show _ ≤ _; omega
      obtain ⟨bN, hbbN⟩ : ∃ x, v1.heap.size = x := ⟨_, rfl⟩
      rw [hbbN] at XN2 hNbN ⊢
      clear hbbN hbx
      generalize v1.alloc (Obj.cells #[Value.int .i64 0, Value.slice none 0 0] 61) = v2 at *
      have hs2 : Hid ((fun z => S7 u.heap.size op vr A B bw wa wl wc ka kl kc z) v2) := ⟨XA2.out.cell 0, XA2.out.cell 1, XA2.out.cell 2, XA2.out.cell 3, XA2.out.cell 4, XA2.out.cell 5, XA2.out.cell 6⟩
      refine hK _ _ (Sx.behind (by kernel_rfl) hs2.out) ?_
      clear hK K
      try go_simp
      refine wpAnyX_ready (rs := [5]) (by kernel_rfl) (by simp) (AllX.cons rfl (fun K hK => ?_) AllX.nil)
      go_simp
      refine Calls.mono (HOP.out v2 BW2.out) ?_
      rintro e v3 ⟨a5, c5, rfl, hf3, hb3⟩
      have XA3 := kide (XA2.out.later hb3)
      have XR3 := kide (XR2.out.later hb3)
      have XN3 := kide (XN2.out.later hb3)
      have BW3 := kide (BW2.out.trans (hb3.mono BW2.out.size))
      have NW3 := kide ((Fresh.nwE hf3).mono (lo' := u.heap.size) BW2.out.size)
      clear hb3 hf3
      have hs3 : Hid ((fun z => S7 u.heap.size op vr A B bw wa wl wc ka kl kc z) v3) := ⟨XA3.out.cell 0, XA3.out.cell 1, XA3.out.cell 2, XA3.out.cell 3, XA3.out.cell 4, XA3.out.cell 5, XA3.out.cell 6⟩
      refine hK _ _ (Sx.behind (by kernel_rfl) hs3.out) ?_
      clear hK K
      try go_simp
      refine wpAnyX_both (T := fun z => S7 u.heap.size op vr A B bw wa wl wc ka kl kc z) (i := 6) (v := Value.tuple #[Value.agg #[Value.int .i64 R.1, Value.slice a5 R.2.1.length c5], Value.bool R.2.2]) rfl (by kernel_rfl) (by kernel_rfl) (by kernel_rfl) (fun _ _ _ h => by first | exact h | exact h.elim | cases h.1) (by decide) (fun _ h => h.elim) (fun _ h => h) (Sx.behind (by kernel_rfl) hs3.out) (Or.inl ⟨by rfl, fun z hz => by obtain ⟨e0, e1, e2, e3, e4, e5, e6⟩ := hz; go_simp⟩) ?_
      try go_simp
      refine wpAnyX_both (T := fun z => S7 u.heap.size op vr A B bw wa wl wc ka kl kc z) (i := 7) (v := Value.agg #[Value.int .i64 R.1, Value.slice a5 R.2.1.length c5]) rfl (by kernel_rfl) (by kernel_rfl) (by kernel_rfl) (fun _ _ _ h => by first | exact h | exact h.elim | cases h.1) (by decide) (fun _ h => h.elim) (fun _ h => h) (Sx.behind (by kernel_rfl) hs3.out) (Or.inl ⟨by rfl, fun z hz => by obtain ⟨e0, e1, e2, e3, e4, e5, e6⟩ := hz; go_simp⟩) ?_
      try go_simp
      refine wpAnyX_both (T := fun z => S7 u.heap.size op vr A B bw wa wl wc ka kl kc z) (i := 8) (v := Value.bool R.2.2) rfl (by kernel_rfl) (by kernel_rfl) (by kernel_rfl) (fun _ _ _ h => by first | exact h | exact h.elim | cases h.1) (by decide) (fun _ h => h.elim) (fun _ h => h) (Sx.behind (by kernel_rfl) hs3.out) (Or.inl ⟨by rfl, fun z hz => by obtain ⟨e0, e1, e2, e3, e4, e5, e6⟩ := hz; go_simp⟩) ?_
      try go_simp
      refine wpAnyX_ready (rs := [10]) (by kernel_rfl) (by simp) (AllX.cons rfl (fun K hK => ?_) AllX.nil)
      have e8 := XN3.out.cell 0
      have e9 := XN3.out.cell 1
      have f8 := XN3.out.froz 0
      have f9 := XN3.out.froz 1
      simp at e8 e9
      go_simp
      have XN4 : Hid (Bz ((v3.setCell ⟨bN, 0, none⟩ (Value.int .i64 R.1)).setCell ⟨bN, 1, none⟩ (Value.slice a5 R.2.1.length c5)) bN #[Value.int .i64 R.1, Value.slice a5 R.2.1.length c5] 61) := (XN3.out.set 0 _).set 1 _
      have XA4 : Hid (Bz ((v3.setCell ⟨bN, 0, none⟩ (Value.int .i64 R.1)).setCell ⟨bN, 1, none⟩ (Value.slice a5 R.2.1.length c5)) (u.heap.size) #[Value.int .i64 op, Value.int .i64 vr, Value.int .i64 A, Value.int .i64 B, Value.int .i64 bw, Value.slice wa wl wc, Value.slice ka kl kc] 63) := (XA3.out.other (by have := hNbN.out; omega) 0 _).other (by have := hNbN.out; omega) 1 _
      have XR4 : Hid (Bz ((v3.setCell ⟨bN, 0, none⟩ (Value.int .i64 R.1)).setCell ⟨bN, 1, none⟩ (Value.slice a5 R.2.1.length c5)) (u.heap.size + 1) #[Value.int .i64 0, Value.slice none 0 0] 61) := (XR3.out.other (by have := hNbN.out; omega) 0 _).other (by have := hNbN.out; omega) 1 _
      have BW4 : Hid (Below u.heap.size u ((v3.setCell ⟨bN, 0, none⟩ (Value.int .i64 R.1)).setCell ⟨bN, 1, none⟩ (Value.slice a5 R.2.1.length c5))) := (BW3.out.setCell (show u.heap.size ≤ bN by have := hNbN.out; omega) _).setCell (show u.heap.size ≤ bN by have := hNbN.out; omega) _
      have NW4 : Hid (Nw ((v3.setCell ⟨bN, 0, none⟩ (Value.int .i64 R.1)).setCell ⟨bN, 1, none⟩ (Value.slice a5 R.2.1.length c5)) u.heap.size a5 R.2.1) := ((NW3.out.set XN3.out (by decide) 0 _).set (XN3.out.set 0 _) (by decide) 1 _)
      generalize (v3.setCell ⟨bN, 0, none⟩ (Value.int .i64 R.1)).setCell ⟨bN, 1, none⟩ (Value.slice a5 R.2.1.length c5) = v4 at *
      clear e8 e9 f8 f9
      have hs4 : Hid ((fun z => S7 u.heap.size op vr A B bw wa wl wc ka kl kc z) v4) := ⟨XA4.out.cell 0, XA4.out.cell 1, XA4.out.cell 2, XA4.out.cell 3, XA4.out.cell 4, XA4.out.cell 5, XA4.out.cell 6⟩
      refine hK _ _ (Sx.behind (by kernel_rfl) hs4.out) ?_
      clear hK K
      try go_simp
      refine wpAnyX_both (T := fun z => S7 u.heap.size op vr A B bw wa wl wc ka kl kc z) (i := 11) (v := Value.bool R.2.2) rfl (by kernel_rfl) (by kernel_rfl) (by kernel_rfl) (fun _ _ _ h => by first | exact h | exact h.elim | cases h.1) (by decide) (fun _ h => h.elim) (fun _ h => h) (Sx.behind (by kernel_rfl) hs4.out) (Or.inl ⟨by rfl, fun z hz => by obtain ⟨e0, e1, e2, e3, e4, e5, e6⟩ := hz; go_simp⟩) ?_
      try go_simp
      refine wpAnyX_done (by kernel_rfl) ?_ _
      have q0 := XN4.out.cell 0
      have q1 := XN4.out.cell 1
      have r0 := XR4.out.cell 0
      have r1 := XR4.out.cell 1
      have f0 := XR4.out.froz 0
      have f1 := XR4.out.froz 1
      simp at q0 q1 r0 r1
      go_wp2_with fail
      obtain ⟨y0, y1⟩ := ((Bz.blk XR4.out).put0' (.int .i64 R.1)).put1' (.slice a5 R.2.1.length c5) |>.cells
      exact bodyPost_ret (v := Value.agg #[Value.int .i64 R.1, Value.slice a5 R.2.1.length c5]) (by simp [results, Tryz.results135, go_sem, y0, y1]) rfl (RetV.box (Bz.blk XR4.out) NW4.out (Nat.le_refl _) (Nat.le_succ _) BW4.out)
  · go_simp
    have hbx : Below v0.heap.size v0 (v0.alloc (Obj.cells #[Value.int .i64 0, Value.slice none 0 0] 61)) := (Below.refl _ _).alloc (Nat.le_refl _) _
    have XA1 := kide (XA0.out.later hbx)
    have XR1 := kide (XR0.out.later hbx)
    have BW1 := kide (BW0.out.trans (hbx.mono BW0.out.size))
    have XN1 := kide (Bz.new v0 #[Value.int .i64 0, Value.slice none 0 0] 61)
    have hNbN : Hid (u.heap.size + 2 ≤ v0.heap.size) := by have := XR0.out.lt; show _ ≤ _; omega
    obtain ⟨bN, hbbN⟩ : ∃ x, v0.heap.size = x := ⟨_, rfl⟩
    rw [hbbN] at XN1 hNbN ⊢
    clear hbbN hbx
    generalize v0.alloc (Obj.cells #[Value.int .i64 0, Value.slice none 0 0] 61) = v1 at *
    have hs1 : Hid ((fun z => S7 u.heap.size op vr A B bw wa wl wc ka kl kc z) v1) := ⟨XA1.out.cell 0, XA1.out.cell 1, XA1.out.cell 2, XA1.out.cell 3, XA1.out.cell 4, XA1.out.cell 5, XA1.out.cell 6⟩
    refine hK _ _ (Sx.behind (by kernel_rfl) hs1.out) ?_
    clear hK K
    try go_simp
    refine wpAnyX_ready (rs := [2]) (by kernel_rfl) (by simp) (AllX.cons rfl (fun K hK => ?_) AllX.nil)
    go_simp
    refine Calls.mono (HKID.out v1 BW1.out) ?_
    rintro e v2 ⟨rfl, hb2⟩
    have XA2 := kide (XA1.out.later hb2)
    have XR2 := kide (XR1.out.later hb2)
    have XN2 := kide (XN1.out.later hb2)
    have BW2 := kide (BW1.out.trans (hb2.mono BW1.out.size))
    clear hb2
    have hs2 : Hid ((fun z => S7 u.heap.size op vr A B bw wa wl wc ka kl kc z) v2) := ⟨XA2.out.cell 0, XA2.out.cell 1, XA2.out.cell 2, XA2.out.cell 3, XA2.out.cell 4, XA2.out.cell 5, XA2.out.cell 6⟩
    refine hK _ _ (Sx.behind (by kernel_rfl) hs2.out) ?_
    clear hK K
    try go_simp
    refine wpAnyX_ready (rs := [5]) (by kernel_rfl) (by simp) (AllX.cons rfl (fun K hK => ?_) AllX.nil)
    go_simp
    refine Calls.mono (HOP.out v2 BW2.out) ?_
    rintro e v3 ⟨a5, c5, rfl, hf3, hb3⟩
    have XA3 := kide (XA2.out.later hb3)
    have XR3 := kide (XR2.out.later hb3)
    have XN3 := kide (XN2.out.later hb3)
    have BW3 := kide (BW2.out.trans (hb3.mono BW2.out.size))
    have NW3 := kide ((Fresh.nwE hf3).mono (lo' := u.heap.size) BW2.out.size)
    clear hb3 hf3
    have hs3 : Hid ((fun z => S7 u.heap.size op vr A B bw wa wl wc ka kl kc z) v3) := ⟨XA3.out.cell 0, XA3.out.cell 1, XA3.out.cell 2, XA3.out.cell 3, XA3.out.cell 4, XA3.out.cell 5, XA3.out.cell 6⟩
    refine hK _ _ (Sx.behind (by kernel_rfl) hs3.out) ?_
    clear hK K
    try go_simp
    refine wpAnyX_both (T := fun z => S7 u.heap.size op vr A B bw wa wl wc ka kl kc z) (i := 6) (v := Value.tuple #[Value.agg #[Value.int .i64 R.1, Value.slice a5 R.2.1.length c5], Value.bool R.2.2]) rfl (by kernel_rfl) (by kernel_rfl) (by kernel_rfl) (fun _ _ _ h => by first | exact h | exact h.elim | cases h.1) (by decide) (fun _ h => h.elim) (fun _ h => h) (Sx.behind (by kernel_rfl) hs3.out) (Or.inl ⟨by rfl, fun z hz => by obtain ⟨e0, e1, e2, e3, e4, e5, e6⟩ := hz; go_simp⟩) ?_
    try go_simp
    refine wpAnyX_both (T := fun z => S7 u.heap.size op vr A B bw wa wl wc ka kl kc z) (i := 7) (v := Value.agg #[Value.int .i64 R.1, Value.slice a5 R.2.1.length c5]) rfl (by kernel_rfl) (by kernel_rfl) (by kernel_rfl) (fun _ _ _ h => by first | exact h | exact h.elim | cases h.1) (by decide) (fun _ h => h.elim) (fun _ h => h) (Sx.behind (by kernel_rfl) hs3.out) (Or.inl ⟨by rfl, fun z hz => by obtain ⟨e0, e1, e2, e3, e4, e5, e6⟩ := hz; go_simp⟩) ?_
    try go_simp
    refine wpAnyX_both (T := fun z => S7 u.heap.size op vr A B bw wa wl wc ka kl kc z) (i := 8) (v := Value.bool R.2.2) rfl (by kernel_rfl) (by kernel_rfl) (by kernel_rfl) (fun _ _ _ h => by first | exact h | exact h.elim | cases h.1) (by decide) (fun _ h => h.elim) (fun _ h => h) (Sx.behind (by kernel_rfl) hs3.out) (Or.inl ⟨by rfl, fun z hz => by obtain ⟨e0, e1, e2, e3, e4, e5, e6⟩ := hz; go_simp⟩) ?_
    try go_simp
    refine wpAnyX_ready (rs := [10]) (by kernel_rfl) (by simp) (AllX.cons rfl (fun K hK => ?_) AllX.nil)
    have e8 := XN3.out.cell 0
    have e9 := XN3.out.cell 1
    have f8 := XN3.out.froz 0
    have f9 := XN3.out.froz 1
    simp at e8 e9
    go_simp
    have XN4 : Hid (Bz ((v3.setCell ⟨bN, 0, none⟩ (Value.int .i64 R.1)).setCell ⟨bN, 1, none⟩ (Value.slice a5 R.2.1.length c5)) bN #[Value.int .i64 R.1, Value.slice a5 R.2.1.length c5] 61) := (XN3.out.set 0 _).set 1 _
    have XA4 : Hid (Bz ((v3.setCell ⟨bN, 0, none⟩ (Value.int .i64 R.1)).setCell ⟨bN, 1, none⟩ (Value.slice a5 R.2.1.length c5)) (u.heap.size) #[Value.int .i64 op, Value.int .i64 vr, Value.int .i64 A, Value.int .i64 B, Value.int .i64 bw, Value.slice wa wl wc, Value.slice ka kl kc] 63) := (XA3.out.other (by have := hNbN.out; omega) 0 _).other (by have := hNbN.out; omega) 1 _
    have XR4 : Hid (Bz ((v3.setCell ⟨bN, 0, none⟩ (Value.int .i64 R.1)).setCell ⟨bN, 1, none⟩ (Value.slice a5 R.2.1.length c5)) (u.heap.size + 1) #[Value.int .i64 0, Value.slice none 0 0] 61) := (XR3.out.other (by have := hNbN.out; omega) 0 _).other (by have := hNbN.out; omega) 1 _
    have BW4 : Hid (Below u.heap.size u ((v3.setCell ⟨bN, 0, none⟩ (Value.int .i64 R.1)).setCell ⟨bN, 1, none⟩ (Value.slice a5 R.2.1.length c5))) := (BW3.out.setCell (show u.heap.size ≤ bN by have := hNbN.out; omega) _).setCell (show u.heap.size ≤ bN by have := hNbN.out; omega) _
    have NW4 : Hid (Nw ((v3.setCell ⟨bN, 0, none⟩ (Value.int .i64 R.1)).setCell ⟨bN, 1, none⟩ (Value.slice a5 R.2.1.length c5)) u.heap.size a5 R.2.1) := ((NW3.out.set XN3.out (by decide) 0 _).set (XN3.out.set 0 _) (by decide) 1 _)
    generalize (v3.setCell ⟨bN, 0, none⟩ (Value.int .i64 R.1)).setCell ⟨bN, 1, none⟩ (Value.slice a5 R.2.1.length c5) = v4 at *
    clear e8 e9 f8 f9
    have hs4 : Hid ((fun z => S7 u.heap.size op vr A B bw wa wl wc ka kl kc z) v4) := ⟨XA4.out.cell 0, XA4.out.cell 1, XA4.out.cell 2, XA4.out.cell 3, XA4.out.cell 4, XA4.out.cell 5, XA4.out.cell 6⟩
    refine hK _ _ (Sx.behind (by kernel_rfl) hs4.out) ?_
    clear hK K
    try go_simp
    refine wpAnyX_both (T := fun z => S7 u.heap.size op vr A B bw wa wl wc ka kl kc z) (i := 11) (v := Value.bool R.2.2) rfl (by kernel_rfl) (by kernel_rfl) (by kernel_rfl) (fun _ _ _ h => by first | exact h | exact h.elim | cases h.1) (by decide) (fun _ h => h.elim) (fun _ h => h) (Sx.behind (by kernel_rfl) hs4.out) (Or.inl ⟨by rfl, fun z hz => by obtain ⟨e0, e1, e2, e3, e4, e5, e6⟩ := hz; go_simp⟩) ?_
    try go_simp
    refine wpAnyX_done (by kernel_rfl) ?_ _
    have q0 := XN4.out.cell 0
    have q1 := XN4.out.cell 1
    have r0 := XR4.out.cell 0
    have r1 := XR4.out.cell 1
    have f0 := XR4.out.froz 0
    have f1 := XR4.out.froz 1
    simp at q0 q1 r0 r1
    go_wp2_with fail
    obtain ⟨y0, y1⟩ := ((Bz.blk XR4.out).put0' (.int .i64 R.1)).put1' (.slice a5 R.2.1.length c5) |>.cells
    exact bodyPost_ret (v := Value.agg #[Value.int .i64 R.1, Value.slice a5 R.2.1.length c5]) (by simp [results, Tryz.results135, go_sem, y0, y1]) rfl (RetV.box (Bz.blk XR4.out) NW4.out (Nat.le_refl _) (Nat.le_succ _) BW4.out)

set_option maxHeartbeats 4000000 in
set_option maxRecDepth 100000 in
theorem evRep_any (eb : Nat) (vs l : List Bw) (n : Tc) (wa ka : Option Addr) (wc kc : Nat) (u : World) (hE : Evl u eb vs l) (hk : RdI u ka n.ks) (h1 : n.ks.length = 1) (j : Nat) (x : Bw) (hj : n.ks.getD 0 0 = (j : Int)) (hx : l[j]? = some x) :
    Calls Tryz.prog 137 #[.pointer (some ⟨eb, 0, none⟩), nodA n wa ka wc kc] u (RetV u (two (repR x.wd x.ws n.a))) := by
  have HKID := kide (fun v (hv : Below u.heap.size u v) => kid_any eb vs l n wa ka wc kc v (hE.later hv) (hk.later hv) h1 j x hj hx)
  have hxr : Rd u x.a x.ws := by
    obtain ⟨aa, ac, -, ha⟩ := hE.ahd
    obtain ⟨-, h | ⟨ab, ao, rfl, hac⟩⟩ := ha
    · rw [h] at hx; simp at hx
    exact (hac j x hx).2.2.1
  have HOP := kide (fun v (hv : Below u.heap.size u v) => implRep_any x.wd x.a x.c x.ws n.a v (hxr.later hv))
  generalize hR : repR x.wd x.ws n.a = R at *
  clear hR hE hk hj hx hxr h1
  obtain ⟨op, vr, A, B, bw, ws, ks⟩ := n
  obtain ⟨wd, xa, xc, xs⟩ := x
  simp only [nodA, RetB] at *
  generalize ws.length = wl at *
  generalize ks.length = kl at *
  generalize xs.length = xl at *
  have XA : Hid (Bz ((u.alloc (Obj.cells #[Value.int .i64 op, Value.int .i64 vr, Value.int .i64 A, Value.int .i64 B, Value.int .i64 bw, Value.slice wa wl wc, Value.slice ka kl kc] 63)).alloc (Obj.cells #[Value.int .i64 0, Value.slice none 0 0] 61)) u.heap.size #[Value.int .i64 op, Value.int .i64 vr, Value.int .i64 A, Value.int .i64 B, Value.int .i64 bw, Value.slice wa wl wc, Value.slice ka kl kc] 63) := (Bz.new u #[Value.int .i64 op, Value.int .i64 vr, Value.int .i64 A, Value.int .i64 B, Value.int .i64 bw, Value.slice wa wl wc, Value.slice ka kl kc] 63).later ((Below.refl _ _).alloc (Nat.le_refl _) _)
  have XR : Hid (Bz ((u.alloc (Obj.cells #[Value.int .i64 op, Value.int .i64 vr, Value.int .i64 A, Value.int .i64 B, Value.int .i64 bw, Value.slice wa wl wc, Value.slice ka kl kc] 63)).alloc (Obj.cells #[Value.int .i64 0, Value.slice none 0 0] 61)) (u.heap.size + 1) #[Value.int .i64 0, Value.slice none 0 0] 61) := by
    have := Bz.new (u.alloc (Obj.cells #[Value.int .i64 op, Value.int .i64 vr, Value.int .i64 A, Value.int .i64 B, Value.int .i64 bw, Value.slice wa wl wc, Value.slice ka kl kc] 63)) #[Value.int .i64 0, Value.slice none 0 0] 61
    rw [World.size_alloc] at this
    exact this
  have BW : Hid (Below u.heap.size u ((u.alloc (Obj.cells #[Value.int .i64 op, Value.int .i64 vr, Value.int .i64 A, Value.int .i64 B, Value.int .i64 bw, Value.slice wa wl wc, Value.slice ka kl kc] 63)).alloc (Obj.cells #[Value.int .i64 0, Value.slice none 0 0] 61))) := Ba (Ba (Below.refl _ _) _) _
  go_enter Tryz.func137, Tryz.ntmps137
  go_wp2_with fail
  generalize ((u.alloc (Obj.cells #[Value.int .i64 op, Value.int .i64 vr, Value.int .i64 A, Value.int .i64 B, Value.int .i64 bw, Value.slice wa wl wc, Value.slice ka kl kc] 63)).alloc (Obj.cells #[Value.int .i64 0, Value.slice none 0 0] 61)) = w1 at *
  refine wp_region_x (SA := fun _ => False) (SB := fun z => S7 u.heap.size op vr A B bw wa wl wc ka kl kc z) (k := 999) (by kernel_rfl) ?_
  have hbd : Below w1.heap.size w1 w1.drew := (Below.refl _ _).drew
  have XA0 := kide (XA.out.later hbd)
  have XR0 := kide (XR.out.later hbd)
  have BW0 := kide (BW.out.drew)
  clear hbd XA XR BW
  generalize w1.drew = v0 at *
  have hs0 : Hid ((fun z => S7 u.heap.size op vr A B bw wa wl wc ka kl kc z) v0) := ⟨XA0.out.cell 0, XA0.out.cell 1, XA0.out.cell 2, XA0.out.cell 3, XA0.out.cell 4, XA0.out.cell 5, XA0.out.cell 6⟩
  try go_simp
  refine wpAnyX_both (T := fun z => S7 u.heap.size op vr A B bw wa wl wc ka kl kc z) (i := 0) (v := Value.pointer (some ⟨eb, 0, none⟩)) rfl (by kernel_rfl) (by kernel_rfl) (by kernel_rfl) (fun _ _ _ h => by first | exact h | exact h.elim | cases h.1) (by decide) (fun _ h => h.elim) (fun _ h => h) (Sx.behind (by kernel_rfl) hs0.out) (Or.inl ⟨by rfl, fun z hz => by obtain ⟨e0, e1, e2, e3, e4, e5, e6⟩ := hz; go_simp⟩) ?_
  try go_simp
  refine wpAnyX_both (T := fun z => S7 u.heap.size op vr A B bw wa wl wc ka kl kc z) (i := 1) (v := Value.agg #[Value.int .i64 op, Value.int .i64 vr, Value.int .i64 A, Value.int .i64 B, Value.int .i64 bw, Value.slice wa wl wc, Value.slice ka kl kc]) rfl (by kernel_rfl) (by kernel_rfl) (by kernel_rfl) (fun _ _ _ h => by first | exact h | exact h.elim | cases h.1) (by decide) (fun _ h => h.elim) (fun _ h => h) (Sx.behind (by kernel_rfl) hs0.out) (Or.inl ⟨by rfl, fun z hz => by obtain ⟨e0, e1, e2, e3, e4, e5, e6⟩ := hz; go_simp⟩) ?_
  try go_simp
  refine wpAnyX_both (T := fun z => S7 u.heap.size op vr A B bw wa wl wc ka kl kc z) (i := 3) (v := Value.pointer (some ⟨u.heap.size, 2, none⟩)) rfl (by kernel_rfl) (by kernel_rfl) (by kernel_rfl) (fun _ _ _ h => by first | exact h | exact h.elim | cases h.1) (by decide) (fun _ h => h.elim) (fun _ h => h) (Sx.behind (by kernel_rfl) hs0.out) (Or.inl ⟨by rfl, fun z hz => by obtain ⟨e0, e1, e2, e3, e4, e5, e6⟩ := hz; go_simp⟩) ?_
  try go_simp
  refine wpAnyX_both (T := fun z => S7 u.heap.size op vr A B bw wa wl wc ka kl kc z) (i := 4) (v := Value.int .i64 A) rfl (by kernel_rfl) (by kernel_rfl) (by kernel_rfl) (fun _ _ _ h => by first | exact h | exact h.elim | cases h.1) (by decide) (fun _ h => h.elim) (fun _ h => h) (Sx.behind (by kernel_rfl) hs0.out) (Or.inl ⟨by rfl, fun z hz => by obtain ⟨e0, e1, e2, e3, e4, e5, e6⟩ := hz; go_simp⟩) ?_
  try go_simp
  refine wpAnyX_ready (rs := [2, 9]) (by kernel_rfl) (by simp) (AllX.cons rfl (fun K hK => ?_) (AllX.cons rfl (fun K hK => ?_) AllX.nil))
  · go_simp
    refine Calls.mono (HKID.out v0 BW0.out) ?_
    rintro e v1 ⟨rfl, hb1⟩
    have XA1 := kide (XA0.out.later hb1)
    have XR1 := kide (XR0.out.later hb1)
    have BW1 := kide (BW0.out.trans (hb1.mono BW0.out.size))
    clear hb1
    have hs1 : Hid ((fun z => S7 u.heap.size op vr A B bw wa wl wc ka kl kc z) v1) := ⟨XA1.out.cell 0, XA1.out.cell 1, XA1.out.cell 2, XA1.out.cell 3, XA1.out.cell 4, XA1.out.cell 5, XA1.out.cell 6⟩
    refine hK _ _ (Sx.behind (by kernel_rfl) hs1.out) ?_
    clear hK K
    try go_simp
    refine wpAnyX_ready (rs := [5, 9]) (by kernel_rfl) (by simp) (AllX.cons rfl (fun K hK => ?_) (AllX.cons rfl (fun K hK => ?_) AllX.nil))
    · go_simp
      refine Calls.mono (HOP.out v1 BW1.out) ?_
      rintro e v2 ⟨a5, c5, rfl, hf2, hb2⟩
      have XA2 := kide (XA1.out.later hb2)
      have XR2 := kide (XR1.out.later hb2)
      have BW2 := kide (BW1.out.trans (hb2.mono BW1.out.size))
      have NW2 := kide ((Fresh.nwE hf2).mono (lo' := u.heap.size) BW1.out.size)
      clear hb2 hf2
      have hs2 : Hid ((fun z => S7 u.heap.size op vr A B bw wa wl wc ka kl kc z) v2) := ⟨XA2.out.cell 0, XA2.out.cell 1, XA2.out.cell 2, XA2.out.cell 3, XA2.out.cell 4, XA2.out.cell 5, XA2.out.cell 6⟩
      refine hK _ _ (Sx.behind (by kernel_rfl) hs2.out) ?_
      clear hK K
      try go_simp
      refine wpAnyX_both (T := fun z => S7 u.heap.size op vr A B bw wa wl wc ka kl kc z) (i := 6) (v := Value.tuple #[Value.agg #[Value.int .i64 R.1, Value.slice a5 R.2.1.length c5], Value.bool R.2.2]) rfl (by kernel_rfl) (by kernel_rfl) (by kernel_rfl) (fun _ _ _ h => by first | exact h | exact h.elim | cases h.1) (by decide) (fun _ h => h.elim) (fun _ h => h) (Sx.behind (by kernel_rfl) hs2.out) (Or.inl ⟨by rfl, fun z hz => by obtain ⟨e0, e1, e2, e3, e4, e5, e6⟩ := hz; go_simp⟩) ?_
      try go_simp
      refine wpAnyX_both (T := fun z => S7 u.heap.size op vr A B bw wa wl wc ka kl kc z) (i := 7) (v := Value.agg #[Value.int .i64 R.1, Value.slice a5 R.2.1.length c5]) rfl (by kernel_rfl) (by kernel_rfl) (by kernel_rfl) (fun _ _ _ h => by first | exact h | exact h.elim | cases h.1) (by decide) (fun _ h => h.elim) (fun _ h => h) (Sx.behind (by kernel_rfl) hs2.out) (Or.inl ⟨by rfl, fun z hz => by obtain ⟨e0, e1, e2, e3, e4, e5, e6⟩ := hz; go_simp⟩) ?_
      try go_simp
      refine wpAnyX_both (T := fun z => S7 u.heap.size op vr A B bw wa wl wc ka kl kc z) (i := 8) (v := Value.bool R.2.2) rfl (by kernel_rfl) (by kernel_rfl) (by kernel_rfl) (fun _ _ _ h => by first | exact h | exact h.elim | cases h.1) (by decide) (fun _ h => h.elim) (fun _ h => h) (Sx.behind (by kernel_rfl) hs2.out) (Or.inl ⟨by rfl, fun z hz => by obtain ⟨e0, e1, e2, e3, e4, e5, e6⟩ := hz; go_simp⟩) ?_
      try go_simp
      refine wpAnyX_ready (rs := [9]) (by kernel_rfl) (by simp) (AllX.cons rfl (fun K hK => ?_) AllX.nil)
      go_simp
      have hbx : Below v2.heap.size v2 (v2.alloc (Obj.cells #[Value.int .i64 0, Value.slice none 0 0] 61)) := (Below.refl _ _).alloc (Nat.le_refl _) _
      have XA3 := kide (XA2.out.later hbx)
      have XR3 := kide (XR2.out.later hbx)
      have BW3 := kide (BW2.out.trans (hbx.mono BW2.out.size))
      have NW3 := kide (NW2.out.later hbx)
      have XN3 := kide (Bz.new v2 #[Value.int .i64 0, Value.slice none 0 0] 61)
      have hNbN : Hid (u.heap.size + 2 ≤ v2.heap.size) := by have := XR2.out.lt; show _ ≤ _; omega
      obtain ⟨bN, hbbN⟩ : ∃ x, v2.heap.size = x := ⟨_, rfl⟩
      rw [hbbN] at XN3 hNbN ⊢
      clear hbbN hbx
      generalize v2.alloc (Obj.cells #[Value.int .i64 0, Value.slice none 0 0] 61) = v3 at *
      have hs3 : Hid ((fun z => S7 u.heap.size op vr A B bw wa wl wc ka kl kc z) v3) := ⟨XA3.out.cell 0, XA3.out.cell 1, XA3.out.cell 2, XA3.out.cell 3, XA3.out.cell 4, XA3.out.cell 5, XA3.out.cell 6⟩
      refine hK _ _ (Sx.behind (by kernel_rfl) hs3.out) ?_
      clear hK K
      try go_simp
      refine wpAnyX_ready (rs := [10]) (by kernel_rfl) (by simp) (AllX.cons rfl (fun K hK => ?_) AllX.nil)
      have e8 := XN3.out.cell 0
      have e9 := XN3.out.cell 1
      have f8 := XN3.out.froz 0
      have f9 := XN3.out.froz 1
      simp at e8 e9
      go_simp
      have XN4 : Hid (Bz ((v3.setCell ⟨bN, 0, none⟩ (Value.int .i64 R.1)).setCell ⟨bN, 1, none⟩ (Value.slice a5 R.2.1.length c5)) bN #[Value.int .i64 R.1, Value.slice a5 R.2.1.length c5] 61) := (XN3.out.set 0 _).set 1 _
      have XA4 : Hid (Bz ((v3.setCell ⟨bN, 0, none⟩ (Value.int .i64 R.1)).setCell ⟨bN, 1, none⟩ (Value.slice a5 R.2.1.length c5)) (u.heap.size) #[Value.int .i64 op, Value.int .i64 vr, Value.int .i64 A, Value.int .i64 B, Value.int .i64 bw, Value.slice wa wl wc, Value.slice ka kl kc] 63) := (XA3.out.other (by have := hNbN.out; omega) 0 _).other (by have := hNbN.out; omega) 1 _
      have XR4 : Hid (Bz ((v3.setCell ⟨bN, 0, none⟩ (Value.int .i64 R.1)).setCell ⟨bN, 1, none⟩ (Value.slice a5 R.2.1.length c5)) (u.heap.size + 1) #[Value.int .i64 0, Value.slice none 0 0] 61) := (XR3.out.other (by have := hNbN.out; omega) 0 _).other (by have := hNbN.out; omega) 1 _
      have BW4 : Hid (Below u.heap.size u ((v3.setCell ⟨bN, 0, none⟩ (Value.int .i64 R.1)).setCell ⟨bN, 1, none⟩ (Value.slice a5 R.2.1.length c5))) := (BW3.out.setCell (show u.heap.size ≤ bN by have := hNbN.out; omega) _).setCell (show u.heap.size ≤ bN by have := hNbN.out; omega) _
      have NW4 : Hid (Nw ((v3.setCell ⟨bN, 0, none⟩ (Value.int .i64 R.1)).setCell ⟨bN, 1, none⟩ (Value.slice a5 R.2.1.length c5)) u.heap.size a5 R.2.1) := ((NW3.out.set XN3.out (by decide) 0 _).set (XN3.out.set 0 _) (by decide) 1 _)
      generalize (v3.setCell ⟨bN, 0, none⟩ (Value.int .i64 R.1)).setCell ⟨bN, 1, none⟩ (Value.slice a5 R.2.1.length c5) = v4 at *
      clear e8 e9 f8 f9
      have hs4 : Hid ((fun z => S7 u.heap.size op vr A B bw wa wl wc ka kl kc z) v4) := ⟨XA4.out.cell 0, XA4.out.cell 1, XA4.out.cell 2, XA4.out.cell 3, XA4.out.cell 4, XA4.out.cell 5, XA4.out.cell 6⟩
      refine hK _ _ (Sx.behind (by kernel_rfl) hs4.out) ?_
      clear hK K
      try go_simp
      refine wpAnyX_both (T := fun z => S7 u.heap.size op vr A B bw wa wl wc ka kl kc z) (i := 11) (v := Value.bool R.2.2) rfl (by kernel_rfl) (by kernel_rfl) (by kernel_rfl) (fun _ _ _ h => by first | exact h | exact h.elim | cases h.1) (by decide) (fun _ h => h.elim) (fun _ h => h) (Sx.behind (by kernel_rfl) hs4.out) (Or.inl ⟨by rfl, fun z hz => by obtain ⟨e0, e1, e2, e3, e4, e5, e6⟩ := hz; go_simp⟩) ?_
      try go_simp
      refine wpAnyX_done (by kernel_rfl) ?_ _
      have q0 := XN4.out.cell 0
      have q1 := XN4.out.cell 1
      have r0 := XR4.out.cell 0
      have r1 := XR4.out.cell 1
      have f0 := XR4.out.froz 0
      have f1 := XR4.out.froz 1
      simp at q0 q1 r0 r1
      go_wp2_with fail
      obtain ⟨y0, y1⟩ := ((Bz.blk XR4.out).put0' (.int .i64 R.1)).put1' (.slice a5 R.2.1.length c5) |>.cells
      exact bodyPost_ret (v := Value.agg #[Value.int .i64 R.1, Value.slice a5 R.2.1.length c5]) (by simp [results, Tryz.results137, go_sem, y0, y1]) rfl (RetV.box (Bz.blk XR4.out) NW4.out (Nat.le_refl _) (Nat.le_succ _) BW4.out)
    · go_simp
      have hbx : Below v1.heap.size v1 (v1.alloc (Obj.cells #[Value.int .i64 0, Value.slice none 0 0] 61)) := (Below.refl _ _).alloc (Nat.le_refl _) _
      have XA2 := kide (XA1.out.later hbx)
      have XR2 := kide (XR1.out.later hbx)
      have BW2 := kide (BW1.out.trans (hbx.mono BW1.out.size))
      have XN2 := kide (Bz.new v1 #[Value.int .i64 0, Value.slice none 0 0] 61)
      have hNbN : Hid (u.heap.size + 2 ≤ v1.heap.size) := by have := XR1.out.lt; show _ ≤ _; omega
      obtain ⟨bN, hbbN⟩ : ∃ x, v1.heap.size = x := ⟨_, rfl⟩
      rw [hbbN] at XN2 hNbN ⊢
      clear hbbN hbx
      generalize v1.alloc (Obj.cells #[Value.int .i64 0, Value.slice none 0 0] 61) = v2 at *
      have hs2 : Hid ((fun z => S7 u.heap.size op vr A B bw wa wl wc ka kl kc z) v2) := ⟨XA2.out.cell 0, XA2.out.cell 1, XA2.out.cell 2, XA2.out.cell 3, XA2.out.cell 4, XA2.out.cell 5, XA2.out.cell 6⟩
      refine hK _ _ (Sx.behind (by kernel_rfl) hs2.out) ?_
      clear hK K
      try go_simp
      refine wpAnyX_ready (rs := [5]) (by kernel_rfl) (by simp) (AllX.cons rfl (fun K hK => ?_) AllX.nil)
      go_simp
      refine Calls.mono (HOP.out v2 BW2.out) ?_
      rintro e v3 ⟨a5, c5, rfl, hf3, hb3⟩
      have XA3 := kide (XA2.out.later hb3)
      have XR3 := kide (XR2.out.later hb3)
      have XN3 := kide (XN2.out.later hb3)
      have BW3 := kide (BW2.out.trans (hb3.mono BW2.out.size))
      have NW3 := kide ((Fresh.nwE hf3).mono (lo' := u.heap.size) BW2.out.size)
      clear hb3 hf3
      have hs3 : Hid ((fun z => S7 u.heap.size op vr A B bw wa wl wc ka kl kc z) v3) := ⟨XA3.out.cell 0, XA3.out.cell 1, XA3.out.cell 2, XA3.out.cell 3, XA3.out.cell 4, XA3.out.cell 5, XA3.out.cell 6⟩
      refine hK _ _ (Sx.behind (by kernel_rfl) hs3.out) ?_
      clear hK K
      try go_simp
      refine wpAnyX_both (T := fun z => S7 u.heap.size op vr A B bw wa wl wc ka kl kc z) (i := 6) (v := Value.tuple #[Value.agg #[Value.int .i64 R.1, Value.slice a5 R.2.1.length c5], Value.bool R.2.2]) rfl (by kernel_rfl) (by kernel_rfl) (by kernel_rfl) (fun _ _ _ h => by first | exact h | exact h.elim | cases h.1) (by decide) (fun _ h => h.elim) (fun _ h => h) (Sx.behind (by kernel_rfl) hs3.out) (Or.inl ⟨by rfl, fun z hz => by obtain ⟨e0, e1, e2, e3, e4, e5, e6⟩ := hz; go_simp⟩) ?_
      try go_simp
      refine wpAnyX_both (T := fun z => S7 u.heap.size op vr A B bw wa wl wc ka kl kc z) (i := 7) (v := Value.agg #[Value.int .i64 R.1, Value.slice a5 R.2.1.length c5]) rfl (by kernel_rfl) (by kernel_rfl) (by kernel_rfl) (fun _ _ _ h => by first | exact h | exact h.elim | cases h.1) (by decide) (fun _ h => h.elim) (fun _ h => h) (Sx.behind (by kernel_rfl) hs3.out) (Or.inl ⟨by rfl, fun z hz => by obtain ⟨e0, e1, e2, e3, e4, e5, e6⟩ := hz; go_simp⟩) ?_
      try go_simp
      refine wpAnyX_both (T := fun z => S7 u.heap.size op vr A B bw wa wl wc ka kl kc z) (i := 8) (v := Value.bool R.2.2) rfl (by kernel_rfl) (by kernel_rfl) (by kernel_rfl) (fun _ _ _ h => by first | exact h | exact h.elim | cases h.1) (by decide) (fun _ h => h.elim) (fun _ h => h) (Sx.behind (by kernel_rfl) hs3.out) (Or.inl ⟨by rfl, fun z hz => by obtain ⟨e0, e1, e2, e3, e4, e5, e6⟩ := hz; go_simp⟩) ?_
      try go_simp
      refine wpAnyX_ready (rs := [10]) (by kernel_rfl) (by simp) (AllX.cons rfl (fun K hK => ?_) AllX.nil)
      have e8 := XN3.out.cell 0
      have e9 := XN3.out.cell 1
      have f8 := XN3.out.froz 0
      have f9 := XN3.out.froz 1
      simp at e8 e9
      go_simp
      have XN4 : Hid (Bz ((v3.setCell ⟨bN, 0, none⟩ (Value.int .i64 R.1)).setCell ⟨bN, 1, none⟩ (Value.slice a5 R.2.1.length c5)) bN #[Value.int .i64 R.1, Value.slice a5 R.2.1.length c5] 61) := (XN3.out.set 0 _).set 1 _
      have XA4 : Hid (Bz ((v3.setCell ⟨bN, 0, none⟩ (Value.int .i64 R.1)).setCell ⟨bN, 1, none⟩ (Value.slice a5 R.2.1.length c5)) (u.heap.size) #[Value.int .i64 op, Value.int .i64 vr, Value.int .i64 A, Value.int .i64 B, Value.int .i64 bw, Value.slice wa wl wc, Value.slice ka kl kc] 63) := (XA3.out.other (by have := hNbN.out; omega) 0 _).other (by have := hNbN.out; omega) 1 _
      have XR4 : Hid (Bz ((v3.setCell ⟨bN, 0, none⟩ (Value.int .i64 R.1)).setCell ⟨bN, 1, none⟩ (Value.slice a5 R.2.1.length c5)) (u.heap.size + 1) #[Value.int .i64 0, Value.slice none 0 0] 61) := (XR3.out.other (by have := hNbN.out; omega) 0 _).other (by have := hNbN.out; omega) 1 _
      have BW4 : Hid (Below u.heap.size u ((v3.setCell ⟨bN, 0, none⟩ (Value.int .i64 R.1)).setCell ⟨bN, 1, none⟩ (Value.slice a5 R.2.1.length c5))) := (BW3.out.setCell (show u.heap.size ≤ bN by have := hNbN.out; omega) _).setCell (show u.heap.size ≤ bN by have := hNbN.out; omega) _
      have NW4 : Hid (Nw ((v3.setCell ⟨bN, 0, none⟩ (Value.int .i64 R.1)).setCell ⟨bN, 1, none⟩ (Value.slice a5 R.2.1.length c5)) u.heap.size a5 R.2.1) := ((NW3.out.set XN3.out (by decide) 0 _).set (XN3.out.set 0 _) (by decide) 1 _)
      generalize (v3.setCell ⟨bN, 0, none⟩ (Value.int .i64 R.1)).setCell ⟨bN, 1, none⟩ (Value.slice a5 R.2.1.length c5) = v4 at *
      clear e8 e9 f8 f9
      have hs4 : Hid ((fun z => S7 u.heap.size op vr A B bw wa wl wc ka kl kc z) v4) := ⟨XA4.out.cell 0, XA4.out.cell 1, XA4.out.cell 2, XA4.out.cell 3, XA4.out.cell 4, XA4.out.cell 5, XA4.out.cell 6⟩
      refine hK _ _ (Sx.behind (by kernel_rfl) hs4.out) ?_
      clear hK K
      try go_simp
      refine wpAnyX_both (T := fun z => S7 u.heap.size op vr A B bw wa wl wc ka kl kc z) (i := 11) (v := Value.bool R.2.2) rfl (by kernel_rfl) (by kernel_rfl) (by kernel_rfl) (fun _ _ _ h => by first | exact h | exact h.elim | cases h.1) (by decide) (fun _ h => h.elim) (fun _ h => h) (Sx.behind (by kernel_rfl) hs4.out) (Or.inl ⟨by rfl, fun z hz => by obtain ⟨e0, e1, e2, e3, e4, e5, e6⟩ := hz; go_simp⟩) ?_
      try go_simp
      refine wpAnyX_done (by kernel_rfl) ?_ _
      have q0 := XN4.out.cell 0
      have q1 := XN4.out.cell 1
      have r0 := XR4.out.cell 0
      have r1 := XR4.out.cell 1
      have f0 := XR4.out.froz 0
      have f1 := XR4.out.froz 1
      simp at q0 q1 r0 r1
      go_wp2_with fail
      obtain ⟨y0, y1⟩ := ((Bz.blk XR4.out).put0' (.int .i64 R.1)).put1' (.slice a5 R.2.1.length c5) |>.cells
      exact bodyPost_ret (v := Value.agg #[Value.int .i64 R.1, Value.slice a5 R.2.1.length c5]) (by simp [results, Tryz.results137, go_sem, y0, y1]) rfl (RetV.box (Bz.blk XR4.out) NW4.out (Nat.le_refl _) (Nat.le_succ _) BW4.out)
  · go_simp
    have hbx : Below v0.heap.size v0 (v0.alloc (Obj.cells #[Value.int .i64 0, Value.slice none 0 0] 61)) := (Below.refl _ _).alloc (Nat.le_refl _) _
    have XA1 := kide (XA0.out.later hbx)
    have XR1 := kide (XR0.out.later hbx)
    have BW1 := kide (BW0.out.trans (hbx.mono BW0.out.size))
    have XN1 := kide (Bz.new v0 #[Value.int .i64 0, Value.slice none 0 0] 61)
    have hNbN : Hid (u.heap.size + 2 ≤ v0.heap.size) := by have := XR0.out.lt; show _ ≤ _; omega
    obtain ⟨bN, hbbN⟩ : ∃ x, v0.heap.size = x := ⟨_, rfl⟩
    rw [hbbN] at XN1 hNbN ⊢
    clear hbbN hbx
    generalize v0.alloc (Obj.cells #[Value.int .i64 0, Value.slice none 0 0] 61) = v1 at *
    have hs1 : Hid ((fun z => S7 u.heap.size op vr A B bw wa wl wc ka kl kc z) v1) := ⟨XA1.out.cell 0, XA1.out.cell 1, XA1.out.cell 2, XA1.out.cell 3, XA1.out.cell 4, XA1.out.cell 5, XA1.out.cell 6⟩
    refine hK _ _ (Sx.behind (by kernel_rfl) hs1.out) ?_
    clear hK K
    try go_simp
    refine wpAnyX_ready (rs := [2]) (by kernel_rfl) (by simp) (AllX.cons rfl (fun K hK => ?_) AllX.nil)
    go_simp
    refine Calls.mono (HKID.out v1 BW1.out) ?_
    rintro e v2 ⟨rfl, hb2⟩
    have XA2 := kide (XA1.out.later hb2)
    have XR2 := kide (XR1.out.later hb2)
    have XN2 := kide (XN1.out.later hb2)
    have BW2 := kide (BW1.out.trans (hb2.mono BW1.out.size))
    clear hb2
    have hs2 : Hid ((fun z => S7 u.heap.size op vr A B bw wa wl wc ka kl kc z) v2) := ⟨XA2.out.cell 0, XA2.out.cell 1, XA2.out.cell 2, XA2.out.cell 3, XA2.out.cell 4, XA2.out.cell 5, XA2.out.cell 6⟩
    refine hK _ _ (Sx.behind (by kernel_rfl) hs2.out) ?_
    clear hK K
    try go_simp
    refine wpAnyX_ready (rs := [5]) (by kernel_rfl) (by simp) (AllX.cons rfl (fun K hK => ?_) AllX.nil)
    go_simp
    refine Calls.mono (HOP.out v2 BW2.out) ?_
    rintro e v3 ⟨a5, c5, rfl, hf3, hb3⟩
    have XA3 := kide (XA2.out.later hb3)
    have XR3 := kide (XR2.out.later hb3)
    have XN3 := kide (XN2.out.later hb3)
    have BW3 := kide (BW2.out.trans (hb3.mono BW2.out.size))
    have NW3 := kide ((Fresh.nwE hf3).mono (lo' := u.heap.size) BW2.out.size)
    clear hb3 hf3
    have hs3 : Hid ((fun z => S7 u.heap.size op vr A B bw wa wl wc ka kl kc z) v3) := ⟨XA3.out.cell 0, XA3.out.cell 1, XA3.out.cell 2, XA3.out.cell 3, XA3.out.cell 4, XA3.out.cell 5, XA3.out.cell 6⟩
    refine hK _ _ (Sx.behind (by kernel_rfl) hs3.out) ?_
    clear hK K
    try go_simp
    refine wpAnyX_both (T := fun z => S7 u.heap.size op vr A B bw wa wl wc ka kl kc z) (i := 6) (v := Value.tuple #[Value.agg #[Value.int .i64 R.1, Value.slice a5 R.2.1.length c5], Value.bool R.2.2]) rfl (by kernel_rfl) (by kernel_rfl) (by kernel_rfl) (fun _ _ _ h => by first | exact h | exact h.elim | cases h.1) (by decide) (fun _ h => h.elim) (fun _ h => h) (Sx.behind (by kernel_rfl) hs3.out) (Or.inl ⟨by rfl, fun z hz => by obtain ⟨e0, e1, e2, e3, e4, e5, e6⟩ := hz; go_simp⟩) ?_
    try go_simp
    refine wpAnyX_both (T := fun z => S7 u.heap.size op vr A B bw wa wl wc ka kl kc z) (i := 7) (v := Value.agg #[Value.int .i64 R.1, Value.slice a5 R.2.1.length c5]) rfl (by kernel_rfl) (by kernel_rfl) (by kernel_rfl) (fun _ _ _ h => by first | exact h | exact h.elim | cases h.1) (by decide) (fun _ h => h.elim) (fun _ h => h) (Sx.behind (by kernel_rfl) hs3.out) (Or.inl ⟨by rfl, fun z hz => by obtain ⟨e0, e1, e2, e3, e4, e5, e6⟩ := hz; go_simp⟩) ?_
    try go_simp
    refine wpAnyX_both (T := fun z => S7 u.heap.size op vr A B bw wa wl wc ka kl kc z) (i := 8) (v := Value.bool R.2.2) rfl (by kernel_rfl) (by kernel_rfl) (by kernel_rfl) (fun _ _ _ h => by first | exact h | exact h.elim | cases h.1) (by decide) (fun _ h => h.elim) (fun _ h => h) (Sx.behind (by kernel_rfl) hs3.out) (Or.inl ⟨by rfl, fun z hz => by obtain ⟨e0, e1, e2, e3, e4, e5, e6⟩ := hz; go_simp⟩) ?_
    try go_simp
    refine wpAnyX_ready (rs := [10]) (by kernel_rfl) (by simp) (AllX.cons rfl (fun K hK => ?_) AllX.nil)
    have e8 := XN3.out.cell 0
    have e9 := XN3.out.cell 1
    have f8 := XN3.out.froz 0
    have f9 := XN3.out.froz 1
    simp at e8 e9
    go_simp
    have XN4 : Hid (Bz ((v3.setCell ⟨bN, 0, none⟩ (Value.int .i64 R.1)).setCell ⟨bN, 1, none⟩ (Value.slice a5 R.2.1.length c5)) bN #[Value.int .i64 R.1, Value.slice a5 R.2.1.length c5] 61) := (XN3.out.set 0 _).set 1 _
    have XA4 : Hid (Bz ((v3.setCell ⟨bN, 0, none⟩ (Value.int .i64 R.1)).setCell ⟨bN, 1, none⟩ (Value.slice a5 R.2.1.length c5)) (u.heap.size) #[Value.int .i64 op, Value.int .i64 vr, Value.int .i64 A, Value.int .i64 B, Value.int .i64 bw, Value.slice wa wl wc, Value.slice ka kl kc] 63) := (XA3.out.other (by have := hNbN.out; omega) 0 _).other (by have := hNbN.out; omega) 1 _
    have XR4 : Hid (Bz ((v3.setCell ⟨bN, 0, none⟩ (Value.int .i64 R.1)).setCell ⟨bN, 1, none⟩ (Value.slice a5 R.2.1.length c5)) (u.heap.size + 1) #[Value.int .i64 0, Value.slice none 0 0] 61) := (XR3.out.other (by have := hNbN.out; omega) 0 _).other (by have := hNbN.out; omega) 1 _
    have BW4 : Hid (Below u.heap.size u ((v3.setCell ⟨bN, 0, none⟩ (Value.int .i64 R.1)).setCell ⟨bN, 1, none⟩ (Value.slice a5 R.2.1.length c5))) := (BW3.out.setCell (show u.heap.size ≤ bN by have := hNbN.out; omega) _).setCell (show u.heap.size ≤ bN by have := hNbN.out; omega) _
    have NW4 : Hid (Nw ((v3.setCell ⟨bN, 0, none⟩ (Value.int .i64 R.1)).setCell ⟨bN, 1, none⟩ (Value.slice a5 R.2.1.length c5)) u.heap.size a5 R.2.1) := ((NW3.out.set XN3.out (by decide) 0 _).set (XN3.out.set 0 _) (by decide) 1 _)
    generalize (v3.setCell ⟨bN, 0, none⟩ (Value.int .i64 R.1)).setCell ⟨bN, 1, none⟩ (Value.slice a5 R.2.1.length c5) = v4 at *
    clear e8 e9 f8 f9
    have hs4 : Hid ((fun z => S7 u.heap.size op vr A B bw wa wl wc ka kl kc z) v4) := ⟨XA4.out.cell 0, XA4.out.cell 1, XA4.out.cell 2, XA4.out.cell 3, XA4.out.cell 4, XA4.out.cell 5, XA4.out.cell 6⟩
    refine hK _ _ (Sx.behind (by kernel_rfl) hs4.out) ?_
    clear hK K
    try go_simp
    refine wpAnyX_both (T := fun z => S7 u.heap.size op vr A B bw wa wl wc ka kl kc z) (i := 11) (v := Value.bool R.2.2) rfl (by kernel_rfl) (by kernel_rfl) (by kernel_rfl) (fun _ _ _ h => by first | exact h | exact h.elim | cases h.1) (by decide) (fun _ h => h.elim) (fun _ h => h) (Sx.behind (by kernel_rfl) hs4.out) (Or.inl ⟨by rfl, fun z hz => by obtain ⟨e0, e1, e2, e3, e4, e5, e6⟩ := hz; go_simp⟩) ?_
    try go_simp
    refine wpAnyX_done (by kernel_rfl) ?_ _
    have q0 := XN4.out.cell 0
    have q1 := XN4.out.cell 1
    have r0 := XR4.out.cell 0
    have r1 := XR4.out.cell 1
    have f0 := XR4.out.froz 0
    have f1 := XR4.out.froz 1
    simp at q0 q1 r0 r1
    go_wp2_with fail
    obtain ⟨y0, y1⟩ := ((Bz.blk XR4.out).put0' (.int .i64 R.1)).put1' (.slice a5 R.2.1.length c5) |>.cells
    exact bodyPost_ret (v := Value.agg #[Value.int .i64 R.1, Value.slice a5 R.2.1.length c5]) (by simp [results, Tryz.results137, go_sem, y0, y1]) rfl (RetV.box (Bz.blk XR4.out) NW4.out (Nat.le_refl _) (Nat.le_succ _) BW4.out)

end Go.Proofs.YtdlmgndmfphneaaGreatDoor
